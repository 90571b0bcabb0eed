
/-
  Append of a row at a step of a region that draws; the model's copy of a queue.
-/
import Derived.Test.YtakiigddbdapaaaQuY
namespace Go.Proofs.Ytakiigddbdapaaa.App
open Go.RowKit
section
variable {P : Program} (w : World)
theorem run_app_any (t ty : TypeId) (base : Nat) (e : TypeId) (i : TypeInfo) (z : Value) (size bytes : Nat) (ht : P.underlying t = some (.slice e)) (hi : P.info? e = some i) (hz : i.zero = some z)
    (hsize : i.size = size) (hby : i.bytes = bytes) (hzs : z.cells.size = size) (hsz : 0 < size)
    (v : Value) (n : Nat) (xs : List Value) (hown : w.ownsRow base e size v n xs)
    (xo : Option Addr) (m c : Nat) (news : List Value) (hm : 0 < m → ∃ ad, xo = some ad ∧ ∀ j u, news[j]? = some u → w.cell? (ad.add j) = some u) (hl : news.length = m * size) (h1 : ∀ u ∈ news, u.oneCell' = true)
    (h63 : n + m ≤ 9223372036854775807) (hbytes : (n + m) * bytes ≤ 140737488355328) (hbase : base ≤ w.heap.size) :
    ∃ v' w', (Builtin.append_ #[t, t] ty #[v, .slice xo m c]).run P w = .ok v' w' ∧ w'.ownsRow base e size v' (n + m) (xs ++ news) ∧ w.grownBy w' v.ownBlock := by
  by_cases hm0 : m = 0
  · subst hm0
    have hn0 : news = [] := List.eq_nil_of_length_eq_zero (by rw [hl]; omega)
    subst hn0
    have hsrc : Src P i.size t (.slice xo 0 c) 0 [] w := by
      cases xo with
      | none => exact Src.ofNil w ht c
      | some ad => exact Src.ofSlice w ht ad 0 c [] (by simp) (fun j u h => by simp at h) (fun u h => by cases h)
    have hr : (Builtin.append_ #[t, t] ty #[v, .slice xo 0 c]).run P w = .ok v w := by
      rcases hown.2 with ⟨rfl, rfl⟩ | ⟨g, cap, cur, rfl, _, _, hnc, _⟩
      · exact run_append_nothing w t t ty e i ht hi none 0 0 (Nat.le_refl _) _ hsrc
      · exact run_append_nothing w t t ty e i ht hi _ n cap hnc _ hsrc
    exact ⟨v, w, hr, by simpa using hown, ⟨rfl, rfl, rfl, Nat.le_refl _, fun _ _ _ => rfl⟩⟩
  · obtain ⟨ad, rfl, hc⟩ := hm (by omega)
    obtain ⟨v', w', hr, h2, h3, _⟩ := run_append_own (P := P) w base t ty e i z size bytes ht hi hz hsize hby hzs hsz v n xs hown ad m c news hl hc h1 (by unfold maxLen; exact h63) hbytes hbase
    exact ⟨v', w', hr, h2, h3⟩
theorem step_app_any {ops : Array Oper} {o : Oper} {a : Act} {K : Act → World → Prop} {Q : Exit → Act → World → Prop} {E : Prop} (hgd : o.guard = none) (s x : Operand) (t : TypeId)
    (ho : o.op = .call { callee := .builtin .append, args := #[s, x], argTypes := #[t, t] })
    (base : Nat) (e : TypeId) (i : TypeInfo) (z : Value) (size bytes : Nat) (ht : P.underlying t = some (.slice e)) (hi : P.info? e = some i) (hz : i.zero = some z)
    (hsize : i.size = size) (hby : i.bytes = bytes) (hzs : z.cells.size = size) (hsz : 0 < size)
    (v : Value) (n : Nat) (xs : List Value) (hs : a.eval s = v) (hown : w.ownsRow base e size v n xs)
    (xo : Option Addr) (m c : Nat) (news : List Value) (hx : a.eval x = .slice xo m c) (hm : 0 < m → ∃ ad, xo = some ad ∧ ∀ j u, news[j]? = some u → w.cell? (ad.add j) = some u) (hl : news.length = m * size) (h1 : ∀ u ∈ news, u.oneCell' = true)
    (h63 : n + m ≤ 9223372036854775807) (hbytes : (n + m) * bytes ≤ 140737488355328) (hbase : base ≤ w.heap.size)
    (h : ∀ v' w', w.ownsRow base e size v n xs → w'.ownsRow base e size v' (n + m) (xs ++ news) → w.grownBy w' v.ownBlock → K (a.put o.dst v') w') :
    if Region.wanted o (yielded ops a.tmps) = true then Oper.wp P o a w K Q else E := by
  have hw : Region.wanted o (yielded ops a.tmps) = true := by simp [Region.wanted, hgd]
  rw [if_pos hw]
  obtain ⟨v', w', hr, h2, h3⟩ := run_app_any (P := P) w t o.type base e i z size bytes ht hi hz hsize hby hzs hsz v n xs hown xo m c news hm hl h1 h63 hbytes hbase
  unfold Oper.wp execOp
  simp only [ho, resolve, invoke, builtin, Sem.run_bind, Sem.run_pure, Result.andThen_ok, List.map_toArray, List.map_cons, List.map_nil, hs, hx, hr]
  exact h v' w' hown h2 h3
end
end Go.Proofs.Ytakiigddbdapaaa.App
namespace Go.Proofs.Ytakiigddbdapaaa.Qu
open Go.RowKit
open Go.Proofs.Ytakiigddbdapaaa.Tx
theorem Gst.gr {B : Nat} {T : TypeId} {wr wx wy : World} {row : Option Nat} (h : Gst B T wr wx) (hg : wx.grownBy wy row) (hr : ∀ g, row = some g → wr.heap.size ≤ g) (hB : B < wr.heap.size) : Gst B T wr wy := by
  obtain ⟨h1, a, b, h2⟩ := h
  refine ⟨⟨hg.os.trans h1.os, hg.tape.trans h1.tape, hg.output.trans h1.output, Nat.le_trans h1.size hg.size, fun k hk hne => (hg.block k (Nat.lt_of_lt_of_le hk h1.size) (fun e => by have := hr k e.symm; omega)).trans (h1.block k hk hne)⟩, a, b, h2.grown hg (fun e => by have := hr B e.symm; omega)⟩
theorem Gst.al {B : Nat} {T : TypeId} {wr wx : World} (h : Gst B T wr wx) (o : Obj) : Gst B T wr (wx.alloc o) := h.call ((Below.refl wx.heap.size wx).alloc (Nat.le_refl _) o)
theorem own_drew {w : World} {B s n : Nat} {T : TypeId} {v : Value} {xs : List Value} (h : w.ownsRow B T s v n xs) : w.drew.ownsRow B T s v n xs := h
theorem O4_mk {W : World} {n base : Nat} (hn : W.heap.size = n) (hb : base ≤ W.heap.size) : O4 (W.alloc (.cells #[] 38)) base (.slice (some ⟨n, 0, none⟩) 0 0) [] := by
  subst hn; exact (O4_made W).base hb
theorem O1_mk {W : World} {n base : Nat} (hn : W.heap.size = n) (hb : base ≤ W.heap.size) : O1 (W.alloc (.cells #[] 9)) base (.slice (some ⟨n, 0, none⟩) 0 0) [] := by
  subst hn; exact (O1_made W).base hb
theorem O4.of0 {w : World} {base : Nat} {v : Value} {xs : List Rep} (h : w.ownsRow base 38 4 v (0 + xs.length) ([] ++ rpC xs)) : O4 w base v xs := by
  unfold O4; rw [Nat.zero_add, List.nil_append] at h; exact h
theorem O1.of0 {w : World} {base : Nat} {v : Value} {xs : List (List UInt8)} (h : w.ownsRow base 9 1 v (0 + xs.length) ([] ++ strV xs)) : O1 w base v xs := by
  unfold O1; rw [Nat.zero_add, List.nil_append] at h; exact h
theorem rp_row {S : Nat → Prop} {w : World} {a : Option Addr} {n c : Nat} {xs : List Rep} (h : RpIn S w (.slice a n c) xs) : 0 < xs.length → ∃ ad, a = some ad ∧ ∀ j u, (rpC xs)[j]? = some u → w.cell? (ad.add j) = some u := by
  obtain ⟨a', c', e, h2⟩ := rp_news h
  injection e with e1 e2 e3
  subst e1
  exact h2
theorem tx_row {S : Nat → Prop} {w : World} {a : Option Addr} {n c : Nat} {xs : List (List UInt8)} (h : TxtsIn S w (.slice a n c) xs) : n = xs.length ∧ (0 < xs.length → ∃ ad, a = some ad ∧ ∀ j u, (strV xs)[j]? = some u → w.cell? (ad.add j) = some u) := by
  obtain ⟨a', c', e, h2⟩ := tx_news h
  injection e with e1 e2 e3
  subst e1
  exact ⟨e2, h2⟩
abbrev eA : Obj := .cells #[] 38
abbrev eB : Obj := .cells #[] 9
theorem newq_fin {W w1 wl : World} {q : Q} {a3 : Option Addr} {c3 : Nat} {a5 : Option Addr} {c5 : Nat} (BF : Below W.heap.size W w1) (hs : W.heap.size + 1 < w1.heap.size) (h4 : O4 wl w1.heap.size (.slice a3 q.items.length c3) q.items) (h5 : O1 wl w1.heap.size (.slice a5 q.recent.length c5) q.recent) (hG : Gst (W.heap.size + 1) 34 w1 wl) :
    Hd (set2 wl (W.heap.size + 1) 0 (.slice a3 q.items.length c3) (.slice a5 q.recent.length c5)) (W.heap.size + 1) (iqO (.slice a3 q.items.length c3) (.slice a5 q.recent.length c5)) ∧ NewQ W q (.returned (qV (.slice a3 q.items.length c3) (.slice a5 q.recent.length c5))) (set2 wl (W.heap.size + 1) 0 (.slice a3 q.items.length c3) (.slice a5 q.recent.length c5)) :=
  ⟨hG.row _ _, _, _, rfl, own_ch (far2 _ _) (own_base h4 BF.size) (fun b e x => by have := (World.ownsRow.lt h4 b e).1; omega), own_ch (far2 _ _) (own_base h5 BF.size) (fun b e x => by have := (World.ownsRow.lt h5 b e).1; omega), hG.store.below BF (by omega)⟩
set_option maxRecDepth 100000 in
set_option maxHeartbeats 4000000 in
theorem ownS_any (B : Nat) (w0 : World) (q : Q) (iv rv : Value) (hi : RpIn (· < B) w0 iv q.items) (hr : TxtsIn (· < B) w0 rv q.recent) (hn : q.items.length ≤ 1048576) (hn2 : q.recent.length ≤ 1048576) (W : World) (hb : Below B w0 W) (hB : B ≤ W.heap.size) :
    Calls Try.prog 21 #[qV iv rv] W (NewQ W q) := by
  obtain ⟨a1, c1, rfl⟩ := hi.slice2
  obtain ⟨a2, l2, c2, rfl⟩ := hr.slice
  obtain ⟨rfl, -⟩ := tx_row hr
  have HB := Lib.hid hb
  obtain ⟨w1, hw1⟩ : ∃ w1, w1 = (W.alloc (iqO (.slice a1 q.items.length c1) (.slice a2 q.recent.length c2))).alloc zqO := ⟨_, rfl⟩
  have HK := Lib.hid (show Hd w1 W.heap.size (iqO (.slice a1 q.items.length c1) (.slice a2 q.recent.length c2)) from hw1 ▸ (Hd.new W _).al _)
  have HG := Lib.hid (show Hd w1 (W.heap.size + 1) zqO from by
    have := Hd.new (W.alloc (iqO (.slice a1 q.items.length c1) (.slice a2 q.recent.length c2))) zqO
    rw [hw1]; simpa using this)
  have BF := Lib.hid (show Below W.heap.size W w1 from hw1 ▸ ((Below.refl W.heap.size W).alloc (Nat.le_refl _) _).alloc (by simp) _)
  have z1 := HG.out.lt
  have HALL := Lib.hid (fun wx (hg : Gst (W.heap.size + 1) 34 w1 wx) =>
    And.intro (HK.out.grown hg.1 (by simp)).two.1 (And.intro (HK.out.grown hg.1 (by simp)).two.2.1 (And.intro hg.cells (And.intro hg (show w1.heap.size ≤ wx.heap.size from hg.1.size)))))
  have HST := Lib.hid (Gst.start HG.out)
  have HBW := Lib.hid (fun wx (hg : Gst (W.heap.size + 1) 34 w1 wx) => HB.out.trans ((hg.below BF.out (by omega)).mono hB))
  have HNR := Lib.hid (fun wx (hg : Gst (W.heap.size + 1) 34 w1 wx) => rp_row (hi.blw (HBW.out wx hg)))
  have HNT := Lib.hid (fun wx (hg : Gst (W.heap.size + 1) 34 w1 wx) => (tx_row (hr.blw (HBW.out wx hg))).2)
  obtain ⟨xs, ys⟩ := q
  simp only at *
  obtain ⟨i0, hi0, hz0, hz1, hz2⟩ := info_parts Try.infoRp
  obtain ⟨j0, hj0, hy0, hy1, hy2⟩ := info_parts Try.infoTxt
  have HR1 := Lib.hid (rpC_one xs)
  have HT1 := Lib.hid (strV_one ys)
  have HFIN := Lib.hid (fun wl a3 c3 a5 c5 h4 h5 hG => newq_fin (W := W) (w1 := w1) (wl := wl) (q := ⟨xs, ys⟩) (a3 := a3) (c3 := c3) (a5 := a5) (c5 := c5) BF.out z1 h4 h5 hG)
  simp only at HFIN
  clear hb hi hr
  go_enter Try.func21, Try.ntmps21
  go_wp2_with fail
  rw [← hw1]
  clear hw1
  go_region_held3 (fun wx => wx.cell? ⟨W.heap.size, 0, none⟩ = some (.slice a1 xs.length c1) ∧ wx.cell? ⟨W.heap.size, 1, none⟩ = some (.slice a2 ys.length c2) ∧
      (wx.cell? ⟨W.heap.size + 1, 0, none⟩ = some (cellOf wx (W.heap.size + 1) 0) ∧ wx.cell? ⟨W.heap.size + 1, 1, none⟩ = some (cellOf wx (W.heap.size + 1) 1) ∧ ∀ o, wx.frozen? ⟨W.heap.size + 1, o, none⟩ = false) ∧ Gst (W.heap.size + 1) 34 w1 wx ∧ w1.heap.size ≤ wx.heap.size)
    (first
      | exact HALL.out _ HST.out
      | (go_split_ands; exact HALL.out _ (Gst.al (by assumption) _))
      | (go_split_ands; exact HALL.out _ hGA)
      | (go_split_ands; exact HALL.out _ hGB)
      | (go_split_ands; exact HALL.out _ (Gst.store (by assumption))))
    (first
      | (go_split_ands
         refine App.step_app_any _ rfl _ _ 32 rfl w1.heap.size 38 i0 _ 4 40 Try.underlying32 hi0 hz0 hz1 hz2 rfl (by omega) _ 0 [] rfl (by first | exact hA | exact O4_mk (by first | rfl | simp) (by first | omega | (simp <;> omega)) | exact own_al (O4_mk (by first | rfl | simp) (by first | omega | (simp <;> omega))) _ | exact own_drew (O4_mk (by first | rfl | simp) (by first | omega | (simp <;> omega))) | exact own_drew (own_al (O4_mk (by first | rfl | simp) (by first | omega | (simp <;> omega))) _)) a1 xs.length c1 (rpC xs) rfl (HNR.out _ (by assumption)) (by rw [rpC_len]) HR1.out (by omega) (by omega) (by assumption) ?_
         intro v4 w4 hA hA4 hgA
         have ho4 := O4.of0 hA4
         have hGA := Gst.gr (B := W.heap.size + 1) (wr := w1) (by assumption) hgA (fun g e => (World.ownsRow.lt hA g e).1) z1
         have hyA : w1.heap.size ≤ w4.heap.size := hGA.1.size
         first
          | (have hB := World.ownsRow.kept (own_drew (O1_mk (W := w1.alloc eA) (n := w1.heap.size + 1) (base := w1.heap.size) (by simp) (by simp))) hgA (own_apart (own_drew (O1_mk (W := w1.alloc eA) (n := w1.heap.size + 1) (base := w1.heap.size) (by simp) (by simp))) hA (by decide)))
          | (have hB := World.ownsRow.kept (own_drew (own_al (O1_mk (W := w1) (n := w1.heap.size) rfl (Nat.le_refl _)) eA)) hgA (own_apart (own_drew (own_al (O1_mk (W := w1) (n := w1.heap.size) rfl (Nat.le_refl _)) eA)) hA (by decide)))
          | skip
         first
          | (have ho5 := World.ownsRow.kept ho5 hgA (own_apart ho5 hA (by decide)))
          | (have ho5 := World.ownsRow.kept (own_al ho5 _) hgA (own_apart (own_al ho5 _) hA (by decide)))
          | skip
         obtain ⟨a3, c3, rfl⟩ := ho4.slice)
      | (go_split_ands
         refine App.step_app_any _ rfl _ _ 25 rfl w1.heap.size 9 j0 _ 1 16 Try.underlying25 hj0 hy0 hy1 hy2 rfl (by omega) _ 0 [] rfl (by first | exact hB | exact O1_mk (by first | rfl | simp) (by first | omega | (simp <;> omega)) | exact own_al (O1_mk (by first | rfl | simp) (by first | omega | (simp <;> omega))) _ | exact own_drew (O1_mk (by first | rfl | simp) (by first | omega | (simp <;> omega))) | exact own_drew (own_al (O1_mk (by first | rfl | simp) (by first | omega | (simp <;> omega))) _)) a2 ys.length c2 (strV ys) rfl (HNT.out _ (by assumption)) (by rw [strV_len, Nat.mul_one]) HT1.out (by omega) (by omega) (by assumption) ?_
         intro v5 w5 hB hB5 hgB
         have ho5 := O1.of0 hB5
         have hGB := Gst.gr (B := W.heap.size + 1) (wr := w1) (by assumption) hgB (fun g e => (World.ownsRow.lt hB g e).1) z1
         have hyB : w1.heap.size ≤ w5.heap.size := hGB.1.size
         first
          | (have hA := World.ownsRow.kept (own_drew (O4_mk (W := w1.alloc eB) (n := w1.heap.size + 1) (base := w1.heap.size) (by simp) (by simp))) hgB (own_apart (own_drew (O4_mk (W := w1.alloc eB) (n := w1.heap.size + 1) (base := w1.heap.size) (by simp) (by simp))) hB (by decide)))
          | (have hA := World.ownsRow.kept (own_drew (own_al (O4_mk (W := w1) (n := w1.heap.size) rfl (Nat.le_refl _)) eB)) hgB (own_apart (own_drew (own_al (O4_mk (W := w1) (n := w1.heap.size) rfl (Nat.le_refl _)) eB)) hB (by decide)))
          | skip
         first
          | (have ho4 := World.ownsRow.kept ho4 hgB (own_apart ho4 hB (by decide)))
          | (have ho4 := World.ownsRow.kept (own_al ho4 _) hgB (own_apart (own_al ho4 _) hB (by decide)))
          | skip
         obtain ⟨a5, c5, rfl⟩ := ho5.slice))
  all_goals
    go_split_ands
    first
      | (have hF := Lib.hid (HFIN.out _ _ _ _ _ ho4 ho5 hGB); go_wp2; exact bodyPost_ret (ret_Q Try.results21 rfl hF.out.1) rfl hF.out.2)
      | (have hF := Lib.hid (HFIN.out _ _ _ _ _ ho4 ho5 hGA); go_wp2; exact bodyPost_ret (ret_Q Try.results21 rfl hF.out.1) rfl hF.out.2)
end Go.Proofs.Ytakiigddbdapaaa.Qu
