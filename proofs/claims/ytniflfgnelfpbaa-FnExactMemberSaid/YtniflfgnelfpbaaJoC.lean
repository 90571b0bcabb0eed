
/-
  The model's copy of a JSON value, with what it owns, walked; append of whatever row onto an own one.
-/
import Derived.Test.YtniflfgnelfpbaaJoP
import Derived.Deep.Upon
namespace Go.Proofs.Ytniflfgnelfpbaa.App
open Go.RowKit
section
variable {P : Program} (w : World)
/-- append of a row, which may be empty -/
theorem wpList_app_any {ops : Array Oper} {rest : List Oper} {o : Oper} {a : Act} {Q : Exit → Act → World → Prop} (hgd : o.guard = none) (s x : Operand) (t : TypeId)
    (ho : o.op = .call { callee := .builtin .append, args := #[s, x], argTypes := #[t, t] })
    (base : Nat) (e : TypeId) (i : TypeInfo) (z : Value) (size bytes : Nat) (ht : P.underlying t = some (.slice e)) (hi : P.info? e = some i) (hz : i.zero = some z)
    (hsize : i.size = size) (hby : i.bytes = bytes) (hzs : z.cells.size = size) (hsz : 0 < size)
    (v : Value) (n : Nat) (xs : List Value) (hs : a.eval s = v) (hown : w.ownsRow base e size v n xs)
    (xo : Option Addr) (m c : Nat) (news : List Value) (hx : a.eval x = .slice xo m c) (hm : 0 < m → ∃ ad, xo = some ad ∧ ∀ j u, news[j]? = some u → w.cell? (ad.add j) = some u) (hl : news.length = m * size) (h1 : ∀ u ∈ news, u.oneCell' = true)
    (h63 : n + m ≤ 9223372036854775807) (hbytes : (n + m) * bytes ≤ 140737488355328) (hbase : base ≤ w.heap.size)
    (h : ∀ v' w', w'.ownsRow base e size v' (n + m) (xs ++ news) → w.grownBy w' v.ownBlock → (v'.ownBlock = v.ownBlock ∨ v'.ownBlock = some w.heap.size) → wpList P ops Q rest (a.put o.dst v') w') : wpList P ops Q (o :: rest) a w := by
  by_cases hm0 : m = 0
  · subst hm0
    have hn0 : news = [] := List.eq_nil_of_length_eq_zero (by rw [hl]; omega)
    subst hn0
    have hsrc : Src P i.size t (.slice xo 0 c) 0 [] w := by
      cases xo with
      | none => exact Src.ofNil w ht c
      | some ad => exact Src.ofSlice w ht ad 0 c [] (by simp) (fun j u h => by simp at h) (fun u h => by cases h)
    have hr : (Builtin.append_ #[t, t] o.type #[v, .slice xo 0 c]).run P w = .ok v w := by
      rcases hown.2 with ⟨rfl, rfl⟩ | ⟨g, cap, cur, rfl, _, _, hnc, _⟩
      · exact run_append_nothing w t t o.type e i ht hi none 0 0 (Nat.le_refl _) _ hsrc
      · exact run_append_nothing w t t o.type e i ht hi _ n cap hnc _ hsrc
    refine wpList_plain hgd fun K hK => ?_
    unfold Oper.wp execOp
    simp only [ho, resolve, invoke, builtin, Sem.run_bind, Sem.run_pure, Result.andThen_ok, List.map_toArray, List.map_cons, List.map_nil, hs, hx, hr]
    exact hK _ _ (h v w (by simpa using hown) ⟨rfl, rfl, rfl, Nat.le_refl _, fun _ _ _ => rfl⟩ (.inl rfl))
  · obtain ⟨ad, rfl, hc⟩ := hm (by omega)
    exact wpList_app w hgd s x t ho base e i z size bytes ht hi hz hsize hby hzs hsz v n xs hs hown ad m c news hx (by omega) hl hc h1 h63 hbytes hbase h
end
end Go.Proofs.Ytniflfgnelfpbaa.App
namespace Go.Proofs.Ytniflfgnelfpbaa.Js
open Go.RowKit
theorem oRO_made (W : World) (xs : List J) : ORO W xs 0 (.slice (some ⟨W.heap.size, 0, none⟩) 0 0) (W.alloc (.cells #[] 36)) :=
  ⟨[], fun _ => undef, fun _ => undef, fun _ _ => False, World.ownsRow_made W #[] 0 (Nat.le_refl _) (by decide) rfl, fun i hi => by omega, fun i hi => by omega, fun i hi => by omega, fun i hi => by omega, fun i j hi => by omega, (Below.refl _ _).alloc (Nat.le_refl _) _⟩
theorem txts_news {S : Nat → Prop} {w : World} {v : Value} {ns : List (List UInt8)} (h : TxtsIn S w v ns) : ∃ a c, v = .slice a ns.length c ∧ (0 < ns.length → ∃ ad, a = some ad ∧ ∀ j u, (strV ns)[j]? = some u → w.cell? (ad.add j) = some u) := by
  obtain ⟨a, cap, b, off, rfl, h1, h2, h3, h4, h5⟩ := h
  refine ⟨a, cap, rfl, fun hp => ⟨_, (h4 hp).1, fun j u hj => ?_⟩⟩
  have hlt : j < ns.length := by
    have := (List.getElem?_eq_some_iff.1 hj).1
    simpa [strV] using this
  have e := h5 j hlt
  simp only [strV, List.getElem?_map] at hj
  rw [List.getElem?_eq_getElem hlt] at hj
  simp only [Option.map_some, Option.some.injEq] at hj
  rw [← hj]
  have e2 : (({ block := b, off := off } : Addr).add j) = ⟨b, off + j, none⟩ := by unfold Addr.add; split <;> simp_all
  rw [e2, e]
  simp [hlt]
theorem strV_one (ns : List (List UInt8)) : ∀ u ∈ strV ns, u.oneCell' = true := by
  intro u hu
  obtain ⟨t, _, rfl⟩ := List.mem_map.1 hu
  rfl
theorem own_slice {w : World} {B m n : Nat} {T : TypeId} {v : Value} {xs : List Value} (h : w.ownsRow B T m v n xs) : ∃ a c, v = .slice a n c := by
  rcases h.2 with ⟨rfl, rfl⟩ | ⟨g, cap, cur, rfl, _⟩
  · exact ⟨none, 0, rfl⟩
  · exact ⟨_, _, rfl⟩
theorem copy_grow {W wr w4 : World} {iv : Value} {o o1 : Obj} (hz : W.heap.size + 1 < wr.heap.size) (k0 : (wr.setCell ⟨W.heap.size, 4, none⟩ iv).heap[W.heap.size]? = some o) (k1 : wr.heap[W.heap.size + 1]? = some o1)
    (hg : ((wr.setCell ⟨W.heap.size, 4, none⟩ iv).alloc (.cells #[] 9)).grownBy w4 (some wr.heap.size)) : w4.heap[W.heap.size]? = some o ∧ w4.heap[W.heap.size + 1]? = some o1 := by
  constructor
  · rw [hg.block W.heap.size (by simp; omega) (by simp; omega), heap_alloc_old _ _ (by simp; omega)]
    exact k0
  · rw [hg.block (W.heap.size + 1) (by simp; omega) (by simp; omega), heap_alloc_old _ _ (by simp; omega), heap_setCell_other _ ⟨W.heap.size, 4, none⟩ _ _ (by simp)]
    exact k1
theorem copy_post {W W2 wr w4 : World} {k n : Int} {t : List UInt8} {ns : List (List UInt8)} {xs : List J} {SL : Nat → Prop} {v7 v6 a b c d e : Value} (hB2 : Below W.heap.size W W2) (hZ2 : W2.heap.size = W.heap.size + 2) (hRB : Below W2.heap.size W2 wr)
    (hL : OL wr W2.heap.size SL xs v6) (hO : w4.ownsRow wr.heap.size 9 1 v7 ns.length ([] ++ strV ns)) (hg : ((wr.setCell ⟨W.heap.size, 4, none⟩ v6).alloc (.cells #[] 9)).grownBy w4 (some wr.heap.size))
    (hns : (∀ t ∈ ns, t.length ≤ 9223372036854775807) ∧ ns.length ≤ 9223372036854775807) (b1 : -9223372036854775808 ≤ k ∧ k ≤ 9223372036854775807) (b2 : -9223372036854775808 ≤ n ∧ n ≤ 9223372036854775807) (b3 : t.length ≤ 9223372036854775807) :
    NewJO W (.mk k n t ns xs) (.returned (jV (.mk k n t ns xs) v7 v6)) (set5 (w4.setCell ⟨W.heap.size, 3, none⟩ v7) (W.heap.size + 1) 0 a b c d e) := by
  have hs := hRB.size
  have hs4 := hg.size
  simp at hs4
  have hO1 : O1 w4 wr.heap.size v7 ns := by
    unfold O1
    simpa using hO
  have hL4 : OL w4 W2.heap.size SL xs v6 := hL.same fun b hb => by
    have := hL.lt b hb
    rw [hg.block b (by simp; omega) (by simp; omega), heap_alloc_old _ _ (by simp; omega), heap_setCell_other _ ⟨W.heap.size, 4, none⟩ _ _ (by simp; omega)]
  have hJ : OJ w4 W2.heap.size (fun b => v7.ownBlock = some b ∨ SL b) (.mk k n t ns xs) v7 v6 := .of (own_low hO1 (by omega)) hns.1 hns.2 hL4 fun b hb e => by
    have h1 := hL.lt b hb
    have h2 := (hO1.blk e).1
    omega
  refine ⟨_, _, _, rfl, (hJ.base (by omega)).same fun b hb => ?_, ⟨b1, b2, b3⟩, ?_⟩
  · have := hJ.lt b hb
    rw [set5_far _ _ _ _ _ _ _ _ _ (by omega)]
    exact heap_setCell_other _ ⟨W.heap.size, 3, none⟩ b _ (by simp; omega)
  · have h1 : Below W.heap.size W wr := hB2.trans (hRB.mono (by omega))
    have h2 : Below W.heap.size W w4 := ((h1.setCell (p := ⟨W.heap.size, 4, none⟩) (Nat.le_refl _) v6).alloc (by simp; omega) _).grown hg (by simp; omega) (fun b e => by simp at e; omega)
    exact set5_below1 (h2.setCell (p := ⟨W.heap.size, 3, none⟩) (Nat.le_refl _) v7) _ _ _ _ _
set_option maxRecDepth 100000 in
set_option maxHeartbeats 2000000 in
theorem copyO_go (B : Nat) (w0 : World) (j : J) : ∀ (nv iv : Value), JIn (· < B) w0 j nv iv → szJ j ≤ 1048576 → ∀ (W : World), Below B w0 W → B ≤ W.heap.size →
    Calls Try.prog 23 #[jV j nv iv] W (NewJO W j) := by
  induction j using J.ind with
  | h k n t ns xs ih =>
    intro nv iv h hs W hb hB
    unfold szJ at hs
    obtain ⟨hL, hN, b1, b2, b3⟩ := h.inv
    have HNL := Lib.hid (names_len hN)
    have hnsz : ns.length ≤ 1048576 := by omega
    have hxsz : xs.length ≤ 1048576 := by omega
    have HI := Lib.hid (fun i (hi : i < xs.length) nv iv (h' : JIn (· < B) w0 (xs.getD i default) nv iv) => ih _ (by simp [hi]) nv iv h' (by have := szL_len xs (xs.getD i default) (by simp [hi]); omega))
    have HB := Lib.hid hb
    have HN := Lib.hid hN
    obtain ⟨an, cn, rfl, -⟩ := txts_news hN
    obtain ⟨a, cap, b, off, vn, vi, rfl, hcap, hm, ha, hc, hd⟩ := hL
    have HC := Lib.hid hc
    have HD := Lib.hid hd
    have HA := Lib.hid ha
    clear ih hN h hb hc hd ha
    obtain ⟨i0, hi, hz0, hz1, hz2⟩ := info_parts Try.infoJ2
    obtain ⟨i1, hi1, hy0, hy1, hy2⟩ := info_parts Try.infoTxt
    obtain ⟨W2, hW2⟩ : ∃ W2, (W.alloc (.cells #[.int .i64 k, .int .i64 n, .string ⟨t.toArray⟩, .slice an ns.length cn, .slice a xs.length cap] 36)).alloc (.cells z5 36) = W2 := ⟨_, rfl⟩
    have HB2 := Lib.hid (show Below W.heap.size W W2 by rw [← hW2]; exact ((Below.refl _ _).alloc (Nat.le_refl _) _).alloc (by simp) _)
    have hZ2 : W2.heap.size = W.heap.size + 2 := by rw [← hW2]; simp
    have K0 := Lib.hid (show W2.heap[W.heap.size]? = some (.cells #[.int .i64 k, .int .i64 n, .string ⟨t.toArray⟩, .slice an ns.length cn, .slice a xs.length cap] 36 (0, 0)) from hW2 ▸ alloc2_0 W _ _)
    have K1 := Lib.hid (show W2.heap[W.heap.size + 1]? = some (.cells z5 36 (0, 0)) from hW2 ▸ alloc2_1 W _ _)
    have HST := Lib.hid (show ORO W2 xs 0 (.slice (some ⟨W.heap.size + 1 + 1, 0, none⟩) 0 0) (((W.alloc (.cells #[.int .i64 k, .int .i64 n, .string ⟨t.toArray⟩, .slice an ns.length cn, .slice a xs.length cap] 36)).alloc (.cells z5 36)).alloc (.cells #[] 36)) by
      have h := oRO_made W2 xs
      rw [hZ2] at h
      rw [hW2]
      exact h)
    have HW2 := Lib.hid hW2
    clear hW2
    show Calls _ _ #[.agg #[.int .i64 k, .int .i64 n, .string ⟨t.toArray⟩, .slice an ns.length cn, .slice a xs.length cap]] _ _
    go_enter Try.func23, Try.ntmps23
    go_wp2_with fail
    go_loopw [3, 4] (fun l i wr => ∃ k : Nat, k ≤ xs.length ∧ i = .int .i64 k ∧ ORO W2 xs k l wr) (fun _ i _ => xs.length - (intOf i).toNat)
    case atStart => exact ⟨0, by omega, rfl, HST.out⟩
    case round =>
      obtain ⟨q, hq, rfl, hR⟩ := hrel
      by_cases hlt : q < xs.length
      · obtain ⟨ea, hlb⟩ := HA.out (by omega)
        subst ea
        obtain ⟨vals, wn, wi, Sc, hown, hf, hft, hch, hne, hdd, hRB⟩ := hR
        have HO := Lib.hid hown
        have HF := Lib.hid hf
        have HFT := Lib.hid hft
        have HNE := Lib.hid hne
        have HDD := Lib.hid hdd
        have HCH := Lib.hid hch
        have HRB := Lib.hid hRB
        have hW : Below B w0 wr := HB.out.trans ((HB2.out.trans (hRB.mono (by omega))).mono hB)
        have hWr : W2.heap.size ≤ wr.heap.size := hRB.size
        have hWB : B ≤ wr.heap.size := by omega
        have k0 := (hRB.block W.heap.size (by omega)).trans K0.out
        obtain ⟨-, -, -, -, c4, -⟩ := five_cells k0
        obtain ⟨d0, d1, d2, d3, d4⟩ := HC.out q hlt
        have q0 := (hW.cell (p := ⟨b, off + q * 5, none⟩) hlb).trans d0
        have q1 := (hW.cell (p := ⟨b, off + q * 5 + 1, none⟩) hlb).trans d1
        have q2 := (hW.cell (p := ⟨b, off + q * 5 + 2, none⟩) hlb).trans d2
        have q3 := (hW.cell (p := ⟨b, off + q * 5 + 3, none⟩) hlb).trans d3
        have q4 := (hW.cell (p := ⟨b, off + q * 5 + 4, none⟩) hlb).trans d4
        clear d0 d1 d2 d3 d4 k0
        have HK := Lib.hid (HI.out q hlt _ _ (HD.out q hlt) wr hW hWB)
        clear hown hf hch hRB hW hft hne hdd
        generalize hx : xs.getD q default = x at *
        have HX := Lib.hid hx
        clear hx
        generalize vn q = n1 at *
        generalize vi q = i1' at *
        go_wp2_with fail
        refine HK.out.mono ?_
        rintro e w2 ⟨nv, iv, S, rfl, hv, hft2, hb2⟩
        have HFT2 := Lib.hid hft2
        obtain ⟨⟨an2, ln2, cn2, rfl⟩, ⟨ai2, li2, ci2, rfl⟩⟩ := hv.slices
        have HV := Lib.hid hv
        have HB3 := Lib.hid hb2
        have hkeep : w2.ownsRow W2.heap.size 36 5 u3 q vals :=
          HO.out.kept (row := none) ⟨hb2.os, hb2.tape, hb2.output, hb2.size, fun b hb _ => hb2.block b hb⟩ (by rcases Classical.em (u3.ownBlock = none) with h | h; exact .inl h; exact .inr h)
        have HO2 := Lib.hid hkeep
        have hWw : W2.heap.size ≤ w2.heap.size := Nat.le_trans hWr hb2.size
        clear hv hb2 hkeep hft2
        go_wp2_with (at_builtin; refine App.wpList_app _ rfl _ _ 34 rfl W2.heap.size 36 i0 (.agg #[.int .i64 0, .int .i64 0, .string ByteArray.empty, .slice none 0 0, .slice none 0 0]) 5 80 Try.underlying34 hi hz0 hz1 hz2 rfl (by decide) _ _ _ rfl (HO2.out.alloc _) ⟨w2.heap.size, 0, none⟩ 1 1 [.int .i64 x.kind, .int .i64 x.num, .string ⟨x.text.toArray⟩, .slice an2 ln2 cn2, .slice ai2 li2 ci2] rfl (by decide) rfl (cell_five_new _ _ _ _ _ _ _) (one_five _ _ _ _ _ _ _ _ _) (by omega) (by omega) (by simp; omega) ?_; intro l' w4 hown' hgrow hplace)
        go_roundw
        case rel => exact ⟨q + 1, by omega, by go_num, oRO_step HX.out HO.out HF.out HFT.out HCH.out HNE.out HDD.out HRB.out (Below.refl _ _) HB3.out HV.out HFT2.out hown' hgrow hplace⟩
        case measure => simp [intOf]; omega
      · obtain rfl : q = xs.length := by omega
        have hF := oRO_end hR
        have hRB : Below W2.heap.size W2 wr := by obtain ⟨_, _, _, _, _, _, _, _, _, _, h⟩ := hR; exact h
        obtain ⟨v, SL, e, hl, -⟩ := hF
        injection e with e
        subst e
        obtain ⟨a6, l6, c6, rfl⟩ := hl.slice
        have k0 := (hRB.block W.heap.size (by omega)).trans K0.out
        have k1 := (hRB.block (W.heap.size + 1) (by omega)).trans K1.out
        obtain ⟨c0, c1, c2, c3, c4, cf⟩ := five_cells k0
        obtain ⟨e0, e1, e2, e3, e4, ef⟩ := five_cells k1
        have hz4 : W.heap.size < wr.heap.size := by have := hRB.size; omega
        have hz5 : W.heap.size + 1 < wr.heap.size := by have := hRB.size; omega
        have hblw : Below B w0 ((wr.setCell ⟨W.heap.size, 4, none⟩ (.slice a6 l6 c6)).alloc (.cells #[] 9)) := ((HB.out.trans ((HB2.out.trans (hRB.mono (by omega))).mono hB)).setCell (by simp; omega) _).alloc (by simp; omega) _
        have HTX := Lib.hid (HN.out.same (S' := (· < B)) fun b hb => ⟨hb, hblw.block b hb⟩)
        have hnews : 0 < ns.length → ∃ ad, an = some ad ∧ ∀ j u, (strV ns)[j]? = some u → ((wr.setCell ⟨W.heap.size, 4, none⟩ (.slice a6 l6 c6)).alloc (.cells #[] 9)).cell? (ad.add j) = some u := by
          obtain ⟨a', c', e, h⟩ := txts_news HTX.out
          injection e with e1 e2 e3
          subst e1
          exact h
        have hown0 : ((wr.setCell ⟨W.heap.size, 4, none⟩ (.slice a6 l6 c6)).alloc (.cells #[] 9)).ownsRow wr.heap.size 9 1 (.slice (some ⟨wr.heap.size, 0, none⟩) 0 0) 0 [] := by
          have h := World.ownsRow_made (base := wr.heap.size) (e := 9) (size := 1) (wr.setCell ⟨W.heap.size, 4, none⟩ (.slice a6 l6 c6)) #[] 0 (by simp) (by decide) rfl
          simpa using h
        have HNEWS := Lib.hid hnews
        have HOWN := Lib.hid hown0
        have HL := Lib.hid hl
        have HRB := Lib.hid hRB
        have K0r := Lib.hid (heap_set k0 4 (.slice a6 l6 c6))
        have K1r := Lib.hid k1
        clear hl hRB k0 k1 hR hblw hnews hown0
        go_wp2_with (at_builtin; refine App.wpList_app_any _ rfl _ _ 29 rfl wr.heap.size 9 i1 _ 1 16 Try.underlying29 hi1 hy0 hy1 hy2 rfl (by omega) _ _ _ rfl HOWN.out an ns.length cn (strV ns) rfl HNEWS.out (by simp [strV]) (strV_one ns) (by omega) (by omega) (by simp) ?_; intro l' w4 hown' hgrow hplace; rw [Nat.zero_add] at hown'; obtain ⟨a7, c7, rfl⟩ := own_slice hown'; have g := copy_grow (W := W) hz5 K0r.out K1r.out hgrow; have HP := Lib.hid (fun a b c d e => copy_post (a := a) (b := b) (c := c) (d := d) (e := e) HB2.out hZ2 HRB.out HL.out hown' hgrow HNL.out b1 b2 b3); have G1 := Lib.hid g.2; obtain ⟨g0, g1, g2, g3, g4, gf⟩ := five_cells g.1; obtain ⟨r0, r1, r2, r3, r4, rf⟩ := five_cells g.2; clear g hgrow hown' hplace)
        have hfin : (set5 (w4.setCell ⟨W.heap.size, 3, none⟩ (.slice a7 ns.length c7)) (W.heap.size + 1) 0 (.int .i64 k) (.int .i64 n) (.string ⟨t.toArray⟩) (.slice a7 ns.length c7) (.slice a6 l6 c6)).heap[W.heap.size + 1]? = some (.cells #[.int .i64 k, .int .i64 n, .string ⟨t.toArray⟩, .slice a7 ns.length c7, .slice a6 l6 c6] 36 (0, 0)) :=
          heap_set5 ((heap_setCell_other w4 ⟨W.heap.size, 3, none⟩ (W.heap.size + 1) (.slice a7 ns.length c7) (by simp)).trans G1.out) (.int .i64 k) (.int .i64 n) (.string ⟨t.toArray⟩) (.slice a7 ns.length c7) (.slice a6 l6 c6)
        have hpost := HP.out (.int .i64 k) (.int .i64 n) (.string ⟨t.toArray⟩) (.slice a7 ns.length c7) (.slice a6 l6 c6)
        exact bodyPost_ret (ret_J Try.results23 rfl hfin) rfl hpost
end Go.Proofs.Ytniflfgnelfpbaa.Js
