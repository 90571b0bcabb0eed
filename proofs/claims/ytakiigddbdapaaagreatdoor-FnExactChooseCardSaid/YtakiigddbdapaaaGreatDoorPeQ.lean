
/-
  Peers appended onto an own row; a cell of an own row set; strings.Clone, slices.Clone of peers; the model's l07Put, walked.
-/
import Derived.Test.YtakiigddbdapaaaGreatDoorPeT
import Derived.Test.YtakiigddbdapaaaGreatDoorShelf
import Derived.Test.YtakiigddbdapaaaGreatDoorApp
import Derived.Deep.Upon
import Derived.Deep.RegionHeld3
namespace Go.Proofs.YtakiigddbdapaaaGreatDoor.Apq
open Go.RowKit
section
variable {P : Program} (w : World)
/-- append of a row, which may be empty -/
theorem wpList_app_any {ops : Array Oper} {rest : List Oper} {o : Oper} {a : Act} {Q : Exit → Act → World → Prop} (hgd : o.guard = none) (s x : Operand) (t : TypeId)
    (ho : o.op = .call { callee := .builtin .append, args := #[s, x], argTypes := #[t, t] })
    (base : Nat) (e : TypeId) (i : TypeInfo) (z : Value) (size bytes : Nat) (ht : P.underlying t = some (.slice e)) (hi : P.info? e = some i) (hz : i.zero = some z)
    (hsize : i.size = size) (hby : i.bytes = bytes) (hzs : z.cells.size = size) (hsz : 0 < size)
    (v : Value) (n : Nat) (xs : List Value) (hs : a.eval s = v) (hown : w.ownsRow base e size v n xs)
    (xo : Option Addr) (m c : Nat) (news : List Value) (hx : a.eval x = .slice xo m c) (hm : 0 < m → ∃ ad, xo = some ad ∧ ∀ j u, news[j]? = some u → w.cell? (ad.add j) = some u) (hl : news.length = m * size) (h1 : ∀ u ∈ news, u.oneCell' = true)
    (h63 : n + m ≤ 9223372036854775807) (hbytes : (n + m) * bytes ≤ 140737488355328) (hbase : base ≤ w.heap.size)
    (h : ∀ v' w', w'.ownsRow base e size v' (n + m) (xs ++ news) → w.grownBy w' v.ownBlock → (v'.ownBlock = v.ownBlock ∨ v'.ownBlock = some w.heap.size) → wpList P ops Q rest (a.put o.dst v') w') : wpList P ops Q (o :: rest) a w := by
  by_cases hm0 : m = 0
  · subst hm0
    have hn0 : news = [] := List.eq_nil_of_length_eq_zero (by rw [hl]; omega)
    subst hn0
    have hsrc : Src P i.size t (.slice xo 0 c) 0 [] w := by
      cases xo with
      | none => exact Src.ofNil w ht c
      | some ad => exact Src.ofSlice w ht ad 0 c [] (by simp) (fun j u h => by simp at h) (fun u h => by cases h)
    have hr : (Builtin.append_ #[t, t] o.type #[v, .slice xo 0 c]).run P w = .ok v w := by
      rcases hown.2 with ⟨rfl, rfl⟩ | ⟨g, cap, cur, rfl, _, _, hnc, _⟩
      · exact run_append_nothing w t t o.type e i ht hi none 0 0 (Nat.le_refl _) _ hsrc
      · exact run_append_nothing w t t o.type e i ht hi _ n cap hnc _ hsrc
    refine wpList_plain hgd fun K hK => ?_
    unfold Oper.wp execOp
    simp only [ho, resolve, invoke, builtin, Sem.run_bind, Sem.run_pure, Result.andThen_ok, List.map_toArray, List.map_cons, List.map_nil, hs, hx, hr]
    exact hK _ _ (h v w (by simpa using hown) ⟨rfl, rfl, rfl, Nat.le_refl _, fun _ _ _ => rfl⟩ (.inl rfl))
  · obtain ⟨ad, rfl, hc⟩ := hm (by omega)
    exact App.wpList_app w hgd s x t ho base e i z size bytes ht hi hz hsize hby hzs hsz v n xs hs hown ad m c news hx (by omega) hl hc h1 h63 hbytes hbase h
end
end Go.Proofs.YtakiigddbdapaaaGreatDoor.Apq
namespace Go.Proofs.YtakiigddbdapaaaGreatDoor.Pe
open Go.RowKit
open Go.Proofs.YtakiigddbdapaaaGreatDoor.Gr (belI_step belI_alloc heap_set ret_b ret_i)
open Go.Proofs.YtakiigddbdapaaaGreatDoor.Mk
theorem add_at (b off j : Nat) : (({ block := b, off := off } : Addr).add j) = ⟨b, off + j, none⟩ := by unfold Addr.add; split <;> simp_all
theorem pr_news {S : Nat → Prop} {w : World} {v : Value} {xs : List Pr} (h : PrIn S w v xs) : ∃ a c, v = .slice a xs.length c ∧ (0 < xs.length → ∃ ad, a = some ad ∧ ∀ j u, (prC xs)[j]? = some u → w.cell? (ad.add j) = some u) := by
  obtain ⟨a, cap, b, off, rfl, h1, h2, h3, h4, h5⟩ := h
  refine ⟨a, cap, rfl, fun hp => ⟨_, (h4 hp).1, fun j u hj => ?_⟩⟩
  have hlt : j < xs.length * 6 := by
    have := (List.getElem?_eq_some_iff.1 hj).1
    rwa [prC_len] at this
  obtain ⟨g0, g1, g2, g3, g4, g5⟩ := prC_get xs (j / 6) (by omega)
  obtain ⟨c0, c1, c2, c3, c4, c5⟩ := h5 (j / 6) (by omega)
  rw [add_at]
  rcases (show j % 6 = 0 ∨ j % 6 = 1 ∨ j % 6 = 2 ∨ j % 6 = 3 ∨ j % 6 = 4 ∨ j % 6 = 5 by omega) with e | e | e | e | e | e
  · have ej : j = j / 6 * 6 := by omega
    rw [← ej] at g0 c0
    rw [g0] at hj
    rw [c0, hj]
  · have ej : j = j / 6 * 6 + 1 := by omega
    rw [← ej] at g1
    rw [Nat.add_assoc, ← ej] at c1
    rw [g1] at hj
    rw [c1, hj]
  · have ej : j = j / 6 * 6 + 2 := by omega
    rw [← ej] at g2
    rw [Nat.add_assoc, ← ej] at c2
    rw [g2] at hj
    rw [c2, hj]
  · have ej : j = j / 6 * 6 + 3 := by omega
    rw [← ej] at g3
    rw [Nat.add_assoc, ← ej] at c3
    rw [g3] at hj
    rw [c3, hj]
  · have ej : j = j / 6 * 6 + 4 := by omega
    rw [← ej] at g4
    rw [Nat.add_assoc, ← ej] at c4
    rw [g4] at hj
    rw [c4, hj]
  · have ej : j = j / 6 * 6 + 5 := by omega
    rw [← ej] at g5
    rw [Nat.add_assoc, ← ej] at c5
    rw [g5] at hj
    rw [c5, hj]
theorem prC_one : ∀ xs : List Pr, ∀ u ∈ prC xs, u.oneCell' = true
  | [], u, h => by cases h
  | t :: r, u, h => by
    simp only [prC, List.mem_cons] at h
    rcases h with rfl | rfl | rfl | rfl | rfl | rfl | h
    · rfl
    · rfl
    · rfl
    · rfl
    · rfl
    · rfl
    · exact prC_one r u h
theorem cloneS_any (t : List UInt8) (w : World) (hm : t.length ≤ 1048576) : Calls Tryz.prog 72 #[.string ⟨t.toArray⟩] w fun e w' => e = .returned (.string ⟨t.toArray⟩) ∧ Below w.heap.size w w' := by
  go_enter Tryz.func72, Tryz.ntmps72
  go_wp2_with fail
  refine (Tryz.stringslite_Clone ⟨t.toArray⟩ _ (by show t.toArray.size ≤ _; simp; omega)).mono ?_
  rintro e w1 ⟨rfl, hb⟩
  have HB := Lib.hid hb
  clear hb
  go_wp2
  go_ret
  exact ⟨rfl, HB.out⟩
theorem O6_made (W : World) : O6 (W.alloc (.cells #[] 57)) W.heap.size (.slice (some ⟨W.heap.size, 0, none⟩) 0 0) [] := World.ownsRow_made W #[] 0 (Nat.le_refl _) (by decide) rfl
set_option maxRecDepth 100000 in
set_option maxHeartbeats 1000000 in
theorem cloneP_any (B : Nat) (w0 : World) (xs : List Pr) (v : Value) (h : PrIn (· < B) w0 v xs) (hsz : xs.length ≤ 1048576) (W : World) (hb : Below B w0 W) (hB : B ≤ W.heap.size) :
    Calls Tryz.prog 68 #[v] W (NewPrs W xs) := by
  have hal := (Below.refl W.heap.size W).alloc (Nat.le_refl _) (.cells #[] 57)
  obtain ⟨a, c, rfl, hn⟩ := pr_news ((h.blw hb).same (S' := (· < W.heap.size)) (w' := W.alloc (.cells #[] 57)) fun b hb => ⟨Nat.lt_of_lt_of_le hb hB, hal.block b (Nat.lt_of_lt_of_le hb hB)⟩)
  have HN := Lib.hid hn
  have HAL := Lib.hid hal
  clear h hn hb hal
  obtain ⟨i0, hi, hz0, hz1, hz2⟩ := info_parts Tryz.infoPr
  have qn : ∀ (w : World) (a : Option Addr) (l c : Nat), (binOp .eql 26 (.slice a l c) (.slice none 0 0)).run Tryz.prog w = .ok (.bool a.isNone) w := fun w a l c => Lib.run_eql_slice_nil w _ _ a l c 0 0 Tryz.underlying26
  cases a with
  | none =>
    by_cases h0 : 0 < xs.length
    · obtain ⟨ad, e, _⟩ := HN.out h0
      cases e
    · have hx : xs = [] := List.eq_nil_of_length_eq_zero (by omega)
      subst hx
      have HF := Lib.hid (show NewPrs W [] (.returned (.slice none 0 0)) W from ⟨_, rfl, O6.nil _ _, Below.refl _ _⟩)
      go_enter Tryz.func68, Tryz.ntmps68
      go_wp2
      go_ret
      exact HF.out
  | some ad =>
    have HO := Lib.hid (O6_made W)
    go_enter Tryz.func68, Tryz.ntmps68
    go_wp2_with (at_builtin; refine Apq.wpList_app_any _ rfl _ _ 26 rfl W.heap.size 57 i0 _ 6 56 Tryz.underlying26 hi hz0 hz1 hz2 rfl (by omega) _ 0 [] rfl HO.out (some ad) xs.length c (prC xs) rfl HN.out (prC_len xs) (prC_one xs) (by omega) (by omega) (by simp) ?_; intro l' w4 hown' hgrow hplace; rw [Nat.zero_add] at hown'; have HF := Lib.hid (show NewPrs W xs (.returned l') w4 from ⟨_, rfl, hown', HAL.out.grown hgrow (by simp) (fun b e => by cases e; exact Nat.le_refl _)⟩); obtain ⟨a7, c7, rfl⟩ := own_slice hown'; clear hown' hgrow hplace)
    go_ret
    exact HF.out
/-! ### a cell of an own row is set -/
theorem own_set {w : World} {B m n g cap : Nat} {T : TypeId} {xs : List Value} (h : w.ownsRow B T m (.slice (some ⟨g, 0, none⟩) n cap) n xs) (o : Nat) (v : Value) : (w.setCell ⟨g, o, none⟩ v).ownsRow B T m (.slice (some ⟨g, 0, none⟩) n cap) n (xs.set o v) := by
  obtain ⟨h1, h2⟩ := h
  refine ⟨by rw [List.length_set]; exact h1, ?_⟩
  rcases h2 with ⟨e, _⟩ | ⟨g', cap', cur, e, hb, hg, hnc, hcm, hs, ht⟩
  · cases e
  · injection e with e1 e2 e3
    injection e1 with e1
    injection e1 with e4
    subst e4 e3
    refine .inr ⟨g, cap, cur.setIfInBounds o v, rfl, hb, heap_set hg o v, hnc, hcm, by simpa using hs, ?_⟩
    rw [Array.toList_setIfInBounds, List.take_set, ht]
theorem own_frozen {w : World} {B m n g cap : Nat} {T : TypeId} {xs : List Value} (h : w.ownsRow B T m (.slice (some ⟨g, 0, none⟩) n cap) n xs) (o : Nat) : w.frozen? ⟨g, o, none⟩ = false := by
  rcases h.2 with ⟨e, _⟩ | ⟨g', cap', cur, e, hb, hg, hnc, hcm, hs, ht⟩
  · cases e
  · injection e with e1 e2 e3
    injection e1 with e1
    injection e1 with e4
    subst e4
    exact frozen_of_row w g o _ _ hg
theorem own_cell {w : World} {B m n g cap : Nat} {T : TypeId} {xs : List Value} (h : w.ownsRow B T m (.slice (some ⟨g, 0, none⟩) n cap) n xs) (o : Nat) (v : Value) (ho : xs[o]? = some v) : w.cell? ⟨g, o, none⟩ = some v := by
  rcases h.2 with ⟨e, _⟩ | ⟨g', cap', cur, e, hb, hg, hnc, hcm, hs, ht⟩
  · cases e
  · injection e with e1 e2 e3
    injection e1 with e1
    injection e1 with e4
    subst e4
    have hlt : o < n * m := by have := (List.getElem?_eq_some_iff.1 ho).1; rw [h.1] at this; exact this
    rw [← ht, List.getElem?_take_of_lt hlt] at ho
    simp [World.cell?, hg]
    simpa using ho
theorem prC_six : ∀ (xs : List Pr) (k : Nat) (y : Pr), k < xs.length → ((((((prC xs).set (k * 6) (.string ⟨y.url.toArray⟩)).set (k * 6 + 1) (.int .i64 y.pri)).set (k * 6 + 2) (.int .i64 y.wt)).set (k * 6 + 3) (.int .i64 y.fails)).set (k * 6 + 4) (.int .i64 y.retry)).set (k * 6 + 5) (.bool y.gone) = prC (xs.set k y)
  | [], k, y, h => by simp at h
  | t :: r, 0, y, _ => rfl
  | t :: r, k + 1, y, h => by
    have ih := prC_six r k y (by simpa using h)
    have e : (k + 1) * 6 = k * 6 + 1 + 1 + 1 + 1 + 1 + 1 := by omega
    rw [e]
    simpa [prC] using ih
theorem prC_fails : ∀ (xs : List Pr) (k : Nat) (f : Int), k < xs.length → (prC xs).set (k * 6 + 3) (.int .i64 f) = prC (xs.set k { xs.getD k default with fails := f })
  | [], k, f, h => by simp at h
  | t :: r, 0, f, _ => rfl
  | t :: r, k + 1, f, h => by
    have ih := prC_fails r k f (by simpa using h)
    have e : (k + 1) * 6 + 3 = k * 6 + 3 + 1 + 1 + 1 + 1 + 1 + 1 := by omega
    rw [e]
    simpa [prC] using ih
theorem prC_retry : ∀ (xs : List Pr) (k : Nat) (f : Int), k < xs.length → (prC xs).set (k * 6 + 4) (.int .i64 f) = prC (xs.set k { xs.getD k default with retry := f })
  | [], k, f, h => by simp at h
  | t :: r, 0, f, _ => rfl
  | t :: r, k + 1, f, h => by
    have ih := prC_retry r k f (by simpa using h)
    have e : (k + 1) * 6 + 4 = k * 6 + 4 + 1 + 1 + 1 + 1 + 1 + 1 := by omega
    rw [e]
    simpa [prC] using ih
theorem prC_gone : ∀ (xs : List Pr) (k : Nat) (f : Bool), k < xs.length → (prC xs).set (k * 6 + 5) (.bool f) = prC (xs.set k { xs.getD k default with gone := f })
  | [], k, f, h => by simp at h
  | t :: r, 0, f, _ => rfl
  | t :: r, k + 1, f, h => by
    have ih := prC_gone r k f (by simpa using h)
    have e : (k + 1) * 6 + 5 = k * 6 + 5 + 1 + 1 + 1 + 1 + 1 + 1 := by omega
    rw [e]
    simpa [prC] using ih
section
variable {w : World} {base g cap k : Nat} {xs : List Pr}
theorem O6.six (h : O6 w base (.slice (some ⟨g, 0, none⟩) xs.length cap) xs) (hk : k < xs.length) (y : Pr) : O6 (set6 w g (k * 6) (.string ⟨y.url.toArray⟩) (.int .i64 y.pri) (.int .i64 y.wt) (.int .i64 y.fails) (.int .i64 y.retry) (.bool y.gone)) base (.slice (some ⟨g, 0, none⟩) xs.length cap) (xs.set k y) := by
  have h6 := own_set (own_set (own_set (own_set (own_set (own_set h (k * 6) (.string ⟨y.url.toArray⟩)) (k * 6 + 1) (.int .i64 y.pri)) (k * 6 + 2) (.int .i64 y.wt)) (k * 6 + 3) (.int .i64 y.fails)) (k * 6 + 4) (.int .i64 y.retry)) (k * 6 + 5) (.bool y.gone)
  rw [prC_six xs k y hk] at h6
  unfold O6; rw [List.length_set]; exact h6
theorem O6.fails (h : O6 w base (.slice (some ⟨g, 0, none⟩) xs.length cap) xs) (hk : k < xs.length) (f : Int) : O6 (w.setCell ⟨g, k * 6 + 3, none⟩ (.int .i64 f)) base (.slice (some ⟨g, 0, none⟩) xs.length cap) (xs.set k { xs.getD k default with fails := f }) := by
  have h6 := own_set h (k * 6 + 3) (.int .i64 f)
  rw [prC_fails xs k f hk] at h6
  unfold O6; rw [List.length_set]; exact h6
theorem O6.retry (h : O6 w base (.slice (some ⟨g, 0, none⟩) xs.length cap) xs) (hk : k < xs.length) (f : Int) : O6 (w.setCell ⟨g, k * 6 + 4, none⟩ (.int .i64 f)) base (.slice (some ⟨g, 0, none⟩) xs.length cap) (xs.set k { xs.getD k default with retry := f }) := by
  have h6 := own_set h (k * 6 + 4) (.int .i64 f)
  rw [prC_retry xs k f hk] at h6
  unfold O6; rw [List.length_set]; exact h6
theorem O6.gone (h : O6 w base (.slice (some ⟨g, 0, none⟩) xs.length cap) xs) (hk : k < xs.length) (f : Bool) : O6 (w.setCell ⟨g, k * 6 + 5, none⟩ (.bool f)) base (.slice (some ⟨g, 0, none⟩) xs.length cap) (xs.set k { xs.getD k default with gone := f }) := by
  have h6 := own_set h (k * 6 + 5) (.bool f)
  rw [prC_gone xs k f hk] at h6
  unfold O6; rw [List.length_set]; exact h6
theorem O6.at (h : O6 w base (.slice (some ⟨g, 0, none⟩) xs.length cap) xs) (hk : k < xs.length) : w.cell? ⟨g, k * 6, none⟩ = some (.string ⟨(xs.getD k default).url.toArray⟩) ∧ w.cell? ⟨g, k * 6 + 1, none⟩ = some (.int .i64 (xs.getD k default).pri) ∧ w.cell? ⟨g, k * 6 + 2, none⟩ = some (.int .i64 (xs.getD k default).wt) ∧ w.cell? ⟨g, k * 6 + 3, none⟩ = some (.int .i64 (xs.getD k default).fails) ∧ w.cell? ⟨g, k * 6 + 4, none⟩ = some (.int .i64 (xs.getD k default).retry) ∧ w.cell? ⟨g, k * 6 + 5, none⟩ = some (.bool (xs.getD k default).gone) ∧ ∀ o, w.frozen? ⟨g, o, none⟩ = false := by
  obtain ⟨e0, e1, e2, e3, e4, e5⟩ := prC_get xs k hk
  exact ⟨own_cell h _ _ e0, own_cell h _ _ e1, own_cell h _ _ e2, own_cell h _ _ e3, own_cell h _ _ e4, own_cell h _ _ e5, own_frozen h⟩
theorem O6.isRow {v : Value} (h : O6 w base v xs) (hk : 0 < xs.length) : ∃ g cap, v = .slice (some ⟨g, 0, none⟩) xs.length cap ∧ base ≤ g ∧ g < w.heap.size := by
  rcases h.2 with ⟨rfl, h0⟩ | ⟨g, cap, cur, rfl, hb, hg, _⟩
  · omega
  · exact ⟨g, cap, rfl, hb, (Array.getElem?_eq_some_iff.1 hg).1⟩
end
set_option maxRecDepth 100000 in
set_option maxHeartbeats 2000000 in
/-- the model's copy with one peer put -/
theorem putS_any (B : Nat) (w0 : World) (xs : List Pr) (v : Value) (h : PrIn (· < B) w0 v xs) (hsz : xs.length ≤ 1048576) (k : Nat) (hk : k < xs.length) (y : Pr) (W : World) (hb : Below B w0 W) (hB : B ≤ W.heap.size) :
    Calls Tryz.prog 67 #[v, .int .i64 (k : Int), pV y] W (NewPrs W (xs.set k y)) := by
  obtain ⟨w1, hw1⟩ : ∃ w1, w1 = W.alloc (ipO y) := ⟨_, rfl⟩
  have B1 := Lib.hid (show Below W.heap.size W w1 by rw [hw1]; exact (Below.refl _ _).alloc (Nat.le_refl _) _)
  have H1 := Lib.hid (show Hd w1 W.heap.size (ipO y) by rw [hw1]; exact Hd.new _ _)
  have hz1 : w1.heap.size = W.heap.size + 1 := by rw [hw1]; simp
  have B2 := Lib.hid (show Below w1.heap.size w1 (w1.alloc (.cells #[] 57)) from (Below.refl _ _).alloc (Nat.le_refl _) _)
  have O2 := Lib.hid (O6_made w1)
  obtain ⟨a, c, rfl, hn⟩ := pr_news ((h.blw hb).same (S' := (· < W.heap.size)) (w' := w1.alloc (.cells #[] 57)) fun b hb => ⟨Nat.lt_of_lt_of_le hb hB, (B2.out.block b (by omega)).trans (B1.out.block b (by omega))⟩)
  have HN := Lib.hid hn
  obtain ⟨i0, hi, hz0, hz1', hz2'⟩ := info_parts Tryz.infoPr
  have HZ1 := Lib.hid hz1
  clear h hn hb hz1
  go_enter Tryz.func67, Tryz.ntmps67
  go_upto_region 1 with fail
  rw [show W.alloc (.cells #[.string ⟨y.url.toArray⟩, .int .i64 y.pri, .int .i64 y.wt, .int .i64 y.fails, .int .i64 y.retry, .bool y.gone] 57) = w1 from hw1.symm]
  clear hw1
  go_upto_region 2 with (at_builtin; refine Apq.wpList_app_any _ rfl _ _ 26 rfl w1.heap.size 57 i0 _ 6 56 Tryz.underlying26 hi hz0 hz1' hz2' rfl (by omega) _ 0 [] rfl O2.out a xs.length c (prC xs) rfl HN.out (prC_len xs) (prC_one xs) (by omega) (by omega) (by simp) ?_; intro l' w4 hown' hgrow hplace; rw [Nat.zero_add] at hown'; have O4 := Lib.hid (show O6 w4 w1.heap.size l' xs from hown'); have G4 := Lib.hid hgrow; obtain ⟨g, cap, rfl, hgb, hgl⟩ := O6.isRow O4.out (by omega); clear hown' hgrow hplace)
  have hz1 := HZ1.out
  have HX := Lib.hid (Hd.grown (H1.out.al (.cells #[] 57)) G4.out (show some W.heap.size ≠ some w1.heap.size from fun e => by injection e with e; omega))
  have BW := Lib.hid (show Below w1.heap.size w1 w4 from B2.out.grown G4.out (by simp) (fun b e => by cases e; exact Nat.le_refl _))
  obtain ⟨m0, m1, m2, m3, m4, m5, -⟩ := HX.out.six
  obtain ⟨p0, p1, p2, p3, p4, p5, pf⟩ := O4.out.at hk
  have HF := Lib.hid (show NewPrs W (xs.set k y) (.returned (.slice (some ⟨g, 0, none⟩) xs.length cap)) (set6 w4 g (k * 6) (.string ⟨y.url.toArray⟩) (.int .i64 y.pri) (.int .i64 y.wt) (.int .i64 y.fails) (.int .i64 y.retry) (.bool y.gone)) from
    ⟨_, rfl, own_base (O4.out.six hk y) (by omega), bel6 (B1.out.trans (BW.out.mono B1.out.size)) (by omega) _ _ _ _ _ _⟩)
  clear HN O2 G4 H1 hz1
  generalize xs.getD k default = z at *
  go_wp2
  go_ret
  exact HF.out
end Go.Proofs.YtakiigddbdapaaaGreatDoor.Pe
