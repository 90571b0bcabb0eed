
/-
  Peers appended onto an own row; a cell of an own row set; strings.Clone, slices.Clone of peers; the model's l07Put, walked.
-/
import Derived.Test.YtakiigddbdapaaaDoorPeT
import Derived.Test.YtakiigddbdapaaaDoorShelf
import Derived.Test.YtakiigddbdapaaaDoorApp
import Derived.Deep.Upon
import Derived.Deep.RegionHeld3
namespace Go.Proofs.YtakiigddbdapaaaDoor.Apq
open Go.RowKit
section
variable {P : Program} (w : World)
/-- append of a row, which may be empty -/
theorem wpList_app_any {ops : Array Oper} {rest : List Oper} {o : Oper} {a : Act} {Q : Exit → Act → World → Prop} (hgd : o.guard = none) (s x : Operand) (t : TypeId)
    (ho : o.op = .call { callee := .builtin .append, args := #[s, x], argTypes := #[t, t] })
    (base : Nat) (e : TypeId) (i : TypeInfo) (z : Value) (size bytes : Nat) (ht : P.underlying t = some (.slice e)) (hi : P.info? e = some i) (hz : i.zero = some z)
    (hsize : i.size = size) (hby : i.bytes = bytes) (hzs : z.cells.size = size) (hsz : 0 < size)
    (v : Value) (n : Nat) (xs : List Value) (hs : a.eval s = v) (hown : w.ownsRow base e size v n xs)
    (xo : Option Addr) (m c : Nat) (news : List Value) (hx : a.eval x = .slice xo m c) (hm : 0 < m → ∃ ad, xo = some ad ∧ ∀ j u, news[j]? = some u → w.cell? (ad.add j) = some u) (hl : news.length = m * size) (h1 : ∀ u ∈ news, u.oneCell' = true)
    (h63 : n + m ≤ 9223372036854775807) (hbytes : (n + m) * bytes ≤ 140737488355328) (hbase : base ≤ w.heap.size)
    (h : ∀ v' w', w'.ownsRow base e size v' (n + m) (xs ++ news) → w.grownBy w' v.ownBlock → (v'.ownBlock = v.ownBlock ∨ v'.ownBlock = some w.heap.size) → wpList P ops Q rest (a.put o.dst v') w') : wpList P ops Q (o :: rest) a w := by
  by_cases hm0 : m = 0
  · subst hm0
    have hn0 : news = [] := List.eq_nil_of_length_eq_zero (by rw [hl]; omega)
    subst hn0
    have hsrc : Src P i.size t (.slice xo 0 c) 0 [] w := by
      cases xo with
      | none => exact Src.ofNil w ht c
      | some ad => exact Src.ofSlice w ht ad 0 c [] (by simp) (fun j u h => by simp at h) (fun u h => by cases h)
    have hr : (Builtin.append_ #[t, t] o.type #[v, .slice xo 0 c]).run P w = .ok v w := by
      rcases hown.2 with ⟨rfl, rfl⟩ | ⟨g, cap, cur, rfl, _, _, hnc, _⟩
      · exact run_append_nothing w t t o.type e i ht hi none 0 0 (Nat.le_refl _) _ hsrc
      · exact run_append_nothing w t t o.type e i ht hi _ n cap hnc _ hsrc
    refine wpList_plain hgd fun K hK => ?_
    unfold Oper.wp execOp
    simp only [ho, resolve, invoke, builtin, Sem.run_bind, Sem.run_pure, Result.andThen_ok, List.map_toArray, List.map_cons, List.map_nil, hs, hx, hr]
    exact hK _ _ (h v w (by simpa using hown) ⟨rfl, rfl, rfl, Nat.le_refl _, fun _ _ _ => rfl⟩ (.inl rfl))
  · obtain ⟨ad, rfl, hc⟩ := hm (by omega)
    exact App.wpList_app w hgd s x t ho base e i z size bytes ht hi hz hsize hby hzs hsz v n xs hs hown ad m c news hx (by omega) hl hc h1 h63 hbytes hbase h
end
end Go.Proofs.YtakiigddbdapaaaDoor.Apq
namespace Go.Proofs.YtakiigddbdapaaaDoor.Pe
open Go.RowKit
open Go.Proofs.YtakiigddbdapaaaDoor.Gr (belI_step belI_alloc heap_set ret_b ret_i)
open Go.Proofs.YtakiigddbdapaaaDoor.Mk
theorem add_at (b off j : Nat) : (({ block := b, off := off } : Addr).add j) = ⟨b, off + j, none⟩ := by unfold Addr.add; split <;> simp_all
theorem pr_news {S : Nat → Prop} {w : World} {v : Value} {xs : List Pr} (h : PrIn S w v xs) : ∃ a c, v = .slice a xs.length c ∧ (0 < xs.length → ∃ ad, a = some ad ∧ ∀ j u, (prC xs)[j]? = some u → w.cell? (ad.add j) = some u) := by
  obtain ⟨a, cap, b, off, rfl, h1, h2, h3, h4, h5⟩ := h
  refine ⟨a, cap, rfl, fun hp => ⟨_, (h4 hp).1, fun j u hj => ?_⟩⟩
  have hlt : j < xs.length * 6 := by
    have := (List.getElem?_eq_some_iff.1 hj).1
    rwa [prC_len] at this
  obtain ⟨g0, g1, g2, g3, g4, g5⟩ := prC_get xs (j / 6) (by omega)
  obtain ⟨c0, c1, c2, c3, c4, c5⟩ := h5 (j / 6) (by omega)
  rw [add_at]
  rcases (show j % 6 = 0 ∨ j % 6 = 1 ∨ j % 6 = 2 ∨ j % 6 = 3 ∨ j % 6 = 4 ∨ j % 6 = 5 by omega) with e | e | e | e | e | e
  · have ej : j = j / 6 * 6 := by omega
    rw [← ej] at g0 c0
    rw [g0] at hj
    rw [c0, hj]
  · have ej : j = j / 6 * 6 + 1 := by omega
    rw [← ej] at g1
    rw [Nat.add_assoc, ← ej] at c1
    rw [g1] at hj
    rw [c1, hj]
  · have ej : j = j / 6 * 6 + 2 := by omega
    rw [← ej] at g2
    rw [Nat.add_assoc, ← ej] at c2
    rw [g2] at hj
    rw [c2, hj]
  · have ej : j = j / 6 * 6 + 3 := by omega
    rw [← ej] at g3
    rw [Nat.add_assoc, ← ej] at c3
    rw [g3] at hj
    rw [c3, hj]
  · have ej : j = j / 6 * 6 + 4 := by omega
    rw [← ej] at g4
    rw [Nat.add_assoc, ← ej] at c4
    rw [g4] at hj
    rw [c4, hj]
  · have ej : j = j / 6 * 6 + 5 := by omega
    rw [← ej] at g5
    rw [Nat.add_assoc, ← ej] at c5
    rw [g5] at hj
    rw [c5, hj]
theorem prC_one : ∀ xs : List Pr, ∀ u ∈ prC xs, u.oneCell' = true
  | [], u, h => by cases h
  | t :: r, u, h => by
    simp only [prC, List.mem_cons] at h
    rcases h with rfl | rfl | rfl | rfl | rfl | rfl | h
    · rfl
    · rfl
    · rfl
    · rfl
    · rfl
    · rfl
    · exact prC_one r u h
theorem cloneS_any (t : List UInt8) (w : World) (hm : t.length ≤ 1048576) : Calls Tryd.prog 83 #[.string ⟨t.toArray⟩] w fun e w' => e = .returned (.string ⟨t.toArray⟩) ∧ Below w.heap.size w w' := by
  go_enter Tryd.func83, Tryd.ntmps83
  go_wp2_with fail
  refine (Tryd.stringslite_Clone ⟨t.toArray⟩ _ (by show t.toArray.size ≤ _; simp; omega)).mono ?_
  rintro e w1 ⟨rfl, hb⟩
  have HB := Lib.hid hb
  clear hb
  go_wp2
  go_ret
  exact ⟨rfl, HB.out⟩
theorem O6_made (W : World) : O6 (W.alloc (.cells #[] 51)) W.heap.size (.slice (some ⟨W.heap.size, 0, none⟩) 0 0) [] := World.ownsRow_made W #[] 0 (Nat.le_refl _) (by decide) rfl
/-! ### a cell of an own row is set -/
theorem own_set {w : World} {B m n g cap : Nat} {T : TypeId} {xs : List Value} (h : w.ownsRow B T m (.slice (some ⟨g, 0, none⟩) n cap) n xs) (o : Nat) (v : Value) : (w.setCell ⟨g, o, none⟩ v).ownsRow B T m (.slice (some ⟨g, 0, none⟩) n cap) n (xs.set o v) := by
  obtain ⟨h1, h2⟩ := h
  refine ⟨by rw [List.length_set]; exact h1, ?_⟩
  rcases h2 with ⟨e, _⟩ | ⟨g', cap', cur, e, hb, hg, hnc, hcm, hs, ht⟩
  · cases e
  · injection e with e1 e2 e3
    injection e1 with e1
    injection e1 with e4
    subst e4 e3
    refine .inr ⟨g, cap, cur.setIfInBounds o v, rfl, hb, heap_set hg o v, hnc, hcm, by simpa using hs, ?_⟩
    rw [Array.toList_setIfInBounds, List.take_set, ht]
theorem own_frozen {w : World} {B m n g cap : Nat} {T : TypeId} {xs : List Value} (h : w.ownsRow B T m (.slice (some ⟨g, 0, none⟩) n cap) n xs) (o : Nat) : w.frozen? ⟨g, o, none⟩ = false := by
  rcases h.2 with ⟨e, _⟩ | ⟨g', cap', cur, e, hb, hg, hnc, hcm, hs, ht⟩
  · cases e
  · injection e with e1 e2 e3
    injection e1 with e1
    injection e1 with e4
    subst e4
    exact frozen_of_row w g o _ _ hg
theorem own_cell {w : World} {B m n g cap : Nat} {T : TypeId} {xs : List Value} (h : w.ownsRow B T m (.slice (some ⟨g, 0, none⟩) n cap) n xs) (o : Nat) (v : Value) (ho : xs[o]? = some v) : w.cell? ⟨g, o, none⟩ = some v := by
  rcases h.2 with ⟨e, _⟩ | ⟨g', cap', cur, e, hb, hg, hnc, hcm, hs, ht⟩
  · cases e
  · injection e with e1 e2 e3
    injection e1 with e1
    injection e1 with e4
    subst e4
    have hlt : o < n * m := by have := (List.getElem?_eq_some_iff.1 ho).1; rw [h.1] at this; exact this
    rw [← ht, List.getElem?_take_of_lt hlt] at ho
    simp [World.cell?, hg]
    simpa using ho
theorem prC_six : ∀ (xs : List Pr) (k : Nat) (y : Pr), k < xs.length → ((((((prC xs).set (k * 6) (.string ⟨y.url.toArray⟩)).set (k * 6 + 1) (.int .i64 y.pri)).set (k * 6 + 2) (.int .i64 y.wt)).set (k * 6 + 3) (.int .i64 y.fails)).set (k * 6 + 4) (.int .i64 y.retry)).set (k * 6 + 5) (.bool y.gone) = prC (xs.set k y)
  | [], k, y, h => by simp at h
  | t :: r, 0, y, _ => rfl
  | t :: r, k + 1, y, h => by
    have ih := prC_six r k y (by simpa using h)
    have e : (k + 1) * 6 = k * 6 + 1 + 1 + 1 + 1 + 1 + 1 := by omega
    rw [e]
    simpa [prC] using ih
theorem prC_fails : ∀ (xs : List Pr) (k : Nat) (f : Int), k < xs.length → (prC xs).set (k * 6 + 3) (.int .i64 f) = prC (xs.set k { xs.getD k default with fails := f })
  | [], k, f, h => by simp at h
  | t :: r, 0, f, _ => rfl
  | t :: r, k + 1, f, h => by
    have ih := prC_fails r k f (by simpa using h)
    have e : (k + 1) * 6 + 3 = k * 6 + 3 + 1 + 1 + 1 + 1 + 1 + 1 := by omega
    rw [e]
    simpa [prC] using ih
theorem prC_retry : ∀ (xs : List Pr) (k : Nat) (f : Int), k < xs.length → (prC xs).set (k * 6 + 4) (.int .i64 f) = prC (xs.set k { xs.getD k default with retry := f })
  | [], k, f, h => by simp at h
  | t :: r, 0, f, _ => rfl
  | t :: r, k + 1, f, h => by
    have ih := prC_retry r k f (by simpa using h)
    have e : (k + 1) * 6 + 4 = k * 6 + 4 + 1 + 1 + 1 + 1 + 1 + 1 := by omega
    rw [e]
    simpa [prC] using ih
theorem prC_gone : ∀ (xs : List Pr) (k : Nat) (f : Bool), k < xs.length → (prC xs).set (k * 6 + 5) (.bool f) = prC (xs.set k { xs.getD k default with gone := f })
  | [], k, f, h => by simp at h
  | t :: r, 0, f, _ => rfl
  | t :: r, k + 1, f, h => by
    have ih := prC_gone r k f (by simpa using h)
    have e : (k + 1) * 6 + 5 = k * 6 + 5 + 1 + 1 + 1 + 1 + 1 + 1 := by omega
    rw [e]
    simpa [prC] using ih
section
variable {w : World} {base g cap k : Nat} {xs : List Pr}
theorem O6.six (h : O6 w base (.slice (some ⟨g, 0, none⟩) xs.length cap) xs) (hk : k < xs.length) (y : Pr) : O6 (set6 w g (k * 6) (.string ⟨y.url.toArray⟩) (.int .i64 y.pri) (.int .i64 y.wt) (.int .i64 y.fails) (.int .i64 y.retry) (.bool y.gone)) base (.slice (some ⟨g, 0, none⟩) xs.length cap) (xs.set k y) := by
  have h6 := own_set (own_set (own_set (own_set (own_set (own_set h (k * 6) (.string ⟨y.url.toArray⟩)) (k * 6 + 1) (.int .i64 y.pri)) (k * 6 + 2) (.int .i64 y.wt)) (k * 6 + 3) (.int .i64 y.fails)) (k * 6 + 4) (.int .i64 y.retry)) (k * 6 + 5) (.bool y.gone)
  rw [prC_six xs k y hk] at h6
  unfold O6; rw [List.length_set]; exact h6
theorem O6.fails (h : O6 w base (.slice (some ⟨g, 0, none⟩) xs.length cap) xs) (hk : k < xs.length) (f : Int) : O6 (w.setCell ⟨g, k * 6 + 3, none⟩ (.int .i64 f)) base (.slice (some ⟨g, 0, none⟩) xs.length cap) (xs.set k { xs.getD k default with fails := f }) := by
  have h6 := own_set h (k * 6 + 3) (.int .i64 f)
  rw [prC_fails xs k f hk] at h6
  unfold O6; rw [List.length_set]; exact h6
theorem O6.retry (h : O6 w base (.slice (some ⟨g, 0, none⟩) xs.length cap) xs) (hk : k < xs.length) (f : Int) : O6 (w.setCell ⟨g, k * 6 + 4, none⟩ (.int .i64 f)) base (.slice (some ⟨g, 0, none⟩) xs.length cap) (xs.set k { xs.getD k default with retry := f }) := by
  have h6 := own_set h (k * 6 + 4) (.int .i64 f)
  rw [prC_retry xs k f hk] at h6
  unfold O6; rw [List.length_set]; exact h6
theorem O6.gone (h : O6 w base (.slice (some ⟨g, 0, none⟩) xs.length cap) xs) (hk : k < xs.length) (f : Bool) : O6 (w.setCell ⟨g, k * 6 + 5, none⟩ (.bool f)) base (.slice (some ⟨g, 0, none⟩) xs.length cap) (xs.set k { xs.getD k default with gone := f }) := by
  have h6 := own_set h (k * 6 + 5) (.bool f)
  rw [prC_gone xs k f hk] at h6
  unfold O6; rw [List.length_set]; exact h6
theorem O6.at (h : O6 w base (.slice (some ⟨g, 0, none⟩) xs.length cap) xs) (hk : k < xs.length) : w.cell? ⟨g, k * 6, none⟩ = some (.string ⟨(xs.getD k default).url.toArray⟩) ∧ w.cell? ⟨g, k * 6 + 1, none⟩ = some (.int .i64 (xs.getD k default).pri) ∧ w.cell? ⟨g, k * 6 + 2, none⟩ = some (.int .i64 (xs.getD k default).wt) ∧ w.cell? ⟨g, k * 6 + 3, none⟩ = some (.int .i64 (xs.getD k default).fails) ∧ w.cell? ⟨g, k * 6 + 4, none⟩ = some (.int .i64 (xs.getD k default).retry) ∧ w.cell? ⟨g, k * 6 + 5, none⟩ = some (.bool (xs.getD k default).gone) ∧ ∀ o, w.frozen? ⟨g, o, none⟩ = false := by
  obtain ⟨e0, e1, e2, e3, e4, e5⟩ := prC_get xs k hk
  exact ⟨own_cell h _ _ e0, own_cell h _ _ e1, own_cell h _ _ e2, own_cell h _ _ e3, own_cell h _ _ e4, own_cell h _ _ e5, own_frozen h⟩
theorem O6.isRow {v : Value} (h : O6 w base v xs) (hk : 0 < xs.length) : ∃ g cap, v = .slice (some ⟨g, 0, none⟩) xs.length cap ∧ base ≤ g ∧ g < w.heap.size := by
  rcases h.2 with ⟨rfl, h0⟩ | ⟨g, cap, cur, rfl, hb, hg, _⟩
  · omega
  · exact ⟨g, cap, rfl, hb, (Array.getElem?_eq_some_iff.1 hg).1⟩
end
end Go.Proofs.YtakiigddbdapaaaDoor.Pe
