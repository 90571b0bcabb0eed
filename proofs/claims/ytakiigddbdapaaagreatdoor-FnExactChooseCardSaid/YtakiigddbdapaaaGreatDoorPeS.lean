
/-
  What the laws on peers carry from world to world: the model's answer, the program's answer with what it owns; plain facts on sizes.
-/
import Derived.Test.YtakiigddbdapaaaGreatDoorPeL
import Derived.Test.YtakiigddbdapaaaGreatDoorPeM
namespace Go.Proofs.YtakiigddbdapaaaGreatDoor.Pe
open Go.RowKit
open Go.Proofs.YtakiigddbdapaaaGreatDoor.Mk
/-- the model's answer: all of it in blocks below s -/
structure S0 (W : World) (s : Nat) (pv : Value) (R : List Pr) (w : World) : Prop where
  B : Below W.heap.size W w
  f1 : PrIn (· < s) w pv R
  zA : W.heap.size ≤ s
  z : s ≤ w.heap.size
theorem S0.below {W w w' : World} {s : Nat} {pv : Value} {R : List Pr} (h : S0 W s pv R w) (hb : Below w.heap.size w w') : S0 W s pv R w' :=
  ⟨below_chain h.B hb, h.f1.blw (hb.mono h.z), h.zA, Nat.le_trans h.z hb.size⟩
theorem S0.ch {S : Nat → Prop} {W w w' : World} {s : Nat} {pv : Value} {R : List Pr} (h : S0 W s pv R w) (hm : Ch S w w') (hS : ∀ b, S b → s ≤ b) : S0 W s pv R w' :=
  ⟨hm.below h.B (Nat.le_trans h.zA h.z) (fun b e => Nat.le_trans h.zA (hS b e)), Ch.pr hm h.f1 (fun b hb => ⟨Nat.lt_of_lt_of_le hb h.z, fun e => by have := hS b e; omega⟩), h.zA, Nat.le_trans h.z hm.size⟩
theorem S0.r {W w : World} {s : Nat} {pv : Value} {R : List Pr} (h : S0 W s pv R w) : PrIn (· < w.heap.size) w pv R := h.f1.mono fun _ hb => Nat.lt_of_lt_of_le hb h.z
/-- besides: the program's answer, owned from s2 on -/
structure S1 (W : World) (s : Nat) (pv : Value) (R : List Pr) (s2 : Nat) (gv : Value) (G : List Pr) (w : World) : Prop where
  o : S0 W s pv R w
  z : s ≤ s2
  z2 : s2 ≤ w.heap.size
  g1 : O6 w s2 gv G
section
variable {W w w' : World} {s s2 : Nat} {pv gv : Value} {R G G' : List Pr}
theorem S1.below (h : S1 W s pv R s2 gv G w) (hb : Below w.heap.size w w') : S1 W s pv R s2 gv G w' := ⟨h.o.below hb, h.z, Nat.le_trans h.z2 hb.size, h.g1.below hb⟩
theorem S1.markX {S : Nat → Prop} (h : S1 W s pv R s2 gv G w) (hm : Ch S w w') (hS : ∀ b, S b → s ≤ b ∧ b < s2) : S1 W s pv R s2 gv G w' :=
  ⟨h.o.ch hm fun b hb => (hS b hb).1, h.z, Nat.le_trans h.z2 hm.size, own_ch hm h.g1 fun b e hb => by
    have h2 := (World.ownsRow.lt h.g1 b e).1
    have h3 := (hS b hb).2
    omega⟩
theorem S1.markG (h : S1 W s pv R s2 gv G w) (hg : w.grownBy w' gv.ownBlock) (k1 : O6 w' s2 gv G') : S1 W s pv R s2 gv G' w' :=
  ⟨h.o.ch (Ch.of_grown (S := fun b => gv.ownBlock = some b) hg fun _ e => e) (fun b e => Nat.le_trans h.z (World.ownsRow.lt h.g1 b e).1), h.z, Nat.le_trans h.z2 hg.size, k1⟩
end
theorem url_le : ∀ (xs : List Pr) (i : Nat), i < xs.length → (xs.getD i default).url.length ≤ szP xs
  | [], _, h => by simp at h
  | x :: r, 0, _ => by simp [szP]
  | x :: r, i + 1, h => by
    have := url_le r i (by simpa using h)
    simp only [szP, List.getD_cons_succ]
    omega
/-- a list that is the old one with one peer changed, or none -/
def Near (xs R : List Pr) : Prop := R.length ≤ xs.length ∧ ∀ M, (∀ i, i < xs.length → (xs.getD i default).url.length ≤ M) → ∀ i, i < R.length → (R.getD i default).url.length ≤ M
theorem near_nil (xs : List Pr) : Near xs [] := ⟨by simp, fun _ _ i hi => by simp at hi⟩
theorem near_self (xs : List Pr) : Near xs xs := ⟨Nat.le_refl _, fun _ h => h⟩
theorem near_set (xs : List Pr) (k : Nat) (y : Pr) (hy : y.url = (xs.getD k default).url) : Near xs (xs.set k y) := by
  refine ⟨by simp, fun M h i hi => ?_⟩
  have hi' : i < xs.length := by simpa using hi
  by_cases e : k = i
  · subst e
    rw [getD_set hi', hy]
    exact h k hi'
  · have : (xs.set k y).getD i default = xs.getD i default := by simp [hi', e]
    rw [this]
    exact h i hi'
theorem near_pf (xs : List Pr) (k now : Int) : Near xs (pfR xs k now) := by
  unfold pfR
  split
  · exact near_set _ _ _ rfl
  · exact near_nil _
theorem near_pw (xs : List Pr) (k : Int) : Near xs (pwR xs k) := by
  unfold pwR
  split
  · exact near_set _ _ _ rfl
  · exact near_nil _
theorem near_pg (xs : List Pr) (k : Int) : Near xs (pgR xs k) := by
  unfold pgR
  split
  · split
    · exact near_self _
    · exact near_set _ _ _ rfl
  · exact near_nil _
end Go.Proofs.YtakiigddbdapaaaGreatDoor.Pe
