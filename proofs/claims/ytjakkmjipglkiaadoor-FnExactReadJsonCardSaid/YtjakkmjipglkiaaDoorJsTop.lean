
/-
  The program's valueOf, JsonOK and SameJson, and the model's SameJson, walked.
-/
import Derived.Test.YtjakkmjipglkiaaDoorJsVal
namespace Go.Proofs.YtjakkmjipglkiaaDoor.Js
open Go.RowKit
open Go.Proofs.YtjakkmjipglkiaaDoor.Ext (up up_below up_mk wp_region_ext call_ext call_ext_same call_ext_drewN)
theorem szL_norm : ∀ (xs : List J), (∀ x ∈ xs, szJ (normJ x) ≤ szJ x) → szL (normL xs) ≤ szL xs
  | [], _ => Nat.le_refl _
  | x :: xs, h => by
    have h1 := h x (by simp)
    have h2 := szL_norm xs (fun y hy => h y (by simp [hy]))
    simp only [normL, szL]
    omega
theorem szJ_norm (j : J) : szJ (normJ j) ≤ szJ j := by
  induction j using J.ind with
  | h k n t ns xs ih =>
    have hL := szL_norm xs ih
    have hl := normL_length xs
    unfold normJ
    split
    · simp [szJ, szT, szL]
    split
    · simp [szJ, szT, szL]
    split
    · simp [szJ, szT, szL]
    split
    · simp [szJ, szT, szL]
      omega
    split
    · simp only [szJ, szT, hl, List.length_nil]
      omega
    split
    · simp only [szJ, hl, List.length_nil]
      omega
    · simp [szJ, szT, szL]
def ValPost (B : Nat) (W : World) (r : Bool) (j : J) (e : Ending) (w' : World) : Prop := ∃ v, e = .returned (.tuple #[v, .bool r]) ∧ (r = true → VIn (Sb B W w') w' v (normJ j)) ∧ Below W.heap.size W w'
theorem valPost_no {B : Nat} {W w' : World} {j : J} {v : Value} (h : Below W.heap.size W w') : ValPost B W false j (.returned (.tuple #[v, .bool false])) w' := ⟨v, rfl, (fun h => by cases h), h⟩
theorem sb_lt {B : Nat} {W w' : World} (hB : B ≤ W.heap.size) (hs : W.heap.size ≤ w'.heap.size) {b : Nat} (h : Sb B W w' b) : b < w'.heap.size := by
  rcases h with h | h <;> omega
theorem sb_lt2 {B : Nat} {W w2 : World} {o : Obj} {b : Nat} (h : Sb B (W.alloc o) w2 b) (hs : W.heap.size < w2.heap.size) (hB : B ≤ W.heap.size) : b < w2.heap.size := by
  rcases h with h | h
  · omega
  · exact h.2
theorem sb_up {B : Nat} {W w2 w' : World} (hs : w2.heap.size ≤ w'.heap.size) {b : Nat} (h : Sb B W w2 b) : Sb B W w' b := by
  rcases h with h | h
  · exact .inl h
  · exact .inr ⟨h.1, by omega⟩
theorem jin_lift {B : Nat} {w0 W w2 wx : World} {j : J} {nv iv : Value} (h : JIn (· < B) w0 j nv iv) (hb : Below B w0 W) (h2 : Below W.heap.size W w2) (hB : B ≤ W.heap.size) (hB2 : B ≤ w2.heap.size) (hx : Below w2.heap.size w2 wx) (hs : w2.heap.size ≤ wx.heap.size) : JIn (· < wx.heap.size) wx j nv iv :=
  (h.blw ((hb.trans (h2.mono hB)).trans (hx.mono hB2))).mono fun b hb => by omega
theorem jin_new {m : Nat} {w : World} {j : J} {nv iv : Value} (h : JIn (fun b => m ≤ b ∧ b < w.heap.size) w j nv iv) : JIn (· < w.heap.size) w j nv iv := h.mono fun _ hb => hb.2
end Go.Proofs.YtjakkmjipglkiaaDoor.Js
