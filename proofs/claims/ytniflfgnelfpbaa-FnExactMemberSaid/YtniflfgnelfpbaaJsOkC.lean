
/-
  The model's l02OK at a list or an object that is not valid by itself.
-/
import Derived.Test.YtniflfgnelfpbaaJsEqS
namespace Go.Proofs.Ytniflfgnelfpbaa.Js
open Go.RowKit
set_option maxRecDepth 100000 in
set_option maxHeartbeats 4000000 in
theorem okS_bad6 (n d : Int) (t : List UInt8) (a a' : Option Addr) (nl xl c c' : Nat)  (W : World) (hbad : n ≠ 0 ∨ t ≠ [] ∨ d = 1 ∨ 12 < xl ∨ nl ≠ xl) :
    Calls Try.prog 21 #[.agg #[.int .i64 6, .int .i64 n, .string ⟨t.toArray⟩, .slice a nl c, .slice a' xl c'], .int .i64 d] W fun e w' => e = .returned (.bool false) ∧ Below W.heap.size W w' := by
  obtain ⟨b1, e1⟩ : ∃ b, ((nl : Int) == 0) = b := ⟨_, rfl⟩
  obtain ⟨b2, e2⟩ : ∃ b, ((xl : Int) == 0) = b := ⟨_, rfl⟩
  by_cases hn : n = 0
  · subst hn
    cases t with
    | cons x t =>
      clear hbad
      cases b1 <;> cases b2
      all_goals
        go_enter Try.func21, Try.ntmps21
        go_wp2
        go_ret
        exact ⟨ret_b (by rfl), (Below.refl _ _).alloc (Nat.le_refl _) _⟩
    | nil =>
      by_cases hd : d = 1
      · subst hd
        clear hbad
        cases b1 <;> cases b2
        all_goals
          go_enter Try.func21, Try.ntmps21
          go_wp2
          go_ret
          exact ⟨ret_b (by rfl), (Below.refl _ _).alloc (Nat.le_refl _) _⟩
      · have g3 : (d == 1) = false := by simpa using hd
        by_cases hx : 12 < xl
        · have g4 : decide (12 < (xl : Int)) = true := by simp; omega
          clear hbad hd
          cases b1 <;> cases b2
          all_goals
            go_enter Try.func21, Try.ntmps21
            go_wp2
            go_ret
            exact ⟨ret_b (by rfl), (Below.refl _ _).alloc (Nat.le_refl _) _⟩
        · have g4 : decide (12 < (xl : Int)) = false := by simp; omega
          have h5 : nl ≠ xl := by simpa [hd, hx] using hbad
          have g5 : ((nl : Int) != (xl : Int)) = true := by simp only [bne_iff_ne, ne_eq]; omega
          clear hbad hd
          cases b1 <;> cases b2
          all_goals
            go_enter Try.func21, Try.ntmps21
            go_wp2
            go_ret
            exact ⟨ret_b (by rfl), (Below.refl _ _).alloc (Nat.le_refl _) _⟩
  · have g1 : (n != 0) = true := by simpa using hn
    clear hbad hn
    cases b1 <;> cases b2
    all_goals
      go_enter Try.func21, Try.ntmps21
      go_wp2
      go_ret
      exact ⟨ret_b (by rfl), (Below.refl _ _).alloc (Nat.le_refl _) _⟩
end Go.Proofs.Ytniflfgnelfpbaa.Js
