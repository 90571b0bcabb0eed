
/-
  The walks of the model's small functions of chapter 2: what each returns, as the plain functions say it.
-/
import Derived.Test.YtniflfgnelfpbaaChecked
import Derived.Test.YtniflfgnelfpbaaUrlPlain
import Derived.WalkKit
import Derived.WalkSpells
import Derived.WalkLawsBesides
import Derived.Lib.Hide
namespace Go.Proofs.Ytniflfgnelfpbaa.Ul
open Go.RowKit
theorem ret_bool {a b : Bool} (h : a = b) : Ending.returned (.bool a) = .returned (.bool b) := by rw [h]
theorem ret_int {a b : Int} (h : a = b) : Ending.returned (.int .i64 a) = .returned (.int .i64 b) := by rw [h]
theorem ret_str {a b : List UInt8} (h : a = b) : Ending.returned (.string ⟨a.toArray⟩) = .returned (.string ⟨b.toArray⟩) := by rw [h]
/-- A byte of a text under a name of its own. -/
theorem byte_at (l : List UInt8) (k : Nat) (h : k < l.length) : ∃ x : UInt8, l[k] = x ∧ ∀ h' : k < (⟨l.toArray⟩ : ByteArray).size, (⟨l.toArray⟩ : ByteArray)[k] = x := ⟨_, rfl, fun _ => rfl⟩
theorem in_any (n a b : Int) (w : World) : Calls Try.prog 36 #[.int .i64 n, .int .i64 a, .int .i64 b] w fun e w' => e = .returned (.bool (decide (a ≤ n ∧ n ≤ b))) ∧ w = w' := by
  go_enter Try.func36, Try.ntmps36
  go_wp2
  all_goals (go_ret; exact ⟨ret_bool (by rw [Bool.eq_iff_iff]; simp; omega), rfl⟩)
theorem in_yes (n a b : Int) (w : World) (h : a ≤ n ∧ n ≤ b) : Calls Try.prog 36 #[.int .i64 n, .int .i64 a, .int .i64 b] w fun e w' => e = .returned (.bool true) ∧ w = w' := by
  have := in_any n a b w
  rwa [show decide (a ≤ n ∧ n ≤ b) = true from by simpa using h] at this
theorem in_no (n a b : Int) (w : World) (h : ¬ (a ≤ n ∧ n ≤ b)) : Calls Try.prog 36 #[.int .i64 n, .int .i64 a, .int .i64 b] w fun e w' => e = .returned (.bool false) ∧ w = w' := by
  have := in_any n a b w
  rwa [show decide (a ≤ n ∧ n ≤ b) = false from by simpa using h] at this
theorem low_cases (x : UInt8) (h : ¬ (97 ≤ x.toNat ∧ x.toNat ≤ 122)) : decide ((97 : Int) ≤ x.toNat) = false ∨ (decide ((97 : Int) ≤ x.toNat) = true ∧ decide ((x.toNat : Int) ≤ 122) = false) := by
  by_cases h1 : 97 ≤ x.toNat
  · exact .inr ⟨by simp; omega, by simp; omega⟩
  · exact .inl (by simp; omega)
end Go.Proofs.Ytniflfgnelfpbaa.Ul
