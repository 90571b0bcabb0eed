
/-
  The walks of NameOK, of the program and of the model, and of what they call: each returns 'nameB' of the text.
-/
import Derived.Test.YtniflfgnelfpbaaChecked
import Derived.Test.YtniflfgnelfpbaaNamePlain
import Derived.WalkKit
import Derived.Lib.Hide
import Derived.Lib.Strings
namespace Go.Proofs.Ytniflfgnelfpbaa.Nm
open Go.RowKit
theorem ret_bool {a b : Bool} (h : a = b) : Ending.returned (.bool a) = .returned (.bool b) := by rw [h]
theorem isLower_any (c : Int) (w : World) : Calls Try.prog 37 #[.int .i32 c] w fun e w' => e = .returned (.bool (lowB c)) ∧ w = w' := by
  go_enter Try.func37, Try.ntmps37
  go_wp2
  all_goals (go_ret; exact ⟨ret_bool (by rw [Bool.eq_iff_iff]; simp [lowB]; omega), rfl⟩)
theorem toList_nil (s : ByteArray) (h : s.size = 0) : s.toList = [] := by
  rw [Lib.toList_data]; exact List.eq_nil_of_length_eq_zero (by rw [Array.length_toList]; exact h)
theorem toList_some (s : ByteArray) (h : 0 < s.size) : s.toList.isEmpty = false := by
  rw [Lib.toList_data, List.isEmpty_eq_false_iff]; intro e
  have h2 : s.data.size = 0 := by rw [← Array.length_toList, e]; rfl
  have : s.size = s.data.size := rfl
  omega
theorem letB_high (c : Int) (h : 128 ≤ c) : letB c = false := by simp [letB]; omega
theorem digB_high (c : Int) (h : 128 ≤ c) : digB c = false := by simp [digB]; omega
theorem below_iter (w : World) (s : ByteArray) (p : Nat) : Below w.heap.size w (w.iter s p) := (Below.refl _ _).alloc (Nat.le_refl _) _
end Go.Proofs.Ytniflfgnelfpbaa.Nm
