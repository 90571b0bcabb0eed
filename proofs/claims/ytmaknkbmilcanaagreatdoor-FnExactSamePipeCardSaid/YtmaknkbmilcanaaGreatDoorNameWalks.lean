
/-
  Plain facts on bytes, for the law on NameOK: which bytes begin a name, which go on. No program is named here. The walks of NameOK, of the program and of the model, and of what they call: each returns 'nameB' of the text.
-/
import Derived.Below
import Derived.Test.YtmaknkbmilcanaaGreatDoorChecked
import Derived.WalkKit
import Derived.Lib.Hide
import Derived.Lib.Strings
namespace Go.Proofs.YtmaknkbmilcanaaGreatDoor.Nm
def letB (c : Int) : Bool := decide ((97 ≤ c ∧ c ≤ 122) ∨ (65 ≤ c ∧ c ≤ 90) ∨ c = 95)
def digB (c : Int) : Bool := decide (48 ≤ c ∧ c ≤ 57)
def lowB (c : Int) : Bool := decide (97 ≤ c ∧ c ≤ 122)
/-- Whether the byte at place i may stand there. -/
def goodB (i : Nat) (c : UInt8) : Bool := letB (c.toNat : Int) || (decide (0 < i) && digB (c.toNat : Int))
def goodTo (s : ByteArray) (k : Nat) : Bool := decide (∀ i (_ : i < k) (h : i < s.size), goodB i s[i] = true)
def nameB (s : ByteArray) : Bool := decide (1 ≤ s.size) && decide (s.size ≤ 12) && goodTo s s.size
theorem good_zero (s : ByteArray) : goodTo s 0 = true := by simp [goodTo]
theorem good_succ (s : ByteArray) (k : Nat) (h : k < s.size) (hk : goodTo s k = true) (hc : goodB k s[k] = true) : goodTo s (k + 1) = true := by
  simp only [goodTo, decide_eq_true_eq] at hk ⊢
  intro i hi hs
  by_cases e : i = k
  · subst e; exact hc
  · exact hk i (by omega) hs
theorem bad_at (s : ByteArray) (k : Nat) (h : k < s.size) (hc : goodB k s[k] = false) : nameB s = false := by
  have : goodTo s s.size = false := by
    simp only [goodTo, decide_eq_false_iff_not]
    intro hh
    rw [hh k h h] at hc
    cases hc
  simp [nameB, this]
theorem name_short (s : ByteArray) (h : s.size = 0) : nameB s = false := by simp [nameB, h]
theorem name_long (s : ByteArray) (h : 12 < s.size) : nameB s = false := by
  have : ¬ s.size ≤ 12 := by omega
  simp [nameB, this]
theorem name_good (s : ByteArray) (h1 : 1 ≤ s.size) (h2 : s.size ≤ 12) (h : goodTo s s.size = true) : nameB s = true := by simp [nameB, h1, h2, h]
end Go.Proofs.YtmaknkbmilcanaaGreatDoor.Nm
namespace Go.Proofs.YtmaknkbmilcanaaGreatDoor.Nm
open Go.RowKit
theorem ret_bool {a b : Bool} (h : a = b) : Ending.returned (.bool a) = .returned (.bool b) := by rw [h]
theorem isLower_any (c : Int) (w : World) : Calls Tryz.prog 325 #[.int .i32 c] w fun e w' => e = .returned (.bool (lowB c)) ∧ w = w' := by
  go_enter Tryz.func325, Tryz.ntmps325
  go_wp2
  all_goals (go_ret; exact ⟨ret_bool (by rw [Bool.eq_iff_iff]; simp [lowB]; omega), rfl⟩)
theorem isDigit_any (c : Int) (w : World) : Calls Tryz.prog 266 #[.int .i32 c] w fun e w' => e = .returned (.bool (digB c)) ∧ w = w' := by
  go_enter Tryz.func266, Tryz.ntmps266
  go_wp2
  all_goals (go_ret; exact ⟨ret_bool (by rw [Bool.eq_iff_iff]; simp [digB]; omega), rfl⟩)
theorem startsName_any (c : Int) (w : World) : Calls Tryz.prog 265 #[.int .i32 c] w fun e w' => e = .returned (.bool (letB c)) ∧ w = w' := by
  go_enter Tryz.func265, Tryz.ntmps265
  go_wp2_with (go_at_call 325; refine (isLower_any _ _).mono ?_; rintro e w' ⟨rfl, rfl⟩)
  all_goals (go_ret; exact ⟨ret_bool (by rw [Bool.eq_iff_iff]; simp [letB, lowB] at *; omega), rfl⟩)
theorem l00Letter_any (c : Int) (w : World) : Calls Tryz.prog 269 #[.int .u8 c] w fun e w' => e = .returned (.bool (letB c)) ∧ w = w' := by
  go_enter Tryz.func269, Tryz.ntmps269
  go_wp2
  all_goals (go_ret; exact ⟨ret_bool (by rw [Bool.eq_iff_iff]; simp [letB]; omega), rfl⟩)
theorem l00Digit_any (c : Int) (w : World) : Calls Tryz.prog 270 #[.int .u8 c] w fun e w' => e = .returned (.bool (digB c)) ∧ w = w' := by
  go_enter Tryz.func270, Tryz.ntmps270
  go_wp2
  all_goals (go_ret; exact ⟨ret_bool (by rw [Bool.eq_iff_iff]; simp [digB]; omega), rfl⟩)
theorem l00Word_any (s : ByteArray) (w : World) (hs : s.size ≤ maxLen) : Calls Tryz.prog 193 #[.string s] w fun e w' => e = .returned (.bool (nameB s)) ∧ w = w' := by
  unfold maxLen at hs
  by_cases h1 : s.size < 1
  · have hn := name_short s (by omega)
    have H := Lib.hid hn; clear hn
    go_enter Tryz.func193, Tryz.ntmps193
    go_wp2
    go_ret
    exact ⟨ret_bool H.out.symm, rfl⟩
  by_cases h2 : 12 < s.size
  · have hn := name_long s h2
    have H := Lib.hid hn; clear hn
    go_enter Tryz.func193, Tryz.ntmps193
    go_wp2
    go_ret
    exact ⟨ret_bool H.out.symm, rfl⟩
  have h0 : 0 < s.size := by omega
  have d1 : decide ((s.size : Int) < 1) = false := by simp; omega
  have d2 : decide ((12 : Int) < s.size) = false := by simp; omega
  by_cases hl : letB (s[0].toNat : Int) = false
  · have hn := bad_at s 0 h0 (by simp [goodB, hl])
    have H := Lib.hid hn; clear hn
    go_enter Tryz.func193, Tryz.ntmps193
    go_wp2_with (go_at_call 269; refine (l00Letter_any _ _).mono ?_; rintro e w' ⟨rfl, rfl⟩)
    go_ret
    exact ⟨ret_bool H.out.symm, rfl⟩
  have hl' : letB (s[0].toNat : Int) = true := by simpa using hl
  clear hl
  go_enter Tryz.func193, Tryz.ntmps193
  go_wp2_with (go_at_call 269; refine (l00Letter_any _ _).mono ?_; rintro e w' ⟨rfl, rfl⟩)
  go_loop [3] (fun i => ∃ k : Nat, 1 ≤ k ∧ k ≤ s.size ∧ i = .int .i64 k ∧ goodTo s k = true) (fun i => s.size - (intOf i).toNat)
  case atStart => exact ⟨1, by omega, by omega, rfl, good_succ s 0 h0 (good_zero s) (by simp [goodB, hl'])⟩
  case round =>
    obtain ⟨k, hk1, hk2, rfl, hg⟩ := hrel
    by_cases hlt : k < s.size
    · have GS := good_succ s k hlt hg
      have BA := bad_at s k hlt
      have HG := Lib.hid GS
      have HB := Lib.hid BA
      clear GS BA hg
      by_cases c1 : letB (s[k].toNat : Int) = true
      · go_wp2_with (first | (go_at_call 269; refine (l00Letter_any _ _).mono ?_; rintro e w' ⟨rfl, rfl⟩) | (go_at_call 270; refine (l00Digit_any _ _).mono ?_; rintro e w' ⟨rfl, rfl⟩))
        go_round
        case rel => exact ⟨k + 1, by omega, by omega, by go_num, HG.out (by simp [goodB, c1])⟩
        case measure => simp [intOf]; omega
      · have c1' : letB (s[k].toNat : Int) = false := by simpa using c1
        clear c1
        by_cases c2 : digB (s[k].toNat : Int) = true
        · go_wp2_with (first | (go_at_call 269; refine (l00Letter_any _ _).mono ?_; rintro e w' ⟨rfl, rfl⟩) | (go_at_call 270; refine (l00Digit_any _ _).mono ?_; rintro e w' ⟨rfl, rfl⟩))
          go_round
          case rel => exact ⟨k + 1, by omega, by omega, by go_num, HG.out (by simp [goodB, c1', c2]; omega)⟩
          case measure => simp [intOf]; omega
        · have c2' : digB (s[k].toNat : Int) = false := by simpa using c2
          clear c2
          go_wp2_with (first | (go_at_call 269; refine (l00Letter_any _ _).mono ?_; rintro e w' ⟨rfl, rfl⟩) | (go_at_call 270; refine (l00Digit_any _ _).mono ?_; rintro e w' ⟨rfl, rfl⟩))
          go_ret
          exact ⟨ret_bool (HB.out (by simp [goodB, c1', c2'])).symm, rfl⟩
    · obtain rfl : k = s.size := by omega
      have hn := name_good s (by omega) (by omega) hg
      have H := Lib.hid hn; clear hn hg
      go_wp2
      go_ret
      exact ⟨ret_bool H.out.symm, rfl⟩
theorem toList_nil (s : ByteArray) (h : s.size = 0) : s.toList = [] := by
  rw [Lib.toList_data]; exact List.eq_nil_of_length_eq_zero (by rw [Array.length_toList]; exact h)
theorem toList_some (s : ByteArray) (h : 0 < s.size) : s.toList.isEmpty = false := by
  rw [Lib.toList_data, List.isEmpty_eq_false_iff]; intro e
  have h2 : s.data.size = 0 := by rw [← Array.length_toList, e]; rfl
  have : s.size = s.data.size := rfl
  omega
theorem letB_high (c : Int) (h : 128 ≤ c) : letB c = false := by simp [letB]; omega
theorem digB_high (c : Int) (h : 128 ≤ c) : digB c = false := by simp [digB]; omega
theorem below_iter (w : World) (s : ByteArray) (p : Nat) : Below w.heap.size w (w.iter s p) := (Below.refl _ _).alloc (Nat.le_refl _) _
theorem NameOK_any (s : ByteArray) (w : World) (hs : s.size ≤ maxLen) : Calls Tryz.prog 189 #[.string s] w fun e w' => e = .returned (.bool (nameB s)) ∧ Below w.heap.size w w' := by
  unfold maxLen at hs
  by_cases h1 : s.size < 1
  · have hn := name_short s (by omega)
    have H := Lib.hid hn; clear hn
    have he : s.toList = [] := toList_nil s (by omega)
    go_enter Tryz.func189, Tryz.ntmps189
    go_wp2
    go_ret
    exact ⟨ret_bool H.out.symm, Below.refl _ _⟩
  have he : s.toList.isEmpty = false := toList_some s (by omega)
  have he2 : ¬ s.toList = [] := by intro h; rw [h] at he; cases he
  by_cases h2 : 12 < s.size
  · have hn := name_long s h2
    have H := Lib.hid hn; clear hn
    go_enter Tryz.func189, Tryz.ntmps189
    go_wp2
    go_ret
    exact ⟨ret_bool H.out.symm, Below.refl _ _⟩
  have d2 : decide ((12 : Int) < s.size) = false := by simp; omega
  go_enter Tryz.func189, Tryz.ntmps189
  go_wp2
  go_loopw [14] (fun _ wr => ∃ k : Nat, k ≤ s.size ∧ wr = w.iter s k ∧ goodTo s k = true) (fun _ wr => s.size - wr.iterPos w.heap.size)
  case atStart => exact ⟨0, by omega, rfl, good_zero s⟩
  case round =>
    obtain ⟨k, hk2, rfl, hg⟩ := hrel
    by_cases hlt : k < s.size
    · have GS := good_succ s k hlt hg
      have BA := bad_at s k hlt
      have HG := Lib.hid GS
      have HB := Lib.hid BA
      clear GS BA hg
      by_cases ha : (s[k].toNat) < 128
      · have hnx := fun ty => run_next_ascii (P := Tryz.prog) w s k ty hlt ha
        by_cases c1 : letB (s[k].toNat : Int) = true
        · go_wp2_with (first | (go_at_call 265; refine (startsName_any _ _).mono ?_; rintro e w' ⟨rfl, rfl⟩) | (go_at_call 266; refine (isDigit_any _ _).mono ?_; rintro e w' ⟨rfl, rfl⟩))
          go_roundw
          case rel => exact ⟨k + 1, by omega, rfl, HG.out (by simp [goodB, c1])⟩
          case measure => simp; omega
        · have c1' : letB (s[k].toNat : Int) = false := by simpa using c1
          clear c1
          by_cases hk0 : k = 0
          · subst hk0
            go_wp2_with (first | (go_at_call 265; refine (startsName_any _ _).mono ?_; rintro e w' ⟨rfl, rfl⟩) | (go_at_call 266; refine (isDigit_any _ _).mono ?_; rintro e w' ⟨rfl, rfl⟩))
            go_ret
            exact ⟨ret_bool (HB.out (by simp [goodB, c1'])).symm, below_iter _ _ _⟩
          have hk0' : ((k : Int) == 0) = false := by simp; omega
          by_cases c2 : digB (s[k].toNat : Int) = true
          · go_wp2_with (first | (go_at_call 265; refine (startsName_any _ _).mono ?_; rintro e w' ⟨rfl, rfl⟩) | (go_at_call 266; refine (isDigit_any _ _).mono ?_; rintro e w' ⟨rfl, rfl⟩))
            go_roundw
            case rel => exact ⟨k + 1, by omega, rfl, HG.out (by simp [goodB, c1', c2]; omega)⟩
            case measure => simp; omega
          · have c2' : digB (s[k].toNat : Int) = false := by simpa using c2
            clear c2
            go_wp2_with (first | (go_at_call 265; refine (startsName_any _ _).mono ?_; rintro e w' ⟨rfl, rfl⟩) | (go_at_call 266; refine (isDigit_any _ _).mono ?_; rintro e w' ⟨rfl, rfl⟩))
            go_ret
            exact ⟨ret_bool (HB.out (by simp [goodB, c1', c2'])).symm, below_iter _ _ _⟩
      · have hnx := fun ty => run_next_any (P := Tryz.prog) w s k ty hlt
        have hd := (decode_high s k hlt (by omega)).1
        have c1 := letB_high (Utf8.decode s k).1 (by omega)
        have c2 := digB_high (Utf8.decode s k).1 (by omega)
        have c1' := letB_high (s[k].toNat : Int) (by omega)
        have c2' := digB_high (s[k].toNat : Int) (by omega)
        have HN : nameB s = false := HB.out (by simp [goodB, c1', c2'])
        have HN' := Lib.hid HN
        clear HN HB HG c1' c2' ha
        generalize (Utf8.decode s k).1 = c at *
        generalize (Utf8.decode s k).2 = wd at *
        by_cases hk0 : k = 0
        · subst hk0
          go_wp2_with (first | (go_at_call 265; refine (startsName_any _ _).mono ?_; rintro e w' ⟨rfl, rfl⟩) | (go_at_call 266; refine (isDigit_any _ _).mono ?_; rintro e w' ⟨rfl, rfl⟩))
          go_ret
          exact ⟨ret_bool HN'.out.symm, below_iter _ _ _⟩
        have hk0' : ((k : Int) == 0) = false := by simp; omega
        go_wp2_with (first | (go_at_call 265; refine (startsName_any _ _).mono ?_; rintro e w' ⟨rfl, rfl⟩) | (go_at_call 266; refine (isDigit_any _ _).mono ?_; rintro e w' ⟨rfl, rfl⟩))
        go_ret
        exact ⟨ret_bool HN'.out.symm, below_iter _ _ _⟩
    · obtain rfl : k = s.size := by omega
      have hn := name_good s (by omega) (by omega) hg
      have H := Lib.hid hn; clear hn hg
      have hnx := fun ty => run_next_end (P := Tryz.prog) w s s.size ty (by omega)
      go_wp2
      go_ret
      exact ⟨ret_bool H.out.symm, below_iter _ _ _⟩
end Go.Proofs.YtmaknkbmilcanaaGreatDoor.Nm
