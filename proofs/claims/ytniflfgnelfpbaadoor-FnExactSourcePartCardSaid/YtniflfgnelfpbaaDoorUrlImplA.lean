
/-
  The walks of the program's small functions of chapter 2: each returns what the plain function says.
-/
import Derived.Test.YtniflfgnelfpbaaDoorUrlSpecA
import Derived.Test.YtniflfgnelfpbaaDoorUrlPlainB
import Derived.Test.YtniflfgnelfpbaaDoorShelf
namespace Go.Proofs.YtniflfgnelfpbaaDoor.Ul
open Go.RowKit
theorem below_iter (w : World) (s : ByteArray) (p : Nat) : Below w.heap.size w (w.iter s p) := (Below.refl _ _).alloc (Nat.le_refl _) _
/-! ### A range over a text -/
theorem next_low (P : Program) (w : World) (l : List UInt8) (k : Nat) (x : UInt8) (h : k < l.length) (hx : l[k] = x) (ha : x.toNat < 128) (ty : TypeId) :
    (Instr.next (.pointer (some ⟨w.heap.size, 0, none⟩)) true ty).run P (w.iter ⟨l.toArray⟩ k) = .ok (.tuple #[.bool true, .int .i64 k, .int .i32 x.toNat]) (w.iter ⟨l.toArray⟩ (k + 1)) := by
  have h' : k < (⟨l.toArray⟩ : ByteArray).size := h
  have e : (⟨l.toArray⟩ : ByteArray)[k]'h' = x := hx
  have := run_next_ascii (P := P) w ⟨l.toArray⟩ k ty h' (by rw [e]; exact ha)
  rw [e] at this
  exact this
theorem next_high (P : Program) (w : World) (l : List UInt8) (k : Nat) (x : UInt8) (h : k < l.length) (hx : l[k] = x) (ha : ¬ x.toNat < 128) :
    ∃ (c n : Nat), 128 ≤ c ∧ ∀ ty : TypeId, (Instr.next (.pointer (some ⟨w.heap.size, 0, none⟩)) true ty).run P (w.iter ⟨l.toArray⟩ k) = .ok (.tuple #[.bool true, .int .i64 k, .int .i32 c]) (w.iter ⟨l.toArray⟩ n) := by
  have h' : k < (⟨l.toArray⟩ : ByteArray).size := h
  have e : (⟨l.toArray⟩ : ByteArray)[k]'h' = x := hx
  exact ⟨_, _, (decode_high ⟨l.toArray⟩ k h' (by rw [e]; omega)).1, fun ty => run_next_any (P := P) w ⟨l.toArray⟩ k ty h'⟩
theorem next_end (P : Program) (w : World) (l : List UInt8) (ty : TypeId) :
    (Instr.next (.pointer (some ⟨w.heap.size, 0, none⟩)) true ty).run P (w.iter ⟨l.toArray⟩ l.length) = .ok (.tuple #[.bool false]) (w.iter ⟨l.toArray⟩ l.length) :=
  run_next_end (P := P) w ⟨l.toArray⟩ l.length ty (Nat.lt_irrefl _)
/-! ### Runes -/
theorem isLower_yes (c : Int) (w : World) (h : 97 ≤ c ∧ c ≤ 122) : Calls Tryd.prog 102 #[.int .i32 c] w fun e w' => e = .returned (.bool true) ∧ w = w' := by
  obtain ⟨h1, h2⟩ := h
  go_enter Tryd.func102, Tryd.ntmps102
  go_wp2
  go_ret
  exact ⟨ret_bool (by first | rfl | simp [h2]), rfl⟩
theorem isLower_no (c : Int) (w : World) (h : ¬ (97 ≤ c ∧ c ≤ 122)) : Calls Tryd.prog 102 #[.int .i32 c] w fun e w' => e = .returned (.bool false) ∧ w = w' := by
  go_enter Tryd.func102, Tryd.ntmps102
  go_wp2
  all_goals (go_ret; exact ⟨ret_bool (by first | rfl | (simp; omega)), rfl⟩)
theorem isDigit_yes (c : Int) (w : World) (h : 48 ≤ c ∧ c ≤ 57) : Calls Tryd.prog 122 #[.int .i32 c] w fun e w' => e = .returned (.bool true) ∧ w = w' := by
  obtain ⟨h1, h2⟩ := h
  go_enter Tryd.func122, Tryd.ntmps122
  go_wp2
  go_ret
  exact ⟨ret_bool (by first | rfl | simp [h2]), rfl⟩
theorem isDigit_no (c : Int) (w : World) (h : ¬ (48 ≤ c ∧ c ≤ 57)) : Calls Tryd.prog 122 #[.int .i32 c] w fun e w' => e = .returned (.bool false) ∧ w = w' := by
  go_enter Tryd.func122, Tryd.ntmps122
  go_wp2
  all_goals (go_ret; exact ⟨ret_bool (by first | rfl | (simp; omega)), rfl⟩)
theorem isWeb_any (l : List UInt8) (w : World) : Calls Tryd.prog 77 #[.string ⟨l.toArray⟩] w fun e w' => e = .returned (.bool (webB l)) ∧ w = w' := by
  go_enter Tryd.func77, Tryd.ntmps77
  go_wp2
  all_goals (go_ret; exact ⟨ret_bool (by rw [Bool.eq_iff_iff]; simp_all [webB, http, https]), rfl⟩)
def dport (l : List UInt8) : Int := if l == http then 80 else if l == https then 443 else 0
theorem dport_any (l : List UInt8) (w : World) : Calls Tryd.prog 121 #[.string ⟨l.toArray⟩] w fun e w' => e = .returned (.int .i64 (dport l)) ∧ w = w' := by
  go_enter Tryd.func121, Tryd.ntmps121
  go_wp2
  all_goals (go_ret; exact ⟨ret_int (by simp_all [dport, http, https]), rfl⟩)
theorem schemeOK_any (l : List UInt8) (w : World) (hl : l.length ≤ 9223372036854775807) : Calls Tryd.prog 107 #[.string ⟨l.toArray⟩] w fun e w' => e = .returned (.bool (schemeB l)) ∧ Below w.heap.size w w' := by
  by_cases h1 : l = []
  · subst h1
    go_enter Tryd.func107, Tryd.ntmps107
    go_wp2
    go_ret
    exact ⟨rfl, Below.refl _ _⟩
  have h1' : l.isEmpty = false := by simpa using h1
  have h1'' : 0 < l.length := List.length_pos_iff.2 h1
  by_cases h2 : 12 < l.length
  · have F := Lib.hid (sch_long l h2)
    go_enter Tryd.func107, Tryd.ntmps107
    go_wp2
    go_ret
    exact ⟨ret_bool F.out.symm, Below.refl _ _⟩
  have d2 : decide ((12 : Int) < l.length) = false := by simp; omega
  go_enter Tryd.func107, Tryd.ntmps107
  go_wp2
  go_loopw [14] (fun _ wr => ∃ k : Nat, k ≤ l.length ∧ wr = w.iter ⟨l.toArray⟩ k ∧ schLeft l k = true) (fun _ wr => l.length - wr.iterPos w.heap.size)
  case atStart => exact ⟨0, by omega, rfl, sch_zero l⟩
  case round =>
    obtain ⟨k, hk, rfl, ht⟩ := hrel
    by_cases hlt : k < l.length
    · obtain ⟨x, hx, _⟩ := byte_at l k hlt
      have NO := Lib.hid (sch_no l k x hlt hx ht)
      have YES := Lib.hid (sch_yes l k x hlt hx ht)
      clear ht
      by_cases ha : x.toNat < 128
      · have hnx := next_low Tryd.prog w l k x hlt hx ha
        clear hx
        by_cases hlow : 97 ≤ x.toNat ∧ x.toNat ≤ 122
        · have F := Lib.hid (YES.out (by simp [schC, lowB, hlow]))
          clear NO YES
          go_wp2_with (go_at_call 102; refine (isLower_yes _ _ (by omega)).mono ?_; rintro e w' ⟨rfl, rfl⟩)
          go_roundw
          case rel => exact ⟨k + 1, by omega, rfl, F.out⟩
          case measure => simp; omega
        by_cases hk0 : k = 0
        · subst hk0
          have F := Lib.hid (NO.out (by simp [schC, lowB]; omega))
          clear NO YES
          go_wp2_with (go_at_call 102; refine (isLower_no _ _ (by omega)).mono ?_; rintro e w' ⟨rfl, rfl⟩)
          go_ret
          exact ⟨ret_bool F.out.symm, below_iter _ _ _⟩
        have hk0' : ((k : Int) == 0) = false := by simp; omega
        by_cases hdig : 48 ≤ x.toNat ∧ x.toNat ≤ 57
        · have F := Lib.hid (YES.out (by simp [schC, digB, hdig]; omega))
          clear NO YES
          go_wp2_with (first | (go_at_call 102; refine (isLower_no _ _ (by omega)).mono ?_; rintro e w' ⟨rfl, rfl⟩) | (go_at_call 122; refine (isDigit_yes _ _ (by omega)).mono ?_; rintro e w' ⟨rfl, rfl⟩))
          go_roundw
          case rel => exact ⟨k + 1, by omega, rfl, F.out⟩
          case measure => simp; omega
        by_cases hsg : x = 45 ∨ x = 43 ∨ x = 46
        · have F := Lib.hid (YES.out (by rcases hsg with rfl | rfl | rfl <;> simp [schC] <;> omega))
          clear NO YES
          rcases hsg with rfl | rfl | rfl
          all_goals
            go_wp2_with (first | (go_at_call 102; refine (isLower_no _ _ (by decide)).mono ?_; rintro e w' ⟨rfl, rfl⟩) | (go_at_call 122; refine (isDigit_no _ _ (by decide)).mono ?_; rintro e w' ⟨rfl, rfl⟩))
            go_roundw
            case rel => exact ⟨k + 1, by omega, rfl, F.out⟩
            case measure => simp; omega
        have m1 : ¬ x.toNat = 45 := fun e => hsg (.inl (UInt8.toNat_inj.1 e))
        have m2 : ¬ x.toNat = 43 := fun e => hsg (.inr (.inl (UInt8.toNat_inj.1 e)))
        have m3 : ¬ x.toNat = 46 := fun e => hsg (.inr (.inr (UInt8.toNat_inj.1 e)))
        have F := Lib.hid (NO.out (by simp [schC, lowB, digB]; omega))
        have n1 : ((x.toNat : Int) != 45) = true := by simp; omega
        have n2 : ((x.toNat : Int) != 46) = true := by simp; omega
        have n3 : ((x.toNat : Int) != 43) = true := by simp; omega
        clear NO YES hsg
        go_wp2_with (first | (go_at_call 102; refine (isLower_no _ _ (by omega)).mono ?_; rintro e w' ⟨rfl, rfl⟩) | (go_at_call 122; refine (isDigit_no _ _ (by omega)).mono ?_; rintro e w' ⟨rfl, rfl⟩))
        go_ret
        exact ⟨ret_bool F.out.symm, below_iter _ _ _⟩
      · obtain ⟨c, n, hc, hnx⟩ := next_high Tryd.prog w l k x hlt hx ha
        clear hx
        have F := Lib.hid (NO.out (by simp [schC, lowB, digB]; omega))
        have n1 : ((c : Int) != 45) = true := by simp; omega
        have n2 : ((c : Int) != 46) = true := by simp; omega
        have n3 : ((c : Int) != 43) = true := by simp; omega
        clear NO YES
        by_cases hk0 : k = 0
        · subst hk0
          go_wp2_with (go_at_call 102; refine (isLower_no _ _ (by omega)).mono ?_; rintro e w' ⟨rfl, rfl⟩)
          go_ret
          exact ⟨ret_bool F.out.symm, below_iter _ _ _⟩
        have hk0' : ((k : Int) == 0) = false := by simp; omega
        go_wp2_with (first | (go_at_call 102; refine (isLower_no _ _ (by omega)).mono ?_; rintro e w' ⟨rfl, rfl⟩) | (go_at_call 122; refine (isDigit_no _ _ (by omega)).mono ?_; rintro e w' ⟨rfl, rfl⟩))
        go_ret
        exact ⟨ret_bool F.out.symm, below_iter _ _ _⟩
    · obtain rfl : k = l.length := by omega
      have F := Lib.hid (sch_end l (by omega) (by omega) ht)
      have hnx := next_end Tryd.prog w l
      clear ht
      go_wp2
      go_ret
      exact ⟨ret_bool F.out.symm, below_iter _ _ _⟩
theorem has_index (l : List UInt8) (x : UInt8) : decide (0 ≤ Lib.indexByte l x) = hasB l x.toNat := by
  unfold hasB
  rw [Bool.eq_iff_iff, decide_eq_true_eq, decide_eq_true_eq]
  induction l with
  | nil => simp [Lib.indexByte, findB]
  | cons b l ih =>
    have hge := Lib.indexByte_ge l x
    have hle := findB_le l x.toNat
    by_cases hb : b = x
    · subst hb; simp [Lib.indexByte, findB]
    · have hb' : ¬ b.toNat = x.toNat := fun e => hb (UInt8.toNat_inj.1 e)
      have hb2 : (b == x) = false := by simpa using hb
      have e1 : findB (b :: l) x.toNat = findB l x.toNat + 1 := by simp [findB, hb']
      have e2 : Lib.indexByte (b :: l) x = if Lib.indexByte l x == -1 then -1 else Lib.indexByte l x + 1 := by simp [Lib.indexByte, hb2]
      rw [e1, e2, List.length_cons]
      by_cases hm : Lib.indexByte l x = -1
      · rw [if_pos (by simp [hm])]
        omega
      · rw [if_neg (by simp [hm])]
        omega
theorem contains_yes (l : List UInt8) (x : UInt8) (w : World) (ha : x.toNat < 128) (h : hasB l x.toNat = true) : Calls Tryd.prog 126 #[.string ⟨l.toArray⟩, .int .i32 (x.toNat : Int)] w fun e w' => e = .returned (.bool true) ∧ w = w' := by
  refine (Tryd.strings_ContainsRune_ascii ⟨l.toArray⟩ (x.toNat : Int) w (by omega) (by omega)).mono ?_
  rintro e w' ⟨rfl, rfl⟩
  exact ⟨ret_bool (by simpa [has_index] using h), rfl⟩
theorem contains_no (l : List UInt8) (x : UInt8) (w : World) (ha : x.toNat < 128) (h : hasB l x.toNat = false) : Calls Tryd.prog 126 #[.string ⟨l.toArray⟩, .int .i32 (x.toNat : Int)] w fun e w' => e = .returned (.bool false) ∧ w = w' := by
  refine (Tryd.strings_ContainsRune_ascii ⟨l.toArray⟩ (x.toNat : Int) w (by omega) (by omega)).mono ?_
  rintro e w' ⟨rfl, rfl⟩
  exact ⟨ret_bool (by have := has_index l x; simp at this ⊢; rw [h] at this; simpa using this), rfl⟩
theorem partOK_any (l wo : List UInt8) (w : World) (hl : l.length ≤ 9223372036854775807) : Calls Tryd.prog 109 #[.string ⟨l.toArray⟩, .string ⟨wo.toArray⟩] w fun e w' => e = .returned (.bool (onlyB l wo)) ∧ Below w.heap.size w w' := by
  go_enter Tryd.func109, Tryd.ntmps109
  go_wp2
  go_loopw [9] (fun _ wr => ∃ k : Nat, k ≤ l.length ∧ wr = w.iter ⟨l.toArray⟩ k ∧ leftIs (onlyB · wo) l k = true) (fun _ wr => l.length - wr.iterPos w.heap.size)
  case atStart => exact ⟨0, by omega, rfl, left_zero _ l⟩
  case round =>
    obtain ⟨k, hk, rfl, ht⟩ := hrel
    by_cases hlt : k < l.length
    · obtain ⟨x, hx, _⟩ := byte_at l k hlt
      have NO := Lib.hid (only_no l wo k x hlt hx ht)
      have YES := Lib.hid (only_yes l wo k x hlt hx ht)
      clear ht
      by_cases ha : x.toNat < 128
      · have hnx := next_low Tryd.prog w l k x hlt hx ha
        clear hx
        by_cases h1 : x.toNat < 33
        · have F := Lib.hid (NO.out (by simp [onlyC]; omega))
          clear NO YES
          go_wp2
          go_ret
          exact ⟨ret_bool F.out.symm, below_iter _ _ _⟩
        have d1 : decide ((x.toNat : Int) < 33) = false := by simp; omega
        by_cases h2 : 126 < x.toNat
        · have F := Lib.hid (NO.out (by simp [onlyC]; omega))
          clear NO YES
          go_wp2
          go_ret
          exact ⟨ret_bool F.out.symm, below_iter _ _ _⟩
        have d2 : decide ((126 : Int) < x.toNat) = false := by simp; omega
        by_cases h3 : hasB wo x.toNat = true
        · have F := Lib.hid (NO.out (by simp [onlyC, h3]))
          have H3 := Lib.hid h3
          clear NO YES h3
          go_wp2_with (go_at_call 126; refine (contains_yes _ _ _ ha H3.out).mono ?_; rintro e w' ⟨rfl, rfl⟩)
          go_ret
          exact ⟨ret_bool F.out.symm, below_iter _ _ _⟩
        · have h3' : hasB wo x.toNat = false := by simpa using h3
          have F := Lib.hid (YES.out (by simp [onlyC, h3']; omega))
          have H3 := Lib.hid h3'
          clear NO YES h3 h3'
          go_wp2_with (go_at_call 126; refine (contains_no _ _ _ ha H3.out).mono ?_; rintro e w' ⟨rfl, rfl⟩)
          go_roundw
          case rel => exact ⟨k + 1, by omega, rfl, F.out⟩
          case measure => simp; omega
      · obtain ⟨c, n, hc, hnx⟩ := next_high Tryd.prog w l k x hlt hx ha
        clear hx
        have F := Lib.hid (NO.out (by simp [onlyC]; omega))
        have d1 : decide ((c : Int) < 33) = false := by simp; omega
        clear NO YES
        go_wp2
        go_ret
        exact ⟨ret_bool F.out.symm, below_iter _ _ _⟩
    · obtain rfl : k = l.length := by omega
      have F := Lib.hid (only_end l wo ht)
      have hnx := next_end Tryd.prog w l
      clear ht
      go_wp2
      go_ret
      exact ⟨ret_bool F.out.symm, below_iter _ _ _⟩
end Go.Proofs.YtniflfgnelfpbaaDoor.Ul
