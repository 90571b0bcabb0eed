
/-
  The walks of the model's small functions of chapter 2: what each returns, as the plain functions say it.
-/
import Derived.Test.YtniflfgnelfpbaaDoorChecked
import Derived.Test.YtniflfgnelfpbaaDoorUrlPlain
import Derived.WalkKit
import Derived.WalkSpells
import Derived.WalkLawsBesides
import Derived.Lib.Hide
namespace Go.Proofs.YtniflfgnelfpbaaDoor.Ul
open Go.RowKit
theorem ret_bool {a b : Bool} (h : a = b) : Ending.returned (.bool a) = .returned (.bool b) := by rw [h]
theorem ret_int {a b : Int} (h : a = b) : Ending.returned (.int .i64 a) = .returned (.int .i64 b) := by rw [h]
theorem ret_str {a b : List UInt8} (h : a = b) : Ending.returned (.string ⟨a.toArray⟩) = .returned (.string ⟨b.toArray⟩) := by rw [h]
/-- A byte of a text under a name of its own. -/
theorem byte_at (l : List UInt8) (k : Nat) (h : k < l.length) : ∃ x : UInt8, l[k] = x ∧ ∀ h' : k < (⟨l.toArray⟩ : ByteArray).size, (⟨l.toArray⟩ : ByteArray)[k] = x := ⟨_, rfl, fun _ => rfl⟩
theorem digit_any (c : Int) (w : World) : Calls Tryd.prog 103 #[.int .u8 c] w fun e w' => e = .returned (.bool (decide (48 ≤ c ∧ c ≤ 57))) ∧ w = w' := by
  go_enter Tryd.func103, Tryd.ntmps103
  go_wp2
  all_goals (go_ret; exact ⟨ret_bool (by rw [Bool.eq_iff_iff]; simp; omega), rfl⟩)
theorem digit_yes (c : Int) (w : World) (h : 48 ≤ c ∧ c ≤ 57) : Calls Tryd.prog 103 #[.int .u8 c] w fun e w' => e = .returned (.bool true) ∧ w = w' := by
  have := digit_any c w
  rwa [show decide (48 ≤ c ∧ c ≤ 57) = true from by simpa using h] at this
theorem digit_no (c : Int) (w : World) (h : ¬ (48 ≤ c ∧ c ≤ 57)) : Calls Tryd.prog 103 #[.int .u8 c] w fun e w' => e = .returned (.bool false) ∧ w = w' := by
  have := digit_any c w
  rwa [show decide (48 ≤ c ∧ c ≤ 57) = false from by simpa using h] at this
theorem in_any (n a b : Int) (w : World) : Calls Tryd.prog 34 #[.int .i64 n, .int .i64 a, .int .i64 b] w fun e w' => e = .returned (.bool (decide (a ≤ n ∧ n ≤ b))) ∧ w = w' := by
  go_enter Tryd.func34, Tryd.ntmps34
  go_wp2
  all_goals (go_ret; exact ⟨ret_bool (by rw [Bool.eq_iff_iff]; simp; omega), rfl⟩)
theorem in_yes (n a b : Int) (w : World) (h : a ≤ n ∧ n ≤ b) : Calls Tryd.prog 34 #[.int .i64 n, .int .i64 a, .int .i64 b] w fun e w' => e = .returned (.bool true) ∧ w = w' := by
  have := in_any n a b w
  rwa [show decide (a ≤ n ∧ n ≤ b) = true from by simpa using h] at this
theorem in_no (n a b : Int) (w : World) (h : ¬ (a ≤ n ∧ n ≤ b)) : Calls Tryd.prog 34 #[.int .i64 n, .int .i64 a, .int .i64 b] w fun e w' => e = .returned (.bool false) ∧ w = w' := by
  have := in_any n a b w
  rwa [show decide (a ≤ n ∧ n ≤ b) = false from by simpa using h] at this
theorem find_any (l : List UInt8) (c : Nat) (w : World) (hl : l.length ≤ 9223372036854775807) : Calls Tryd.prog 66 #[.string ⟨l.toArray⟩, .int .u8 (c : Int)] w fun e w' => e = .returned (.int .i64 (findB l c)) ∧ w = w' := by
  go_enter Tryd.func66, Tryd.ntmps66
  go_wp2
  go_loop [5] (fun i => ∃ k : Nat, k ≤ l.length ∧ i = .int .i64 k ∧ findTo l c k = true) (fun i => l.length - (intOf i).toNat)
  case atStart => exact ⟨0, by omega, rfl, find_zero l c⟩
  case round =>
    obtain ⟨k, hk, rfl, ht⟩ := hrel
    by_cases hlt : k < l.length
    · obtain ⟨x, hx, hb⟩ := byte_at l k hlt
      have HIT := Lib.hid (find_hit l c k x hlt hx ht)
      have MISS := Lib.hid (find_miss l c k x hlt hx ht)
      clear ht hx
      by_cases hc : x.toNat = c
      · have F := Lib.hid (HIT.out hc)
        have hc' : ((x.toNat : Int) == c) = true := by simp [hc]
        clear HIT MISS hc
        go_wp2
        go_ret
        exact ⟨ret_int (by rw [F.out]), rfl⟩
      · have F := Lib.hid (MISS.out hc)
        have hc' : ((x.toNat : Int) == c) = false := by simp; omega
        clear HIT MISS hc
        go_wp2
        go_round
        case rel => exact ⟨k + 1, by omega, by go_num, F.out⟩
        case measure => simp [intOf]; omega
    · obtain rfl : k = l.length := by omega
      have F := Lib.hid (find_end l c ht)
      clear ht
      go_wp2
      go_ret
      exact ⟨ret_int (by rw [F.out]), rfl⟩
theorem only_any (l wo : List UInt8) (w : World) (hl : l.length ≤ 9223372036854775807) (hw : wo.length ≤ 9223372036854775807) : Calls Tryd.prog 93 #[.string ⟨l.toArray⟩, .string ⟨wo.toArray⟩] w fun e w' => e = .returned (.bool (onlyB l wo)) ∧ w = w' := by
  go_enter Tryd.func93, Tryd.ntmps93
  go_wp2
  go_loop [5] (fun i => ∃ k : Nat, k ≤ l.length ∧ i = .int .i64 k ∧ leftIs (onlyB · wo) l k = true) (fun i => l.length - (intOf i).toNat)
  case atStart => exact ⟨0, by omega, rfl, left_zero _ l⟩
  case round =>
    obtain ⟨k, hk, rfl, ht⟩ := hrel
    by_cases hlt : k < l.length
    · obtain ⟨x, hx, hb⟩ := byte_at l k hlt
      have NO := Lib.hid (only_no l wo k x hlt hx ht)
      have YES := Lib.hid (only_yes l wo k x hlt hx ht)
      clear ht hx
      by_cases h1 : x.toNat < 33
      · have F := Lib.hid (NO.out (by simp [onlyC]; omega))
        clear NO YES
        go_wp2
        go_ret
        exact ⟨ret_bool F.out.symm, rfl⟩
      by_cases h2 : 126 < x.toNat
      · have F := Lib.hid (NO.out (by simp [onlyC]; omega))
        have d1 : decide ((x.toNat : Int) < 33) = false := by simp; omega
        clear NO YES
        go_wp2
        go_ret
        exact ⟨ret_bool F.out.symm, rfl⟩
      have d1 : decide ((x.toNat : Int) < 33) = false := by simp; omega
      have d2 : decide ((126 : Int) < x.toNat) = false := by simp; omega
      have hf := findB_le wo x.toNat
      by_cases h3 : findB wo x.toNat < wo.length
      · have F := Lib.hid (NO.out (by simp [onlyC, hasB, h3]))
        clear NO YES
        go_wp2_with (go_at_call 66; refine (find_any _ _ _ hw).mono ?_; rintro e w' ⟨rfl, rfl⟩)
        go_ret
        exact ⟨ret_bool F.out.symm, rfl⟩
      · have F := Lib.hid (YES.out (by simp [onlyC, hasB]; omega))
        clear NO YES
        go_wp2_with (go_at_call 66; refine (find_any _ _ _ hw).mono ?_; rintro e w' ⟨rfl, rfl⟩)
        go_round
        case rel => exact ⟨k + 1, by omega, by go_num, F.out⟩
        case measure => simp [intOf]; omega
    · obtain rfl : k = l.length := by omega
      have F := Lib.hid (only_end l wo ht)
      clear ht
      go_wp2
      go_ret
      exact ⟨ret_bool F.out.symm, rfl⟩
theorem low_cases (x : UInt8) (h : ¬ (97 ≤ x.toNat ∧ x.toNat ≤ 122)) : decide ((97 : Int) ≤ x.toNat) = false ∨ (decide ((97 : Int) ≤ x.toNat) = true ∧ decide ((x.toNat : Int) ≤ 122) = false) := by
  by_cases h1 : 97 ≤ x.toNat
  · exact .inr ⟨by simp; omega, by simp; omega⟩
  · exact .inl (by simp; omega)
theorem host_any (l : List UInt8) (w : World) (hl : l.length ≤ 9223372036854775807) : Calls Tryd.prog 94 #[.string ⟨l.toArray⟩] w fun e w' => e = .returned (.bool (hostB l)) ∧ w = w' := by
  go_enter Tryd.func94, Tryd.ntmps94
  go_wp2
  go_loop [3, 4] (fun la i => ∃ (k : Nat) (b : Bool), k ≤ l.length ∧ i = .int .i64 k ∧ la = .bool b ∧ hostLeft l k b = true) (fun _ i => l.length - (intOf i).toNat)
  case atStart => exact ⟨0, true, by omega, rfl, rfl, host_zero l⟩
  case round =>
    obtain ⟨k, b, hk, rfl, rfl, ht⟩ := hrel
    by_cases hlt : k < l.length
    · obtain ⟨x, hx, hb⟩ := byte_at l k hlt
      have NO := Lib.hid (host_no l k b x hlt hx ht)
      by_cases hlow : 97 ≤ x.toNat ∧ x.toNat ≤ 122
      · have F := Lib.hid (host_plain l k b x hlt hx ht (by simp [plainB, lowB, hlow]))
        clear ht hx NO
        go_wp2_with (go_at_call 103; refine (digit_no _ _ (by omega)).mono ?_; rintro e w' ⟨rfl, rfl⟩)
        all_goals
          go_round
          case rel => exact ⟨k + 1, false, by omega, by go_num, rfl, F.out⟩
          case measure => simp [intOf]; omega
      by_cases hdig : 48 ≤ x.toNat ∧ x.toNat ≤ 57
      · have F := Lib.hid (host_plain l k b x hlt hx ht (by simp [plainB, digB, hdig]))
        clear ht hx NO
        go_wp2_with (go_at_call 103; refine (digit_yes _ _ (by omega)).mono ?_; rintro e w' ⟨rfl, rfl⟩)
        all_goals
          go_round
          case rel => exact ⟨k + 1, false, by omega, by go_num, rfl, F.out⟩
          case measure => simp [intOf]; omega
      have hp : plainB x = false := by simp [plainB, lowB, digB]; omega
      by_cases hj45 : x.toNat = 45
      · obtain rfl : x = 45 := UInt8.toNat_inj.1 hj45
        cases b
        · have F := Lib.hid (host_joint l k 45 hlt hx ht rfl rfl)
          clear ht hx NO hp
          go_wp2_with (go_at_call 103; refine (digit_no _ _ (by decide)).mono ?_; rintro e w' ⟨rfl, rfl⟩)
          go_round
          case rel => exact ⟨k + 1, true, by omega, by go_num, rfl, F.out⟩
          case measure => simp [intOf]; omega
        · have F := Lib.hid (NO.out hp (.inr rfl))
          clear ht hx NO hp
          go_wp2_with (go_at_call 103; refine (digit_no _ _ (by decide)).mono ?_; rintro e w' ⟨rfl, rfl⟩)
          go_ret
          exact ⟨ret_bool F.out.symm, rfl⟩
      by_cases hj46 : x.toNat = 46
      · obtain rfl : x = 46 := UInt8.toNat_inj.1 hj46
        cases b
        · have F := Lib.hid (host_joint l k 46 hlt hx ht rfl rfl)
          clear ht hx NO hp
          go_wp2_with (go_at_call 103; refine (digit_no _ _ (by decide)).mono ?_; rintro e w' ⟨rfl, rfl⟩)
          go_round
          case rel => exact ⟨k + 1, true, by omega, by go_num, rfl, F.out⟩
          case measure => simp [intOf]; omega
        · have F := Lib.hid (NO.out hp (.inr rfl))
          clear ht hx NO hp
          go_wp2_with (go_at_call 103; refine (digit_no _ _ (by decide)).mono ?_; rintro e w' ⟨rfl, rfl⟩)
          go_ret
          exact ⟨ret_bool F.out.symm, rfl⟩
      have F := Lib.hid (NO.out hp (.inl (by simp [jointB]; omega)))
      have n1 : ((x.toNat : Int) != 45) = true := by simp; omega
      have n2 : ((x.toNat : Int) != 46) = true := by simp; omega
      clear ht hx NO hp
      rcases low_cases x hlow with d1 | ⟨d1, d2⟩
      all_goals
        go_wp2_with (go_at_call 103; refine (digit_no _ _ (by omega)).mono ?_; rintro e w' ⟨rfl, rfl⟩)
        all_goals (go_ret; exact ⟨ret_bool F.out.symm, rfl⟩)
    · obtain rfl : k = l.length := by omega
      have F := Lib.hid (host_end l b ht)
      clear ht
      go_wp2
      go_ret
      exact ⟨ret_bool F.out.symm, rfl⟩
theorem scheme_any (l : List UInt8) (w : World) (hl : l.length ≤ 9223372036854775807) : Calls Tryd.prog 92 #[.string ⟨l.toArray⟩] w fun e w' => e = .returned (.bool (schemeB l)) ∧ w = w' := by
  by_cases hs : l.length < 1 ∨ 12 < l.length
  · have F := Lib.hid (hs.elim (sch_short l) (sch_long l))
    go_enter Tryd.func92, Tryd.ntmps92
    go_wp2_with (go_at_call 34; refine (in_no _ _ _ _ (by omega)).mono ?_; rintro e w' ⟨rfl, rfl⟩)
    go_ret
    exact ⟨ret_bool F.out.symm, rfl⟩
  go_enter Tryd.func92, Tryd.ntmps92
  go_wp2_with (go_at_call 34; refine (in_yes _ _ _ _ (by omega)).mono ?_; rintro e w' ⟨rfl, rfl⟩)
  go_loop [3] (fun i => ∃ k : Nat, k ≤ l.length ∧ i = .int .i64 k ∧ schLeft l k = true) (fun i => l.length - (intOf i).toNat)
  case atStart => exact ⟨0, by omega, rfl, sch_zero l⟩
  case round =>
    obtain ⟨k, hk, rfl, ht⟩ := hrel
    by_cases hlt : k < l.length
    · obtain ⟨x, hx, hb⟩ := byte_at l k hlt
      have NO := Lib.hid (sch_no l k x hlt hx ht)
      have YES := Lib.hid (sch_yes l k x hlt hx ht)
      clear ht hx
      by_cases hlow : 97 ≤ x.toNat ∧ x.toNat ≤ 122
      · have F := Lib.hid (YES.out (by simp [schC, lowB, hlow]))
        clear NO YES
        go_wp2_with fail
        all_goals
          go_round
          case rel => exact ⟨k + 1, by omega, by go_num, F.out⟩
          case measure => simp [intOf]; omega
      by_cases hk0 : k = 0
      · subst hk0
        have F := Lib.hid (NO.out (by simp [schC, lowB]; omega))
        clear NO YES
        rcases low_cases x hlow with d1 | ⟨d1, d2⟩
        all_goals
          go_wp2_with fail
          go_ret
          exact ⟨ret_bool F.out.symm, rfl⟩
      have hk0' : ((k : Int) == 0) = false := by simp; omega
      by_cases hdig : 48 ≤ x.toNat ∧ x.toNat ≤ 57
      · have F := Lib.hid (YES.out (by simp [schC, digB, hdig]; omega))
        clear NO YES
        go_wp2_with (go_at_call 103; refine (digit_yes _ _ (by omega)).mono ?_; rintro e w' ⟨rfl, rfl⟩)
        all_goals
          go_round
          case rel => exact ⟨k + 1, by omega, by go_num, F.out⟩
          case measure => simp [intOf]; omega
      by_cases hj45 : x.toNat = 45
      · obtain rfl : x = 45 := UInt8.toNat_inj.1 hj45
        have F := Lib.hid (YES.out (by simp [schC]; omega))
        clear NO YES
        go_wp2_with (go_at_call 103; refine (digit_no _ _ (by decide)).mono ?_; rintro e w' ⟨rfl, rfl⟩)
        go_round
        case rel => exact ⟨k + 1, by omega, by go_num, F.out⟩
        case measure => simp [intOf]; omega
      by_cases hj43 : x.toNat = 43
      · obtain rfl : x = 43 := UInt8.toNat_inj.1 hj43
        have F := Lib.hid (YES.out (by simp [schC]; omega))
        clear NO YES
        go_wp2_with (go_at_call 103; refine (digit_no _ _ (by decide)).mono ?_; rintro e w' ⟨rfl, rfl⟩)
        go_round
        case rel => exact ⟨k + 1, by omega, by go_num, F.out⟩
        case measure => simp [intOf]; omega
      by_cases hj46 : x.toNat = 46
      · obtain rfl : x = 46 := UInt8.toNat_inj.1 hj46
        have F := Lib.hid (YES.out (by simp [schC]; omega))
        clear NO YES
        go_wp2_with (go_at_call 103; refine (digit_no _ _ (by decide)).mono ?_; rintro e w' ⟨rfl, rfl⟩)
        go_round
        case rel => exact ⟨k + 1, by omega, by go_num, F.out⟩
        case measure => simp [intOf]; omega
      have F := Lib.hid (NO.out (by simp [schC, lowB, digB]; omega))
      have n1 : ((x.toNat : Int) != 45) = true := by simp; omega
      have n2 : ((x.toNat : Int) != 46) = true := by simp; omega
      have n3 : ((x.toNat : Int) != 43) = true := by simp; omega
      clear NO YES
      rcases low_cases x hlow with d1 | ⟨d1, d2⟩
      all_goals
        go_wp2_with (go_at_call 103; refine (digit_no _ _ (by omega)).mono ?_; rintro e w' ⟨rfl, rfl⟩)
        all_goals (go_ret; exact ⟨ret_bool F.out.symm, rfl⟩)
    · obtain rfl : k = l.length := by omega
      have F := Lib.hid (sch_end l (by omega) (by omega) ht)
      clear ht
      go_wp2
      go_ret
      exact ⟨ret_bool F.out.symm, rfl⟩
theorem web_any (l : List UInt8) (w : World) : Calls Tryd.prog 60 #[.string ⟨l.toArray⟩] w fun e w' => e = .returned (.bool (webB l)) ∧ w = w' := by
  go_enter Tryd.func60, Tryd.ntmps60
  go_wp2
  all_goals (go_ret; exact ⟨ret_bool (by rw [Bool.eq_iff_iff]; simp_all [webB, http, https]), rfl⟩)
theorem usual_any (l : List UInt8) (w : World) : Calls Tryd.prog 70 #[.string ⟨l.toArray⟩] w fun e w' => e = .returned (.int .i64 (usual l)) ∧ w = w' := by
  go_enter Tryd.func70, Tryd.ntmps70
  go_wp2
  all_goals (go_ret; exact ⟨ret_int (by simp_all [usual, http]), rfl⟩)
end Go.Proofs.YtniflfgnelfpbaaDoor.Ul
