
/-
  The walks of the model's small functions of chapter 2: what each returns, as the plain functions say it. The walks of the model's functions of chapter 2 that make texts: the digits of a number, the text of a URL, what is asked of it. The walks of the model's functions of chapter 2: the text of a URL; what is asked of it; its origin; what is stripped.
-/
import Derived.Test.YtmaknkbmilcanaaGreatDoorChecked
import Derived.Test.YtmaknkbmilcanaaGreatDoorUrlPlain
import Derived.WalkKit
import Derived.WalkSpells
import Derived.WalkLawsBesides
import Derived.Lib.Hide
import Derived.Laws.BytesArg
import Derived.IntWalk
import Derived.RegionTactic
import Derived.Deep.RegionWith
import Derived.Deep.RegionHeld3
import Derived.Deep.QuietTactic
import Derived.BigQuiet
import Derived.Outline
namespace Go.Proofs.YtmaknkbmilcanaaGreatDoor.Ul
open Go.RowKit
theorem ret_bool {a b : Bool} (h : a = b) : Ending.returned (.bool a) = .returned (.bool b) := by rw [h]
theorem ret_int {a b : Int} (h : a = b) : Ending.returned (.int .i64 a) = .returned (.int .i64 b) := by rw [h]
theorem ret_str {a b : List UInt8} (h : a = b) : Ending.returned (.string ⟨a.toArray⟩) = .returned (.string ⟨b.toArray⟩) := by rw [h]
/-- A byte of a text under a name of its own. -/
theorem byte_at (l : List UInt8) (k : Nat) (h : k < l.length) : ∃ x : UInt8, l[k] = x ∧ ∀ h' : k < (⟨l.toArray⟩ : ByteArray).size, (⟨l.toArray⟩ : ByteArray)[k] = x := ⟨_, rfl, fun _ => rfl⟩
theorem digit_any (c : Int) (w : World) : Calls Tryz.prog 270 #[.int .u8 c] w fun e w' => e = .returned (.bool (decide (48 ≤ c ∧ c ≤ 57))) ∧ w = w' := by
  go_enter Tryz.func270, Tryz.ntmps270
  go_wp2
  all_goals (go_ret; exact ⟨ret_bool (by rw [Bool.eq_iff_iff]; simp; omega), rfl⟩)
theorem digit_yes (c : Int) (w : World) (h : 48 ≤ c ∧ c ≤ 57) : Calls Tryz.prog 270 #[.int .u8 c] w fun e w' => e = .returned (.bool true) ∧ w = w' := by
  have := digit_any c w
  rwa [show decide (48 ≤ c ∧ c ≤ 57) = true from by simpa using h] at this
theorem digit_no (c : Int) (w : World) (h : ¬ (48 ≤ c ∧ c ≤ 57)) : Calls Tryz.prog 270 #[.int .u8 c] w fun e w' => e = .returned (.bool false) ∧ w = w' := by
  have := digit_any c w
  rwa [show decide (48 ≤ c ∧ c ≤ 57) = false from by simpa using h] at this
theorem in_any (n a b : Int) (w : World) : Calls Tryz.prog 78 #[.int .i64 n, .int .i64 a, .int .i64 b] w fun e w' => e = .returned (.bool (decide (a ≤ n ∧ n ≤ b))) ∧ w = w' := by
  go_enter Tryz.func78, Tryz.ntmps78
  go_wp2
  all_goals (go_ret; exact ⟨ret_bool (by rw [Bool.eq_iff_iff]; simp; omega), rfl⟩)
theorem in_yes (n a b : Int) (w : World) (h : a ≤ n ∧ n ≤ b) : Calls Tryz.prog 78 #[.int .i64 n, .int .i64 a, .int .i64 b] w fun e w' => e = .returned (.bool true) ∧ w = w' := by
  have := in_any n a b w
  rwa [show decide (a ≤ n ∧ n ≤ b) = true from by simpa using h] at this
theorem in_no (n a b : Int) (w : World) (h : ¬ (a ≤ n ∧ n ≤ b)) : Calls Tryz.prog 78 #[.int .i64 n, .int .i64 a, .int .i64 b] w fun e w' => e = .returned (.bool false) ∧ w = w' := by
  have := in_any n a b w
  rwa [show decide (a ≤ n ∧ n ≤ b) = false from by simpa using h] at this
theorem find_any (l : List UInt8) (c : Nat) (w : World) (hl : l.length ≤ 9223372036854775807) : Calls Tryz.prog 301 #[.string ⟨l.toArray⟩, .int .u8 (c : Int)] w fun e w' => e = .returned (.int .i64 (findB l c)) ∧ w = w' := by
  go_enter Tryz.func301, Tryz.ntmps301
  go_wp2
  go_loop [5] (fun i => ∃ k : Nat, k ≤ l.length ∧ i = .int .i64 k ∧ findTo l c k = true) (fun i => l.length - (intOf i).toNat)
  case atStart => exact ⟨0, by omega, rfl, find_zero l c⟩
  case round =>
    obtain ⟨k, hk, rfl, ht⟩ := hrel
    by_cases hlt : k < l.length
    · obtain ⟨x, hx, hb⟩ := byte_at l k hlt
      have HIT := Lib.hid (find_hit l c k x hlt hx ht)
      have MISS := Lib.hid (find_miss l c k x hlt hx ht)
      clear ht hx
      by_cases hc : x.toNat = c
      · have F := Lib.hid (HIT.out hc)
        have hc' : ((x.toNat : Int) == c) = true := by simp [hc]
        clear HIT MISS hc
        go_wp2
        go_ret
        exact ⟨ret_int (by rw [F.out]), rfl⟩
      · have F := Lib.hid (MISS.out hc)
        have hc' : ((x.toNat : Int) == c) = false := by simp; omega
        clear HIT MISS hc
        go_wp2
        go_round
        case rel => exact ⟨k + 1, by omega, by go_num, F.out⟩
        case measure => simp [intOf]; omega
    · obtain rfl : k = l.length := by omega
      have F := Lib.hid (find_end l c ht)
      clear ht
      go_wp2
      go_ret
      exact ⟨ret_int (by rw [F.out]), rfl⟩
theorem only_any (l wo : List UInt8) (w : World) (hl : l.length ≤ 9223372036854775807) (hw : wo.length ≤ 9223372036854775807) : Calls Tryz.prog 343 #[.string ⟨l.toArray⟩, .string ⟨wo.toArray⟩] w fun e w' => e = .returned (.bool (onlyB l wo)) ∧ w = w' := by
  go_enter Tryz.func343, Tryz.ntmps343
  go_wp2
  go_loop [5] (fun i => ∃ k : Nat, k ≤ l.length ∧ i = .int .i64 k ∧ leftIs (onlyB · wo) l k = true) (fun i => l.length - (intOf i).toNat)
  case atStart => exact ⟨0, by omega, rfl, left_zero _ l⟩
  case round =>
    obtain ⟨k, hk, rfl, ht⟩ := hrel
    by_cases hlt : k < l.length
    · obtain ⟨x, hx, hb⟩ := byte_at l k hlt
      have NO := Lib.hid (only_no l wo k x hlt hx ht)
      have YES := Lib.hid (only_yes l wo k x hlt hx ht)
      clear ht hx
      by_cases h1 : x.toNat < 33
      · have F := Lib.hid (NO.out (by simp [onlyC]; omega))
        clear NO YES
        go_wp2
        go_ret
        exact ⟨ret_bool F.out.symm, rfl⟩
      by_cases h2 : 126 < x.toNat
      · have F := Lib.hid (NO.out (by simp [onlyC]; omega))
        have d1 : decide ((x.toNat : Int) < 33) = false := by simp; omega
        clear NO YES
        go_wp2
        go_ret
        exact ⟨ret_bool F.out.symm, rfl⟩
      have d1 : decide ((x.toNat : Int) < 33) = false := by simp; omega
      have d2 : decide ((126 : Int) < x.toNat) = false := by simp; omega
      have hf := findB_le wo x.toNat
      by_cases h3 : findB wo x.toNat < wo.length
      · have F := Lib.hid (NO.out (by simp [onlyC, hasB, h3]))
        clear NO YES
        go_wp2_with (go_at_call 301; refine (find_any _ _ _ hw).mono ?_; rintro e w' ⟨rfl, rfl⟩)
        go_ret
        exact ⟨ret_bool F.out.symm, rfl⟩
      · have F := Lib.hid (YES.out (by simp [onlyC, hasB]; omega))
        clear NO YES
        go_wp2_with (go_at_call 301; refine (find_any _ _ _ hw).mono ?_; rintro e w' ⟨rfl, rfl⟩)
        go_round
        case rel => exact ⟨k + 1, by omega, by go_num, F.out⟩
        case measure => simp [intOf]; omega
    · obtain rfl : k = l.length := by omega
      have F := Lib.hid (only_end l wo ht)
      clear ht
      go_wp2
      go_ret
      exact ⟨ret_bool F.out.symm, rfl⟩
theorem low_cases (x : UInt8) (h : ¬ (97 ≤ x.toNat ∧ x.toNat ≤ 122)) : decide ((97 : Int) ≤ x.toNat) = false ∨ (decide ((97 : Int) ≤ x.toNat) = true ∧ decide ((x.toNat : Int) ≤ 122) = false) := by
  by_cases h1 : 97 ≤ x.toNat
  · exact .inr ⟨by simp; omega, by simp; omega⟩
  · exact .inl (by simp; omega)
theorem host_any (l : List UInt8) (w : World) (hl : l.length ≤ 9223372036854775807) : Calls Tryz.prog 344 #[.string ⟨l.toArray⟩] w fun e w' => e = .returned (.bool (hostB l)) ∧ w = w' := by
  go_enter Tryz.func344, Tryz.ntmps344
  go_wp2
  go_loop [3, 4] (fun la i => ∃ (k : Nat) (b : Bool), k ≤ l.length ∧ i = .int .i64 k ∧ la = .bool b ∧ hostLeft l k b = true) (fun _ i => l.length - (intOf i).toNat)
  case atStart => exact ⟨0, true, by omega, rfl, rfl, host_zero l⟩
  case round =>
    obtain ⟨k, b, hk, rfl, rfl, ht⟩ := hrel
    by_cases hlt : k < l.length
    · obtain ⟨x, hx, hb⟩ := byte_at l k hlt
      have NO := Lib.hid (host_no l k b x hlt hx ht)
      by_cases hlow : 97 ≤ x.toNat ∧ x.toNat ≤ 122
      · have F := Lib.hid (host_plain l k b x hlt hx ht (by simp [plainB, lowB, hlow]))
        clear ht hx NO
        go_wp2_with (go_at_call 270; refine (digit_no _ _ (by omega)).mono ?_; rintro e w' ⟨rfl, rfl⟩)
        all_goals
          go_round
          case rel => exact ⟨k + 1, false, by omega, by go_num, rfl, F.out⟩
          case measure => simp [intOf]; omega
      by_cases hdig : 48 ≤ x.toNat ∧ x.toNat ≤ 57
      · have F := Lib.hid (host_plain l k b x hlt hx ht (by simp [plainB, digB, hdig]))
        clear ht hx NO
        go_wp2_with (go_at_call 270; refine (digit_yes _ _ (by omega)).mono ?_; rintro e w' ⟨rfl, rfl⟩)
        all_goals
          go_round
          case rel => exact ⟨k + 1, false, by omega, by go_num, rfl, F.out⟩
          case measure => simp [intOf]; omega
      have hp : plainB x = false := by simp [plainB, lowB, digB]; omega
      by_cases hj45 : x.toNat = 45
      · obtain rfl : x = 45 := UInt8.toNat_inj.1 hj45
        cases b
        · have F := Lib.hid (host_joint l k 45 hlt hx ht rfl rfl)
          clear ht hx NO hp
          go_wp2_with (go_at_call 270; refine (digit_no _ _ (by decide)).mono ?_; rintro e w' ⟨rfl, rfl⟩)
          go_round
          case rel => exact ⟨k + 1, true, by omega, by go_num, rfl, F.out⟩
          case measure => simp [intOf]; omega
        · have F := Lib.hid (NO.out hp (.inr rfl))
          clear ht hx NO hp
          go_wp2_with (go_at_call 270; refine (digit_no _ _ (by decide)).mono ?_; rintro e w' ⟨rfl, rfl⟩)
          go_ret
          exact ⟨ret_bool F.out.symm, rfl⟩
      by_cases hj46 : x.toNat = 46
      · obtain rfl : x = 46 := UInt8.toNat_inj.1 hj46
        cases b
        · have F := Lib.hid (host_joint l k 46 hlt hx ht rfl rfl)
          clear ht hx NO hp
          go_wp2_with (go_at_call 270; refine (digit_no _ _ (by decide)).mono ?_; rintro e w' ⟨rfl, rfl⟩)
          go_round
          case rel => exact ⟨k + 1, true, by omega, by go_num, rfl, F.out⟩
          case measure => simp [intOf]; omega
        · have F := Lib.hid (NO.out hp (.inr rfl))
          clear ht hx NO hp
          go_wp2_with (go_at_call 270; refine (digit_no _ _ (by decide)).mono ?_; rintro e w' ⟨rfl, rfl⟩)
          go_ret
          exact ⟨ret_bool F.out.symm, rfl⟩
      have F := Lib.hid (NO.out hp (.inl (by simp [jointB]; omega)))
      have n1 : ((x.toNat : Int) != 45) = true := by simp; omega
      have n2 : ((x.toNat : Int) != 46) = true := by simp; omega
      clear ht hx NO hp
      rcases low_cases x hlow with d1 | ⟨d1, d2⟩
      all_goals
        go_wp2_with (go_at_call 270; refine (digit_no _ _ (by omega)).mono ?_; rintro e w' ⟨rfl, rfl⟩)
        all_goals (go_ret; exact ⟨ret_bool F.out.symm, rfl⟩)
    · obtain rfl : k = l.length := by omega
      have F := Lib.hid (host_end l b ht)
      clear ht
      go_wp2
      go_ret
      exact ⟨ret_bool F.out.symm, rfl⟩
theorem scheme_any (l : List UInt8) (w : World) (hl : l.length ≤ 9223372036854775807) : Calls Tryz.prog 342 #[.string ⟨l.toArray⟩] w fun e w' => e = .returned (.bool (schemeB l)) ∧ w = w' := by
  by_cases hs : l.length < 1 ∨ 12 < l.length
  · have F := Lib.hid (hs.elim (sch_short l) (sch_long l))
    go_enter Tryz.func342, Tryz.ntmps342
    go_wp2_with (go_at_call 78; refine (in_no _ _ _ _ (by omega)).mono ?_; rintro e w' ⟨rfl, rfl⟩)
    go_ret
    exact ⟨ret_bool F.out.symm, rfl⟩
  go_enter Tryz.func342, Tryz.ntmps342
  go_wp2_with (go_at_call 78; refine (in_yes _ _ _ _ (by omega)).mono ?_; rintro e w' ⟨rfl, rfl⟩)
  go_loop [3] (fun i => ∃ k : Nat, k ≤ l.length ∧ i = .int .i64 k ∧ schLeft l k = true) (fun i => l.length - (intOf i).toNat)
  case atStart => exact ⟨0, by omega, rfl, sch_zero l⟩
  case round =>
    obtain ⟨k, hk, rfl, ht⟩ := hrel
    by_cases hlt : k < l.length
    · obtain ⟨x, hx, hb⟩ := byte_at l k hlt
      have NO := Lib.hid (sch_no l k x hlt hx ht)
      have YES := Lib.hid (sch_yes l k x hlt hx ht)
      clear ht hx
      by_cases hlow : 97 ≤ x.toNat ∧ x.toNat ≤ 122
      · have F := Lib.hid (YES.out (by simp [schC, lowB, hlow]))
        clear NO YES
        go_wp2_with fail
        all_goals
          go_round
          case rel => exact ⟨k + 1, by omega, by go_num, F.out⟩
          case measure => simp [intOf]; omega
      by_cases hk0 : k = 0
      · subst hk0
        have F := Lib.hid (NO.out (by simp [schC, lowB]; omega))
        clear NO YES
        rcases low_cases x hlow with d1 | ⟨d1, d2⟩
        all_goals
          go_wp2_with fail
          go_ret
          exact ⟨ret_bool F.out.symm, rfl⟩
      have hk0' : ((k : Int) == 0) = false := by simp; omega
      by_cases hdig : 48 ≤ x.toNat ∧ x.toNat ≤ 57
      · have F := Lib.hid (YES.out (by simp [schC, digB, hdig]; omega))
        clear NO YES
        go_wp2_with (go_at_call 270; refine (digit_yes _ _ (by omega)).mono ?_; rintro e w' ⟨rfl, rfl⟩)
        all_goals
          go_round
          case rel => exact ⟨k + 1, by omega, by go_num, F.out⟩
          case measure => simp [intOf]; omega
      by_cases hj45 : x.toNat = 45
      · obtain rfl : x = 45 := UInt8.toNat_inj.1 hj45
        have F := Lib.hid (YES.out (by simp [schC]; omega))
        clear NO YES
        go_wp2_with (go_at_call 270; refine (digit_no _ _ (by decide)).mono ?_; rintro e w' ⟨rfl, rfl⟩)
        go_round
        case rel => exact ⟨k + 1, by omega, by go_num, F.out⟩
        case measure => simp [intOf]; omega
      by_cases hj43 : x.toNat = 43
      · obtain rfl : x = 43 := UInt8.toNat_inj.1 hj43
        have F := Lib.hid (YES.out (by simp [schC]; omega))
        clear NO YES
        go_wp2_with (go_at_call 270; refine (digit_no _ _ (by decide)).mono ?_; rintro e w' ⟨rfl, rfl⟩)
        go_round
        case rel => exact ⟨k + 1, by omega, by go_num, F.out⟩
        case measure => simp [intOf]; omega
      by_cases hj46 : x.toNat = 46
      · obtain rfl : x = 46 := UInt8.toNat_inj.1 hj46
        have F := Lib.hid (YES.out (by simp [schC]; omega))
        clear NO YES
        go_wp2_with (go_at_call 270; refine (digit_no _ _ (by decide)).mono ?_; rintro e w' ⟨rfl, rfl⟩)
        go_round
        case rel => exact ⟨k + 1, by omega, by go_num, F.out⟩
        case measure => simp [intOf]; omega
      have F := Lib.hid (NO.out (by simp [schC, lowB, digB]; omega))
      have n1 : ((x.toNat : Int) != 45) = true := by simp; omega
      have n2 : ((x.toNat : Int) != 46) = true := by simp; omega
      have n3 : ((x.toNat : Int) != 43) = true := by simp; omega
      clear NO YES
      rcases low_cases x hlow with d1 | ⟨d1, d2⟩
      all_goals
        go_wp2_with (go_at_call 270; refine (digit_no _ _ (by omega)).mono ?_; rintro e w' ⟨rfl, rfl⟩)
        all_goals (go_ret; exact ⟨ret_bool F.out.symm, rfl⟩)
    · obtain rfl : k = l.length := by omega
      have F := Lib.hid (sch_end l (by omega) (by omega) ht)
      clear ht
      go_wp2
      go_ret
      exact ⟨ret_bool F.out.symm, rfl⟩
theorem web_any (l : List UInt8) (w : World) : Calls Tryz.prog 260 #[.string ⟨l.toArray⟩] w fun e w' => e = .returned (.bool (webB l)) ∧ w = w' := by
  go_enter Tryz.func260, Tryz.ntmps260
  go_wp2
  all_goals (go_ret; exact ⟨ret_bool (by rw [Bool.eq_iff_iff]; simp_all [webB, http, https]), rfl⟩)
theorem usual_any (l : List UInt8) (w : World) : Calls Tryz.prog 305 #[.string ⟨l.toArray⟩] w fun e w' => e = .returned (.int .i64 (usual l)) ∧ w = w' := by
  go_enter Tryz.func305, Tryz.ntmps305
  go_wp2
  all_goals (go_ret; exact ⟨ret_int (by simp_all [usual, http]), rfl⟩)
end Go.Proofs.YtmaknkbmilcanaaGreatDoor.Ul
namespace Go.Proofs.YtmaknkbmilcanaaGreatDoor.Ul
open Go.RowKit
theorem bcell {W w1 : World} (hb : Below W.heap.size W w1) : (∀ b o, b < W.heap.size → w1.cell? ⟨b, o, none⟩ = W.cell? ⟨b, o, none⟩) ∧ (∀ b o, b < W.heap.size → w1.frozen? ⟨b, o, none⟩ = W.frozen? ⟨b, o, none⟩) :=
  ⟨fun b o h => hb.cell (p := ⟨b, o, none⟩) h, fun b o h => hb.frozen (p := ⟨b, o, none⟩) h⟩
theorem conv_one (W : World) (b : Nat) (v : Int) (h : W.cell? ⟨b, 0, none⟩ = some (.int .u8 v)) : (convert 77 9 (.slice (some ⟨b, 0, none⟩) 1 1)).run Tryz.prog W = .ok (.string ⟨#[UInt8.ofNat v.toNat]⟩) W := by
  have := run_convert_bytes_arg (P := Tryz.prog) W 77 5 Tryz.underlying77 Tryz.underlying5 b 0 1 1 [v] rfl (fun i hi => by
    obtain rfl : i = 0 := by omega
    simpa using h) 9 Tryz.underlying9
  simpa [strOfNums] using this
@[local go_sem] theorem bapp (a b : List UInt8) : (⟨a.toArray⟩ : ByteArray) ++ ⟨b.toArray⟩ = ⟨(a ++ b).toArray⟩ := by
  apply ByteArray.ext; simp

theorem bel_alloc {w Y : World} {o : Obj} (h : Below w.heap.size w Y) : Below w.heap.size w (Y.alloc o) := h.alloc h.size o
theorem bel_step {w W w1 : World} (h : Below w.heap.size w W) (hb : Below W.heap.size W w1) : Below w.heap.size w w1 := h.trans (hb.mono h.size)
theorem bel_set {w Y : World} {p : Addr} {v : Value} (h : Below w.heap.size w Y) (hp : w.heap.size ≤ p.block) : Below w.heap.size w (Y.setCell p v) := h.setCell hp v
theorem digits_one (n : Nat) (h : n < 10) (w : World) : Calls Tryz.prog 160 #[.int .i64 (n : Int)] w fun e w' => e = .returned (.string ⟨(Lib.decDigits n).toArray⟩) ∧ Below w.heap.size w w' := by
  rw [Lib.decDigits_one h]
  have hcv := conv_one
  have d1 : ((n : Int) == -9223372036854775808) = false := by simp
  have d2 : decide ((n : Int) < 0) = false := by simp
  go_enter Tryz.func160, Tryz.ntmps160
  go_wp2
  go_ret
  exact ⟨rfl, (Below.refl _ _).alloc (Nat.le_refl _) _⟩
set_option maxHeartbeats 400000 in
theorem digits_more (n : Nat) (h : ¬ n < 10) (hn : n ≤ 9223372036854775807) (w : World)
   (ih : ∀ w, Calls Tryz.prog 160 #[.int .i64 ((n / 10 : Nat) : Int)] w fun e w' => e = .returned (.string ⟨(Lib.decDigits (n / 10)).toArray⟩) ∧ Below w.heap.size w w') : Calls Tryz.prog 160 #[.int .i64 (n : Int)] w fun e w' => e = .returned (.string ⟨(Lib.decDigits n).toArray⟩) ∧ Below w.heap.size w w' := by
  have e : Lib.decDigits n = Lib.decDigits (n / 10) ++ [UInt8.ofNat (48 + n % 10)] := by rw [Lib.decDigits, dif_neg h]
  have hl : (Lib.decDigits (n / 10)).length ≤ 19 := digs_len 18 _ (by omega)
  rw [e]
  clear e
  have HI := Lib.hid ih
  clear ih
  generalize Lib.decDigits (n / 10) = dd at *
  have hcv := conv_one
  have d1 : ((n : Int) == -9223372036854775808) = false := by simp
  have d2 : decide ((n : Int) < 0) = false := by simp
  have d3 : decide ((n : Int) < 10) = false := by simp; omega
  have w1 : IntKind.i64.wrap ((n : Int) / 10) = ((n / 10 : Nat) : Int) := IntWalk.i64_in _ (by omega)
  go_enter Tryz.func160, Tryz.ntmps160
  go_wp2_with fail
  go_region_with (first | (go_at_call 160; refine (HI.out _).mono ?_; rintro e w1 ⟨rfl, hb⟩; obtain ⟨hc, hf⟩ := bcell hb) | fail)
  all_goals
    go_wp2
    go_ret
    refine ⟨?_, ?_⟩
    · simp [Act.put]
    · repeat (first | exact Below.refl _ _ | refine bel_alloc ?_ | refine Below.drew ?_ | refine bel_step ?_ (by assumption))
theorem digits_any : ∀ (n : Nat), n ≤ 9223372036854775807 → ∀ w : World, Calls Tryz.prog 160 #[.int .i64 (n : Int)] w fun e w' => e = .returned (.string ⟨(Lib.decDigits n).toArray⟩) ∧ Below w.heap.size w w' := by
  intro n
  induction n using Nat.strongRecOn with
  | ind n ih =>
    intro hn w
    by_cases h : n < 10
    · exact digits_one n h w
    · exact digits_more n h hn w (ih (n / 10) (by omega) (by omega))
theorem site_any (s us h pa q f : List UInt8) (p : Int) (hq hf : Bool) (w : World) (hp1 : p ≤ 9223372036854775807) (hl : s.length + h.length ≤ 4611686018427387904) :
    Calls Tryz.prog 300 #[.agg #[.string ⟨s.toArray⟩, .string ⟨us.toArray⟩, .string ⟨h.toArray⟩, .int .i64 p, .string ⟨pa.toArray⟩, .string ⟨q.toArray⟩, .string ⟨f.toArray⟩, .bool hq, .bool hf]] w fun e w' => e = .returned (.string ⟨(siteL s h p).toArray⟩) ∧ Below w.heap.size w w' := by
  by_cases hp : 0 < p
  · obtain ⟨n, rfl⟩ := Int.eq_ofNat_of_zero_le (by omega : 0 ≤ p)
    have e : siteL s h n = s ++ [58, 47, 47] ++ h ++ ([58] ++ Lib.decDigits n) := by simp [siteL, portL]; omega
    have hd := digs_len 18 n (by omega)
    have HC := Lib.hid (digits_any n (by omega))
    rw [e]
    clear e
    generalize Lib.decDigits n = dd at *
    go_enter Tryz.func300, Tryz.ntmps300
    go_wp2_with (go_at_call 160; refine (HC.out _).mono ?_; rintro e w1 ⟨rfl, hb⟩)
    go_ret
    exact ⟨ret_str (by simp), (by repeat (first | exact Below.refl _ _ | refine bel_alloc ?_ | refine Below.drew ?_ | refine bel_step ?_ (by assumption)))⟩
  · have e : siteL s h p = s ++ [58, 47, 47] ++ h := by simp [siteL, portL_no hp]
    rw [e]
    clear e
    go_enter Tryz.func300, Tryz.ntmps300
    go_wp2
    go_ret
    exact ⟨rfl, bel_alloc (Below.refl _ _)⟩
theorem site_bare (h : List UInt8) (p : Int) (w : World) (hp1 : p ≤ 9223372036854775807) (hl : h.length ≤ 4611686018427387904) :
    Calls Tryz.prog 300 #[.agg #[.string ⟨#[]⟩, .string ⟨#[]⟩, .string ⟨h.toArray⟩, .int .i64 p, .string ⟨#[]⟩, .string ⟨#[]⟩, .string ⟨#[]⟩, .bool false, .bool false]] w fun e w' => e = .returned (.string ⟨(58 :: 47 :: 47 :: (h ++ portL p)).toArray⟩) ∧ Below w.heap.size w w' := by
  have := site_any [] [] h [] [] [] p false false w hp1 (by simp; omega)
  have e : siteL [] h p = 58 :: 47 :: 47 :: (h ++ portL p) := by simp [siteL]
  rwa [e] at this
theorem userL_no : userL [] = [] := rfl
theorem userL_yes {l : List UInt8} (h : ¬ l = []) : userL l = l ++ [64] := by simp [userL, h]
end Go.Proofs.YtmaknkbmilcanaaGreatDoor.Ul
namespace Go.Proofs.YtmaknkbmilcanaaGreatDoor.Ul
open Go.RowKit
attribute [local go_sem] bapp
theorem text_web (s us h pa q f : List UInt8) (p : Int) (hq hf : Bool) (w : World) (hp1 : p ≤ 9223372036854775807) (hl : s.length + us.length + h.length + pa.length + q.length + f.length ≤ 4611686018427387904) (hw : webB s = true) :
    Calls Tryz.prog 261 #[.agg #[.string ⟨s.toArray⟩, .string ⟨us.toArray⟩, .string ⟨h.toArray⟩, .int .i64 p, .string ⟨pa.toArray⟩, .string ⟨q.toArray⟩, .string ⟨f.toArray⟩, .bool hq, .bool hf]] w fun e w' => e = .returned (.string ⟨(textL ⟨s, us, h, p, pa, q, f, hq, hf⟩).toArray⟩) ∧ Below w.heap.size w w' := by
  have e : textL ⟨s, us, h, p, pa, q, f, hq, hf⟩ = s ++ [58, 47, 47] ++ userL us ++ (h ++ portL p ++ pa) ++ queryL hq q ++ fragL hf f := by simp [textL, hw]
  rw [e]
  clear e
  have hd := portL_len p hp1
  have HS := Lib.hid (fun W => site_bare h p W hp1 (by omega))
  generalize portL p = po at *
  have b1 : (3 : Int) ≤ ↑h.length + ↑po.length + 1 + 1 + 1 := by omega
  have b2 : ¬ 9223372036854775807 < h.length + po.length + pa.length := by omega
  by_cases hu : us = []
  · subst hu
    have b3 : ¬ 9223372036854775807 < s.length + 3 + (h.length + po.length + pa.length) := by omega
    rw [userL_no]
    go_enter Tryz.func261, Tryz.ntmps261
    go_wp2_with fail
    refine (web_any _ _).mono ?_
    rintro e w' ⟨rfl, rfl⟩
    go_wp2_with fail
    go_region_held3 (fun wx => w.heap.size < wx.heap.size ∧ wx.cell? ⟨w.heap.size, 2, none⟩ = some (.string ⟨h.toArray⟩) ∧ wx.cell? ⟨w.heap.size, 3, none⟩ = some (.int .i64 p) ∧ wx.cell? ⟨w.heap.size, 4, none⟩ = some (.string ⟨pa.toArray⟩) ∧ wx.cell? ⟨w.heap.size, 5, none⟩ = some (.string ⟨q.toArray⟩) ∧ wx.cell? ⟨w.heap.size, 6, none⟩ = some (.string ⟨f.toArray⟩) ∧ wx.cell? ⟨w.heap.size, 7, none⟩ = some (.bool hq) ∧ wx.cell? ⟨w.heap.size, 8, none⟩ = some (.bool hf) ∧ Below w.heap.size w wx)
      (first
          | (simp [*, Below.refl, bel_alloc, Below.drew]; done)
          | (go_split_ands
             have hz := hb.size
             refine ⟨by omega, ?_, ?_, ?_, ?_, ?_, ?_, ?_, bel_step (by assumption) hb⟩
             · (rw [hb.cell (p := ⟨w.heap.size, 2, none⟩) (by assumption)]; assumption)
             · (rw [hb.cell (p := ⟨w.heap.size, 3, none⟩) (by assumption)]; assumption)
             · (rw [hb.cell (p := ⟨w.heap.size, 4, none⟩) (by assumption)]; assumption)
             · (rw [hb.cell (p := ⟨w.heap.size, 5, none⟩) (by assumption)]; assumption)
             · (rw [hb.cell (p := ⟨w.heap.size, 6, none⟩) (by assumption)]; assumption)
             · (rw [hb.cell (p := ⟨w.heap.size, 7, none⟩) (by assumption)]; assumption)
             · (rw [hb.cell (p := ⟨w.heap.size, 8, none⟩) (by assumption)]; assumption)))
      (first | (go_at_call 300; refine (HS.out _).mono ?_; rintro e w1 ⟨rfl, hb⟩))
    cases hq <;> cases hf
    all_goals
      go_wp2
      go_ret
      exact ⟨ret_str (by simp [queryL, fragL, List.take_of_length_le]), by simp [*]⟩
  · rw [userL_yes hu]
    have b3 : ¬ 9223372036854775807 < s.length + (us.length + 1 + 1 + 1 + 1) + (h.length + po.length + pa.length) := by omega
    have hu' : us.isEmpty = false := by simpa using hu
    go_enter Tryz.func261, Tryz.ntmps261
    go_wp2_with fail
    refine (web_any _ _).mono ?_
    rintro e w' ⟨rfl, rfl⟩
    go_wp2_with fail
    go_region_held3 (fun wx => w.heap.size < wx.heap.size ∧ wx.cell? ⟨w.heap.size, 2, none⟩ = some (.string ⟨h.toArray⟩) ∧ wx.cell? ⟨w.heap.size, 3, none⟩ = some (.int .i64 p) ∧ wx.cell? ⟨w.heap.size, 4, none⟩ = some (.string ⟨pa.toArray⟩) ∧ wx.cell? ⟨w.heap.size, 5, none⟩ = some (.string ⟨q.toArray⟩) ∧ wx.cell? ⟨w.heap.size, 6, none⟩ = some (.string ⟨f.toArray⟩) ∧ wx.cell? ⟨w.heap.size, 7, none⟩ = some (.bool hq) ∧ wx.cell? ⟨w.heap.size, 8, none⟩ = some (.bool hf) ∧ Below w.heap.size w wx)
      (first
          | (simp [*, Below.refl, bel_alloc, Below.drew]; done)
          | (go_split_ands
             have hz := hb.size
             refine ⟨by omega, ?_, ?_, ?_, ?_, ?_, ?_, ?_, bel_step (by assumption) hb⟩
             · (rw [hb.cell (p := ⟨w.heap.size, 2, none⟩) (by assumption)]; assumption)
             · (rw [hb.cell (p := ⟨w.heap.size, 3, none⟩) (by assumption)]; assumption)
             · (rw [hb.cell (p := ⟨w.heap.size, 4, none⟩) (by assumption)]; assumption)
             · (rw [hb.cell (p := ⟨w.heap.size, 5, none⟩) (by assumption)]; assumption)
             · (rw [hb.cell (p := ⟨w.heap.size, 6, none⟩) (by assumption)]; assumption)
             · (rw [hb.cell (p := ⟨w.heap.size, 7, none⟩) (by assumption)]; assumption)
             · (rw [hb.cell (p := ⟨w.heap.size, 8, none⟩) (by assumption)]; assumption)))
      (first | (go_at_call 300; refine (HS.out _).mono ?_; rintro e w1 ⟨rfl, hb⟩))
    cases hq <;> cases hf
    all_goals
      go_wp2
      go_ret
      exact ⟨ret_str (by simp [queryL, fragL, List.take_of_length_le]), by simp [*]⟩
theorem text_any (u : U) (w : World) (hp1 : u.prt ≤ 9223372036854775807) (hl : sizeU u ≤ 4611686018427387904) :
    Calls Tryz.prog 261 #[.agg #[.string ⟨u.sch.toArray⟩, .string ⟨u.usr.toArray⟩, .string ⟨u.hst.toArray⟩, .int .i64 u.prt, .string ⟨u.pth.toArray⟩, .string ⟨u.qry.toArray⟩, .string ⟨u.frg.toArray⟩, .bool u.hq, .bool u.hf]] w fun e w' => e = .returned (.string ⟨(textL u).toArray⟩) ∧ Below w.heap.size w w' := by
  obtain ⟨s, us, h, p, pa, q, f, hq, hf⟩ := u
  simp only at hp1 hl ⊢
  unfold sizeU at hl
  simp only at hl
  by_cases hw : webB s = true
  · exact text_web s us h pa q f p hq hf w hp1 hl hw
  · have hw : webB s = false := by simpa using hw
    have e : textL ⟨s, us, h, p, pa, q, f, hq, hf⟩ = s ++ [58] ++ pa := by simp [textL, hw]
    rw [e]
    clear e
    go_enter Tryz.func261, Tryz.ntmps261
    go_wp2_with (go_at_call 260; refine (web_any _ _).mono ?_; rintro e w' ⟨rfl, rfl⟩)
    go_ret
    exact ⟨ret_str (by simp), (by repeat (first | exact Below.refl _ _ | refine bel_alloc ?_ | refine Below.drew ?_ | refine bel_step ?_ (by assumption)))⟩
end Go.Proofs.YtmaknkbmilcanaaGreatDoor.Ul
