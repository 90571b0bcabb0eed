
/-
  Wait: how long a peer waits behind so many failures; the model's and the program's, walked.
-/
import Derived.Test.YtmaknkbmilcanaaGreatDoorChecked
import Derived.WalkKit
import Derived.Carry
import Derived.ProofKit
import Derived.WalkSpells
import Derived.WalkLawsBesides
import Derived.Lib.Hide
import Derived.IntWalk
import Derived.Outline
namespace Go.Proofs.YtmaknkbmilcanaaGreatDoor.Pw
open Go.RowKit
def pow2 : Nat → Nat
  | 0 => 1
  | n + 1 => 2 * pow2 n
/-- the wait: doubled up to 32 -/
def waN (n : Nat) : Nat := if n < 5 then pow2 n else 32
def waF (n : Int) : Int := (waN n.toNat : Int)
def waB (n : Int) : Int := if n < 1 then 0 else waF n
theorem waN_le (n : Nat) : waN n ≤ 32 := by
  unfold waN
  split
  · rename_i h
    have : n = 0 ∨ n = 1 ∨ n = 2 ∨ n = 3 ∨ n = 4 := by omega
    rcases this with h | h | h | h | h <;> subst h <;> decide
  · omega
theorem waF_le (n : Int) : 0 ≤ waF n ∧ waF n ≤ 32 := ⟨by unfold waF; omega, by have := waN_le n.toNat; unfold waF; omega⟩
theorem waB_le (n : Int) : 0 ≤ waB n ∧ waB n ≤ 32 := by
  unfold waB
  split
  · omega
  · exact waF_le n
theorem ret_w {a b : Int} (h : a = b) : Ending.returned (.int .i64 a) = .returned (.int .i64 b) := by rw [h]
set_option maxRecDepth 100000 in
set_option maxHeartbeats 1000000 in
theorem waS_any (n : Int) (h1 : 1 ≤ n) (hm : n ≤ 9223372036854775807) (w : World) : Calls Tryz.prog 258 #[.int .i64 n] w fun e w' => e = .returned (.int .i64 (waF n)) ∧ w = w' := by
  obtain ⟨m, hm2⟩ : ∃ m : Nat, n = (m : Int) := ⟨n.toNat, by omega⟩
  subst hm2
  have E := Lib.hid (show waF (m : Int) = (waN m : Int) by unfold waF; simp)
  go_enter Tryz.func258, Tryz.ntmps258
  go_wp2
  go_loop [3, 4] (fun nv iv => ∃ k : Nat, 1 ≤ k ∧ k ≤ 5 ∧ k ≤ m ∧ iv = .int .i64 (k : Int) ∧ nv = .int .i64 (pow2 k : Int)) (fun _ iv => 6 - (intOf iv).toNat)
  case atStart => exact ⟨1, by omega, by omega, by omega, rfl, rfl⟩
  case round =>
    obtain ⟨k, hk1, hk5, hkm, rfl, rfl⟩ := hrel
    by_cases hlt : k < m
    · by_cases h5 : k < 5
      · have hp : pow2 k ≤ 16 := by
          have : k = 1 ∨ k = 2 ∨ k = 3 ∨ k = 4 := by omega
          rcases this with h | h | h | h <;> subst h <;> decide
        have hp2 : (pow2 k : Int) * 2 = (pow2 (k + 1) : Int) := by simp [pow2]; omega
        have d1 : ((pow2 k : Int) < 32) := by omega
        have w1 : IntKind.i64.wrap ((pow2 k : Int) * 2) = (pow2 (k + 1) : Int) := by rw [hp2]; exact IntWalk.i64_in _ (by omega)
        obtain ⟨p2, hp3⟩ : ∃ p, pow2 (k + 1) = p := ⟨_, rfl⟩
        have HP2 := Lib.hid hp3
        rw [hp3] at w1 hp2
        clear hp3
        generalize pow2 k = p at *
        go_wp2
        go_round
        case rel => exact ⟨k + 1, by omega, by omega, by omega, by go_num, by rw [HP2.out]⟩
        case measure => simp [intOf]; omega
      · obtain rfl : k = 5 := by omega
        have E2 := Lib.hid (show waN m = 32 by unfold waN; rw [if_neg (by omega)])
        have d1 : ¬ ((pow2 5 : Int) < 32) := by decide
        have e5 : (pow2 5 : Int) = 32 := by decide
        rw [e5]
        go_wp2
        go_ret
        exact ⟨ret_w (by rw [E.out, E2.out]; rfl), rfl⟩
    · obtain rfl : k = m := by omega
      have E2 := Lib.hid (show waN k = pow2 k by
        unfold waN
        split
        · rfl
        · have : k = 5 := by omega
          subst this; decide)
      have hp : pow2 k ≤ 32 := by rw [← E2.out]; exact waN_le k
      have d1 : min (pow2 k : Int) 32 = pow2 k := by omega
      generalize pow2 k = p at *
      go_wp2
      go_ret
      exact ⟨ret_w (by rw [E.out, E2.out]), rfl⟩
end Go.Proofs.YtmaknkbmilcanaaGreatDoor.Pw
