
/-
  Wait: how long a peer waits behind so many failures; the model's and the program's, walked.
-/
import Derived.Test.YtakiigddbdapaaaDoorChecked
import Derived.WalkKit
import Derived.Carry
import Derived.ProofKit
import Derived.WalkSpells
import Derived.WalkLawsBesides
import Derived.Lib.Hide
import Derived.IntWalk
import Derived.Outline
namespace Go.Proofs.YtakiigddbdapaaaDoor.Pw
open Go.RowKit
def pow2 : Nat → Nat
  | 0 => 1
  | n + 1 => 2 * pow2 n
/-- the wait: doubled up to 32 -/
def waN (n : Nat) : Nat := if n < 5 then pow2 n else 32
def waF (n : Int) : Int := (waN n.toNat : Int)
def waB (n : Int) : Int := if n < 1 then 0 else waF n
theorem waN_le (n : Nat) : waN n ≤ 32 := by
  unfold waN
  split
  · rename_i h
    have : n = 0 ∨ n = 1 ∨ n = 2 ∨ n = 3 ∨ n = 4 := by omega
    rcases this with h | h | h | h | h <;> subst h <;> decide
  · omega
theorem waF_le (n : Int) : 0 ≤ waF n ∧ waF n ≤ 32 := ⟨by unfold waF; omega, by have := waN_le n.toNat; unfold waF; omega⟩
theorem waB_le (n : Int) : 0 ≤ waB n ∧ waB n ≤ 32 := by
  unfold waB
  split
  · omega
  · exact waF_le n
theorem ret_w {a b : Int} (h : a = b) : Ending.returned (.int .i64 a) = .returned (.int .i64 b) := by rw [h]
end Go.Proofs.YtakiigddbdapaaaDoor.Pw
