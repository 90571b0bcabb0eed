
/-
  The code of a batch, the program's and the model's; the Ids of a list; Settle, both.
-/
import Derived.Test.YtakiigddbdapaaaQuZ
import Derived.Test.YtakiigddbdapaaaUrlSpecA
namespace Go.Proofs.Ytakiigddbdapaaa.Qu
open Go.RowKit
open Go.Proofs.Ytakiigddbdapaaa.Tx
def stC (q : Q) (n : Int) : Int := if quB q then (if 0 ≤ n ∧ n ≤ ((min q.items.length 3 : Nat) : Int) then 0 else 4) else 1
theorem stC_no {q : Q} {n : Int} (h : quB q = false) : stC q n = 1 := by unfold stC; rw [h]; rfl
theorem stC_lo {q : Q} {n : Int} (h : quB q = true) (h2 : n < 0) : stC q n = 4 := by unfold stC; rw [h, if_pos rfl, if_neg (by omega)]
theorem stC_hi {q : Q} {n : Int} (h : quB q = true) (h2 : ((min q.items.length 3 : Nat) : Int) < n) : stC q n = 4 := by unfold stC; rw [h, if_pos rfl, if_neg (by omega)]
theorem stC_ok {q : Q} {n : Int} (h : quB q = true) (h1 : 0 ≤ n) (h2 : n ≤ ((min q.items.length 3 : Nat) : Int)) : stC q n = 0 := by unfold stC; rw [h, if_pos rfl, if_pos ⟨h1, h2⟩]
def NewIs (W : World) (ds : List Int) (e : Ending) (w' : World) : Prop := ∃ v, e = .returned v ∧ OI w' W.heap.size v ds ∧ Below W.heap.size W w'
end Go.Proofs.Ytakiigddbdapaaa.Qu
