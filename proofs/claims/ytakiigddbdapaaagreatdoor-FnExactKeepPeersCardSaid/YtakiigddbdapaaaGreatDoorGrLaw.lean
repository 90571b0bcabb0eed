
/-
  The law FnExactGroupOK, walked.
-/
import Derived.Test.YtakiigddbdapaaaGreatDoorGrO
namespace Go.Proofs.YtakiigddbdapaaaGreatDoor.Gr
open Go.RowKit
open Go.Proofs.YtakiigddbdapaaaGreatDoor.Ul
theorem below_chain {W w w' : World} (h : Below W.heap.size W w) (h2 : Below w.heap.size w w') : Below W.heap.size W w' := h.trans (h2.mono h.size)
theorem szU_get : ∀ (xs : List Tg) (i : Nat), i < xs.length → (xs.getD i default).url.length ≤ szU xs
  | [], _, h => by simp at h
  | x :: r, 0, _ => by simp [szU]
  | x :: r, i + 1, h => by
    have := szU_get r i (by simpa using h)
    simp only [szU, List.getD_cons_succ]
    omega
end Go.Proofs.YtakiigddbdapaaaGreatDoor.Gr
