
/-
  The law FnExactPolicyOK, walked.
-/
import Derived.Test.YtmdplphjbgghoaaGreatDoorPoO
import Derived.Test.YtmdplphjbgghoaaGreatDoorPoMem
namespace Go.Proofs.YtmdplphjbgghoaaGreatDoor.Po
open Go.RowKit
open Go.Proofs.YtmdplphjbgghoaaGreatDoor.Tx
open Go.Proofs.YtmdplphjbgghoaaGreatDoor.Ul hiding ret_bool
theorem szT_get : ∀ (xs : List (List UInt8)) (i : Nat), i < xs.length → (xs.getD i []).length ≤ szT xs
  | [], _, h => by simp at h
  | x :: r, 0, _ => by simp [szT]
  | x :: r, i + 1, h => by
    have := szT_get r i (by simpa using h)
    simp only [szT, List.getD_cons_succ]
    omega
theorem szLs_get : ∀ (xs : List Rl) (i : Nat), i < xs.length → szL (xs.getD i default) ≤ szLs xs
  | [], _, h => by simp at h
  | x :: r, 0, _ => by simp [szLs]
  | x :: r, i + 1, h => by
    have := szLs_get r i (by simpa using h)
    simp only [szLs, List.getD_cons_succ]
    omega
theorem small_of (p : Pl) (h : szP p ≤ 1048576) : Small p := by
  unfold szP at h
  refine ⟨by omega, by omega, fun i hi => ?_, by omega, fun i hi => ?_, fun i hi => ⟨?_, fun j hj => ?_⟩⟩
  · have := szT_get p.uris i hi; omega
  · have := szLs_get p.rules i hi; unfold szL at this; omega
  · have := szLs_get p.rules i hi; unfold szL at this; omega
  · have := szLs_get p.rules i hi; unfold szL at this; have := szT_get _ j hj; omega
theorem below_chain {W w w' : World} (h : Below W.heap.size W w) (h2 : Below w.heap.size w w') : Below W.heap.size W w' := h.trans (h2.mono h.size)
abbrev aO (p : Pl) (u v : Value) : Obj := .cells #[.string ⟨p.rep.toArray⟩, u, v] 25
abbrev xO (p : Pl) (u v : Value) : Obj := .cells #[.string ⟨p.rep.toArray⟩, u, v] 34
end Go.Proofs.YtmdplphjbgghoaaGreatDoor.Po
