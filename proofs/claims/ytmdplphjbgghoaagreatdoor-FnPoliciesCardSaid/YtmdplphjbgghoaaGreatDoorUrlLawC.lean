
/-
  The walks of StripUrl, of the program and of the model, and of the laws on it.
-/
import Derived.Test.YtmdplphjbgghoaaGreatDoorUrlLawB
namespace Go.Proofs.YtmdplphjbgghoaaGreatDoor.Ul
open Go.RowKit
attribute [local go_sem] bappI
theorem bfrozI {W w1 : World} (hb : Below W.heap.size W w1) : (∀ b o, b < W.heap.size → w1.frozen? ⟨b, o, none⟩ = W.frozen? ⟨b, o, none⟩) :=
  fun b o h => hb.frozen (p := ⟨b, o, none⟩) h
theorem belI_set {w Y : World} {p : Addr} {v : Value} (h : Below w.heap.size w Y) (hp : w.heap.size ≤ p.block) : Below w.heap.size w (Y.setCell p v) := h.setCell hp v
end Go.Proofs.YtmdplphjbgghoaaGreatDoor.Ul
