
/-
  The law FnExactQueueOK, walked.
-/
import Derived.Test.YtakiigddbdapaaaQuS
import Derived.Deep.RegionHeld3
namespace Go.Proofs.Ytakiigddbdapaaa.Qu
open Go.RowKit
open Go.Proofs.Ytakiigddbdapaaa.Tx
theorem RpIn.fit {S : Nat → Prop} {w : World} {v : Value} {xs : List Rep} (h : RpIn S w v xs) : ∀ i, i < xs.length → Fit (xs.getD i default) := by
  obtain ⟨_, _, _, _, _, _, _, h, _⟩ := h; exact h
theorem TxtsIn_lens {S : Nat → Prop} {w : World} {v : Value} {ns : List (List UInt8)} (h : TxtsIn S w v ns) : ∀ i, i < ns.length → (ns.getD i []).length ≤ 9223372036854775807 := by
  obtain ⟨_, _, _, _, _, _, _, h, _⟩ := h; exact h
abbrev lqO (iv rv : Value) : Obj := .cells #[iv, rv] 27
abbrev iqO (iv rv : Value) : Obj := .cells #[iv, rv] 34
end Go.Proofs.Ytakiigddbdapaaa.Qu
