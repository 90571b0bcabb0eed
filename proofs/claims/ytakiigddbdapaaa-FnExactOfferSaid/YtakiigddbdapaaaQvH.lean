
/-
  Expire, the model's: the whole.
-/
import Derived.Test.YtakiigddbdapaaaQvG
namespace Go.Proofs.Ytakiigddbdapaaa.Qu
open Go.RowKit
open Go.Proofs.Ytakiigddbdapaaa.Tx
theorem Fit_drop {xs : List Rep} (h : ∀ i, i < xs.length → Fit (xs.getD i default)) (k : Nat) : ∀ i, i < (xs.drop k).length → Fit ((xs.drop k).getD i default) := fun i hi => by
  simp only [List.length_drop] at hi
  have := h (k + i) (by omega)
  simpa [List.getD] using this
end Go.Proofs.Ytakiigddbdapaaa.Qu
