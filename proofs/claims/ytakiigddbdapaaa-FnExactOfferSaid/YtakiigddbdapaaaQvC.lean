
/-
  Settle, the model's.
-/
import Derived.Test.YtakiigddbdapaaaQvB
namespace Go.Proofs.Ytakiigddbdapaaa.Qu
open Go.RowKit
open Go.Proofs.Ytakiigddbdapaaa.Tx
theorem OI_mk {W : World} {n base : Nat} (hn : W.heap.size = n) (hb : base ≤ W.heap.size) : OI (W.alloc (.cells #[] 3)) base (.slice (some ⟨n, 0, none⟩) 0 0) [] := by
  subst hn; exact (OI_made W).base hb
end Go.Proofs.Ytakiigddbdapaaa.Qu
