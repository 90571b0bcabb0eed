
/-
  The law FnExactOffer, walked to its end: the model's l06Offer put into it.
-/
import Derived.Test.YtakiigddbdapaaaQvR
import Derived.Test.YtakiigddbdapaaaQvS
namespace Go.Proofs.Ytakiigddbdapaaa.Qu
open Go.RowKit
open Go.Proofs.Ytakiigddbdapaaa.Tx
theorem offer_all (q : Q) (iv rv : Value) (r : Rep) (W : World) (hi : RpIn (· < W.heap.size) W iv q.items) (hr : TxtsIn (· < W.heap.size) W rv q.recent) (hf : Fit r) :
    Calls Try.prog 4 #[qV iv rv, rV r] W fun e w' => e = .returned (.bool true) ∧ Below W.heap.size W w' :=
  offer_walk q r hf (fun B w0 iv rv hi hr hq W hb hB => lo_any q r hf B w0 iv rv hi hr hq W hb hB) iv rv W hi hr
end Go.Proofs.Ytakiigddbdapaaa.Qu
