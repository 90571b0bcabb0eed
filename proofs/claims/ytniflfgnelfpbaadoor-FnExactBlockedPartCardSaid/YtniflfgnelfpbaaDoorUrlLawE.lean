
/-
  The law on SameOrigin, walked.
-/
import Derived.Test.YtniflfgnelfpbaaDoorUrlLawD
import Derived.Test.YtniflfgnelfpbaaDoorUrlAt
import Derived.Deep.DeepCutAuto
namespace Go.Proofs.YtniflfgnelfpbaaDoor.Ul
open Go.RowKit
def sameO (a b : U) : Bool := okB a && okB b && (webB a.sch && (a.sch == b.sch) && (a.hst == b.hst) && (a.prt == b.prt))
theorem iSameU_any (a b : U) (w : World) (hT : Tab w) (hl : sizeU a ≤ 4611686018427387904) (hl2 : sizeU b ≤ 4611686018427387904) : Calls Tryd.prog 47 #[uV a, uV b] w fun e w' => e = .returned (.bool (sameO a b)) ∧ Below w.heap.size w w' :=
  iSame_any a.sch a.usr a.hst a.pth a.qry a.frg b.sch b.usr b.hst b.pth b.qry b.frg a.prt b.prt a.hq a.hf b.hq b.hf w hT hl hl2
end Go.Proofs.YtniflfgnelfpbaaDoor.Ul
