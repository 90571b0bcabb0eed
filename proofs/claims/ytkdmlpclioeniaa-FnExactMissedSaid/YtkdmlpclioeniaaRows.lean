/-
  No cell of these rows narrows 'for every input' (looked for: loops, veiled, ifaces, maps, wideKeys, modest, calm, conditions, laid).
  DERIVED. THE GIVEN ROWS OF THIS SEAT. 8 by the template 'for every input the law returns true; each argument reads behind the call as it read before'; 0 by the template 'total and deterministic' (their statements: YtkdmlpclioeniaaTotals.lean).
  GIVEN WITH THE SEED: the statements are not yours to turn. If you find one false, say at which input.
  Laid BY PROGRAM, IN A SANDBOX (cutbox-rows.mjs): the forced cells as the released guide's own fill.sh prints them over the translation 96d3440de3d80de3… (all of the seat's roots in one cut). By AI agents, Wed Nov 11 2026. No macro, syntax, notation, axiom, sorry.
-/
import Derived.Test.YtkdmlpclioeniaaChecked
import GoSem.Claim
import GoSem.ClaimJoined
import GoSem.ClaimMapViews
import Derived.JoinedTies
import Derived.KernelRfl
namespace Go.Proofs.Ytkdmlpclioeniaa
/- THE CELL 'sum', in the pinned program and in every row, IS THE sha256 OF THE DUMP (.gsa) THAT YtkdmlpclioeniaaProg.lean LOADS. Nothing in Lean hashes anything: it is a label: what it is worth is what the hold of that sum in a sandbox is worth. -/
noncomputable def Try.pinned : Pinned := { name := "ytkdmlpclioeniaa", sum := "96d3440de3d80de3675a9546e634e1fb794eabb2aa7569e07da82f217dcb67e1", checked := Try.checked }
namespace Rows
def none {H : Type} : Left H := { results := [], args := [] }

/-- 'laws.FnExactReportOK': WHATEVER THE INPUT: true; the input reads as it did. -/
def fnExactReportOKSpec : ChangeSpec := { name := "fnExactReportOK", fn := fun _ => fun
  | [d] => { results := [.lit (.bool true)], args := [d] }
  | _ => none }
def fnExactReportOKRow : OpenClaim := { program := "ytkdmlpclioeniaa", sum := "96d3440de3d80de3675a9546e634e1fb794eabb2aa7569e07da82f217dcb67e1", func := "loop.example/g00779/laws.FnExactReportOK", spec := "fnExactReportOK", apart := false }
def FnExactReportOKSaid : Prop := fnExactReportOKRow.holds Try.pinned (OpenSpec.ofChange fnExactReportOKSpec)

/-- ITS FALSE NEIGHBOUR: 'it returns false'. Refute it at one input. -/
def fnExactReportOKWrong : ChangeSpec := { name := "fnExactReportOK", fn := fun _ => fun
  | [d] => { results := [.lit (.bool false)], args := [d] }
  | _ => none }
def FnExactReportOKWrongFalsely : Prop := fnExactReportOKRow.holds Try.pinned (OpenSpec.ofChange fnExactReportOKWrong)

/-- 'laws.FnExactQueueOK': WHATEVER THE INPUT: true; the input reads as it did. -/
def fnExactQueueOKSpec : ChangeSpec := { name := "fnExactQueueOK", fn := fun _ => fun
  | [d] => { results := [.lit (.bool true)], args := [d] }
  | _ => none }
def fnExactQueueOKRow : OpenClaim := { program := "ytkdmlpclioeniaa", sum := "96d3440de3d80de3675a9546e634e1fb794eabb2aa7569e07da82f217dcb67e1", func := "loop.example/g00779/laws.FnExactQueueOK", spec := "fnExactQueueOK", apart := false }
def FnExactQueueOKSaid : Prop := fnExactQueueOKRow.holds Try.pinned (OpenSpec.ofChange fnExactQueueOKSpec)

/-- ITS FALSE NEIGHBOUR: 'it returns false'. Refute it at one input. -/
def fnExactQueueOKWrong : ChangeSpec := { name := "fnExactQueueOK", fn := fun _ => fun
  | [d] => { results := [.lit (.bool false)], args := [d] }
  | _ => none }
def FnExactQueueOKWrongFalsely : Prop := fnExactQueueOKRow.holds Try.pinned (OpenSpec.ofChange fnExactQueueOKWrong)

/-- 'laws.FnExactSameQueue': WHATEVER THE INPUT: true; the input reads as it did. -/
def fnExactSameQueueSpec : ChangeSpec := { name := "fnExactSameQueue", fn := fun _ => fun
  | [d1, d2] => { results := [.lit (.bool true)], args := [d1, d2] }
  | _ => none }
def fnExactSameQueueRow : OpenClaim := { program := "ytkdmlpclioeniaa", sum := "96d3440de3d80de3675a9546e634e1fb794eabb2aa7569e07da82f217dcb67e1", func := "loop.example/g00779/laws.FnExactSameQueue", spec := "fnExactSameQueue", apart := false }
def FnExactSameQueueSaid : Prop := fnExactSameQueueRow.holds Try.pinned (OpenSpec.ofChange fnExactSameQueueSpec)

/-- ITS FALSE NEIGHBOUR: 'it returns false'. Refute it at one input. -/
def fnExactSameQueueWrong : ChangeSpec := { name := "fnExactSameQueue", fn := fun _ => fun
  | [d1, d2] => { results := [.lit (.bool false)], args := [d1, d2] }
  | _ => none }
def FnExactSameQueueWrongFalsely : Prop := fnExactSameQueueRow.holds Try.pinned (OpenSpec.ofChange fnExactSameQueueWrong)

/-- 'laws.FnExactBatch': WHATEVER THE INPUT: true; the input reads as it did. -/
def fnExactBatchSpec : ChangeSpec := { name := "fnExactBatch", fn := fun _ => fun
  | [d] => { results := [.lit (.bool true)], args := [d] }
  | _ => none }
def fnExactBatchRow : OpenClaim := { program := "ytkdmlpclioeniaa", sum := "96d3440de3d80de3675a9546e634e1fb794eabb2aa7569e07da82f217dcb67e1", func := "loop.example/g00779/laws.FnExactBatch", spec := "fnExactBatch", apart := false }
def FnExactBatchSaid : Prop := fnExactBatchRow.holds Try.pinned (OpenSpec.ofChange fnExactBatchSpec)

/-- ITS FALSE NEIGHBOUR: 'it returns false'. Refute it at one input. -/
def fnExactBatchWrong : ChangeSpec := { name := "fnExactBatch", fn := fun _ => fun
  | [d] => { results := [.lit (.bool false)], args := [d] }
  | _ => none }
def FnExactBatchWrongFalsely : Prop := fnExactBatchRow.holds Try.pinned (OpenSpec.ofChange fnExactBatchWrong)

/-- 'laws.FnExactSettle': WHATEVER THE INPUT: true; the input reads as it did. -/
def fnExactSettleSpec : ChangeSpec := { name := "fnExactSettle", fn := fun _ => fun
  | [d1, d2] => { results := [.lit (.bool true)], args := [d1, d2] }
  | _ => none }
def fnExactSettleRow : OpenClaim := { program := "ytkdmlpclioeniaa", sum := "96d3440de3d80de3675a9546e634e1fb794eabb2aa7569e07da82f217dcb67e1", func := "loop.example/g00779/laws.FnExactSettle", spec := "fnExactSettle", apart := false }
def FnExactSettleSaid : Prop := fnExactSettleRow.holds Try.pinned (OpenSpec.ofChange fnExactSettleSpec)

/-- ITS FALSE NEIGHBOUR: 'it returns false'. Refute it at one input. -/
def fnExactSettleWrong : ChangeSpec := { name := "fnExactSettle", fn := fun _ => fun
  | [d1, d2] => { results := [.lit (.bool false)], args := [d1, d2] }
  | _ => none }
def FnExactSettleWrongFalsely : Prop := fnExactSettleRow.holds Try.pinned (OpenSpec.ofChange fnExactSettleWrong)

/-- 'laws.FnExactExpire': WHATEVER THE INPUT: true; the input reads as it did. -/
def fnExactExpireSpec : ChangeSpec := { name := "fnExactExpire", fn := fun _ => fun
  | [d1, d2, d3] => { results := [.lit (.bool true)], args := [d1, d2, d3] }
  | _ => none }
def fnExactExpireRow : OpenClaim := { program := "ytkdmlpclioeniaa", sum := "96d3440de3d80de3675a9546e634e1fb794eabb2aa7569e07da82f217dcb67e1", func := "loop.example/g00779/laws.FnExactExpire", spec := "fnExactExpire", apart := false }
def FnExactExpireSaid : Prop := fnExactExpireRow.holds Try.pinned (OpenSpec.ofChange fnExactExpireSpec)

/-- ITS FALSE NEIGHBOUR: 'it returns false'. Refute it at one input. -/
def fnExactExpireWrong : ChangeSpec := { name := "fnExactExpire", fn := fun _ => fun
  | [d1, d2, d3] => { results := [.lit (.bool false)], args := [d1, d2, d3] }
  | _ => none }
def FnExactExpireWrongFalsely : Prop := fnExactExpireRow.holds Try.pinned (OpenSpec.ofChange fnExactExpireWrong)

/-- 'laws.FnExactMissed': WHATEVER THE INPUT: true; the input reads as it did. -/
def fnExactMissedSpec : ChangeSpec := { name := "fnExactMissed", fn := fun _ => fun
  | [d1, d2] => { results := [.lit (.bool true)], args := [d1, d2] }
  | _ => none }
def fnExactMissedRow : OpenClaim := { program := "ytkdmlpclioeniaa", sum := "96d3440de3d80de3675a9546e634e1fb794eabb2aa7569e07da82f217dcb67e1", func := "loop.example/g00779/laws.FnExactMissed", spec := "fnExactMissed", apart := false }
def FnExactMissedSaid : Prop := fnExactMissedRow.holds Try.pinned (OpenSpec.ofChange fnExactMissedSpec)

/-- ITS FALSE NEIGHBOUR: 'it returns false'. Refute it at one input. -/
def fnExactMissedWrong : ChangeSpec := { name := "fnExactMissed", fn := fun _ => fun
  | [d1, d2] => { results := [.lit (.bool false)], args := [d1, d2] }
  | _ => none }
def FnExactMissedWrongFalsely : Prop := fnExactMissedRow.holds Try.pinned (OpenSpec.ofChange fnExactMissedWrong)

/-- 'laws.FnExactOffer': WHATEVER THE INPUT: true; the input reads as it did. -/
def fnExactOfferSpec : ChangeSpec := { name := "fnExactOffer", fn := fun _ => fun
  | [d1, d2] => { results := [.lit (.bool true)], args := [d1, d2] }
  | _ => none }
def fnExactOfferRow : OpenClaim := { program := "ytkdmlpclioeniaa", sum := "96d3440de3d80de3675a9546e634e1fb794eabb2aa7569e07da82f217dcb67e1", func := "loop.example/g00779/laws.FnExactOffer", spec := "fnExactOffer", apart := false }
def FnExactOfferSaid : Prop := fnExactOfferRow.holds Try.pinned (OpenSpec.ofChange fnExactOfferSpec)

/-- ITS FALSE NEIGHBOUR: 'it returns false'. Refute it at one input. -/
def fnExactOfferWrong : ChangeSpec := { name := "fnExactOffer", fn := fun _ => fun
  | [d1, d2] => { results := [.lit (.bool false)], args := [d1, d2] }
  | _ => none }
def FnExactOfferWrongFalsely : Prop := fnExactOfferRow.holds Try.pinned (OpenSpec.ofChange fnExactOfferWrong)

/- THE SECOND FORM. 'bulk': how many values and letters a reading holds, each counted each time it is reached (what is shared counts as often as it is met; a slice's spare places count too). A statement '..UptoSaid' is the law's where the arguments, and the package variables that the reading takes, are together of bulk at most 1048576: NARROWER than '..Said'. Prove '..Said' where nothing that the law and all that it calls make is longer than what came in: it says more and counts as full. Else prove '..UptoSaid'. A law counts once. -/
mutual
def uptoBulk {H : Type} : DataW H → Nat
  | .lit (.string bytes) => bytes.length + 1
  | .lit _ => 1
  | .nil => 1
  | .ptr d => uptoBulk d + 1
  | .slice elems spare => uptoBulkAll elems + uptoBulkAll spare + 1
  | .agg parts => uptoBulkAll parts + 1
  | .iface _ d => uptoBulk d + 1
  | .map entries => uptoBulkEntries entries + 1
  | .held _ => 1
def uptoBulkAll {H : Type} : List (DataW H) → Nat
  | [] => 0
  | d :: r => uptoBulk d + uptoBulkAll r
def uptoBulkEntries {H : Type} : List (Lit × DataW H) → Nat
  | [] => 0
  | x :: r => uptoBulkEntry x + uptoBulkEntries r
def uptoBulkEntry {H : Type} : Lit × DataW H → Nat
  | (.string bytes, d) => bytes.length + uptoBulk d + 1
  | (_, d) => uptoBulk d + 1
 end
def uptoSmall : (H : Type) → List (DataW H) → Bool := fun _ ds => decide (uptoBulkAll ds ≤ 1048576)
def OpenSpec.upto (s : _root_.Go.ChangeSpec) : _root_.Go.OpenSpec := { _root_.Go.OpenSpec.ofChange s with cond := some uptoSmall }

/-- 'laws.FnExactReportOK', WHERE WHAT IT READS IS OF BULK AT MOST 1048576: true; the input reads as it did. -/
def fnExactReportOKUptoRow : OpenClaim := { program := "ytkdmlpclioeniaa", sum := "96d3440de3d80de3675a9546e634e1fb794eabb2aa7569e07da82f217dcb67e1", func := "loop.example/g00779/laws.FnExactReportOK", spec := "fnExactReportOK", apart := false, narrowed := true }
def FnExactReportOKUptoSaid : Prop := fnExactReportOKUptoRow.holds Try.pinned (OpenSpec.upto fnExactReportOKSpec)

/-- 'laws.FnExactQueueOK', WHERE WHAT IT READS IS OF BULK AT MOST 1048576: true; the input reads as it did. -/
def fnExactQueueOKUptoRow : OpenClaim := { program := "ytkdmlpclioeniaa", sum := "96d3440de3d80de3675a9546e634e1fb794eabb2aa7569e07da82f217dcb67e1", func := "loop.example/g00779/laws.FnExactQueueOK", spec := "fnExactQueueOK", apart := false, narrowed := true }
def FnExactQueueOKUptoSaid : Prop := fnExactQueueOKUptoRow.holds Try.pinned (OpenSpec.upto fnExactQueueOKSpec)

/-- 'laws.FnExactSameQueue', WHERE WHAT IT READS IS OF BULK AT MOST 1048576: true; the input reads as it did. -/
def fnExactSameQueueUptoRow : OpenClaim := { program := "ytkdmlpclioeniaa", sum := "96d3440de3d80de3675a9546e634e1fb794eabb2aa7569e07da82f217dcb67e1", func := "loop.example/g00779/laws.FnExactSameQueue", spec := "fnExactSameQueue", apart := false, narrowed := true }
def FnExactSameQueueUptoSaid : Prop := fnExactSameQueueUptoRow.holds Try.pinned (OpenSpec.upto fnExactSameQueueSpec)

/-- 'laws.FnExactBatch', WHERE WHAT IT READS IS OF BULK AT MOST 1048576: true; the input reads as it did. -/
def fnExactBatchUptoRow : OpenClaim := { program := "ytkdmlpclioeniaa", sum := "96d3440de3d80de3675a9546e634e1fb794eabb2aa7569e07da82f217dcb67e1", func := "loop.example/g00779/laws.FnExactBatch", spec := "fnExactBatch", apart := false, narrowed := true }
def FnExactBatchUptoSaid : Prop := fnExactBatchUptoRow.holds Try.pinned (OpenSpec.upto fnExactBatchSpec)

/-- 'laws.FnExactSettle', WHERE WHAT IT READS IS OF BULK AT MOST 1048576: true; the input reads as it did. -/
def fnExactSettleUptoRow : OpenClaim := { program := "ytkdmlpclioeniaa", sum := "96d3440de3d80de3675a9546e634e1fb794eabb2aa7569e07da82f217dcb67e1", func := "loop.example/g00779/laws.FnExactSettle", spec := "fnExactSettle", apart := false, narrowed := true }
def FnExactSettleUptoSaid : Prop := fnExactSettleUptoRow.holds Try.pinned (OpenSpec.upto fnExactSettleSpec)

/-- 'laws.FnExactExpire', WHERE WHAT IT READS IS OF BULK AT MOST 1048576: true; the input reads as it did. -/
def fnExactExpireUptoRow : OpenClaim := { program := "ytkdmlpclioeniaa", sum := "96d3440de3d80de3675a9546e634e1fb794eabb2aa7569e07da82f217dcb67e1", func := "loop.example/g00779/laws.FnExactExpire", spec := "fnExactExpire", apart := false, narrowed := true }
def FnExactExpireUptoSaid : Prop := fnExactExpireUptoRow.holds Try.pinned (OpenSpec.upto fnExactExpireSpec)

/-- 'laws.FnExactMissed', WHERE WHAT IT READS IS OF BULK AT MOST 1048576: true; the input reads as it did. -/
def fnExactMissedUptoRow : OpenClaim := { program := "ytkdmlpclioeniaa", sum := "96d3440de3d80de3675a9546e634e1fb794eabb2aa7569e07da82f217dcb67e1", func := "loop.example/g00779/laws.FnExactMissed", spec := "fnExactMissed", apart := false, narrowed := true }
def FnExactMissedUptoSaid : Prop := fnExactMissedUptoRow.holds Try.pinned (OpenSpec.upto fnExactMissedSpec)

/-- 'laws.FnExactOffer', WHERE WHAT IT READS IS OF BULK AT MOST 1048576: true; the input reads as it did. -/
def fnExactOfferUptoRow : OpenClaim := { program := "ytkdmlpclioeniaa", sum := "96d3440de3d80de3675a9546e634e1fb794eabb2aa7569e07da82f217dcb67e1", func := "loop.example/g00779/laws.FnExactOffer", spec := "fnExactOffer", apart := false, narrowed := true }
def FnExactOfferUptoSaid : Prop := fnExactOfferUptoRow.holds Try.pinned (OpenSpec.upto fnExactOfferSpec)

end Rows
end Go.Proofs.Ytkdmlpclioeniaa
