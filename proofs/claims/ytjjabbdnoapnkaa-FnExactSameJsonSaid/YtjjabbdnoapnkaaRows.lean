/-
  NARROWER THAN 'FOR EVERY INPUT', by the rows' own cells (each row's printed sentence says how): FnExactMember: loops · FnExactJsonOK: loops · FnExactSameJson: loops.
  DERIVED. THE GIVEN ROWS OF THIS SEAT. 3 by the template 'for every input the law returns true; each argument reads behind the call as it read before'; 0 by the template 'total and deterministic' (their statements: YtjjabbdnoapnkaaTotals.lean).
  GIVEN WITH THE SEED: the statements are not yours to turn. If you find one false, say at which input.
  Laid BY PROGRAM, IN A SANDBOX (cutbox-rows.mjs): the forced cells as the released guide's own fill.sh prints them over the translation 3d24e438fb230904… (all of the seat's roots in one cut). By AI agents, Wed Nov 11 2026. No macro, syntax, notation, axiom, sorry.
-/
import Derived.Test.YtjjabbdnoapnkaaChecked
import GoSem.Claim
import GoSem.ClaimJoined
import GoSem.ClaimMapViews
import Derived.JoinedTies
import Derived.KernelRfl
namespace Go.Proofs.Ytjjabbdnoapnkaa
/- THE CELL 'sum', in the pinned program and in every row, IS THE sha256 OF THE DUMP (.gsa) THAT YtjjabbdnoapnkaaProg.lean LOADS. Nothing in Lean hashes anything: it is a label: what it is worth is what the hold of that sum in a sandbox is worth. -/
noncomputable def Try.pinned : Pinned := { name := "ytjjabbdnoapnkaa", sum := "3d24e438fb230904d089529bb64d26a19a079b59359ddebc9942e6c221221067", checked := Try.checked }
namespace Rows
def none {H : Type} : Left H := { results := [], args := [] }

/-- 'laws.FnExactMember': WHATEVER THE INPUT: true; the input reads as it did. -/
def fnExactMemberSpec : ChangeSpec := { name := "fnExactMember", fn := fun _ => fun
  | [d1, d2] => { results := [.lit (.bool true)], args := [d1, d2] }
  | _ => none }
def fnExactMemberRow : OpenClaim := { program := "ytjjabbdnoapnkaa", sum := "3d24e438fb230904d089529bb64d26a19a079b59359ddebc9942e6c221221067", func := "loop.example/g00779/laws.FnExactMember", spec := "fnExactMember", unfollowed := true, recurses := true, loops := true, apart := false }
def FnExactMemberSaid : Prop := fnExactMemberRow.holds Try.pinned (OpenSpec.ofChange fnExactMemberSpec)

/-- ITS FALSE NEIGHBOUR: 'it returns false'. Refute it at one input. -/
def fnExactMemberWrong : ChangeSpec := { name := "fnExactMember", fn := fun _ => fun
  | [d1, d2] => { results := [.lit (.bool false)], args := [d1, d2] }
  | _ => none }
def FnExactMemberWrongFalsely : Prop := fnExactMemberRow.holds Try.pinned (OpenSpec.ofChange fnExactMemberWrong)

/-- 'laws.FnExactJsonOK': WHATEVER THE INPUT: true; the input reads as it did. -/
def fnExactJsonOKSpec : ChangeSpec := { name := "fnExactJsonOK", fn := fun _ => fun
  | [d] => { results := [.lit (.bool true)], args := [d] }
  | _ => none }
def fnExactJsonOKRow : OpenClaim := { program := "ytjjabbdnoapnkaa", sum := "3d24e438fb230904d089529bb64d26a19a079b59359ddebc9942e6c221221067", func := "loop.example/g00779/laws.FnExactJsonOK", spec := "fnExactJsonOK", unfollowed := true, recurses := true, loops := true, apart := false }
def FnExactJsonOKSaid : Prop := fnExactJsonOKRow.holds Try.pinned (OpenSpec.ofChange fnExactJsonOKSpec)

/-- ITS FALSE NEIGHBOUR: 'it returns false'. Refute it at one input. -/
def fnExactJsonOKWrong : ChangeSpec := { name := "fnExactJsonOK", fn := fun _ => fun
  | [d] => { results := [.lit (.bool false)], args := [d] }
  | _ => none }
def FnExactJsonOKWrongFalsely : Prop := fnExactJsonOKRow.holds Try.pinned (OpenSpec.ofChange fnExactJsonOKWrong)

/-- 'laws.FnExactSameJson': WHATEVER THE INPUT: true; the input reads as it did. -/
def fnExactSameJsonSpec : ChangeSpec := { name := "fnExactSameJson", fn := fun _ => fun
  | [d1, d2] => { results := [.lit (.bool true)], args := [d1, d2] }
  | _ => none }
def fnExactSameJsonRow : OpenClaim := { program := "ytjjabbdnoapnkaa", sum := "3d24e438fb230904d089529bb64d26a19a079b59359ddebc9942e6c221221067", func := "loop.example/g00779/laws.FnExactSameJson", spec := "fnExactSameJson", unfollowed := true, recurses := true, loops := true, apart := false }
def FnExactSameJsonSaid : Prop := fnExactSameJsonRow.holds Try.pinned (OpenSpec.ofChange fnExactSameJsonSpec)

/-- ITS FALSE NEIGHBOUR: 'it returns false'. Refute it at one input. -/
def fnExactSameJsonWrong : ChangeSpec := { name := "fnExactSameJson", fn := fun _ => fun
  | [d1, d2] => { results := [.lit (.bool false)], args := [d1, d2] }
  | _ => none }
def FnExactSameJsonWrongFalsely : Prop := fnExactSameJsonRow.holds Try.pinned (OpenSpec.ofChange fnExactSameJsonWrong)

/- THE SECOND FORM. 'bulk': how many values and letters a reading holds, each counted each time it is reached (what is shared counts as often as it is met; a slice's spare places count too). A statement '..UptoSaid' is the law's where the arguments, and the package variables that the reading takes, are together of bulk at most 1048576: NARROWER than '..Said'. Prove '..Said' where nothing that the law and all that it calls make is longer than what came in: it says more and counts as full. Else prove '..UptoSaid'. A law counts once. -/
mutual
def uptoBulk {H : Type} : DataW H → Nat
  | .lit (.string bytes) => bytes.length + 1
  | .lit _ => 1
  | .nil => 1
  | .ptr d => uptoBulk d + 1
  | .slice elems spare => uptoBulkAll elems + uptoBulkAll spare + 1
  | .agg parts => uptoBulkAll parts + 1
  | .iface _ d => uptoBulk d + 1
  | .map entries => uptoBulkEntries entries + 1
  | .held _ => 1
def uptoBulkAll {H : Type} : List (DataW H) → Nat
  | [] => 0
  | d :: r => uptoBulk d + uptoBulkAll r
def uptoBulkEntries {H : Type} : List (Lit × DataW H) → Nat
  | [] => 0
  | x :: r => uptoBulkEntry x + uptoBulkEntries r
def uptoBulkEntry {H : Type} : Lit × DataW H → Nat
  | (.string bytes, d) => bytes.length + uptoBulk d + 1
  | (_, d) => uptoBulk d + 1
 end
def uptoSmall : (H : Type) → List (DataW H) → Bool := fun _ ds => decide (uptoBulkAll ds ≤ 1048576)
def OpenSpec.upto (s : _root_.Go.ChangeSpec) : _root_.Go.OpenSpec := { _root_.Go.OpenSpec.ofChange s with cond := some uptoSmall }

/-- 'laws.FnExactMember', WHERE WHAT IT READS IS OF BULK AT MOST 1048576: true; the input reads as it did. -/
def fnExactMemberUptoRow : OpenClaim := { program := "ytjjabbdnoapnkaa", sum := "3d24e438fb230904d089529bb64d26a19a079b59359ddebc9942e6c221221067", func := "loop.example/g00779/laws.FnExactMember", spec := "fnExactMember", unfollowed := true, recurses := true, loops := true, apart := false, narrowed := true }
def FnExactMemberUptoSaid : Prop := fnExactMemberUptoRow.holds Try.pinned (OpenSpec.upto fnExactMemberSpec)

/-- 'laws.FnExactJsonOK', WHERE WHAT IT READS IS OF BULK AT MOST 1048576: true; the input reads as it did. -/
def fnExactJsonOKUptoRow : OpenClaim := { program := "ytjjabbdnoapnkaa", sum := "3d24e438fb230904d089529bb64d26a19a079b59359ddebc9942e6c221221067", func := "loop.example/g00779/laws.FnExactJsonOK", spec := "fnExactJsonOK", unfollowed := true, recurses := true, loops := true, apart := false, narrowed := true }
def FnExactJsonOKUptoSaid : Prop := fnExactJsonOKUptoRow.holds Try.pinned (OpenSpec.upto fnExactJsonOKSpec)

/-- 'laws.FnExactSameJson', WHERE WHAT IT READS IS OF BULK AT MOST 1048576: true; the input reads as it did. -/
def fnExactSameJsonUptoRow : OpenClaim := { program := "ytjjabbdnoapnkaa", sum := "3d24e438fb230904d089529bb64d26a19a079b59359ddebc9942e6c221221067", func := "loop.example/g00779/laws.FnExactSameJson", spec := "fnExactSameJson", unfollowed := true, recurses := true, loops := true, apart := false, narrowed := true }
def FnExactSameJsonUptoSaid : Prop := fnExactSameJsonUptoRow.holds Try.pinned (OpenSpec.upto fnExactSameJsonSpec)

end Rows
end Go.Proofs.Ytjjabbdnoapnkaa
