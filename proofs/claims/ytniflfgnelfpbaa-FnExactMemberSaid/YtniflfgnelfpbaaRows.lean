/-
  NARROWER THAN 'FOR EVERY INPUT', by the rows' own cells (each row's printed sentence says how): FnExactMember: loops.
  DERIVED. THE GIVEN ROWS OF THIS SEAT. 2 by the template 'for every input the law returns true; each argument reads behind the call as it read before'; 0 by the template 'total and deterministic' (their statements: YtniflfgnelfpbaaTotals.lean).
  GIVEN WITH THE SEED: the statements are not yours to turn. If you find one false, say at which input.
  Laid BY PROGRAM, IN A SANDBOX (cutbox-rows.mjs): the forced cells as the released guide's own fill.sh prints them over the translation 80765cd337094aa4… (all of the seat's roots in one cut). By AI agents, Wed Nov 11 2026. No macro, syntax, notation, axiom, sorry.
-/
import Derived.Test.YtniflfgnelfpbaaChecked
import GoSem.Claim
import GoSem.ClaimJoined
import GoSem.ClaimMapViews
import Derived.JoinedTies
import Derived.KernelRfl
namespace Go.Proofs.Ytniflfgnelfpbaa
/- THE CELL 'sum', in the pinned program and in every row, IS THE sha256 OF THE DUMP (.gsa) THAT YtniflfgnelfpbaaProg.lean LOADS. Nothing in Lean hashes anything: it is a label: what it is worth is what the hold of that sum in a sandbox is worth. -/
noncomputable def Try.pinned : Pinned := { name := "ytniflfgnelfpbaa", sum := "80765cd337094aa47d11fe5d5b952705c42d21bda972741a8f826681ee62f9f1", checked := Try.checked }
namespace Rows
def none {H : Type} : Left H := { results := [], args := [] }

/-- 'laws.FnExactViolationOK': WHATEVER THE INPUT: true; the input reads as it did. -/
def fnExactViolationOKSpec : ChangeSpec := { name := "fnExactViolationOK", fn := fun _ => fun
  | [d] => { results := [.lit (.bool true)], args := [d] }
  | _ => none }
def fnExactViolationOKRow : OpenClaim := { program := "ytniflfgnelfpbaa", sum := "80765cd337094aa47d11fe5d5b952705c42d21bda972741a8f826681ee62f9f1", func := "loop.example/g00779/laws.FnExactViolationOK", spec := "fnExactViolationOK", apart := false }
def FnExactViolationOKSaid : Prop := fnExactViolationOKRow.holds Try.pinned (OpenSpec.ofChange fnExactViolationOKSpec)

/-- ITS FALSE NEIGHBOUR: 'it returns false'. Refute it at one input. -/
def fnExactViolationOKWrong : ChangeSpec := { name := "fnExactViolationOK", fn := fun _ => fun
  | [d] => { results := [.lit (.bool false)], args := [d] }
  | _ => none }
def FnExactViolationOKWrongFalsely : Prop := fnExactViolationOKRow.holds Try.pinned (OpenSpec.ofChange fnExactViolationOKWrong)

/-- 'laws.FnExactMember': WHATEVER THE INPUT: true; the input reads as it did. -/
def fnExactMemberSpec : ChangeSpec := { name := "fnExactMember", fn := fun _ => fun
  | [d1, d2] => { results := [.lit (.bool true)], args := [d1, d2] }
  | _ => none }
def fnExactMemberRow : OpenClaim := { program := "ytniflfgnelfpbaa", sum := "80765cd337094aa47d11fe5d5b952705c42d21bda972741a8f826681ee62f9f1", func := "loop.example/g00779/laws.FnExactMember", spec := "fnExactMember", unfollowed := true, recurses := true, loops := true, apart := false }
def FnExactMemberSaid : Prop := fnExactMemberRow.holds Try.pinned (OpenSpec.ofChange fnExactMemberSpec)

/-- ITS FALSE NEIGHBOUR: 'it returns false'. Refute it at one input. -/
def fnExactMemberWrong : ChangeSpec := { name := "fnExactMember", fn := fun _ => fun
  | [d1, d2] => { results := [.lit (.bool false)], args := [d1, d2] }
  | _ => none }
def FnExactMemberWrongFalsely : Prop := fnExactMemberRow.holds Try.pinned (OpenSpec.ofChange fnExactMemberWrong)

/- THE SECOND FORM. 'bulk': how many values and letters a reading holds, each counted each time it is reached (what is shared counts as often as it is met; a slice's spare places count too). A statement '..UptoSaid' is the law's where the arguments, and the package variables that the reading takes, are together of bulk at most 1048576: NARROWER than '..Said'. Prove '..Said' where nothing that the law and all that it calls make is longer than what came in: it says more and counts as full. Else prove '..UptoSaid'. A law counts once. -/
mutual
def uptoBulk {H : Type} : DataW H → Nat
  | .lit (.string bytes) => bytes.length + 1
  | .lit _ => 1
  | .nil => 1
  | .ptr d => uptoBulk d + 1
  | .slice elems spare => uptoBulkAll elems + uptoBulkAll spare + 1
  | .agg parts => uptoBulkAll parts + 1
  | .iface _ d => uptoBulk d + 1
  | .map entries => uptoBulkEntries entries + 1
  | .held _ => 1
def uptoBulkAll {H : Type} : List (DataW H) → Nat
  | [] => 0
  | d :: r => uptoBulk d + uptoBulkAll r
def uptoBulkEntries {H : Type} : List (Lit × DataW H) → Nat
  | [] => 0
  | x :: r => uptoBulkEntry x + uptoBulkEntries r
def uptoBulkEntry {H : Type} : Lit × DataW H → Nat
  | (.string bytes, d) => bytes.length + uptoBulk d + 1
  | (_, d) => uptoBulk d + 1
 end
def uptoSmall : (H : Type) → List (DataW H) → Bool := fun _ ds => decide (uptoBulkAll ds ≤ 1048576)
def OpenSpec.upto (s : _root_.Go.ChangeSpec) : _root_.Go.OpenSpec := { _root_.Go.OpenSpec.ofChange s with cond := some uptoSmall }

/-- 'laws.FnExactViolationOK', WHERE WHAT IT READS IS OF BULK AT MOST 1048576: true; the input reads as it did. -/
def fnExactViolationOKUptoRow : OpenClaim := { program := "ytniflfgnelfpbaa", sum := "80765cd337094aa47d11fe5d5b952705c42d21bda972741a8f826681ee62f9f1", func := "loop.example/g00779/laws.FnExactViolationOK", spec := "fnExactViolationOK", apart := false, narrowed := true }
def FnExactViolationOKUptoSaid : Prop := fnExactViolationOKUptoRow.holds Try.pinned (OpenSpec.upto fnExactViolationOKSpec)

/-- 'laws.FnExactMember', WHERE WHAT IT READS IS OF BULK AT MOST 1048576: true; the input reads as it did. -/
def fnExactMemberUptoRow : OpenClaim := { program := "ytniflfgnelfpbaa", sum := "80765cd337094aa47d11fe5d5b952705c42d21bda972741a8f826681ee62f9f1", func := "loop.example/g00779/laws.FnExactMember", spec := "fnExactMember", unfollowed := true, recurses := true, loops := true, apart := false, narrowed := true }
def FnExactMemberUptoSaid : Prop := fnExactMemberUptoRow.holds Try.pinned (OpenSpec.upto fnExactMemberSpec)

end Rows
end Go.Proofs.Ytniflfgnelfpbaa
