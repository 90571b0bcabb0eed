/-
  DERIVED. GIVEN WITH THE SEED: THE CARDS: each row of YtbkikbhnehjaaaaGreatDoorRows.lean that lists a variable, with what it lists TIED to the program's text (the seventh form; the later family's looks); each row that meets fmt, with fmt's text TOLD by the authors' own Lean function (tested against real Go, not proved from fmt's source: count such statements apart). THE CARD IS WHAT COUNTS. Prove the row's statement (the work); the ties are given (YtbkikbhnehjaaaaGreatDoorTie.lean); close each card by the builder's one call (the guide's Derived/Test/ToyasCard.lean, 'card_holds'). Laid BY PROGRAM, IN A SANDBOX (cutbox-door.mjs). By AI agents, Wed Nov 11 2026. No macro, syntax, notation, axiom, sorry.
-/
import Derived.Test.YtbkikbhnehjaaaaGreatDoorRows
import GoSem.ClaimSeven
namespace Go.Proofs.YtbkikbhnehjaaaaGreatDoor
namespace Rows

/-- THE TIED CARD OF 'laws.FnExactNewPipe'. -/
def fnExactNewPipeCard : Claim7 := { stood := { row := fnExactNewPipeRow, standIns := [], harness := (true, "7c611f5bb2e5a9073aa3b9ebc9fe965fc48f26a6e5538c8fd2f30a93c7bc0fda"), looks := true }, kinds := [], alts := [], laidByText := true, laidKinds := [.data, .data, .data, .data, .pinned], laidTests := true, laidLooks := .later }
def FnExactNewPipeCardSaid : Prop := Claim7.holds Tryz.pinned (.plain (OpenSpec.ofChange fnExactNewPipeSpec)) fnExactNewPipeCard

/-- THE TIED CARD OF 'laws.FnExactPipeOK'. -/
def fnExactPipeOKCard : Claim7 := { stood := { row := fnExactPipeOKRow, standIns := [], harness := (true, "7c611f5bb2e5a9073aa3b9ebc9fe965fc48f26a6e5538c8fd2f30a93c7bc0fda"), looks := true }, kinds := [], alts := [], laidByText := true, laidKinds := [.data, .data, .data], laidTests := true, laidLooks := .later }
def FnExactPipeOKCardSaid : Prop := Claim7.holds Tryz.pinned (.plain (OpenSpec.ofChange fnExactPipeOKSpec)) fnExactPipeOKCard

/-- THE TIED CARD OF 'laws.FnExactSamePipe'. -/
def fnExactSamePipeCard : Claim7 := { stood := { row := fnExactSamePipeRow, standIns := [], harness := (true, "7c611f5bb2e5a9073aa3b9ebc9fe965fc48f26a6e5538c8fd2f30a93c7bc0fda"), looks := true }, kinds := [], alts := [], laidByText := true, laidKinds := [.data, .data, .data], laidTests := true, laidLooks := .later }
def FnExactSamePipeCardSaid : Prop := Claim7.holds Tryz.pinned (.plain (OpenSpec.ofChange fnExactSamePipeSpec)) fnExactSamePipeCard

/-- THE TIED CARD OF 'laws.FnExactBodyOf'. -/
def fnExactBodyOfCard : Claim7 := { stood := { row := fnExactBodyOfRow, standIns := [], harness := (true, "7c611f5bb2e5a9073aa3b9ebc9fe965fc48f26a6e5538c8fd2f30a93c7bc0fda"), looks := true }, kinds := [], alts := [], laidByText := true, laidKinds := [.data, .data, .data, .sentinel], laidTests := true, laidLooks := .later }
def FnExactBodyOfCardSaid : Prop := Claim7.holds Tryz.pinned (.plain (OpenSpec.ofChange fnExactBodyOfSpec)) fnExactBodyOfCard

/-- THE TIED CARD OF 'laws.FnExactBodyText'. -/
def fnExactBodyTextCard : Claim7 := { stood := { row := fnExactBodyTextRow, standIns := [], harness := (true, "7c611f5bb2e5a9073aa3b9ebc9fe965fc48f26a6e5538c8fd2f30a93c7bc0fda"), looks := true }, kinds := [], alts := [], laidByText := true, laidKinds := [.data, .data, .data, .sentinel], laidTests := true, laidLooks := .later }
def FnExactBodyTextCardSaid : Prop := Claim7.holds Tryz.pinned (.plain (OpenSpec.ofChange fnExactBodyTextSpec)) fnExactBodyTextCard

/-- THE TIED CARD OF 'laws.FnExactAlikeOutside'. -/
def fnExactAlikeOutsideCard : Claim7 := { stood := { row := fnExactAlikeOutsideRow, standIns := [], harness := (true, "7c611f5bb2e5a9073aa3b9ebc9fe965fc48f26a6e5538c8fd2f30a93c7bc0fda"), looks := true }, kinds := [], alts := [], laidByText := true, laidKinds := [.data, .data, .data, .sentinel], laidTests := true, laidLooks := .later }
def FnExactAlikeOutsideCardSaid : Prop := Claim7.holds Tryz.pinned (.plain (OpenSpec.ofChange fnExactAlikeOutsideSpec)) fnExactAlikeOutsideCard

/-- THE TIED CARD OF 'laws.FnKeep'. -/
def fnKeepCard : Claim7 := { stood := { row := fnKeepRow, standIns := [], harness := (true, "7c611f5bb2e5a9073aa3b9ebc9fe965fc48f26a6e5538c8fd2f30a93c7bc0fda"), looks := true }, kinds := [], alts := [], laidByText := true, laidKinds := [.data, .data, .data], laidTests := true, laidLooks := .later }
def FnKeepCardSaid : Prop := Claim7.holds Tryz.pinned (.plain (OpenSpec.ofChange fnKeepSpec)) fnKeepCard

/-- THE TIED CARD OF 'laws.FnPolicies'. -/
def fnPoliciesCard : Claim7 := { stood := { row := fnPoliciesRow, standIns := [], harness := (true, "7c611f5bb2e5a9073aa3b9ebc9fe965fc48f26a6e5538c8fd2f30a93c7bc0fda"), looks := true }, kinds := [], alts := [], laidByText := true, laidKinds := [.data, .data, .data, .data, .pinned], laidTests := true, laidLooks := .later }
def FnPoliciesCardSaid : Prop := Claim7.holds Tryz.pinned (.plain (OpenSpec.ofChange fnPoliciesSpec)) fnPoliciesCard

/-- THE SECOND FORM's CARD OF 'laws.FnExactNewPipe'. -/
def fnExactNewPipeUptoCard : Claim7 := { stood := { row := fnExactNewPipeUptoRow, standIns := [], harness := (true, "7c611f5bb2e5a9073aa3b9ebc9fe965fc48f26a6e5538c8fd2f30a93c7bc0fda"), looks := true }, kinds := [], alts := [], laidByText := true, laidKinds := [.data, .data, .data, .data, .pinned], laidTests := true, laidLooks := .later }
def FnExactNewPipeUptoCardSaid : Prop := Claim7.holds Tryz.pinned (.plain (OpenSpec.upto fnExactNewPipeSpec)) fnExactNewPipeUptoCard

/-- THE SECOND FORM's CARD OF 'laws.FnExactPipeOK'. -/
def fnExactPipeOKUptoCard : Claim7 := { stood := { row := fnExactPipeOKUptoRow, standIns := [], harness := (true, "7c611f5bb2e5a9073aa3b9ebc9fe965fc48f26a6e5538c8fd2f30a93c7bc0fda"), looks := true }, kinds := [], alts := [], laidByText := true, laidKinds := [.data, .data, .data], laidTests := true, laidLooks := .later }
def FnExactPipeOKUptoCardSaid : Prop := Claim7.holds Tryz.pinned (.plain (OpenSpec.upto fnExactPipeOKSpec)) fnExactPipeOKUptoCard

/-- THE SECOND FORM's CARD OF 'laws.FnExactSamePipe'. -/
def fnExactSamePipeUptoCard : Claim7 := { stood := { row := fnExactSamePipeUptoRow, standIns := [], harness := (true, "7c611f5bb2e5a9073aa3b9ebc9fe965fc48f26a6e5538c8fd2f30a93c7bc0fda"), looks := true }, kinds := [], alts := [], laidByText := true, laidKinds := [.data, .data, .data], laidTests := true, laidLooks := .later }
def FnExactSamePipeUptoCardSaid : Prop := Claim7.holds Tryz.pinned (.plain (OpenSpec.upto fnExactSamePipeSpec)) fnExactSamePipeUptoCard

/-- THE SECOND FORM's CARD OF 'laws.FnExactBodyOf'. -/
def fnExactBodyOfUptoCard : Claim7 := { stood := { row := fnExactBodyOfUptoRow, standIns := [], harness := (true, "7c611f5bb2e5a9073aa3b9ebc9fe965fc48f26a6e5538c8fd2f30a93c7bc0fda"), looks := true }, kinds := [], alts := [], laidByText := true, laidKinds := [.data, .data, .data, .sentinel], laidTests := true, laidLooks := .later }
def FnExactBodyOfUptoCardSaid : Prop := Claim7.holds Tryz.pinned (.plain (OpenSpec.upto fnExactBodyOfSpec)) fnExactBodyOfUptoCard

/-- THE SECOND FORM's CARD OF 'laws.FnExactBodyText'. -/
def fnExactBodyTextUptoCard : Claim7 := { stood := { row := fnExactBodyTextUptoRow, standIns := [], harness := (true, "7c611f5bb2e5a9073aa3b9ebc9fe965fc48f26a6e5538c8fd2f30a93c7bc0fda"), looks := true }, kinds := [], alts := [], laidByText := true, laidKinds := [.data, .data, .data, .sentinel], laidTests := true, laidLooks := .later }
def FnExactBodyTextUptoCardSaid : Prop := Claim7.holds Tryz.pinned (.plain (OpenSpec.upto fnExactBodyTextSpec)) fnExactBodyTextUptoCard

/-- THE SECOND FORM's CARD OF 'laws.FnExactAlikeOutside'. -/
def fnExactAlikeOutsideUptoCard : Claim7 := { stood := { row := fnExactAlikeOutsideUptoRow, standIns := [], harness := (true, "7c611f5bb2e5a9073aa3b9ebc9fe965fc48f26a6e5538c8fd2f30a93c7bc0fda"), looks := true }, kinds := [], alts := [], laidByText := true, laidKinds := [.data, .data, .data, .sentinel], laidTests := true, laidLooks := .later }
def FnExactAlikeOutsideUptoCardSaid : Prop := Claim7.holds Tryz.pinned (.plain (OpenSpec.upto fnExactAlikeOutsideSpec)) fnExactAlikeOutsideUptoCard

/-- THE SECOND FORM's CARD OF 'laws.FnKeep'. -/
def fnKeepUptoCard : Claim7 := { stood := { row := fnKeepUptoRow, standIns := [], harness := (true, "7c611f5bb2e5a9073aa3b9ebc9fe965fc48f26a6e5538c8fd2f30a93c7bc0fda"), looks := true }, kinds := [], alts := [], laidByText := true, laidKinds := [.data, .data, .data], laidTests := true, laidLooks := .later }
def FnKeepUptoCardSaid : Prop := Claim7.holds Tryz.pinned (.plain (OpenSpec.upto fnKeepSpec)) fnKeepUptoCard

/-- THE SECOND FORM's CARD OF 'laws.FnPolicies'. -/
def fnPoliciesUptoCard : Claim7 := { stood := { row := fnPoliciesUptoRow, standIns := [], harness := (true, "7c611f5bb2e5a9073aa3b9ebc9fe965fc48f26a6e5538c8fd2f30a93c7bc0fda"), looks := true }, kinds := [], alts := [], laidByText := true, laidKinds := [.data, .data, .data, .data, .pinned], laidTests := true, laidLooks := .later }
def FnPoliciesUptoCardSaid : Prop := Claim7.holds Tryz.pinned (.plain (OpenSpec.upto fnPoliciesSpec)) fnPoliciesUptoCard
end Rows
end Go.Proofs.YtbkikbhnehjaaaaGreatDoor
