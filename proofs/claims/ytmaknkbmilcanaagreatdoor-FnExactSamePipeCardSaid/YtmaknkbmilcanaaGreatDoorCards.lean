/-
  DERIVED. GIVEN WITH THE SEED: THE CARDS: each row of YtmaknkbmilcanaaGreatDoorRows.lean that lists a variable, with what it lists TIED to the program's text (the seventh form; the later family's looks); each row that meets fmt, with fmt's text TOLD by the authors' own Lean function (tested against real Go, not proved from fmt's source: count such statements apart). THE CARD IS WHAT COUNTS. Prove the row's statement (the work); the ties are given (YtmaknkbmilcanaaGreatDoorTie.lean); close each card by the builder's one call (the guide's Derived/Test/ToyasCard.lean, 'card_holds'). Laid BY PROGRAM, IN A SANDBOX (cutbox-door.mjs). By AI agents, Wed Nov 11 2026. No macro, syntax, notation, axiom, sorry.
-/
import Derived.Test.YtmaknkbmilcanaaGreatDoorRows
import GoSem.ClaimSeven
namespace Go.Proofs.YtmaknkbmilcanaaGreatDoor
namespace Rows

/-- THE TIED CARD OF 'laws.FnExactFateOf'. -/
def fnExactFateOfCard : Claim7 := { stood := { row := fnExactFateOfRow, standIns := [], harness := (true, "d8968461df8ecf2f928a31eac650fe6deea20a3a7cb9cc3e4eb89a20a27b1203"), looks := true }, kinds := [], alts := [], laidByText := true, laidKinds := [.data, .data, .data], laidTests := true, laidLooks := .later }
def FnExactFateOfCardSaid : Prop := Claim7.holds Tryz.pinned (.plain (OpenSpec.ofChange fnExactFateOfSpec)) fnExactFateOfCard

/-- THE TIED CARD OF 'laws.FnExactEntriesOf'. -/
def fnExactEntriesOfCard : Claim7 := { stood := { row := fnExactEntriesOfRow, standIns := [], harness := (true, "d8968461df8ecf2f928a31eac650fe6deea20a3a7cb9cc3e4eb89a20a27b1203"), looks := true }, kinds := [], alts := [], laidByText := true, laidKinds := [.data, .data, .data], laidTests := true, laidLooks := .later }
def FnExactEntriesOfCardSaid : Prop := Claim7.holds Tryz.pinned (.plain (OpenSpec.ofChange fnExactEntriesOfSpec)) fnExactEntriesOfCard

/-- THE TIED CARD OF 'laws.FnExactIdsOf'. -/
def fnExactIdsOfCard : Claim7 := { stood := { row := fnExactIdsOfRow, standIns := [], harness := (true, "d8968461df8ecf2f928a31eac650fe6deea20a3a7cb9cc3e4eb89a20a27b1203"), looks := true }, kinds := [], alts := [], laidByText := true, laidKinds := [.data, .data, .data], laidTests := true, laidLooks := .later }
def FnExactIdsOfCardSaid : Prop := Claim7.holds Tryz.pinned (.plain (OpenSpec.ofChange fnExactIdsOfSpec)) fnExactIdsOfCard

/-- THE TIED CARD OF 'laws.FnExactCountFates'. -/
def fnExactCountFatesCard : Claim7 := { stood := { row := fnExactCountFatesRow, standIns := [], harness := (true, "d8968461df8ecf2f928a31eac650fe6deea20a3a7cb9cc3e4eb89a20a27b1203"), looks := true }, kinds := [], alts := [], laidByText := true, laidKinds := [.data, .data, .data], laidTests := true, laidLooks := .later }
def FnExactCountFatesCardSaid : Prop := Claim7.holds Tryz.pinned (.plain (OpenSpec.ofChange fnExactCountFatesSpec)) fnExactCountFatesCard

/-- THE TIED CARD OF 'laws.FnExactQueuedNow'. -/
def fnExactQueuedNowCard : Claim7 := { stood := { row := fnExactQueuedNowRow, standIns := [], harness := (true, "d8968461df8ecf2f928a31eac650fe6deea20a3a7cb9cc3e4eb89a20a27b1203"), looks := true }, kinds := [], alts := [], laidByText := true, laidKinds := [.data, .data, .data], laidTests := true, laidLooks := .later }
def FnExactQueuedNowCardSaid : Prop := Claim7.holds Tryz.pinned (.plain (OpenSpec.ofChange fnExactQueuedNowSpec)) fnExactQueuedNowCard

/-- THE TIED CARD OF 'laws.FnExactOneFate'. -/
def fnExactOneFateCard : Claim7 := { stood := { row := fnExactOneFateRow, standIns := [], harness := (true, "d8968461df8ecf2f928a31eac650fe6deea20a3a7cb9cc3e4eb89a20a27b1203"), looks := true }, kinds := [], alts := [], laidByText := true, laidKinds := [.data, .data, .data], laidTests := true, laidLooks := .later }
def FnExactOneFateCardSaid : Prop := Claim7.holds Tryz.pinned (.plain (OpenSpec.ofChange fnExactOneFateSpec)) fnExactOneFateCard

/-- THE TIED CARD OF 'laws.FnExactSamePipe'. -/
def fnExactSamePipeCard : Claim7 := { stood := { row := fnExactSamePipeRow, standIns := [], harness := (true, "d8968461df8ecf2f928a31eac650fe6deea20a3a7cb9cc3e4eb89a20a27b1203"), looks := true }, kinds := [], alts := [], laidByText := true, laidKinds := [.data, .data, .data], laidTests := true, laidLooks := .later }
def FnExactSamePipeCardSaid : Prop := Claim7.holds Tryz.pinned (.plain (OpenSpec.ofChange fnExactSamePipeSpec)) fnExactSamePipeCard

/-- THE TIED CARD OF 'laws.FnExactBodyText'. -/
def fnExactBodyTextCard : Claim7 := { stood := { row := fnExactBodyTextRow, standIns := [], harness := (true, "d8968461df8ecf2f928a31eac650fe6deea20a3a7cb9cc3e4eb89a20a27b1203"), looks := true }, kinds := [], alts := [], laidByText := true, laidKinds := [.data, .data, .data, .sentinel], laidTests := true, laidLooks := .later }
def FnExactBodyTextCardSaid : Prop := Claim7.holds Tryz.pinned (.plain (OpenSpec.ofChange fnExactBodyTextSpec)) fnExactBodyTextCard

/-- THE TIED CARD OF 'laws.FnExactAlikeOutside'. -/
def fnExactAlikeOutsideCard : Claim7 := { stood := { row := fnExactAlikeOutsideRow, standIns := [], harness := (true, "d8968461df8ecf2f928a31eac650fe6deea20a3a7cb9cc3e4eb89a20a27b1203"), looks := true }, kinds := [], alts := [], laidByText := true, laidKinds := [.data, .data, .data, .sentinel], laidTests := true, laidLooks := .later }
def FnExactAlikeOutsideCardSaid : Prop := Claim7.holds Tryz.pinned (.plain (OpenSpec.ofChange fnExactAlikeOutsideSpec)) fnExactAlikeOutsideCard

/-- THE TIED CARD OF 'laws.FnExactBodyOf'. -/
def fnExactBodyOfCard : Claim7 := { stood := { row := fnExactBodyOfRow, standIns := [], harness := (true, "d8968461df8ecf2f928a31eac650fe6deea20a3a7cb9cc3e4eb89a20a27b1203"), looks := true }, kinds := [], alts := [], laidByText := true, laidKinds := [.data, .data, .data, .sentinel], laidTests := true, laidLooks := .later }
def FnExactBodyOfCardSaid : Prop := Claim7.holds Tryz.pinned (.plain (OpenSpec.ofChange fnExactBodyOfSpec)) fnExactBodyOfCard

/-- THE TIED CARD OF 'laws.FnKeep'. -/
def fnKeepCard : Claim7 := { stood := { row := fnKeepRow, standIns := [], harness := (true, "d8968461df8ecf2f928a31eac650fe6deea20a3a7cb9cc3e4eb89a20a27b1203"), looks := true }, kinds := [], alts := [], laidByText := true, laidKinds := [.data, .data, .data], laidTests := true, laidLooks := .later }
def FnKeepCardSaid : Prop := Claim7.holds Tryz.pinned (.plain (OpenSpec.ofChange fnKeepSpec)) fnKeepCard

/-- THE SECOND FORM's CARD OF 'laws.FnExactFateOf'. -/
def fnExactFateOfUptoCard : Claim7 := { stood := { row := fnExactFateOfUptoRow, standIns := [], harness := (true, "d8968461df8ecf2f928a31eac650fe6deea20a3a7cb9cc3e4eb89a20a27b1203"), looks := true }, kinds := [], alts := [], laidByText := true, laidKinds := [.data, .data, .data], laidTests := true, laidLooks := .later }
def FnExactFateOfUptoCardSaid : Prop := Claim7.holds Tryz.pinned (.plain (OpenSpec.upto fnExactFateOfSpec)) fnExactFateOfUptoCard

/-- THE SECOND FORM's CARD OF 'laws.FnExactEntriesOf'. -/
def fnExactEntriesOfUptoCard : Claim7 := { stood := { row := fnExactEntriesOfUptoRow, standIns := [], harness := (true, "d8968461df8ecf2f928a31eac650fe6deea20a3a7cb9cc3e4eb89a20a27b1203"), looks := true }, kinds := [], alts := [], laidByText := true, laidKinds := [.data, .data, .data], laidTests := true, laidLooks := .later }
def FnExactEntriesOfUptoCardSaid : Prop := Claim7.holds Tryz.pinned (.plain (OpenSpec.upto fnExactEntriesOfSpec)) fnExactEntriesOfUptoCard

/-- THE SECOND FORM's CARD OF 'laws.FnExactIdsOf'. -/
def fnExactIdsOfUptoCard : Claim7 := { stood := { row := fnExactIdsOfUptoRow, standIns := [], harness := (true, "d8968461df8ecf2f928a31eac650fe6deea20a3a7cb9cc3e4eb89a20a27b1203"), looks := true }, kinds := [], alts := [], laidByText := true, laidKinds := [.data, .data, .data], laidTests := true, laidLooks := .later }
def FnExactIdsOfUptoCardSaid : Prop := Claim7.holds Tryz.pinned (.plain (OpenSpec.upto fnExactIdsOfSpec)) fnExactIdsOfUptoCard

/-- THE SECOND FORM's CARD OF 'laws.FnExactCountFates'. -/
def fnExactCountFatesUptoCard : Claim7 := { stood := { row := fnExactCountFatesUptoRow, standIns := [], harness := (true, "d8968461df8ecf2f928a31eac650fe6deea20a3a7cb9cc3e4eb89a20a27b1203"), looks := true }, kinds := [], alts := [], laidByText := true, laidKinds := [.data, .data, .data], laidTests := true, laidLooks := .later }
def FnExactCountFatesUptoCardSaid : Prop := Claim7.holds Tryz.pinned (.plain (OpenSpec.upto fnExactCountFatesSpec)) fnExactCountFatesUptoCard

/-- THE SECOND FORM's CARD OF 'laws.FnExactQueuedNow'. -/
def fnExactQueuedNowUptoCard : Claim7 := { stood := { row := fnExactQueuedNowUptoRow, standIns := [], harness := (true, "d8968461df8ecf2f928a31eac650fe6deea20a3a7cb9cc3e4eb89a20a27b1203"), looks := true }, kinds := [], alts := [], laidByText := true, laidKinds := [.data, .data, .data], laidTests := true, laidLooks := .later }
def FnExactQueuedNowUptoCardSaid : Prop := Claim7.holds Tryz.pinned (.plain (OpenSpec.upto fnExactQueuedNowSpec)) fnExactQueuedNowUptoCard

/-- THE SECOND FORM's CARD OF 'laws.FnExactOneFate'. -/
def fnExactOneFateUptoCard : Claim7 := { stood := { row := fnExactOneFateUptoRow, standIns := [], harness := (true, "d8968461df8ecf2f928a31eac650fe6deea20a3a7cb9cc3e4eb89a20a27b1203"), looks := true }, kinds := [], alts := [], laidByText := true, laidKinds := [.data, .data, .data], laidTests := true, laidLooks := .later }
def FnExactOneFateUptoCardSaid : Prop := Claim7.holds Tryz.pinned (.plain (OpenSpec.upto fnExactOneFateSpec)) fnExactOneFateUptoCard

/-- THE SECOND FORM's CARD OF 'laws.FnExactSamePipe'. -/
def fnExactSamePipeUptoCard : Claim7 := { stood := { row := fnExactSamePipeUptoRow, standIns := [], harness := (true, "d8968461df8ecf2f928a31eac650fe6deea20a3a7cb9cc3e4eb89a20a27b1203"), looks := true }, kinds := [], alts := [], laidByText := true, laidKinds := [.data, .data, .data], laidTests := true, laidLooks := .later }
def FnExactSamePipeUptoCardSaid : Prop := Claim7.holds Tryz.pinned (.plain (OpenSpec.upto fnExactSamePipeSpec)) fnExactSamePipeUptoCard

/-- THE SECOND FORM's CARD OF 'laws.FnExactBodyText'. -/
def fnExactBodyTextUptoCard : Claim7 := { stood := { row := fnExactBodyTextUptoRow, standIns := [], harness := (true, "d8968461df8ecf2f928a31eac650fe6deea20a3a7cb9cc3e4eb89a20a27b1203"), looks := true }, kinds := [], alts := [], laidByText := true, laidKinds := [.data, .data, .data, .sentinel], laidTests := true, laidLooks := .later }
def FnExactBodyTextUptoCardSaid : Prop := Claim7.holds Tryz.pinned (.plain (OpenSpec.upto fnExactBodyTextSpec)) fnExactBodyTextUptoCard

/-- THE SECOND FORM's CARD OF 'laws.FnExactAlikeOutside'. -/
def fnExactAlikeOutsideUptoCard : Claim7 := { stood := { row := fnExactAlikeOutsideUptoRow, standIns := [], harness := (true, "d8968461df8ecf2f928a31eac650fe6deea20a3a7cb9cc3e4eb89a20a27b1203"), looks := true }, kinds := [], alts := [], laidByText := true, laidKinds := [.data, .data, .data, .sentinel], laidTests := true, laidLooks := .later }
def FnExactAlikeOutsideUptoCardSaid : Prop := Claim7.holds Tryz.pinned (.plain (OpenSpec.upto fnExactAlikeOutsideSpec)) fnExactAlikeOutsideUptoCard

/-- THE SECOND FORM's CARD OF 'laws.FnExactBodyOf'. -/
def fnExactBodyOfUptoCard : Claim7 := { stood := { row := fnExactBodyOfUptoRow, standIns := [], harness := (true, "d8968461df8ecf2f928a31eac650fe6deea20a3a7cb9cc3e4eb89a20a27b1203"), looks := true }, kinds := [], alts := [], laidByText := true, laidKinds := [.data, .data, .data, .sentinel], laidTests := true, laidLooks := .later }
def FnExactBodyOfUptoCardSaid : Prop := Claim7.holds Tryz.pinned (.plain (OpenSpec.upto fnExactBodyOfSpec)) fnExactBodyOfUptoCard

/-- THE SECOND FORM's CARD OF 'laws.FnKeep'. -/
def fnKeepUptoCard : Claim7 := { stood := { row := fnKeepUptoRow, standIns := [], harness := (true, "d8968461df8ecf2f928a31eac650fe6deea20a3a7cb9cc3e4eb89a20a27b1203"), looks := true }, kinds := [], alts := [], laidByText := true, laidKinds := [.data, .data, .data], laidTests := true, laidLooks := .later }
def FnKeepUptoCardSaid : Prop := Claim7.holds Tryz.pinned (.plain (OpenSpec.upto fnKeepSpec)) fnKeepUptoCard
end Rows
end Go.Proofs.YtmaknkbmilcanaaGreatDoor
