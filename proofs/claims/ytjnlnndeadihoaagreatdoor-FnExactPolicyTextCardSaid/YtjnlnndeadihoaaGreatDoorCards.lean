/-
  DERIVED. GIVEN WITH THE SEED: THE CARDS: each row of YtjnlnndeadihoaaGreatDoorRows.lean that lists a variable, with what it lists TIED to the program's text (the seventh form; the later family's looks); each row that meets fmt, with fmt's text TOLD by the authors' own Lean function (tested against real Go, not proved from fmt's source: count such statements apart). THE CARD IS WHAT COUNTS. Prove the row's statement (the work); the ties are given (YtjnlnndeadihoaaGreatDoorTie.lean); close each card by the builder's one call (the guide's Derived/Test/ToyasCard.lean, 'card_holds'). Laid BY PROGRAM, IN A SANDBOX (cutbox-door.mjs). By AI agents, Wed Nov 11 2026. No macro, syntax, notation, axiom, sorry.
-/
import Derived.Test.YtjnlnndeadihoaaGreatDoorRows
import GoSem.ClaimSeven
namespace Go.Proofs.YtjnlnndeadihoaaGreatDoor
namespace Rows

/-- THE TIED CARD OF 'laws.FnExactPolicyOK'. -/
def fnExactPolicyOKCard : Claim7 := { stood := { row := fnExactPolicyOKRow, standIns := [], harness := (true, "3836b7c3214dec2ac33211eb47a0b84d5f70beabaebb52096a936e5999e4854a"), looks := false }, kinds := [], alts := [], laidByText := true, laidKinds := [.data, .data, .data], laidTests := true, laidLooks := .later }
def FnExactPolicyOKCardSaid : Prop := Claim7.holds Tryz.pinned (.plain (OpenSpec.ofChange fnExactPolicyOKSpec)) fnExactPolicyOKCard

/-- THE TIED CARD OF 'laws.FnExactGroupFor'. -/
def fnExactGroupForCard : Claim7 := { stood := { row := fnExactGroupForRow, standIns := [], harness := (true, "3836b7c3214dec2ac33211eb47a0b84d5f70beabaebb52096a936e5999e4854a"), looks := false }, kinds := [], alts := [], laidByText := true, laidKinds := [.data, .data, .data], laidTests := true, laidLooks := .later }
def FnExactGroupForCardSaid : Prop := Claim7.holds Tryz.pinned (.plain (OpenSpec.ofChange fnExactGroupForSpec)) fnExactGroupForCard

/-- THE TIED CARD OF 'laws.FnExactPolicyText'. -/
def fnExactPolicyTextCard : Claim7 := { stood := { row := fnExactPolicyTextRow, standIns := [], harness := (true, "3836b7c3214dec2ac33211eb47a0b84d5f70beabaebb52096a936e5999e4854a"), looks := false }, kinds := [], alts := [], laidByText := true, laidKinds := [.data, .data, .data], laidTests := true, laidLooks := .later }
def FnExactPolicyTextCardSaid : Prop := Claim7.holds Tryz.pinned (.plain (OpenSpec.ofChange fnExactPolicyTextSpec)) fnExactPolicyTextCard

/-- THE TIED CARD OF 'laws.FnExactUriGroup'. -/
def fnExactUriGroupCard : Claim7 := { stood := { row := fnExactUriGroupRow, standIns := [], harness := (true, "3836b7c3214dec2ac33211eb47a0b84d5f70beabaebb52096a936e5999e4854a"), looks := false }, kinds := [], alts := [], laidByText := true, laidKinds := [.data, .data, .data], laidTests := true, laidLooks := .later }
def FnExactUriGroupCardSaid : Prop := Claim7.holds Tryz.pinned (.plain (OpenSpec.ofChange fnExactUriGroupSpec)) fnExactUriGroupCard

/-- THE TIED CARD OF 'laws.FnExactReadPolicy'. -/
def fnExactReadPolicyCard : Claim7 := { stood := { row := fnExactReadPolicyRow, standIns := [], harness := (true, "3836b7c3214dec2ac33211eb47a0b84d5f70beabaebb52096a936e5999e4854a"), looks := false }, kinds := [], alts := [], laidByText := true, laidKinds := [.data, .data, .data, .data, .pinned], laidTests := true, laidLooks := .later }
def FnExactReadPolicyCardSaid : Prop := Claim7.holds Tryz.pinned (.plain (OpenSpec.ofChange fnExactReadPolicySpec)) fnExactReadPolicyCard

/-- THE SECOND FORM's CARD OF 'laws.FnExactPolicyOK'. -/
def fnExactPolicyOKUptoCard : Claim7 := { stood := { row := fnExactPolicyOKUptoRow, standIns := [], harness := (true, "3836b7c3214dec2ac33211eb47a0b84d5f70beabaebb52096a936e5999e4854a"), looks := false }, kinds := [], alts := [], laidByText := true, laidKinds := [.data, .data, .data], laidTests := true, laidLooks := .later }
def FnExactPolicyOKUptoCardSaid : Prop := Claim7.holds Tryz.pinned (.plain (OpenSpec.upto fnExactPolicyOKSpec)) fnExactPolicyOKUptoCard

/-- THE SECOND FORM's CARD OF 'laws.FnExactGroupFor'. -/
def fnExactGroupForUptoCard : Claim7 := { stood := { row := fnExactGroupForUptoRow, standIns := [], harness := (true, "3836b7c3214dec2ac33211eb47a0b84d5f70beabaebb52096a936e5999e4854a"), looks := false }, kinds := [], alts := [], laidByText := true, laidKinds := [.data, .data, .data], laidTests := true, laidLooks := .later }
def FnExactGroupForUptoCardSaid : Prop := Claim7.holds Tryz.pinned (.plain (OpenSpec.upto fnExactGroupForSpec)) fnExactGroupForUptoCard

/-- THE SECOND FORM's CARD OF 'laws.FnExactPolicyText'. -/
def fnExactPolicyTextUptoCard : Claim7 := { stood := { row := fnExactPolicyTextUptoRow, standIns := [], harness := (true, "3836b7c3214dec2ac33211eb47a0b84d5f70beabaebb52096a936e5999e4854a"), looks := false }, kinds := [], alts := [], laidByText := true, laidKinds := [.data, .data, .data], laidTests := true, laidLooks := .later }
def FnExactPolicyTextUptoCardSaid : Prop := Claim7.holds Tryz.pinned (.plain (OpenSpec.upto fnExactPolicyTextSpec)) fnExactPolicyTextUptoCard

/-- THE SECOND FORM's CARD OF 'laws.FnExactUriGroup'. -/
def fnExactUriGroupUptoCard : Claim7 := { stood := { row := fnExactUriGroupUptoRow, standIns := [], harness := (true, "3836b7c3214dec2ac33211eb47a0b84d5f70beabaebb52096a936e5999e4854a"), looks := false }, kinds := [], alts := [], laidByText := true, laidKinds := [.data, .data, .data], laidTests := true, laidLooks := .later }
def FnExactUriGroupUptoCardSaid : Prop := Claim7.holds Tryz.pinned (.plain (OpenSpec.upto fnExactUriGroupSpec)) fnExactUriGroupUptoCard

/-- THE SECOND FORM's CARD OF 'laws.FnExactReadPolicy'. -/
def fnExactReadPolicyUptoCard : Claim7 := { stood := { row := fnExactReadPolicyUptoRow, standIns := [], harness := (true, "3836b7c3214dec2ac33211eb47a0b84d5f70beabaebb52096a936e5999e4854a"), looks := false }, kinds := [], alts := [], laidByText := true, laidKinds := [.data, .data, .data, .data, .pinned], laidTests := true, laidLooks := .later }
def FnExactReadPolicyUptoCardSaid : Prop := Claim7.holds Tryz.pinned (.plain (OpenSpec.upto fnExactReadPolicySpec)) fnExactReadPolicyUptoCard
end Rows
end Go.Proofs.YtjnlnndeadihoaaGreatDoor
