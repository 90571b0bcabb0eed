/-
  DERIVED. GIVEN WITH THE SEED: THE CARDS: each row of YtmdplphjbgghoaaGreatDoorRows.lean that lists a variable, with what it lists TIED to the program's text (the seventh form; the later family's looks); each row that meets fmt, with fmt's text TOLD by the authors' own Lean function (tested against real Go, not proved from fmt's source: count such statements apart). THE CARD IS WHAT COUNTS. Prove the row's statement (the work); the ties are given (YtmdplphjbgghoaaGreatDoorTie.lean); close each card by the builder's one call (the guide's Derived/Test/ToyasCard.lean, 'card_holds'). Laid BY PROGRAM, IN A SANDBOX (cutbox-door.mjs). By AI agents, Wed Nov 11 2026. No macro, syntax, notation, axiom, sorry.
-/
import Derived.Test.YtmdplphjbgghoaaGreatDoorRows
import GoSem.ClaimSeven
namespace Go.Proofs.YtmdplphjbgghoaaGreatDoor
namespace Rows

/-- THE TIED CARD OF 'laws.FnExactUriGroup'. -/
def fnExactUriGroupCard : Claim7 := { stood := { row := fnExactUriGroupRow, standIns := [], harness := (true, "176e4eefb469532c72f50d736da71f883b9df217f94c85a8d4d7cb84f20a29f5"), looks := false }, kinds := [], alts := [], laidByText := true, laidKinds := [.data, .data, .data], laidTests := true, laidLooks := .later }
def FnExactUriGroupCardSaid : Prop := Claim7.holds Tryz.pinned (.plain (OpenSpec.ofChange fnExactUriGroupSpec)) fnExactUriGroupCard

/-- THE TIED CARD OF 'laws.FnExactReadPolicy'. -/
def fnExactReadPolicyCard : Claim7 := { stood := { row := fnExactReadPolicyRow, standIns := [], harness := (true, "176e4eefb469532c72f50d736da71f883b9df217f94c85a8d4d7cb84f20a29f5"), looks := false }, kinds := [], alts := [], laidByText := true, laidKinds := [.data, .data, .data, .data, .pinned], laidTests := true, laidLooks := .later }
def FnExactReadPolicyCardSaid : Prop := Claim7.holds Tryz.pinned (.plain (OpenSpec.ofChange fnExactReadPolicySpec)) fnExactReadPolicyCard

/-- THE TIED CARD OF 'laws.FnPolicies'. -/
def fnPoliciesCard : Claim7 := { stood := { row := fnPoliciesRow, standIns := [], harness := (true, "176e4eefb469532c72f50d736da71f883b9df217f94c85a8d4d7cb84f20a29f5"), looks := false }, kinds := [], alts := [], laidByText := true, laidKinds := [.data, .data, .data, .data, .pinned], laidTests := true, laidLooks := .later }
def FnPoliciesCardSaid : Prop := Claim7.holds Tryz.pinned (.plain (OpenSpec.ofChange fnPoliciesSpec)) fnPoliciesCard

/-- THE SECOND FORM's CARD OF 'laws.FnExactUriGroup'. -/
def fnExactUriGroupUptoCard : Claim7 := { stood := { row := fnExactUriGroupUptoRow, standIns := [], harness := (true, "176e4eefb469532c72f50d736da71f883b9df217f94c85a8d4d7cb84f20a29f5"), looks := false }, kinds := [], alts := [], laidByText := true, laidKinds := [.data, .data, .data], laidTests := true, laidLooks := .later }
def FnExactUriGroupUptoCardSaid : Prop := Claim7.holds Tryz.pinned (.plain (OpenSpec.upto fnExactUriGroupSpec)) fnExactUriGroupUptoCard

/-- THE SECOND FORM's CARD OF 'laws.FnExactReadPolicy'. -/
def fnExactReadPolicyUptoCard : Claim7 := { stood := { row := fnExactReadPolicyUptoRow, standIns := [], harness := (true, "176e4eefb469532c72f50d736da71f883b9df217f94c85a8d4d7cb84f20a29f5"), looks := false }, kinds := [], alts := [], laidByText := true, laidKinds := [.data, .data, .data, .data, .pinned], laidTests := true, laidLooks := .later }
def FnExactReadPolicyUptoCardSaid : Prop := Claim7.holds Tryz.pinned (.plain (OpenSpec.upto fnExactReadPolicySpec)) fnExactReadPolicyUptoCard

/-- THE SECOND FORM's CARD OF 'laws.FnPolicies'. -/
def fnPoliciesUptoCard : Claim7 := { stood := { row := fnPoliciesUptoRow, standIns := [], harness := (true, "176e4eefb469532c72f50d736da71f883b9df217f94c85a8d4d7cb84f20a29f5"), looks := false }, kinds := [], alts := [], laidByText := true, laidKinds := [.data, .data, .data, .data, .pinned], laidTests := true, laidLooks := .later }
def FnPoliciesUptoCardSaid : Prop := Claim7.holds Tryz.pinned (.plain (OpenSpec.upto fnPoliciesSpec)) fnPoliciesUptoCard
end Rows
end Go.Proofs.YtmdplphjbgghoaaGreatDoor
