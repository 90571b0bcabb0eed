/-
  DERIVED. GIVEN WITH THE SEED: THE CARDS: each row of YtakiigddbdapaaaGreatDoorRows.lean that lists a variable, with what it lists TIED to the program's text (the seventh form; the later family's looks); each row that meets fmt, with fmt's text TOLD by the authors' own Lean function (tested against real Go, not proved from fmt's source: count such statements apart). THE CARD IS WHAT COUNTS. Prove the row's statement (the work); the ties are given (YtakiigddbdapaaaGreatDoorTie.lean); close each card by the builder's one call (the guide's Derived/Test/ToyasCard.lean, 'card_holds'). Laid BY PROGRAM, IN A SANDBOX (cutbox-door.mjs). By AI agents, Wed Nov 11 2026. No macro, syntax, notation, axiom, sorry.
-/
import Derived.Test.YtakiigddbdapaaaGreatDoorRows
import GoSem.ClaimSeven
namespace Go.Proofs.YtakiigddbdapaaaGreatDoor
namespace Rows

/-- THE TIED CARD OF 'laws.FnExactPeersOf'. -/
def fnExactPeersOfCard : Claim7 := { stood := { row := fnExactPeersOfRow, standIns := [], harness := (true, "1aad8caab81c4d87328408cabe1ce1cd938369f8f9efeae70cb7c86cb72a6886"), looks := false }, kinds := [], alts := [], laidByText := true, laidKinds := [.data, .data, .data], laidTests := true, laidLooks := .later }
def FnExactPeersOfCardSaid : Prop := Claim7.holds Tryz.pinned (.plain (OpenSpec.ofChange fnExactPeersOfSpec)) fnExactPeersOfCard

/-- THE TIED CARD OF 'laws.FnExactChoose'. -/
def fnExactChooseCard : Claim7 := { stood := { row := fnExactChooseRow, standIns := [], harness := (true, "1aad8caab81c4d87328408cabe1ce1cd938369f8f9efeae70cb7c86cb72a6886"), looks := false }, kinds := [], alts := [], laidByText := true, laidKinds := [.data, .data, .data], laidTests := true, laidLooks := .later }
def FnExactChooseCardSaid : Prop := Claim7.holds Tryz.pinned (.plain (OpenSpec.ofChange fnExactChooseSpec)) fnExactChooseCard

/-- THE TIED CARD OF 'laws.FnExactPeerFails'. -/
def fnExactPeerFailsCard : Claim7 := { stood := { row := fnExactPeerFailsRow, standIns := [], harness := (true, "1aad8caab81c4d87328408cabe1ce1cd938369f8f9efeae70cb7c86cb72a6886"), looks := false }, kinds := [], alts := [], laidByText := true, laidKinds := [.data, .data, .data], laidTests := true, laidLooks := .later }
def FnExactPeerFailsCardSaid : Prop := Claim7.holds Tryz.pinned (.plain (OpenSpec.ofChange fnExactPeerFailsSpec)) fnExactPeerFailsCard

/-- THE TIED CARD OF 'laws.FnExactPeerWorks'. -/
def fnExactPeerWorksCard : Claim7 := { stood := { row := fnExactPeerWorksRow, standIns := [], harness := (true, "1aad8caab81c4d87328408cabe1ce1cd938369f8f9efeae70cb7c86cb72a6886"), looks := false }, kinds := [], alts := [], laidByText := true, laidKinds := [.data, .data, .data], laidTests := true, laidLooks := .later }
def FnExactPeerWorksCardSaid : Prop := Claim7.holds Tryz.pinned (.plain (OpenSpec.ofChange fnExactPeerWorksSpec)) fnExactPeerWorksCard

/-- THE TIED CARD OF 'laws.FnExactPeerGone'. -/
def fnExactPeerGoneCard : Claim7 := { stood := { row := fnExactPeerGoneRow, standIns := [], harness := (true, "1aad8caab81c4d87328408cabe1ce1cd938369f8f9efeae70cb7c86cb72a6886"), looks := false }, kinds := [], alts := [], laidByText := true, laidKinds := [.data, .data, .data], laidTests := true, laidLooks := .later }
def FnExactPeerGoneCardSaid : Prop := Claim7.holds Tryz.pinned (.plain (OpenSpec.ofChange fnExactPeerGoneSpec)) fnExactPeerGoneCard

/-- THE TIED CARD OF 'laws.FnExactKeepPeers'. -/
def fnExactKeepPeersCard : Claim7 := { stood := { row := fnExactKeepPeersRow, standIns := [], harness := (true, "1aad8caab81c4d87328408cabe1ce1cd938369f8f9efeae70cb7c86cb72a6886"), looks := false }, kinds := [], alts := [], laidByText := true, laidKinds := [.data, .data, .data], laidTests := true, laidLooks := .later }
def FnExactKeepPeersCardSaid : Prop := Claim7.holds Tryz.pinned (.plain (OpenSpec.ofChange fnExactKeepPeersSpec)) fnExactKeepPeersCard

/-- THE SECOND FORM's CARD OF 'laws.FnExactPeersOf'. -/
def fnExactPeersOfUptoCard : Claim7 := { stood := { row := fnExactPeersOfUptoRow, standIns := [], harness := (true, "1aad8caab81c4d87328408cabe1ce1cd938369f8f9efeae70cb7c86cb72a6886"), looks := false }, kinds := [], alts := [], laidByText := true, laidKinds := [.data, .data, .data], laidTests := true, laidLooks := .later }
def FnExactPeersOfUptoCardSaid : Prop := Claim7.holds Tryz.pinned (.plain (OpenSpec.upto fnExactPeersOfSpec)) fnExactPeersOfUptoCard

/-- THE SECOND FORM's CARD OF 'laws.FnExactChoose'. -/
def fnExactChooseUptoCard : Claim7 := { stood := { row := fnExactChooseUptoRow, standIns := [], harness := (true, "1aad8caab81c4d87328408cabe1ce1cd938369f8f9efeae70cb7c86cb72a6886"), looks := false }, kinds := [], alts := [], laidByText := true, laidKinds := [.data, .data, .data], laidTests := true, laidLooks := .later }
def FnExactChooseUptoCardSaid : Prop := Claim7.holds Tryz.pinned (.plain (OpenSpec.upto fnExactChooseSpec)) fnExactChooseUptoCard

/-- THE SECOND FORM's CARD OF 'laws.FnExactPeerFails'. -/
def fnExactPeerFailsUptoCard : Claim7 := { stood := { row := fnExactPeerFailsUptoRow, standIns := [], harness := (true, "1aad8caab81c4d87328408cabe1ce1cd938369f8f9efeae70cb7c86cb72a6886"), looks := false }, kinds := [], alts := [], laidByText := true, laidKinds := [.data, .data, .data], laidTests := true, laidLooks := .later }
def FnExactPeerFailsUptoCardSaid : Prop := Claim7.holds Tryz.pinned (.plain (OpenSpec.upto fnExactPeerFailsSpec)) fnExactPeerFailsUptoCard

/-- THE SECOND FORM's CARD OF 'laws.FnExactPeerWorks'. -/
def fnExactPeerWorksUptoCard : Claim7 := { stood := { row := fnExactPeerWorksUptoRow, standIns := [], harness := (true, "1aad8caab81c4d87328408cabe1ce1cd938369f8f9efeae70cb7c86cb72a6886"), looks := false }, kinds := [], alts := [], laidByText := true, laidKinds := [.data, .data, .data], laidTests := true, laidLooks := .later }
def FnExactPeerWorksUptoCardSaid : Prop := Claim7.holds Tryz.pinned (.plain (OpenSpec.upto fnExactPeerWorksSpec)) fnExactPeerWorksUptoCard

/-- THE SECOND FORM's CARD OF 'laws.FnExactPeerGone'. -/
def fnExactPeerGoneUptoCard : Claim7 := { stood := { row := fnExactPeerGoneUptoRow, standIns := [], harness := (true, "1aad8caab81c4d87328408cabe1ce1cd938369f8f9efeae70cb7c86cb72a6886"), looks := false }, kinds := [], alts := [], laidByText := true, laidKinds := [.data, .data, .data], laidTests := true, laidLooks := .later }
def FnExactPeerGoneUptoCardSaid : Prop := Claim7.holds Tryz.pinned (.plain (OpenSpec.upto fnExactPeerGoneSpec)) fnExactPeerGoneUptoCard

/-- THE SECOND FORM's CARD OF 'laws.FnExactKeepPeers'. -/
def fnExactKeepPeersUptoCard : Claim7 := { stood := { row := fnExactKeepPeersUptoRow, standIns := [], harness := (true, "1aad8caab81c4d87328408cabe1ce1cd938369f8f9efeae70cb7c86cb72a6886"), looks := false }, kinds := [], alts := [], laidByText := true, laidKinds := [.data, .data, .data], laidTests := true, laidLooks := .later }
def FnExactKeepPeersUptoCardSaid : Prop := Claim7.holds Tryz.pinned (.plain (OpenSpec.upto fnExactKeepPeersSpec)) fnExactKeepPeersUptoCard
end Rows
end Go.Proofs.YtakiigddbdapaaaGreatDoor
