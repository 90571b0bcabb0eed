/-
  DERIVED. GIVEN WITH THE SEED: THE CARDS: each row of YtakiigddbdapaaaDoorRows.lean that lists a variable, with what it lists TIED to the program's text (the seventh form; the later family's looks); each row that meets fmt, with fmt's text TOLD by the authors' own Lean function (tested against real Go, not proved from fmt's source: count such statements apart). THE CARD IS WHAT COUNTS. Prove the row's statement (the work); the ties are given (YtakiigddbdapaaaDoorTie.lean); close each card by the builder's one call (the guide's Derived/Test/ToyasCard.lean, 'card_holds'). Laid BY PROGRAM, IN A SANDBOX (cutbox-door.mjs). By AI agents, Wed Nov 11 2026. No macro, syntax, notation, axiom, sorry.
-/
import Derived.Test.YtakiigddbdapaaaDoorRows
import GoSem.ClaimSeven
namespace Go.Proofs.YtakiigddbdapaaaDoor
namespace Rows

/-- THE TIED CARD OF 'laws.FnExactPeersOK'. -/
def fnExactPeersOKCard : Claim7 := { stood := { row := fnExactPeersOKRow, standIns := [], harness := (true, "1abc77d4d162f73dc34b944c5e411315f99a686b8b08ebf182fd82d3a284514f"), looks := false }, kinds := [], alts := [], laidByText := true, laidKinds := [.data, .data, .data], laidTests := true, laidLooks := .later }
def FnExactPeersOKCardSaid : Prop := Claim7.holds Tryd.pinned (.plain (OpenSpec.ofChange fnExactPeersOKSpec)) fnExactPeersOKCard

/-- THE TIED CARD OF 'laws.FnExactNextWake'. -/
def fnExactNextWakeCard : Claim7 := { stood := { row := fnExactNextWakeRow, standIns := [], harness := (true, "1abc77d4d162f73dc34b944c5e411315f99a686b8b08ebf182fd82d3a284514f"), looks := false }, kinds := [], alts := [], laidByText := true, laidKinds := [.data, .data, .data], laidTests := true, laidLooks := .later }
def FnExactNextWakeCardSaid : Prop := Claim7.holds Tryd.pinned (.plain (OpenSpec.ofChange fnExactNextWakeSpec)) fnExactNextWakeCard

/-- THE TIED CARD OF 'laws.FnExactGroupOK'. -/
def fnExactGroupOKCard : Claim7 := { stood := { row := fnExactGroupOKRow, standIns := [], harness := (true, "1abc77d4d162f73dc34b944c5e411315f99a686b8b08ebf182fd82d3a284514f"), looks := false }, kinds := [], alts := [], laidByText := true, laidKinds := [.data, .data, .data], laidTests := true, laidLooks := .later }
def FnExactGroupOKCardSaid : Prop := Claim7.holds Tryd.pinned (.plain (OpenSpec.ofChange fnExactGroupOKSpec)) fnExactGroupOKCard

/-- THE TIED CARD OF 'laws.FnExactSameGroup'. -/
def fnExactSameGroupCard : Claim7 := { stood := { row := fnExactSameGroupRow, standIns := [], harness := (true, "1abc77d4d162f73dc34b944c5e411315f99a686b8b08ebf182fd82d3a284514f"), looks := false }, kinds := [], alts := [], laidByText := true, laidKinds := [.data, .data, .data], laidTests := true, laidLooks := .later }
def FnExactSameGroupCardSaid : Prop := Claim7.holds Tryd.pinned (.plain (OpenSpec.ofChange fnExactSameGroupSpec)) fnExactSameGroupCard

/-- THE SECOND FORM's CARD OF 'laws.FnExactPeersOK'. -/
def fnExactPeersOKUptoCard : Claim7 := { stood := { row := fnExactPeersOKUptoRow, standIns := [], harness := (true, "1abc77d4d162f73dc34b944c5e411315f99a686b8b08ebf182fd82d3a284514f"), looks := false }, kinds := [], alts := [], laidByText := true, laidKinds := [.data, .data, .data], laidTests := true, laidLooks := .later }
def FnExactPeersOKUptoCardSaid : Prop := Claim7.holds Tryd.pinned (.plain (OpenSpec.upto fnExactPeersOKSpec)) fnExactPeersOKUptoCard

/-- THE SECOND FORM's CARD OF 'laws.FnExactNextWake'. -/
def fnExactNextWakeUptoCard : Claim7 := { stood := { row := fnExactNextWakeUptoRow, standIns := [], harness := (true, "1abc77d4d162f73dc34b944c5e411315f99a686b8b08ebf182fd82d3a284514f"), looks := false }, kinds := [], alts := [], laidByText := true, laidKinds := [.data, .data, .data], laidTests := true, laidLooks := .later }
def FnExactNextWakeUptoCardSaid : Prop := Claim7.holds Tryd.pinned (.plain (OpenSpec.upto fnExactNextWakeSpec)) fnExactNextWakeUptoCard

/-- THE SECOND FORM's CARD OF 'laws.FnExactGroupOK'. -/
def fnExactGroupOKUptoCard : Claim7 := { stood := { row := fnExactGroupOKUptoRow, standIns := [], harness := (true, "1abc77d4d162f73dc34b944c5e411315f99a686b8b08ebf182fd82d3a284514f"), looks := false }, kinds := [], alts := [], laidByText := true, laidKinds := [.data, .data, .data], laidTests := true, laidLooks := .later }
def FnExactGroupOKUptoCardSaid : Prop := Claim7.holds Tryd.pinned (.plain (OpenSpec.upto fnExactGroupOKSpec)) fnExactGroupOKUptoCard

/-- THE SECOND FORM's CARD OF 'laws.FnExactSameGroup'. -/
def fnExactSameGroupUptoCard : Claim7 := { stood := { row := fnExactSameGroupUptoRow, standIns := [], harness := (true, "1abc77d4d162f73dc34b944c5e411315f99a686b8b08ebf182fd82d3a284514f"), looks := false }, kinds := [], alts := [], laidByText := true, laidKinds := [.data, .data, .data], laidTests := true, laidLooks := .later }
def FnExactSameGroupUptoCardSaid : Prop := Claim7.holds Tryd.pinned (.plain (OpenSpec.upto fnExactSameGroupSpec)) fnExactSameGroupUptoCard
end Rows
end Go.Proofs.YtakiigddbdapaaaDoor
