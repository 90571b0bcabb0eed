/-
  DERIVED. GIVEN WITH THE SEED: THE CARDS: each row of YtieclljkfdghaaaDoorRows.lean that lists a variable, with what it lists TIED to the program's text (the seventh form; the later family's looks); each row that meets fmt, with fmt's text TOLD by the authors' own Lean function (tested against real Go, not proved from fmt's source: count such statements apart). THE CARD IS WHAT COUNTS. Prove the row's statement (the work); the ties are given (YtieclljkfdghaaaDoorTie.lean); close each card by the builder's one call (the guide's Derived/Test/ToyasCard.lean, 'card_holds'). Laid BY PROGRAM, IN A SANDBOX (cutbox-door.mjs). By AI agents, Wed Nov 11 2026. No macro, syntax, notation, axiom, sorry.
-/
import Derived.Test.YtieclljkfdghaaaDoorRows
import GoSem.ClaimSeven
namespace Go.Proofs.YtieclljkfdghaaaDoor
namespace Rows

/-- THE TIED CARD OF 'laws.FnUrls'. -/
def fnUrlsCard : Claim7 := { stood := { row := fnUrlsRow, standIns := [], harness := (true, "394c856ed0409210ab4236b27057a8839adda0b70a4cd408e01750d9cd1b0a62"), looks := false }, kinds := [], alts := [], laidByText := true, laidKinds := [.data, .data, .data], laidTests := true, laidLooks := .later }
def FnUrlsCardSaid : Prop := Claim7.holds Tryd.pinned (.plain (OpenSpec.ofChange fnUrlsSpec)) fnUrlsCard

/-- THE TIED CARD OF 'laws.FnStrip'. -/
def fnStripCard : Claim7 := { stood := { row := fnStripRow, standIns := [], harness := (true, "394c856ed0409210ab4236b27057a8839adda0b70a4cd408e01750d9cd1b0a62"), looks := false }, kinds := [], alts := [], laidByText := true, laidKinds := [.data, .data, .data], laidTests := true, laidLooks := .later }
def FnStripCardSaid : Prop := Claim7.holds Tryd.pinned (.plain (OpenSpec.ofChange fnStripSpec)) fnStripCard

/-- THE TIED CARD OF 'laws.FnExactCodeWord'. -/
def fnExactCodeWordCard : Claim7 := { stood := { row := fnExactCodeWordRow, standIns := [], harness := (true, "394c856ed0409210ab4236b27057a8839adda0b70a4cd408e01750d9cd1b0a62"), looks := false }, kinds := [], alts := [], laidByText := true, laidKinds := [.data], laidTests := true, laidLooks := .later }
def FnExactCodeWordCardSaid : Prop := Claim7.holds Tryd.pinned (.plain (OpenSpec.ofChange fnExactCodeWordSpec)) fnExactCodeWordCard

/-- THE TIED CARD OF 'laws.FnExactCodeOf'. -/
def fnExactCodeOfCard : Claim7 := { stood := { row := fnExactCodeOfRow, standIns := [], harness := (true, "394c856ed0409210ab4236b27057a8839adda0b70a4cd408e01750d9cd1b0a62"), looks := false }, kinds := [], alts := [], laidByText := true, laidKinds := [.data], laidTests := true, laidLooks := .later }
def FnExactCodeOfCardSaid : Prop := Claim7.holds Tryd.pinned (.plain (OpenSpec.ofChange fnExactCodeOfSpec)) fnExactCodeOfCard

/-- THE TIED CARD OF 'laws.FnExactParseUrl'. -/
def fnExactParseUrlCard : Claim7 := { stood := { row := fnExactParseUrlRow, standIns := [], harness := (true, "394c856ed0409210ab4236b27057a8839adda0b70a4cd408e01750d9cd1b0a62"), looks := false }, kinds := [], alts := [], laidByText := true, laidKinds := [.data, .data, .data], laidTests := true, laidLooks := .later }
def FnExactParseUrlCardSaid : Prop := Claim7.holds Tryd.pinned (.plain (OpenSpec.ofChange fnExactParseUrlSpec)) fnExactParseUrlCard

/-- THE TIED CARD OF 'laws.FnExactUrlOK'. -/
def fnExactUrlOKCard : Claim7 := { stood := { row := fnExactUrlOKRow, standIns := [], harness := (true, "394c856ed0409210ab4236b27057a8839adda0b70a4cd408e01750d9cd1b0a62"), looks := false }, kinds := [], alts := [], laidByText := true, laidKinds := [.data, .data, .data], laidTests := true, laidLooks := .later }
def FnExactUrlOKCardSaid : Prop := Claim7.holds Tryd.pinned (.plain (OpenSpec.ofChange fnExactUrlOKSpec)) fnExactUrlOKCard

/-- THE TIED CARD OF 'laws.FnExactUrlText'. -/
def fnExactUrlTextCard : Claim7 := { stood := { row := fnExactUrlTextRow, standIns := [], harness := (true, "394c856ed0409210ab4236b27057a8839adda0b70a4cd408e01750d9cd1b0a62"), looks := false }, kinds := [], alts := [], laidByText := true, laidKinds := [.data, .data, .data], laidTests := true, laidLooks := .later }
def FnExactUrlTextCardSaid : Prop := Claim7.holds Tryd.pinned (.plain (OpenSpec.ofChange fnExactUrlTextSpec)) fnExactUrlTextCard

/-- THE TIED CARD OF 'laws.FnExactOriginOf'. -/
def fnExactOriginOfCard : Claim7 := { stood := { row := fnExactOriginOfRow, standIns := [], harness := (true, "394c856ed0409210ab4236b27057a8839adda0b70a4cd408e01750d9cd1b0a62"), looks := false }, kinds := [], alts := [], laidByText := true, laidKinds := [.data, .data, .data], laidTests := true, laidLooks := .later }
def FnExactOriginOfCardSaid : Prop := Claim7.holds Tryd.pinned (.plain (OpenSpec.ofChange fnExactOriginOfSpec)) fnExactOriginOfCard

/-- THE TIED CARD OF 'laws.FnExactSameOrigin'. -/
def fnExactSameOriginCard : Claim7 := { stood := { row := fnExactSameOriginRow, standIns := [], harness := (true, "394c856ed0409210ab4236b27057a8839adda0b70a4cd408e01750d9cd1b0a62"), looks := false }, kinds := [], alts := [], laidByText := true, laidKinds := [.data, .data, .data], laidTests := true, laidLooks := .later }
def FnExactSameOriginCardSaid : Prop := Claim7.holds Tryd.pinned (.plain (OpenSpec.ofChange fnExactSameOriginSpec)) fnExactSameOriginCard

/-- THE TIED CARD OF 'laws.FnExactStripUrl'. -/
def fnExactStripUrlCard : Claim7 := { stood := { row := fnExactStripUrlRow, standIns := [], harness := (true, "394c856ed0409210ab4236b27057a8839adda0b70a4cd408e01750d9cd1b0a62"), looks := false }, kinds := [], alts := [], laidByText := true, laidKinds := [.data, .data, .data], laidTests := true, laidLooks := .later }
def FnExactStripUrlCardSaid : Prop := Claim7.holds Tryd.pinned (.plain (OpenSpec.ofChange fnExactStripUrlSpec)) fnExactStripUrlCard

/-- THE TIED CARD OF 'laws.FnExactStripText'. -/
def fnExactStripTextCard : Claim7 := { stood := { row := fnExactStripTextRow, standIns := [], harness := (true, "394c856ed0409210ab4236b27057a8839adda0b70a4cd408e01750d9cd1b0a62"), looks := false }, kinds := [], alts := [], laidByText := true, laidKinds := [.data, .data, .data], laidTests := true, laidLooks := .later }
def FnExactStripTextCardSaid : Prop := Claim7.holds Tryd.pinned (.plain (OpenSpec.ofChange fnExactStripTextSpec)) fnExactStripTextCard

/-- THE SECOND FORM's CARD OF 'laws.FnUrls'. -/
def fnUrlsUptoCard : Claim7 := { stood := { row := fnUrlsUptoRow, standIns := [], harness := (true, "394c856ed0409210ab4236b27057a8839adda0b70a4cd408e01750d9cd1b0a62"), looks := false }, kinds := [], alts := [], laidByText := true, laidKinds := [.data, .data, .data], laidTests := true, laidLooks := .later }
def FnUrlsUptoCardSaid : Prop := Claim7.holds Tryd.pinned (.plain (OpenSpec.upto fnUrlsSpec)) fnUrlsUptoCard

/-- THE SECOND FORM's CARD OF 'laws.FnStrip'. -/
def fnStripUptoCard : Claim7 := { stood := { row := fnStripUptoRow, standIns := [], harness := (true, "394c856ed0409210ab4236b27057a8839adda0b70a4cd408e01750d9cd1b0a62"), looks := false }, kinds := [], alts := [], laidByText := true, laidKinds := [.data, .data, .data], laidTests := true, laidLooks := .later }
def FnStripUptoCardSaid : Prop := Claim7.holds Tryd.pinned (.plain (OpenSpec.upto fnStripSpec)) fnStripUptoCard

/-- THE SECOND FORM's CARD OF 'laws.FnExactCodeWord'. -/
def fnExactCodeWordUptoCard : Claim7 := { stood := { row := fnExactCodeWordUptoRow, standIns := [], harness := (true, "394c856ed0409210ab4236b27057a8839adda0b70a4cd408e01750d9cd1b0a62"), looks := false }, kinds := [], alts := [], laidByText := true, laidKinds := [.data], laidTests := true, laidLooks := .later }
def FnExactCodeWordUptoCardSaid : Prop := Claim7.holds Tryd.pinned (.plain (OpenSpec.upto fnExactCodeWordSpec)) fnExactCodeWordUptoCard

/-- THE SECOND FORM's CARD OF 'laws.FnExactCodeOf'. -/
def fnExactCodeOfUptoCard : Claim7 := { stood := { row := fnExactCodeOfUptoRow, standIns := [], harness := (true, "394c856ed0409210ab4236b27057a8839adda0b70a4cd408e01750d9cd1b0a62"), looks := false }, kinds := [], alts := [], laidByText := true, laidKinds := [.data], laidTests := true, laidLooks := .later }
def FnExactCodeOfUptoCardSaid : Prop := Claim7.holds Tryd.pinned (.plain (OpenSpec.upto fnExactCodeOfSpec)) fnExactCodeOfUptoCard

/-- THE SECOND FORM's CARD OF 'laws.FnExactParseUrl'. -/
def fnExactParseUrlUptoCard : Claim7 := { stood := { row := fnExactParseUrlUptoRow, standIns := [], harness := (true, "394c856ed0409210ab4236b27057a8839adda0b70a4cd408e01750d9cd1b0a62"), looks := false }, kinds := [], alts := [], laidByText := true, laidKinds := [.data, .data, .data], laidTests := true, laidLooks := .later }
def FnExactParseUrlUptoCardSaid : Prop := Claim7.holds Tryd.pinned (.plain (OpenSpec.upto fnExactParseUrlSpec)) fnExactParseUrlUptoCard

/-- THE SECOND FORM's CARD OF 'laws.FnExactUrlOK'. -/
def fnExactUrlOKUptoCard : Claim7 := { stood := { row := fnExactUrlOKUptoRow, standIns := [], harness := (true, "394c856ed0409210ab4236b27057a8839adda0b70a4cd408e01750d9cd1b0a62"), looks := false }, kinds := [], alts := [], laidByText := true, laidKinds := [.data, .data, .data], laidTests := true, laidLooks := .later }
def FnExactUrlOKUptoCardSaid : Prop := Claim7.holds Tryd.pinned (.plain (OpenSpec.upto fnExactUrlOKSpec)) fnExactUrlOKUptoCard

/-- THE SECOND FORM's CARD OF 'laws.FnExactUrlText'. -/
def fnExactUrlTextUptoCard : Claim7 := { stood := { row := fnExactUrlTextUptoRow, standIns := [], harness := (true, "394c856ed0409210ab4236b27057a8839adda0b70a4cd408e01750d9cd1b0a62"), looks := false }, kinds := [], alts := [], laidByText := true, laidKinds := [.data, .data, .data], laidTests := true, laidLooks := .later }
def FnExactUrlTextUptoCardSaid : Prop := Claim7.holds Tryd.pinned (.plain (OpenSpec.upto fnExactUrlTextSpec)) fnExactUrlTextUptoCard

/-- THE SECOND FORM's CARD OF 'laws.FnExactOriginOf'. -/
def fnExactOriginOfUptoCard : Claim7 := { stood := { row := fnExactOriginOfUptoRow, standIns := [], harness := (true, "394c856ed0409210ab4236b27057a8839adda0b70a4cd408e01750d9cd1b0a62"), looks := false }, kinds := [], alts := [], laidByText := true, laidKinds := [.data, .data, .data], laidTests := true, laidLooks := .later }
def FnExactOriginOfUptoCardSaid : Prop := Claim7.holds Tryd.pinned (.plain (OpenSpec.upto fnExactOriginOfSpec)) fnExactOriginOfUptoCard

/-- THE SECOND FORM's CARD OF 'laws.FnExactSameOrigin'. -/
def fnExactSameOriginUptoCard : Claim7 := { stood := { row := fnExactSameOriginUptoRow, standIns := [], harness := (true, "394c856ed0409210ab4236b27057a8839adda0b70a4cd408e01750d9cd1b0a62"), looks := false }, kinds := [], alts := [], laidByText := true, laidKinds := [.data, .data, .data], laidTests := true, laidLooks := .later }
def FnExactSameOriginUptoCardSaid : Prop := Claim7.holds Tryd.pinned (.plain (OpenSpec.upto fnExactSameOriginSpec)) fnExactSameOriginUptoCard

/-- THE SECOND FORM's CARD OF 'laws.FnExactStripUrl'. -/
def fnExactStripUrlUptoCard : Claim7 := { stood := { row := fnExactStripUrlUptoRow, standIns := [], harness := (true, "394c856ed0409210ab4236b27057a8839adda0b70a4cd408e01750d9cd1b0a62"), looks := false }, kinds := [], alts := [], laidByText := true, laidKinds := [.data, .data, .data], laidTests := true, laidLooks := .later }
def FnExactStripUrlUptoCardSaid : Prop := Claim7.holds Tryd.pinned (.plain (OpenSpec.upto fnExactStripUrlSpec)) fnExactStripUrlUptoCard

/-- THE SECOND FORM's CARD OF 'laws.FnExactStripText'. -/
def fnExactStripTextUptoCard : Claim7 := { stood := { row := fnExactStripTextUptoRow, standIns := [], harness := (true, "394c856ed0409210ab4236b27057a8839adda0b70a4cd408e01750d9cd1b0a62"), looks := false }, kinds := [], alts := [], laidByText := true, laidKinds := [.data, .data, .data], laidTests := true, laidLooks := .later }
def FnExactStripTextUptoCardSaid : Prop := Claim7.holds Tryd.pinned (.plain (OpenSpec.upto fnExactStripTextSpec)) fnExactStripTextUptoCard
end Rows
end Go.Proofs.YtieclljkfdghaaaDoor
