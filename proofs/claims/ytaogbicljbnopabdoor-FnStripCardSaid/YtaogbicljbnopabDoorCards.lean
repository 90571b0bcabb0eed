/-
  DERIVED. GIVEN WITH THE SEED: THE CARDS: each row of YtaogbicljbnopabDoorRows.lean that lists a variable, with what it lists TIED to the program's text (the seventh form; the later family's looks); each row that meets fmt, with fmt's text TOLD by the authors' own Lean function (tested against real Go, not proved from fmt's source: count such statements apart). THE CARD IS WHAT COUNTS. Prove the row's statement (the work); the ties are given (YtaogbicljbnopabDoorTie.lean); close each card by the builder's one call (the guide's Derived/Test/ToyasCard.lean, 'card_holds'). Laid BY PROGRAM, IN A SANDBOX (cutbox-door.mjs). By AI agents, Wed Nov 11 2026. No macro, syntax, notation, axiom, sorry.
-/
import Derived.Test.YtaogbicljbnopabDoorRows
import GoSem.ClaimSeven
namespace Go.Proofs.YtaogbicljbnopabDoor
namespace Rows

/-- THE TIED CARD OF 'laws.FnExactSameOrigin'. -/
def fnExactSameOriginCard : Claim7 := { stood := { row := fnExactSameOriginRow, standIns := [], harness := (true, "df774b3647c76ed5ede8cb7ca8b2dc8b79aac02e922dea67fbb69392fae1c28c"), looks := false }, kinds := [], alts := [], laidByText := true, laidKinds := [.data, .data, .data], laidTests := true, laidLooks := .later }
def FnExactSameOriginCardSaid : Prop := Claim7.holds Tryd.pinned (.plain (OpenSpec.ofChange fnExactSameOriginSpec)) fnExactSameOriginCard

/-- THE TIED CARD OF 'laws.FnExactParseUrl'. -/
def fnExactParseUrlCard : Claim7 := { stood := { row := fnExactParseUrlRow, standIns := [], harness := (true, "df774b3647c76ed5ede8cb7ca8b2dc8b79aac02e922dea67fbb69392fae1c28c"), looks := false }, kinds := [], alts := [], laidByText := true, laidKinds := [.data, .data, .data], laidTests := true, laidLooks := .later }
def FnExactParseUrlCardSaid : Prop := Claim7.holds Tryd.pinned (.plain (OpenSpec.ofChange fnExactParseUrlSpec)) fnExactParseUrlCard

/-- THE TIED CARD OF 'laws.FnExactStripText'. -/
def fnExactStripTextCard : Claim7 := { stood := { row := fnExactStripTextRow, standIns := [], harness := (true, "df774b3647c76ed5ede8cb7ca8b2dc8b79aac02e922dea67fbb69392fae1c28c"), looks := false }, kinds := [], alts := [], laidByText := true, laidKinds := [.data, .data, .data], laidTests := true, laidLooks := .later }
def FnExactStripTextCardSaid : Prop := Claim7.holds Tryd.pinned (.plain (OpenSpec.ofChange fnExactStripTextSpec)) fnExactStripTextCard

/-- THE TIED CARD OF 'laws.FnStrip'. -/
def fnStripCard : Claim7 := { stood := { row := fnStripRow, standIns := [], harness := (true, "df774b3647c76ed5ede8cb7ca8b2dc8b79aac02e922dea67fbb69392fae1c28c"), looks := false }, kinds := [], alts := [], laidByText := true, laidKinds := [.data, .data, .data], laidTests := true, laidLooks := .later }
def FnStripCardSaid : Prop := Claim7.holds Tryd.pinned (.plain (OpenSpec.ofChange fnStripSpec)) fnStripCard

/-- THE TIED CARD OF 'laws.FnUrls'. -/
def fnUrlsCard : Claim7 := { stood := { row := fnUrlsRow, standIns := [], harness := (true, "df774b3647c76ed5ede8cb7ca8b2dc8b79aac02e922dea67fbb69392fae1c28c"), looks := false }, kinds := [], alts := [], laidByText := true, laidKinds := [.data, .data, .data], laidTests := true, laidLooks := .later }
def FnUrlsCardSaid : Prop := Claim7.holds Tryd.pinned (.plain (OpenSpec.ofChange fnUrlsSpec)) fnUrlsCard

/-- THE SECOND FORM's CARD OF 'laws.FnExactSameOrigin'. -/
def fnExactSameOriginUptoCard : Claim7 := { stood := { row := fnExactSameOriginUptoRow, standIns := [], harness := (true, "df774b3647c76ed5ede8cb7ca8b2dc8b79aac02e922dea67fbb69392fae1c28c"), looks := false }, kinds := [], alts := [], laidByText := true, laidKinds := [.data, .data, .data], laidTests := true, laidLooks := .later }
def FnExactSameOriginUptoCardSaid : Prop := Claim7.holds Tryd.pinned (.plain (OpenSpec.upto fnExactSameOriginSpec)) fnExactSameOriginUptoCard

/-- THE SECOND FORM's CARD OF 'laws.FnExactParseUrl'. -/
def fnExactParseUrlUptoCard : Claim7 := { stood := { row := fnExactParseUrlUptoRow, standIns := [], harness := (true, "df774b3647c76ed5ede8cb7ca8b2dc8b79aac02e922dea67fbb69392fae1c28c"), looks := false }, kinds := [], alts := [], laidByText := true, laidKinds := [.data, .data, .data], laidTests := true, laidLooks := .later }
def FnExactParseUrlUptoCardSaid : Prop := Claim7.holds Tryd.pinned (.plain (OpenSpec.upto fnExactParseUrlSpec)) fnExactParseUrlUptoCard

/-- THE SECOND FORM's CARD OF 'laws.FnExactStripText'. -/
def fnExactStripTextUptoCard : Claim7 := { stood := { row := fnExactStripTextUptoRow, standIns := [], harness := (true, "df774b3647c76ed5ede8cb7ca8b2dc8b79aac02e922dea67fbb69392fae1c28c"), looks := false }, kinds := [], alts := [], laidByText := true, laidKinds := [.data, .data, .data], laidTests := true, laidLooks := .later }
def FnExactStripTextUptoCardSaid : Prop := Claim7.holds Tryd.pinned (.plain (OpenSpec.upto fnExactStripTextSpec)) fnExactStripTextUptoCard

/-- THE SECOND FORM's CARD OF 'laws.FnStrip'. -/
def fnStripUptoCard : Claim7 := { stood := { row := fnStripUptoRow, standIns := [], harness := (true, "df774b3647c76ed5ede8cb7ca8b2dc8b79aac02e922dea67fbb69392fae1c28c"), looks := false }, kinds := [], alts := [], laidByText := true, laidKinds := [.data, .data, .data], laidTests := true, laidLooks := .later }
def FnStripUptoCardSaid : Prop := Claim7.holds Tryd.pinned (.plain (OpenSpec.upto fnStripSpec)) fnStripUptoCard

/-- THE SECOND FORM's CARD OF 'laws.FnUrls'. -/
def fnUrlsUptoCard : Claim7 := { stood := { row := fnUrlsUptoRow, standIns := [], harness := (true, "df774b3647c76ed5ede8cb7ca8b2dc8b79aac02e922dea67fbb69392fae1c28c"), looks := false }, kinds := [], alts := [], laidByText := true, laidKinds := [.data, .data, .data], laidTests := true, laidLooks := .later }
def FnUrlsUptoCardSaid : Prop := Claim7.holds Tryd.pinned (.plain (OpenSpec.upto fnUrlsSpec)) fnUrlsUptoCard
end Rows
end Go.Proofs.YtaogbicljbnopabDoor
