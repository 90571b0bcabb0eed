/-
  DERIVED. GIVEN WITH THE SEED: THE CARDS: each row of YtjjabbdnoapnkaaDoorRows.lean that lists a variable, with what it lists TIED to the program's text (the seventh form; the later family's looks); each row that meets fmt, with fmt's text TOLD by the authors' own Lean function (tested against real Go, not proved from fmt's source: count such statements apart). THE CARD IS WHAT COUNTS. Prove the row's statement (the work); the ties are given (YtjjabbdnoapnkaaDoorTie.lean); close each card by the builder's one call (the guide's Derived/Test/ToyasCard.lean, 'card_holds'). Laid BY PROGRAM, IN A SANDBOX (cutbox-door.mjs). By AI agents, Wed Nov 11 2026. No macro, syntax, notation, axiom, sorry.
-/
import Derived.Test.YtjjabbdnoapnkaaDoorRows
import GoSem.ClaimSeven
namespace Go.Proofs.YtjjabbdnoapnkaaDoor
namespace Rows

/-- THE TIED CARD OF 'laws.FnExactGroupOK'. -/
def fnExactGroupOKCard : Claim7 := { stood := { row := fnExactGroupOKRow, standIns := [], harness := (true, "1e0082583dbd85bca8251428a696dd9410a240cbb3a256170f3856a260be4f38"), looks := true }, kinds := [], alts := [], laidByText := true, laidKinds := [.data, .data, .data], laidTests := true, laidLooks := .later }
def FnExactGroupOKCardSaid : Prop := Claim7.holds Tryd.pinned (.plain (OpenSpec.ofChange fnExactGroupOKSpec)) fnExactGroupOKCard

/-- THE TIED CARD OF 'laws.FnExactSameGroup'. -/
def fnExactSameGroupCard : Claim7 := { stood := { row := fnExactSameGroupRow, standIns := [], harness := (true, "1e0082583dbd85bca8251428a696dd9410a240cbb3a256170f3856a260be4f38"), looks := true }, kinds := [], alts := [], laidByText := true, laidKinds := [.data, .data, .data], laidTests := true, laidLooks := .later }
def FnExactSameGroupCardSaid : Prop := Claim7.holds Tryd.pinned (.plain (OpenSpec.ofChange fnExactSameGroupSpec)) fnExactSameGroupCard

/-- THE TIED CARD OF 'laws.FnExactJsonText'. -/
def fnExactJsonTextCard : Claim7 := { stood := { row := fnExactJsonTextRow, standIns := [], harness := (true, "1e0082583dbd85bca8251428a696dd9410a240cbb3a256170f3856a260be4f38"), looks := true }, kinds := [], alts := [], laidByText := true, laidKinds := [.data, .data, .data], laidTests := true, laidLooks := .later }
def FnExactJsonTextCardSaid : Prop := Claim7.holds Tryd.pinned (.plain (OpenSpec.ofChange fnExactJsonTextSpec)) fnExactJsonTextCard

/-- THE TIED CARD OF 'laws.FnExactReadJson'. -/
def fnExactReadJsonCard : Claim7 := { stood := { row := fnExactReadJsonRow, standIns := [], harness := (true, "1e0082583dbd85bca8251428a696dd9410a240cbb3a256170f3856a260be4f38"), looks := true }, kinds := [], alts := [], laidByText := true, laidKinds := [.data, .data, .data, .data, .sentinel, .sentinel, .pinned], laidTests := true, laidLooks := .later }
def FnExactReadJsonCardSaid : Prop := Claim7.holds Tryd.pinned (.plain (OpenSpec.ofChange fnExactReadJsonSpec)) fnExactReadJsonCard

/-- THE SECOND FORM's CARD OF 'laws.FnExactGroupOK'. -/
def fnExactGroupOKUptoCard : Claim7 := { stood := { row := fnExactGroupOKUptoRow, standIns := [], harness := (true, "1e0082583dbd85bca8251428a696dd9410a240cbb3a256170f3856a260be4f38"), looks := true }, kinds := [], alts := [], laidByText := true, laidKinds := [.data, .data, .data], laidTests := true, laidLooks := .later }
def FnExactGroupOKUptoCardSaid : Prop := Claim7.holds Tryd.pinned (.plain (OpenSpec.upto fnExactGroupOKSpec)) fnExactGroupOKUptoCard

/-- THE SECOND FORM's CARD OF 'laws.FnExactSameGroup'. -/
def fnExactSameGroupUptoCard : Claim7 := { stood := { row := fnExactSameGroupUptoRow, standIns := [], harness := (true, "1e0082583dbd85bca8251428a696dd9410a240cbb3a256170f3856a260be4f38"), looks := true }, kinds := [], alts := [], laidByText := true, laidKinds := [.data, .data, .data], laidTests := true, laidLooks := .later }
def FnExactSameGroupUptoCardSaid : Prop := Claim7.holds Tryd.pinned (.plain (OpenSpec.upto fnExactSameGroupSpec)) fnExactSameGroupUptoCard

/-- THE SECOND FORM's CARD OF 'laws.FnExactJsonText'. -/
def fnExactJsonTextUptoCard : Claim7 := { stood := { row := fnExactJsonTextUptoRow, standIns := [], harness := (true, "1e0082583dbd85bca8251428a696dd9410a240cbb3a256170f3856a260be4f38"), looks := true }, kinds := [], alts := [], laidByText := true, laidKinds := [.data, .data, .data], laidTests := true, laidLooks := .later }
def FnExactJsonTextUptoCardSaid : Prop := Claim7.holds Tryd.pinned (.plain (OpenSpec.upto fnExactJsonTextSpec)) fnExactJsonTextUptoCard

/-- THE SECOND FORM's CARD OF 'laws.FnExactReadJson'. -/
def fnExactReadJsonUptoCard : Claim7 := { stood := { row := fnExactReadJsonUptoRow, standIns := [], harness := (true, "1e0082583dbd85bca8251428a696dd9410a240cbb3a256170f3856a260be4f38"), looks := true }, kinds := [], alts := [], laidByText := true, laidKinds := [.data, .data, .data, .data, .sentinel, .sentinel, .pinned], laidTests := true, laidLooks := .later }
def FnExactReadJsonUptoCardSaid : Prop := Claim7.holds Tryd.pinned (.plain (OpenSpec.upto fnExactReadJsonSpec)) fnExactReadJsonUptoCard
end Rows
end Go.Proofs.YtjjabbdnoapnkaaDoor
