/-
  DERIVED. GIVEN WITH THE SEED: THE CARDS: each row of YtniflfgnelfpbaaDoorRows.lean that lists a variable, with what it lists TIED to the program's text (the seventh form; the later family's looks); each row that meets fmt, with fmt's text TOLD by the authors' own Lean function (tested against real Go, not proved from fmt's source: count such statements apart). THE CARD IS WHAT COUNTS. Prove the row's statement (the work); the ties are given (YtniflfgnelfpbaaDoorTie.lean); close each card by the builder's one call (the guide's Derived/Test/ToyasCard.lean, 'card_holds'). Laid BY PROGRAM, IN A SANDBOX (cutbox-door.mjs). By AI agents, Wed Nov 11 2026. No macro, syntax, notation, axiom, sorry.
-/
import Derived.Test.YtniflfgnelfpbaaDoorRows
import GoSem.ClaimSeven
namespace Go.Proofs.YtniflfgnelfpbaaDoor
namespace Rows

/-- THE TIED CARD OF 'laws.FnExactBlockedPart'. -/
def fnExactBlockedPartCard : Claim7 := { stood := { row := fnExactBlockedPartRow, standIns := [], harness := (true, "d89548bd993af385c7f5ba5fcabab15a39732b12b29f6b8ce97734e2e6902b91"), looks := true }, kinds := [], alts := [], laidByText := true, laidKinds := [.data, .data, .data, .sentinel], laidTests := true, laidLooks := .later }
def FnExactBlockedPartCardSaid : Prop := Claim7.holds Tryd.pinned (.plain (OpenSpec.ofChange fnExactBlockedPartSpec)) fnExactBlockedPartCard

/-- THE TIED CARD OF 'laws.FnExactSourcePart'. -/
def fnExactSourcePartCard : Claim7 := { stood := { row := fnExactSourcePartRow, standIns := [], harness := (true, "d89548bd993af385c7f5ba5fcabab15a39732b12b29f6b8ce97734e2e6902b91"), looks := true }, kinds := [], alts := [], laidByText := true, laidKinds := [.data, .data, .data, .sentinel], laidTests := true, laidLooks := .later }
def FnExactSourcePartCardSaid : Prop := Claim7.holds Tryd.pinned (.plain (OpenSpec.ofChange fnExactSourcePartSpec)) fnExactSourcePartCard

/-- THE TIED CARD OF 'laws.FnExactJsonText'. -/
def fnExactJsonTextCard : Claim7 := { stood := { row := fnExactJsonTextRow, standIns := [], harness := (true, "d89548bd993af385c7f5ba5fcabab15a39732b12b29f6b8ce97734e2e6902b91"), looks := true }, kinds := [], alts := [], laidByText := true, laidKinds := [.data, .data, .data], laidTests := true, laidLooks := .later }
def FnExactJsonTextCardSaid : Prop := Claim7.holds Tryd.pinned (.plain (OpenSpec.ofChange fnExactJsonTextSpec)) fnExactJsonTextCard

/-- THE SECOND FORM's CARD OF 'laws.FnExactBlockedPart'. -/
def fnExactBlockedPartUptoCard : Claim7 := { stood := { row := fnExactBlockedPartUptoRow, standIns := [], harness := (true, "d89548bd993af385c7f5ba5fcabab15a39732b12b29f6b8ce97734e2e6902b91"), looks := true }, kinds := [], alts := [], laidByText := true, laidKinds := [.data, .data, .data, .sentinel], laidTests := true, laidLooks := .later }
def FnExactBlockedPartUptoCardSaid : Prop := Claim7.holds Tryd.pinned (.plain (OpenSpec.upto fnExactBlockedPartSpec)) fnExactBlockedPartUptoCard

/-- THE SECOND FORM's CARD OF 'laws.FnExactSourcePart'. -/
def fnExactSourcePartUptoCard : Claim7 := { stood := { row := fnExactSourcePartUptoRow, standIns := [], harness := (true, "d89548bd993af385c7f5ba5fcabab15a39732b12b29f6b8ce97734e2e6902b91"), looks := true }, kinds := [], alts := [], laidByText := true, laidKinds := [.data, .data, .data, .sentinel], laidTests := true, laidLooks := .later }
def FnExactSourcePartUptoCardSaid : Prop := Claim7.holds Tryd.pinned (.plain (OpenSpec.upto fnExactSourcePartSpec)) fnExactSourcePartUptoCard

/-- THE SECOND FORM's CARD OF 'laws.FnExactJsonText'. -/
def fnExactJsonTextUptoCard : Claim7 := { stood := { row := fnExactJsonTextUptoRow, standIns := [], harness := (true, "d89548bd993af385c7f5ba5fcabab15a39732b12b29f6b8ce97734e2e6902b91"), looks := true }, kinds := [], alts := [], laidByText := true, laidKinds := [.data, .data, .data], laidTests := true, laidLooks := .later }
def FnExactJsonTextUptoCardSaid : Prop := Claim7.holds Tryd.pinned (.plain (OpenSpec.upto fnExactJsonTextSpec)) fnExactJsonTextUptoCard
end Rows
end Go.Proofs.YtniflfgnelfpbaaDoor
