
/-
  JSON values compared by the model: l02Same.
-/
import Derived.Test.YtniflfgnelfpbaaJsEqI
namespace Go.Proofs.Ytniflfgnelfpbaa.Js
open Go.RowKit
/-- what holds at the head of the model's loop -/
def SameRel (W : World) (iv iv' : Value) (wr : World) : Prop := wr.cell? ⟨W.heap.size, 4, none⟩ = some iv ∧ wr.cell? ⟨W.heap.size + 1, 4, none⟩ = some iv' ∧ W.heap.size + 1 < wr.heap.size ∧ Below W.heap.size W wr
end Go.Proofs.Ytniflfgnelfpbaa.Js
