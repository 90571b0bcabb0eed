
/-
  A region that draws its order, whose operations read what was there and whose calls make memory: the lexical walk over the class of all later worlds. No program is named here.
-/
import Derived.Below
import Derived.Deep.QuietTactic
import Derived.BigQuiet
namespace Go.Proofs.YtjakkmjipglkiaaDoor.Ext
open Go.RowKit
def Ext (w : World) := { y : World // Below w.heap.size w y }
instance extNonempty (w : World) : Nonempty (Ext w) := ⟨⟨w, Below.refl _ _⟩⟩
/-- a later world: what was there is as it was -/
def up (w : World) (y : Ext w) : World := y.1
theorem up_below (w : World) (y : Ext w) : Below w.heap.size w (up w y) := y.2
theorem up_cell (w : World) (y : Ext w) (b o : Nat) (h : b < w.heap.size) : (up w y).cell? ⟨b, o, none⟩ = w.cell? ⟨b, o, none⟩ := y.2.cell (p := ⟨b, o, none⟩) h
theorem up_frozen (w : World) (y : Ext w) (b o : Nat) (h : b < w.heap.size) : (up w y).frozen? ⟨b, o, none⟩ = w.frozen? ⟨b, o, none⟩ := y.2.frozen (p := ⟨b, o, none⟩) h
theorem up_mk (w : World) (z : World) (h : Below w.heap.size w z) : ∃ y : Ext w, z = up w y := ⟨⟨z, h⟩, rfl⟩
theorem wp_region_ext {P : Program} {id : Nat} {Q : Exit → Act → World → Prop} {a : Act} {w : World} {l : List Oper} (hm : P.follows .mixedOrders = true) (hB : Region.lexB .any l.toArray = true)
    (h : wpQuiet P l.toArray (fun w' => ∃ y : Ext w, w' = up w y) (fun a' => ∀ w', (∃ y : Ext w, w' = up w y) → Q .normal a' w') l a) : (Code.region id l.toArray true).wp P Q a w :=
  wp_region_quiet (C := fun w' => ∃ y : Ext w, w' = up w y) hm hB (up_mk w _ ⟨rfl, rfl, rfl, Nat.le_refl _, fun _ _ => rfl⟩) (by simpa using h)
/-- a callee that makes memory, met in a later world -/
theorem call_ext {P : Program} {f : FuncId} {args : Array Value} {w : World} {y : Ext w} {v : Value} (h : Calls P f args (up w y) fun e w' => e = .returned v ∧ Below (up w y).heap.size (up w y) w') :
    Calls P f args (up w y) fun e w'' => e = .returned v ∧ ∃ z : Ext w, w'' = up w z :=
  h.mono fun _ w' ⟨he, hb⟩ => ⟨he, up_mk w w' (y.2.trans (hb.mono y.2.size))⟩
theorem call_ext_same {P : Program} {f : FuncId} {args : Array Value} {w : World} {y : Ext w} {v : Value} (h : Calls P f args (up w y) fun e w' => e = .returned v ∧ up w y = w') :
    Calls P f args (up w y) fun e w'' => e = .returned v ∧ ∃ z : Ext w, w'' = up w z :=
  h.mono fun _ _ ⟨he, hb⟩ => ⟨he, y, hb.symm⟩
theorem call_ext_drewN {P : Program} {f : FuncId} {args : Array Value} {w : World} {y : Ext w} {v : Value} (h : Calls P f args (up w y) fun e w' => e = .returned v ∧ ∃ n, w' = (up w y).drewN n) :
    Calls P f args (up w y) fun e w'' => e = .returned v ∧ ∃ z : Ext w, w'' = up w z :=
  h.mono fun _ w' ⟨he, n, hb⟩ => ⟨he, up_mk w w' (by subst hb; exact ⟨y.2.os, y.2.tape, y.2.output, y.2.size, y.2.block⟩)⟩
end Go.Proofs.YtjakkmjipglkiaaDoor.Ext
