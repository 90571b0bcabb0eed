
/-
  A map of the call's own, keyed by texts: what it holds under each key.
-/
import Derived.Test.YtmaknkbmilcanaaGreatDoorChecked
import Derived.WalkKit
import Derived.Carry
import Derived.ProofKit
import Derived.Maps.OwnSet
import Derived.Maps.OwnOps
import Derived.Maps.Views
import Derived.Below
namespace Go.Proofs.YtmaknkbmilcanaaGreatDoor.Mp
open Go.RowKit
open Go.ChangeMaps Go.WideMaps
open Go.Maps (Keyed)
abbrev Rv (v : Value) : Option (DataW Value × List MemPlace) := some (.held v, [])
/-- block b is a map of at most n texts; under the key k stands f k, or z where nothing stands -/
def OMap (w : World) (b n : Nat) (z : Value) (f : List UInt8 → Value) : Prop :=
  ∃ D : DataW Value, w.ownsMap Tryz.prog 9 Rv b n D ∧ ∀ k : List UInt8, D.atKey (.string k) (.held z) = .held (f k)
theorem keyed : Keyed Tryz.prog 9 := Maps.string_keyed Tryz.underlying9
theorem key_of (k : List UInt8) (hk : k.length ≤ 9223372036854775807) : keyOf Tryz.prog 9 (.string ⟨k.toArray⟩) = some (.string k) := by
  have h := keyOf_string_mk (P := Tryz.prog) Tryz.underlying9 (s := ⟨k.toArray⟩) (by simp [ByteArray.size, maxLen]; omega)
  simpa using h
theorem OMap.made (w : World) (z : Value) : OMap (w.alloc (.map #[] 0)) w.heap.size 0 z (fun _ => z) := ⟨_, World.ownsMap_made w _ _ _, fun _ => rfl⟩
theorem OMap.lt {w : World} {b n : Nat} {z : Value} {f : List UInt8 → Value} (h : OMap w b n z f) : b < w.heap.size := by obtain ⟨D, h, _⟩ := h; exact h.lt
theorem OMap.kept {w w' : World} {b n : Nat} {z : Value} {f : List UInt8 → Value} (h : OMap w b n z f) (hb : w'.heap[b]? = w.heap[b]?) : OMap w' b n z f := by
  obtain ⟨D, ⟨es, clock, h1, h2⟩, h3⟩ := h
  exact ⟨D, ⟨es, clock, hb.trans h1, h2⟩, h3⟩
theorem OMap.alloc {w : World} {b n : Nat} {z : Value} {f : List UInt8 → Value} (h : OMap w b n z f) (o : Obj) : OMap (w.alloc o) b n z f := h.kept (RowKit.Below.heap_alloc w o b h.lt)
theorem OMap.below {w w' : World} {b n B : Nat} {z : Value} {f : List UInt8 → Value} (h : OMap w b n z f) (hb : Below B w w') (hB : b < B) : OMap w' b n z f := h.kept (hb.block b hB)
theorem OMap.drew {w : World} {b n : Nat} {z : Value} {f : List UInt8 → Value} (h : OMap w b n z f) : OMap w.drew b n z f := h.kept rfl
theorem OMap.congr {w : World} {b n : Nat} {z : Value} {f g : List UInt8 → Value} (h : OMap w b n z f) (e : ∀ k, f k = g k) : OMap w b n z g := by
  obtain ⟨D, h1, h2⟩ := h
  exact ⟨D, h1, fun k => by rw [h2 k, e k]⟩
theorem OMap.look {w : World} {b n : Nat} {z : Value} {f : List UInt8 → Value} (h : OMap w b n z f) {t e : TypeId} (ht : Tryz.prog.underlying t = some (.map 9 e)) (hz : (zeroValue e).run Tryz.prog w = .ok z w) (k : List UInt8) (hk : k.length ≤ 9223372036854775807) :
    (Instr.lookup t (.map (some b)) (.string ⟨k.toArray⟩) false).run Tryz.prog w = .ok (f k) w := by
  obtain ⟨D, h1, h2⟩ := h
  obtain ⟨v, ps, hr, hv⟩ := h1.lookup keyed ht hz (zd := .held z) (zp := []) rfl (key_of k hk)
  rw [h2 k] at hv
  simp only [Rv, Option.some.injEq, Prod.mk.injEq, DataW.held.injEq] at hv
  rw [hr, hv.1]
theorem OMap.store {w : World} {b n : Nat} {z : Value} {f : List UInt8 → Value} (h : OMap w b n z f) {t e : TypeId} (ht : Tryz.prog.underlying t = some (.map 9 e)) (hn : n < 9223372036854775807) (k : List UInt8) (hk : k.length ≤ 9223372036854775807) (v : Value) :
    ∃ w', (Instr.mapUpdate t (.map (some b)) (.string ⟨k.toArray⟩) v).run Tryz.prog w = .ok () w' ∧ OMap w' b (n + 1) z (fun x => if x = k then v else f x) ∧ w.grownBy w' (some b) := by
  obtain ⟨D, h1, h2⟩ := h
  obtain ⟨w', hr, h3, h4⟩ := h1.update keyed ht (by unfold maxLen; omega) (key_of k hk) (val := v) (d := .held v) (ps := []) rfl
  refine ⟨w', hr, ⟨_, h3, fun x => ?_⟩, h4⟩
  dsimp only
  by_cases hx : x = k
  · subst hx
    rw [if_pos rfl]
    exact Maps.atKey_put_same (h1.isMap) (by trivial) _ _
  · rw [if_neg hx, Maps.atKey_put_other (by simpa using hx)]
    exact h2 x
theorem wpList_look {P : Program} (hP : P = Tryz.prog) (w : World) {ops : Array Oper} {rest : List Oper} {o : Oper} {a : Act} {Q : Exit → Act → World → Prop}
    (hg : o.guard = none) (m x : Operand) (t : TypeId) (hop : o.op = Op.lookup t m x false)
    (e : TypeId) (ht : Tryz.prog.underlying t = some (.map 9 e)) {b n : Nat} {z : Value} {f : List UInt8 → Value} (hz : (zeroValue e).run Tryz.prog w = .ok z w)
    (hm : a.eval m = .map (some b)) (h : OMap w b n z f) (k : List UInt8) (hx : a.eval x = .string ⟨k.toArray⟩) (hk : k.length ≤ 9223372036854775807)
    (hK : wpList P ops Q rest (a.put o.dst (f k)) w) : wpList P ops Q (o :: rest) a w := by
  subst hP
  refine wpList_plain hg fun K' hK' => ?_
  have hrun := h.look ht hz k hk
  unfold Oper.wp
  simp [execOp, hop, hm, hx, hrun, Result.andThen]
  exact hK' _ _ hK
theorem wpList_store {P : Program} (hP : P = Tryz.prog) (w : World) {ops : Array Oper} {rest : List Oper} {o : Oper} {a : Act} {Q : Exit → Act → World → Prop}
    (hg : o.guard = none) (m x v : Operand) (t : TypeId) (hop : o.op = Op.mapUpdate t m x v)
    (e : TypeId) (ht : Tryz.prog.underlying t = some (.map 9 e)) {b n : Nat} {z : Value} {f : List UInt8 → Value}
    (hm : a.eval m = .map (some b)) (h : OMap w b n z f) (hn : n < 9223372036854775807) (k : List UInt8) (val : Value) (hx : a.eval x = .string ⟨k.toArray⟩) (hv : a.eval v = val) (hk : k.length ≤ 9223372036854775807)
    (hK : ∀ w', OMap w' b (n + 1) z (fun x => if x = k then val else f x) → w.grownBy w' (some b) → wpList P ops Q rest (a.put o.dst undef) w') : wpList P ops Q (o :: rest) a w := by
  subst hP
  refine wpList_plain hg fun K' hK' => ?_
  obtain ⟨w', hrun, r1, r2⟩ := h.store ht hn k hk val
  unfold Oper.wp
  simp [execOp, hop, hm, hx, hv, hrun, Result.andThen]
  exact hK' _ _ (hK w' r1 r2)
/-- a store into a block from B on -/
theorem below_grownM {B b : Nat} {a w w' : World} (h : Below B a w) (hg : w.grownBy w' (some b)) (hb : B ≤ b) (hB : B ≤ w.heap.size) : Below B a w' :=
  h.trans ⟨hg.os, hg.tape, hg.output, hg.size, fun k hk => hg.block k (by omega) (by intro e; cases e; omega)⟩
end Go.Proofs.YtmaknkbmilcanaaGreatDoor.Mp
