
/-
  A JSON value in memory: its five cells, the row of its names, the row of its items, and so on down. S: the blocks that it may lie in. The size of a JSON value, as the laws count it: szStringS, szJsonS, szJson. The laws' copies of JSON values: toStringS, toJsonS, toJson: new memory that holds the same.
-/
import Derived.Test.YtjakkmjipglkiaaDoorChecked
import Derived.Test.YtjakkmjipglkiaaDoorJsPlain
import Derived.WalkKit
import Derived.Carry
import Derived.ProofKit
import Derived.OpenShut
import Derived.ChangeSlices
import Derived.Deep.Slices
import Derived.Lib.SmallJoins
import Derived.WalkSpells
import Derived.WalkLawsBesides
import Derived.Lib.Hide
import Derived.RegionTactic
import Derived.BigRegion
import Derived.Deep.QuietTactic
import Derived.BigQuiet
import Derived.IntWalk
import Derived.Outline
import Derived.Deep.RegionHeld
import Derived.Deep.RegionHeld3
import Derived.Deep.RegionWith
import Derived.Deep.Draws
import Derived.Laws.Rows
import Derived.Deep.OwnRows
import Derived.Laws.MakeOwn
namespace Go.Proofs.YtjakkmjipglkiaaDoor.Js
open Go.RowKit
open Go.ChangeShapes Go.WideShapes Go.ChangeAt Go.Deep
/-- v is a slice of the texts ns -/
def TxtsIn (S : Nat → Prop) (w : World) (v : Value) (ns : List (List UInt8)) : Prop :=
  ∃ (a : Option Addr) (cap : Nat) (b off : Nat), v = .slice a ns.length cap ∧ ns.length ≤ cap ∧ cap ≤ 9223372036854775807 ∧ (∀ i, i < ns.length → (ns.getD i []).length ≤ 9223372036854775807) ∧
    (0 < ns.length → a = some ⟨b, off, none⟩ ∧ S b) ∧ ∀ i, i < ns.length → w.cell? ⟨b, off + i, none⟩ = some (.string ⟨(ns.getD i []).toArray⟩)
inductive JIn (S : Nat → Prop) (w : World) : J → Value → Value → Prop
  | mk {k n : Int} {t : List UInt8} {ns : List (List UInt8)} {xs : List J} {nv : Value} (a : Option Addr) (cap b off : Nat) (vn vi : Nat → Value)
      (hk : -9223372036854775808 ≤ k ∧ k ≤ 9223372036854775807) (hn : -9223372036854775808 ≤ n ∧ n ≤ 9223372036854775807) (ht : t.length ≤ 9223372036854775807)
      (names : TxtsIn S w nv ns) (hcap : xs.length ≤ cap) (hm : cap ≤ 9223372036854775807) (ha : 0 < xs.length → a = some ⟨b, off, none⟩ ∧ S b)
      (c0 : ∀ i, i < xs.length → w.cell? ⟨b, off + i * 5, none⟩ = some (.int .i64 (xs.getD i default).kind))
      (c1 : ∀ i, i < xs.length → w.cell? ⟨b, off + i * 5 + 1, none⟩ = some (.int .i64 (xs.getD i default).num))
      (c2 : ∀ i, i < xs.length → w.cell? ⟨b, off + i * 5 + 2, none⟩ = some (.string ⟨(xs.getD i default).text.toArray⟩))
      (c3 : ∀ i, i < xs.length → w.cell? ⟨b, off + i * 5 + 3, none⟩ = some (vn i))
      (c4 : ∀ i, i < xs.length → w.cell? ⟨b, off + i * 5 + 4, none⟩ = some (vi i))
      (deep : ∀ i, i < xs.length → JIn S w (xs.getD i default) (vn i) (vi i)) : JIn S w (.mk k n t ns xs) nv (.slice a xs.length cap)
/-- the value of a struct with these fields -/
abbrev jV (j : J) (nv iv : Value) : Value := .agg #[.int .i64 j.kind, .int .i64 j.num, .string ⟨j.text.toArray⟩, nv, iv]
theorem TxtsIn.same {S S' : Nat → Prop} {w w' : World} {v : Value} {ns : List (List UInt8)} (h : TxtsIn S w v ns) (hs : ∀ b, S b → S' b ∧ w'.heap[b]? = w.heap[b]?) : TxtsIn S' w' v ns := by
  obtain ⟨a, cap, b, off, e, h1, h2, h3, h4, h5⟩ := h
  refine ⟨a, cap, b, off, e, h1, h2, h3, fun hp => ⟨(h4 hp).1, (hs b (h4 hp).2).1⟩, fun i hi => ?_⟩
  rw [World.cell?_of_block (w := w) (a := ⟨b, off + i, none⟩) (hs b (h4 (by omega)).2).2]
  exact h5 i hi
theorem JIn.same {S S' : Nat → Prop} {w w' : World} {j : J} {nv iv : Value} (h : JIn S w j nv iv) (hs : ∀ b, S b → S' b ∧ w'.heap[b]? = w.heap[b]?) : JIn S' w' j nv iv := by
  induction h with
  | mk a cap b off vn vi hk hn ht names hcap hm ha c0 c1 c2 c3 c4 deep ih =>
    have hc : ∀ i o, i < _ → w'.cell? ⟨b, o, none⟩ = w.cell? ⟨b, o, none⟩ := fun i o hi => World.cell?_of_block (w := w) (a := ⟨b, o, none⟩) (hs b (ha (Nat.lt_of_le_of_lt (Nat.zero_le i) hi)).2).2
    exact .mk a cap b off vn vi hk hn ht (names.same hs) hcap hm (fun hp => ⟨(ha hp).1, (hs b (ha hp).2).1⟩) (fun i hi => (hc i _ hi).trans (c0 i hi)) (fun i hi => (hc i _ hi).trans (c1 i hi)) (fun i hi => (hc i _ hi).trans (c2 i hi))
      (fun i hi => (hc i _ hi).trans (c3 i hi)) (fun i hi => (hc i _ hi).trans (c4 i hi)) ih
theorem TxtsIn.blw {B : Nat} {w w' : World} {v : Value} {ns : List (List UInt8)} (h : TxtsIn (· < B) w v ns) (hb : Below B w w') : TxtsIn (· < B) w' v ns := h.same fun b hlt => ⟨hlt, hb.block b hlt⟩
theorem JIn.blw {B : Nat} {w w' : World} {j : J} {nv iv : Value} (h : JIn (· < B) w j nv iv) (hb : Below B w w') : JIn (· < B) w' j nv iv := h.same fun b hlt => ⟨hlt, hb.block b hlt⟩
theorem JIn.mono {S S' : Nat → Prop} {w : World} {j : J} {nv iv : Value} (h : JIn S w j nv iv) (hs : ∀ b, S b → S' b) : JIn S' w j nv iv := h.same fun b hb => ⟨hs b hb, rfl⟩
theorem TxtsIn.mono {S S' : Nat → Prop} {w : World} {v : Value} {ns : List (List UInt8)} (h : TxtsIn S w v ns) (hs : ∀ b, S b → S' b) : TxtsIn S' w v ns := h.same fun b hb => ⟨hs b hb, rfl⟩
/-- v is a slice of the values xs -/
def LIn (S : Nat → Prop) (w : World) (v : Value) (xs : List J) : Prop :=
  ∃ (a : Option Addr) (cap b off : Nat) (vn vi : Nat → Value), v = .slice a xs.length cap ∧ xs.length ≤ cap ∧ cap ≤ 9223372036854775807 ∧ (0 < xs.length → a = some ⟨b, off, none⟩ ∧ S b) ∧
    (∀ i, i < xs.length → w.cell? ⟨b, off + i * 5, none⟩ = some (.int .i64 (xs.getD i default).kind) ∧ w.cell? ⟨b, off + i * 5 + 1, none⟩ = some (.int .i64 (xs.getD i default).num) ∧
      w.cell? ⟨b, off + i * 5 + 2, none⟩ = some (.string ⟨(xs.getD i default).text.toArray⟩) ∧ w.cell? ⟨b, off + i * 5 + 3, none⟩ = some (vn i) ∧ w.cell? ⟨b, off + i * 5 + 4, none⟩ = some (vi i)) ∧
    ∀ i, i < xs.length → JIn S w (xs.getD i default) (vn i) (vi i)
theorem LIn.json {S : Nat → Prop} {w : World} {k n : Int} {t : List UInt8} {ns : List (List UInt8)} {xs : List J} {nv iv : Value} (h : LIn S w iv xs) (hn : TxtsIn S w nv ns) (b1 : -9223372036854775808 ≤ k ∧ k ≤ 9223372036854775807) (b2 : -9223372036854775808 ≤ n ∧ n ≤ 9223372036854775807) (b3 : t.length ≤ 9223372036854775807) : JIn S w (.mk k n t ns xs) nv iv := by
  obtain ⟨a, cap, b, off, vn, vi, rfl, h1, h2, h3, h4, h5⟩ := h
  exact .mk a cap b off vn vi b1 b2 b3 hn h1 h2 h3 (fun i hi => (h4 i hi).1) (fun i hi => (h4 i hi).2.1) (fun i hi => (h4 i hi).2.2.1) (fun i hi => (h4 i hi).2.2.2.1) (fun i hi => (h4 i hi).2.2.2.2) h5
theorem JIn.inv {S : Nat → Prop} {w : World} {k n : Int} {t : List UInt8} {ns : List (List UInt8)} {xs : List J} {nv iv : Value} (h : JIn S w (.mk k n t ns xs) nv iv) :
    LIn S w iv xs ∧ TxtsIn S w nv ns ∧ (-9223372036854775808 ≤ k ∧ k ≤ 9223372036854775807) ∧ (-9223372036854775808 ≤ n ∧ n ≤ 9223372036854775807) ∧ t.length ≤ 9223372036854775807 := by
  cases h with
  | mk a cap b off vn vi hk hn ht names hcap hm ha c0 c1 c2 c3 c4 deep =>
    exact ⟨⟨a, cap, b, off, vn, vi, rfl, hcap, hm, ha, fun i hi => ⟨c0 i hi, c1 i hi, c2 i hi, c3 i hi, c4 i hi⟩, deep⟩, names, hk, hn, ht⟩
theorem LIn.same {S S' : Nat → Prop} {w w' : World} {v : Value} {xs : List J} (h : LIn S w v xs) (hs : ∀ b, S b → S' b ∧ w'.heap[b]? = w.heap[b]?) : LIn S' w' v xs := by
  obtain ⟨a, cap, b, off, vn, vi, e, h1, h2, h3, h4, h5⟩ := h
  have hc : ∀ i o, i < xs.length → w'.cell? ⟨b, o, none⟩ = w.cell? ⟨b, o, none⟩ := fun i o hi => World.cell?_of_block (w := w) (a := ⟨b, o, none⟩) (hs b (h3 (Nat.lt_of_le_of_lt (Nat.zero_le i) hi)).2).2
  exact ⟨a, cap, b, off, vn, vi, e, h1, h2, fun hp => ⟨(h3 hp).1, (hs b (h3 hp).2).1⟩, fun i hi => ⟨(hc i _ hi).trans (h4 i hi).1, (hc i _ hi).trans (h4 i hi).2.1, (hc i _ hi).trans (h4 i hi).2.2.1, (hc i _ hi).trans (h4 i hi).2.2.2.1, (hc i _ hi).trans (h4 i hi).2.2.2.2⟩, fun i hi => (h5 i hi).same hs⟩
theorem LIn.blw {B : Nat} {w w' : World} {v : Value} {xs : List J} (h : LIn (· < B) w v xs) (hb : Below B w w') : LIn (· < B) w' v xs := h.same fun b hlt => ⟨hlt, hb.block b hlt⟩
end Go.Proofs.YtjakkmjipglkiaaDoor.Js
namespace Go.Proofs.YtjakkmjipglkiaaDoor.Js
open Go.RowKit
/-- what is left of L -/
def szR (L : Int) (s : Nat) : Int := if (s : Int) ≤ L then L - s else -1
theorem szR_out {L : Int} {s : Nat} (_ : L < (s : Int)) : szR L s = -1 := by unfold szR; rw [if_neg (by omega)]
theorem szR_in {L : Int} {s : Nat} (h : (s : Int) ≤ L) : szR L s = L - s := by unfold szR; rw [if_pos h]
theorem szR_add {L : Int} {s r : Nat} (_ : (s : Int) ≤ L) : szR L (s + r) = szR (L - s) r := by
  unfold szR
  by_cases h2 : ((s + r : Nat) : Int) ≤ L
  · rw [if_pos h2, if_pos (by omega)]; omega
  · rw [if_neg h2, if_neg (by omega)]
theorem szR_zero {L : Int} (_ : 0 ≤ L) : szR L 0 = L := by unfold szR; rw [if_pos (by omega)]; omega
theorem szR_neg (L : Int) (s : Nat) (_ : 0 ≤ L) : szR L s < 0 ↔ L < s := by unfold szR; split <;> omega
theorem ret_i {a b : Int} (h : a = b) : Ending.returned (.int .i64 a) = .returned (.int .i64 b) := by rw [h]
theorem names_at {B : Nat} {w0 W : World} {v : Value} {ns : List (List UInt8)} (h : TxtsIn (· < B) w0 v ns) (hb : Below B w0 W) : TxtsIn (· < B) W v ns := h.blw hb
end Go.Proofs.YtjakkmjipglkiaaDoor.Js
namespace Go.Proofs.YtjakkmjipglkiaaDoor.Js
open Go.RowKit
/-- a new slice of the texts ns -/
def NewTxts (W : World) (ns : List (List UInt8)) (e : Ending) (w' : World) : Prop := ∃ v, e = .returned v ∧ TxtsIn (fun b => W.heap.size ≤ b ∧ b < w'.heap.size) w' v ns ∧ Below W.heap.size W w'
theorem heap_set {w : World} {b : Nat} {C : Array Value} {T : TypeId} {fr : Nat × Nat} (hb : w.heap[b]? = some (.cells C T fr)) (o : Nat) (v : Value) : (w.setCell ⟨b, o, none⟩ v).heap[b]? = some (.cells (C.setIfInBounds o v) T fr) := by
  simp [World.setCell, Array.getElem?_modify, hb]
theorem Tryd.infoTxt : (Tryd.prog.info? 9).map (fun i => (i.zero, i.size, i.bytes)) = some (some (.string ByteArray.empty), 1, 16) := by kernel_rfl
def txtF (ns : List (List UInt8)) (k i : Nat) : Value := if i < k then .string ⟨(ns.getD i []).toArray⟩ else .string ByteArray.empty
theorem txtF_step (ns : List (List UInt8)) (k j : Nat) : (if j = k then Value.string ⟨(ns.getD k []).toArray⟩ else txtF ns k j) = txtF ns (k + 1) j := by
  unfold txtF
  by_cases e : j = k
  · subst e; rw [if_pos rfl, if_pos (by omega)]
  · rw [if_neg e]
    by_cases h : j < k
    · rw [if_pos h, if_pos (by omega)]
    · rw [if_neg h, if_neg (by omega)]
theorem newTxts_of {W w' : World} {ns : List (List UInt8)} {g : Nat} {f : Nat → Value} (hg : W.heap.size ≤ g) (hm : ns.length ≤ 9223372036854775807) (hl : ∀ i, i < ns.length → (ns.getD i []).length ≤ 9223372036854775807)
    (hr : w'.rowIs g 9 ns.length f) (hf : ∀ i, i < ns.length → f i = .string ⟨(ns.getD i []).toArray⟩) (hb : Below W.heap.size W w') : NewTxts W ns (.returned (.slice (some ⟨g, 0, none⟩) ns.length ns.length)) w' :=
  ⟨_, rfl, ⟨some ⟨g, 0, none⟩, ns.length, g, 0, rfl, Nat.le_refl _, hm, hl, fun _ => ⟨rfl, hg, hr.lt⟩, fun i hi => by rw [Nat.zero_add, hr.cell hi, hf i hi]⟩, hb⟩
theorem Tryd.infoJ : (Tryd.prog.info? 25).map (fun i => (i.zero, i.size, i.bytes)) = some (some (.agg #[.int .i64 0, .int .i64 0, .string ByteArray.empty, .slice none 0 0, .slice none 0 0]), 5, 80) := by kernel_rfl
theorem JIn.slices {S : Nat → Prop} {w : World} {j : J} {nv iv : Value} (h : JIn S w j nv iv) : (∃ a l c, nv = .slice a l c) ∧ ∃ a l c, iv = .slice a l c := by
  cases h with
  | mk a cap b off vn vi hk hn ht names hcap hm ha c0 c1 c2 c3 c4 deep =>
    obtain ⟨a', cap', _, _, rfl, _⟩ := names
    exact ⟨⟨_, _, _, rfl⟩, ⟨_, _, _, rfl⟩⟩
theorem TxtsIn.slice {S : Nat → Prop} {w : World} {v : Value} {ns : List (List UInt8)} (h : TxtsIn S w v ns) : ∃ a l c, v = .slice a l c := by
  obtain ⟨a', cap', _, _, rfl, _⟩ := h; exact ⟨_, _, _, rfl⟩
theorem LIn.slice {S : Nat → Prop} {w : World} {v : Value} {xs : List J} (h : LIn S w v xs) : ∃ a l c, v = .slice a l c := by
  obtain ⟨a', cap', _, _, _, _, rfl, _⟩ := h; exact ⟨_, _, _, rfl⟩
/-- a new value -/
def NewJ (W : World) (j : J) (e : Ending) (w' : World) : Prop := ∃ nv iv, e = .returned (jV j nv iv) ∧ JIn (fun b => W.heap.size ≤ b ∧ b < w'.heap.size) w' j nv iv ∧ Below W.heap.size W w'
def NewL (W : World) (xs : List J) (e : Ending) (w' : World) : Prop := ∃ v, e = .returned v ∧ LIn (fun b => W.heap.size ≤ b ∧ b < w'.heap.size) w' v xs ∧ Below W.heap.size W w'
/-- what has been copied after k rounds, into the block g -/
def ToRel (W : World) (xs : List J) (k : Nat) (wr : World) : Prop :=
  ∃ (F vn vi : Nat → Value), wr.rowIs W.heap.size 25 (xs.length * 5) F ∧
    (∀ i, i < k → F (i * 5) = .int .i64 (xs.getD i default).kind ∧ F (i * 5 + 1) = .int .i64 (xs.getD i default).num ∧ F (i * 5 + 2) = .string ⟨(xs.getD i default).text.toArray⟩ ∧ F (i * 5 + 3) = vn i ∧ F (i * 5 + 4) = vi i) ∧
    (∀ i, i < k → JIn (fun b => W.heap.size < b ∧ b < wr.heap.size) wr (xs.getD i default) (vn i) (vi i)) ∧ Below W.heap.size W wr
theorem run_makeJ (n : Nat) (hn : n ≤ 1048576) (w : World) : (Instr.makeSlice 23 (.int .i64 (n : Int)) (.int .i64 (n : Int))).run Tryd.prog w = .ok (.slice (some ⟨w.heap.size, 0, none⟩) n n) (w.alloc (.cells (madeCells #[.int .i64 0, .int .i64 0, .string ByteArray.empty, .slice none 0 0, .slice none 0 0] (n * 5)) 25)) := by
  obtain ⟨i0, hi, hz0, hz1, hz2⟩ := info_parts Tryd.infoJ
  have h := run_make (P := Tryd.prog) w 23 25 i0 _ Tryd.underlying23 hi hz0 .i64 .i64 n n (by omega) (by omega) (by rw [hz2]; omega) (by omega)
  rw [hz1] at h
  simpa [Value.cells] using h
theorem toRel_start (W : World) (xs : List J) : ToRel W xs 0 (W.alloc (.cells (madeCells #[.int .i64 0, .int .i64 0, .string ByteArray.empty, .slice none 0 0, .slice none 0 0] (xs.length * 5)) 25)) := by
  refine ⟨fun i => #[.int .i64 0, .int .i64 0, .string ByteArray.empty, .slice none 0 0, .slice none 0 0][i % 5]!, fun _ => undef, fun _ => undef, ?_, fun i hi => by omega, fun i hi => by omega, (Below.refl _ _).alloc (Nat.le_refl _) _⟩
  exact ⟨_, heap_alloc_new _ _, size_madeCells _ _, fun i hi => by simp [madeCells, hi]⟩
theorem toRel_end {W w' : World} {xs : List J} (h : ToRel W xs xs.length w') (hm : xs.length ≤ 1048576) : NewL W xs (.returned (.slice (some ⟨W.heap.size, 0, none⟩) xs.length xs.length)) w' := by
  obtain ⟨F, vn, vi, hr, hf, hj, hb⟩ := h
  refine ⟨_, rfl, ⟨some ⟨W.heap.size, 0, none⟩, xs.length, W.heap.size, 0, vn, vi, rfl, Nat.le_refl _, by omega, fun _ => ⟨rfl, Nat.le_refl _, hr.lt⟩, fun i hi => ?_, fun i hi => (hj i hi).mono fun b hb => ⟨by omega, hb.2⟩⟩, hb⟩
  obtain ⟨f0, f1, f2, f3, f4⟩ := hf i hi
  simp only [Nat.zero_add]
  exact ⟨by rw [hr.cell (by omega), f0], by rw [hr.cell (by omega), f1], by rw [hr.cell (by omega), f2], by rw [hr.cell (by omega), f3], by rw [hr.cell (by omega), f4]⟩
abbrev set5 (w : World) (g o : Nat) (a b c d e : Value) : World := ((((w.setCell ⟨g, o, none⟩ a).setCell ⟨g, o + 1, none⟩ b).setCell ⟨g, o + 2, none⟩ c).setCell ⟨g, o + 3, none⟩ d).setCell ⟨g, o + 4, none⟩ e
theorem set5_far (w : World) (g o b : Nat) (a c d e f : Value) (h : b ≠ g) : (set5 w g o a c d e f).heap[b]? = w.heap[b]? :=
  (heap_setCell_other _ ⟨g, o + 4, none⟩ b f h).trans ((heap_setCell_other _ ⟨g, o + 3, none⟩ b e h).trans ((heap_setCell_other _ ⟨g, o + 2, none⟩ b d h).trans ((heap_setCell_other _ ⟨g, o + 1, none⟩ b c h).trans (heap_setCell_other _ ⟨g, o, none⟩ b a h))))
theorem set5_size (w : World) (g o : Nat) (a c d e f : Value) : (set5 w g o a c d e f).heap.size = w.heap.size := by simp [set5]
theorem toRel_step {W wr w2 : World} {xs : List J} {k : Nat} {x : J} {nv iv : Value} {F wn wi : Nat → Value} (hx : xs.getD k default = x) (hr : w2.rowIs W.heap.size 25 (xs.length * 5) F)
    (hf : ∀ i, i < k → F (i * 5) = .int .i64 (xs.getD i default).kind ∧ F (i * 5 + 1) = .int .i64 (xs.getD i default).num ∧ F (i * 5 + 2) = .string ⟨(xs.getD i default).text.toArray⟩ ∧ F (i * 5 + 3) = wn i ∧ F (i * 5 + 4) = wi i)
    (hj : ∀ i, i < k → JIn (fun b => W.heap.size < b ∧ b < wr.heap.size) wr (xs.getD i default) (wn i) (wi i)) (hN : Below W.heap.size W wr) (hlt : W.heap.size < wr.heap.size)
    (hj2 : JIn (fun b => wr.heap.size ≤ b ∧ b < w2.heap.size) w2 x nv iv) (hb2 : Below wr.heap.size wr w2) :
    ToRel W xs (k + 1) (set5 w2 W.heap.size (k * 5) (.int .i64 x.kind) (.int .i64 x.num) (.string ⟨x.text.toArray⟩) nv iv) := by
  have hs := hb2.size
  refine ⟨fun j => if j = k * 5 + 4 then iv else if j = k * 5 + 3 then nv else if j = k * 5 + 2 then .string ⟨x.text.toArray⟩ else if j = k * 5 + 1 then .int .i64 x.num else if j = k * 5 then .int .i64 x.kind else F j,
    fun i => if i = k then nv else wn i, fun i => if i = k then iv else wi i, ((((hr.set _ _).set _ _).set _ _).set _ _).set _ _, fun i hi => ?_, fun i hi => ?_, ?_⟩
  · by_cases e : i = k
    · subst e
      rw [hx]
      refine ⟨?_, ?_, ?_, ?_, ?_⟩ <;> simp
    · obtain ⟨f0, f1, f2, f3, f4⟩ := hf i (by omega)
      refine ⟨?_, ?_, ?_, ?_, ?_⟩ <;> dsimp only
      · rw [if_neg (by omega), if_neg (by omega), if_neg (by omega), if_neg (by omega), if_neg (by omega), f0]
      · rw [if_neg (by omega), if_neg (by omega), if_neg (by omega), if_neg (by omega), if_neg (by omega), f1]
      · rw [if_neg (by omega), if_neg (by omega), if_neg (by omega), if_neg (by omega), if_neg (by omega), f2]
      · rw [if_neg (by omega), if_neg (by omega), if_neg (by omega), if_neg (by omega), if_neg (by omega), f3, if_neg e]
      · rw [if_neg (by omega), if_neg (by omega), if_neg (by omega), if_neg (by omega), if_neg (by omega), f4, if_neg e]
  · by_cases e : i = k
    · subst e
      rw [hx]
      simp only [if_true]
      exact hj2.same fun b hb => ⟨⟨by omega, by rw [set5_size]; exact hb.2⟩, set5_far _ _ _ _ _ _ _ _ _ (by omega)⟩
    · simp only [if_neg e]
      exact (hj i (by omega)).same fun b hb => ⟨⟨hb.1, by rw [set5_size]; omega⟩, by rw [set5_far _ _ _ _ _ _ _ _ _ (by omega)]; exact hb2.block b hb.2⟩
  · have hb3 : Below W.heap.size W w2 := hN.trans (hb2.mono (by omega))
    exact ((((hb3.setCell (by simp) _).setCell (by simp) _).setCell (by simp) _).setCell (by simp) _).setCell (by simp) _
theorem newJ_of {W w1 w2 : World} {k n : Int} {t : List UInt8} {ns : List (List UInt8)} {xs : List J} {nv iv : Value} (h1 : TxtsIn (fun b => W.heap.size ≤ b ∧ b < w1.heap.size) w1 nv ns) (h2 : LIn (fun b => w1.heap.size ≤ b ∧ b < w2.heap.size) w2 iv xs)
    (b1 : -9223372036854775808 ≤ k ∧ k ≤ 9223372036854775807) (b2 : -9223372036854775808 ≤ n ∧ n ≤ 9223372036854775807) (b3 : t.length ≤ 9223372036854775807) (hb1 : Below W.heap.size W w1) (hb2 : Below w1.heap.size w1 w2) :
    JIn (fun b => W.heap.size ≤ b ∧ b < w2.heap.size) w2 (.mk k n t ns xs) nv iv :=
  LIn.json (h2.same fun _ hb => ⟨⟨Nat.le_trans hb1.size hb.1, hb.2⟩, rfl⟩) (h1.same fun b hb => ⟨⟨hb.1, Nat.lt_of_lt_of_le hb.2 hb2.size⟩, hb2.block b hb.2⟩) b1 b2 b3
theorem szL_len : ∀ xs : List J, ∀ x ∈ xs, szJ x ≤ szL xs
  | [], _, h => by cases h
  | y :: ys, x, h => by
    simp only [szL]
    rcases List.mem_cons.1 h with rfl | h
    · omega
    · have := szL_len ys x h; omega
theorem five_cells {w : World} {g : Nat} {a b c d e : Value} {T : TypeId} (h : w.heap[g]? = some (.cells #[a, b, c, d, e] T (0, 0))) :
    w.cell? ⟨g, 0, none⟩ = some a ∧ w.cell? ⟨g, 1, none⟩ = some b ∧ w.cell? ⟨g, 2, none⟩ = some c ∧ w.cell? ⟨g, 3, none⟩ = some d ∧ w.cell? ⟨g, 4, none⟩ = some e ∧ ∀ o, w.frozen? ⟨g, o, none⟩ = false :=
  ⟨cell_of_row w g 0 _ _ _ h, cell_of_row w g 1 _ _ _ h, cell_of_row w g 2 _ _ _ h, cell_of_row w g 3 _ _ _ h, cell_of_row w g 4 _ _ _ h, fun o => frozen_of_row w g o _ _ h⟩
theorem alloc3_0 (W : World) (a b c : Obj) : (((W.alloc a).alloc b).alloc c).heap[W.heap.size]? = some a := by
  rw [heap_alloc_old _ _ (by simp; omega), heap_alloc_old _ _ (by simp), heap_alloc_new]
theorem alloc3_1 (W : World) (a b c : Obj) : (((W.alloc a).alloc b).alloc c).heap[W.heap.size + 1]? = some b := by
  rw [heap_alloc_old _ _ (by simp)]; exact heap_alloc2_new W a b
theorem alloc3_2 (W : World) (a b c : Obj) : (((W.alloc a).alloc b).alloc c).heap[W.heap.size + 1 + 1]? = some c := by
  have := heap_alloc2_new (W.alloc a) b c
  simpa using this
theorem ret_J {fn : Func} {a B : Nat} {tmps : Array Value} {X : World} {c0 c1 c2 c3 c4 : Value} {T : TypeId} (hres : fn.results = #[.cell a 25]) (ha : tmps[a]?.getD undef = .pointer (some ⟨B, 0, none⟩)) (h : X.heap[B]? = some (.cells #[c0, c1, c2, c3, c4] T (0, 0))) :
    (results fn tmps).run Tryd.prog X = .ok (.agg #[c0, c1, c2, c3, c4]) X := by
  obtain ⟨k0, k1, k2, k3, k4, _⟩ := five_cells h
  simp [results, hres, ha, go_sem, k0, k1, k2, k3, k4]
end Go.Proofs.YtjakkmjipglkiaaDoor.Js
