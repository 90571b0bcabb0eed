
/-
  A JSON value in memory: its five cells, the row of its names, the row of its items, and so on down. S: the blocks that it may lie in.
-/
import Derived.Test.YtniflfgnelfpbaaChecked
import Derived.Test.YtniflfgnelfpbaaJsPlain
import Derived.WalkKit
import Derived.Carry
import Derived.ProofKit
import Derived.OpenShut
import Derived.ChangeSlices
import Derived.Deep.Slices
import Derived.Lib.SmallJoins
namespace Go.Proofs.Ytniflfgnelfpbaa.Js
open Go.RowKit
open Go.ChangeShapes Go.WideShapes Go.ChangeAt Go.Deep
/-- v is a slice of the texts ns -/
def TxtsIn (S : Nat → Prop) (w : World) (v : Value) (ns : List (List UInt8)) : Prop :=
  ∃ (a : Option Addr) (cap : Nat) (b off : Nat), v = .slice a ns.length cap ∧ ns.length ≤ cap ∧ cap ≤ 9223372036854775807 ∧ (∀ i, i < ns.length → (ns.getD i []).length ≤ 9223372036854775807) ∧
    (0 < ns.length → a = some ⟨b, off, none⟩ ∧ S b) ∧ ∀ i, i < ns.length → w.cell? ⟨b, off + i, none⟩ = some (.string ⟨(ns.getD i []).toArray⟩)
inductive JIn (S : Nat → Prop) (w : World) : J → Value → Value → Prop
  | mk {k n : Int} {t : List UInt8} {ns : List (List UInt8)} {xs : List J} {nv : Value} (a : Option Addr) (cap b off : Nat) (vn vi : Nat → Value)
      (hk : -9223372036854775808 ≤ k ∧ k ≤ 9223372036854775807) (hn : -9223372036854775808 ≤ n ∧ n ≤ 9223372036854775807) (ht : t.length ≤ 9223372036854775807)
      (names : TxtsIn S w nv ns) (hcap : xs.length ≤ cap) (hm : cap ≤ 9223372036854775807) (ha : 0 < xs.length → a = some ⟨b, off, none⟩ ∧ S b)
      (c0 : ∀ i, i < xs.length → w.cell? ⟨b, off + i * 5, none⟩ = some (.int .i64 (xs.getD i default).kind))
      (c1 : ∀ i, i < xs.length → w.cell? ⟨b, off + i * 5 + 1, none⟩ = some (.int .i64 (xs.getD i default).num))
      (c2 : ∀ i, i < xs.length → w.cell? ⟨b, off + i * 5 + 2, none⟩ = some (.string ⟨(xs.getD i default).text.toArray⟩))
      (c3 : ∀ i, i < xs.length → w.cell? ⟨b, off + i * 5 + 3, none⟩ = some (vn i))
      (c4 : ∀ i, i < xs.length → w.cell? ⟨b, off + i * 5 + 4, none⟩ = some (vi i))
      (deep : ∀ i, i < xs.length → JIn S w (xs.getD i default) (vn i) (vi i)) : JIn S w (.mk k n t ns xs) nv (.slice a xs.length cap)
/-- the value of a struct with these fields -/
abbrev jV (j : J) (nv iv : Value) : Value := .agg #[.int .i64 j.kind, .int .i64 j.num, .string ⟨j.text.toArray⟩, nv, iv]
theorem TxtsIn.same {S S' : Nat → Prop} {w w' : World} {v : Value} {ns : List (List UInt8)} (h : TxtsIn S w v ns) (hs : ∀ b, S b → S' b ∧ w'.heap[b]? = w.heap[b]?) : TxtsIn S' w' v ns := by
  obtain ⟨a, cap, b, off, e, h1, h2, h3, h4, h5⟩ := h
  refine ⟨a, cap, b, off, e, h1, h2, h3, fun hp => ⟨(h4 hp).1, (hs b (h4 hp).2).1⟩, fun i hi => ?_⟩
  rw [World.cell?_of_block (w := w) (a := ⟨b, off + i, none⟩) (hs b (h4 (by omega)).2).2]
  exact h5 i hi
theorem JIn.same {S S' : Nat → Prop} {w w' : World} {j : J} {nv iv : Value} (h : JIn S w j nv iv) (hs : ∀ b, S b → S' b ∧ w'.heap[b]? = w.heap[b]?) : JIn S' w' j nv iv := by
  induction h with
  | mk a cap b off vn vi hk hn ht names hcap hm ha c0 c1 c2 c3 c4 deep ih =>
    have hc : ∀ i o, i < _ → w'.cell? ⟨b, o, none⟩ = w.cell? ⟨b, o, none⟩ := fun i o hi => World.cell?_of_block (w := w) (a := ⟨b, o, none⟩) (hs b (ha (Nat.lt_of_le_of_lt (Nat.zero_le i) hi)).2).2
    exact .mk a cap b off vn vi hk hn ht (names.same hs) hcap hm (fun hp => ⟨(ha hp).1, (hs b (ha hp).2).1⟩) (fun i hi => (hc i _ hi).trans (c0 i hi)) (fun i hi => (hc i _ hi).trans (c1 i hi)) (fun i hi => (hc i _ hi).trans (c2 i hi))
      (fun i hi => (hc i _ hi).trans (c3 i hi)) (fun i hi => (hc i _ hi).trans (c4 i hi)) ih
theorem TxtsIn.blw {B : Nat} {w w' : World} {v : Value} {ns : List (List UInt8)} (h : TxtsIn (· < B) w v ns) (hb : Below B w w') : TxtsIn (· < B) w' v ns := h.same fun b hlt => ⟨hlt, hb.block b hlt⟩
theorem JIn.blw {B : Nat} {w w' : World} {j : J} {nv iv : Value} (h : JIn (· < B) w j nv iv) (hb : Below B w w') : JIn (· < B) w' j nv iv := h.same fun b hlt => ⟨hlt, hb.block b hlt⟩
theorem JIn.mono {S S' : Nat → Prop} {w : World} {j : J} {nv iv : Value} (h : JIn S w j nv iv) (hs : ∀ b, S b → S' b) : JIn S' w j nv iv := h.same fun b hb => ⟨hs b hb, rfl⟩
theorem TxtsIn.mono {S S' : Nat → Prop} {w : World} {v : Value} {ns : List (List UInt8)} (h : TxtsIn S w v ns) (hs : ∀ b, S b → S' b) : TxtsIn S' w v ns := h.same fun b hb => ⟨hs b hb, rfl⟩
/-- v is a slice of the values xs -/
def LIn (S : Nat → Prop) (w : World) (v : Value) (xs : List J) : Prop :=
  ∃ (a : Option Addr) (cap b off : Nat) (vn vi : Nat → Value), v = .slice a xs.length cap ∧ xs.length ≤ cap ∧ cap ≤ 9223372036854775807 ∧ (0 < xs.length → a = some ⟨b, off, none⟩ ∧ S b) ∧
    (∀ i, i < xs.length → w.cell? ⟨b, off + i * 5, none⟩ = some (.int .i64 (xs.getD i default).kind) ∧ w.cell? ⟨b, off + i * 5 + 1, none⟩ = some (.int .i64 (xs.getD i default).num) ∧
      w.cell? ⟨b, off + i * 5 + 2, none⟩ = some (.string ⟨(xs.getD i default).text.toArray⟩) ∧ w.cell? ⟨b, off + i * 5 + 3, none⟩ = some (vn i) ∧ w.cell? ⟨b, off + i * 5 + 4, none⟩ = some (vi i)) ∧
    ∀ i, i < xs.length → JIn S w (xs.getD i default) (vn i) (vi i)
theorem LIn.json {S : Nat → Prop} {w : World} {k n : Int} {t : List UInt8} {ns : List (List UInt8)} {xs : List J} {nv iv : Value} (h : LIn S w iv xs) (hn : TxtsIn S w nv ns) (b1 : -9223372036854775808 ≤ k ∧ k ≤ 9223372036854775807) (b2 : -9223372036854775808 ≤ n ∧ n ≤ 9223372036854775807) (b3 : t.length ≤ 9223372036854775807) : JIn S w (.mk k n t ns xs) nv iv := by
  obtain ⟨a, cap, b, off, vn, vi, rfl, h1, h2, h3, h4, h5⟩ := h
  exact .mk a cap b off vn vi b1 b2 b3 hn h1 h2 h3 (fun i hi => (h4 i hi).1) (fun i hi => (h4 i hi).2.1) (fun i hi => (h4 i hi).2.2.1) (fun i hi => (h4 i hi).2.2.2.1) (fun i hi => (h4 i hi).2.2.2.2) h5
theorem JIn.inv {S : Nat → Prop} {w : World} {k n : Int} {t : List UInt8} {ns : List (List UInt8)} {xs : List J} {nv iv : Value} (h : JIn S w (.mk k n t ns xs) nv iv) :
    LIn S w iv xs ∧ TxtsIn S w nv ns ∧ (-9223372036854775808 ≤ k ∧ k ≤ 9223372036854775807) ∧ (-9223372036854775808 ≤ n ∧ n ≤ 9223372036854775807) ∧ t.length ≤ 9223372036854775807 := by
  cases h with
  | mk a cap b off vn vi hk hn ht names hcap hm ha c0 c1 c2 c3 c4 deep =>
    exact ⟨⟨a, cap, b, off, vn, vi, rfl, hcap, hm, ha, fun i hi => ⟨c0 i hi, c1 i hi, c2 i hi, c3 i hi, c4 i hi⟩, deep⟩, names, hk, hn, ht⟩
theorem LIn.same {S S' : Nat → Prop} {w w' : World} {v : Value} {xs : List J} (h : LIn S w v xs) (hs : ∀ b, S b → S' b ∧ w'.heap[b]? = w.heap[b]?) : LIn S' w' v xs := by
  obtain ⟨a, cap, b, off, vn, vi, e, h1, h2, h3, h4, h5⟩ := h
  have hc : ∀ i o, i < xs.length → w'.cell? ⟨b, o, none⟩ = w.cell? ⟨b, o, none⟩ := fun i o hi => World.cell?_of_block (w := w) (a := ⟨b, o, none⟩) (hs b (h3 (Nat.lt_of_le_of_lt (Nat.zero_le i) hi)).2).2
  exact ⟨a, cap, b, off, vn, vi, e, h1, h2, fun hp => ⟨(h3 hp).1, (hs b (h3 hp).2).1⟩, fun i hi => ⟨(hc i _ hi).trans (h4 i hi).1, (hc i _ hi).trans (h4 i hi).2.1, (hc i _ hi).trans (h4 i hi).2.2.1, (hc i _ hi).trans (h4 i hi).2.2.2.1, (hc i _ hi).trans (h4 i hi).2.2.2.2⟩, fun i hi => (h5 i hi).same hs⟩
theorem LIn.blw {B : Nat} {w w' : World} {v : Value} {xs : List J} (h : LIn (· < B) w v xs) (hb : Below B w w') : LIn (· < B) w' v xs := h.same fun b hlt => ⟨hlt, hb.block b hlt⟩
/-! ### an argument of type laws.Json, opened -/
theorem list5 {α : Type} {l : List α} (h : l.length = 5) : ∃ a b c d e, l = [a, b, c, d, e] := by
  match l, h with
  | [a, b, c, d, e], _ => exact ⟨a, b, c, d, e, rfl⟩
theorem cellsJson : Try.prog.cellsOf 32 = 5 := by kernel_rfl
theorem cellsStr : Try.prog.cellsOf 9 = 1 := by kernel_rfl
theorem cellsInt : Try.prog.cellsOf 3 = 1 := by kernel_rfl
theorem cellsTxts : Try.prog.cellsOf 29 = 1 := by kernel_rfl
theorem cellsItems : Try.prog.cellsOf 30 = 1 := by kernel_rfl
section
variable {H : Type} {enc : TypeId × Value → H} {w : World} {spare : Nat → Bool} {held : Bool}
theorem spot_of {a : Addr} {v : Value} (h : w.cell? (a.add 0) = some v) : a = ⟨a.block, a.off, none⟩ ∧ a.block < w.heap.size := by
  obtain ⟨b, off, spot⟩ := a
  have hs := World.cell?_spot h
  have : spot = none := by simpa [Addr.add] using hs
  subst this
  exact ⟨rfl, by have := World.block_lt_of_cell? _ _ h; simpa [add_plain] using this⟩
theorem open_txts {fuel : Nat} {v : Value} {x : DataW H × List MemPlace} (h : DataW.trod enc Try.prog w 0 spare held fuel 29 [v] = some x) : ∃ ns, TxtsIn (· < w.heap.size) w v ns := by
  rcases open_strs Try.underlying29 Try.underlying9 cellsStr h with ⟨e, _⟩ | ⟨a, len, cap, m, Sx, e, _, hl, hm, hmm, _, hc⟩
  · simp at e
    exact ⟨[], none, 0, 0, 0, e, by simp, by simp, by simp, by simp, by simp⟩
  · simp at e
    have hlm : len ≤ m := by rw [hmm]; split <;> omega
    have hlen : ((List.range len).map fun i => (Sx i).data.toList).length = len := by simp
    have hget : ∀ i, i < len → ((List.range len).map fun i => (Sx i).data.toList).getD i [] = (Sx i).data.toList := fun i hi => by simp [hi]
    refine ⟨(List.range len).map fun i => (Sx i).data.toList, some a, cap, a.block, a.off, by rw [hlen]; exact e, by rw [hlen]; exact hl, hm, ?_, ?_, ?_⟩
    · rw [hlen]
      intro i hi
      rw [hget i hi, Array.length_toList]
      exact (hc i (by omega)).2
    · rw [hlen]
      intro hp
      obtain ⟨e1, e2⟩ := spot_of (hc 0 (by omega)).1
      exact ⟨congrArg some e1, e2⟩
    · rw [hlen]
      intro i hi
      obtain ⟨e1, e2⟩ := spot_of (hc 0 (by omega)).1
      have := (hc i (by omega)).1
      rw [e1, add_plain] at this
      rw [this, hget i hi]
set_option maxRecDepth 100000 in
theorem open_jsonC : ∀ (fuel : Nat) {cs : List Value} {x : DataW H × List MemPlace}, DataW.trod enc Try.prog w 0 spare held fuel 32 cs = some x →
    ∃ j nv iv, cs = [.int .i64 (J.kind j), .int .i64 (J.num j), .string ⟨(J.text j).toArray⟩, nv, iv] ∧ JIn (· < w.heap.size) w j nv iv := by
  intro fuel
  induction fuel using Nat.strongRecOn with
  | ind fuel ih =>
    intro cs x h
    obtain ⟨xs, n, rfl, _, hcl, hlen, hfs⟩ := DataW.trod_struct Try.underlying32 h
    rw [cellsJson] at hcl
    obtain ⟨v0, v1, v2, v3, v4, rfl⟩ := list5 hcl
    have hxl : xs.length = 5 := hlen
    obtain ⟨x0, x1, x2, x3, x4, rfl⟩ := list5 hxl
    have g0 := hfs 0 _ rfl
    have g1 := hfs 1 _ rfl
    have g2 := hfs 2 _ rfl
    have g3 := hfs 3 _ rfl
    have g4 := hfs 4 _ rfl
    simp [cellsStr, cellsInt, cellsTxts, cellsItems] at g0 g1 g2 g3 g4
    obtain ⟨k, a0, -, b0⟩ := DataW.trod_int Try.underlying3 g0
    obtain ⟨num, a1, -, b1⟩ := DataW.trod_int Try.underlying3 g1
    obtain ⟨t, a2, -, b2⟩ := DataW.trod_string Try.underlying9 g2
    obtain ⟨ns, hns⟩ := open_txts g3
    simp only [List.cons.injEq, and_true] at a0 a1 a2
    subst a0 a1 a2
    have bk := bounds_i64 b0
    have bn := bounds_i64 b1
    have bt : t.data.toList.length ≤ 9223372036854775807 := by rw [Array.length_toList]; exact b2
    rcases DataW.trod_slice Try.underlying30 g4 with ⟨e, _⟩ | ⟨a, len, cap, elems, rest, n', rfl, e, _, _, hl, hm, hlen', hel, _, _⟩
    · simp at e
      subst e
      exact ⟨.mk k num t.data.toList ns [], v3, .slice none 0 0, rfl, .mk none 0 0 0 (fun _ => undef) (fun _ => undef) bk bn bt hns (by simp) (by simp) (by simp) (by simp) (by simp) (by simp) (by simp) (by simp) (by simp)⟩
    · simp at e
      subst e
      have each : ∀ i, i < len → ∃ y : J × Value × Value, w.cell? (a.add (i * 5)) = some (.int .i64 y.1.kind) ∧ w.cell? (a.add (i * 5 + 1)) = some (.int .i64 y.1.num) ∧ w.cell? (a.add (i * 5 + 2)) = some (.string ⟨y.1.text.toArray⟩) ∧ w.cell? (a.add (i * 5 + 3)) = some y.2.1 ∧ w.cell? (a.add (i * 5 + 4)) = some y.2.2 ∧ JIn (· < w.heap.size) w y.1 y.2.1 y.2.2 := fun i hi => by
        have hi' := hel i hi
        rw [List.getElem?_eq_getElem (by omega), cellsJson] at hi'
        obtain ⟨cs', h1, h2⟩ := Option.bind_eq_some_iff.1 hi'
        obtain ⟨j, nv, iv, rfl, hj⟩ := ih n' (by omega) h2
        obtain ⟨_, _, hc⟩ := World.cells?_some h1
        simp only [Addr.add_add] at hc
        exact ⟨(j, nv, iv), by simpa using hc 0 (by omega), by simpa using hc 1 (by omega), by simpa using hc 2 (by omega), by simpa using hc 3 (by omega), by simpa using hc 4 (by omega), hj⟩
      haveI : Inhabited (J × Value × Value) := ⟨(default, undef, undef)⟩
      obtain ⟨Y, hY⟩ := choose_lt each
      have hlen2 : ((List.range len).map fun i => (Y i).1).length = len := by simp
      have hget : ∀ i, i < len → ((List.range len).map fun i => (Y i).1).getD i default = (Y i).1 := fun i hi => by simp [hi]
      have hsl : Value.slice (some a) len cap = .slice (some a) ((List.range len).map fun i => (Y i).1).length cap := by rw [hlen2]
      have hadr : ∀ i o, i < len → a.add (i * 5 + o) = ⟨a.block, a.off + i * 5 + o, none⟩ := fun i o hi => by
        obtain ⟨e1, _⟩ := spot_of (hY 0 (by omega)).1
        rw [e1, add_plain]
        simp only [Addr.mk.injEq, true_and, and_true]
        omega
      refine ⟨.mk k num t.data.toList ns ((List.range len).map fun i => (Y i).1), v3, .slice (some a) len cap, rfl, ?_⟩
      rw [hsl]
      refine .mk (some a) cap a.block a.off (fun i => (Y i).2.1) (fun i => (Y i).2.2) bk bn bt hns (by rw [hlen2]; exact hl) hm ?_ ?_ ?_ ?_ ?_ ?_ ?_
      · rw [hlen2]
        intro hp
        obtain ⟨e1, e2⟩ := spot_of (hY 0 hp).1
        exact ⟨congrArg some e1, e2⟩
      · rw [hlen2]; intro i hi; rw [hget i hi]; show w.cell? ⟨a.block, a.off + i * 5 + 0, none⟩ = _; rw [← hadr i 0 hi]; exact (hY i hi).1
      · rw [hlen2]; intro i hi; rw [hget i hi, ← hadr i 1 hi]; exact (hY i hi).2.1
      · rw [hlen2]; intro i hi; rw [hget i hi, ← hadr i 2 hi]; exact (hY i hi).2.2.1
      · rw [hlen2]; intro i hi; rw [← hadr i 3 hi]; exact (hY i hi).2.2.2.1
      · rw [hlen2]; intro i hi; rw [← hadr i 4 hi]; exact (hY i hi).2.2.2.2.1
      · rw [hlen2]; intro i hi; rw [hget i hi]; exact (hY i hi).2.2.2.2.2
set_option maxRecDepth 100000 in
theorem open_json {r : Reach} {b0 : Nat} {v : Value} {d : DataW H} {p : List MemPlace} (hv : Value.okWide Try.prog w r b0 32 v) (h : DataW.Trod enc Try.prog w 0 spare held 32 v d p) :
    ∃ j nv iv, v = jV j nv iv ∧ JIn (· < w.heap.size) w j nv iv := by
  obtain ⟨cs, rfl, _⟩ := okWide_struct Try.underlying32 hv
  obtain ⟨fuel, hf⟩ := h
  obtain ⟨j, nv, iv, e, hj⟩ := open_jsonC fuel hf
  refine ⟨j, nv, iv, ?_, hj⟩
  have : cs = #[.int .i64 j.kind, .int .i64 j.num, .string ⟨j.text.toArray⟩, nv, iv] := by rw [← Array.toArray_toList (xs := cs)]; exact congrArg List.toArray e
  rw [this]
end
end Go.Proofs.Ytniflfgnelfpbaa.Js
