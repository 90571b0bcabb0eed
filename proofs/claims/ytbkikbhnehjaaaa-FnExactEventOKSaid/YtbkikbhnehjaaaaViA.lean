
/-
  A violation: its nine fields as plain data, in memory and as an argument; its size and its copy in the laws.
-/
import Derived.Test.YtbkikbhnehjaaaaRn
import Derived.Test.YtbkikbhnehjaaaaUrlSpecA
import Derived.Carry
import Derived.ProofKit
import Derived.OpenShut
import Derived.Lib.SmallJoins
namespace Go.Proofs.Ytbkikbhnehjaaaa.Vi
open Go.ChangeShapes Go.WideShapes Go.ChangeAt Go.RowKit
theorem belI_alloc {w Y : World} {o : Obj} (h : Below w.heap.size w Y) : Below w.heap.size w (Y.alloc o) := h.alloc h.size o
theorem belI_step {w W w1 : World} (h : Below w.heap.size w W) (hb : Below W.heap.size W w1) : Below w.heap.size w w1 := h.trans (hb.mono h.size)
theorem belI_set {w Y : World} {p : Addr} {v : Value} (h : Below w.heap.size w Y) (hp : w.heap.size ≤ p.block) : Below w.heap.size w (Y.setCell p v) := h.setCell hp v
theorem belI_drewN {B : Nat} {a w : World} (h : Below B a w) (n : Nat) : Below B a (w.drewN n) := ⟨h.os, h.tape, h.output, h.size, h.block⟩
structure V where
  doc : List UInt8
  ref : List UInt8
  blk : List UInt8
  src : List UInt8
  dir : List UInt8
  smp : List UInt8
  line : Int
  col : Int
  red : Bool
abbrev vC (v : V) : Array Value := #[.string ⟨v.doc.toArray⟩, .string ⟨v.ref.toArray⟩, .string ⟨v.blk.toArray⟩, .string ⟨v.src.toArray⟩, .string ⟨v.dir.toArray⟩, .string ⟨v.smp.toArray⟩, .int .i64 v.line, .int .i64 v.col, .bool v.red]
abbrev vV (v : V) : Value := .agg #[.string ⟨v.doc.toArray⟩, .string ⟨v.ref.toArray⟩, .string ⟨v.blk.toArray⟩, .string ⟨v.src.toArray⟩, .string ⟨v.dir.toArray⟩, .string ⟨v.smp.toArray⟩, .int .i64 v.line, .int .i64 v.col, .bool v.red]
def sizeV (v : V) : Nat := v.doc.length + v.ref.length + v.blk.length + v.src.length + v.dir.length + v.smp.length
/-- what the four addresses may be -/
def fourB (v : V) : Bool := decide (v.doc.length ≤ 100) && (decide (v.ref.length ≤ 100) && (decide (v.blk.length ≤ 100) && decide (v.src.length ≤ 100)))
def vOK (v : V) : Bool := fourB v && (Rn.rnameB v.dir && (decide (v.smp.length ≤ 200) && (decide (0 ≤ v.line ∧ v.line ≤ 9999) && decide (0 ≤ v.col ∧ v.col ≤ 9999))))
/-- that the parts fit a machine -/
structure Fits (v : V) : Prop where
  m0 : v.doc.length ≤ 9223372036854775807
  m1 : v.ref.length ≤ 9223372036854775807
  m2 : v.blk.length ≤ 9223372036854775807
  m3 : v.src.length ≤ 9223372036854775807
  m4 : v.dir.length ≤ 9223372036854775807
  m5 : v.smp.length ≤ 9223372036854775807
  l0 : -9223372036854775808 ≤ v.line
  l1 : v.line ≤ 9223372036854775807
  c0 : -9223372036854775808 ≤ v.col
  c1 : v.col ≤ 9223372036854775807
/-- The block b holds the nine fields of v. -/
structure VAt (w : World) (b : Nat) (v : V) : Prop where
  k0 : w.cell? ⟨b, 0, none⟩ = some (.string ⟨v.doc.toArray⟩)
  k1 : w.cell? ⟨b, 1, none⟩ = some (.string ⟨v.ref.toArray⟩)
  k2 : w.cell? ⟨b, 2, none⟩ = some (.string ⟨v.blk.toArray⟩)
  k3 : w.cell? ⟨b, 3, none⟩ = some (.string ⟨v.src.toArray⟩)
  k4 : w.cell? ⟨b, 4, none⟩ = some (.string ⟨v.dir.toArray⟩)
  k5 : w.cell? ⟨b, 5, none⟩ = some (.string ⟨v.smp.toArray⟩)
  k6 : w.cell? ⟨b, 6, none⟩ = some (.int .i64 v.line)
  k7 : w.cell? ⟨b, 7, none⟩ = some (.int .i64 v.col)
  k8 : w.cell? ⟨b, 8, none⟩ = some (.bool v.red)
  kf : ∀ o, w.frozen? ⟨b, o, none⟩ = false
theorem VAt.same {w w1 : World} {b : Nat} {v : V} (h : VAt w b v) (hb : ∀ o, w1.cell? ⟨b, o, none⟩ = w.cell? ⟨b, o, none⟩) (hf : ∀ o, w1.frozen? ⟨b, o, none⟩ = w.frozen? ⟨b, o, none⟩) : VAt w1 b v :=
  ⟨(hb 0).trans h.k0, (hb 1).trans h.k1, (hb 2).trans h.k2, (hb 3).trans h.k3, (hb 4).trans h.k4, (hb 5).trans h.k5, (hb 6).trans h.k6, (hb 7).trans h.k7, (hb 8).trans h.k8, fun o => (hf o).trans (h.kf o)⟩
theorem VAt.below {W w1 : World} {b : Nat} {v : V} (h : VAt W b v) (hb : Below W.heap.size W w1) (hlt : b < W.heap.size) : VAt w1 b v :=
  h.same (fun _ => hb.cell (p := ⟨b, _, none⟩) hlt) (fun _ => hb.frozen (p := ⟨b, _, none⟩) hlt)
theorem VAt.newT (w : World) (v : V) (T : TypeId) : VAt (w.alloc (.cells (vC v) T)) w.heap.size v := by
  refine ⟨?_, ?_, ?_, ?_, ?_, ?_, ?_, ?_, ?_, fun o => World.frozen?_alloc_at _ _ _ _ rfl⟩ <;> (rw [World.cell?_alloc_at _ _ _ _ rfl]; rfl)
theorem VAt.alloc {w : World} {b : Nat} {v : V} (h : VAt w b v) (o : Obj) (hlt : b < w.heap.size) : VAt (w.alloc o) b v :=
  h.same (fun _ => World.cell?_alloc_past _ _ _ hlt) (fun _ => World.frozen?_alloc_past _ _ _ hlt)
theorem VAt.drewN {w : World} {b : Nat} {v : V} (h : VAt w b v) (n : Nat) : VAt (w.drewN n) b v := h.same (fun _ => rfl) (fun _ => rfl)
theorem VAt.drew {w : World} {b : Nat} {v : V} (h : VAt w b v) : VAt w.drew b v := h.same (fun _ => rfl) (fun _ => rfl)
/-! ### an argument -/
theorem list9 {α : Type} {l : List α} (h : l.length = 9) : ∃ a b c d e f g i j, l = [a, b, c, d, e, f, g, i, j] := by
  match l, h with
  | [a, b, c, d, e, f, g, i, j], _ => exact ⟨a, b, c, d, e, f, g, i, j, rfl⟩
theorem len_of {s : ByteArray} (h : s.size ≤ maxLen) : s.data.toList.length ≤ 9223372036854775807 := by
  rw [Array.length_toList]; exact h
theorem cellsVi : Try.prog.cellsOf 23 = 9 := by kernel_rfl
theorem cellsStr : Try.prog.cellsOf 9 = 1 := by kernel_rfl
theorem cellsInt : Try.prog.cellsOf 3 = 1 := by kernel_rfl
theorem cellsBool : Try.prog.cellsOf 4 = 1 := by kernel_rfl
section
variable {H : Type} {enc : TypeId × Value → H} {w : World} {base : Nat} {spare : Nat → Bool} {held : Bool}
set_option maxRecDepth 100000 in
theorem open_vi {r : Reach} {b0 : Nat} {v : Value} {d : DataW H} {p : List MemPlace} (hv : Value.okWide Try.prog w r b0 23 v) (h : DataW.Trod enc Try.prog w base spare held 23 v d p) :
    ∃ x : V, v = vV x ∧ Fits x := by
  obtain ⟨cs, rfl, hsz⟩ := okWide_struct Try.underlying23 hv
  obtain ⟨fuel, hf⟩ := h
  obtain ⟨xs, n, _, _, _, hlen, hfs⟩ := DataW.trod_struct Try.underlying23 hf
  rw [cellsVi] at hsz
  have hl : cs.toList.length = 9 := by simpa using hsz
  obtain ⟨c0, c1, c2, c3, c4, c5, c6, c7, c8, hcs⟩ := list9 hl
  have hxl : xs.length = 9 := hlen
  obtain ⟨x0, x1, x2, x3, x4, x5, x6, x7, x8, rfl⟩ := list9 hxl
  have e : cs = #[c0, c1, c2, c3, c4, c5, c6, c7, c8] := by rw [← Array.toArray_toList (xs := cs), hcs]
  subst e
  have g0 := hfs 0 _ rfl
  have g1 := hfs 1 _ rfl
  have g2 := hfs 2 _ rfl
  have g3 := hfs 3 _ rfl
  have g4 := hfs 4 _ rfl
  have g5 := hfs 5 _ rfl
  have g6 := hfs 6 _ rfl
  have g7 := hfs 7 _ rfl
  have g8 := hfs 8 _ rfl
  simp [Value.cells, cellsStr, cellsInt, cellsBool] at g0 g1 g2 g3 g4 g5 g6 g7 g8
  obtain ⟨s0, a0, -, b0'⟩ := DataW.trod_string Try.underlying9 g0
  obtain ⟨s1, a1, -, b1'⟩ := DataW.trod_string Try.underlying9 g1
  obtain ⟨s2, a2, -, b2'⟩ := DataW.trod_string Try.underlying9 g2
  obtain ⟨s3, a3, -, b3'⟩ := DataW.trod_string Try.underlying9 g3
  obtain ⟨s4, a4, -, b4'⟩ := DataW.trod_string Try.underlying9 g4
  obtain ⟨s5, a5, -, b5'⟩ := DataW.trod_string Try.underlying9 g5
  obtain ⟨n6, a6, -, b6'⟩ := DataW.trod_int Try.underlying3 g6
  obtain ⟨n7, a7, -, b7'⟩ := DataW.trod_int Try.underlying3 g7
  obtain ⟨t8, a8, -⟩ := DataW.trod_bool Try.underlying4 g8
  simp only [List.cons.injEq, and_true] at a0 a1 a2 a3 a4 a5 a6 a7 a8
  subst a0 a1 a2 a3 a4 a5 a6 a7 a8
  have bd6 := bounds_i64 b6'
  have bd7 := bounds_i64 b7'
  exact ⟨⟨s0.data.toList, s1.data.toList, s2.data.toList, s3.data.toList, s4.data.toList, s5.data.toList, n6, n7, t8⟩, rfl, len_of b0', len_of b1', len_of b2', len_of b3', len_of b4', len_of b5', bd6.1, bd6.2, bd7.1, bd7.2⟩
end
/-! ### the laws' size and copy -/
set_option maxRecDepth 100000 in
theorem szV_in (v : V) (L : Int) (w : World) (_ : 0 ≤ L) (h1 : L ≤ 1048576) (hl : (sizeV v : Int) ≤ L) :
    Calls Try.prog 8 #[vV v, .int .i64 L] w fun e w' => e = .returned (.int .i64 (L - (sizeV v : Int))) ∧ Below w.heap.size w w' := by
  obtain ⟨d, r, b, s, di, sm, l, c, re⟩ := v
  unfold sizeV at hl ⊢
  simp only at hl ⊢
  go_enter Try.func8, Try.ntmps8
  go_wp2
  go_ret
  exact ⟨Ul.ret_int (by omega), (by repeat (first | exact Below.refl _ _ | refine belI_alloc ?_ | refine Below.drew ?_ | refine belI_step ?_ (by assumption)))⟩
set_option maxRecDepth 100000 in
theorem szV_out (v : V) (L : Int) (w : World) (h0 : 0 ≤ L) (h1 : L ≤ 1048576) (hl : L < (sizeV v : Int)) (hf : Fits v) :
    Calls Try.prog 8 #[vV v, .int .i64 L] w fun e w' => e = .returned (.int .i64 (-1)) ∧ Below w.heap.size w w' := by
  obtain ⟨d, r, b, s, di, sm, l, c, re⟩ := v
  obtain ⟨m0, m1, m2, m3, m4, m5, _, _, _, _⟩ := hf
  unfold sizeV at hl
  simp only at hl m0 m1 m2 m3 m4 m5
  go_enter Try.func8, Try.ntmps8
  go_wp2
  all_goals
    go_ret
    exact ⟨rfl, (by repeat (first | exact Below.refl _ _ | refine belI_alloc ?_ | refine Below.drew ?_ | refine belI_step ?_ (by assumption)))⟩
set_option maxRecDepth 100000 in
theorem toV_any (v : V) (w : World) : Calls Try.prog 10 #[vV v] w fun e w' => e = .returned (vV v) ∧ Below w.heap.size w w' := by
  obtain ⟨d, r, b, s, di, sm, l, c, re⟩ := v
  go_enter Try.func10, Try.ntmps10
  go_wp2
  exact bodyPost_ret (v := .agg #[.string ⟨d.toArray⟩, .string ⟨r.toArray⟩, .string ⟨b.toArray⟩, .string ⟨s.toArray⟩, .string ⟨di.toArray⟩, .string ⟨sm.toArray⟩, .int .i64 l, .int .i64 c, .bool re]) (by simp [results, Try.results10, go_sem]) rfl ⟨rfl, (by repeat (first | exact Below.refl _ _ | refine belI_alloc ?_ | refine Below.drew ?_ | refine belI_step ?_ (by assumption)))⟩
end Go.Proofs.Ytbkikbhnehjaaaa.Vi
