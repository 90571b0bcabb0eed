
/-
  The laws' copies of reports and queues (toReport, toReportS, toQueue: new memory that holds the same, owned by the copy) and their comparisons of a thing with its like (eqReport, eqReportS, eqQueue answer true).
-/
import Derived.Test.YtmaknkbmilcanaaGreatDoorQuA
import Derived.Laws.AppendOwn
import Derived.Laws.OwnMore
namespace Go.Proofs.YtmaknkbmilcanaaGreatDoor.Qu
open Go.RowKit
open Go.Proofs.YtmaknkbmilcanaaGreatDoor.Tx
theorem below_grownBy {w w' : World} (h : Below w.heap.size w w') (row : Option Nat) : w.grownBy w' row := ⟨h.os, h.tape, h.output, h.size, fun k hk _ => h.block k hk⟩
theorem own_base {B C n s : Nat} {T : TypeId} {w : World} {v : Value} {xs : List Value} (h : w.ownsRow B T s v n xs) (hBC : C ≤ B) : w.ownsRow C T s v n xs := by
  obtain ⟨h1, h2⟩ := h
  refine ⟨h1, ?_⟩
  rcases h2 with hn | ⟨g, cap, cur, rfl, hb, rest⟩
  · exact .inl hn
  · exact .inr ⟨g, cap, cur, rfl, Nat.le_trans hBC hb, rest⟩
theorem own_slice {w : World} {B m n : Nat} {T : TypeId} {v : Value} {xs : List Value} (h : w.ownsRow B T m v n xs) : ∃ a c, v = .slice a n c := by
  rcases h.2 with ⟨rfl, h0⟩ | ⟨g, cap, cur, rfl, _⟩
  · exact ⟨none, 0, by rw [h0]⟩
  · exact ⟨_, _, rfl⟩
/-! ### rows of the call's own: reports, texts, numbers -/
def rpC : List Rep → List Value
  | [] => []
  | t :: r => .int .i64 t.id :: .int .i64 t.born :: .int .i64 t.tries :: .string ⟨t.body.toArray⟩ :: rpC r
theorem rpC_len : ∀ ts : List Rep, (rpC ts).length = ts.length * 4
  | [] => rfl
  | t :: r => by have := rpC_len r; simp only [rpC, List.length_cons]; omega
theorem rpC_get : ∀ (ts : List Rep) (i : Nat), i < ts.length → (rpC ts)[i * 4]? = some (.int .i64 (ts.getD i default).id) ∧ (rpC ts)[i * 4 + 1]? = some (.int .i64 (ts.getD i default).born) ∧ (rpC ts)[i * 4 + 2]? = some (.int .i64 (ts.getD i default).tries) ∧ (rpC ts)[i * 4 + 3]? = some (.string ⟨(ts.getD i default).body.toArray⟩)
  | [], i, h => by simp at h
  | t :: r, 0, _ => ⟨rfl, rfl, rfl, rfl⟩
  | t :: r, i + 1, h => by
    have ih := rpC_get r i (by simpa using h)
    have e : (i + 1) * 4 = i * 4 + 1 + 1 + 1 + 1 := by omega
    rw [e]
    simpa [rpC] using ih
abbrev strV (us : List (List UInt8)) : List Value := us.map fun t => Value.string ⟨t.toArray⟩
abbrev intV (ns : List Int) : List Value := ns.map fun n => Value.int .i64 n
/-- v is a row of the call's own from base on: the reports ts -/
def O4 (w : World) (base : Nat) (v : Value) (ts : List Rep) : Prop := w.ownsRow base 134 4 v ts.length (rpC ts)
/-- .. the texts ns -/
def O1 (w : World) (base : Nat) (v : Value) (ns : List (List UInt8)) : Prop := w.ownsRow base 9 1 v ns.length (strV ns)
/-- .. the numbers ns -/
def OI (w : World) (base : Nat) (v : Value) (ns : List Int) : Prop := w.ownsRow base 3 1 v ns.length (intV ns)
theorem O4.slice {w : World} {base : Nat} {v : Value} {ts : List Rep} (h : O4 w base v ts) : ∃ a c, v = .slice a ts.length c := own_slice h
theorem O1.slice {w : World} {base : Nat} {v : Value} {ts : List (List UInt8)} (h : O1 w base v ts) : ∃ a c, v = .slice a ts.length c := own_slice h
theorem OI.slice {w : World} {base : Nat} {v : Value} {ts : List Int} (h : OI w base v ts) : ∃ a c, v = .slice a ts.length c := own_slice h
theorem O4.kept {w w' : World} {base : Nat} {v : Value} {ts : List Rep} {row : Option Nat} (h : O4 w base v ts) (hg : w.grownBy w' row) (hne : v.ownBlock = none ∨ v.ownBlock ≠ row) : O4 w' base v ts := World.ownsRow.kept h hg hne
theorem O1.kept {w w' : World} {base : Nat} {v : Value} {ts : List (List UInt8)} {row : Option Nat} (h : O1 w base v ts) (hg : w.grownBy w' row) (hne : v.ownBlock = none ∨ v.ownBlock ≠ row) : O1 w' base v ts := World.ownsRow.kept h hg hne
theorem OI.kept {w w' : World} {base : Nat} {v : Value} {ts : List Int} {row : Option Nat} (h : OI w base v ts) (hg : w.grownBy w' row) (hne : v.ownBlock = none ∨ v.ownBlock ≠ row) : OI w' base v ts := World.ownsRow.kept h hg hne
theorem O4.below {w w' : World} {base : Nat} {v : Value} {ts : List Rep} (h : O4 w base v ts) (hb : Below w.heap.size w w') : O4 w' base v ts := h.kept (below_grownBy hb none) (by cases v.ownBlock <;> simp)
theorem O1.below {w w' : World} {base : Nat} {v : Value} {ts : List (List UInt8)} (h : O1 w base v ts) (hb : Below w.heap.size w w') : O1 w' base v ts := h.kept (below_grownBy hb none) (by cases v.ownBlock <;> simp)
theorem OI.below {w w' : World} {base : Nat} {v : Value} {ts : List Int} (h : OI w base v ts) (hb : Below w.heap.size w w') : OI w' base v ts := h.kept (below_grownBy hb none) (by cases v.ownBlock <;> simp)
theorem O4.base {w : World} {a b : Nat} {v : Value} {ts : List Rep} (h : O4 w a v ts) (hab : b ≤ a) : O4 w b v ts := own_base h hab
theorem O1.base {w : World} {a b : Nat} {v : Value} {ts : List (List UInt8)} (h : O1 w a v ts) (hab : b ≤ a) : O1 w b v ts := own_base h hab
theorem OI.base {w : World} {a b : Nat} {v : Value} {ts : List Int} (h : OI w a v ts) (hab : b ≤ a) : OI w b v ts := own_base h hab
theorem O4.nil (w : World) (a : Nat) : O4 w a (.slice none 0 0) [] := World.ownsRow_nil _ _ _ _
theorem O1.nil (w : World) (a : Nat) : O1 w a (.slice none 0 0) [] := World.ownsRow_nil _ _ _ _
theorem OI.nil (w : World) (a : Nat) : OI w a (.slice none 0 0) [] := World.ownsRow_nil _ _ _ _
theorem O4.rp {w : World} {base : Nat} {v : Value} {ts : List Rep} (h : O4 w base v ts) (hl : ∀ i, i < ts.length → Fit (ts.getD i default)) : RpIn (fun b => base ≤ b ∧ b < w.heap.size) w v ts := by
  obtain ⟨-, h⟩ := h
  rcases h with ⟨rfl, h0⟩ | ⟨g, cap, cur, rfl, hbg, hg, hnc, hcm, hs, ht⟩
  · obtain rfl : ts = [] := List.eq_nil_of_length_eq_zero h0
    exact RpIn.nil _ _
  · have hlt : g < w.heap.size := (Array.getElem?_eq_some_iff.1 hg).1
    refine ⟨some ⟨g, 0, none⟩, cap, g, 0, rfl, hnc, by unfold maxLen at hcm; omega, hl, fun _ => ⟨rfl, hbg, hlt⟩, fun i hi => ?_⟩
    obtain ⟨e0, e1, e2, e3⟩ := rpC_get ts i hi
    rw [← ht, List.getElem?_take_of_lt (by omega)] at e0 e1 e2 e3
    simp only [Nat.zero_add]
    refine ⟨?_, ?_, ?_, ?_⟩ <;> simp [World.cell?, hg]
    · simpa using e0
    · simpa using e1
    · simpa using e2
    · simpa using e3
theorem O1.txts {w : World} {base : Nat} {v : Value} {ns : List (List UInt8)} (h : O1 w base v ns) (hl : ∀ i, i < ns.length → (ns.getD i []).length ≤ 9223372036854775807) : TxtsIn (fun b => base ≤ b ∧ b < w.heap.size) w v ns := by
  obtain ⟨-, h⟩ := h
  rcases h with ⟨rfl, h0⟩ | ⟨g, cap, cur, rfl, hbg, hg, hnc, hcm, hs, ht⟩
  · obtain rfl : ns = [] := List.eq_nil_of_length_eq_zero h0
    exact ⟨none, 0, 0, 0, rfl, by simp, by simp, by simp, by simp, by simp⟩
  · have hlt : g < w.heap.size := (Array.getElem?_eq_some_iff.1 hg).1
    refine ⟨some ⟨g, 0, none⟩, cap, g, 0, rfl, hnc, by unfold maxLen at hcm; omega, hl, fun _ => ⟨rfl, hbg, hlt⟩, fun i hi => ?_⟩
    have e0 : (strV ns)[i]? = some (.string ⟨(ns.getD i []).toArray⟩) := by simp [strV, hi]
    rw [← ht, List.getElem?_take_of_lt (by omega)] at e0
    simp only [Nat.zero_add]
    simp [World.cell?, hg]
    simpa using e0
/-- v is a slice of the numbers ns, in a block of S -/
def IntsIn (S : Nat → Prop) (w : World) (v : Value) (ns : List Int) : Prop :=
  ∃ (a : Option Addr) (cap b off : Nat), v = .slice a ns.length cap ∧ ns.length ≤ cap ∧ cap ≤ 9223372036854775807 ∧ (0 < ns.length → a = some ⟨b, off, none⟩ ∧ S b) ∧ ∀ i, i < ns.length → w.cell? ⟨b, off + i, none⟩ = some (.int .i64 (ns.getD i 0))
theorem IntsIn.same {S S' : Nat → Prop} {w w' : World} {v : Value} {ns : List Int} (h : IntsIn S w v ns) (hs : ∀ b, S b → S' b ∧ w'.heap[b]? = w.heap[b]?) : IntsIn S' w' v ns := by
  obtain ⟨a, cap, b, off, e, h1, h2, h4, h5⟩ := h
  refine ⟨a, cap, b, off, e, h1, h2, fun hp => ⟨(h4 hp).1, (hs b (h4 hp).2).1⟩, fun i hi => ?_⟩
  rw [World.cell?_of_block (w := w) (a := ⟨b, off + i, none⟩) (hs b (h4 (by omega)).2).2]
  exact h5 i hi
theorem IntsIn.mono {S S' : Nat → Prop} {w : World} {v : Value} {ns : List Int} (h : IntsIn S w v ns) (hs : ∀ b, S b → S' b) : IntsIn S' w v ns := h.same fun b hb => ⟨hs b hb, rfl⟩
theorem IntsIn.later {S : Nat → Prop} {w wx : World} {v : Value} {xs : List Int} (h : IntsIn S w v xs) (hS : ∀ b, S b → b < w.heap.size) (hx : Below w.heap.size w wx) : IntsIn (· < wx.heap.size) wx v xs :=
  h.same fun b hb => ⟨Nat.lt_of_lt_of_le (hS b hb) hx.size, hx.block b (hS b hb)⟩
theorem IntsIn.slice {S : Nat → Prop} {w : World} {v : Value} {xs : List Int} (h : IntsIn S w v xs) : ∃ a l c, v = .slice a l c := by
  obtain ⟨a', cap', _, _, rfl, _⟩ := h; exact ⟨_, _, _, rfl⟩
theorem OI.ints {w : World} {base : Nat} {v : Value} {ns : List Int} (h : OI w base v ns) : IntsIn (fun b => base ≤ b ∧ b < w.heap.size) w v ns := by
  obtain ⟨-, h⟩ := h
  rcases h with ⟨rfl, h0⟩ | ⟨g, cap, cur, rfl, hbg, hg, hnc, hcm, hs, ht⟩
  · obtain rfl : ns = [] := List.eq_nil_of_length_eq_zero h0
    exact ⟨none, 0, 0, 0, rfl, by simp, by simp, by simp, by simp⟩
  · have hlt : g < w.heap.size := (Array.getElem?_eq_some_iff.1 hg).1
    refine ⟨some ⟨g, 0, none⟩, cap, g, 0, rfl, hnc, by unfold maxLen at hcm; omega, fun _ => ⟨rfl, hbg, hlt⟩, fun i hi => ?_⟩
    have e0 : (intV ns)[i]? = some (.int .i64 (ns.getD i 0)) := by simp [intV, hi]
    rw [← ht, List.getElem?_take_of_lt (by omega)] at e0
    simp only [Nat.zero_add]
    simp [World.cell?, hg]
    simpa using e0
/-! ### blocks -/
def Hd (w : World) (b : Nat) (o : Obj) : Prop := w.heap[b]? = some o
theorem Hd.lt {w : World} {b : Nat} {o : Obj} (h : Hd w b o) : b < w.heap.size := (Array.getElem?_eq_some_iff.1 h).1
theorem Hd.blw {w w' : World} {b : Nat} {o : Obj} (h : Hd w b o) (hb : Below w.heap.size w w') : Hd w' b o := (hb.block b h.lt).trans h
theorem Hd.al {w : World} {b : Nat} {o : Obj} (h : Hd w b o) (x : Obj) : Hd (w.alloc x) b o := (heap_alloc_old _ _ h.lt).trans h
theorem Hd.new (w : World) (o : Obj) : Hd (w.alloc o) w.heap.size o := heap_alloc_new _ _
theorem Hd.grown {w w' : World} {row : Option Nat} {b : Nat} {o : Obj} (h : Hd w b o) (hg : w.grownBy w' row) (hne : some b ≠ row) : Hd w' b o := (hg.block b h.lt hne).trans h
theorem Hd.two {w : World} {g : Nat} {a b : Value} {T : TypeId} (h : Hd w g (.cells #[a, b] T)) :
    w.cell? ⟨g, 0, none⟩ = some a ∧ w.cell? ⟨g, 1, none⟩ = some b ∧ ∀ o, w.frozen? ⟨g, o, none⟩ = false :=
  ⟨cell_of_row w g 0 _ _ _ h, cell_of_row w g 1 _ _ _ h, fun o => frozen_of_row w g o _ _ h⟩
theorem Hd.four {w : World} {g : Nat} {a b c d : Value} {T : TypeId} (h : Hd w g (.cells #[a, b, c, d] T)) :
    w.cell? ⟨g, 0, none⟩ = some a ∧ w.cell? ⟨g, 1, none⟩ = some b ∧ w.cell? ⟨g, 2, none⟩ = some c ∧ w.cell? ⟨g, 3, none⟩ = some d ∧ ∀ o, w.frozen? ⟨g, o, none⟩ = false :=
  ⟨cell_of_row w g 0 _ _ _ h, cell_of_row w g 1 _ _ _ h, cell_of_row w g 2 _ _ _ h, cell_of_row w g 3 _ _ _ h, fun o => frozen_of_row w g o _ _ h⟩
abbrev set2 (w : World) (g o : Nat) (a b : Value) : World := (w.setCell ⟨g, o, none⟩ a).setCell ⟨g, o + 1, none⟩ b
abbrev set4 (w : World) (g o : Nat) (a b c d : Value) : World := (((w.setCell ⟨g, o, none⟩ a).setCell ⟨g, o + 1, none⟩ b).setCell ⟨g, o + 2, none⟩ c).setCell ⟨g, o + 3, none⟩ d
theorem set2_far (w : World) (g o b : Nat) (a c : Value) (h : b ≠ g) : (set2 w g o a c).heap[b]? = w.heap[b]? :=
  (heap_setCell_other _ ⟨g, o + 1, none⟩ b c h).trans (heap_setCell_other _ ⟨g, o, none⟩ b a h)
theorem set2_size (w : World) (g o : Nat) (a c : Value) : (set2 w g o a c).heap.size = w.heap.size := by simp [set2]
theorem Hd.set2 {w : World} {b : Nat} {a0 a1 : Value} {T : TypeId} (h : Hd w b (.cells #[a0, a1] T)) (x y : Value) : Hd (set2 w b 0 x y) b (.cells #[x, y] T) := heap_set (heap_set h 0 x) 1 y
theorem Hd.set4 {w : World} {b : Nat} {a0 a1 a2 a3 : Value} {T : TypeId} (h : Hd w b (.cells #[a0, a1, a2, a3] T)) (x y z u : Value) : Hd (set4 w b 0 x y z u) b (.cells #[x, y, z, u] T) := heap_set (heap_set (heap_set (heap_set h 0 x) 1 y) 2 z) 3 u
theorem ret_R {fn : Func} {a B : Nat} {tmps : Array Value} {X : World} {c0 c1 c2 c3 : Value} {T : TypeId} (hres : fn.results = #[.cell a 134]) (ha : tmps[a]?.getD undef = .pointer (some ⟨B, 0, none⟩)) (h : Hd X B (.cells #[c0, c1, c2, c3] T)) :
    (results fn tmps).run Tryz.prog X = .ok (.agg #[c0, c1, c2, c3]) X := by
  obtain ⟨k0, k1, k2, k3, _⟩ := h.four
  simp [results, hres, ha, go_sem, k0, k1, k2, k3]
theorem ret_Q {fn : Func} {a B : Nat} {tmps : Array Value} {X : World} {c0 c1 : Value} {T : TypeId} (hres : fn.results = #[.cell a 130]) (ha : tmps[a]?.getD undef = .pointer (some ⟨B, 0, none⟩)) (h : Hd X B (.cells #[c0, c1] T)) :
    (results fn tmps).run Tryz.prog X = .ok (.agg #[c0, c1]) X := by
  obtain ⟨k0, k1, _⟩ := h.two
  simp [results, hres, ha, go_sem, k0, k1]
theorem alloc3_0 (W : World) (a b c : Obj) : Hd (((W.alloc a).alloc b).alloc c) W.heap.size a := ((Hd.new W a).al b).al c
theorem alloc3_1 (W : World) (a b c : Obj) : Hd (((W.alloc a).alloc b).alloc c) (W.heap.size + 1) b := by
  have := (Hd.new (W.alloc a) b).al c
  simpa using this
theorem alloc3_2 (W : World) (a b c : Obj) : Hd (((W.alloc a).alloc b).alloc c) (W.heap.size + 1 + 1) c := by
  have := Hd.new ((W.alloc a).alloc b) c
  simpa using this
/-! ### copies -/
/-- new rows that hold the reports, the texts, the queue: the call's own -/
def NewRps (W : World) (xs : List Rep) (e : Ending) (w' : World) : Prop := ∃ v, e = .returned v ∧ O4 w' W.heap.size v xs ∧ Below W.heap.size W w'
def NewTs (W : World) (ns : List (List UInt8)) (e : Ending) (w' : World) : Prop := ∃ v, e = .returned v ∧ O1 w' W.heap.size v ns ∧ Below W.heap.size W w'
def NewQ (W : World) (q : Q) (e : Ending) (w' : World) : Prop := ∃ iv rv, e = .returned (qV iv rv) ∧ O4 w' W.heap.size iv q.items ∧ O1 w' W.heap.size rv q.recent ∧ Below W.heap.size W w'
theorem Tryz.infoRp : (Tryz.prog.info? 134).map (fun i => (i.zero, i.size, i.bytes)) = some (some (.agg #[.int .i64 0, .int .i64 0, .int .i64 0, .string ByteArray.empty]), 4, 40) := by kernel_rfl
set_option maxHeartbeats 1000000 in
theorem toRp_any (t : Rep) (W : World) : Calls Tryz.prog 333 #[rV t] W fun e w' => e = .returned (rV t) ∧ Below W.heap.size W w' := by
  obtain ⟨i, b, n, t⟩ := t
  go_enter Tryz.func333, Tryz.ntmps333
  have hf := alloc3_1 W (.cells #[.int .i64 i, .int .i64 b, .int .i64 n, .string ⟨t.toArray⟩] 345) (.cells #[.int .i64 i, .int .i64 b, .int .i64 n, .string ⟨t.toArray⟩] 134) (.cells #[.int .i64 i, .int .i64 b, .int .i64 n, .string ⟨t.toArray⟩] 134)
  go_wp2
  exact bodyPost_ret (ret_R Tryz.results333 rfl hf) rfl ⟨rfl, (((Below.refl _ _).alloc (Nat.le_refl _) _).alloc (by simp) _).alloc (by simp; omega) _⟩
def RRel (W : World) (xs : List Rep) (k : Nat) (wr : World) : Prop :=
  ∃ (F : Nat → Value), wr.rowIs W.heap.size 134 (xs.length * 4) F ∧
    (∀ i, i < k → F (i * 4) = .int .i64 (xs.getD i default).id ∧ F (i * 4 + 1) = .int .i64 (xs.getD i default).born ∧ F (i * 4 + 2) = .int .i64 (xs.getD i default).tries ∧ F (i * 4 + 3) = .string ⟨(xs.getD i default).body.toArray⟩) ∧ Below W.heap.size W wr
theorem run_makeR (n : Nat) (hn : n ≤ 1048576) (w : World) : (Instr.makeSlice 128 (.int .i64 (n : Int)) (.int .i64 (n : Int))).run Tryz.prog w = .ok (.slice (some ⟨w.heap.size, 0, none⟩) n n) (w.alloc (.cells (madeCells #[.int .i64 0, .int .i64 0, .int .i64 0, .string ByteArray.empty] (n * 4)) 134)) := by
  obtain ⟨i0, hi, hz0, hz1, hz2⟩ := info_parts Tryz.infoRp
  have h := run_make (P := Tryz.prog) w 128 134 i0 _ Tryz.underlying128 hi hz0 .i64 .i64 n n (by omega) (by omega) (by rw [hz2]; omega) (by omega)
  rw [hz1] at h
  simpa [Value.cells] using h
theorem rRel_start (W : World) (xs : List Rep) : RRel W xs 0 (W.alloc (.cells (madeCells #[.int .i64 0, .int .i64 0, .int .i64 0, .string ByteArray.empty] (xs.length * 4)) 134)) := by
  refine ⟨fun i => #[.int .i64 0, .int .i64 0, .int .i64 0, .string ByteArray.empty][i % 4]!, ?_, fun i hi => by omega, (Below.refl _ _).alloc (Nat.le_refl _) _⟩
  exact ⟨_, heap_alloc_new _ _, size_madeCells _ _, fun i hi => by simp [madeCells, hi]⟩
/-- a row whose cells are those of the reports is owned -/
theorem O4_of_row {w : World} {base g cap : Nat} {xs : List Rep} {F : Nat → Value} (hr : w.rowIs g 134 (cap * 4) F) (hc : xs.length ≤ cap) (hm : cap ≤ maxLen) (hb : base ≤ g)
    (hf : ∀ i, i < xs.length → F (i * 4) = .int .i64 (xs.getD i default).id ∧ F (i * 4 + 1) = .int .i64 (xs.getD i default).born ∧ F (i * 4 + 2) = .int .i64 (xs.getD i default).tries ∧ F (i * 4 + 3) = .string ⟨(xs.getD i default).body.toArray⟩) :
    O4 w base (.slice (some ⟨g, 0, none⟩) xs.length cap) xs := by
  obtain ⟨C, hC, hCs, hCf⟩ := hr
  refine ⟨rpC_len xs, .inr ⟨g, cap, C, rfl, hb, hC, hc, hm, hCs, ?_⟩⟩
  apply List.ext_getElem?
  intro j
  by_cases hj : j < xs.length * 4
  · rw [List.getElem?_take_of_lt hj]
    have h1 : C.toList[j]? = some (F j) := by have := hCf j (by omega); simpa using this
    rw [h1]
    obtain ⟨g0, g1, g2, g3⟩ := rpC_get xs (j / 4) (by omega)
    obtain ⟨f0, f1, f2, f3⟩ := hf (j / 4) (by omega)
    rcases (show j % 4 = 0 ∨ j % 4 = 1 ∨ j % 4 = 2 ∨ j % 4 = 3 by omega) with e | e | e | e
    · have ej : j = j / 4 * 4 := by omega
      rw [← ej] at g0 f0
      rw [g0, f0]
    · have ej : j = j / 4 * 4 + 1 := by omega
      rw [← ej] at g1 f1
      rw [g1, f1]
    · have ej : j = j / 4 * 4 + 2 := by omega
      rw [← ej] at g2 f2
      rw [g2, f2]
    · have ej : j = j / 4 * 4 + 3 := by omega
      rw [← ej] at g3 f3
      rw [g3, f3]
  · rw [List.getElem?_eq_none (by simp; omega), List.getElem?_eq_none (by rw [rpC_len]; omega)]
theorem O1_of_row {w : World} {base g cap : Nat} {ns : List (List UInt8)} {F : Nat → Value} (hr : w.rowIs g 9 cap F) (hc : ns.length ≤ cap) (hm : cap ≤ maxLen) (hb : base ≤ g)
    (hf : ∀ i, i < ns.length → F i = .string ⟨(ns.getD i []).toArray⟩) : O1 w base (.slice (some ⟨g, 0, none⟩) ns.length cap) ns := by
  obtain ⟨C, hC, hCs, hCf⟩ := hr
  refine ⟨by simp [strV], .inr ⟨g, cap, C, rfl, hb, hC, hc, hm, by omega, ?_⟩⟩
  apply List.ext_getElem?
  intro j
  by_cases hj : j < ns.length
  · rw [List.getElem?_take_of_lt (by omega)]
    have h1 : C.toList[j]? = some (F j) := by have := hCf j (by omega); simpa using this
    rw [h1, hf j hj]
    simp [strV, hj]
  · rw [List.getElem?_eq_none (by simp; omega), List.getElem?_eq_none (by simp [strV]; omega)]
theorem rRel_end {W w' : World} {xs : List Rep} (h : RRel W xs xs.length w') (hm : xs.length ≤ 1048576) : NewRps W xs (.returned (.slice (some ⟨W.heap.size, 0, none⟩) xs.length xs.length)) w' := by
  obtain ⟨F, hr, hf, hb⟩ := h
  exact ⟨_, rfl, O4_of_row hr (Nat.le_refl _) (by unfold maxLen; omega) (Nat.le_refl _) hf, hb⟩
theorem rRel_step {W wr w2 : World} {xs : List Rep} {k : Nat} {x : Rep} {F : Nat → Value} (hx : xs.getD k default = x) (hr : w2.rowIs W.heap.size 134 (xs.length * 4) F)
    (hf : ∀ i, i < k → F (i * 4) = .int .i64 (xs.getD i default).id ∧ F (i * 4 + 1) = .int .i64 (xs.getD i default).born ∧ F (i * 4 + 2) = .int .i64 (xs.getD i default).tries ∧ F (i * 4 + 3) = .string ⟨(xs.getD i default).body.toArray⟩) (hN : Below W.heap.size W wr) (hlt : W.heap.size < wr.heap.size) (hb2 : Below wr.heap.size wr w2) :
    RRel W xs (k + 1) (set4 w2 W.heap.size (k * 4) (.int .i64 x.id) (.int .i64 x.born) (.int .i64 x.tries) (.string ⟨x.body.toArray⟩)) := by
  refine ⟨fun j => if j = k * 4 + 3 then .string ⟨x.body.toArray⟩ else if j = k * 4 + 2 then .int .i64 x.tries else if j = k * 4 + 1 then .int .i64 x.born else if j = k * 4 then .int .i64 x.id else F j, (((hr.set _ _).set _ _).set _ _).set _ _, fun i hi => ?_, ?_⟩
  · by_cases e : i = k
    · subst e
      rw [hx]
      refine ⟨?_, ?_, ?_, ?_⟩ <;> simp
    · obtain ⟨f0, f1, f2, f3⟩ := hf i (by omega)
      refine ⟨?_, ?_, ?_, ?_⟩ <;> dsimp only
      · rw [if_neg (by omega), if_neg (by omega), if_neg (by omega), if_neg (by omega), f0]
      · rw [if_neg (by omega), if_neg (by omega), if_neg (by omega), if_neg (by omega), f1]
      · rw [if_neg (by omega), if_neg (by omega), if_neg (by omega), if_neg (by omega), f2]
      · rw [if_neg (by omega), if_neg (by omega), if_neg (by omega), if_neg (by omega), f3]
  · have hb3 : Below W.heap.size W w2 := hN.trans (hb2.mono (by omega))
    exact (((hb3.setCell (by simp) _).setCell (by simp) _).setCell (by simp) _).setCell (by simp) _
set_option maxHeartbeats 1000000 in
theorem toRps_any (B : Nat) (w0 : World) (xs : List Rep) (v : Value) (h : RpIn (· < B) w0 v xs) (hsz : xs.length ≤ 1048576) (W : World) (hb : Below B w0 W) (hB : B ≤ W.heap.size) :
    Calls Tryz.prog 278 #[v] W (NewRps W xs) := by
  obtain ⟨a, cap, b, off, rfl, hcap, hm, -, ha, hc⟩ := h
  have HC := Lib.hid hc
  have HA := Lib.hid ha
  have HB := Lib.hid hb
  clear hc ha hb
  have hmk := fun w => run_makeR xs.length hsz w
  have HR0 := Lib.hid (rRel_start W xs)
  go_enter Tryz.func278, Tryz.ntmps278
  go_wp2
  go_loopw [4] (fun i wr => ∃ (k : Nat), k ≤ xs.length ∧ i = .int .i64 k ∧ RRel W xs k wr) (fun i _ => xs.length - (intOf i).toNat)
  case atStart => exact ⟨0, by omega, rfl, HR0.out⟩
  case round =>
    obtain ⟨k, hk, rfl, hR⟩ := hrel
    by_cases hlt : k < xs.length
    · obtain ⟨ea, hlb⟩ := HA.out (by omega)
      subst ea
      obtain ⟨F, hr, hf, hN⟩ := hR
      have hW : Below B w0 wr := HB.out.trans (hN.mono hB)
      obtain ⟨d0, d1, d2, d3⟩ := HC.out k hlt
      have q0 := (hW.cell (p := ⟨b, off + k * 4, none⟩) hlb).trans d0
      have q1 := (hW.cell (p := ⟨b, off + k * 4 + 1, none⟩) hlb).trans d1
      have q2 := (hW.cell (p := ⟨b, off + k * 4 + 2, none⟩) hlb).trans d2
      have q3 := (hW.cell (p := ⟨b, off + k * 4 + 3, none⟩) hlb).trans d3
      clear d0 d1 d2 d3
      have HF := Lib.hid hf
      have HN := Lib.hid hN
      have HR := Lib.hid hr
      clear hf hN hW hr
      generalize hx : xs.getD k default = x at *
      have HX := Lib.hid hx
      have HK := Lib.hid (toRp_any x wr)
      clear hx
      go_wp2_with fail
      refine HK.out.mono ?_
      rintro e w2 ⟨rfl, hb2⟩
      have z2 := hb2.size
      have hr2 := HR.out.of_block (hb2.block _ HR.out.lt)
      have p0 := hr2.cell (i := k * 4) (by omega)
      have p1 := hr2.cell (i := k * 4 + 1) (by omega)
      have p2 := hr2.cell (i := k * 4 + 2) (by omega)
      have p3 := hr2.cell (i := k * 4 + 3) (by omega)
      have pf := hr2.frozen
      have HR2 := Lib.hid hr2
      have HB2 := Lib.hid hb2
      clear hr2 hb2
      go_wp2
      go_roundw
      case rel => exact ⟨k + 1, by omega, by go_num, rRel_step HX.out HR2.out HF.out HN.out HR.out.lt HB2.out⟩
      case measure => simp [intOf]; omega
    · obtain rfl : k = xs.length := by omega
      have hF := Lib.hid (rRel_end hR hsz)
      go_wp2
      go_ret
      exact hF.out
set_option maxHeartbeats 1000000 in
theorem toTs_any (B : Nat) (w0 : World) (ns : List (List UInt8)) (v : Value) (h : TxtsIn (· < B) w0 v ns) (hsz : ns.length ≤ 1048576) (W : World) (hb : Below B w0 W) (hB : B ≤ W.heap.size) :
    Calls Tryz.prog 128 #[v] W (NewTs W ns) := by
  have h' := h.blw hb
  obtain ⟨a, cap, b, off, rfl, hcap, hm, hlen, ha, hc⟩ := h'
  have HC := Lib.hid hc
  have HA := Lib.hid ha
  clear hc hlen ha h hb
  have hmk := fun w => run_make_row' (P := Tryz.prog) 23 9 (.string ByteArray.empty) 16 Tryz.underlying23 Tryz.infoTxt rfl .i64 .i64 ns.length (by omega) (by omega) w
  have HR0 := Lib.hid (World.rowIs_made W (.string ByteArray.empty) ns.length 9)
  have HB0 := Lib.hid ((Below.refl W.heap.size W).alloc (Nat.le_refl _) (.cells (madeCells #[.string ByteArray.empty] ns.length) 9))
  go_enter Tryz.func128, Tryz.ntmps128
  go_wp2
  go_loopw [4] (fun i wr => ∃ (k : Nat), k ≤ ns.length ∧ i = .int .i64 k ∧ wr.rowIs W.heap.size 9 ns.length (txtF ns k) ∧ Below W.heap.size W wr) (fun i _ => ns.length - (intOf i).toNat)
  case atStart => exact ⟨0, by omega, rfl, HR0.out.congr (fun i _ => by simp [txtF]), HB0.out⟩
  case round =>
    obtain ⟨k, hk, rfl, hR, hN⟩ := hrel
    by_cases hlt : k < ns.length
    · obtain ⟨ea, hlb⟩ := HA.out (by omega)
      subst ea
      have q0 := (hN.cell (p := ⟨b, off + k, none⟩) (Nat.lt_of_lt_of_le hlb hB)).trans (HC.out k hlt)
      have q1 := hR.cell hlt
      have q2 := hR.frozen k
      have hR' := Lib.hid ((hR.set k (.string ⟨(ns.getD k []).toArray⟩)).congr (fun j _ => txtF_step ns k j))
      have hN' := Lib.hid (hN.setCell (p := ⟨W.heap.size, k, none⟩) (Nat.le_refl _) (.string ⟨(ns.getD k []).toArray⟩))
      clear hR hN
      generalize ns.getD k [] = t at *
      generalize txtF ns k k = z at *
      go_wp2
      go_roundw
      case rel => exact ⟨k + 1, by omega, by go_num, hR'.out, hN'.out⟩
      case measure => simp [intOf]; omega
    · obtain rfl : k = ns.length := by omega
      have hF : NewTs W ns (.returned (.slice (some ⟨W.heap.size, 0, none⟩) ns.length ns.length)) wr := by
        exact ⟨_, rfl, O1_of_row hR (Nat.le_refl _) (by unfold maxLen; omega) (Nat.le_refl _) (fun i hi => by simp [txtF, hi]), hN⟩
      go_wp2
      go_ret
      exact hF
set_option maxHeartbeats 2000000 in
theorem toQ_any (B : Nat) (w0 : World) (q : Q) (iv rv : Value) (hi : RpIn (· < B) w0 iv q.items) (hr : TxtsIn (· < B) w0 rv q.recent) (hsi : q.items.length ≤ 1048576) (hsr : q.recent.length ≤ 1048576) (W : World) (hb : Below B w0 W) (hB : B ≤ W.heap.size) :
    Calls Tryz.prog 206 #[qV iv rv] W (NewQ W q) := by
  obtain ⟨xs, us⟩ := q
  simp only at hi hr hsi hsr
  have TI := Lib.hid (toRps_any B w0 xs iv hi hsi)
  have TR := Lib.hid (toTs_any B w0 us rv hr hsr)
  have HB := Lib.hid hb
  obtain ⟨a1, l1, c1, rfl⟩ := hi.slice
  obtain ⟨a2, l2, c2, rfl⟩ := hr.slice
  clear hi hr hb
  go_enter Tryz.func206, Tryz.ntmps206
  go_wp2_with fail
  have k0 := alloc3_0 W (.cells #[.slice a1 l1 c1, .slice a2 l2 c2] 174) (.cells #[.slice none 0 0, .slice none 0 0] 130) (.cells #[.slice none 0 0, .slice none 0 0] 130)
  have k1 := alloc3_1 W (.cells #[.slice a1 l1 c1, .slice a2 l2 c2] 174) (.cells #[.slice none 0 0, .slice none 0 0] 130) (.cells #[.slice none 0 0, .slice none 0 0] 130)
  have k2 := alloc3_2 W (.cells #[.slice a1 l1 c1, .slice a2 l2 c2] 174) (.cells #[.slice none 0 0, .slice none 0 0] 130) (.cells #[.slice none 0 0, .slice none 0 0] 130)
  have hb3 : Below W.heap.size W (((W.alloc (.cells #[.slice a1 l1 c1, .slice a2 l2 c2] 174)).alloc (.cells #[.slice none 0 0, .slice none 0 0] 130)).alloc (.cells #[.slice none 0 0, .slice none 0 0] 130)) := (((Below.refl _ _).alloc (Nat.le_refl _) _).alloc (by simp) _).alloc (by simp; omega) _
  have z3 : W.heap.size + 3 = (((W.alloc (.cells #[.slice a1 l1 c1, .slice a2 l2 c2] 174)).alloc (.cells #[.slice none 0 0, .slice none 0 0] 130)).alloc (.cells #[.slice none 0 0, .slice none 0 0] 130)).heap.size := by simp
  generalize (((W.alloc (.cells #[.slice a1 l1 c1, .slice a2 l2 c2] 174)).alloc (.cells #[.slice none 0 0, .slice none 0 0] 130)).alloc (.cells #[.slice none 0 0, .slice none 0 0] 130)) = w3 at *
  refine (TI.out w3 (HB.out.trans (hb3.mono hB)) (by omega)).mono ?_
  rintro e w4 ⟨v4, rfl, ht4, hb4⟩
  obtain ⟨a4, c4, rfl⟩ := ht4.slice
  have z4 := hb4.size
  have k0' := k0.blw hb4
  have k1' := k1.blw hb4
  have k2' := k2.blw hb4
  obtain ⟨m00, m01, -⟩ := k0'.two
  obtain ⟨m20, m21, m2f⟩ := k2'.two
  have hne : (Value.slice a4 xs.length c4).ownBlock = none ∨ (Value.slice a4 xs.length c4).ownBlock ≠ some (W.heap.size + 1 + 1) := .inr fun e => by have := (World.ownsRow.lt ht4 _ e).1; omega
  have hne1 : (Value.slice a4 xs.length c4).ownBlock = none ∨ (Value.slice a4 xs.length c4).ownBlock ≠ some (W.heap.size + 1) := .inr fun e => by have := (World.ownsRow.lt ht4 _ e).1; omega
  have HNE := Lib.hid hne
  have HNE1 := Lib.hid hne1
  have hg5 : w4.grownBy (w4.setCell ⟨W.heap.size + 1 + 1, 0, none⟩ (.slice a4 xs.length c4)) (some (W.heap.size + 1 + 1)) := ⟨rfl, rfl, rfl, by simp, fun b _ hb2 => heap_setCell_other _ ⟨W.heap.size + 1 + 1, 0, none⟩ b _ (fun e => hb2 (congrArg some e))⟩
  have HT5 := Lib.hid (ht4.kept hg5 hne)
  have HF0 := Lib.hid (k0'.grown hg5 (by simp; omega))
  have HF1 := Lib.hid (k1'.grown hg5 (by simp))
  have HF2 := Lib.hid (show Hd (w4.setCell ⟨W.heap.size + 1 + 1, 0, none⟩ (.slice a4 xs.length c4)) (W.heap.size + 1 + 1) (.cells #[.slice a4 xs.length c4, .slice none 0 0] 130) from heap_set k2' 0 _)
  have HB4 := Lib.hid (show Below W.heap.size W (w4.setCell ⟨W.heap.size + 1 + 1, 0, none⟩ (.slice a4 xs.length c4)) from (hb3.trans (hb4.mono (by omega))).setCell (by simp; omega) _)
  have z5 : w4.heap.size = (w4.setCell ⟨W.heap.size + 1 + 1, 0, none⟩ (.slice a4 xs.length c4)).heap.size := by simp
  clear k0 k1 k2 k0' k1' k2' ht4 hb4 hb3 hne hne1 hg5
  go_wp2_with fail
  generalize w4.setCell ⟨W.heap.size + 1 + 1, 0, none⟩ (.slice a4 xs.length c4) = w5 at *
  refine (TR.out w5 (HB.out.trans (HB4.out.mono hB)) (by omega)).mono ?_
  rintro e w6 ⟨v6, rfl, ht6, hb6⟩
  obtain ⟨a6, c6, rfl⟩ := ht6.slice
  have z6 := hb6.size
  have k1' := HF1.out.blw hb6
  have k2' := HF2.out.blw hb6
  obtain ⟨p10, p11, p1f⟩ := k1'.two
  obtain ⟨p20, p21, p2f⟩ := k2'.two
  have hne6 : (Value.slice a6 us.length c6).ownBlock = none ∨ (Value.slice a6 us.length c6).ownBlock ≠ some (W.heap.size + 1 + 1) := .inr fun e => by have := (World.ownsRow.lt ht6 _ e).1; omega
  have hne61 : (Value.slice a6 us.length c6).ownBlock = none ∨ (Value.slice a6 us.length c6).ownBlock ≠ some (W.heap.size + 1) := .inr fun e => by have := (World.ownsRow.lt ht6 _ e).1; omega
  have hg7 : w6.grownBy (w6.setCell ⟨W.heap.size + 1 + 1, 1, none⟩ (.slice a6 us.length c6)) (some (W.heap.size + 1 + 1)) := ⟨rfl, rfl, rfl, by simp, fun b _ hb2 => heap_setCell_other _ ⟨W.heap.size + 1 + 1, 1, none⟩ b _ (fun e => hb2 (congrArg some e))⟩
  have hg8 : (w6.setCell ⟨W.heap.size + 1 + 1, 1, none⟩ (.slice a6 us.length c6)).grownBy (set2 (w6.setCell ⟨W.heap.size + 1 + 1, 1, none⟩ (.slice a6 us.length c6)) (W.heap.size + 1) 0 (.slice a4 xs.length c4) (.slice a6 us.length c6)) (some (W.heap.size + 1)) := ⟨rfl, rfl, rfl, by rw [set2_size]; exact Nat.le_refl _, fun b _ hb2 => set2_far _ _ _ _ _ _ (fun e => hb2 (congrArg some e))⟩
  have HFIN := Lib.hid ((k1'.grown hg7 (by simp)).set2 (.slice a4 xs.length c4) (.slice a6 us.length c6))
  have HP := Lib.hid (show NewQ W ⟨xs, us⟩ (.returned (qV (.slice a4 xs.length c4) (.slice a6 us.length c6))) (set2 (w6.setCell ⟨W.heap.size + 1 + 1, 1, none⟩ (.slice a6 us.length c6)) (W.heap.size + 1) 0 (.slice a4 xs.length c4) (.slice a6 us.length c6)) from
    ⟨_, _, rfl, (((HT5.out.below hb6).kept hg7 HNE.out).kept hg8 HNE1.out).base (by omega), ((ht6.kept hg7 hne6).kept hg8 hne61).base (by omega), (((HB4.out.trans (hb6.mono (by omega))).setCell (by simp; omega) _).setCell (by simp) _).setCell (by simp) _⟩)
  clear k1' k2' ht6 hb6 hne6 hne61 hg7 hg8 m00 m01 m20 m21 m2f
  go_wp2
  exact bodyPost_ret (ret_Q Tryz.results206 rfl HFIN.out) rfl HP.out
/-! ### a thing compared with its like -/
set_option maxRecDepth 100000 in
set_option maxHeartbeats 2000000 in
theorem eqRp_self (t : Rep) (W : World) : Calls Tryz.prog 337 #[rV t, rV t] W fun e w' => e = .returned (.bool true) ∧ Below W.heap.size W w' := by
  obtain ⟨p, q, r, u⟩ := t
  have e1 : (u == u) = true := by simp
  have e2 : (u != u) = false := by simp
  have e3 : (p == p) = true := by simp
  have e4 : (p != p) = false := by simp
  have e5 : (q == q) = true := by simp
  have e6 : (q != q) = false := by simp
  have e7 : (r == r) = true := by simp
  have e8 : (r != r) = false := by simp
  go_enter Tryz.func337, Tryz.ntmps337
  go_wp2
  go_ret
  exact ⟨rfl, ((Below.refl _ _).alloc (Nat.le_refl _) _).alloc (by simp) _⟩
set_option maxRecDepth 100000 in
set_option maxHeartbeats 2000000 in
theorem eqRps_self (B : Nat) (w0 : World) (xs : List Rep) (v u : Value) (h1 : RpIn (· < B) w0 v xs) (h2 : RpIn (· < B) w0 u xs) (W : World) (hb : Below B w0 W) (hB : B ≤ W.heap.size) :
    Calls Tryz.prog 291 #[v, u] W fun e w' => e = .returned (.bool true) ∧ Below W.heap.size W w' := by
  obtain ⟨a, cap, b, off, rfl, hcap, hm, hlen, ha, hc⟩ := h1
  obtain ⟨a', cap', b', off', rfl, hcap', hm', hlen', ha', hc'⟩ := h2
  have hn : xs.length ≤ 9223372036854775807 := by omega
  have HC := Lib.hid hc
  have HA := Lib.hid ha
  have HC' := Lib.hid hc'
  have HA' := Lib.hid ha'
  have HB := Lib.hid hb
  clear hc ha hc' ha' hb hlen hlen'
  have g1 : ((xs.length : Int) != (xs.length : Int)) = false := by simp
  go_enter Tryz.func291, Tryz.ntmps291
  go_wp2
  go_loopw [5] (fun i wr => ∃ k : Nat, k ≤ xs.length ∧ i = .int .i64 k ∧ Below W.heap.size W wr) (fun i _ => xs.length - (intOf i).toNat)
  case atStart => exact ⟨0, by omega, rfl, Below.refl _ _⟩
  case round =>
    obtain ⟨k, hk, rfl, hR⟩ := hrel
    by_cases hlt : k < xs.length
    · obtain ⟨ea, hlb⟩ := HA.out (by omega)
      obtain ⟨ea', hlb'⟩ := HA'.out (by omega)
      subst ea ea'
      have hW := HB.out.trans (hR.mono hB)
      obtain ⟨c0, c1, c2, c3⟩ := HC.out k hlt
      obtain ⟨c0', c1', c2', c3'⟩ := HC'.out k hlt
      have q0 := (hW.cell (p := ⟨b, off + k * 4, none⟩) hlb).trans c0
      have q1 := (hW.cell (p := ⟨b, off + k * 4 + 1, none⟩) hlb).trans c1
      have q2 := (hW.cell (p := ⟨b, off + k * 4 + 2, none⟩) hlb).trans c2
      have q3 := (hW.cell (p := ⟨b, off + k * 4 + 3, none⟩) hlb).trans c3
      have r0 := (hW.cell (p := ⟨b', off' + k * 4, none⟩) hlb').trans c0'
      have r1 := (hW.cell (p := ⟨b', off' + k * 4 + 1, none⟩) hlb').trans c1'
      have r2 := (hW.cell (p := ⟨b', off' + k * 4 + 2, none⟩) hlb').trans c2'
      have r3 := (hW.cell (p := ⟨b', off' + k * 4 + 3, none⟩) hlb').trans c3'
      clear c0 c1 c2 c3 c0' c1' c2' c3' hW
      generalize xs.getD k default = x at *
      go_wp2_with fail
      go_region_held3 (fun wx => wx.cell? ⟨b, off + k * 4, none⟩ = some (.int .i64 x.id) ∧ wx.cell? ⟨b, off + k * 4 + 1, none⟩ = some (.int .i64 x.born) ∧ wx.cell? ⟨b, off + k * 4 + 2, none⟩ = some (.int .i64 x.tries) ∧ wx.cell? ⟨b, off + k * 4 + 3, none⟩ = some (.string ⟨x.body.toArray⟩) ∧ wx.cell? ⟨b', off' + k * 4, none⟩ = some (.int .i64 x.id) ∧ wx.cell? ⟨b', off' + k * 4 + 1, none⟩ = some (.int .i64 x.born) ∧ wx.cell? ⟨b', off' + k * 4 + 2, none⟩ = some (.int .i64 x.tries) ∧ wx.cell? ⟨b', off' + k * 4 + 3, none⟩ = some (.string ⟨x.body.toArray⟩) ∧ Below W.heap.size W wx)
        (first
          | (simp [*, Below.drew]; done)
          | (go_split_ands
             have hz : B ≤ _ := Nat.le_trans hB (Below.size (by assumption))
             refine ⟨?_, ?_, ?_, ?_, ?_, ?_, ?_, ?_, belI_step (by assumption) hb⟩
             · (rw [hb.cell (p := ⟨b, off + k * 4, none⟩) (Nat.lt_of_lt_of_le hlb hz)]; assumption)
             · (rw [hb.cell (p := ⟨b, off + k * 4 + 1, none⟩) (Nat.lt_of_lt_of_le hlb hz)]; assumption)
             · (rw [hb.cell (p := ⟨b, off + k * 4 + 2, none⟩) (Nat.lt_of_lt_of_le hlb hz)]; assumption)
             · (rw [hb.cell (p := ⟨b, off + k * 4 + 3, none⟩) (Nat.lt_of_lt_of_le hlb hz)]; assumption)
             · (rw [hb.cell (p := ⟨b', off' + k * 4, none⟩) (Nat.lt_of_lt_of_le hlb' hz)]; assumption)
             · (rw [hb.cell (p := ⟨b', off' + k * 4 + 1, none⟩) (Nat.lt_of_lt_of_le hlb' hz)]; assumption)
             · (rw [hb.cell (p := ⟨b', off' + k * 4 + 2, none⟩) (Nat.lt_of_lt_of_le hlb' hz)]; assumption)
             · (rw [hb.cell (p := ⟨b', off' + k * 4 + 3, none⟩) (Nat.lt_of_lt_of_le hlb' hz)]; assumption)))
        (first
          | (go_split_ands; go_at_call 337; refine (eqRp_self x _).mono ?_; rintro e w1 ⟨rfl, hb⟩))
      go_split_ands
      rename_i hNW
      have HN := Lib.hid hNW
      clear hNW
      go_wp2
      go_roundw
      case rel => exact ⟨k + 1, by omega, by go_num, HN.out⟩
      case measure => simp [intOf]; omega
    · go_wp2
      go_ret
      exact ⟨rfl, hR⟩
set_option maxRecDepth 100000 in
set_option maxHeartbeats 2000000 in
theorem eqQ_self (B : Nat) (w0 : World) (q : Q) (iv rv iv' rv' : Value) (h1 : RpIn (· < B) w0 iv q.items) (h2 : TxtsIn (· < B) w0 rv q.recent) (h3 : RpIn (· < B) w0 iv' q.items) (h4 : TxtsIn (· < B) w0 rv' q.recent) (W : World) (hb : Below B w0 W) (hB : B ≤ W.heap.size) :
    Calls Tryz.prog 217 #[qV iv rv, qV iv' rv'] W fun e w' => e = .returned (.bool true) ∧ Below W.heap.size W w' := by
  obtain ⟨xs, us⟩ := q
  simp only at h1 h2 h3 h4
  have HR := Lib.hid (fun W h2' h3' => eqRps_self B w0 xs iv iv' h1 h3 W h2' h3')
  have HE := Lib.hid (fun (W' : World) (h : Below B w0 W') => eqT_any _ _ us us rv rv' W' (h2.blw h) (h4.blw h))
  rw [show (us == us) = true by simp] at HE
  obtain ⟨a1, l1, c1, rfl⟩ := h1.slice
  obtain ⟨a2, l2, c2, rfl⟩ := h2.slice
  obtain ⟨a3, l3, c3, rfl⟩ := h3.slice
  obtain ⟨a4, l4, c4, rfl⟩ := h4.slice
  have HB := Lib.hid hb
  have K0 := Lib.hid (((Hd.new W (.cells #[.slice a1 l1 c1, .slice a2 l2 c2] 130)).al (.cells #[.slice a3 l3 c3, .slice a4 l4 c4] 130)))
  have K1 := Lib.hid (Hd.new (W.alloc (.cells #[.slice a1 l1 c1, .slice a2 l2 c2] 130)) (.cells #[.slice a3 l3 c3, .slice a4 l4 c4] 130))
  clear h1 h2 h3 h4 hb
  go_enter Tryz.func217, Tryz.ntmps217
  go_wp2_with fail
  refine (HR.out _ ((HB.out.alloc hB _).alloc (by simp; omega) _) (by simp; omega)).mono ?_
  rintro e w1 ⟨rfl, hb1⟩
  have hf : Below W.heap.size W w1 := (((Below.refl W.heap.size W).alloc (Nat.le_refl _) _).alloc (by simp) _).trans (hb1.mono (by simp; omega))
  obtain ⟨m0, m1, -⟩ := (K0.out.blw hb1).two
  have hk1 := K1.out.blw hb1
  rw [show (W.alloc (.cells #[.slice a1 l1 c1, .slice a2 l2 c2] 130)).heap.size = W.heap.size + 1 by simp] at hk1
  obtain ⟨n0, n1, -⟩ := hk1.two
  have HF := Lib.hid hf
  clear hb1 hf hk1
  go_wp2_with fail
  refine (HE.out _ (HB.out.trans (HF.out.mono hB))).mono ?_
  rintro e w2 ⟨rfl, nn, rfl⟩
  go_wp2
  go_ret
  exact ⟨rfl, belI_drewN HF.out nn⟩
end Go.Proofs.YtmaknkbmilcanaaGreatDoor.Qu
