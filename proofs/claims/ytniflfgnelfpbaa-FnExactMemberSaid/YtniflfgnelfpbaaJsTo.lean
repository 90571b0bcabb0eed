
/-
  The laws' copies of JSON values: toStringS, toJsonS, toJson: new memory that holds the same.
-/
import Derived.Test.YtniflfgnelfpbaaJsSize
import Derived.Deep.RegionHeld
import Derived.Deep.RegionHeld3
import Derived.Deep.RegionWith
import Derived.Deep.Draws
import Derived.Laws.Rows
import Derived.Deep.OwnRows
import Derived.Laws.MakeOwn
namespace Go.Proofs.Ytniflfgnelfpbaa.Js
open Go.RowKit
/-- a new slice of the texts ns -/
def NewTxts (W : World) (ns : List (List UInt8)) (e : Ending) (w' : World) : Prop := ∃ v, e = .returned v ∧ TxtsIn (fun b => W.heap.size ≤ b ∧ b < w'.heap.size) w' v ns ∧ Below W.heap.size W w'
theorem heap_set {w : World} {b : Nat} {C : Array Value} {T : TypeId} {fr : Nat × Nat} (hb : w.heap[b]? = some (.cells C T fr)) (o : Nat) (v : Value) : (w.setCell ⟨b, o, none⟩ v).heap[b]? = some (.cells (C.setIfInBounds o v) T fr) := by
  simp [World.setCell, Array.getElem?_modify, hb]
theorem Try.infoTxt : (Try.prog.info? 9).map (fun i => (i.zero, i.size, i.bytes)) = some (some (.string ByteArray.empty), 1, 16) := by kernel_rfl
def txtF (ns : List (List UInt8)) (k i : Nat) : Value := if i < k then .string ⟨(ns.getD i []).toArray⟩ else .string ByteArray.empty
theorem txtF_step (ns : List (List UInt8)) (k j : Nat) : (if j = k then Value.string ⟨(ns.getD k []).toArray⟩ else txtF ns k j) = txtF ns (k + 1) j := by
  unfold txtF
  by_cases e : j = k
  · subst e; rw [if_pos rfl, if_pos (by omega)]
  · rw [if_neg e]
    by_cases h : j < k
    · rw [if_pos h, if_pos (by omega)]
    · rw [if_neg h, if_neg (by omega)]
theorem newTxts_of {W w' : World} {ns : List (List UInt8)} {g : Nat} {f : Nat → Value} (hg : W.heap.size ≤ g) (hm : ns.length ≤ 9223372036854775807) (hl : ∀ i, i < ns.length → (ns.getD i []).length ≤ 9223372036854775807)
    (hr : w'.rowIs g 9 ns.length f) (hf : ∀ i, i < ns.length → f i = .string ⟨(ns.getD i []).toArray⟩) (hb : Below W.heap.size W w') : NewTxts W ns (.returned (.slice (some ⟨g, 0, none⟩) ns.length ns.length)) w' :=
  ⟨_, rfl, ⟨some ⟨g, 0, none⟩, ns.length, g, 0, rfl, Nat.le_refl _, hm, hl, fun _ => ⟨rfl, hg, hr.lt⟩, fun i hi => by rw [Nat.zero_add, hr.cell hi, hf i hi]⟩, hb⟩
set_option maxRecDepth 100000 in
set_option maxHeartbeats 1000000 in
theorem toT_any (B : Nat) (w0 : World) (ns : List (List UInt8)) (v : Value) (h : TxtsIn (· < B) w0 v ns) (hsz : ns.length ≤ 1048576) (W : World) (hb : Below B w0 W) (hB : B ≤ W.heap.size) :
    Calls Try.prog 24 #[v] W (NewTxts W ns) := by
  have h' := h.blw hb
  obtain ⟨a, cap, b, off, rfl, hcap, hm, hlen, ha, hc⟩ := h'
  have HC := Lib.hid hc
  have HL := Lib.hid hlen
  have HA := Lib.hid ha
  clear hc hlen ha h hb
  have hmk := fun w => run_make_row' (P := Try.prog) 29 9 (.string ByteArray.empty) 16 Try.underlying29 Try.infoTxt rfl .i64 .i64 ns.length (by omega) (by omega) w
  have HR0 := Lib.hid (World.rowIs_made W (.string ByteArray.empty) ns.length 9)
  have HB0 := Lib.hid ((Below.refl W.heap.size W).alloc (Nat.le_refl _) (.cells (madeCells #[.string ByteArray.empty] ns.length) 9))
  go_enter Try.func24, Try.ntmps24
  go_wp2
  go_loopw [4] (fun i wr => ∃ (k : Nat), k ≤ ns.length ∧ i = .int .i64 k ∧ wr.rowIs W.heap.size 9 ns.length (txtF ns k) ∧ Below W.heap.size W wr) (fun i _ => ns.length - (intOf i).toNat)
  case atStart => exact ⟨0, by omega, rfl, HR0.out.congr (fun i _ => by simp [txtF]), HB0.out⟩
  case round =>
    obtain ⟨k, hk, rfl, hR, hN⟩ := hrel
    by_cases hlt : k < ns.length
    · obtain ⟨ea, hlb⟩ := HA.out (by omega)
      subst ea
      have q0 := (hN.cell (p := ⟨b, off + k, none⟩) (Nat.lt_of_lt_of_le hlb hB)).trans (HC.out k hlt)
      have q1 := hR.cell hlt
      have q2 := hR.frozen k
      have hR' := Lib.hid ((hR.set k (.string ⟨(ns.getD k []).toArray⟩)).congr (fun j _ => txtF_step ns k j))
      have hN' := Lib.hid (hN.setCell (p := ⟨W.heap.size, k, none⟩) (Nat.le_refl _) (.string ⟨(ns.getD k []).toArray⟩))
      clear hR hN
      generalize ns.getD k [] = t at *
      generalize txtF ns k k = z at *
      go_wp2
      go_roundw
      case rel => exact ⟨k + 1, by omega, by go_num, hR'.out, hN'.out⟩
      case measure => simp [intOf]; omega
    · obtain rfl : k = ns.length := by omega
      have hF : NewTxts W ns (.returned (.slice (some ⟨W.heap.size, 0, none⟩) ns.length ns.length)) wr := by
        exact newTxts_of (Nat.le_refl _) (by omega) HL.out hR (fun i hi => by simp [txtF, hi]) hN
      go_wp2
      go_ret
      exact hF
theorem Try.infoJ : (Try.prog.info? 36).map (fun i => (i.zero, i.size, i.bytes)) = some (some (.agg #[.int .i64 0, .int .i64 0, .string ByteArray.empty, .slice none 0 0, .slice none 0 0]), 5, 80) := by kernel_rfl
theorem JIn.slices {S : Nat → Prop} {w : World} {j : J} {nv iv : Value} (h : JIn S w j nv iv) : (∃ a l c, nv = .slice a l c) ∧ ∃ a l c, iv = .slice a l c := by
  cases h with
  | mk a cap b off vn vi hk hn ht names hcap hm ha c0 c1 c2 c3 c4 deep =>
    obtain ⟨a', cap', _, _, rfl, _⟩ := names
    exact ⟨⟨_, _, _, rfl⟩, ⟨_, _, _, rfl⟩⟩
theorem TxtsIn.slice {S : Nat → Prop} {w : World} {v : Value} {ns : List (List UInt8)} (h : TxtsIn S w v ns) : ∃ a l c, v = .slice a l c := by
  obtain ⟨a', cap', _, _, rfl, _⟩ := h; exact ⟨_, _, _, rfl⟩
theorem LIn.slice {S : Nat → Prop} {w : World} {v : Value} {xs : List J} (h : LIn S w v xs) : ∃ a l c, v = .slice a l c := by
  obtain ⟨a', cap', _, _, _, _, rfl, _⟩ := h; exact ⟨_, _, _, rfl⟩
/-- a new value -/
def NewJ (W : World) (j : J) (e : Ending) (w' : World) : Prop := ∃ nv iv, e = .returned (jV j nv iv) ∧ JIn (fun b => W.heap.size ≤ b ∧ b < w'.heap.size) w' j nv iv ∧ Below W.heap.size W w'
def NewL (W : World) (xs : List J) (e : Ending) (w' : World) : Prop := ∃ v, e = .returned v ∧ LIn (fun b => W.heap.size ≤ b ∧ b < w'.heap.size) w' v xs ∧ Below W.heap.size W w'
/-- what has been copied after k rounds, into the block g -/
def ToRel (W : World) (xs : List J) (k : Nat) (wr : World) : Prop :=
  ∃ (F vn vi : Nat → Value), wr.rowIs W.heap.size 36 (xs.length * 5) F ∧
    (∀ i, i < k → F (i * 5) = .int .i64 (xs.getD i default).kind ∧ F (i * 5 + 1) = .int .i64 (xs.getD i default).num ∧ F (i * 5 + 2) = .string ⟨(xs.getD i default).text.toArray⟩ ∧ F (i * 5 + 3) = vn i ∧ F (i * 5 + 4) = vi i) ∧
    (∀ i, i < k → JIn (fun b => W.heap.size < b ∧ b < wr.heap.size) wr (xs.getD i default) (vn i) (vi i)) ∧ Below W.heap.size W wr
theorem run_makeJ (n : Nat) (hn : n ≤ 1048576) (w : World) : (Instr.makeSlice 34 (.int .i64 (n : Int)) (.int .i64 (n : Int))).run Try.prog w = .ok (.slice (some ⟨w.heap.size, 0, none⟩) n n) (w.alloc (.cells (madeCells #[.int .i64 0, .int .i64 0, .string ByteArray.empty, .slice none 0 0, .slice none 0 0] (n * 5)) 36)) := by
  obtain ⟨i0, hi, hz0, hz1, hz2⟩ := info_parts Try.infoJ
  have h := run_make (P := Try.prog) w 34 36 i0 _ Try.underlying34 hi hz0 .i64 .i64 n n (by omega) (by omega) (by rw [hz2]; omega) (by omega)
  rw [hz1] at h
  simpa [Value.cells] using h
theorem toRel_start (W : World) (xs : List J) : ToRel W xs 0 (W.alloc (.cells (madeCells #[.int .i64 0, .int .i64 0, .string ByteArray.empty, .slice none 0 0, .slice none 0 0] (xs.length * 5)) 36)) := by
  refine ⟨fun i => #[.int .i64 0, .int .i64 0, .string ByteArray.empty, .slice none 0 0, .slice none 0 0][i % 5]!, fun _ => undef, fun _ => undef, ?_, fun i hi => by omega, fun i hi => by omega, (Below.refl _ _).alloc (Nat.le_refl _) _⟩
  exact ⟨_, heap_alloc_new _ _, size_madeCells _ _, fun i hi => by simp [madeCells, hi]⟩
theorem toRel_end {W w' : World} {xs : List J} (h : ToRel W xs xs.length w') (hm : xs.length ≤ 1048576) : NewL W xs (.returned (.slice (some ⟨W.heap.size, 0, none⟩) xs.length xs.length)) w' := by
  obtain ⟨F, vn, vi, hr, hf, hj, hb⟩ := h
  refine ⟨_, rfl, ⟨some ⟨W.heap.size, 0, none⟩, xs.length, W.heap.size, 0, vn, vi, rfl, Nat.le_refl _, by omega, fun _ => ⟨rfl, Nat.le_refl _, hr.lt⟩, fun i hi => ?_, fun i hi => (hj i hi).mono fun b hb => ⟨by omega, hb.2⟩⟩, hb⟩
  obtain ⟨f0, f1, f2, f3, f4⟩ := hf i hi
  simp only [Nat.zero_add]
  exact ⟨by rw [hr.cell (by omega), f0], by rw [hr.cell (by omega), f1], by rw [hr.cell (by omega), f2], by rw [hr.cell (by omega), f3], by rw [hr.cell (by omega), f4]⟩
abbrev set5 (w : World) (g o : Nat) (a b c d e : Value) : World := ((((w.setCell ⟨g, o, none⟩ a).setCell ⟨g, o + 1, none⟩ b).setCell ⟨g, o + 2, none⟩ c).setCell ⟨g, o + 3, none⟩ d).setCell ⟨g, o + 4, none⟩ e
theorem set5_far (w : World) (g o b : Nat) (a c d e f : Value) (h : b ≠ g) : (set5 w g o a c d e f).heap[b]? = w.heap[b]? :=
  (heap_setCell_other _ ⟨g, o + 4, none⟩ b f h).trans ((heap_setCell_other _ ⟨g, o + 3, none⟩ b e h).trans ((heap_setCell_other _ ⟨g, o + 2, none⟩ b d h).trans ((heap_setCell_other _ ⟨g, o + 1, none⟩ b c h).trans (heap_setCell_other _ ⟨g, o, none⟩ b a h))))
theorem set5_size (w : World) (g o : Nat) (a c d e f : Value) : (set5 w g o a c d e f).heap.size = w.heap.size := by simp [set5]
theorem toRel_step {W wr w2 : World} {xs : List J} {k : Nat} {x : J} {nv iv : Value} {F wn wi : Nat → Value} (hx : xs.getD k default = x) (hr : w2.rowIs W.heap.size 36 (xs.length * 5) F)
    (hf : ∀ i, i < k → F (i * 5) = .int .i64 (xs.getD i default).kind ∧ F (i * 5 + 1) = .int .i64 (xs.getD i default).num ∧ F (i * 5 + 2) = .string ⟨(xs.getD i default).text.toArray⟩ ∧ F (i * 5 + 3) = wn i ∧ F (i * 5 + 4) = wi i)
    (hj : ∀ i, i < k → JIn (fun b => W.heap.size < b ∧ b < wr.heap.size) wr (xs.getD i default) (wn i) (wi i)) (hN : Below W.heap.size W wr) (hlt : W.heap.size < wr.heap.size)
    (hj2 : JIn (fun b => wr.heap.size ≤ b ∧ b < w2.heap.size) w2 x nv iv) (hb2 : Below wr.heap.size wr w2) :
    ToRel W xs (k + 1) (set5 w2 W.heap.size (k * 5) (.int .i64 x.kind) (.int .i64 x.num) (.string ⟨x.text.toArray⟩) nv iv) := by
  have hs := hb2.size
  refine ⟨fun j => if j = k * 5 + 4 then iv else if j = k * 5 + 3 then nv else if j = k * 5 + 2 then .string ⟨x.text.toArray⟩ else if j = k * 5 + 1 then .int .i64 x.num else if j = k * 5 then .int .i64 x.kind else F j,
    fun i => if i = k then nv else wn i, fun i => if i = k then iv else wi i, ((((hr.set _ _).set _ _).set _ _).set _ _).set _ _, fun i hi => ?_, fun i hi => ?_, ?_⟩
  · by_cases e : i = k
    · subst e
      rw [hx]
      refine ⟨?_, ?_, ?_, ?_, ?_⟩ <;> simp
    · obtain ⟨f0, f1, f2, f3, f4⟩ := hf i (by omega)
      refine ⟨?_, ?_, ?_, ?_, ?_⟩ <;> dsimp only
      · rw [if_neg (by omega), if_neg (by omega), if_neg (by omega), if_neg (by omega), if_neg (by omega), f0]
      · rw [if_neg (by omega), if_neg (by omega), if_neg (by omega), if_neg (by omega), if_neg (by omega), f1]
      · rw [if_neg (by omega), if_neg (by omega), if_neg (by omega), if_neg (by omega), if_neg (by omega), f2]
      · rw [if_neg (by omega), if_neg (by omega), if_neg (by omega), if_neg (by omega), if_neg (by omega), f3, if_neg e]
      · rw [if_neg (by omega), if_neg (by omega), if_neg (by omega), if_neg (by omega), if_neg (by omega), f4, if_neg e]
  · by_cases e : i = k
    · subst e
      rw [hx]
      simp only [if_true]
      exact hj2.same fun b hb => ⟨⟨by omega, by rw [set5_size]; exact hb.2⟩, set5_far _ _ _ _ _ _ _ _ _ (by omega)⟩
    · simp only [if_neg e]
      exact (hj i (by omega)).same fun b hb => ⟨⟨hb.1, by rw [set5_size]; omega⟩, by rw [set5_far _ _ _ _ _ _ _ _ _ (by omega)]; exact hb2.block b hb.2⟩
  · have hb3 : Below W.heap.size W w2 := hN.trans (hb2.mono (by omega))
    exact ((((hb3.setCell (by simp) _).setCell (by simp) _).setCell (by simp) _).setCell (by simp) _).setCell (by simp) _
set_option maxRecDepth 100000 in
set_option maxHeartbeats 1000000 in
theorem toL_of (B : Nat) (w0 : World) (xs : List J) (v : Value) (h : LIn (· < B) w0 v xs) (hsz : xs.length ≤ 1048576)
    (ih : ∀ i, i < xs.length → ∀ (nv iv : Value), JIn (· < B) w0 (xs.getD i default) nv iv → ∀ (W : World), Below B w0 W → B ≤ W.heap.size → Calls Try.prog 11 #[jV (xs.getD i default) nv iv] W (NewJ W (xs.getD i default)))
    (W : World) (hb : Below B w0 W) (hB : B ≤ W.heap.size) :
    Calls Try.prog 25 #[v] W (NewL W xs) := by
  obtain ⟨a, cap, b, off, vn, vi, rfl, hcap, hm, ha, hc, hd⟩ := h
  have HC := Lib.hid hc
  have HD := Lib.hid hd
  have HA := Lib.hid ha
  have HI := Lib.hid ih
  have HB := Lib.hid hb
  clear hc hd ha ih hb
  have hmk := fun w => run_makeJ xs.length hsz w
  have HR0 := Lib.hid (toRel_start W xs)
  go_enter Try.func25, Try.ntmps25
  go_wp2
  go_loopw [4] (fun i wr => ∃ (k : Nat), k ≤ xs.length ∧ i = .int .i64 k ∧ ToRel W xs k wr) (fun i _ => xs.length - (intOf i).toNat)
  case atStart => exact ⟨0, by omega, rfl, HR0.out⟩
  case round =>
    obtain ⟨k, hk, rfl, hR⟩ := hrel
    by_cases hlt : k < xs.length
    · obtain ⟨ea, hlb⟩ := HA.out (by omega)
      subst ea
      obtain ⟨F, wn, wi, hr, hf, hj, hN⟩ := hR
      have hW : Below B w0 wr := HB.out.trans (hN.mono hB)
      obtain ⟨d0, d1, d2, d3, d4⟩ := HC.out k hlt
      have q0 := (hW.cell (p := ⟨b, off + k * 5, none⟩) hlb).trans d0
      have q1 := (hW.cell (p := ⟨b, off + k * 5 + 1, none⟩) hlb).trans d1
      have q2 := (hW.cell (p := ⟨b, off + k * 5 + 2, none⟩) hlb).trans d2
      have q3 := (hW.cell (p := ⟨b, off + k * 5 + 3, none⟩) hlb).trans d3
      have q4 := (hW.cell (p := ⟨b, off + k * 5 + 4, none⟩) hlb).trans d4
      clear d0 d1 d2 d3 d4
      have HK := Lib.hid (HI.out k hlt _ _ (HD.out k hlt) wr hW (Nat.le_trans hB hN.size))
      have HF := Lib.hid hf
      have HJ := Lib.hid hj
      have HN := Lib.hid hN
      have HR := Lib.hid hr
      clear hf hj hN hW hr
      generalize hx : xs.getD k default = x at *
      have HX := Lib.hid hx
      clear hx
      generalize vn k = n1 at *
      generalize vi k = i1 at *
      go_wp2_with fail
      refine HK.out.mono ?_
      rintro e w2 ⟨nv, iv, rfl, hj2, hb2⟩
      obtain ⟨⟨an, ln, cn, rfl⟩, ⟨ai, li, ci, rfl⟩⟩ := hj2.slices
      have z2 := hb2.size
      have hr2 := HR.out.of_block (hb2.block _ HR.out.lt)
      have p0 := hr2.cell (i := k * 5) (by omega)
      have p1 := hr2.cell (i := k * 5 + 1) (by omega)
      have p2 := hr2.cell (i := k * 5 + 2) (by omega)
      have p3 := hr2.cell (i := k * 5 + 3) (by omega)
      have p4 := hr2.cell (i := k * 5 + 4) (by omega)
      have pf := hr2.frozen
      have HR2 := Lib.hid hr2
      have HJ2 := Lib.hid hj2
      have HB2 := Lib.hid hb2
      clear hr2 hj2 hb2
      go_wp2
      go_roundw
      case rel => exact ⟨k + 1, by omega, by go_num, toRel_step HX.out HR2.out HF.out HJ.out HN.out HR.out.lt HJ2.out HB2.out⟩
      case measure => simp [intOf]; omega
    · obtain rfl : k = xs.length := by omega
      have hF := Lib.hid (toRel_end hR hsz)
      go_wp2
      go_ret
      exact hF.out
theorem newJ_of {W w1 w2 : World} {k n : Int} {t : List UInt8} {ns : List (List UInt8)} {xs : List J} {nv iv : Value} (h1 : TxtsIn (fun b => W.heap.size ≤ b ∧ b < w1.heap.size) w1 nv ns) (h2 : LIn (fun b => w1.heap.size ≤ b ∧ b < w2.heap.size) w2 iv xs)
    (b1 : -9223372036854775808 ≤ k ∧ k ≤ 9223372036854775807) (b2 : -9223372036854775808 ≤ n ∧ n ≤ 9223372036854775807) (b3 : t.length ≤ 9223372036854775807) (hb1 : Below W.heap.size W w1) (hb2 : Below w1.heap.size w1 w2) :
    JIn (fun b => W.heap.size ≤ b ∧ b < w2.heap.size) w2 (.mk k n t ns xs) nv iv :=
  LIn.json (h2.same fun _ hb => ⟨⟨Nat.le_trans hb1.size hb.1, hb.2⟩, rfl⟩) (h1.same fun b hb => ⟨⟨hb.1, Nat.lt_of_lt_of_le hb.2 hb2.size⟩, hb2.block b hb.2⟩) b1 b2 b3
theorem szL_len : ∀ xs : List J, ∀ x ∈ xs, szJ x ≤ szL xs
  | [], _, h => by cases h
  | y :: ys, x, h => by
    simp only [szL]
    rcases List.mem_cons.1 h with rfl | h
    · omega
    · have := szL_len ys x h; omega
theorem five_cells {w : World} {g : Nat} {a b c d e : Value} {T : TypeId} (h : w.heap[g]? = some (.cells #[a, b, c, d, e] T (0, 0))) :
    w.cell? ⟨g, 0, none⟩ = some a ∧ w.cell? ⟨g, 1, none⟩ = some b ∧ w.cell? ⟨g, 2, none⟩ = some c ∧ w.cell? ⟨g, 3, none⟩ = some d ∧ w.cell? ⟨g, 4, none⟩ = some e ∧ ∀ o, w.frozen? ⟨g, o, none⟩ = false :=
  ⟨cell_of_row w g 0 _ _ _ h, cell_of_row w g 1 _ _ _ h, cell_of_row w g 2 _ _ _ h, cell_of_row w g 3 _ _ _ h, cell_of_row w g 4 _ _ _ h, fun o => frozen_of_row w g o _ _ h⟩
theorem alloc3_0 (W : World) (a b c : Obj) : (((W.alloc a).alloc b).alloc c).heap[W.heap.size]? = some a := by
  rw [heap_alloc_old _ _ (by simp; omega), heap_alloc_old _ _ (by simp), heap_alloc_new]
theorem alloc3_1 (W : World) (a b c : Obj) : (((W.alloc a).alloc b).alloc c).heap[W.heap.size + 1]? = some b := by
  rw [heap_alloc_old _ _ (by simp)]; exact heap_alloc2_new W a b
theorem alloc3_2 (W : World) (a b c : Obj) : (((W.alloc a).alloc b).alloc c).heap[W.heap.size + 1 + 1]? = some c := by
  have := heap_alloc2_new (W.alloc a) b c
  simpa using this
theorem ret_J {fn : Func} {a B : Nat} {tmps : Array Value} {X : World} {c0 c1 c2 c3 c4 : Value} {T : TypeId} (hres : fn.results = #[.cell a 36]) (ha : tmps[a]?.getD undef = .pointer (some ⟨B, 0, none⟩)) (h : X.heap[B]? = some (.cells #[c0, c1, c2, c3, c4] T (0, 0))) :
    (results fn tmps).run Try.prog X = .ok (.agg #[c0, c1, c2, c3, c4]) X := by
  obtain ⟨k0, k1, k2, k3, k4, _⟩ := five_cells h
  simp [results, hres, ha, go_sem, k0, k1, k2, k3, k4]
set_option maxRecDepth 100000 in
set_option maxHeartbeats 1000000 in
theorem toJ_go (B : Nat) (w0 : World) (j : J) : ∀ (nv iv : Value), JIn (· < B) w0 j nv iv → szJ j ≤ 1048576 → ∀ (W : World), Below B w0 W → B ≤ W.heap.size →
    Calls Try.prog 11 #[jV j nv iv] W (NewJ W j) := by
  induction j using J.ind with
  | h k n t ns xs ih =>
    intro nv iv h hs W hb hB
    unfold szJ at hs
    obtain ⟨hL, hN, b1, b2, b3⟩ := h.inv
    have TL := Lib.hid (toL_of B w0 xs iv hL (by omega) (fun i hi nv iv h' => ih _ (by simp [hi]) nv iv h' (by have := szL_len xs (xs.getD i default) (by simp [hi]); omega)))
    have TT := Lib.hid (toT_any B w0 ns nv hN (by omega))
    have HB := Lib.hid hb
    clear ih hL hN h hb
    show Calls _ _ #[.agg #[.int .i64 k, .int .i64 n, .string ⟨t.toArray⟩, nv, iv]] _ _
    go_enter Try.func11, Try.ntmps11
    go_wp2_with fail
    have k0 := alloc3_0 W (.cells #[.int .i64 k, .int .i64 n, .string ⟨t.toArray⟩, nv, iv] 32) (.cells #[.int .i64 0, .int .i64 0, .string ⟨#[]⟩, .slice none 0 0, .slice none 0 0] 36) (.cells #[.int .i64 k, .int .i64 n, .string ⟨t.toArray⟩, .slice none 0 0, .slice none 0 0] 36)
    have k1 := alloc3_1 W (.cells #[.int .i64 k, .int .i64 n, .string ⟨t.toArray⟩, nv, iv] 32) (.cells #[.int .i64 0, .int .i64 0, .string ⟨#[]⟩, .slice none 0 0, .slice none 0 0] 36) (.cells #[.int .i64 k, .int .i64 n, .string ⟨t.toArray⟩, .slice none 0 0, .slice none 0 0] 36)
    have k2 := alloc3_2 W (.cells #[.int .i64 k, .int .i64 n, .string ⟨t.toArray⟩, nv, iv] 32) (.cells #[.int .i64 0, .int .i64 0, .string ⟨#[]⟩, .slice none 0 0, .slice none 0 0] 36) (.cells #[.int .i64 k, .int .i64 n, .string ⟨t.toArray⟩, .slice none 0 0, .slice none 0 0] 36)
    have hb3 : Below W.heap.size W (((W.alloc (.cells #[.int .i64 k, .int .i64 n, .string ⟨t.toArray⟩, nv, iv] 32)).alloc (.cells #[.int .i64 0, .int .i64 0, .string ⟨#[]⟩, .slice none 0 0, .slice none 0 0] 36)).alloc (.cells #[.int .i64 k, .int .i64 n, .string ⟨t.toArray⟩, .slice none 0 0, .slice none 0 0] 36)) := (((Below.refl _ _).alloc (Nat.le_refl _) _).alloc (by simp) _).alloc (by simp; omega) _
    have z3 : W.heap.size + 3 = (((W.alloc (.cells #[.int .i64 k, .int .i64 n, .string ⟨t.toArray⟩, nv, iv] 32)).alloc (.cells #[.int .i64 0, .int .i64 0, .string ⟨#[]⟩, .slice none 0 0, .slice none 0 0] 36)).alloc (.cells #[.int .i64 k, .int .i64 n, .string ⟨t.toArray⟩, .slice none 0 0, .slice none 0 0] 36)).heap.size := by simp
    generalize (((W.alloc (.cells #[.int .i64 k, .int .i64 n, .string ⟨t.toArray⟩, nv, iv] 32)).alloc (.cells #[.int .i64 0, .int .i64 0, .string ⟨#[]⟩, .slice none 0 0, .slice none 0 0] 36)).alloc (.cells #[.int .i64 k, .int .i64 n, .string ⟨t.toArray⟩, .slice none 0 0, .slice none 0 0] 36)) = w3 at *
    refine (TT.out w3 (HB.out.trans (hb3.mono hB)) (by omega)).mono ?_
    rintro e w4 ⟨v4, rfl, ht4, hb4⟩
    obtain ⟨a4, l4, c4, rfl⟩ := ht4.slice
    have z4 := hb4.size
    have m0 := five_cells ((hb4.block _ (by omega)).trans k0)
    have m2 := five_cells ((hb4.block _ (by omega)).trans k2)
    have k1' := (hb4.block _ (by omega)).trans k1
    have k2' := (hb4.block _ (by omega)).trans k2
    have K1 := Lib.hid k1'
    have K2 := Lib.hid k2'
    have HT := Lib.hid ht4
    have H3 := Lib.hid hb3
    have H4 := Lib.hid hb4
    have Z3 := Lib.hid z3
    clear k0 k1 k2 k1' k2' ht4 hb3 hb4 z3
    obtain ⟨-, -, -, -, m04, -⟩ := m0
    obtain ⟨m20, m21, m22, m23, m24, m2f⟩ := m2
    go_wp2_with fail
    have hb5 : Below W.heap.size W (w4.setCell ⟨W.heap.size + 1 + 1, 3, none⟩ (.slice a4 l4 c4)) := (H3.out.trans (H4.out.mono (by have := Z3.out; omega))).setCell (by simp; omega) _
    refine (TL.out (w4.setCell ⟨W.heap.size + 1 + 1, 3, none⟩ (.slice a4 l4 c4)) (HB.out.trans (hb5.mono hB)) (by simp; have := Z3.out; omega)).mono ?_
    rintro e w6 ⟨v6, rfl, hl6, hb6⟩
    obtain ⟨a6, l6, c6, rfl⟩ := hl6.slice
    have z6 : w4.heap.size ≤ w6.heap.size := by simpa using hb6.size
    have k2 := (hb6.block _ (by simp; have := Z3.out; omega)).trans (heap_set K2.out 3 (.slice a4 l4 c4))
    have k1 := (hb6.block _ (by simp; have := Z3.out; omega)).trans ((heap_setCell_other _ ⟨W.heap.size + 1 + 1, 3, none⟩ _ _ (by simp)).trans K1.out)
    have m2 := five_cells k2
    have m1 := five_cells k1
    have K16 := Lib.hid k1
    have hTT : TxtsIn (fun b => W.heap.size ≤ b ∧ b < w4.heap.size) (w4.setCell ⟨W.heap.size + 1 + 1, 3, none⟩ (.slice a4 l4 c4)) (.slice a4 l4 c4) ns :=
      HT.out.same fun b hb => ⟨⟨by have := Z3.out; omega, hb.2⟩, heap_setCell_other _ ⟨W.heap.size + 1 + 1, 3, none⟩ b _ (by have := Z3.out; simp; omega)⟩
    have hJ : JIn (fun b => w3.heap.size ≤ b ∧ b < w6.heap.size) w6 (.mk k n t ns xs) (.slice a4 l4 c4) (.slice a6 l6 c6) :=
      LIn.json (hl6.same fun _ hb => ⟨⟨by have := hb.1; simp at this; omega, hb.2⟩, rfl⟩) (HT.out.same fun b hb => ⟨⟨hb.1, by omega⟩, (hb6.block b (by simp; omega)).trans (heap_setCell_other _ ⟨W.heap.size + 1 + 1, 3, none⟩ b _ (by have := Z3.out; simp; omega))⟩) b1 b2 b3
    have hB6 : Below W.heap.size W w6 := hb5.trans (hb6.mono (by simp; have := Z3.out; omega))
    have HJ := Lib.hid hJ
    have H6 := Lib.hid hB6
    clear hl6 hb6 k1 k2 hTT hJ hB6 hb5 m20 m21 m22 m23 m24 m2f m04
    obtain ⟨m20, m21, m22, m23, m24, m2f⟩ := m2
    obtain ⟨m10, m11, m12, m13, m14, m1f⟩ := m1
    have hfin : (set5 (w6.setCell ⟨W.heap.size + 1 + 1, 4, none⟩ (.slice a6 l6 c6)) (W.heap.size + 1) 0 (.int .i64 k) (.int .i64 n) (.string ⟨t.toArray⟩) (.slice a4 l4 c4) (.slice a6 l6 c6)).heap[W.heap.size + 1]? = some (.cells #[.int .i64 k, .int .i64 n, .string ⟨t.toArray⟩, .slice a4 l4 c4, .slice a6 l6 c6] 36 (0, 0)) :=
      heap_set (heap_set (heap_set (heap_set (heap_set ((heap_setCell_other _ ⟨W.heap.size + 1 + 1, 4, none⟩ _ _ (by simp)).trans K16.out) 0 (.int .i64 k)) 1 (.int .i64 n)) 2 (.string ⟨t.toArray⟩)) 3 (.slice a4 l4 c4)) 4 (.slice a6 l6 c6)
    have HFIN := Lib.hid hfin
    have hpost : NewJ W (.mk k n t ns xs) (.returned (jV (.mk k n t ns xs) (.slice a4 l4 c4) (.slice a6 l6 c6))) (set5 (w6.setCell ⟨W.heap.size + 1 + 1, 4, none⟩ (.slice a6 l6 c6)) (W.heap.size + 1) 0 (.int .i64 k) (.int .i64 n) (.string ⟨t.toArray⟩) (.slice a4 l4 c4) (.slice a6 l6 c6)) := by
      refine ⟨_, _, rfl, HJ.out.same fun b hb => ⟨⟨by have := Z3.out; omega, by rw [set5_size]; simpa using hb.2⟩, ?_⟩, ?_⟩
      · rw [set5_far _ _ _ _ _ _ _ _ _ (by have := Z3.out; omega)]
        exact heap_setCell_other _ ⟨W.heap.size + 1 + 1, 4, none⟩ b _ (by have := Z3.out; simp; omega)
      · exact (((((H6.out.setCell (by simp; omega) _).setCell (by simp) _).setCell (by simp) _).setCell (by simp) _).setCell (by simp) _).setCell (by simp) _
    have HP := Lib.hid hpost
    clear hfin hpost
    go_wp2
    exact bodyPost_ret (ret_J Try.results11 rfl HFIN.out) rfl HP.out
theorem toJ_any (j : J) (nv iv : Value) (W : World) (h : JIn (· < W.heap.size) W j nv iv) (hs : szJ j ≤ 1048576) : Calls Try.prog 11 #[jV j nv iv] W (NewJ W j) :=
  toJ_go W.heap.size W j nv iv h hs W (Below.refl _ _) (Nat.le_refl _)
end Go.Proofs.Ytniflfgnelfpbaa.Js
