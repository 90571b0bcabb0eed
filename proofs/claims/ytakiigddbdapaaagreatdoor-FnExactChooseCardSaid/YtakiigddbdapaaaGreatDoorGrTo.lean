
/-
  The laws' copies of groups: toTarget, toTargetS, toGroup: new memory that holds the same.
-/
import Derived.Test.YtakiigddbdapaaaGreatDoorGrLaws
import Derived.Deep.RegionHeld
import Derived.Deep.RegionHeld3
import Derived.Deep.RegionWith
import Derived.Deep.Draws
namespace Go.Proofs.YtakiigddbdapaaaGreatDoor.Gr
open Go.RowKit
def NewT (W : World) (xs : List Tg) (e : Ending) (w' : World) : Prop := ∃ v, e = .returned v ∧ TgIn (fun b => W.heap.size ≤ b ∧ b < w'.heap.size) w' v xs ∧ Below W.heap.size W w'
def NewG (W : World) (g : Gp) (e : Ending) (w' : World) : Prop := ∃ v, e = .returned (gV g v) ∧ TgIn (fun b => W.heap.size ≤ b ∧ b < w'.heap.size) w' v g.tgs ∧ Below W.heap.size W w'
theorem Tryz.infoT : (Tryz.prog.info? 55).map (fun i => (i.zero, i.size, i.bytes)) = some (some (.agg #[.string ByteArray.empty, .int .i64 0, .int .i64 0]), 3, 32) := by kernel_rfl
def TRel (W : World) (xs : List Tg) (k : Nat) (wr : World) : Prop :=
  ∃ (F : Nat → Value), wr.rowIs W.heap.size 55 (xs.length * 3) F ∧
    (∀ i, i < k → F (i * 3) = .string ⟨(xs.getD i default).url.toArray⟩ ∧ F (i * 3 + 1) = .int .i64 (xs.getD i default).pri ∧ F (i * 3 + 2) = .int .i64 (xs.getD i default).wt) ∧ Below W.heap.size W wr
theorem run_makeT (n : Nat) (hn : n ≤ 1048576) (w : World) : (Instr.makeSlice 29 (.int .i64 (n : Int)) (.int .i64 (n : Int))).run Tryz.prog w = .ok (.slice (some ⟨w.heap.size, 0, none⟩) n n) (w.alloc (.cells (madeCells #[.string ByteArray.empty, .int .i64 0, .int .i64 0] (n * 3)) 55)) := by
  obtain ⟨i0, hi, hz0, hz1, hz2⟩ := info_parts Tryz.infoT
  have h := run_make (P := Tryz.prog) w 29 55 i0 _ Tryz.underlying29 hi hz0 .i64 .i64 n n (by omega) (by omega) (by rw [hz2]; omega) (by omega)
  rw [hz1] at h
  simpa [Value.cells] using h
theorem tRel_start (W : World) (xs : List Tg) : TRel W xs 0 (W.alloc (.cells (madeCells #[.string ByteArray.empty, .int .i64 0, .int .i64 0] (xs.length * 3)) 55)) := by
  refine ⟨fun i => #[.string ByteArray.empty, .int .i64 0, .int .i64 0][i % 3]!, ?_, fun i hi => by omega, (Below.refl _ _).alloc (Nat.le_refl _) _⟩
  exact ⟨_, heap_alloc_new _ _, size_madeCells _ _, fun i hi => by simp [madeCells, hi]⟩
theorem tRel_end {W w' : World} {xs : List Tg} (h : TRel W xs xs.length w') (hm : xs.length ≤ 1048576) (hl : ∀ i, i < xs.length → (xs.getD i default).url.length ≤ 9223372036854775807) : NewT W xs (.returned (.slice (some ⟨W.heap.size, 0, none⟩) xs.length xs.length)) w' := by
  obtain ⟨F, hr, hf, hb⟩ := h
  refine ⟨_, rfl, ⟨some ⟨W.heap.size, 0, none⟩, xs.length, W.heap.size, 0, rfl, Nat.le_refl _, by omega, hl, fun _ => ⟨rfl, Nat.le_refl _, hr.lt⟩, fun i hi => ?_⟩, hb⟩
  obtain ⟨f0, f1, f2⟩ := hf i hi
  simp only [Nat.zero_add]
  exact ⟨by rw [hr.cell (by omega), f0], by rw [hr.cell (by omega), f1], by rw [hr.cell (by omega), f2]⟩
abbrev set3 (w : World) (g o : Nat) (a b c : Value) : World := ((w.setCell ⟨g, o, none⟩ a).setCell ⟨g, o + 1, none⟩ b).setCell ⟨g, o + 2, none⟩ c
theorem tRel_step {W wr w2 : World} {xs : List Tg} {k : Nat} {x : Tg} {F : Nat → Value} (hx : xs.getD k default = x) (hr : w2.rowIs W.heap.size 55 (xs.length * 3) F)
    (hf : ∀ i, i < k → F (i * 3) = .string ⟨(xs.getD i default).url.toArray⟩ ∧ F (i * 3 + 1) = .int .i64 (xs.getD i default).pri ∧ F (i * 3 + 2) = .int .i64 (xs.getD i default).wt) (hN : Below W.heap.size W wr) (hlt : W.heap.size < wr.heap.size) (hb2 : Below wr.heap.size wr w2) :
    TRel W xs (k + 1) (set3 w2 W.heap.size (k * 3) (.string ⟨x.url.toArray⟩) (.int .i64 x.pri) (.int .i64 x.wt)) := by
  refine ⟨fun j => if j = k * 3 + 2 then .int .i64 x.wt else if j = k * 3 + 1 then .int .i64 x.pri else if j = k * 3 then .string ⟨x.url.toArray⟩ else F j, ((hr.set _ _).set _ _).set _ _, fun i hi => ?_, ?_⟩
  · by_cases e : i = k
    · subst e
      rw [hx]
      refine ⟨?_, ?_, ?_⟩ <;> simp
    · obtain ⟨f0, f1, f2⟩ := hf i (by omega)
      refine ⟨?_, ?_, ?_⟩ <;> dsimp only
      · rw [if_neg (by omega), if_neg (by omega), if_neg (by omega), f0]
      · rw [if_neg (by omega), if_neg (by omega), if_neg (by omega), f1]
      · rw [if_neg (by omega), if_neg (by omega), if_neg (by omega), f2]
  · have hb3 : Below W.heap.size W w2 := hN.trans (hb2.mono (by omega))
    exact ((hb3.setCell (by simp) _).setCell (by simp) _).setCell (by simp) _
theorem three_cells {w : World} {g : Nat} {a b c : Value} {T : TypeId} (h : w.heap[g]? = some (.cells #[a, b, c] T (0, 0))) :
    w.cell? ⟨g, 0, none⟩ = some a ∧ w.cell? ⟨g, 1, none⟩ = some b ∧ w.cell? ⟨g, 2, none⟩ = some c ∧ ∀ o, w.frozen? ⟨g, o, none⟩ = false :=
  ⟨cell_of_row w g 0 _ _ _ h, cell_of_row w g 1 _ _ _ h, cell_of_row w g 2 _ _ _ h, fun o => frozen_of_row w g o _ _ h⟩
theorem alloc3_0 (W : World) (a b c : Obj) : (((W.alloc a).alloc b).alloc c).heap[W.heap.size]? = some a := by
  rw [heap_alloc_old _ _ (by simp; omega), heap_alloc_old _ _ (by simp), heap_alloc_new]
theorem alloc3_1 (W : World) (a b c : Obj) : (((W.alloc a).alloc b).alloc c).heap[W.heap.size + 1]? = some b := by
  rw [heap_alloc_old _ _ (by simp)]; exact heap_alloc2_new W a b
theorem alloc3_2 (W : World) (a b c : Obj) : (((W.alloc a).alloc b).alloc c).heap[W.heap.size + 1 + 1]? = some c := by
  have := heap_alloc2_new (W.alloc a) b c
  simpa using this
theorem heap_set {w : World} {b : Nat} {C : Array Value} {T : TypeId} {fr : Nat × Nat} (hb : w.heap[b]? = some (.cells C T fr)) (o : Nat) (v : Value) : (w.setCell ⟨b, o, none⟩ v).heap[b]? = some (.cells (C.setIfInBounds o v) T fr) := by
  simp [World.setCell, Array.getElem?_modify, hb]
theorem ret_T {fn : Func} {a B : Nat} {tmps : Array Value} {X : World} {c0 c1 c2 : Value} {T : TypeId} (hres : fn.results = #[.cell a 55]) (ha : tmps[a]?.getD undef = .pointer (some ⟨B, 0, none⟩)) (h : X.heap[B]? = some (.cells #[c0, c1, c2] T (0, 0))) :
    (results fn tmps).run Tryz.prog X = .ok (.agg #[c0, c1, c2]) X := by
  obtain ⟨k0, k1, k2, _⟩ := three_cells h
  simp [results, hres, ha, go_sem, k0, k1, k2]
theorem ret_G {fn : Func} {a B : Nat} {tmps : Array Value} {X : World} {c0 c1 c2 : Value} {T : TypeId} (hres : fn.results = #[.cell a 31]) (ha : tmps[a]?.getD undef = .pointer (some ⟨B, 0, none⟩)) (h : X.heap[B]? = some (.cells #[c0, c1, c2] T (0, 0))) :
    (results fn tmps).run Tryz.prog X = .ok (.agg #[c0, c1, c2]) X := by
  obtain ⟨k0, k1, k2, _⟩ := three_cells h
  simp [results, hres, ha, go_sem, k0, k1, k2]
theorem set3_far (w : World) (g o b : Nat) (a c d : Value) (h : b ≠ g) : (set3 w g o a c d).heap[b]? = w.heap[b]? :=
  (heap_setCell_other _ ⟨g, o + 2, none⟩ b d h).trans ((heap_setCell_other _ ⟨g, o + 1, none⟩ b c h).trans (heap_setCell_other _ ⟨g, o, none⟩ b a h))
theorem set3_size (w : World) (g o : Nat) (a c d : Value) : (set3 w g o a c d).heap.size = w.heap.size := by simp [set3]
set_option maxHeartbeats 1000000 in
theorem toTg_any (t : Tg) (W : World) : Calls Tryz.prog 61 #[tV t] W fun e w' => e = .returned (tV t) ∧ Below W.heap.size W w' := by
  go_enter Tryz.func61, Tryz.ntmps61
  have hf : ((((W.alloc (.cells #[.string ⟨t.url.toArray⟩, .int .i64 t.pri, .int .i64 t.wt] 62)).alloc (.cells #[.string ⟨t.url.toArray⟩, .int .i64 t.pri, .int .i64 t.wt] 55)).alloc (.cells #[.string ⟨t.url.toArray⟩, .int .i64 t.pri, .int .i64 t.wt] 55))).heap[W.heap.size + 1]? = some (.cells #[.string ⟨t.url.toArray⟩, .int .i64 t.pri, .int .i64 t.wt] 55) := alloc3_1 W _ _ _
  go_wp2
  exact bodyPost_ret (ret_T Tryz.results61 rfl hf) rfl ⟨rfl, (((Below.refl _ _).alloc (Nat.le_refl _) _).alloc (by simp) _).alloc (by simp; omega) _⟩
set_option maxHeartbeats 1000000 in
theorem toTs_any (B : Nat) (w0 : World) (xs : List Tg) (v : Value) (h : TgIn (· < B) w0 v xs) (hsz : xs.length ≤ 1048576) (W : World) (hb : Below B w0 W) (hB : B ≤ W.heap.size) :
    Calls Tryz.prog 33 #[v] W (NewT W xs) := by
  obtain ⟨a, cap, b, off, rfl, hcap, hm, hlen, ha, hc⟩ := h
  have HC := Lib.hid hc
  have HL := Lib.hid hlen
  have HA := Lib.hid ha
  have HB := Lib.hid hb
  clear hc ha hb hlen
  have hmk := fun w => run_makeT xs.length hsz w
  have HR0 := Lib.hid (tRel_start W xs)
  go_enter Tryz.func33, Tryz.ntmps33
  go_wp2
  go_loopw [4] (fun i wr => ∃ (k : Nat), k ≤ xs.length ∧ i = .int .i64 k ∧ TRel W xs k wr) (fun i _ => xs.length - (intOf i).toNat)
  case atStart => exact ⟨0, by omega, rfl, HR0.out⟩
  case round =>
    obtain ⟨k, hk, rfl, hR⟩ := hrel
    by_cases hlt : k < xs.length
    · obtain ⟨ea, hlb⟩ := HA.out (by omega)
      subst ea
      obtain ⟨F, hr, hf, hN⟩ := hR
      have hW : Below B w0 wr := HB.out.trans (hN.mono hB)
      obtain ⟨d0, d1, d2⟩ := HC.out k hlt
      have q0 := (hW.cell (p := ⟨b, off + k * 3, none⟩) hlb).trans d0
      have q1 := (hW.cell (p := ⟨b, off + k * 3 + 1, none⟩) hlb).trans d1
      have q2 := (hW.cell (p := ⟨b, off + k * 3 + 2, none⟩) hlb).trans d2
      clear d0 d1 d2
      have HF := Lib.hid hf
      have HN := Lib.hid hN
      have HR := Lib.hid hr
      clear hf hN hW hr
      generalize hx : xs.getD k default = x at *
      have HX := Lib.hid hx
      have HK := Lib.hid (toTg_any x wr)
      clear hx
      go_wp2_with fail
      refine HK.out.mono ?_
      rintro e w2 ⟨rfl, hb2⟩
      have z2 := hb2.size
      have hr2 := HR.out.of_block (hb2.block _ HR.out.lt)
      have p0 := hr2.cell (i := k * 3) (by omega)
      have p1 := hr2.cell (i := k * 3 + 1) (by omega)
      have p2 := hr2.cell (i := k * 3 + 2) (by omega)
      have pf := hr2.frozen
      have HR2 := Lib.hid hr2
      have HB2 := Lib.hid hb2
      clear hr2 hb2
      go_wp2
      go_roundw
      case rel => exact ⟨k + 1, by omega, by go_num, tRel_step HX.out HR2.out HF.out HN.out HR.out.lt HB2.out⟩
      case measure => simp [intOf]; omega
    · obtain rfl : k = xs.length := by omega
      have hF := Lib.hid (tRel_end hR hsz HL.out)
      go_wp2
      go_ret
      exact hF.out
set_option maxHeartbeats 1000000 in
theorem toG_any (B : Nat) (w0 : World) (g : Gp) (tv : Value) (h : TgIn (· < B) w0 tv g.tgs) (hsz : g.tgs.length ≤ 1048576) (W : World) (hb : Below B w0 W) (hB : B ≤ W.heap.size) :
    Calls Tryz.prog 11 #[gV g tv] W (NewG W g) := by
  obtain ⟨n, k, xs⟩ := g
  have TT := Lib.hid (toTs_any B w0 xs tv h hsz)
  have HB := Lib.hid hb
  clear h hb
  go_enter Tryz.func11, Tryz.ntmps11
  go_wp2_with fail
  have k1 := alloc3_1 W (.cells #[.string ⟨n.toArray⟩, .int .i64 k, tv] 24) (.cells #[.string ⟨#[]⟩, .int .i64 0, .slice none 0 0] 31) (.cells #[.string ⟨n.toArray⟩, .int .i64 k, .slice none 0 0] 31)
  have k2 := alloc3_2 W (.cells #[.string ⟨n.toArray⟩, .int .i64 k, tv] 24) (.cells #[.string ⟨#[]⟩, .int .i64 0, .slice none 0 0] 31) (.cells #[.string ⟨n.toArray⟩, .int .i64 k, .slice none 0 0] 31)
  have hb3 : Below W.heap.size W (((W.alloc (.cells #[.string ⟨n.toArray⟩, .int .i64 k, tv] 24)).alloc (.cells #[.string ⟨#[]⟩, .int .i64 0, .slice none 0 0] 31)).alloc (.cells #[.string ⟨n.toArray⟩, .int .i64 k, .slice none 0 0] 31)) := (((Below.refl _ _).alloc (Nat.le_refl _) _).alloc (by simp) _).alloc (by simp; omega) _
  have z3 : W.heap.size + 3 = (((W.alloc (.cells #[.string ⟨n.toArray⟩, .int .i64 k, tv] 24)).alloc (.cells #[.string ⟨#[]⟩, .int .i64 0, .slice none 0 0] 31)).alloc (.cells #[.string ⟨n.toArray⟩, .int .i64 k, .slice none 0 0] 31)).heap.size := by simp
  generalize (((W.alloc (.cells #[.string ⟨n.toArray⟩, .int .i64 k, tv] 24)).alloc (.cells #[.string ⟨#[]⟩, .int .i64 0, .slice none 0 0] 31)).alloc (.cells #[.string ⟨n.toArray⟩, .int .i64 k, .slice none 0 0] 31)) = w3 at *
  refine (TT.out w3 (HB.out.trans (hb3.mono hB)) (by omega)).mono ?_
  rintro e w4 ⟨v4, rfl, ht4, hb4⟩
  obtain ⟨a4, l4, c4, rfl⟩ := ht4.slice
  have z4 := hb4.size
  have k1' := (hb4.block _ (by omega)).trans k1
  have k2' := (hb4.block _ (by omega)).trans k2
  obtain ⟨m10, m11, m12, m1f⟩ := three_cells k1'
  obtain ⟨m20, m21, m22, m2f⟩ := three_cells k2'
  have hfin : (set3 (w4.setCell ⟨W.heap.size + 1 + 1, 2, none⟩ (.slice a4 l4 c4)) (W.heap.size + 1) 0 (.string ⟨n.toArray⟩) (.int .i64 k) (.slice a4 l4 c4)).heap[W.heap.size + 1]? = some (.cells #[.string ⟨n.toArray⟩, .int .i64 k, .slice a4 l4 c4] 31 (0, 0)) :=
    heap_set (heap_set (heap_set ((heap_setCell_other _ ⟨W.heap.size + 1 + 1, 2, none⟩ _ _ (by simp)).trans k1') 0 (.string ⟨n.toArray⟩)) 1 (.int .i64 k)) 2 (.slice a4 l4 c4)
  have HFIN := Lib.hid hfin
  have hpost : NewG W ⟨n, k, xs⟩ (.returned (gV ⟨n, k, xs⟩ (.slice a4 l4 c4))) (set3 (w4.setCell ⟨W.heap.size + 1 + 1, 2, none⟩ (.slice a4 l4 c4)) (W.heap.size + 1) 0 (.string ⟨n.toArray⟩) (.int .i64 k) (.slice a4 l4 c4)) := by
    refine ⟨_, rfl, ht4.same fun b hb => ⟨⟨by omega, by rw [set3_size]; simpa using hb.2⟩, ?_⟩, ?_⟩
    · rw [set3_far _ _ _ _ _ _ _ (by omega)]
      exact heap_setCell_other _ ⟨W.heap.size + 1 + 1, 2, none⟩ b _ (by simp; omega)
    · exact ((((hb3.trans (hb4.mono (by omega))).setCell (by simp; omega) _).setCell (by simp) _).setCell (by simp) _).setCell (by simp) _
  have HP := Lib.hid hpost
  clear hfin hpost k1 k2 k1' k2' ht4 hb4 hb3
  go_wp2
  exact bodyPost_ret (ret_G Tryz.results11 rfl HFIN.out) rfl HP.out
end Go.Proofs.YtakiigddbdapaaaGreatDoor.Gr
