
/-
  The laws' copies of groups with what they own; their marks on a group.
-/
import Derived.Test.YtmaknkbmilcanaaGreatDoorPeJ
namespace Go.Proofs.YtmaknkbmilcanaaGreatDoor.Pe
open Go.RowKit
open Go.Proofs.YtmaknkbmilcanaaGreatDoor.Gr
open Go.Proofs.YtmaknkbmilcanaaGreatDoor.Mk (own_base own_slice own_ch below_grownBy markText_any mkT Ch Ch.trans)
def NewT3 (W : World) (xs : List Tg) (e : Ending) (w' : World) : Prop := ∃ v, e = .returned v ∧ O3 w' W.heap.size v xs ∧ Below W.heap.size W w'
def NewG3 (W : World) (g : Gp) (e : Ending) (w' : World) : Prop := ∃ v, e = .returned (gV g v) ∧ O3 w' W.heap.size v g.tgs ∧ Below W.heap.size W w'
theorem O3.base {w : World} {a b : Nat} {v : Value} {ts : List Tg} (h : O3 w a v ts) (hab : b ≤ a) : O3 w b v ts := own_base h hab
theorem O3.far {w : World} {base g o : Nat} {v : Value} {ts : List Tg} (h : O3 w base v ts) (hg : g < base) (x : Value) : O3 (w.setCell ⟨g, o, none⟩ x) base v ts :=
  own_ch (S := fun b => b = g) (show Ch (fun b => b = g) w (w.setCell ⟨g, o, none⟩ x) from ⟨rfl, rfl, rfl, by simp, fun b _ hb => heap_setCell_other w ⟨g, o, none⟩ b x hb⟩) h (fun b e hb => by have := (World.ownsRow.lt h b e).1; omega)
theorem O3.far3 {w : World} {base g o : Nat} {v : Value} {ts : List Tg} (h : O3 w base v ts) (hg : g < base) (x y z : Value) : O3 (set3 w g o x y z) base v ts := ((h.far hg x).far hg y).far hg z
theorem O3_of_row {w : World} {base g cap : Nat} {xs : List Tg} {F : Nat → Value} (hr : w.rowIs g 85 (cap * 3) F) (hc : xs.length ≤ cap) (hm : cap ≤ maxLen) (hb : base ≤ g)
    (hf : ∀ i, i < xs.length → F (i * 3) = .string ⟨(xs.getD i default).url.toArray⟩ ∧ F (i * 3 + 1) = .int .i64 (xs.getD i default).pri ∧ F (i * 3 + 2) = .int .i64 (xs.getD i default).wt) :
    O3 w base (.slice (some ⟨g, 0, none⟩) xs.length cap) xs := by
  obtain ⟨C, hC, hCs, hCf⟩ := hr
  refine ⟨tgC_len xs, .inr ⟨g, cap, C, rfl, hb, hC, hc, hm, hCs, ?_⟩⟩
  apply List.ext_getElem?
  intro j
  by_cases hj : j < xs.length * 3
  · rw [List.getElem?_take_of_lt hj]
    have h1 : C.toList[j]? = some (F j) := by have := hCf j (by omega); simpa using this
    rw [h1]
    obtain ⟨g0, g1, g2⟩ := tgC_get xs (j / 3) (by omega)
    obtain ⟨f0, f1, f2⟩ := hf (j / 3) (by omega)
    rcases (show j % 3 = 0 ∨ j % 3 = 1 ∨ j % 3 = 2 by omega) with e | e | e
    · have ej : j = j / 3 * 3 := by omega
      rw [← ej] at g0 f0
      rw [g0, f0]
    · have ej : j = j / 3 * 3 + 1 := by omega
      rw [← ej] at g1 f1
      rw [g1, f1]
    · have ej : j = j / 3 * 3 + 2 := by omega
      rw [← ej] at g2 f2
      rw [g2, f2]
  · rw [List.getElem?_eq_none (by simp; omega), List.getElem?_eq_none (by rw [tgC_len]; omega)]
theorem tRel_end3 {W w' : World} {xs : List Tg} (h : TRel W xs xs.length w') (hm : xs.length ≤ 1048576) : NewT3 W xs (.returned (.slice (some ⟨W.heap.size, 0, none⟩) xs.length xs.length)) w' := by
  obtain ⟨F, hr, hf, hb⟩ := h
  exact ⟨_, rfl, O3_of_row hr (Nat.le_refl _) (by unfold maxLen; omega) (Nat.le_refl _) hf, hb⟩
set_option maxHeartbeats 1000000 in
theorem toTs3_any (B : Nat) (w0 : World) (xs : List Tg) (v : Value) (h : TgIn (· < B) w0 v xs) (hsz : xs.length ≤ 1048576) (W : World) (hb : Below B w0 W) (hB : B ≤ W.heap.size) :
    Calls Tryz.prog 276 #[v] W (NewT3 W xs) := by
  obtain ⟨a, cap, b, off, rfl, hcap, hm, -, ha, hc⟩ := h
  have HC := Lib.hid hc
  have HA := Lib.hid ha
  have HB := Lib.hid hb
  clear hc ha hb
  have hmk := fun w => run_makeT xs.length hsz w
  have HR0 := Lib.hid (tRel_start W xs)
  go_enter Tryz.func276, Tryz.ntmps276
  go_wp2
  go_loopw [4] (fun i wr => ∃ (k : Nat), k ≤ xs.length ∧ i = .int .i64 k ∧ TRel W xs k wr) (fun i _ => xs.length - (intOf i).toNat)
  case atStart => exact ⟨0, by omega, rfl, HR0.out⟩
  case round =>
    obtain ⟨k, hk, rfl, hR⟩ := hrel
    by_cases hlt : k < xs.length
    · obtain ⟨ea, hlb⟩ := HA.out (by omega)
      subst ea
      obtain ⟨F, hr, hf, hN⟩ := hR
      have hW : Below B w0 wr := HB.out.trans (hN.mono hB)
      obtain ⟨d0, d1, d2⟩ := HC.out k hlt
      have q0 := (hW.cell (p := ⟨b, off + k * 3, none⟩) hlb).trans d0
      have q1 := (hW.cell (p := ⟨b, off + k * 3 + 1, none⟩) hlb).trans d1
      have q2 := (hW.cell (p := ⟨b, off + k * 3 + 2, none⟩) hlb).trans d2
      clear d0 d1 d2
      have HF := Lib.hid hf
      have HN := Lib.hid hN
      have HR := Lib.hid hr
      clear hf hN hW hr
      generalize hx : xs.getD k default = x at *
      have HX := Lib.hid hx
      have HK := Lib.hid (toTg_any x wr)
      clear hx
      go_wp2_with fail
      refine HK.out.mono ?_
      rintro e w2 ⟨rfl, hb2⟩
      have z2 := hb2.size
      have hr2 := HR.out.of_block (hb2.block _ HR.out.lt)
      have p0 := hr2.cell (i := k * 3) (by omega)
      have p1 := hr2.cell (i := k * 3 + 1) (by omega)
      have p2 := hr2.cell (i := k * 3 + 2) (by omega)
      have pf := hr2.frozen
      have HR2 := Lib.hid hr2
      have HB2 := Lib.hid hb2
      clear hr2 hb2
      go_wp2
      go_roundw
      case rel => exact ⟨k + 1, by omega, by go_num, tRel_step HX.out HR2.out HF.out HN.out HR.out.lt HB2.out⟩
      case measure => simp [intOf]; omega
    · obtain rfl : k = xs.length := by omega
      have hF := Lib.hid (tRel_end3 hR hsz)
      go_wp2
      go_ret
      exact hF.out
set_option maxHeartbeats 1000000 in
theorem toG3_any (B : Nat) (w0 : World) (g : Gp) (tv : Value) (h : TgIn (· < B) w0 tv g.tgs) (hsz : g.tgs.length ≤ 1048576) (W : World) (hb : Below B w0 W) (hB : B ≤ W.heap.size) :
    Calls Tryz.prog 204 #[gV g tv] W (NewG3 W g) := by
  obtain ⟨n, k, xs⟩ := g
  have TT := Lib.hid (toTs3_any B w0 xs tv h hsz)
  have HB := Lib.hid hb
  clear h hb
  go_enter Tryz.func204, Tryz.ntmps204
  go_wp2_with fail
  have k1 := alloc3_1 W (.cells #[.string ⟨n.toArray⟩, .int .i64 k, tv] 170) (.cells #[.string ⟨#[]⟩, .int .i64 0, .slice none 0 0] 82) (.cells #[.string ⟨n.toArray⟩, .int .i64 k, .slice none 0 0] 82)
  have k2 := alloc3_2 W (.cells #[.string ⟨n.toArray⟩, .int .i64 k, tv] 170) (.cells #[.string ⟨#[]⟩, .int .i64 0, .slice none 0 0] 82) (.cells #[.string ⟨n.toArray⟩, .int .i64 k, .slice none 0 0] 82)
  have hb3 : Below W.heap.size W (((W.alloc (.cells #[.string ⟨n.toArray⟩, .int .i64 k, tv] 170)).alloc (.cells #[.string ⟨#[]⟩, .int .i64 0, .slice none 0 0] 82)).alloc (.cells #[.string ⟨n.toArray⟩, .int .i64 k, .slice none 0 0] 82)) := (((Below.refl _ _).alloc (Nat.le_refl _) _).alloc (by simp) _).alloc (by simp; omega) _
  have z3 : W.heap.size + 3 = (((W.alloc (.cells #[.string ⟨n.toArray⟩, .int .i64 k, tv] 170)).alloc (.cells #[.string ⟨#[]⟩, .int .i64 0, .slice none 0 0] 82)).alloc (.cells #[.string ⟨n.toArray⟩, .int .i64 k, .slice none 0 0] 82)).heap.size := by simp
  generalize (((W.alloc (.cells #[.string ⟨n.toArray⟩, .int .i64 k, tv] 170)).alloc (.cells #[.string ⟨#[]⟩, .int .i64 0, .slice none 0 0] 82)).alloc (.cells #[.string ⟨n.toArray⟩, .int .i64 k, .slice none 0 0] 82)) = w3 at *
  refine (TT.out w3 (HB.out.trans (hb3.mono hB)) (by omega)).mono ?_
  rintro e w4 ⟨v4, rfl, ht4, hb4⟩
  obtain ⟨a4, c4, rfl⟩ := ht4.slice
  have z4 := hb4.size
  have k1' := (hb4.block _ (by omega)).trans k1
  have k2' := (hb4.block _ (by omega)).trans k2
  obtain ⟨m10, m11, m12, m1f⟩ := three_cells k1'
  obtain ⟨m20, m21, m22, m2f⟩ := three_cells k2'
  have hfin : (set3 (w4.setCell ⟨W.heap.size + 1 + 1, 2, none⟩ (.slice a4 xs.length c4)) (W.heap.size + 1) 0 (.string ⟨n.toArray⟩) (.int .i64 k) (.slice a4 xs.length c4)).heap[W.heap.size + 1]? = some (.cells #[.string ⟨n.toArray⟩, .int .i64 k, .slice a4 xs.length c4] 82 (0, 0)) :=
    heap_set (heap_set (heap_set ((heap_setCell_other _ ⟨W.heap.size + 1 + 1, 2, none⟩ _ _ (by simp)).trans k1') 0 (.string ⟨n.toArray⟩)) 1 (.int .i64 k)) 2 (.slice a4 xs.length c4)
  have HFIN := Lib.hid hfin
  have hpost : NewG3 W ⟨n, k, xs⟩ (.returned (gV ⟨n, k, xs⟩ (.slice a4 xs.length c4))) (set3 (w4.setCell ⟨W.heap.size + 1 + 1, 2, none⟩ (.slice a4 xs.length c4)) (W.heap.size + 1) 0 (.string ⟨n.toArray⟩) (.int .i64 k) (.slice a4 xs.length c4)) := by
    refine ⟨_, rfl, (O3.base (O3.far3 (O3.far (o := 2) ht4 (by omega) _) (by omega) _ _ _) (by omega)), ?_⟩
    exact ((((hb3.trans (hb4.mono (by omega))).setCell (by simp; omega) _).setCell (by simp) _).setCell (by simp) _).setCell (by simp) _
  have HP := Lib.hid hpost
  clear hfin hpost k1 k2 k1' k2' ht4 hb4 hb3
  go_wp2
  exact bodyPost_ret (ret_G Tryz.results204 rfl HFIN.out) rfl HP.out
end Go.Proofs.YtmaknkbmilcanaaGreatDoor.Pe
