
/-
  The walks of the program's functions of chapter 2 that read a URL: the parts copied, the split, the reading itself.
-/
import Derived.Test.YtniflfgnelfpbaaDoorUrlImplH
import Derived.Test.YtniflfgnelfpbaaDoorUrlLawB
namespace Go.Proofs.YtniflfgnelfpbaaDoor.Ul
open Go.RowKit
attribute [local go_sem] alloc_drewN setCell_drewN
theorem ret_one {fn : Func} {a B : Nat} {tmps : Array Value} {X : World} {u : U} (hres : fn.results = #[.cell a 67]) (ha : tmps[a]?.getD undef = .pointer (some ⟨B, 0, none⟩)) (h : UAt X B u) : (results fn tmps).run Tryd.prog X = .ok (uV u) X := by
  simp [results, hres, ha, go_sem, h.k0, h.k1, h.k2, h.k3, h.k4, h.k5, h.k6, h.k7, h.k8]
set_option maxRecDepth 100000 in
set_option maxHeartbeats 4000000 in
theorem ownParts_any (u : U) (w : World) (hl : sizeU u ≤ 140737488351232) : Calls Tryd.prog 76 #[uV u] w fun e w' => e = .returned (uV u) ∧ Below w.heap.size w w' := by
  unfold sizeU at hl
  have V0' := (UAt.new w u).alloc (.cells #[.string ⟨#[]⟩, .string ⟨#[]⟩, .string ⟨#[]⟩, .int .i64 0, .string ⟨#[]⟩, .string ⟨#[]⟩, .string ⟨#[]⟩, .bool false, .bool false] 67) (by simp)
  have Q0' := UAt.new (w.alloc (.cells #[.string ⟨u.sch.toArray⟩, .string ⟨u.usr.toArray⟩, .string ⟨u.hst.toArray⟩, .int .i64 u.prt, .string ⟨u.pth.toArray⟩, .string ⟨u.qry.toArray⟩, .string ⟨u.frg.toArray⟩, .bool u.hq, .bool u.hf] 67)) U.none
  rw [show (w.alloc (.cells #[.string ⟨u.sch.toArray⟩, .string ⟨u.usr.toArray⟩, .string ⟨u.hst.toArray⟩, .int .i64 u.prt, .string ⟨u.pth.toArray⟩, .string ⟨u.qry.toArray⟩, .string ⟨u.frg.toArray⟩, .bool u.hq, .bool u.hf] 67)).heap.size = w.heap.size + 1 from by simp] at Q0'
  have B0' : Below w.heap.size w ((w.alloc (.cells #[.string ⟨u.sch.toArray⟩, .string ⟨u.usr.toArray⟩, .string ⟨u.hst.toArray⟩, .int .i64 u.prt, .string ⟨u.pth.toArray⟩, .string ⟨u.qry.toArray⟩, .string ⟨u.frg.toArray⟩, .bool u.hq, .bool u.hf] 67)).alloc (.cells #[.string ⟨#[]⟩, .string ⟨#[]⟩, .string ⟨#[]⟩, .int .i64 0, .string ⟨#[]⟩, .string ⟨#[]⟩, .string ⟨#[]⟩, .bool false, .bool false] 67)) := belI_alloc (belI_alloc (Below.refl _ _))
  have z0 : w.heap.size + 1 < ((w.alloc (.cells #[.string ⟨u.sch.toArray⟩, .string ⟨u.usr.toArray⟩, .string ⟨u.hst.toArray⟩, .int .i64 u.prt, .string ⟨u.pth.toArray⟩, .string ⟨u.qry.toArray⟩, .string ⟨u.frg.toArray⟩, .bool u.hq, .bool u.hf] 67)).alloc (.cells #[.string ⟨#[]⟩, .string ⟨#[]⟩, .string ⟨#[]⟩, .int .i64 0, .string ⟨#[]⟩, .string ⟨#[]⟩, .string ⟨#[]⟩, .bool false, .bool false] 67)).heap.size := by simp
  go_enter Tryd.func76, Tryd.ntmps76
  go_wp2_with fail
  refine (clone_any u.usr _ (by omega)).mono ?_
  rintro e w1 ⟨rfl, hb1⟩
  have V1 := V0'.below hb1 (by simp; try omega)
  have Q1 := Q0'.below hb1 (by simp; try omega)
  have B1 := belI_step B0' hb1
  have z1 : w.heap.size + 1 < w1.heap.size := (by have := hb1.size; simp at this; omega)
  have V1' : UAt (w1.setCell ⟨w.heap.size, 1, none⟩ (.string ⟨u.usr.toArray⟩)) w.heap.size u := V1.user u.usr
  have Q1' := Q1.far ⟨w.heap.size, 1, none⟩ (.string ⟨u.usr.toArray⟩) (by show w.heap.size ≠ w.heap.size + 1; omega)
  have B1' := B1.setCell (p := ⟨w.heap.size, 1, none⟩) (Nat.le_refl _) (.string ⟨u.usr.toArray⟩)
  clear hb1 V0' Q0' B0' Q1 B1 z0
  obtain ⟨x0, x1, x2, x3, x4, x5, x6, x7, x8, xf⟩ := V1
  go_wp2_with fail
  refine (clone_any u.pth _ (by omega)).mono ?_
  rintro e w2 ⟨rfl, hb2⟩
  have V2 := V1'.below hb2 (by simp; try omega)
  have Q2 := Q1'.below hb2 (by simp; try omega)
  have B2 := belI_step B1' hb2
  have z2 : w.heap.size + 1 < w2.heap.size := (by have := hb2.size; simp at this; omega)
  have V2' : UAt (w2.setCell ⟨w.heap.size, 4, none⟩ (.string ⟨u.pth.toArray⟩)) w.heap.size u := V2.path u.pth
  have Q2' := Q2.far ⟨w.heap.size, 4, none⟩ (.string ⟨u.pth.toArray⟩) (by show w.heap.size ≠ w.heap.size + 1; omega)
  have B2' := B2.setCell (p := ⟨w.heap.size, 4, none⟩) (Nat.le_refl _) (.string ⟨u.pth.toArray⟩)
  clear hb2 V1' Q1' B1' Q2 B2 z1 x0 x1 x2 x3 x4 x5 x6 x7 x8 xf
  obtain ⟨x0, x1, x2, x3, x4, x5, x6, x7, x8, xf⟩ := V2
  go_wp2_with fail
  refine (clone_any u.qry _ (by omega)).mono ?_
  rintro e w3 ⟨rfl, hb3⟩
  have V3 := V2'.below hb3 (by simp; try omega)
  have Q3 := Q2'.below hb3 (by simp; try omega)
  have B3 := belI_step B2' hb3
  have z3 : w.heap.size + 1 < w3.heap.size := (by have := hb3.size; simp at this; omega)
  have V3' : UAt (w3.setCell ⟨w.heap.size, 5, none⟩ (.string ⟨u.qry.toArray⟩)) w.heap.size u := V3.query u.qry
  have Q3' := Q3.far ⟨w.heap.size, 5, none⟩ (.string ⟨u.qry.toArray⟩) (by show w.heap.size ≠ w.heap.size + 1; omega)
  have B3' := B3.setCell (p := ⟨w.heap.size, 5, none⟩) (Nat.le_refl _) (.string ⟨u.qry.toArray⟩)
  clear hb3 V2' Q2' B2' Q3 B3 z2 x0 x1 x2 x3 x4 x5 x6 x7 x8 xf
  obtain ⟨x0, x1, x2, x3, x4, x5, x6, x7, x8, xf⟩ := V3
  go_wp2_with fail
  refine (clone_any u.frg _ (by omega)).mono ?_
  rintro e w4 ⟨rfl, hb4⟩
  have V4 := V3'.below hb4 (by simp; try omega)
  have Q4 := Q3'.below hb4 (by simp; try omega)
  have B4 := belI_step B3' hb4
  have z4 : w.heap.size + 1 < w4.heap.size := (by have := hb4.size; simp at this; omega)
  have V4' : UAt (w4.setCell ⟨w.heap.size, 6, none⟩ (.string ⟨u.frg.toArray⟩)) w.heap.size u := V4.frag u.frg
  have Q4' := Q4.far ⟨w.heap.size, 6, none⟩ (.string ⟨u.frg.toArray⟩) (by show w.heap.size ≠ w.heap.size + 1; omega)
  have B4' := B4.setCell (p := ⟨w.heap.size, 6, none⟩) (Nat.le_refl _) (.string ⟨u.frg.toArray⟩)
  clear hb4 V3' Q3' B3' Q4 B4 z3 x0 x1 x2 x3 x4 x5 x6 x7 x8 xf
  obtain ⟨x0, x1, x2, x3, x4, x5, x6, x7, x8, xf⟩ := V4
  go_upto_region 5 with fail
  generalize w4.setCell ⟨w.heap.size, 6, none⟩ (.string ⟨u.frg.toArray⟩) = X at *
  clear x0 x1 x2 x3 x4 x5 x6 x7 x8 xf
  obtain ⟨x0, x1, x2, x3, x4, x5, x6, x7, x8, xf⟩ := V4'
  obtain ⟨q0, q1, q2, q3, q4, q5, q6, q7, q8, qf⟩ := Q4'
  go_wp2
  refine bodyPost_ret (ret_one (u := u) (a := 2) (B := w.heap.size + 1) Tryd.results76 rfl ?_) rfl ⟨rfl, ?_⟩
  · refine ⟨?_, ?_, ?_, ?_, ?_, ?_, ?_, ?_, ?_, ?_⟩
    all_goals (simp [go_sem, *]; done)
  · exact (by repeat (first | (with_reducible exact Below.refl _ _) | (with_reducible refine belI_set ?_ (by first | exact Nat.le_refl _ | simp)) | (with_reducible refine belI_alloc ?_) | (with_reducible refine Below.drew ?_) | (with_reducible refine belI_drewN ?_ _) | (with_reducible refine belI_step ?_ (by assumption))))
end Go.Proofs.YtniflfgnelfpbaaDoor.Ul
