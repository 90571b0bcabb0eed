
/-
  The law FnExactJsonText, walked.
-/
import Derived.Test.YtniflfgnelfpbaaDoorJtI
import Derived.Test.YtniflfgnelfpbaaDoorJsArg
namespace Go.Proofs.YtniflfgnelfpbaaDoor.Js
open Go.RowKit
/-- what was read from the world w, in a later one -/
theorem jin_later {w wx : World} {S : Nat → Prop} {j : J} {nv iv : Value} (h : JIn S w j nv iv) (hS : ∀ b, S b → b < w.heap.size) (hx : Below w.heap.size w wx) : JIn (· < wx.heap.size) wx j nv iv :=
  h.same fun b hb => ⟨Nat.lt_of_lt_of_le (hS b hb) hx.size, hx.block b (hS b hb)⟩
theorem below_chain {W w w' : World} (h : Below W.heap.size W w) (h2 : Below w.heap.size w w') : Below W.heap.size W w' := h.trans (h2.mono h.size)
set_option maxRecDepth 100000 in
set_option maxHeartbeats 4000000 in
theorem jsonText_walk (j : J) (nv iv : Value) (W : World) (h : JIn (· < W.heap.size) W j nv iv) (hT : Ul.Tab W) :
    Calls Tryd.prog 5 #[jV j nv iv] W fun e w' => e = .returned (.bool true) ∧ Below W.heap.size W w' := by
  obtain ⟨⟨an, ln, cn, rfl⟩, ⟨ai, li, ci, rfl⟩⟩ := h.slices
  have HT := Lib.hid hT
  clear hT
  have HSZ := Lib.hid (fun wx hx => szJ_go W.heap.size W j _ _ h 1048576 wx hx)
  have hb1 : Below W.heap.size W (W.alloc (.cells #[.int .i64 j.kind, .int .i64 j.num, .string ⟨j.text.toArray⟩, .slice an ln cn, .slice ai li ci] 33)) := (Below.refl _ _).alloc (Nat.le_refl _) _
  have hk1 := heap_alloc_new W (.cells #[.int .i64 j.kind, .int .i64 j.num, .string ⟨j.text.toArray⟩, .slice an ln cn, .slice ai li ci] 33)
  have HB1 := Lib.hid hb1
  have HK1 := Lib.hid hk1
  clear hb1 hk1
  by_cases hs : szJ j ≤ 1048576
  · have HTO := Lib.hid (fun wx hx => toJ_go W.heap.size W j _ _ h hs wx hx)
    have HSR := Lib.hid (szR_in (L := 1048576) (s := szJ j) (by omega))
    have g1 : ¬ (szR 1048576 (szJ j) < 0) := by rw [szR_in (by omega)]; omega
    clear h
    generalize szR 1048576 (szJ j) = z at *
    go_enter Tryd.func5, Tryd.ntmps5
    go_wp2_with fail
    refine (HSZ.out _ HB1.out (by simp) (by omega) (by omega)).mono ?_
    rintro e w1 ⟨rfl, hb2⟩
    have k1 := (hb2.block _ (by simp)).trans HK1.out
    obtain ⟨m00, m01, m02, m03, m04, -⟩ := five_cells k1
    have K1 := Lib.hid k1
    have z1 : W.heap.size < w1.heap.size := by have := hb2.size; simp at this; omega
    have B1 := Lib.hid (below_chain HB1.out hb2)
    clear hb2 k1
    go_wp2_with fail
    refine (HTO.out w1 B1.out (by omega)).mono ?_
    rintro e w2 ⟨nva, iva, rfl, hja, hb2⟩
    have k2 := (hb2.block _ z1).trans K1.out
    have K2 := Lib.hid k2
    have z2 : W.heap.size < w2.heap.size := Nat.lt_of_lt_of_le z1 hb2.size
    have B2 := Lib.hid (below_chain B1.out hb2)
    have HOKS := Lib.hid (jtS_any w2.heap.size w2 j nva iva (hja.mono fun _ hb => hb.2) w2 (Below.refl _ _) (Nat.le_refl _))
    clear hb2 k2 hja m00 m01 m02 m03 m04
    have HJI := Lib.hid (fun (B : Nat) (w0 : World) nv iv h W hT h1 h2 => jtI_any B w0 j nv iv h hs W hT h1 h2)
    unfold JtPost at HOKS HJI
    generalize JT j = tx at *
    generalize JC j = tc at *
    go_wp2_with fail
    refine HOKS.out.mono ?_
    rintro e w3 ⟨rfl, hb3⟩
    have k3 := (hb3.block _ z2).trans K2.out
    have K3 := Lib.hid k3
    obtain ⟨m00, m01, m02, m03, m04, -⟩ := five_cells k3
    have z3 : W.heap.size < w3.heap.size := Nat.lt_of_lt_of_le z2 hb3.size
    have B3 := Lib.hid (below_chain B2.out hb3)
    clear hb3 k3
    go_wp2_with fail
    refine (HTO.out w3 B3.out (by omega)).mono ?_
    rintro e w4 ⟨nvb, ivb, rfl, hjb, hb4⟩
    obtain ⟨⟨an4, ln4, cn4, rfl⟩, ⟨ai4, li4, ci4, rfl⟩⟩ := hjb.slices
    have K4 := Lib.hid ((hb4.block _ z3).trans K3.out)
    have z4 : W.heap.size < w4.heap.size := Nat.lt_of_lt_of_le z3 hb4.size
    have B4 := Lib.hid (below_chain B3.out hb4)
    have HJB := Lib.hid (hjb.mono (S' := (· < w4.heap.size)) fun _ hb => hb.2)
    have HOKI := Lib.hid (fun W' hT h1 h2 => HJI.out w4.heap.size w4 _ _ (hjb.mono fun _ hb => hb.2) W' hT h1 h2)
    clear hb4 hjb m00 m01 m02 m03 m04
    have hk5 := heap_alloc_new w4 (.cells #[.int .i64 j.kind, .int .i64 j.num, .string ⟨j.text.toArray⟩, .slice an4 ln4 cn4, .slice ai4 li4 ci4] 38)
    have HK5 := Lib.hid hk5
    clear hk5
    go_wp2_with fail
    refine (HOKI.out _ (HT.out.below (below_chain B4.out ((Below.refl _ _).alloc (Nat.le_refl _) _))) ((Below.refl _ _).alloc (Nat.le_refl _) _) (by simp)).mono ?_
    rintro e w5 ⟨rfl, hb5⟩
    obtain ⟨p00, p01, p02, p03, p04, -⟩ := five_cells ((hb5.block _ (by simp)).trans HK5.out)
    obtain ⟨m00, m01, m02, m03, m04, -⟩ := five_cells ((hb5.block _ (by simp; omega)).trans ((heap_alloc_old _ _ z4).trans K4.out))
    have z5 : W.heap.size < w5.heap.size := by have := hb5.size; simp at this; omega
    have y5 : w4.heap.size < w5.heap.size := by have := hb5.size; simp at this; omega
    have B45 : Below w4.heap.size w4 w5 := ((Below.refl _ _).alloc (Nat.le_refl _) _).trans (hb5.mono (by simp))
    have B5 := Lib.hid (below_chain B4.out B45)
    clear hb5
    have hRR : Below w5.heap.size w5 w5 := Below.refl _ _
    have HEQ := Lib.hid (fun (w : World) (nv iv : Value) (h1 : JIn (· < w.heap.size) w j (.slice an4 ln4 cn4) (.slice ai4 li4 ci4)) (h2 : JIn (· < w.heap.size) w j nv iv) => sameJ_refl j ▸ eqJ_go w.heap.size w j j _ _ nv iv h1 h2 w (Below.refl _ _) (Nat.le_refl _))
    have HB45 := Lib.hid B45
    clear B45
    all_goals
      go_wp2_with fail
      go_region_held3 (fun wx => wx.cell? ⟨W.heap.size, 0, none⟩ = some (.int .i64 j.kind) ∧ wx.cell? ⟨W.heap.size, 1, none⟩ = some (.int .i64 j.num) ∧ wx.cell? ⟨W.heap.size, 2, none⟩ = some (.string ⟨j.text.toArray⟩) ∧ wx.cell? ⟨W.heap.size, 3, none⟩ = some (.slice an ln cn) ∧ wx.cell? ⟨W.heap.size, 4, none⟩ = some (.slice ai li ci) ∧
          wx.cell? ⟨w4.heap.size, 0, none⟩ = some (.int .i64 j.kind) ∧ wx.cell? ⟨w4.heap.size, 1, none⟩ = some (.int .i64 j.num) ∧ wx.cell? ⟨w4.heap.size, 2, none⟩ = some (.string ⟨j.text.toArray⟩) ∧ wx.cell? ⟨w4.heap.size, 3, none⟩ = some (.slice an4 ln4 cn4) ∧ wx.cell? ⟨w4.heap.size, 4, none⟩ = some (.slice ai4 li4 ci4) ∧
          W.heap.size < wx.heap.size ∧ w4.heap.size < wx.heap.size ∧ Below w5.heap.size w5 wx)
        (first
          | (simp [*, Below.drew]; done)
          | (go_split_ands
             refine ⟨?_, ?_, ?_, ?_, ?_, ?_, ?_, ?_, ?_, ?_, Nat.lt_of_lt_of_le (by assumption) hb.size, Nat.lt_of_lt_of_le (by assumption) hb.size, belI_step (by assumption) hb⟩
             · (rw [hb.cell (p := ⟨W.heap.size, 0, none⟩) (by assumption)]; assumption)
             · (rw [hb.cell (p := ⟨W.heap.size, 1, none⟩) (by assumption)]; assumption)
             · (rw [hb.cell (p := ⟨W.heap.size, 2, none⟩) (by assumption)]; assumption)
             · (rw [hb.cell (p := ⟨W.heap.size, 3, none⟩) (by assumption)]; assumption)
             · (rw [hb.cell (p := ⟨W.heap.size, 4, none⟩) (by assumption)]; assumption)
             · (rw [hb.cell (p := ⟨w4.heap.size, 0, none⟩) (by assumption)]; assumption)
             · (rw [hb.cell (p := ⟨w4.heap.size, 1, none⟩) (by assumption)]; assumption)
             · (rw [hb.cell (p := ⟨w4.heap.size, 2, none⟩) (by assumption)]; assumption)
             · (rw [hb.cell (p := ⟨w4.heap.size, 3, none⟩) (by assumption)]; assumption)
             · (rw [hb.cell (p := ⟨w4.heap.size, 4, none⟩) (by assumption)]; assumption)))
        (first
          | (go_split_ands; go_at_call 14; refine (HTO.out _ (below_chain B5.out (by assumption)) (Nat.le_of_lt (by assumption))).mono ?_; rintro e w6 ⟨nvc, ivc, rfl, hjc, hb⟩)
          | (go_split_ands; go_at_call 16; refine (HEQ.out _ nvc ivc (jin_later HJB.out (fun _ hb => hb) (below_chain HB45.out (by assumption))) (hjc.mono fun _ hb => hb.2)).mono ?_; rintro e w7 ⟨rfl, hb⟩))
      go_split_ands
      rename_i hfin
      have HF := Lib.hid (below_chain B5.out hfin)
      clear hfin
      go_wp2
      go_ret
      exact ⟨rfl, HF.out⟩
  · have g1 : szR 1048576 (szJ j) = -1 := szR_out (by omega)
    rw [g1] at HSZ
    clear h g1
    go_enter Tryd.func5, Tryd.ntmps5
    go_wp2_with fail
    refine (HSZ.out _ HB1.out (by simp) (by omega) (by omega)).mono ?_
    rintro e w1 ⟨rfl, hb2⟩
    have B1 := Lib.hid (below_chain HB1.out hb2)
    clear hb2
    go_wp2
    go_ret
    exact ⟨rfl, B1.out⟩
end Go.Proofs.YtniflfgnelfpbaaDoor.Js
