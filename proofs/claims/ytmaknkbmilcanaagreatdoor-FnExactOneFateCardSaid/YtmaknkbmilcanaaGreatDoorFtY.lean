
/-
  The law FnExactOneFate, walked. (Made by pplaw.py.)
-/
import Derived.Test.YtmaknkbmilcanaaGreatDoorFtO
import Derived.Test.YtmaknkbmilcanaaGreatDoorPf
import Derived.Deep.RegionHeld3
namespace Go.Proofs.YtmaknkbmilcanaaGreatDoor.Ft
open Go.RowKit
open Go.Proofs.YtmaknkbmilcanaaGreatDoor.Tx (szR szR_in szR_out)
open Go.Proofs.YtmaknkbmilcanaaGreatDoor.Po (belI_step)
open Go.Proofs.YtmaknkbmilcanaaGreatDoor.Ul (Tab MaxL)
open Go.Proofs.YtmaknkbmilcanaaGreatDoor.Pi (Pp PpN PV pV8 szPp sm_of szPp_any eqPp_self PSm)
theorem pp_lowO {B : Nat} {w : World} {u : PV} {p : Pp} (h : PpN (fun b => B ≤ b ∧ b < w.heap.size) w u p) : PpN (· < w.heap.size) w u p := h.same fun _ hb => ⟨hb.2, rfl⟩
theorem toPp_low (B : Nat) (w0 : World) (p : Pp) (u : PV) (h : PpN (· < B) w0 u p) (sm : PSm p) (W : World) (hb : Below B w0 W) (hB : B ≤ W.heap.size) :
    Calls Tryz.prog 16 #[pV8 p u] W fun e w' => ∃ v, e = .returned (pV8 p v) ∧ PpN (fun b => W.heap.size ≤ b ∧ b < w'.heap.size) w' v p ∧ Below W.heap.size W w' :=
  (Pf.toPp_any B w0 p u h sm W hb hB).mono (by
    rintro e w' ⟨v, rfl, h, hb⟩
    exact ⟨v, rfl, h.same fun b hb => ⟨⟨hb.1, hb.2.1⟩, rfl⟩, hb⟩)
set_option maxRecDepth 100000 in
set_option maxHeartbeats 8000000 in
theorem oneFate_in (p : Pp) (u : PV) (W : World) (h : PpN (· < W.heap.size) W u p) (hs : szPp p ≤ 1048576) (hT : Tab W) (hM : MaxL W) :
    Calls Tryz.prog 8 #[pV8 p u] W fun e w' => e = .returned (.bool true) ∧ Below W.heap.size W w' := by
  have sm := sm_of p hs
  have hlg : p.log.length ≤ 1048576 := sm.ps.l
  have HSZ := Lib.hid (fun wx hx hy => szPp_any W.heap.size W p u h (Nat.le_trans sm.pol.rep (by omega)) 1048576 wx hx hy (by omega) (by omega))
  rw [szR_in (by omega)] at HSZ
  have g1 : decide (1048576 - (szPp p : Int) < 0) = false := by simp; omega
  generalize 1048576 - (szPp p : Int) = z at *
  have HTO := Lib.hid (fun wx hx hy => toPp_low W.heap.size W p u h sm.ps wx hx hy)
  have HT := Lib.hid hT
  have HM := Lib.hid hM
  obtain ⟨P, hP⟩ : ∃ P, oneR p = P := ⟨_, rfl⟩
  obtain ⟨C, hC⟩ : ∃ C, asC p = C := ⟨_, rfl⟩
  have HOS := Lib.hid (fun (W' : World) (v : PV) (h : PpN (· < W'.heap.size) W' v p) => show Calls Tryz.prog 34 #[pV8 p v] W' (HoB W' P C) from by subst hP hC; exact oneFateS_any W'.heap.size W' p v h sm hlg W' (Below.refl _ _) (Nat.le_refl _))
  have HOI := Lib.hid (fun (W' : World) (v : PV) (h : PpN (· < W'.heap.size) W' v p) (h2 : Tab W') (h3 : MaxL W') => show Calls Tryz.prog 35 #[pV8 p v] W' (HoB W' P C) from by subst hP hC; exact oneFateI_any W'.heap.size W' p v h sm hlg W' (Below.refl _ _) (Nat.le_refl _) h2 h3)
  have HEQ := Lib.hid (fun (w0 : World) (v v' : PV) (h1 : PpN (· < w0.heap.size) w0 v p) (h2 : PpN (· < w0.heap.size) w0 v' p) => eqPp_self w0.heap.size w0 p v v' h1 h2 w0 (Below.refl _ _) (Nat.le_refl _))
  have eP : (P != P) = false := by simp
  have eC : (C != C) = false := by simp
  obtain ⟨chs, ⟨rp, uris, rules⟩, now, next, log, ws⟩ := p
  obtain ⟨u1, u2, u3, u4, u5⟩ := u
  obtain ⟨h1, h2, h3, h4, h5⟩ := h
  simp only at h1 h2 h3 h4 h5
  obtain ⟨a1, l1, c1, rfl⟩ := h1.slice
  obtain ⟨a2, l2, c2, rfl⟩ := h2.slice
  obtain ⟨a3, l3, c3, rfl⟩ := h3.slice
  obtain ⟨a4, l4, c4, rfl⟩ := h4.slice
  obtain ⟨a5, l5, c5, rfl⟩ := h5.slice
  have K := Lib.hid (Qu.Hd.new W (.cells #[.slice a1 l1 c1, .string ⟨rp.toArray⟩, .slice a2 l2 c2, .slice a3 l3 c3, .int .i64 now, .int .i64 next, .slice a4 l4 c4, .slice a5 l5 c5] 30))
  have BA := Lib.hid (show Below W.heap.size W (W.alloc (.cells #[.slice a1 l1 c1, .string ⟨rp.toArray⟩, .slice a2 l2 c2, .slice a3 l3 c3, .int .i64 now, .int .i64 next, .slice a4 l4 c4, .slice a5 l5 c5] 30)) from (Below.refl _ _).alloc (Nat.le_refl _) _)
  have z0 : W.heap.size ≤ (W.alloc (.cells #[.slice a1 l1 c1, .string ⟨rp.toArray⟩, .slice a2 l2 c2, .slice a3 l3 c3, .int .i64 now, .int .i64 next, .slice a4 l4 c4, .slice a5 l5 c5] 30)).heap.size := by simp
  clear hP hC hs sm hlg h1 h2 h3 h4 h5 hT hM
  go_enter Tryz.func8, Tryz.ntmps8
  go_wp2_with fail
  refine (HSZ.out _ BA.out z0).mono ?_
  rintro e w1 ⟨rfl, hb2⟩
  have K := Lib.hid (K.out.blw hb2)
  have BA := Lib.hid (belI_step BA.out hb2)
  clear hb2 z0 HSZ
  have kk := K.out
  have m0 := cell_of_row w1 W.heap.size 0 _ _ _ kk
  have m1 := cell_of_row w1 W.heap.size 1 _ _ _ kk
  have m2 := cell_of_row w1 W.heap.size 2 _ _ _ kk
  have m3 := cell_of_row w1 W.heap.size 3 _ _ _ kk
  have m4 := cell_of_row w1 W.heap.size 4 _ _ _ kk
  have m5 := cell_of_row w1 W.heap.size 5 _ _ _ kk
  have m6 := cell_of_row w1 W.heap.size 6 _ _ _ kk
  have m7 := cell_of_row w1 W.heap.size 7 _ _ _ kk
  clear kk
  go_wp2_with fail
  refine (HTO.out w1 BA.out BA.out.size).mono ?_
  rintro e w2 ⟨⟨va1, va2, va3, va4, va5⟩, rfl, hN, hb2⟩
  obtain ⟨da0, dl0, dc0, rfl⟩ := hN.cv.slice
  obtain ⟨da1, dl1, dc1, rfl⟩ := hN.uv.slice
  obtain ⟨da2, dl2, dc2, rfl⟩ := hN.rv.slice
  obtain ⟨da3, dl3, dc3, rfl⟩ := hN.lv.slice
  obtain ⟨da4, dl4, dc4, rfl⟩ := hN.wv.slice
  have K := Lib.hid (K.out.blw hb2)
  have BA := Lib.hid (belI_step BA.out hb2)
  have HOK := Lib.hid (HOS.out w2 ⟨.slice da0 dl0 dc0, .slice da1 dl1 dc1, .slice da2 dl2 dc2, .slice da3 dl3 dc3, .slice da4 dl4 dc4⟩ (pp_lowO hN))
  clear hb2 hN HOS m0 m1 m2 m3 m4 m5 m6 m7
  go_wp2_with fail
  refine (HOK.out).mono ?_
  rintro e w3 ⟨rfl, hb2⟩
  have K := Lib.hid (K.out.blw hb2)
  have BA := Lib.hid (belI_step BA.out hb2)
  clear hb2 HOK
  have kk := K.out
  have m0 := cell_of_row w3 W.heap.size 0 _ _ _ kk
  have m1 := cell_of_row w3 W.heap.size 1 _ _ _ kk
  have m2 := cell_of_row w3 W.heap.size 2 _ _ _ kk
  have m3 := cell_of_row w3 W.heap.size 3 _ _ _ kk
  have m4 := cell_of_row w3 W.heap.size 4 _ _ _ kk
  have m5 := cell_of_row w3 W.heap.size 5 _ _ _ kk
  have m6 := cell_of_row w3 W.heap.size 6 _ _ _ kk
  have m7 := cell_of_row w3 W.heap.size 7 _ _ _ kk
  clear kk
  go_wp2_with fail
  refine (HTO.out w3 BA.out BA.out.size).mono ?_
  rintro e w4 ⟨⟨va1, va2, va3, va4, va5⟩, rfl, hN, hb2⟩
  obtain ⟨xa0, xl0, xc0, rfl⟩ := hN.cv.slice
  obtain ⟨xa1, xl1, xc1, rfl⟩ := hN.uv.slice
  obtain ⟨xa2, xl2, xc2, rfl⟩ := hN.rv.slice
  obtain ⟨xa3, xl3, xc3, rfl⟩ := hN.lv.slice
  obtain ⟨xa4, xl4, xc4, rfl⟩ := hN.wv.slice
  have K := Lib.hid (K.out.blw hb2)
  have BA := Lib.hid (belI_step BA.out hb2)
  have XN := Lib.hid (pp_lowO hN)
  have z4 : W.heap.size < w4.heap.size := K.out.lt
  clear hb2 hN m0 m1 m2 m3 m4 m5 m6 m7
  have KX := Lib.hid (Qu.Hd.new w4 (.cells #[.slice xa0 xl0 xc0, .string ⟨rp.toArray⟩, .slice xa1 xl1 xc1, .slice xa2 xl2 xc2, .int .i64 now, .int .i64 next, .slice xa3 xl3 xc3, .slice xa4 xl4 xc4] 41))
  have BX := Lib.hid ((Below.refl w4.heap.size w4).alloc (Nat.le_refl _) (.cells #[.slice xa0 xl0 xc0, .string ⟨rp.toArray⟩, .slice xa1 xl1 xc1, .slice xa2 xl2 xc2, .int .i64 now, .int .i64 next, .slice xa3 xl3 xc3, .slice xa4 xl4 xc4] 41))
  have K := Lib.hid (K.out.al (.cells #[.slice xa0 xl0 xc0, .string ⟨rp.toArray⟩, .slice xa1 xl1 xc1, .slice xa2 xl2 xc2, .int .i64 now, .int .i64 next, .slice xa3 xl3 xc3, .slice xa4 xl4 xc4] 41))
  have BA := Lib.hid (Po.belI_alloc (o := (.cells #[.slice xa0 xl0 xc0, .string ⟨rp.toArray⟩, .slice xa1 xl1 xc1, .slice xa2 xl2 xc2, .int .i64 now, .int .i64 next, .slice xa3 xl3 xc3, .slice xa4 xl4 xc4] 41)) BA.out)
  have XN5 := Lib.hid (show PpN (· < (w4.alloc (.cells #[.slice xa0 xl0 xc0, .string ⟨rp.toArray⟩, .slice xa1 xl1 xc1, .slice xa2 xl2 xc2, .int .i64 now, .int .i64 next, .slice xa3 xl3 xc3, .slice xa4 xl4 xc4] 41)).heap.size) (w4.alloc (.cells #[.slice xa0 xl0 xc0, .string ⟨rp.toArray⟩, .slice xa1 xl1 xc1, .slice xa2 xl2 xc2, .int .i64 now, .int .i64 next, .slice xa3 xl3 xc3, .slice xa4 xl4 xc4] 41)) ⟨.slice xa0 xl0 xc0, .slice xa1 xl1 xc1, .slice xa2 xl2 xc2, .slice xa3 xl3 xc3, .slice xa4 xl4 xc4⟩ ⟨chs, ⟨rp, uris, rules⟩, now, next, log, ws⟩ from XN.out.same fun b hb => ⟨Nat.lt_of_lt_of_le hb BX.out.size, BX.out.block b hb⟩)
  have HOK := Lib.hid (HOI.out _ ⟨.slice xa0 xl0 xc0, .slice xa1 xl1 xc1, .slice xa2 xl2 xc2, .slice xa3 xl3 xc3, .slice xa4 xl4 xc4⟩ XN5.out (HT.out.below BA.out) (HM.out.below BA.out))
  clear HOI XN5
  go_wp2_with fail
  refine HOK.out.mono ?_
  rintro e w5 ⟨rfl, hb5⟩
  have K := Lib.hid (K.out.blw hb5)
  have KX := Lib.hid (KX.out.blw hb5)
  have BA := Lib.hid (belI_step BA.out hb5)
  have BX := Lib.hid (BX.out.trans (hb5.mono BX.out.size))
  clear hb5 HOK
  have kk := K.out
  have m0 := cell_of_row w5 W.heap.size 0 _ _ _ kk
  have m1 := cell_of_row w5 W.heap.size 1 _ _ _ kk
  have m2 := cell_of_row w5 W.heap.size 2 _ _ _ kk
  have m3 := cell_of_row w5 W.heap.size 3 _ _ _ kk
  have m4 := cell_of_row w5 W.heap.size 4 _ _ _ kk
  have m5 := cell_of_row w5 W.heap.size 5 _ _ _ kk
  have m6 := cell_of_row w5 W.heap.size 6 _ _ _ kk
  have m7 := cell_of_row w5 W.heap.size 7 _ _ _ kk
  clear kk
  have kk := KX.out
  have n0 := cell_of_row w5 w4.heap.size 0 _ _ _ kk
  have n1 := cell_of_row w5 w4.heap.size 1 _ _ _ kk
  have n2 := cell_of_row w5 w4.heap.size 2 _ _ _ kk
  have n3 := cell_of_row w5 w4.heap.size 3 _ _ _ kk
  have n4 := cell_of_row w5 w4.heap.size 4 _ _ _ kk
  have n5 := cell_of_row w5 w4.heap.size 5 _ _ _ kk
  have n6 := cell_of_row w5 w4.heap.size 6 _ _ _ kk
  have n7 := cell_of_row w5 w4.heap.size 7 _ _ _ kk
  clear kk
  have z5 : W.heap.size < w5.heap.size := K.out.lt
  have y5 : w4.heap.size < w5.heap.size := KX.out.lt
  have hRR : Below w5.heap.size w5 w5 := Below.refl _ _
  clear K KX
  cases P
  all_goals
    go_wp2_with fail
    go_region_held3 (fun wx => wx.cell? ⟨W.heap.size, 0, none⟩ = some (.slice a1 l1 c1) ∧ wx.cell? ⟨W.heap.size, 1, none⟩ = some (.string ⟨rp.toArray⟩) ∧ wx.cell? ⟨W.heap.size, 2, none⟩ = some (.slice a2 l2 c2) ∧ wx.cell? ⟨W.heap.size, 3, none⟩ = some (.slice a3 l3 c3) ∧ wx.cell? ⟨W.heap.size, 4, none⟩ = some (.int .i64 now) ∧ wx.cell? ⟨W.heap.size, 5, none⟩ = some (.int .i64 next) ∧ wx.cell? ⟨W.heap.size, 6, none⟩ = some (.slice a4 l4 c4) ∧ wx.cell? ⟨W.heap.size, 7, none⟩ = some (.slice a5 l5 c5) ∧ wx.cell? ⟨w4.heap.size, 0, none⟩ = some (.slice xa0 xl0 xc0) ∧ wx.cell? ⟨w4.heap.size, 1, none⟩ = some (.string ⟨rp.toArray⟩) ∧ wx.cell? ⟨w4.heap.size, 2, none⟩ = some (.slice xa1 xl1 xc1) ∧ wx.cell? ⟨w4.heap.size, 3, none⟩ = some (.slice xa2 xl2 xc2) ∧ wx.cell? ⟨w4.heap.size, 4, none⟩ = some (.int .i64 now) ∧ wx.cell? ⟨w4.heap.size, 5, none⟩ = some (.int .i64 next) ∧ wx.cell? ⟨w4.heap.size, 6, none⟩ = some (.slice xa3 xl3 xc3) ∧ wx.cell? ⟨w4.heap.size, 7, none⟩ = some (.slice xa4 xl4 xc4) ∧ W.heap.size < wx.heap.size ∧ w4.heap.size < wx.heap.size ∧ Below w5.heap.size w5 wx)
      (first
        | (simp [*, Below.drew]; done)
        | (go_split_ands
           refine ⟨?_, ?_, ?_, ?_, ?_, ?_, ?_, ?_, ?_, ?_, ?_, ?_, ?_, ?_, ?_, ?_, Nat.lt_of_lt_of_le (by assumption) hb.size, Nat.lt_of_lt_of_le (by assumption) hb.size, belI_step (by assumption) hb⟩
           · (rw [hb.cell (p := ⟨W.heap.size, 0, none⟩) (by assumption)]; assumption)
           · (rw [hb.cell (p := ⟨W.heap.size, 1, none⟩) (by assumption)]; assumption)
           · (rw [hb.cell (p := ⟨W.heap.size, 2, none⟩) (by assumption)]; assumption)
           · (rw [hb.cell (p := ⟨W.heap.size, 3, none⟩) (by assumption)]; assumption)
           · (rw [hb.cell (p := ⟨W.heap.size, 4, none⟩) (by assumption)]; assumption)
           · (rw [hb.cell (p := ⟨W.heap.size, 5, none⟩) (by assumption)]; assumption)
           · (rw [hb.cell (p := ⟨W.heap.size, 6, none⟩) (by assumption)]; assumption)
           · (rw [hb.cell (p := ⟨W.heap.size, 7, none⟩) (by assumption)]; assumption)
           · (rw [hb.cell (p := ⟨w4.heap.size, 0, none⟩) (by assumption)]; assumption)
           · (rw [hb.cell (p := ⟨w4.heap.size, 1, none⟩) (by assumption)]; assumption)
           · (rw [hb.cell (p := ⟨w4.heap.size, 2, none⟩) (by assumption)]; assumption)
           · (rw [hb.cell (p := ⟨w4.heap.size, 3, none⟩) (by assumption)]; assumption)
           · (rw [hb.cell (p := ⟨w4.heap.size, 4, none⟩) (by assumption)]; assumption)
           · (rw [hb.cell (p := ⟨w4.heap.size, 5, none⟩) (by assumption)]; assumption)
           · (rw [hb.cell (p := ⟨w4.heap.size, 6, none⟩) (by assumption)]; assumption)
           · (rw [hb.cell (p := ⟨w4.heap.size, 7, none⟩) (by assumption)]; assumption)))
      (first
        | (go_split_ands; go_at_call 16; refine (HTO.out _ (belI_step BA.out (by assumption)) (Nat.le_of_lt (by assumption))).mono ?_; rintro e w6 ⟨vc, rfl, hjc, hb⟩; have HJ := Lib.hid (pp_lowO hjc); clear hjc; obtain ⟨va1, va2, va3, va4, va5⟩ := vc)
        | (go_split_ands; go_at_call 18; refine (HEQ.out _ _ _ (XN.out.same fun b hb => ⟨Nat.lt_of_lt_of_le hb (Nat.le_trans BX.out.size (Below.size (by assumption : Below w5.heap.size w5 _))), ((belI_step BX.out (by assumption : Below w5.heap.size w5 _)).block b hb)⟩) HJ.out).mono ?_; rintro e w7 ⟨rfl, hb⟩)
        | fail)
    go_split_ands
    rename_i hfin
    have HF := Lib.hid (belI_step BA.out hfin)
    clear hfin
    go_wp2
    go_ret
    exact ⟨rfl, HF.out⟩
theorem oneFate_walk (p : Pp) (u : PV) (W : World) (h : PpN (· < W.heap.size) W u p) (hn : p.pol.rep.length ≤ 9223372036854775807) (hT : Tab W) (hM : MaxL W) :
    Calls Tryz.prog 8 #[pV8 p u] W fun e w' => e = .returned (.bool true) ∧ Below W.heap.size W w' := by
  by_cases hs : szPp p ≤ 1048576
  · exact oneFate_in p u W h hs hT hM
  · have HSZ := Lib.hid (fun wx hx hy => szPp_any W.heap.size W p u h hn 1048576 wx hx hy (by omega) (by omega))
    rw [szR_out (by omega)] at HSZ
    obtain ⟨chs, ⟨rp, uris, rules⟩, now, next, log, ws⟩ := p
    obtain ⟨u1, u2, u3, u4, u5⟩ := u
    obtain ⟨h1, h2, h3, h4, h5⟩ := h
    simp only at h1 h2 h3 h4 h5
    obtain ⟨a1, l1, c1, rfl⟩ := h1.slice
    obtain ⟨a2, l2, c2, rfl⟩ := h2.slice
    obtain ⟨a3, l3, c3, rfl⟩ := h3.slice
    obtain ⟨a4, l4, c4, rfl⟩ := h4.slice
    obtain ⟨a5, l5, c5, rfl⟩ := h5.slice
    have BA := Lib.hid (show Below W.heap.size W (W.alloc (.cells #[.slice a1 l1 c1, .string ⟨rp.toArray⟩, .slice a2 l2 c2, .slice a3 l3 c3, .int .i64 now, .int .i64 next, .slice a4 l4 c4, .slice a5 l5 c5] 30)) from (Below.refl _ _).alloc (Nat.le_refl _) _)
    have z0 : W.heap.size ≤ (W.alloc (.cells #[.slice a1 l1 c1, .string ⟨rp.toArray⟩, .slice a2 l2 c2, .slice a3 l3 c3, .int .i64 now, .int .i64 next, .slice a4 l4 c4, .slice a5 l5 c5] 30)).heap.size := by simp
    clear h1 h2 h3 h4 h5 hs hT hM hn
    go_enter Tryz.func8, Tryz.ntmps8
    go_wp2_with fail
    refine (HSZ.out _ BA.out z0).mono ?_
    rintro e w1 ⟨rfl, hb1⟩
    have B1 := Lib.hid (belI_step BA.out hb1)
    clear hb1
    go_wp2
    go_ret
    exact ⟨rfl, B1.out⟩
end Go.Proofs.YtmaknkbmilcanaaGreatDoor.Ft
