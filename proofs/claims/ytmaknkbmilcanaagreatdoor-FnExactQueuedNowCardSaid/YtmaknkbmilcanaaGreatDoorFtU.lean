
/-
  The law FnExactQueuedNow, walked. (Made by pplawm.py.)
-/
import Derived.Test.YtmaknkbmilcanaaGreatDoorFtM
import Derived.Test.YtmaknkbmilcanaaGreatDoorFtN
import Derived.Deep.RegionHeld3
namespace Go.Proofs.YtmaknkbmilcanaaGreatDoor.Ft
open Go.RowKit
open Go.Proofs.YtmaknkbmilcanaaGreatDoor.Tx (szR szR_in szR_out)
open Go.Proofs.YtmaknkbmilcanaaGreatDoor.Po (belI_step)
open Go.Proofs.YtmaknkbmilcanaaGreatDoor.Qu (IntsIn OI mki mki_len)
open Go.Proofs.YtmaknkbmilcanaaGreatDoor.Ul (Tab MaxL)
open Go.Proofs.YtmaknkbmilcanaaGreatDoor.Pf (Fr Cl Mkd mkPp_any mkd_below)
open Go.Proofs.YtmaknkbmilcanaaGreatDoor.Mk (own_slice)
open Go.Proofs.YtmaknkbmilcanaaGreatDoor.Pi (Pp PpN PV pV8 szPp sm_of szPp_any eqPp_self En EnIn)
theorem pp_low_queuedNow {B : Nat} {w : World} {u : PV} {p : Pp} (h : PpN (Fr B w) w u p) : PpN (· < w.heap.size) w u p := h.same fun _ hb => ⟨hb.2.1, rfl⟩
set_option maxRecDepth 100000 in
set_option maxHeartbeats 8000000 in
theorem queuedNow_in (p : Pp) (u : PV) (W : World) (h : PpN (· < W.heap.size) W u p) (hs : szPp p ≤ 1048576) (hT : Tab W) (hM : MaxL W) :
    Calls Tryz.prog 7 #[pV8 p u] W fun e w' => e = .returned (.bool true) ∧ Below W.heap.size W w' := by
  have sm := sm_of p hs
  have hlg : p.log.length ≤ 1048576 := sm.ps.l
  have HSZ := Lib.hid (fun wx hx hy => szPp_any W.heap.size W p u h (Nat.le_trans sm.pol.rep (by omega)) 1048576 wx hx hy (by omega) (by omega))
  rw [szR_in (by omega)] at HSZ
  have g1 : decide (1048576 - (szPp p : Int) < 0) = false := by simp; omega
  generalize 1048576 - (szPp p : Int) = z at *
  have HTO := Lib.hid (fun wx hx hy => Pf.toPp_any W.heap.size W p u h sm.ps wx hx hy)
  have HT := Lib.hid hT
  have HM := Lib.hid hM
  obtain ⟨R, hR⟩ : ∃ R, nowR p = R := ⟨_, rfl⟩
  obtain ⟨C, hC⟩ : ∃ C, enCo p = C := ⟨_, rfl⟩
  have hrl : R.length ≤ 1048576 := by subst hR; exact nowR_len p
  have HOS := Lib.hid (fun (W' : World) (v : PV) (h : PpN (· < W'.heap.size) W' v p) => show Calls Tryz.prog 32 #[pV8 p v] W' (NewIC W' R C) from by subst hR hC; exact nowOfS_any W'.heap.size W' p v h sm W' (Below.refl _ _) (Nat.le_refl _))
  have HOI := Lib.hid (fun (W' : World) (v : PV) (h : PpN (· < W'.heap.size) W' v p) (h2 : Tab W') (h3 : MaxL W') => show Calls Tryz.prog 33 #[pV8 p v] W' (NewIC W' R C) from by subst hR hC; exact nowI_any W'.heap.size W' p v h sm W' (Below.refl _ _) (Nat.le_refl _) h2 h3)
  have HEQ := Lib.hid (fun (w0 : World) (v v' : PV) (h1 : PpN (· < w0.heap.size) w0 v p) (h2 : PpN (· < w0.heap.size) w0 v' p) => eqPp_self w0.heap.size w0 p v v' h1 h2 w0 (Below.refl _ _) (Nat.le_refl _))
  have HER := Lib.hid (fun (w : World) (v u : Value) (h1 : IntsIn (· < w.heap.size) w v R) (h2 : IntsIn (· < w.heap.size) w u R) => Pi.eqIs_self w.heap.size w R v u h1 h2 w (Below.refl _ _) (Nat.le_refl _))
  have HMP := Lib.hid (fun (S : Nat → Prop) (w0 : World) (hS : ∀ b, S b → Cl w0 b) (v : PV) (h : PpN S w0 v p) (w : World) (hM : Mkd S w0 w) => mkPp_any S w0 hS p v h sm.ps w hM)
  have HMG := Lib.hid (fun (base : Nat) (v : Value) (w : World) (h : IFr w base v R) => markIf_any base v R 1 w h (by omega) (by omega))
  have HHG := Lib.hid (fun (S : Nat → Prop) (v : Value) (w : World) (h : IntsIn S w v (mki R.length 1)) => Qu.heldIs_any S v R.length 1 w h (by omega) (by omega))
  have e1r : 1 + R.length = 1 + 1 * R.length := by omega
  rw [e1r] at HHG
  clear e1r
  have gm : ¬ (((1 + 1 * R.length : Nat) : Int) < 0) := by omega
  have ecc : (C != C) = false := by simp
  generalize 1 + 1 * R.length = km at *
  have ekm : ((km : Int) != (km : Int)) = false := by simp
  obtain ⟨chs, ⟨rp, uris, rules⟩, now, next, log, ws⟩ := p
  obtain ⟨u1, u2, u3, u4, u5⟩ := u
  obtain ⟨h1, h2, h3, h4, h5⟩ := h
  simp only at h1 h2 h3 h4 h5
  obtain ⟨a1, l1, c1, rfl⟩ := h1.slice
  obtain ⟨a2, l2, c2, rfl⟩ := h2.slice
  obtain ⟨a3, l3, c3, rfl⟩ := h3.slice
  obtain ⟨a4, l4, c4, rfl⟩ := h4.slice
  obtain ⟨a5, l5, c5, rfl⟩ := h5.slice
  have K := Lib.hid (Qu.Hd.new W (.cells #[.slice a1 l1 c1, .string ⟨rp.toArray⟩, .slice a2 l2 c2, .slice a3 l3 c3, .int .i64 now, .int .i64 next, .slice a4 l4 c4, .slice a5 l5 c5] 30))
  have BA := Lib.hid (show Below W.heap.size W (W.alloc (.cells #[.slice a1 l1 c1, .string ⟨rp.toArray⟩, .slice a2 l2 c2, .slice a3 l3 c3, .int .i64 now, .int .i64 next, .slice a4 l4 c4, .slice a5 l5 c5] 30)) from (Below.refl _ _).alloc (Nat.le_refl _) _)
  have z0 : W.heap.size ≤ (W.alloc (.cells #[.slice a1 l1 c1, .string ⟨rp.toArray⟩, .slice a2 l2 c2, .slice a3 l3 c3, .int .i64 now, .int .i64 next, .slice a4 l4 c4, .slice a5 l5 c5] 30)).heap.size := by simp
  clear hR hC hrl hs sm hlg h1 h2 h3 h4 h5 hT hM
  go_enter Tryz.func7, Tryz.ntmps7
  go_wp2_with fail
  refine (HSZ.out _ BA.out z0).mono ?_
  rintro e w1 ⟨rfl, hb2⟩
  have K := Lib.hid (K.out.blw hb2)
  have BA := Lib.hid (belI_step BA.out hb2)
  clear hb2 z0 HSZ
  have kk := K.out
  have m0 := cell_of_row w1 W.heap.size 0 _ _ _ kk
  have m1 := cell_of_row w1 W.heap.size 1 _ _ _ kk
  have m2 := cell_of_row w1 W.heap.size 2 _ _ _ kk
  have m3 := cell_of_row w1 W.heap.size 3 _ _ _ kk
  have m4 := cell_of_row w1 W.heap.size 4 _ _ _ kk
  have m5 := cell_of_row w1 W.heap.size 5 _ _ _ kk
  have m6 := cell_of_row w1 W.heap.size 6 _ _ _ kk
  have m7 := cell_of_row w1 W.heap.size 7 _ _ _ kk
  clear kk
  go_wp2_with fail
  refine (HTO.out w1 BA.out BA.out.size).mono ?_
  rintro e w2 ⟨⟨va1, va2, va3, va4, va5⟩, rfl, hN, hb2⟩
  obtain ⟨da0, dl0, dc0, rfl⟩ := hN.cv.slice
  obtain ⟨da1, dl1, dc1, rfl⟩ := hN.uv.slice
  obtain ⟨da2, dl2, dc2, rfl⟩ := hN.rv.slice
  obtain ⟨da3, dl3, dc3, rfl⟩ := hN.lv.slice
  obtain ⟨da4, dl4, dc4, rfl⟩ := hN.wv.slice
  have K := Lib.hid (K.out.blw hb2)
  have BA := Lib.hid (belI_step BA.out hb2)
  have HOK := Lib.hid (HOS.out w2 ⟨.slice da0 dl0 dc0, .slice da1 dl1 dc1, .slice da2 dl2 dc2, .slice da3 dl3 dc3, .slice da4 dl4 dc4⟩ (pp_low_queuedNow hN))
  clear hb2 hN HOS
  clear m0 m1 m2 m3 m4 m5 m6 m7
  go_wp2_with fail
  refine (HOK.out).mono ?_
  rintro e w3 ⟨v0, rfl, ho, hb2⟩
  have T3 := Lib.hid (show SI0 W w3.heap.size v0 R w3 from ⟨belI_step BA.out hb2, (OI.ints ho).mono fun _ hb => hb.2, (belI_step BA.out hb2).size, Nat.le_refl _⟩)
  have K := Lib.hid (K.out.blw hb2)
  obtain ⟨sa0, sl0, sc0, rfl⟩ : ∃ a l c, v0 = .slice a l c := by obtain ⟨a, c, e⟩ := own_slice ho; exact ⟨a, _, c, e⟩
  have kz := Lib.hid K.out.lt
  clear hb2 HOK ho BA
  have kk := K.out
  have m0 := cell_of_row w3 W.heap.size 0 _ _ _ kk
  have m1 := cell_of_row w3 W.heap.size 1 _ _ _ kk
  have m2 := cell_of_row w3 W.heap.size 2 _ _ _ kk
  have m3 := cell_of_row w3 W.heap.size 3 _ _ _ kk
  have m4 := cell_of_row w3 W.heap.size 4 _ _ _ kk
  have m5 := cell_of_row w3 W.heap.size 5 _ _ _ kk
  have m6 := cell_of_row w3 W.heap.size 6 _ _ _ kk
  have m7 := cell_of_row w3 W.heap.size 7 _ _ _ kk
  clear kk
  go_wp2_with fail
  refine (HTO.out w3 T3.out.B T3.out.zA).mono ?_
  rintro e w4 ⟨⟨va1, va2, va3, va4, va5⟩, rfl, hN, hb2⟩
  obtain ⟨xa0, xl0, xc0, rfl⟩ := hN.cv.slice
  obtain ⟨xa1, xl1, xc1, rfl⟩ := hN.uv.slice
  obtain ⟨xa2, xl2, xc2, rfl⟩ := hN.rv.slice
  obtain ⟨xa3, xl3, xc3, rfl⟩ := hN.lv.slice
  obtain ⟨xa4, xl4, xc4, rfl⟩ := hN.wv.slice
  have T4 := Lib.hid (T3.out.below hb2)
  have K := Lib.hid (K.out.blw hb2)
  have XI := Lib.hid hN
  have s34 := Lib.hid hb2.size
  clear hb2 hN T3
  clear m0 m1 m2 m3 m4 m5 m6 m7
  obtain ⟨x4, hx4⟩ : ∃ x4, x4 = w4.alloc (.cells #[.slice xa0 xl0 xc0, .string ⟨rp.toArray⟩, .slice xa1 xl1 xc1, .slice xa2 xl2 xc2, .int .i64 now, .int .i64 next, .slice xa3 xl3 xc3, .slice xa4 xl4 xc4] 41) := ⟨_, rfl⟩
  have A4 := Lib.hid (show Below w4.heap.size w4 x4 by rw [hx4]; exact (Below.refl _ _).alloc (Nat.le_refl _) _)
  have KX := Lib.hid (show Qu.Hd x4 w4.heap.size (.cells #[.slice xa0 xl0 xc0, .string ⟨rp.toArray⟩, .slice xa1 xl1 xc1, .slice xa2 xl2 xc2, .int .i64 now, .int .i64 next, .slice xa3 xl3 xc3, .slice xa4 xl4 xc4] 41) by rw [hx4]; exact Qu.Hd.new _ _)
  have T5 := Lib.hid (T4.out.below A4.out)
  have K := Lib.hid (K.out.blw A4.out)
  have XN5 := Lib.hid (show PpN (· < x4.heap.size) x4 ⟨.slice xa0 xl0 xc0, .slice xa1 xl1 xc1, .slice xa2 xl2 xc2, .slice xa3 xl3 xc3, .slice xa4 xl4 xc4⟩ ⟨chs, ⟨rp, uris, rules⟩, now, next, log, ws⟩ from XI.out.same fun b hb => ⟨Nat.lt_of_lt_of_le hb.2.1 A4.out.size, A4.out.block b hb.2.1⟩)
  have HOK := Lib.hid (HOI.out x4 ⟨.slice xa0 xl0 xc0, .slice xa1 xl1 xc1, .slice xa2 xl2 xc2, .slice xa3 xl3 xc3, .slice xa4 xl4 xc4⟩ XN5.out (HT.out.below T5.out.B) (HM.out.below T5.out.B))
  have zx4 := Lib.hid A4.out.size
  clear XN5 T4
  go_wp2_with fail
  rw [← hx4]
  clear hx4
  refine HOK.out.mono ?_
  rintro e w5 ⟨v1, rfl, ho, hb5⟩
  have S5 := Lib.hid (show SI1 W w3.heap.size (.slice sa0 sl0 sc0) R x4.heap.size v1 R w5 from ⟨T5.out.below hb5, Nat.le_trans s34.out zx4.out, hb5.size, (ifr_of ho)⟩)
  have K := Lib.hid (K.out.blw hb5)
  have KX := Lib.hid (KX.out.blw hb5)
  have BX := Lib.hid (below_chain A4.out hb5)
  obtain ⟨ta0, tl0, tc0, rfl⟩ : ∃ a l c, v1 = .slice a l c := by obtain ⟨a, c, e⟩ := own_slice ho; exact ⟨a, _, c, e⟩
  have HE := Lib.hid (HER.out w5 _ _ (ifr_in S5.out.g1) S5.out.o.r)
  clear hb5 ho HOK T5
  go_wp2_with fail
  refine (HE.out).mono ?_
  rintro e w6 ⟨rfl, hb5⟩
  have S6 := Lib.hid (S5.out.below hb5)
  have K := Lib.hid (K.out.blw hb5)
  have KX := Lib.hid (KX.out.blw hb5)
  have BX := Lib.hid (below_chain BX.out hb5)
  clear hb5 HE S5
  have kk := K.out
  have m0 := cell_of_row w6 W.heap.size 0 _ _ _ kk
  have m1 := cell_of_row w6 W.heap.size 1 _ _ _ kk
  have m2 := cell_of_row w6 W.heap.size 2 _ _ _ kk
  have m3 := cell_of_row w6 W.heap.size 3 _ _ _ kk
  have m4 := cell_of_row w6 W.heap.size 4 _ _ _ kk
  have m5 := cell_of_row w6 W.heap.size 5 _ _ _ kk
  have m6 := cell_of_row w6 W.heap.size 6 _ _ _ kk
  have m7 := cell_of_row w6 W.heap.size 7 _ _ _ kk
  clear kk
  have kk := KX.out
  have n0 := cell_of_row w6 w4.heap.size 0 _ _ _ kk
  have n1 := cell_of_row w6 w4.heap.size 1 _ _ _ kk
  have n2 := cell_of_row w6 w4.heap.size 2 _ _ _ kk
  have n3 := cell_of_row w6 w4.heap.size 3 _ _ _ kk
  have n4 := cell_of_row w6 w4.heap.size 4 _ _ _ kk
  have n5 := cell_of_row w6 w4.heap.size 5 _ _ _ kk
  have n6 := cell_of_row w6 w4.heap.size 6 _ _ _ kk
  have n7 := cell_of_row w6 w4.heap.size 7 _ _ _ kk
  clear kk
  have z5 : W.heap.size < w6.heap.size := K.out.lt
  have y5 : w4.heap.size < w6.heap.size := KX.out.lt
  have hRR : Below w6.heap.size w6 w6 := Below.refl _ _
  go_wp2_with fail
  go_region_held3 (fun wx => wx.cell? ⟨W.heap.size, 0, none⟩ = some (.slice a1 l1 c1) ∧ wx.cell? ⟨W.heap.size, 1, none⟩ = some (.string ⟨rp.toArray⟩) ∧ wx.cell? ⟨W.heap.size, 2, none⟩ = some (.slice a2 l2 c2) ∧ wx.cell? ⟨W.heap.size, 3, none⟩ = some (.slice a3 l3 c3) ∧ wx.cell? ⟨W.heap.size, 4, none⟩ = some (.int .i64 now) ∧ wx.cell? ⟨W.heap.size, 5, none⟩ = some (.int .i64 next) ∧ wx.cell? ⟨W.heap.size, 6, none⟩ = some (.slice a4 l4 c4) ∧ wx.cell? ⟨W.heap.size, 7, none⟩ = some (.slice a5 l5 c5) ∧ wx.cell? ⟨w4.heap.size, 0, none⟩ = some (.slice xa0 xl0 xc0) ∧ wx.cell? ⟨w4.heap.size, 1, none⟩ = some (.string ⟨rp.toArray⟩) ∧ wx.cell? ⟨w4.heap.size, 2, none⟩ = some (.slice xa1 xl1 xc1) ∧ wx.cell? ⟨w4.heap.size, 3, none⟩ = some (.slice xa2 xl2 xc2) ∧ wx.cell? ⟨w4.heap.size, 4, none⟩ = some (.int .i64 now) ∧ wx.cell? ⟨w4.heap.size, 5, none⟩ = some (.int .i64 next) ∧ wx.cell? ⟨w4.heap.size, 6, none⟩ = some (.slice xa3 xl3 xc3) ∧ wx.cell? ⟨w4.heap.size, 7, none⟩ = some (.slice xa4 xl4 xc4) ∧ W.heap.size < wx.heap.size ∧ w4.heap.size < wx.heap.size ∧ Below w6.heap.size w6 wx)
    (first
      | (simp [*, Below.drew]; done)
      | (go_split_ands
         refine ⟨?_, ?_, ?_, ?_, ?_, ?_, ?_, ?_, ?_, ?_, ?_, ?_, ?_, ?_, ?_, ?_, Nat.lt_of_lt_of_le (by assumption) hb.size, Nat.lt_of_lt_of_le (by assumption) hb.size, belI_step (by assumption) hb⟩
         · (rw [hb.cell (p := ⟨W.heap.size, 0, none⟩) (by assumption)]; assumption)
         · (rw [hb.cell (p := ⟨W.heap.size, 1, none⟩) (by assumption)]; assumption)
         · (rw [hb.cell (p := ⟨W.heap.size, 2, none⟩) (by assumption)]; assumption)
         · (rw [hb.cell (p := ⟨W.heap.size, 3, none⟩) (by assumption)]; assumption)
         · (rw [hb.cell (p := ⟨W.heap.size, 4, none⟩) (by assumption)]; assumption)
         · (rw [hb.cell (p := ⟨W.heap.size, 5, none⟩) (by assumption)]; assumption)
         · (rw [hb.cell (p := ⟨W.heap.size, 6, none⟩) (by assumption)]; assumption)
         · (rw [hb.cell (p := ⟨W.heap.size, 7, none⟩) (by assumption)]; assumption)
         · (rw [hb.cell (p := ⟨w4.heap.size, 0, none⟩) (by assumption)]; assumption)
         · (rw [hb.cell (p := ⟨w4.heap.size, 1, none⟩) (by assumption)]; assumption)
         · (rw [hb.cell (p := ⟨w4.heap.size, 2, none⟩) (by assumption)]; assumption)
         · (rw [hb.cell (p := ⟨w4.heap.size, 3, none⟩) (by assumption)]; assumption)
         · (rw [hb.cell (p := ⟨w4.heap.size, 4, none⟩) (by assumption)]; assumption)
         · (rw [hb.cell (p := ⟨w4.heap.size, 5, none⟩) (by assumption)]; assumption)
         · (rw [hb.cell (p := ⟨w4.heap.size, 6, none⟩) (by assumption)]; assumption)
         · (rw [hb.cell (p := ⟨w4.heap.size, 7, none⟩) (by assumption)]; assumption)))
    (first
      | (go_split_ands; go_at_call 16; refine (HTO.out _ (below_chain S6.out.o.B (by assumption)) (Nat.le_of_lt (by assumption))).mono ?_; rintro e w9 ⟨vc, rfl, hjc, hb⟩; have HJ := Lib.hid (pp_low_queuedNow hjc); clear hjc; obtain ⟨va1, va2, va3, va4, va5⟩ := vc)
      | (go_split_ands; go_at_call 18; refine (HEQ.out _ _ _ (XI.out.same fun b hb => ⟨Nat.lt_of_lt_of_le hb.2.1 (Nat.le_trans BX.out.size (Below.size (by assumption : Below w6.heap.size w6 _))), ((below_chain BX.out (by assumption : Below w6.heap.size w6 _)).block b hb.2.1)⟩) HJ.out).mono ?_; rintro e w7 ⟨rfl, hb⟩)
      | fail)
  go_split_ands
  rename_i hfin
  have S7 := Lib.hid (S6.out.below hfin)
  have K := Lib.hid (K.out.blw hfin)
  have KX := Lib.hid (KX.out.blw hfin)
  have BX := Lib.hid (below_chain BX.out hfin)
  clear hfin S6 m0 m1 m2 m3 m4 m5 m6 m7 n0 n1 n2 n3 n4 n5 n6 n7
  have HMQ := Lib.hid (HMP.out (Fr w3.heap.size w4) w4 (fun _ hb => hb.2.2) ⟨.slice xa0 xl0 xc0, .slice xa1 xl1 xc1, .slice xa2 xl2 xc2, .slice xa3 xl3 xc3, .slice xa4 xl4 xc4⟩ XI.out _ (mkd_below (fun _ hb => hb.2.1) BX.out))
  have kk := KX.out
  have n0 := cell_of_row _ w4.heap.size 0 _ _ _ kk
  have n1 := cell_of_row _ w4.heap.size 1 _ _ _ kk
  have n2 := cell_of_row _ w4.heap.size 2 _ _ _ kk
  have n3 := cell_of_row _ w4.heap.size 3 _ _ _ kk
  have n4 := cell_of_row _ w4.heap.size 4 _ _ _ kk
  have n5 := cell_of_row _ w4.heap.size 5 _ _ _ kk
  have n6 := cell_of_row _ w4.heap.size 6 _ _ _ kk
  have n7 := cell_of_row _ w4.heap.size 7 _ _ _ kk
  clear kk
  go_wp2_with fail
  refine (HMQ.out).mono ?_
  rintro e w8 ⟨kp, rfl, hmk⟩
  have gk : ¬ ((kp : Int) < 0) := by omega
  have S8 := Lib.hid (S7.out.markX (mkd_ch hmk) (fun b hb => ⟨hb.1, Nat.lt_of_lt_of_le hb.2.1 zx4.out⟩))
  have K := Lib.hid (show Qu.Hd w8 W.heap.size _ from (hmk.block _ K.out.lt (fun hb => by have := hb.1; have := kz.out; omega)).trans K.out)
  have HE := Lib.hid (HER.out w8 _ _ (ifr_in S8.out.g1) S8.out.o.r)
  clear hmk HMQ S7 KX BX XI n0 n1 n2 n3 n4 n5 n6 n7
  go_wp2_with fail
  refine (HE.out).mono ?_
  rintro e w10 ⟨rfl, hb5⟩
  have S10 := Lib.hid (S8.out.below hb5)
  have K := Lib.hid (K.out.blw hb5)
  clear hb5 HE S8
  go_wp2_with fail
  refine (HMG.out _ _ _ S10.out.g1).mono ?_
  rintro e w11 ⟨rfl, ho11, hb11⟩
  have S11 := Lib.hid (S10.out.markG hb11 ho11)
  have K := Lib.hid (show Qu.Hd w11 W.heap.size _ from (hb11.block _ (by have := kz.out; have := s34.out; have := zx4.out; omega)).trans K.out)
  clear ho11 hb11 S10
  go_wp2_with fail
  refine (HHG.out _ _ _ (ifr_in S11.out.g1)).mono ?_
  rintro e w12 ⟨rfl, rfl⟩
  have kk := K.out
  have m0 := cell_of_row w11 W.heap.size 0 _ _ _ kk
  have m1 := cell_of_row w11 W.heap.size 1 _ _ _ kk
  have m2 := cell_of_row w11 W.heap.size 2 _ _ _ kk
  have m3 := cell_of_row w11 W.heap.size 3 _ _ _ kk
  have m4 := cell_of_row w11 W.heap.size 4 _ _ _ kk
  have m5 := cell_of_row w11 W.heap.size 5 _ _ _ kk
  have m6 := cell_of_row w11 W.heap.size 6 _ _ _ kk
  have m7 := cell_of_row w11 W.heap.size 7 _ _ _ kk
  clear kk
  go_wp2_with fail
  refine (HTO.out w11 S11.out.o.B S11.out.o.B.size).mono ?_
  rintro e w13 ⟨⟨va1, va2, va3, va4, va5⟩, rfl, hN, hb2⟩
  obtain ⟨ya0, yl0, yc0, rfl⟩ := hN.cv.slice
  obtain ⟨ya1, yl1, yc1, rfl⟩ := hN.uv.slice
  obtain ⟨ya2, yl2, yc2, rfl⟩ := hN.rv.slice
  obtain ⟨ya3, yl3, yc3, rfl⟩ := hN.lv.slice
  obtain ⟨ya4, yl4, yc4, rfl⟩ := hN.wv.slice
  have S13 := Lib.hid (S11.out.below hb2)
  have HOK := Lib.hid (HOI.out w13 ⟨.slice ya0 yl0 yc0, .slice ya1 yl1 yc1, .slice ya2 yl2 yc2, .slice ya3 yl3 yc3, .slice ya4 yl4 yc4⟩ (pp_low_queuedNow hN) (HT.out.below S13.out.o.B) (HM.out.below S13.out.o.B))
  clear hb2 hN S11 K
  clear m0 m1 m2 m3 m4 m5 m6 m7
  go_wp2_with fail
  refine (HOK.out).mono ?_
  rintro e w14 ⟨v2, rfl, ho, hb14⟩
  have S14 := Lib.hid (S13.out.below hb14)
  have HE := Lib.hid (HER.out w14 _ _ (ifr_in (ifr_of ho)) S14.out.o.r)
  obtain ⟨ya9, yl9, yc9, rfl⟩ : ∃ a l c, v2 = .slice a l c := by obtain ⟨a, c, e⟩ := own_slice ho; exact ⟨a, _, c, e⟩
  clear hb14 ho HOK S13
  go_wp2_with fail
  refine (HE.out).mono ?_
  rintro e w15 ⟨rfl, hb15⟩
  have S15 := Lib.hid (S14.out.below hb15)
  clear hb15 HE S14
  go_wp2_with fail
  refine (HHG.out _ _ _ (ifr_in S15.out.g1)).mono ?_
  rintro e w16 ⟨rfl, rfl⟩
  go_wp2
  go_ret
  exact ⟨rfl, S15.out.o.B⟩
theorem queuedNow_walk (p : Pp) (u : PV) (W : World) (h : PpN (· < W.heap.size) W u p) (hn : p.pol.rep.length ≤ 9223372036854775807) (hT : Tab W) (hM : MaxL W) :
    Calls Tryz.prog 7 #[pV8 p u] W fun e w' => e = .returned (.bool true) ∧ Below W.heap.size W w' := by
  by_cases hs : szPp p ≤ 1048576
  · exact queuedNow_in p u W h hs hT hM
  · have HSZ := Lib.hid (fun wx hx hy => szPp_any W.heap.size W p u h hn 1048576 wx hx hy (by omega) (by omega))
    rw [szR_out (by omega)] at HSZ
    obtain ⟨chs, ⟨rp, uris, rules⟩, now, next, log, ws⟩ := p
    obtain ⟨u1, u2, u3, u4, u5⟩ := u
    obtain ⟨h1, h2, h3, h4, h5⟩ := h
    simp only at h1 h2 h3 h4 h5
    obtain ⟨a1, l1, c1, rfl⟩ := h1.slice
    obtain ⟨a2, l2, c2, rfl⟩ := h2.slice
    obtain ⟨a3, l3, c3, rfl⟩ := h3.slice
    obtain ⟨a4, l4, c4, rfl⟩ := h4.slice
    obtain ⟨a5, l5, c5, rfl⟩ := h5.slice
    have BA := Lib.hid (show Below W.heap.size W (W.alloc (.cells #[.slice a1 l1 c1, .string ⟨rp.toArray⟩, .slice a2 l2 c2, .slice a3 l3 c3, .int .i64 now, .int .i64 next, .slice a4 l4 c4, .slice a5 l5 c5] 30)) from (Below.refl _ _).alloc (Nat.le_refl _) _)
    have z0 : W.heap.size ≤ (W.alloc (.cells #[.slice a1 l1 c1, .string ⟨rp.toArray⟩, .slice a2 l2 c2, .slice a3 l3 c3, .int .i64 now, .int .i64 next, .slice a4 l4 c4, .slice a5 l5 c5] 30)).heap.size := by simp
    clear h1 h2 h3 h4 h5 hs hT hM hn
    go_enter Tryz.func7, Tryz.ntmps7
    go_wp2_with fail
    refine (HSZ.out _ BA.out z0).mono ?_
    rintro e w1 ⟨rfl, hb1⟩
    have B1 := Lib.hid (belI_step BA.out hb1)
    clear hb1
    go_wp2
    go_ret
    exact ⟨rfl, B1.out⟩
end Go.Proofs.YtmaknkbmilcanaaGreatDoor.Ft
