import Derived.Deep.RegionHeld3
import Derived.Test.YtmaknkbmilcanaaGreatDoorSpJ
import Derived.Test.YtmaknkbmilcanaaGreatDoorPf
namespace Go.Proofs.YtmaknkbmilcanaaGreatDoor.Pi
open Go.RowKit
open Go.Proofs.YtmaknkbmilcanaaGreatDoor.Tx (szR szR_in szR_out)
open Go.Proofs.YtmaknkbmilcanaaGreatDoor.Po (belI_step belI_alloc)
open Go.Proofs.YtmaknkbmilcanaaGreatDoor.Qu (Hd)
open Go.Proofs.YtmaknkbmilcanaaGreatDoor.Ul (Tab MaxL)
theorem pp_lowP {B : Nat} {w : World} {u : PV} {p : Pp} (h : PpN (Pf.Fr B w) w u p) : PpN (· < w.heap.size) w u p := h.same fun _ hb => ⟨hb.2.1, rfl⟩
theorem pp_stepP {w w' : World} {u : PV} {p : Pp} (h : PpN (· < w.heap.size) w u p) (hb : Below w.heap.size w w') : PpN (· < w'.heap.size) w' u p := h.same fun b hlt => ⟨Nat.lt_of_lt_of_le hlt hb.size, hb.block b hlt⟩
theorem toPp_P (B : Nat) (w0 : World) (p : Pp) (u : PV) (h : PpN (· < B) w0 u p) (sm : PSm p) (W : World) (hb : Below B w0 W) (hB : B ≤ W.heap.size) :
    Calls Tryz.prog 16 #[pV8 p u] W fun e w' => ∃ v, e = .returned (pV8 p v) ∧ PpN (· < w'.heap.size) w' v p ∧ Below W.heap.size W w' :=
  (Pf.toPp_any B w0 p u h sm W hb hB).mono (by
    rintro e w' ⟨v, rfl, h, hb⟩
    exact ⟨v, rfl, pp_lowP h, hb⟩)
set_option maxRecDepth 100000 in
set_option maxHeartbeats 16000000 in
theorem samePipe_in (p q : Pp) (u u' : PV) (W : World) (h : PpN (· < W.heap.size) W u p) (h' : PpN (· < W.heap.size) W u' q) (hs : szPp p + szPp q ≤ 1048576) (hT : Tab W) (hM : MaxL W) :
    Calls Tryz.prog 9 #[pV8 p u, pV8 q u'] W fun e w' => e = .returned (.bool true) ∧ Below W.heap.size W w' := by
  have sm := sm_of p (by omega)
  have sm' := sm_of q (by omega)
  have HSZ := Lib.hid (fun wx hx hy => szPp_any W.heap.size W p u h (Nat.le_trans sm.pol.rep (by omega)) 1048576 wx hx hy (by omega) (by omega))
  have HSZ2 := Lib.hid (fun wx hx hy => szPp_any W.heap.size W q u' h' (Nat.le_trans sm'.pol.rep (by omega)) (1048576 - (szPp p : Int)) wx hx hy (by omega) (by omega))
  rw [szR_in (by omega)] at HSZ
  rw [szR_in (by omega)] at HSZ2
  have g1 : decide (1048576 - (szPp p : Int) < 0) = false := by simp; omega
  have g2 : decide (1048576 - (szPp p : Int) - (szPp q : Int) < 0) = false := by simp; omega
  generalize 1048576 - (szPp p : Int) - (szPp q : Int) = z2v at *
  generalize 1048576 - (szPp p : Int) = z1v at *
  have HT := Lib.hid hT
  have HM := Lib.hid hM
  obtain ⟨r, hr⟩ : ∃ r, spB p q = r := ⟨_, rfl⟩
  have HTA := Lib.hid (fun wx hx hy => toPp_P W.heap.size W p u h sm.ps wx hx hy)
  have HTB := Lib.hid (fun wx hx hy => toPp_P W.heap.size W q u' h' sm'.ps wx hx hy)
  have HSS := Lib.hid (fun (W' : World) (v v' : PV) (h : PpN (· < W'.heap.size) W' v p) (h2 : PpN (· < W'.heap.size) W' v' q) => show Calls Tryz.prog 36 #[pV8 p v, pV8 q v'] W' (fun e w' => e = .returned (.bool r) ∧ Below W'.heap.size W' w') from by subst hr; exact spS_any W'.heap.size W' p q v v' h h2 sm sm' W' (Below.refl _ _) (Nat.le_refl _))
  have HSI := Lib.hid (fun (W' : World) (v v' : PV) (h : PpN (· < W'.heap.size) W' v p) (h2 : PpN (· < W'.heap.size) W' v' q) (h3 : Tab W') (h4 : MaxL W') => show Calls Tryz.prog 37 #[pV8 p v, pV8 q v'] W' (fun e w' => e = .returned (.bool r) ∧ Below W'.heap.size W' w') from by subst hr; exact spI_any W'.heap.size W' p q v v' h h2 sm W' (Below.refl _ _) (Nat.le_refl _) h3 h4)
  have HEA := Lib.hid (fun (w0 : World) (v v' : PV) (h1 : PpN (· < w0.heap.size) w0 v p) (h2 : PpN (· < w0.heap.size) w0 v' p) => eqPp_self w0.heap.size w0 p v v' h1 h2 w0 (Below.refl _ _) (Nat.le_refl _))
  have HEB := Lib.hid (fun (w0 : World) (v v' : PV) (h1 : PpN (· < w0.heap.size) w0 v q) (h2 : PpN (· < w0.heap.size) w0 v' q) => eqPp_self w0.heap.size w0 q v v' h1 h2 w0 (Below.refl _ _) (Nat.le_refl _))
  clear hr hs sm sm' hT hM
  obtain ⟨ch1, ⟨rp1, ur1, rl1⟩, now1, nx1, lo1, wi1⟩ := p
  obtain ⟨ch2, ⟨rp2, ur2, rl2⟩, now2, nx2, lo2, wi2⟩ := q
  obtain ⟨u1, u2, u3, u4, u5⟩ := u
  obtain ⟨v1, v2, v3, v4, v5⟩ := u'
  obtain ⟨h1, h2, h3, h4, h5⟩ := h
  obtain ⟨k1, k2, k3, k4, k5⟩ := h'
  simp only at h1 h2 h3 h4 h5 k1 k2 k3 k4 k5
  obtain ⟨a1, l1, c1, rfl⟩ := h1.slice
  obtain ⟨d1, m1, f1, rfl⟩ := h2.slice
  obtain ⟨o1, p1, q1, rfl⟩ := h3.slice
  obtain ⟨r1, s1, t1, rfl⟩ := h4.slice
  obtain ⟨e1, g1_, i1, rfl⟩ := h5.slice
  obtain ⟨a2, l2, c2, rfl⟩ := k1.slice
  obtain ⟨d2, m2, f2, rfl⟩ := k2.slice
  obtain ⟨o2, p2, q2, rfl⟩ := k3.slice
  obtain ⟨r2, s2, t2, rfl⟩ := k4.slice
  obtain ⟨e2, g2_, i2, rfl⟩ := k5.slice
  clear h1 h2 h3 h4 h5 k1 k2 k3 k4 k5
  obtain ⟨wa, hwa⟩ : ∃ wa, wa = (W.alloc (.cells #[.slice a1 l1 c1, .string ⟨rp1.toArray⟩, .slice d1 m1 f1, .slice o1 p1 q1, .int .i64 now1, .int .i64 nx1, .slice r1 s1 t1, .slice e1 g1_ i1] 30)).alloc (.cells #[.slice a2 l2 c2, .string ⟨rp2.toArray⟩, .slice d2 m2 f2, .slice o2 p2 q2, .int .i64 now2, .int .i64 nx2, .slice r2 s2 t2, .slice e2 g2_ i2] 30) := ⟨_, rfl⟩
  have BA := Lib.hid (show Below W.heap.size W wa by rw [hwa]; exact ((Below.refl W.heap.size W).alloc (Nat.le_refl _) (.cells #[.slice a1 l1 c1, .string ⟨rp1.toArray⟩, .slice d1 m1 f1, .slice o1 p1 q1, .int .i64 now1, .int .i64 nx1, .slice r1 s1 t1, .slice e1 g1_ i1] 30) |>.alloc (by simp) (.cells #[.slice a2 l2 c2, .string ⟨rp2.toArray⟩, .slice d2 m2 f2, .slice o2 p2 q2, .int .i64 now2, .int .i64 nx2, .slice r2 s2 t2, .slice e2 g2_ i2] 30)))
  have K0 := Lib.hid (show Hd wa W.heap.size (.cells #[.slice a1 l1 c1, .string ⟨rp1.toArray⟩, .slice d1 m1 f1, .slice o1 p1 q1, .int .i64 now1, .int .i64 nx1, .slice r1 s1 t1, .slice e1 g1_ i1] 30) by rw [hwa]; exact (Hd.new W (.cells #[.slice a1 l1 c1, .string ⟨rp1.toArray⟩, .slice d1 m1 f1, .slice o1 p1 q1, .int .i64 now1, .int .i64 nx1, .slice r1 s1 t1, .slice e1 g1_ i1] 30)).al (.cells #[.slice a2 l2 c2, .string ⟨rp2.toArray⟩, .slice d2 m2 f2, .slice o2 p2 q2, .int .i64 now2, .int .i64 nx2, .slice r2 s2 t2, .slice e2 g2_ i2] 30))
  have K1 := Lib.hid (show Hd wa (W.heap.size + 1) (.cells #[.slice a2 l2 c2, .string ⟨rp2.toArray⟩, .slice d2 m2 f2, .slice o2 p2 q2, .int .i64 now2, .int .i64 nx2, .slice r2 s2 t2, .slice e2 g2_ i2] 30) by
    have := Hd.new (W.alloc (.cells #[.slice a1 l1 c1, .string ⟨rp1.toArray⟩, .slice d1 m1 f1, .slice o1 p1 q1, .int .i64 now1, .int .i64 nx1, .slice r1 s1 t1, .slice e1 g1_ i1] 30)) (.cells #[.slice a2 l2 c2, .string ⟨rp2.toArray⟩, .slice d2 m2 f2, .slice o2 p2 q2, .int .i64 now2, .int .i64 nx2, .slice r2 s2 t2, .slice e2 g2_ i2] 30)
    rw [hwa]
    simpa using this)
  go_enter Tryz.func9, Tryz.ntmps9
  go_upto_region 1 with fail
  rw [← hwa]
  clear hwa
  have kk := K0.out
  have x0 := cell_of_row wa (W.heap.size) 0 _ _ _ kk
  have x1 := cell_of_row wa (W.heap.size) 1 _ _ _ kk
  have x2 := cell_of_row wa (W.heap.size) 2 _ _ _ kk
  have x3 := cell_of_row wa (W.heap.size) 3 _ _ _ kk
  have x4 := cell_of_row wa (W.heap.size) 4 _ _ _ kk
  have x5 := cell_of_row wa (W.heap.size) 5 _ _ _ kk
  have x6 := cell_of_row wa (W.heap.size) 6 _ _ _ kk
  have x7 := cell_of_row wa (W.heap.size) 7 _ _ _ kk
  clear kk
  go_wp2_with fail
  refine (HSZ.out wa BA.out BA.out.size).mono ?_
  rintro e w1 ⟨rfl, hb9⟩
  have K0 := Lib.hid (K0.out.blw hb9)
  have K1 := Lib.hid (K1.out.blw hb9)
  have BA := Lib.hid (belI_step BA.out hb9)
  clear hb9 HSZ x0 x1 x2 x3 x4 x5 x6 x7
  have kk := K1.out
  have y0 := cell_of_row w1 (W.heap.size + 1) 0 _ _ _ kk
  have y1 := cell_of_row w1 (W.heap.size + 1) 1 _ _ _ kk
  have y2 := cell_of_row w1 (W.heap.size + 1) 2 _ _ _ kk
  have y3 := cell_of_row w1 (W.heap.size + 1) 3 _ _ _ kk
  have y4 := cell_of_row w1 (W.heap.size + 1) 4 _ _ _ kk
  have y5 := cell_of_row w1 (W.heap.size + 1) 5 _ _ _ kk
  have y6 := cell_of_row w1 (W.heap.size + 1) 6 _ _ _ kk
  have y7 := cell_of_row w1 (W.heap.size + 1) 7 _ _ _ kk
  clear kk
  go_wp2_with fail
  refine (HSZ2.out w1 BA.out BA.out.size).mono ?_
  rintro e w2 ⟨rfl, hb9⟩
  have K0 := Lib.hid (K0.out.blw hb9)
  have K1 := Lib.hid (K1.out.blw hb9)
  have BA := Lib.hid (belI_step BA.out hb9)
  clear hb9 HSZ2 y0 y1 y2 y3 y4 y5 y6 y7
  have HALL := Lib.hid (fun wx (hk : Hd wx (W.heap.size) (.cells #[.slice a1 l1 c1, .string ⟨rp1.toArray⟩, .slice d1 m1 f1, .slice o1 p1 q1, .int .i64 now1, .int .i64 nx1, .slice r1 s1 t1, .slice e1 g1_ i1] 30)) (hl : Hd wx (W.heap.size + 1) (.cells #[.slice a2 l2 c2, .string ⟨rp2.toArray⟩, .slice d2 m2 f2, .slice o2 p2 q2, .int .i64 now2, .int .i64 nx2, .slice r2 s2 t2, .slice e2 g2_ i2] 30)) (hb : Below W.heap.size W wx) => And.intro (cell_of_row wx (W.heap.size) 0 _ _ _ hk) (And.intro (cell_of_row wx (W.heap.size) 1 _ _ _ hk) (And.intro (cell_of_row wx (W.heap.size) 2 _ _ _ hk) (And.intro (cell_of_row wx (W.heap.size) 3 _ _ _ hk) (And.intro (cell_of_row wx (W.heap.size) 4 _ _ _ hk) (And.intro (cell_of_row wx (W.heap.size) 5 _ _ _ hk) (And.intro (cell_of_row wx (W.heap.size) 6 _ _ _ hk) (And.intro (cell_of_row wx (W.heap.size) 7 _ _ _ hk) (And.intro (cell_of_row wx (W.heap.size + 1) 0 _ _ _ hl) (And.intro (cell_of_row wx (W.heap.size + 1) 1 _ _ _ hl) (And.intro (cell_of_row wx (W.heap.size + 1) 2 _ _ _ hl) (And.intro (cell_of_row wx (W.heap.size + 1) 3 _ _ _ hl) (And.intro (cell_of_row wx (W.heap.size + 1) 4 _ _ _ hl) (And.intro (cell_of_row wx (W.heap.size + 1) 5 _ _ _ hl) (And.intro (cell_of_row wx (W.heap.size + 1) 6 _ _ _ hl) (And.intro (cell_of_row wx (W.heap.size + 1) 7 _ _ _ hl) (And.intro hk (And.intro hl hb))))))))))))))))))
  go_wp2_with fail
  go_region_held3 (fun wx => wx.cell? ⟨W.heap.size, 0, none⟩ = some (.slice a1 l1 c1) ∧ wx.cell? ⟨W.heap.size, 1, none⟩ = some (.string ⟨rp1.toArray⟩) ∧ wx.cell? ⟨W.heap.size, 2, none⟩ = some (.slice d1 m1 f1) ∧ wx.cell? ⟨W.heap.size, 3, none⟩ = some (.slice o1 p1 q1) ∧ wx.cell? ⟨W.heap.size, 4, none⟩ = some (.int .i64 now1) ∧ wx.cell? ⟨W.heap.size, 5, none⟩ = some (.int .i64 nx1) ∧ wx.cell? ⟨W.heap.size, 6, none⟩ = some (.slice r1 s1 t1) ∧ wx.cell? ⟨W.heap.size, 7, none⟩ = some (.slice e1 g1_ i1) ∧ wx.cell? ⟨W.heap.size + 1, 0, none⟩ = some (.slice a2 l2 c2) ∧ wx.cell? ⟨W.heap.size + 1, 1, none⟩ = some (.string ⟨rp2.toArray⟩) ∧ wx.cell? ⟨W.heap.size + 1, 2, none⟩ = some (.slice d2 m2 f2) ∧ wx.cell? ⟨W.heap.size + 1, 3, none⟩ = some (.slice o2 p2 q2) ∧ wx.cell? ⟨W.heap.size + 1, 4, none⟩ = some (.int .i64 now2) ∧ wx.cell? ⟨W.heap.size + 1, 5, none⟩ = some (.int .i64 nx2) ∧ wx.cell? ⟨W.heap.size + 1, 6, none⟩ = some (.slice r2 s2 t2) ∧ wx.cell? ⟨W.heap.size + 1, 7, none⟩ = some (.slice e2 g2_ i2) ∧ Hd wx (W.heap.size) (.cells #[.slice a1 l1 c1, .string ⟨rp1.toArray⟩, .slice d1 m1 f1, .slice o1 p1 q1, .int .i64 now1, .int .i64 nx1, .slice r1 s1 t1, .slice e1 g1_ i1] 30) ∧ Hd wx (W.heap.size + 1) (.cells #[.slice a2 l2 c2, .string ⟨rp2.toArray⟩, .slice d2 m2 f2, .slice o2 p2 q2, .int .i64 now2, .int .i64 nx2, .slice r2 s2 t2, .slice e2 g2_ i2] 30) ∧ Below W.heap.size W wx)
    (first
      | exact HALL.out _ K0.out K1.out BA.out
      | exact HALL.out _ K0.out K1.out (Below.drew BA.out)
      | (go_split_ands; exact HALL.out _ (by assumption) (by assumption) (by assumption))
      | (go_split_ands; exact HALL.out _ (by assumption) (by assumption) (Below.drew (by assumption))))
    (first
      | (go_split_ands
         have hx := hPA
         have hy := hPB
         go_at_call 36
         with_reducible refine (HSS.out _ _ _ hx hy).mono ?_
         rintro e w9 ⟨rfl, hb9⟩
         have hK9 : Hd w9 (W.heap.size) (.cells #[.slice a1 l1 c1, .string ⟨rp1.toArray⟩, .slice d1 m1 f1, .slice o1 p1 q1, .int .i64 now1, .int .i64 nx1, .slice r1 s1 t1, .slice e1 g1_ i1] 30) := Hd.blw (by assumption) hb9
         have hL9 : Hd w9 (W.heap.size + 1) (.cells #[.slice a2 l2 c2, .string ⟨rp2.toArray⟩, .slice d2 m2 f2, .slice o2 p2 q2, .int .i64 now2, .int .i64 nx2, .slice r2 s2 t2, .slice e2 g2_ i2] 30) := Hd.blw (by assumption) hb9
         have hB9 : Below W.heap.size W w9 := belI_step (by assumption) hb9)
      | (go_split_ands
         go_at_call 16
         with_reducible refine (HTA.out _ (by assumption) (Below.size (by assumption : Below W.heap.size W _))).mono ?_
         rintro e w6 ⟨⟨Av1, Av2, Av3, Av4, Av5⟩, rfl, hAN, hbA⟩
         have hKA : Hd w6 (W.heap.size) (.cells #[.slice a1 l1 c1, .string ⟨rp1.toArray⟩, .slice d1 m1 f1, .slice o1 p1 q1, .int .i64 now1, .int .i64 nx1, .slice r1 s1 t1, .slice e1 g1_ i1] 30) := Hd.blw (by assumption) hbA
         have hLA : Hd w6 (W.heap.size + 1) (.cells #[.slice a2 l2 c2, .string ⟨rp2.toArray⟩, .slice d2 m2 f2, .slice o2 p2 q2, .int .i64 now2, .int .i64 nx2, .slice r2 s2 t2, .slice e2 g2_ i2] 30) := Hd.blw (by assumption) hbA
         have hBA : Below W.heap.size W w6 := belI_step (by assumption) hbA
         first | (have hPB := pp_stepP hPB hbA) | skip
         have hPA := hAN
         obtain ⟨Aa0, Al0, Ac0, rfl⟩ := hAN.cv.slice
         obtain ⟨Aa1, Al1, Ac1, rfl⟩ := hAN.uv.slice
         obtain ⟨Aa2, Al2, Ac2, rfl⟩ := hAN.rv.slice
         obtain ⟨Aa3, Al3, Ac3, rfl⟩ := hAN.lv.slice
         obtain ⟨Aa4, Al4, Ac4, rfl⟩ := hAN.wv.slice)
      | (go_split_ands
         go_at_call 16
         with_reducible refine (HTB.out _ (by assumption) (Below.size (by assumption : Below W.heap.size W _))).mono ?_
         rintro e w7 ⟨⟨Bv1, Bv2, Bv3, Bv4, Bv5⟩, rfl, hBN, hbB⟩
         have hKB : Hd w7 (W.heap.size) (.cells #[.slice a1 l1 c1, .string ⟨rp1.toArray⟩, .slice d1 m1 f1, .slice o1 p1 q1, .int .i64 now1, .int .i64 nx1, .slice r1 s1 t1, .slice e1 g1_ i1] 30) := Hd.blw (by assumption) hbB
         have hLB : Hd w7 (W.heap.size + 1) (.cells #[.slice a2 l2 c2, .string ⟨rp2.toArray⟩, .slice d2 m2 f2, .slice o2 p2 q2, .int .i64 now2, .int .i64 nx2, .slice r2 s2 t2, .slice e2 g2_ i2] 30) := Hd.blw (by assumption) hbB
         have hBB : Below W.heap.size W w7 := belI_step (by assumption) hbB
         first | (have hPA := pp_stepP hPA hbB) | skip
         have hPB := hBN
         obtain ⟨Ba0, Bl0, Bc0, rfl⟩ := hBN.cv.slice
         obtain ⟨Ba1, Bl1, Bc1, rfl⟩ := hBN.uv.slice
         obtain ⟨Ba2, Bl2, Bc2, rfl⟩ := hBN.rv.slice
         obtain ⟨Ba3, Bl3, Bc3, rfl⟩ := hBN.lv.slice
         obtain ⟨Ba4, Bl4, Bc4, rfl⟩ := hBN.wv.slice))
  all_goals
    go_split_ands
    have K0 := Lib.hid hK9
    have K1 := Lib.hid hL9
    have BA := Lib.hid hB9
    clear hK9 hL9 hB9
    try clear hPA hPB
    try clear hAN hBN
    have kk := K0.out
    have x0 := cell_of_row w9 (W.heap.size) 0 _ _ _ kk
    have x1 := cell_of_row w9 (W.heap.size) 1 _ _ _ kk
    have x2 := cell_of_row w9 (W.heap.size) 2 _ _ _ kk
    have x3 := cell_of_row w9 (W.heap.size) 3 _ _ _ kk
    have x4 := cell_of_row w9 (W.heap.size) 4 _ _ _ kk
    have x5 := cell_of_row w9 (W.heap.size) 5 _ _ _ kk
    have x6 := cell_of_row w9 (W.heap.size) 6 _ _ _ kk
    have x7 := cell_of_row w9 (W.heap.size) 7 _ _ _ kk
    clear kk
    go_wp2_with fail
    refine (HTA.out w9 BA.out BA.out.size).mono ?_
    rintro e w3 ⟨⟨va1, va2, va3, va4, va5⟩, rfl, hN, hb9⟩
    obtain ⟨xa0, xl0, xc0, rfl⟩ := hN.cv.slice
    obtain ⟨xa1, xl1, xc1, rfl⟩ := hN.uv.slice
    obtain ⟨xa2, xl2, xc2, rfl⟩ := hN.rv.slice
    obtain ⟨xa3, xl3, xc3, rfl⟩ := hN.lv.slice
    obtain ⟨xa4, xl4, xc4, rfl⟩ := hN.wv.slice
    have K0 := Lib.hid (K0.out.blw hb9)
    have K1 := Lib.hid (K1.out.blw hb9)
    have BA := Lib.hid (belI_step BA.out hb9)
    have XN := Lib.hid hN
    clear hb9 hN x0 x1 x2 x3 x4 x5 x6 x7
    obtain ⟨wb, hwb⟩ : ∃ wb, wb = w3.alloc (.cells #[.slice xa0 xl0 xc0, .string ⟨rp1.toArray⟩, .slice xa1 xl1 xc1, .slice xa2 xl2 xc2, .int .i64 now1, .int .i64 nx1, .slice xa3 xl3 xc3, .slice xa4 xl4 xc4] 41) := ⟨_, rfl⟩
    have XN := Lib.hid (show PpN (· < wb.heap.size) wb ⟨.slice xa0 xl0 xc0, .slice xa1 xl1 xc1, .slice xa2 xl2 xc2, .slice xa3 xl3 xc3, .slice xa4 xl4 xc4⟩ ⟨ch1, ⟨rp1, ur1, rl1⟩, now1, nx1, lo1, wi1⟩ by rw [hwb]; exact pp_stepP XN.out ((Below.refl _ _).alloc (Nat.le_refl _) _))
    have KX := Lib.hid (show Hd wb w3.heap.size (.cells #[.slice xa0 xl0 xc0, .string ⟨rp1.toArray⟩, .slice xa1 xl1 xc1, .slice xa2 xl2 xc2, .int .i64 now1, .int .i64 nx1, .slice xa3 xl3 xc3, .slice xa4 xl4 xc4] 41) by rw [hwb]; exact Hd.new w3 _)
    have K0 := Lib.hid (show Hd wb (W.heap.size) (.cells #[.slice a1 l1 c1, .string ⟨rp1.toArray⟩, .slice d1 m1 f1, .slice o1 p1 q1, .int .i64 now1, .int .i64 nx1, .slice r1 s1 t1, .slice e1 g1_ i1] 30) by rw [hwb]; exact K0.out.al _)
    have K1 := Lib.hid (show Hd wb (W.heap.size + 1) (.cells #[.slice a2 l2 c2, .string ⟨rp2.toArray⟩, .slice d2 m2 f2, .slice o2 p2 q2, .int .i64 now2, .int .i64 nx2, .slice r2 s2 t2, .slice e2 g2_ i2] 30) by rw [hwb]; exact K1.out.al _)
    have BA := Lib.hid (show Below W.heap.size W wb by rw [hwb]; exact belI_alloc BA.out)
    have kk := K1.out
    have y0 := cell_of_row wb (W.heap.size + 1) 0 _ _ _ kk
    have y1 := cell_of_row wb (W.heap.size + 1) 1 _ _ _ kk
    have y2 := cell_of_row wb (W.heap.size + 1) 2 _ _ _ kk
    have y3 := cell_of_row wb (W.heap.size + 1) 3 _ _ _ kk
    have y4 := cell_of_row wb (W.heap.size + 1) 4 _ _ _ kk
    have y5 := cell_of_row wb (W.heap.size + 1) 5 _ _ _ kk
    have y6 := cell_of_row wb (W.heap.size + 1) 6 _ _ _ kk
    have y7 := cell_of_row wb (W.heap.size + 1) 7 _ _ _ kk
    clear kk
    go_upto_region 10 with fail
    rw [← hwb]
    clear hwb
    go_wp2_with fail
    refine (HTB.out wb BA.out BA.out.size).mono ?_
    rintro e w4 ⟨⟨va1, va2, va3, va4, va5⟩, rfl, hN, hb9⟩
    obtain ⟨ya0, yl0, yc0, rfl⟩ := hN.cv.slice
    obtain ⟨ya1, yl1, yc1, rfl⟩ := hN.uv.slice
    obtain ⟨ya2, yl2, yc2, rfl⟩ := hN.rv.slice
    obtain ⟨ya3, yl3, yc3, rfl⟩ := hN.lv.slice
    obtain ⟨ya4, yl4, yc4, rfl⟩ := hN.wv.slice
    have K0 := Lib.hid (K0.out.blw hb9)
    have K1 := Lib.hid (K1.out.blw hb9)
    have BA := Lib.hid (belI_step BA.out hb9)
    have XN := Lib.hid (pp_stepP XN.out hb9)
    have KX := Lib.hid (KX.out.blw hb9)
    have YN := Lib.hid hN
    clear hb9 hN y0 y1 y2 y3 y4 y5 y6 y7
    obtain ⟨wc, hwc⟩ : ∃ wc, wc = w4.alloc (.cells #[.slice ya0 yl0 yc0, .string ⟨rp2.toArray⟩, .slice ya1 yl1 yc1, .slice ya2 yl2 yc2, .int .i64 now2, .int .i64 nx2, .slice ya3 yl3 yc3, .slice ya4 yl4 yc4] 41) := ⟨_, rfl⟩
    have XN := Lib.hid (show PpN (· < wc.heap.size) wc ⟨.slice xa0 xl0 xc0, .slice xa1 xl1 xc1, .slice xa2 xl2 xc2, .slice xa3 xl3 xc3, .slice xa4 xl4 xc4⟩ ⟨ch1, ⟨rp1, ur1, rl1⟩, now1, nx1, lo1, wi1⟩ by rw [hwc]; exact pp_stepP XN.out ((Below.refl _ _).alloc (Nat.le_refl _) _))
    have YN := Lib.hid (show PpN (· < wc.heap.size) wc ⟨.slice ya0 yl0 yc0, .slice ya1 yl1 yc1, .slice ya2 yl2 yc2, .slice ya3 yl3 yc3, .slice ya4 yl4 yc4⟩ ⟨ch2, ⟨rp2, ur2, rl2⟩, now2, nx2, lo2, wi2⟩ by rw [hwc]; exact pp_stepP YN.out ((Below.refl _ _).alloc (Nat.le_refl _) _))
    have KX := Lib.hid (show Hd wc w3.heap.size (.cells #[.slice xa0 xl0 xc0, .string ⟨rp1.toArray⟩, .slice xa1 xl1 xc1, .slice xa2 xl2 xc2, .int .i64 now1, .int .i64 nx1, .slice xa3 xl3 xc3, .slice xa4 xl4 xc4] 41) by rw [hwc]; exact KX.out.al _)
    have KY := Lib.hid (show Hd wc w4.heap.size (.cells #[.slice ya0 yl0 yc0, .string ⟨rp2.toArray⟩, .slice ya1 yl1 yc1, .slice ya2 yl2 yc2, .int .i64 now2, .int .i64 nx2, .slice ya3 yl3 yc3, .slice ya4 yl4 yc4] 41) by rw [hwc]; exact Hd.new w4 _)
    have K0 := Lib.hid (show Hd wc (W.heap.size) (.cells #[.slice a1 l1 c1, .string ⟨rp1.toArray⟩, .slice d1 m1 f1, .slice o1 p1 q1, .int .i64 now1, .int .i64 nx1, .slice r1 s1 t1, .slice e1 g1_ i1] 30) by rw [hwc]; exact K0.out.al _)
    have K1 := Lib.hid (show Hd wc (W.heap.size + 1) (.cells #[.slice a2 l2 c2, .string ⟨rp2.toArray⟩, .slice d2 m2 f2, .slice o2 p2 q2, .int .i64 now2, .int .i64 nx2, .slice r2 s2 t2, .slice e2 g2_ i2] 30) by rw [hwc]; exact K1.out.al _)
    have BA := Lib.hid (show Below W.heap.size W wc by rw [hwc]; exact belI_alloc BA.out)
    have kk := KX.out
    have x0 := cell_of_row wc (w3.heap.size) 0 _ _ _ kk
    have x1 := cell_of_row wc (w3.heap.size) 1 _ _ _ kk
    have x2 := cell_of_row wc (w3.heap.size) 2 _ _ _ kk
    have x3 := cell_of_row wc (w3.heap.size) 3 _ _ _ kk
    have x4 := cell_of_row wc (w3.heap.size) 4 _ _ _ kk
    have x5 := cell_of_row wc (w3.heap.size) 5 _ _ _ kk
    have x6 := cell_of_row wc (w3.heap.size) 6 _ _ _ kk
    have x7 := cell_of_row wc (w3.heap.size) 7 _ _ _ kk
    clear kk
    have kk := KY.out
    have y0 := cell_of_row wc (w4.heap.size) 0 _ _ _ kk
    have y1 := cell_of_row wc (w4.heap.size) 1 _ _ _ kk
    have y2 := cell_of_row wc (w4.heap.size) 2 _ _ _ kk
    have y3 := cell_of_row wc (w4.heap.size) 3 _ _ _ kk
    have y4 := cell_of_row wc (w4.heap.size) 4 _ _ _ kk
    have y5 := cell_of_row wc (w4.heap.size) 5 _ _ _ kk
    have y6 := cell_of_row wc (w4.heap.size) 6 _ _ _ kk
    have y7 := cell_of_row wc (w4.heap.size) 7 _ _ _ kk
    clear kk
    have HOK := Lib.hid (HSI.out wc ⟨.slice xa0 xl0 xc0, .slice xa1 xl1 xc1, .slice xa2 xl2 xc2, .slice xa3 xl3 xc3, .slice xa4 xl4 xc4⟩ ⟨.slice ya0 yl0 yc0, .slice ya1 yl1 yc1, .slice ya2 yl2 yc2, .slice ya3 yl3 yc3, .slice ya4 yl4 yc4⟩ XN.out YN.out (HT.out.below BA.out) (HM.out.below BA.out))
    go_upto_region 11 with fail
    rw [← hwc]
    clear hwc HSI HSS
    go_wp2_with fail
    refine HOK.out.mono ?_
    rintro e w5 ⟨rfl, hb9⟩
    have K0 := Lib.hid (K0.out.blw hb9)
    have K1 := Lib.hid (K1.out.blw hb9)
    have BA := Lib.hid (belI_step BA.out hb9)
    have XN := Lib.hid (pp_stepP XN.out hb9)
    have YN := Lib.hid (pp_stepP YN.out hb9)
    have KX := Lib.hid (KX.out.blw hb9)
    have KY := Lib.hid (KY.out.blw hb9)
    clear hb9 HOK x0 x1 x2 x3 x4 x5 x6 x7 y0 y1 y2 y3 y4 y5 y6 y7
    cases r
    all_goals
      have kk := K0.out
      have x0 := cell_of_row w5 (W.heap.size) 0 _ _ _ kk
      have x1 := cell_of_row w5 (W.heap.size) 1 _ _ _ kk
      have x2 := cell_of_row w5 (W.heap.size) 2 _ _ _ kk
      have x3 := cell_of_row w5 (W.heap.size) 3 _ _ _ kk
      have x4 := cell_of_row w5 (W.heap.size) 4 _ _ _ kk
      have x5 := cell_of_row w5 (W.heap.size) 5 _ _ _ kk
      have x6 := cell_of_row w5 (W.heap.size) 6 _ _ _ kk
      have x7 := cell_of_row w5 (W.heap.size) 7 _ _ _ kk
      clear kk
      have kk := KX.out
      have y0 := cell_of_row w5 (w3.heap.size) 0 _ _ _ kk
      have y1 := cell_of_row w5 (w3.heap.size) 1 _ _ _ kk
      have y2 := cell_of_row w5 (w3.heap.size) 2 _ _ _ kk
      have y3 := cell_of_row w5 (w3.heap.size) 3 _ _ _ kk
      have y4 := cell_of_row w5 (w3.heap.size) 4 _ _ _ kk
      have y5 := cell_of_row w5 (w3.heap.size) 5 _ _ _ kk
      have y6 := cell_of_row w5 (w3.heap.size) 6 _ _ _ kk
      have y7 := cell_of_row w5 (w3.heap.size) 7 _ _ _ kk
      clear kk
      clear x0 x1 x2 x3 x4 x5 x6 x7 y0 y1 y2 y3 y4 y5 y6 y7
      have HALL := Lib.hid (fun wx (hk : Hd wx (W.heap.size) (.cells #[.slice a1 l1 c1, .string ⟨rp1.toArray⟩, .slice d1 m1 f1, .slice o1 p1 q1, .int .i64 now1, .int .i64 nx1, .slice r1 s1 t1, .slice e1 g1_ i1] 30)) (hl : Hd wx (w3.heap.size) (.cells #[.slice xa0 xl0 xc0, .string ⟨rp1.toArray⟩, .slice xa1 xl1 xc1, .slice xa2 xl2 xc2, .int .i64 now1, .int .i64 nx1, .slice xa3 xl3 xc3, .slice xa4 xl4 xc4] 41)) (hb : Below w5.heap.size w5 wx) => And.intro (cell_of_row wx (W.heap.size) 0 _ _ _ hk) (And.intro (cell_of_row wx (W.heap.size) 1 _ _ _ hk) (And.intro (cell_of_row wx (W.heap.size) 2 _ _ _ hk) (And.intro (cell_of_row wx (W.heap.size) 3 _ _ _ hk) (And.intro (cell_of_row wx (W.heap.size) 4 _ _ _ hk) (And.intro (cell_of_row wx (W.heap.size) 5 _ _ _ hk) (And.intro (cell_of_row wx (W.heap.size) 6 _ _ _ hk) (And.intro (cell_of_row wx (W.heap.size) 7 _ _ _ hk) (And.intro (cell_of_row wx (w3.heap.size) 0 _ _ _ hl) (And.intro (cell_of_row wx (w3.heap.size) 1 _ _ _ hl) (And.intro (cell_of_row wx (w3.heap.size) 2 _ _ _ hl) (And.intro (cell_of_row wx (w3.heap.size) 3 _ _ _ hl) (And.intro (cell_of_row wx (w3.heap.size) 4 _ _ _ hl) (And.intro (cell_of_row wx (w3.heap.size) 5 _ _ _ hl) (And.intro (cell_of_row wx (w3.heap.size) 6 _ _ _ hl) (And.intro (cell_of_row wx (w3.heap.size) 7 _ _ _ hl) (And.intro hk (And.intro hl hb))))))))))))))))))
      have HBW := Lib.hid (fun wx (h : Below w5.heap.size w5 wx) => And.intro (belI_step BA.out h) (belI_step BA.out h).size)
      have B0_ := Lib.hid (Below.refl w5.heap.size w5)
      go_wp2_with fail
      go_region_held3 (fun wx => wx.cell? ⟨W.heap.size, 0, none⟩ = some (.slice a1 l1 c1) ∧ wx.cell? ⟨W.heap.size, 1, none⟩ = some (.string ⟨rp1.toArray⟩) ∧ wx.cell? ⟨W.heap.size, 2, none⟩ = some (.slice d1 m1 f1) ∧ wx.cell? ⟨W.heap.size, 3, none⟩ = some (.slice o1 p1 q1) ∧ wx.cell? ⟨W.heap.size, 4, none⟩ = some (.int .i64 now1) ∧ wx.cell? ⟨W.heap.size, 5, none⟩ = some (.int .i64 nx1) ∧ wx.cell? ⟨W.heap.size, 6, none⟩ = some (.slice r1 s1 t1) ∧ wx.cell? ⟨W.heap.size, 7, none⟩ = some (.slice e1 g1_ i1) ∧ wx.cell? ⟨w3.heap.size, 0, none⟩ = some (.slice xa0 xl0 xc0) ∧ wx.cell? ⟨w3.heap.size, 1, none⟩ = some (.string ⟨rp1.toArray⟩) ∧ wx.cell? ⟨w3.heap.size, 2, none⟩ = some (.slice xa1 xl1 xc1) ∧ wx.cell? ⟨w3.heap.size, 3, none⟩ = some (.slice xa2 xl2 xc2) ∧ wx.cell? ⟨w3.heap.size, 4, none⟩ = some (.int .i64 now1) ∧ wx.cell? ⟨w3.heap.size, 5, none⟩ = some (.int .i64 nx1) ∧ wx.cell? ⟨w3.heap.size, 6, none⟩ = some (.slice xa3 xl3 xc3) ∧ wx.cell? ⟨w3.heap.size, 7, none⟩ = some (.slice xa4 xl4 xc4) ∧ Hd wx (W.heap.size) (.cells #[.slice a1 l1 c1, .string ⟨rp1.toArray⟩, .slice d1 m1 f1, .slice o1 p1 q1, .int .i64 now1, .int .i64 nx1, .slice r1 s1 t1, .slice e1 g1_ i1] 30) ∧ Hd wx (w3.heap.size) (.cells #[.slice xa0 xl0 xc0, .string ⟨rp1.toArray⟩, .slice xa1 xl1 xc1, .slice xa2 xl2 xc2, .int .i64 now1, .int .i64 nx1, .slice xa3 xl3 xc3, .slice xa4 xl4 xc4] 41) ∧ Below w5.heap.size w5 wx)
        (first
          | exact HALL.out _ K0.out KX.out B0_.out
          | exact HALL.out _ K0.out KX.out (Below.drew B0_.out)
          | (go_split_ands; exact HALL.out _ (by assumption) (by assumption) (by assumption))
          | (go_split_ands; exact HALL.out _ (by assumption) (by assumption) (Below.drew (by assumption))))
        (first
          | (go_split_ands
             have hy := hPCa
             have hBc : Below w5.heap.size w5 _ := (by assumption)
             go_at_call 18
             with_reducible refine (HEA.out _ ⟨.slice xa0 xl0 xc0, .slice xa1 xl1 xc1, .slice xa2 xl2 xc2, .slice xa3 xl3 xc3, .slice xa4 xl4 xc4⟩ _ (pp_stepP XN.out (by assumption)) hy).mono ?_
             rintro e w8a ⟨rfl, hb8⟩
             have hK8 : Hd w8a (W.heap.size) (.cells #[.slice a1 l1 c1, .string ⟨rp1.toArray⟩, .slice d1 m1 f1, .slice o1 p1 q1, .int .i64 now1, .int .i64 nx1, .slice r1 s1 t1, .slice e1 g1_ i1] 30) := Hd.blw (by assumption) hb8
             have hL8 : Hd w8a (w3.heap.size) (.cells #[.slice xa0 xl0 xc0, .string ⟨rp1.toArray⟩, .slice xa1 xl1 xc1, .slice xa2 xl2 xc2, .int .i64 now1, .int .i64 nx1, .slice xa3 xl3 xc3, .slice xa4 xl4 xc4] 41) := Hd.blw (by assumption) hb8
             have hB8 : Below w5.heap.size w5 w8a := belI_step (by assumption) hb8)
          | (go_split_ands
             have hBc := HBW.out _ (by assumption)
             go_at_call 16
             with_reducible refine (HTA.out _ hBc.1 hBc.2).mono ?_
             rintro e w7a ⟨⟨va1, va2, va3, va4, va5⟩, rfl, hN, hb7⟩
             have hK7 : Hd w7a (W.heap.size) (.cells #[.slice a1 l1 c1, .string ⟨rp1.toArray⟩, .slice d1 m1 f1, .slice o1 p1 q1, .int .i64 now1, .int .i64 nx1, .slice r1 s1 t1, .slice e1 g1_ i1] 30) := Hd.blw (by assumption) hb7
             have hL7 : Hd w7a (w3.heap.size) (.cells #[.slice xa0 xl0 xc0, .string ⟨rp1.toArray⟩, .slice xa1 xl1 xc1, .slice xa2 xl2 xc2, .int .i64 now1, .int .i64 nx1, .slice xa3 xl3 xc3, .slice xa4 xl4 xc4] 41) := Hd.blw (by assumption) hb7
             have hB7 : Below w5.heap.size w5 w7a := belI_step (by assumption) hb7
             have hPCa := hN
             obtain ⟨za0, zl0, zc0, rfl⟩ := hN.cv.slice
             obtain ⟨za1, zl1, zc1, rfl⟩ := hN.uv.slice
             obtain ⟨za2, zl2, zc2, rfl⟩ := hN.rv.slice
             obtain ⟨za3, zl3, zc3, rfl⟩ := hN.lv.slice
             obtain ⟨za4, zl4, zc4, rfl⟩ := hN.wv.slice))
      go_split_ands
      have hb9 : Below w5.heap.size w5 w8a := hB8
      have K1 := Lib.hid (K1.out.blw hb9)
      have KY := Lib.hid (KY.out.blw hb9)
      have YN := Lib.hid (pp_stepP YN.out hb9)
      have BA := Lib.hid (belI_step BA.out hb9)
      clear hb9 hB8 hK8 hL8 hK7 hL7 hB7 HALL HBW B0_ K0 KX XN
      try clear hPCa hN
      have HALL := Lib.hid (fun wx (hk : Hd wx (W.heap.size + 1) (.cells #[.slice a2 l2 c2, .string ⟨rp2.toArray⟩, .slice d2 m2 f2, .slice o2 p2 q2, .int .i64 now2, .int .i64 nx2, .slice r2 s2 t2, .slice e2 g2_ i2] 30)) (hl : Hd wx (w4.heap.size) (.cells #[.slice ya0 yl0 yc0, .string ⟨rp2.toArray⟩, .slice ya1 yl1 yc1, .slice ya2 yl2 yc2, .int .i64 now2, .int .i64 nx2, .slice ya3 yl3 yc3, .slice ya4 yl4 yc4] 41)) (hb : Below w8a.heap.size w8a wx) => And.intro (cell_of_row wx (W.heap.size + 1) 0 _ _ _ hk) (And.intro (cell_of_row wx (W.heap.size + 1) 1 _ _ _ hk) (And.intro (cell_of_row wx (W.heap.size + 1) 2 _ _ _ hk) (And.intro (cell_of_row wx (W.heap.size + 1) 3 _ _ _ hk) (And.intro (cell_of_row wx (W.heap.size + 1) 4 _ _ _ hk) (And.intro (cell_of_row wx (W.heap.size + 1) 5 _ _ _ hk) (And.intro (cell_of_row wx (W.heap.size + 1) 6 _ _ _ hk) (And.intro (cell_of_row wx (W.heap.size + 1) 7 _ _ _ hk) (And.intro (cell_of_row wx (w4.heap.size) 0 _ _ _ hl) (And.intro (cell_of_row wx (w4.heap.size) 1 _ _ _ hl) (And.intro (cell_of_row wx (w4.heap.size) 2 _ _ _ hl) (And.intro (cell_of_row wx (w4.heap.size) 3 _ _ _ hl) (And.intro (cell_of_row wx (w4.heap.size) 4 _ _ _ hl) (And.intro (cell_of_row wx (w4.heap.size) 5 _ _ _ hl) (And.intro (cell_of_row wx (w4.heap.size) 6 _ _ _ hl) (And.intro (cell_of_row wx (w4.heap.size) 7 _ _ _ hl) (And.intro hk (And.intro hl hb))))))))))))))))))
      have HBW := Lib.hid (fun wx (h : Below w8a.heap.size w8a wx) => And.intro (belI_step BA.out h) (belI_step BA.out h).size)
      have B0_ := Lib.hid (Below.refl w8a.heap.size w8a)
      go_wp2_with fail
      go_region_held3 (fun wx => wx.cell? ⟨W.heap.size + 1, 0, none⟩ = some (.slice a2 l2 c2) ∧ wx.cell? ⟨W.heap.size + 1, 1, none⟩ = some (.string ⟨rp2.toArray⟩) ∧ wx.cell? ⟨W.heap.size + 1, 2, none⟩ = some (.slice d2 m2 f2) ∧ wx.cell? ⟨W.heap.size + 1, 3, none⟩ = some (.slice o2 p2 q2) ∧ wx.cell? ⟨W.heap.size + 1, 4, none⟩ = some (.int .i64 now2) ∧ wx.cell? ⟨W.heap.size + 1, 5, none⟩ = some (.int .i64 nx2) ∧ wx.cell? ⟨W.heap.size + 1, 6, none⟩ = some (.slice r2 s2 t2) ∧ wx.cell? ⟨W.heap.size + 1, 7, none⟩ = some (.slice e2 g2_ i2) ∧ wx.cell? ⟨w4.heap.size, 0, none⟩ = some (.slice ya0 yl0 yc0) ∧ wx.cell? ⟨w4.heap.size, 1, none⟩ = some (.string ⟨rp2.toArray⟩) ∧ wx.cell? ⟨w4.heap.size, 2, none⟩ = some (.slice ya1 yl1 yc1) ∧ wx.cell? ⟨w4.heap.size, 3, none⟩ = some (.slice ya2 yl2 yc2) ∧ wx.cell? ⟨w4.heap.size, 4, none⟩ = some (.int .i64 now2) ∧ wx.cell? ⟨w4.heap.size, 5, none⟩ = some (.int .i64 nx2) ∧ wx.cell? ⟨w4.heap.size, 6, none⟩ = some (.slice ya3 yl3 yc3) ∧ wx.cell? ⟨w4.heap.size, 7, none⟩ = some (.slice ya4 yl4 yc4) ∧ Hd wx (W.heap.size + 1) (.cells #[.slice a2 l2 c2, .string ⟨rp2.toArray⟩, .slice d2 m2 f2, .slice o2 p2 q2, .int .i64 now2, .int .i64 nx2, .slice r2 s2 t2, .slice e2 g2_ i2] 30) ∧ Hd wx (w4.heap.size) (.cells #[.slice ya0 yl0 yc0, .string ⟨rp2.toArray⟩, .slice ya1 yl1 yc1, .slice ya2 yl2 yc2, .int .i64 now2, .int .i64 nx2, .slice ya3 yl3 yc3, .slice ya4 yl4 yc4] 41) ∧ Below w8a.heap.size w8a wx)
        (first
          | exact HALL.out _ K1.out KY.out B0_.out
          | exact HALL.out _ K1.out KY.out (Below.drew B0_.out)
          | (go_split_ands; exact HALL.out _ (by assumption) (by assumption) (by assumption))
          | (go_split_ands; exact HALL.out _ (by assumption) (by assumption) (Below.drew (by assumption))))
        (first
          | (go_split_ands
             have hy := hPCb
             have hBc : Below w8a.heap.size w8a _ := (by assumption)
             go_at_call 18
             with_reducible refine (HEB.out _ ⟨.slice ya0 yl0 yc0, .slice ya1 yl1 yc1, .slice ya2 yl2 yc2, .slice ya3 yl3 yc3, .slice ya4 yl4 yc4⟩ _ (pp_stepP YN.out (by assumption)) hy).mono ?_
             rintro e w8b ⟨rfl, hb8⟩
             have hK8 : Hd w8b (W.heap.size + 1) (.cells #[.slice a2 l2 c2, .string ⟨rp2.toArray⟩, .slice d2 m2 f2, .slice o2 p2 q2, .int .i64 now2, .int .i64 nx2, .slice r2 s2 t2, .slice e2 g2_ i2] 30) := Hd.blw (by assumption) hb8
             have hL8 : Hd w8b (w4.heap.size) (.cells #[.slice ya0 yl0 yc0, .string ⟨rp2.toArray⟩, .slice ya1 yl1 yc1, .slice ya2 yl2 yc2, .int .i64 now2, .int .i64 nx2, .slice ya3 yl3 yc3, .slice ya4 yl4 yc4] 41) := Hd.blw (by assumption) hb8
             have hB8 : Below w8a.heap.size w8a w8b := belI_step (by assumption) hb8)
          | (go_split_ands
             have hBc := HBW.out _ (by assumption)
             go_at_call 16
             with_reducible refine (HTB.out _ hBc.1 hBc.2).mono ?_
             rintro e w7b ⟨⟨va1, va2, va3, va4, va5⟩, rfl, hN, hb7⟩
             have hK7 : Hd w7b (W.heap.size + 1) (.cells #[.slice a2 l2 c2, .string ⟨rp2.toArray⟩, .slice d2 m2 f2, .slice o2 p2 q2, .int .i64 now2, .int .i64 nx2, .slice r2 s2 t2, .slice e2 g2_ i2] 30) := Hd.blw (by assumption) hb7
             have hL7 : Hd w7b (w4.heap.size) (.cells #[.slice ya0 yl0 yc0, .string ⟨rp2.toArray⟩, .slice ya1 yl1 yc1, .slice ya2 yl2 yc2, .int .i64 now2, .int .i64 nx2, .slice ya3 yl3 yc3, .slice ya4 yl4 yc4] 41) := Hd.blw (by assumption) hb7
             have hB7 : Below w8a.heap.size w8a w7b := belI_step (by assumption) hb7
             have hPCb := hN
             obtain ⟨za0, zl0, zc0, rfl⟩ := hN.cv.slice
             obtain ⟨za1, zl1, zc1, rfl⟩ := hN.uv.slice
             obtain ⟨za2, zl2, zc2, rfl⟩ := hN.rv.slice
             obtain ⟨za3, zl3, zc3, rfl⟩ := hN.lv.slice
             obtain ⟨za4, zl4, zc4, rfl⟩ := hN.wv.slice))
      go_split_ands
      have HF := Lib.hid (belI_step BA.out hB8)
      go_wp2
      go_ret
      exact ⟨rfl, HF.out⟩
set_option maxRecDepth 100000 in
set_option maxHeartbeats 8000000 in
theorem samePipe_walk (p q : Pp) (u u' : PV) (W : World) (h : PpN (· < W.heap.size) W u p) (h' : PpN (· < W.heap.size) W u' q) (hn : p.pol.rep.length ≤ 9223372036854775807) (hn' : q.pol.rep.length ≤ 9223372036854775807) (hT : Tab W) (hM : MaxL W) :
    Calls Tryz.prog 9 #[pV8 p u, pV8 q u'] W fun e w' => e = .returned (.bool true) ∧ Below W.heap.size W w' := by
  by_cases hs : szPp p + szPp q ≤ 1048576
  · exact samePipe_in p q u u' W h h' hs hT hM
  by_cases hs1 : szPp p ≤ 1048576
  · have HSZ := Lib.hid (fun wx hx hy => szPp_any W.heap.size W p u h hn 1048576 wx hx hy (by omega) (by omega))
    have HSZ2 := Lib.hid (fun wx hx hy => szPp_any W.heap.size W q u' h' hn' (1048576 - (szPp p : Int)) wx hx hy (by omega) (by omega))
    rw [szR_in (by omega)] at HSZ
    rw [szR_out (by omega)] at HSZ2
    have g1 : decide (1048576 - (szPp p : Int) < 0) = false := by simp; omega
    generalize 1048576 - (szPp p : Int) = z1v at *
    clear hs hs1 hT hM hn hn'
    obtain ⟨ch1, ⟨rp1, ur1, rl1⟩, now1, nx1, lo1, wi1⟩ := p
    obtain ⟨ch2, ⟨rp2, ur2, rl2⟩, now2, nx2, lo2, wi2⟩ := q
    obtain ⟨u1, u2, u3, u4, u5⟩ := u
    obtain ⟨v1, v2, v3, v4, v5⟩ := u'
    obtain ⟨h1, h2, h3, h4, h5⟩ := h
    obtain ⟨k1, k2, k3, k4, k5⟩ := h'
    simp only at h1 h2 h3 h4 h5 k1 k2 k3 k4 k5
    obtain ⟨a1, l1, c1, rfl⟩ := h1.slice
    obtain ⟨d1, m1, f1, rfl⟩ := h2.slice
    obtain ⟨o1, p1, q1, rfl⟩ := h3.slice
    obtain ⟨r1, s1, t1, rfl⟩ := h4.slice
    obtain ⟨e1, g1_, i1, rfl⟩ := h5.slice
    obtain ⟨a2, l2, c2, rfl⟩ := k1.slice
    obtain ⟨d2, m2, f2, rfl⟩ := k2.slice
    obtain ⟨o2, p2, q2, rfl⟩ := k3.slice
    obtain ⟨r2, s2, t2, rfl⟩ := k4.slice
    obtain ⟨e2, g2_, i2, rfl⟩ := k5.slice
    clear h1 h2 h3 h4 h5 k1 k2 k3 k4 k5
    obtain ⟨wa, hwa⟩ : ∃ wa, wa = (W.alloc (.cells #[.slice a1 l1 c1, .string ⟨rp1.toArray⟩, .slice d1 m1 f1, .slice o1 p1 q1, .int .i64 now1, .int .i64 nx1, .slice r1 s1 t1, .slice e1 g1_ i1] 30)).alloc (.cells #[.slice a2 l2 c2, .string ⟨rp2.toArray⟩, .slice d2 m2 f2, .slice o2 p2 q2, .int .i64 now2, .int .i64 nx2, .slice r2 s2 t2, .slice e2 g2_ i2] 30) := ⟨_, rfl⟩
    have BA := Lib.hid (show Below W.heap.size W wa by rw [hwa]; exact ((Below.refl W.heap.size W).alloc (Nat.le_refl _) (.cells #[.slice a1 l1 c1, .string ⟨rp1.toArray⟩, .slice d1 m1 f1, .slice o1 p1 q1, .int .i64 now1, .int .i64 nx1, .slice r1 s1 t1, .slice e1 g1_ i1] 30) |>.alloc (by simp) (.cells #[.slice a2 l2 c2, .string ⟨rp2.toArray⟩, .slice d2 m2 f2, .slice o2 p2 q2, .int .i64 now2, .int .i64 nx2, .slice r2 s2 t2, .slice e2 g2_ i2] 30)))
    have K0 := Lib.hid (show Hd wa W.heap.size (.cells #[.slice a1 l1 c1, .string ⟨rp1.toArray⟩, .slice d1 m1 f1, .slice o1 p1 q1, .int .i64 now1, .int .i64 nx1, .slice r1 s1 t1, .slice e1 g1_ i1] 30) by rw [hwa]; exact (Hd.new W (.cells #[.slice a1 l1 c1, .string ⟨rp1.toArray⟩, .slice d1 m1 f1, .slice o1 p1 q1, .int .i64 now1, .int .i64 nx1, .slice r1 s1 t1, .slice e1 g1_ i1] 30)).al (.cells #[.slice a2 l2 c2, .string ⟨rp2.toArray⟩, .slice d2 m2 f2, .slice o2 p2 q2, .int .i64 now2, .int .i64 nx2, .slice r2 s2 t2, .slice e2 g2_ i2] 30))
    have K1 := Lib.hid (show Hd wa (W.heap.size + 1) (.cells #[.slice a2 l2 c2, .string ⟨rp2.toArray⟩, .slice d2 m2 f2, .slice o2 p2 q2, .int .i64 now2, .int .i64 nx2, .slice r2 s2 t2, .slice e2 g2_ i2] 30) by
      have := Hd.new (W.alloc (.cells #[.slice a1 l1 c1, .string ⟨rp1.toArray⟩, .slice d1 m1 f1, .slice o1 p1 q1, .int .i64 now1, .int .i64 nx1, .slice r1 s1 t1, .slice e1 g1_ i1] 30)) (.cells #[.slice a2 l2 c2, .string ⟨rp2.toArray⟩, .slice d2 m2 f2, .slice o2 p2 q2, .int .i64 now2, .int .i64 nx2, .slice r2 s2 t2, .slice e2 g2_ i2] 30)
      rw [hwa]
      simpa using this)
    go_enter Tryz.func9, Tryz.ntmps9
    go_upto_region 1 with fail
    rw [← hwa]
    clear hwa
    have kk := K0.out
    have x0 := cell_of_row wa (W.heap.size) 0 _ _ _ kk
    have x1 := cell_of_row wa (W.heap.size) 1 _ _ _ kk
    have x2 := cell_of_row wa (W.heap.size) 2 _ _ _ kk
    have x3 := cell_of_row wa (W.heap.size) 3 _ _ _ kk
    have x4 := cell_of_row wa (W.heap.size) 4 _ _ _ kk
    have x5 := cell_of_row wa (W.heap.size) 5 _ _ _ kk
    have x6 := cell_of_row wa (W.heap.size) 6 _ _ _ kk
    have x7 := cell_of_row wa (W.heap.size) 7 _ _ _ kk
    clear kk
    go_wp2_with fail
    refine (HSZ.out wa BA.out BA.out.size).mono ?_
    rintro e w1 ⟨rfl, hb9⟩
    have K0 := Lib.hid (K0.out.blw hb9)
    have K1 := Lib.hid (K1.out.blw hb9)
    have BA := Lib.hid (belI_step BA.out hb9)
    clear hb9 HSZ x0 x1 x2 x3 x4 x5 x6 x7
    have kk := K1.out
    have y0 := cell_of_row w1 (W.heap.size + 1) 0 _ _ _ kk
    have y1 := cell_of_row w1 (W.heap.size + 1) 1 _ _ _ kk
    have y2 := cell_of_row w1 (W.heap.size + 1) 2 _ _ _ kk
    have y3 := cell_of_row w1 (W.heap.size + 1) 3 _ _ _ kk
    have y4 := cell_of_row w1 (W.heap.size + 1) 4 _ _ _ kk
    have y5 := cell_of_row w1 (W.heap.size + 1) 5 _ _ _ kk
    have y6 := cell_of_row w1 (W.heap.size + 1) 6 _ _ _ kk
    have y7 := cell_of_row w1 (W.heap.size + 1) 7 _ _ _ kk
    clear kk
    go_wp2_with fail
    refine (HSZ2.out w1 BA.out BA.out.size).mono ?_
    rintro e w2 ⟨rfl, hb9⟩
    have K0 := Lib.hid (K0.out.blw hb9)
    have K1 := Lib.hid (K1.out.blw hb9)
    have BA := Lib.hid (belI_step BA.out hb9)
    clear hb9 HSZ2 y0 y1 y2 y3 y4 y5 y6 y7
    go_wp2
    go_ret
    exact ⟨rfl, BA.out⟩
  · have HSZ := Lib.hid (fun wx hx hy => szPp_any W.heap.size W p u h hn 1048576 wx hx hy (by omega) (by omega))
    rw [szR_out (by omega)] at HSZ
    clear hs hs1 hT hM hn hn'
    obtain ⟨ch1, ⟨rp1, ur1, rl1⟩, now1, nx1, lo1, wi1⟩ := p
    obtain ⟨ch2, ⟨rp2, ur2, rl2⟩, now2, nx2, lo2, wi2⟩ := q
    obtain ⟨u1, u2, u3, u4, u5⟩ := u
    obtain ⟨v1, v2, v3, v4, v5⟩ := u'
    obtain ⟨h1, h2, h3, h4, h5⟩ := h
    obtain ⟨k1, k2, k3, k4, k5⟩ := h'
    simp only at h1 h2 h3 h4 h5 k1 k2 k3 k4 k5
    obtain ⟨a1, l1, c1, rfl⟩ := h1.slice
    obtain ⟨d1, m1, f1, rfl⟩ := h2.slice
    obtain ⟨o1, p1, q1, rfl⟩ := h3.slice
    obtain ⟨r1, s1, t1, rfl⟩ := h4.slice
    obtain ⟨e1, g1_, i1, rfl⟩ := h5.slice
    obtain ⟨a2, l2, c2, rfl⟩ := k1.slice
    obtain ⟨d2, m2, f2, rfl⟩ := k2.slice
    obtain ⟨o2, p2, q2, rfl⟩ := k3.slice
    obtain ⟨r2, s2, t2, rfl⟩ := k4.slice
    obtain ⟨e2, g2_, i2, rfl⟩ := k5.slice
    clear h1 h2 h3 h4 h5 k1 k2 k3 k4 k5
    obtain ⟨wa, hwa⟩ : ∃ wa, wa = (W.alloc (.cells #[.slice a1 l1 c1, .string ⟨rp1.toArray⟩, .slice d1 m1 f1, .slice o1 p1 q1, .int .i64 now1, .int .i64 nx1, .slice r1 s1 t1, .slice e1 g1_ i1] 30)).alloc (.cells #[.slice a2 l2 c2, .string ⟨rp2.toArray⟩, .slice d2 m2 f2, .slice o2 p2 q2, .int .i64 now2, .int .i64 nx2, .slice r2 s2 t2, .slice e2 g2_ i2] 30) := ⟨_, rfl⟩
    have BA := Lib.hid (show Below W.heap.size W wa by rw [hwa]; exact ((Below.refl W.heap.size W).alloc (Nat.le_refl _) (.cells #[.slice a1 l1 c1, .string ⟨rp1.toArray⟩, .slice d1 m1 f1, .slice o1 p1 q1, .int .i64 now1, .int .i64 nx1, .slice r1 s1 t1, .slice e1 g1_ i1] 30) |>.alloc (by simp) (.cells #[.slice a2 l2 c2, .string ⟨rp2.toArray⟩, .slice d2 m2 f2, .slice o2 p2 q2, .int .i64 now2, .int .i64 nx2, .slice r2 s2 t2, .slice e2 g2_ i2] 30)))
    have K0 := Lib.hid (show Hd wa W.heap.size (.cells #[.slice a1 l1 c1, .string ⟨rp1.toArray⟩, .slice d1 m1 f1, .slice o1 p1 q1, .int .i64 now1, .int .i64 nx1, .slice r1 s1 t1, .slice e1 g1_ i1] 30) by rw [hwa]; exact (Hd.new W (.cells #[.slice a1 l1 c1, .string ⟨rp1.toArray⟩, .slice d1 m1 f1, .slice o1 p1 q1, .int .i64 now1, .int .i64 nx1, .slice r1 s1 t1, .slice e1 g1_ i1] 30)).al (.cells #[.slice a2 l2 c2, .string ⟨rp2.toArray⟩, .slice d2 m2 f2, .slice o2 p2 q2, .int .i64 now2, .int .i64 nx2, .slice r2 s2 t2, .slice e2 g2_ i2] 30))
    have K1 := Lib.hid (show Hd wa (W.heap.size + 1) (.cells #[.slice a2 l2 c2, .string ⟨rp2.toArray⟩, .slice d2 m2 f2, .slice o2 p2 q2, .int .i64 now2, .int .i64 nx2, .slice r2 s2 t2, .slice e2 g2_ i2] 30) by
      have := Hd.new (W.alloc (.cells #[.slice a1 l1 c1, .string ⟨rp1.toArray⟩, .slice d1 m1 f1, .slice o1 p1 q1, .int .i64 now1, .int .i64 nx1, .slice r1 s1 t1, .slice e1 g1_ i1] 30)) (.cells #[.slice a2 l2 c2, .string ⟨rp2.toArray⟩, .slice d2 m2 f2, .slice o2 p2 q2, .int .i64 now2, .int .i64 nx2, .slice r2 s2 t2, .slice e2 g2_ i2] 30)
      rw [hwa]
      simpa using this)
    go_enter Tryz.func9, Tryz.ntmps9
    go_upto_region 1 with fail
    rw [← hwa]
    clear hwa
    have kk := K0.out
    have x0 := cell_of_row wa (W.heap.size) 0 _ _ _ kk
    have x1 := cell_of_row wa (W.heap.size) 1 _ _ _ kk
    have x2 := cell_of_row wa (W.heap.size) 2 _ _ _ kk
    have x3 := cell_of_row wa (W.heap.size) 3 _ _ _ kk
    have x4 := cell_of_row wa (W.heap.size) 4 _ _ _ kk
    have x5 := cell_of_row wa (W.heap.size) 5 _ _ _ kk
    have x6 := cell_of_row wa (W.heap.size) 6 _ _ _ kk
    have x7 := cell_of_row wa (W.heap.size) 7 _ _ _ kk
    clear kk
    go_wp2_with fail
    refine (HSZ.out wa BA.out BA.out.size).mono ?_
    rintro e w1 ⟨rfl, hb9⟩
    have K0 := Lib.hid (K0.out.blw hb9)
    have K1 := Lib.hid (K1.out.blw hb9)
    have BA := Lib.hid (belI_step BA.out hb9)
    clear hb9 HSZ x0 x1 x2 x3 x4 x5 x6 x7
    go_wp2
    go_ret
    exact ⟨rfl, BA.out⟩
theorem samePipe_walk2 (p : Pp) (u : PV) (q : Pp) (u' : PV) (W : World) (h : PpN (· < W.heap.size) W u p) (hn : p.pol.rep.length ≤ 9223372036854775807) (h' : PpN (· < W.heap.size) W u' q) (hn' : q.pol.rep.length ≤ 9223372036854775807) (hT : Tab W) (hM : MaxL W) :
    Calls Tryz.prog 9 #[pV8 p u, pV8 q u'] W fun e w' => e = .returned (.bool true) ∧ Below W.heap.size W w' := samePipe_walk p q u u' W h h' hn hn' hT hM
end Go.Proofs.YtmaknkbmilcanaaGreatDoor.Pi
