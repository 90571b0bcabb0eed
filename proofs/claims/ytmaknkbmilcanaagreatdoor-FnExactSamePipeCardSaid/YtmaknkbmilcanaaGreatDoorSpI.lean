import Derived.BigQuiet
import Derived.Test.YtmaknkbmilcanaaGreatDoorSpM
import Derived.Test.YtmaknkbmilcanaaGreatDoorPgA
namespace Go.Proofs.YtmaknkbmilcanaaGreatDoor.Pi
open Go.RowKit
open Go.Proofs.YtmaknkbmilcanaaGreatDoor.Tx (TxtsIn ret_b)
open Go.Proofs.YtmaknkbmilcanaaGreatDoor.Gr (Tg Gp TgIn gV same3)
open Go.Proofs.YtmaknkbmilcanaaGreatDoor.Pe (Pr PrIn pV)
open Go.Proofs.YtmaknkbmilcanaaGreatDoor.Qu (Rep Q RpIn IntsIn qV samB Hd)
open Go.Proofs.YtmaknkbmilcanaaGreatDoor.Po (Pl RlIn belI_step belI_alloc tK)
open Go.Proofs.YtmaknkbmilcanaaGreatDoor.Ext (up up_below up_mk wp_region_ext call_ext call_ext_same)
@[local go_sem] theorem up_cellI (w : World) (y : Ext.Ext w) (b o : Nat) (h : b < w.heap.size) : (up w y).cell? ⟨b, o, none⟩ = w.cell? ⟨b, o, none⟩ := Ext.up_cell w y b o h
def chSs : List Cn → List Cn → Bool
  | [], [] => true
  | x :: xs, y :: ys => chS x y && chSs xs ys
  | _, _ => false
theorem chSs_drop {xs ys : List Cn} (k : Nat) (hx : k < xs.length) (hy : k < ys.length) : chSs (xs.drop k) (ys.drop k) = (chS (xs.getD k default) (ys.getD k default) && chSs (xs.drop (k + 1)) (ys.drop (k + 1))) := by
  rw [List.drop_eq_getElem_cons hx, List.drop_eq_getElem_cons hy]
  simp [chSs, hx, hy]
theorem en_drop {xs ys : List En} (k : Nat) (hx : k < xs.length) (hy : k < ys.length) : (xs.drop k == ys.drop k) = ((xs.getD k default == ys.getD k default) && (xs.drop (k + 1) == ys.drop (k + 1))) := by
  rw [List.drop_eq_getElem_cons hx, List.drop_eq_getElem_cons hy, List.cons_beq_cons]
  simp [hx, hy]
theorem wi_drop {xs ys : List Wi} (k : Nat) (hx : k < xs.length) (hy : k < ys.length) : (xs.drop k == ys.drop k) = ((xs.getD k default == ys.getD k default) && (xs.drop (k + 1) == ys.drop (k + 1))) := by
  rw [List.drop_eq_getElem_cons hx, List.drop_eq_getElem_cons hy, List.cons_beq_cons]
  simp [hx, hy]
def lsB (p q : Pp) : Bool := decide (p.chs.length = q.chs.length) && (decide (tK p.pol.rules p.pol.rules.length = tK q.pol.rules q.pol.rules.length) && (decide (p.now = q.now) && (decide (p.next = q.next) && (decide (p.log.length = q.log.length) && (decide (p.wires.length = q.wires.length) && (chSs p.chs q.chs && ((p.log == q.log) && (p.wires == q.wires))))))))
set_option maxRecDepth 100000 in
set_option maxHeartbeats 16000000 in
theorem ls_any (B : Nat) (w0 : World) (p q : Pp) (u u' : PV) (h : PpN (· < B) w0 u p) (h' : PpN (· < B) w0 u' q) (hf1 : Po.Fit8 p.pol.rules) (hf2 : Po.Fit8 q.pol.rules) (W : World) (hb : Below B w0 W) (hB : B ≤ W.heap.size) :
    Calls Tryz.prog 90 #[pV8 p u, pV8 q u'] W fun e w' => e = .returned (.bool (lsB p q)) ∧ Below W.heap.size W w' := by
  obtain ⟨R, hR⟩ : ∃ R, lsB p q = R := ⟨_, rfl⟩
  rw [hR]
  unfold lsB at hR
  have HR := Lib.hid hR.symm
  clear hR
  obtain ⟨ch1, pl1, now1, nx1, lo1, wi1⟩ := p
  obtain ⟨ch2, pl2, now2, nx2, lo2, wi2⟩ := q
  obtain ⟨u1, u2, u3, u4, u5⟩ := u
  obtain ⟨v1, v2, v3, v4, v5⟩ := u'
  obtain ⟨h1, h2, h3, h4, h5⟩ := h
  obtain ⟨k1, k2, k3, k4, k5⟩ := h'
  simp only at h1 h2 h3 h4 h5 k1 k2 k3 k4 k5 hf1 hf2 HR
  have HB := Lib.hid hb
  obtain ⟨rp1, ur1, rl1⟩ := pl1
  obtain ⟨rp2, ur2, rl2⟩ := pl2
  simp only at HR
  have HT1 := Lib.hid (fun (W' : World) a b => show Calls Tryz.prog 150 #[.agg #[.string ⟨rp1.toArray⟩, u2, u3]] W' (fun e w' => e = .returned (.string ⟨(tK rl1 rl1.length).toArray⟩) ∧ Below W'.heap.size W' w') from Po.ltextS_any B w0 ⟨rp1, ur1, rl1⟩ u2 u3 h2.slice h3 hf1 W' a b)
  have HT2 := Lib.hid (fun (W' : World) a b => show Calls Tryz.prog 150 #[.agg #[.string ⟨rp2.toArray⟩, v2, v3]] W' (fun e w' => e = .returned (.string ⟨(tK rl2 rl2.length).toArray⟩) ∧ Below W'.heap.size W' w') from Po.ltextS_any B w0 ⟨rp2, ur2, rl2⟩ v2 v3 k2.slice k3 hf2 W' a b)
  obtain ⟨d1, m1, f1, rfl⟩ := h2.slice
  obtain ⟨o1, p1, q1, rfl⟩ := h3.slice
  obtain ⟨d2, m2, f2, rfl⟩ := k2.slice
  obtain ⟨o2, p2, q2, rfl⟩ := k3.slice
  obtain ⟨a1, c1, cb1, co1, us1, rfl, hcc1, hcm1, -, hca1, hcd1⟩ := h1
  obtain ⟨r1, t1, lb1, lf1, rfl, hlc1, hlm1, -, hla1, hld1⟩ := h4
  obtain ⟨e1, i1, wb1, wf1, vs1, rfl, hwc1, hwm1, -, hwa1, hwd1⟩ := h5
  have HCA1 := Lib.hid hca1
  have HCD1 := Lib.hid hcd1
  have HLA1 := Lib.hid hla1
  have HLD1 := Lib.hid hld1
  have HWA1 := Lib.hid hwa1
  have HWD1 := Lib.hid hwd1
  have hn11 : ch1.length ≤ 9223372036854775807 := by omega
  have hn21 : lo1.length ≤ 9223372036854775807 := by omega
  have hn31 : wi1.length ≤ 9223372036854775807 := by omega
  clear hcc1 hcm1 hca1 hcd1 hlc1 hlm1 hla1 hld1 hwc1 hwm1 hwa1 hwd1
  obtain ⟨a2, c2, cb2, co2, us2, rfl, hcc2, hcm2, -, hca2, hcd2⟩ := k1
  obtain ⟨r2, t2, lb2, lf2, rfl, hlc2, hlm2, -, hla2, hld2⟩ := k4
  obtain ⟨e2, i2, wb2, wf2, vs2, rfl, hwc2, hwm2, -, hwa2, hwd2⟩ := k5
  have HCA2 := Lib.hid hca2
  have HCD2 := Lib.hid hcd2
  have HLA2 := Lib.hid hla2
  have HLD2 := Lib.hid hld2
  have HWA2 := Lib.hid hwa2
  have HWD2 := Lib.hid hwd2
  have hn12 : ch2.length ≤ 9223372036854775807 := by omega
  have hn22 : lo2.length ≤ 9223372036854775807 := by omega
  have hn32 : wi2.length ≤ 9223372036854775807 := by omega
  clear hcc2 hcm2 hca2 hcd2 hlc2 hlm2 hla2 hld2 hwc2 hwm2 hwa2 hwd2
  clear h2 h3 k2 k3 hf1 hf2 hb
  generalize tK rl1 rl1.length = tx1 at *
  generalize tK rl2 rl2.length = tx2 at *
  obtain ⟨wa, hwa⟩ : ∃ wa, wa = (W.alloc (.cells #[.slice a1 ch1.length c1, .string ⟨rp1.toArray⟩, .slice d1 m1 f1, .slice o1 p1 q1, .int .i64 now1, .int .i64 nx1, .slice r1 lo1.length t1, .slice e1 wi1.length i1] 41)).alloc (.cells #[.slice a2 ch2.length c2, .string ⟨rp2.toArray⟩, .slice d2 m2 f2, .slice o2 p2 q2, .int .i64 now2, .int .i64 nx2, .slice r2 lo2.length t2, .slice e2 wi2.length i2] 41) := ⟨_, rfl⟩
  have BA := Lib.hid (show Below W.heap.size W wa by rw [hwa]; exact ((Below.refl W.heap.size W).alloc (Nat.le_refl _) (.cells #[.slice a1 ch1.length c1, .string ⟨rp1.toArray⟩, .slice d1 m1 f1, .slice o1 p1 q1, .int .i64 now1, .int .i64 nx1, .slice r1 lo1.length t1, .slice e1 wi1.length i1] 41) |>.alloc (by simp) (.cells #[.slice a2 ch2.length c2, .string ⟨rp2.toArray⟩, .slice d2 m2 f2, .slice o2 p2 q2, .int .i64 now2, .int .i64 nx2, .slice r2 lo2.length t2, .slice e2 wi2.length i2] 41)))
  have K0 := Lib.hid (show Hd wa W.heap.size (.cells #[.slice a1 ch1.length c1, .string ⟨rp1.toArray⟩, .slice d1 m1 f1, .slice o1 p1 q1, .int .i64 now1, .int .i64 nx1, .slice r1 lo1.length t1, .slice e1 wi1.length i1] 41) by rw [hwa]; exact (Hd.new W (.cells #[.slice a1 ch1.length c1, .string ⟨rp1.toArray⟩, .slice d1 m1 f1, .slice o1 p1 q1, .int .i64 now1, .int .i64 nx1, .slice r1 lo1.length t1, .slice e1 wi1.length i1] 41)).al (.cells #[.slice a2 ch2.length c2, .string ⟨rp2.toArray⟩, .slice d2 m2 f2, .slice o2 p2 q2, .int .i64 now2, .int .i64 nx2, .slice r2 lo2.length t2, .slice e2 wi2.length i2] 41))
  have K1 := Lib.hid (show Hd wa (W.heap.size + 1) (.cells #[.slice a2 ch2.length c2, .string ⟨rp2.toArray⟩, .slice d2 m2 f2, .slice o2 p2 q2, .int .i64 now2, .int .i64 nx2, .slice r2 lo2.length t2, .slice e2 wi2.length i2] 41) by
    have := Hd.new (W.alloc (.cells #[.slice a1 ch1.length c1, .string ⟨rp1.toArray⟩, .slice d1 m1 f1, .slice o1 p1 q1, .int .i64 now1, .int .i64 nx1, .slice r1 lo1.length t1, .slice e1 wi1.length i1] 41)) (.cells #[.slice a2 ch2.length c2, .string ⟨rp2.toArray⟩, .slice d2 m2 f2, .slice o2 p2 q2, .int .i64 now2, .int .i64 nx2, .slice r2 lo2.length t2, .slice e2 wi2.length i2] 41)
    rw [hwa]
    simpa using this)
  have z1 : W.heap.size < wa.heap.size := K0.out.lt
  have z2 : W.heap.size + 1 < wa.heap.size := K1.out.lt
  have DB := Lib.hid (HB.out.trans (BA.out.mono hB))
  have zB : B ≤ wa.heap.size := Nat.le_trans hB BA.out.size
  go_enter Tryz.func90, Tryz.ntmps90
  go_upto_region 1 with fail
  rw [← hwa]
  clear hwa
  have kk := K0.out
  have x0 := cell_of_row wa (W.heap.size) 0 _ _ _ kk
  have x1 := cell_of_row wa (W.heap.size) 1 _ _ _ kk
  have x2 := cell_of_row wa (W.heap.size) 2 _ _ _ kk
  have x3 := cell_of_row wa (W.heap.size) 3 _ _ _ kk
  have x4 := cell_of_row wa (W.heap.size) 4 _ _ _ kk
  have x5 := cell_of_row wa (W.heap.size) 5 _ _ _ kk
  have x6 := cell_of_row wa (W.heap.size) 6 _ _ _ kk
  have x7 := cell_of_row wa (W.heap.size) 7 _ _ _ kk
  clear kk
  have kk := K1.out
  have y0 := cell_of_row wa (W.heap.size + 1) 0 _ _ _ kk
  have y1 := cell_of_row wa (W.heap.size + 1) 1 _ _ _ kk
  have y2 := cell_of_row wa (W.heap.size + 1) 2 _ _ _ kk
  have y3 := cell_of_row wa (W.heap.size + 1) 3 _ _ _ kk
  have y4 := cell_of_row wa (W.heap.size + 1) 4 _ _ _ kk
  have y5 := cell_of_row wa (W.heap.size + 1) 5 _ _ _ kk
  have y6 := cell_of_row wa (W.heap.size + 1) 6 _ _ _ kk
  have y7 := cell_of_row wa (W.heap.size + 1) 7 _ _ _ kk
  clear kk
  by_cases hch : ch1.length = ch2.length
  rotate_left
  · have b1 : ((ch1.length : Int) != (ch2.length : Int)) = true := by simp; omega
    have HH := Lib.hid hch
    clear hch HT1 HT2
    go_quiet (fail)
    have D8 := Lib.hid (belI_drewN BA.out nq)
    clear x0 x1 x2 x3 x4 x5 x6 x7 y0 y1 y2 y3 y4 y5 y6 y7
    go_wp2
    go_ret
    exact ⟨ret_b (by rw [HR.out]; simp [HH.out]), D8.out⟩
  have HCH := Lib.hid hch
  have b1 : ((ch1.length : Int) != (ch2.length : Int)) = false := by simp [hch]
  clear hch
  by_cases hq : tx1 = tx2
  rotate_left
  · have HH := Lib.hid hq
    have b2 : (tx1 == tx2) = false := by simpa using hq
    clear hq
    refine wp_region_ext (by kernel_rfl) (by kernel_rfl) ?_
    repeat (go_big_quiet_step ((first
      | (go_at_call 150; refine call_ext (v := .string ⟨tx1.toArray⟩) ?_; with_reducible exact HT1.out _ (DB.out.trans ((up_below _ _).mono zB)) (Nat.le_trans zB (up_below _ _).size))
      | (go_at_call 150; refine call_ext (v := .string ⟨tx2.toArray⟩) ?_; with_reducible exact HT2.out _ (DB.out.trans ((up_below _ _).mono zB)) (Nat.le_trans zB (up_below _ _).size))
      | (go_at_call 150; refine call_ext (v := .string ⟨tx1.toArray⟩) ?_; with_reducible exact HT2.out _ (DB.out.trans ((up_below _ _).mono zB)) (Nat.le_trans zB (up_below _ _).size)))))
    refine wpQuiet_nil ?_
    intro _ hw'
    obtain ⟨y8, rfl⟩ := hw'
    have hv8 := up_below _ y8
    generalize up _ y8 = v8 at *
    have D8 := Lib.hid (belI_step BA.out hv8)
    clear hv8 x0 x1 x2 x3 x4 x5 x6 x7 y0 y1 y2 y3 y4 y5 y6 y7
    go_wp2
    go_ret
    exact ⟨ret_b (by rw [HR.out]; simp [HH.out]), D8.out⟩
  subst hq
  by_cases hq : now1 = now2
  rotate_left
  · have HH := Lib.hid hq
    have b3 : (now1 != now2) = true := by simpa using hq
    clear hq
    refine wp_region_ext (by kernel_rfl) (by kernel_rfl) ?_
    repeat (go_big_quiet_step ((first
      | (go_at_call 150; refine call_ext (v := .string ⟨tx1.toArray⟩) ?_; with_reducible exact HT1.out _ (DB.out.trans ((up_below _ _).mono zB)) (Nat.le_trans zB (up_below _ _).size))
      | (go_at_call 150; refine call_ext (v := .string ⟨tx2.toArray⟩) ?_; with_reducible exact HT2.out _ (DB.out.trans ((up_below _ _).mono zB)) (Nat.le_trans zB (up_below _ _).size))
      | (go_at_call 150; refine call_ext (v := .string ⟨tx1.toArray⟩) ?_; with_reducible exact HT2.out _ (DB.out.trans ((up_below _ _).mono zB)) (Nat.le_trans zB (up_below _ _).size)))))
    refine wpQuiet_nil ?_
    intro _ hw'
    obtain ⟨y8, rfl⟩ := hw'
    have hv8 := up_below _ y8
    generalize up _ y8 = v8 at *
    have D8 := Lib.hid (belI_step BA.out hv8)
    clear hv8 x0 x1 x2 x3 x4 x5 x6 x7 y0 y1 y2 y3 y4 y5 y6 y7
    go_wp2
    go_ret
    exact ⟨ret_b (by rw [HR.out]; simp [HH.out]), D8.out⟩
  subst hq
  by_cases hq : nx1 = nx2
  rotate_left
  · have HH := Lib.hid hq
    have b4 : (nx1 != nx2) = true := by simpa using hq
    clear hq
    refine wp_region_ext (by kernel_rfl) (by kernel_rfl) ?_
    repeat (go_big_quiet_step ((first
      | (go_at_call 150; refine call_ext (v := .string ⟨tx1.toArray⟩) ?_; with_reducible exact HT1.out _ (DB.out.trans ((up_below _ _).mono zB)) (Nat.le_trans zB (up_below _ _).size))
      | (go_at_call 150; refine call_ext (v := .string ⟨tx2.toArray⟩) ?_; with_reducible exact HT2.out _ (DB.out.trans ((up_below _ _).mono zB)) (Nat.le_trans zB (up_below _ _).size))
      | (go_at_call 150; refine call_ext (v := .string ⟨tx1.toArray⟩) ?_; with_reducible exact HT2.out _ (DB.out.trans ((up_below _ _).mono zB)) (Nat.le_trans zB (up_below _ _).size)))))
    refine wpQuiet_nil ?_
    intro _ hw'
    obtain ⟨y8, rfl⟩ := hw'
    have hv8 := up_below _ y8
    generalize up _ y8 = v8 at *
    have D8 := Lib.hid (belI_step BA.out hv8)
    clear hv8 x0 x1 x2 x3 x4 x5 x6 x7 y0 y1 y2 y3 y4 y5 y6 y7
    go_wp2
    go_ret
    exact ⟨ret_b (by rw [HR.out]; simp [HH.out]), D8.out⟩
  subst hq
  by_cases hq : lo1.length = lo2.length
  rotate_left
  · have HH := Lib.hid hq
    have b5 : ((lo1.length : Int) != (lo2.length : Int)) = true := by simp; omega
    clear hq
    refine wp_region_ext (by kernel_rfl) (by kernel_rfl) ?_
    repeat (go_big_quiet_step ((first
      | (go_at_call 150; refine call_ext (v := .string ⟨tx1.toArray⟩) ?_; with_reducible exact HT1.out _ (DB.out.trans ((up_below _ _).mono zB)) (Nat.le_trans zB (up_below _ _).size))
      | (go_at_call 150; refine call_ext (v := .string ⟨tx2.toArray⟩) ?_; with_reducible exact HT2.out _ (DB.out.trans ((up_below _ _).mono zB)) (Nat.le_trans zB (up_below _ _).size))
      | (go_at_call 150; refine call_ext (v := .string ⟨tx1.toArray⟩) ?_; with_reducible exact HT2.out _ (DB.out.trans ((up_below _ _).mono zB)) (Nat.le_trans zB (up_below _ _).size)))))
    refine wpQuiet_nil ?_
    intro _ hw'
    obtain ⟨y8, rfl⟩ := hw'
    have hv8 := up_below _ y8
    generalize up _ y8 = v8 at *
    have D8 := Lib.hid (belI_step BA.out hv8)
    clear hv8 x0 x1 x2 x3 x4 x5 x6 x7 y0 y1 y2 y3 y4 y5 y6 y7
    go_wp2
    go_ret
    exact ⟨ret_b (by rw [HR.out]; simp [HH.out]), D8.out⟩
  have HLO := Lib.hid hq
  have b5 : ((lo1.length : Int) != (lo2.length : Int)) = false := by simp [hq]
  clear hq
  by_cases hq : wi1.length = wi2.length
  rotate_left
  · have HH := Lib.hid hq
    have b6 : ((wi1.length : Int) != (wi2.length : Int)) = true := by simp; omega
    clear hq
    refine wp_region_ext (by kernel_rfl) (by kernel_rfl) ?_
    repeat (go_big_quiet_step ((first
      | (go_at_call 150; refine call_ext (v := .string ⟨tx1.toArray⟩) ?_; with_reducible exact HT1.out _ (DB.out.trans ((up_below _ _).mono zB)) (Nat.le_trans zB (up_below _ _).size))
      | (go_at_call 150; refine call_ext (v := .string ⟨tx2.toArray⟩) ?_; with_reducible exact HT2.out _ (DB.out.trans ((up_below _ _).mono zB)) (Nat.le_trans zB (up_below _ _).size))
      | (go_at_call 150; refine call_ext (v := .string ⟨tx1.toArray⟩) ?_; with_reducible exact HT2.out _ (DB.out.trans ((up_below _ _).mono zB)) (Nat.le_trans zB (up_below _ _).size)))))
    refine wpQuiet_nil ?_
    intro _ hw'
    obtain ⟨y8, rfl⟩ := hw'
    have hv8 := up_below _ y8
    generalize up _ y8 = v8 at *
    have D8 := Lib.hid (belI_step BA.out hv8)
    clear hv8 x0 x1 x2 x3 x4 x5 x6 x7 y0 y1 y2 y3 y4 y5 y6 y7
    go_wp2
    go_ret
    exact ⟨ret_b (by rw [HR.out]; simp [HH.out]), D8.out⟩
  have HWI := Lib.hid hq
  have b6 : ((wi1.length : Int) != (wi2.length : Int)) = false := by simp [hq]
  clear hq
  refine wp_region_ext (by kernel_rfl) (by kernel_rfl) ?_
  repeat (go_big_quiet_step ((first
    | (go_at_call 150; refine call_ext (v := .string ⟨tx1.toArray⟩) ?_; with_reducible exact HT1.out _ (DB.out.trans ((up_below _ _).mono zB)) (Nat.le_trans zB (up_below _ _).size))
    | (go_at_call 150; refine call_ext (v := .string ⟨tx2.toArray⟩) ?_; with_reducible exact HT2.out _ (DB.out.trans ((up_below _ _).mono zB)) (Nat.le_trans zB (up_below _ _).size))
    | (go_at_call 150; refine call_ext (v := .string ⟨tx1.toArray⟩) ?_; with_reducible exact HT2.out _ (DB.out.trans ((up_below _ _).mono zB)) (Nat.le_trans zB (up_below _ _).size)))))
  refine wpQuiet_nil ?_
  intro _ hw'
  obtain ⟨y8, rfl⟩ := hw'
  have hv8 := up_below _ y8
  generalize up _ y8 = v8 at *
  have K0 := Lib.hid (K0.out.blw hv8)
  have K1 := Lib.hid (K1.out.blw hv8)
  have BA := Lib.hid (belI_step BA.out hv8)
  have HR2 := Lib.hid (show R = (chSs ch1 ch2 && ((lo1 == lo2) && (wi1 == wi2))) by rw [HR.out]; simp [HCH.out, HLO.out, HWI.out])
  clear hv8 z1 z2 DB zB HT1 HT2 HR b1 b5 b6 x0 x1 x2 x3 x4 x5 x6 x7 y0 y1 y2 y3 y4 y5 y6 y7
  go_wp2
  go_loopw [5] (fun i wr => ∃ k : Nat, k ≤ ch1.length ∧ i = .int .i64 k ∧ chSs ch1 ch2 = chSs (ch1.drop k) (ch2.drop k) ∧ Hd wr W.heap.size (.cells #[.slice a1 ch1.length c1, .string ⟨rp1.toArray⟩, .slice d1 m1 f1, .slice o1 p1 q1, .int .i64 now1, .int .i64 nx1, .slice r1 lo1.length t1, .slice e1 wi1.length i1] 41) ∧ Hd wr (W.heap.size + 1) (.cells #[.slice a2 ch2.length c2, .string ⟨rp2.toArray⟩, .slice d2 m2 f2, .slice o2 p2 q2, .int .i64 now1, .int .i64 nx1, .slice r2 lo2.length t2, .slice e2 wi2.length i2] 41) ∧ Below W.heap.size W wr) (fun i _ => ch1.length - (intOf i).toNat)
  case atStart => exact ⟨0, by omega, rfl, rfl, K0.out, K1.out, BA.out⟩
  case round =>
    obtain ⟨k, hk, rfl, hE, hK0, hK1, hRr⟩ := hrel
    have HE := Lib.hid hE
    have K0 := Lib.hid hK0
    have K1 := Lib.hid hK1
    have BA := Lib.hid hRr
    have z1 : W.heap.size < wr.heap.size := hK0.lt
    have z2 : W.heap.size + 1 < wr.heap.size := hK1.lt
    have DB := Lib.hid (HB.out.trans (hRr.mono hB))
    have zB : B ≤ wr.heap.size := Nat.le_trans hB hRr.size
    have x0 := cell_of_row wr (W.heap.size) 0 _ _ _ hK0
    have y0 := cell_of_row wr (W.heap.size + 1) 0 _ _ _ hK1
    clear hE hK0 hK1 hRr
    by_cases hlt : k < ch1.length
    · have hlt' : k < ch2.length := by have := HCH.out; omega
      obtain ⟨ea, hlb⟩ := HCA1.out (by omega)
      obtain ⟨ea', hlb'⟩ := HCA2.out (by omega)
      subst ea ea'
      obtain ⟨e0_, e1_, e2_, e3_, e4_, e5_, cN⟩ := HCD1.out k hlt
      obtain ⟨d0_, d1_, d2_, d3_, d4_, d5_, cM⟩ := HCD2.out k hlt'
      have q0 := (DB.out.cell (p := ⟨cb1, co1 + k * 6, none⟩) hlb).trans e0_
      have r0_ := (DB.out.cell (p := ⟨cb2, co2 + k * 6, none⟩) hlb').trans d0_
      have q1 := (DB.out.cell (p := ⟨cb1, co1 + k * 6 + 1, none⟩) hlb).trans e1_
      have r1_ := (DB.out.cell (p := ⟨cb2, co2 + k * 6 + 1, none⟩) hlb').trans d1_
      have q2 := (DB.out.cell (p := ⟨cb1, co1 + k * 6 + 2, none⟩) hlb).trans e2_
      have r2_ := (DB.out.cell (p := ⟨cb2, co2 + k * 6 + 2, none⟩) hlb').trans d2_
      have q3 := (DB.out.cell (p := ⟨cb1, co1 + k * 6 + 3, none⟩) hlb).trans e3_
      have r3_ := (DB.out.cell (p := ⟨cb2, co2 + k * 6 + 3, none⟩) hlb').trans d3_
      have q4 := (DB.out.cell (p := ⟨cb1, co1 + k * 6 + 4, none⟩) hlb).trans e4_
      have r4_ := (DB.out.cell (p := ⟨cb2, co2 + k * 6 + 4, none⟩) hlb').trans d4_
      have q5 := (DB.out.cell (p := ⟨cb1, co1 + k * 6 + 5, none⟩) hlb).trans e5_
      have r5_ := (DB.out.cell (p := ⟨cb2, co2 + k * 6 + 5, none⟩) hlb').trans d5_
      have hz3 : cb1 < wr.heap.size := by omega
      have hz4 : cb2 < wr.heap.size := by omega
      have TD := Lib.hid (chSs_drop k hlt hlt')
      have HCS := Lib.hid (fun W' a b => chS_any B w0 (ch1.getD k default) (ch2.getD k default) (us1 k) (us2 k) cN cM W' a b)
      clear e0_ e1_ e2_ e3_ e4_ e5_ d0_ d1_ d2_ d3_ d4_ d5_
      generalize us1 k = uu at *
      generalize us2 k = vv at *
      generalize ch1.getD k default = x at *
      generalize ch2.getD k default = y at *
      obtain ⟨u_tv, u_pv, u_iv, u_rv⟩ := uu
      obtain ⟨v_tv, v_pv, v_iv, v_rv⟩ := vv
      obtain ⟨ta1, tl1, tc1, rfl⟩ : ∃ a l c, u_tv = .slice a l c := cN.tv.slice
      obtain ⟨pa1, pl1, pc1, rfl⟩ : ∃ a l c, u_pv = .slice a l c := cN.pv.slice
      obtain ⟨ia1, il1, ic1, rfl⟩ : ∃ a l c, u_iv = .slice a l c := cN.iv.slice
      obtain ⟨ra1, rl1_, rc1, rfl⟩ : ∃ a l c, u_rv = .slice a l c := cN.rv.slice
      obtain ⟨ta2, tl2, tc2, rfl⟩ : ∃ a l c, v_tv = .slice a l c := cM.tv.slice
      obtain ⟨pa2, pl2, pc2, rfl⟩ : ∃ a l c, v_pv = .slice a l c := cM.pv.slice
      obtain ⟨ia2, il2, ic2, rfl⟩ : ∃ a l c, v_iv = .slice a l c := cM.iv.slice
      obtain ⟨ra2, rl2_, rc2, rfl⟩ : ∃ a l c, v_rv = .slice a l c := cM.rv.slice
      clear cN cM
      obtain ⟨⟨nm1, ag1, ts1⟩, ps1, ⟨rs1, bs1⟩⟩ := x
      obtain ⟨⟨nm2, ag2, ts2⟩, ps2, ⟨rs2, bs2⟩⟩ := y
      simp only at q0 q1 r0_ r1_ TD
      obtain ⟨rb, hrb⟩ : ∃ rb, chS ⟨⟨nm1, ag1, ts1⟩, ps1, ⟨rs1, bs1⟩⟩ ⟨⟨nm2, ag2, ts2⟩, ps2, ⟨rs2, bs2⟩⟩ = rb := ⟨_, rfl⟩
      have HCS1 := Lib.hid (fun (W' : World) a b => show Calls Tryz.prog 151 #[.agg #[.string ⟨nm1.toArray⟩, .int .i64 ag1, .slice ta1 tl1 tc1, .slice pa1 pl1 pc1, .slice ia1 il1 ic1, .slice ra1 rl1_ rc1], .agg #[.string ⟨nm2.toArray⟩, .int .i64 ag2, .slice ta2 tl2 tc2, .slice pa2 pl2 pc2, .slice ia2 il2 ic2, .slice ra2 rl2_ rc2]] W' (fun e w' => e = .returned (.bool rb) ∧ Below W'.heap.size W' w') from hrb ▸ HCS.out W' a b)
      rw [hrb] at TD
      clear hrb HCS
      cases rb
      all_goals
        go_wp2_with fail
        refine wp_region_ext (by kernel_rfl) (by kernel_rfl) ?_
        repeat (go_big_quiet_step ((first
          | (go_at_call 151; refine call_ext (v := .bool true) ?_; with_reducible exact HCS1.out _ (DB.out.trans ((up_below _ _).mono zB)) (Nat.le_trans zB (up_below _ _).size))
          | (go_at_call 151; refine call_ext (v := .bool false) ?_; with_reducible exact HCS1.out _ (DB.out.trans ((up_below _ _).mono zB)) (Nat.le_trans zB (up_below _ _).size)))))
        refine wpQuiet_nil ?_
        intro _ hw'
        obtain ⟨y8, rfl⟩ := hw'
        have hv8 := up_below _ y8
        generalize up _ y8 = v8 at *
        have K0 := Lib.hid (K0.out.blw hv8)
        have K1 := Lib.hid (K1.out.blw hv8)
        have BA := Lib.hid (belI_step BA.out hv8)
        clear hv8 x0 y0 q0 q1 q2 q3 q4 q5 r0_ r1_ r2_ r3_ r4_ r5_
      · go_wp2
        go_ret
        exact ⟨ret_b (by rw [HR2.out, HE.out, TD.out]; simp), BA.out⟩
      · go_wp2
        go_roundw
        case rel => exact ⟨k + 1, by omega, by go_num, by rw [HE.out, TD.out]; rfl, K0.out, K1.out, BA.out⟩
        case measure => simp [intOf]; omega
    · have hkI : ¬ ((k : Int) < (ch1.length : Int)) := by omega
      obtain rfl : k = ch1.length := by omega
      have HR3 := Lib.hid (show R = ((lo1 == lo2) && (wi1 == wi2)) by rw [HR2.out, HE.out, List.drop_length, HCH.out, List.drop_length]; rfl)
      clear HE HR2 DB zB z1 z2
      go_wp2
      clear x0 y0
      go_loopw [6] (fun i wr => ∃ k : Nat, k ≤ lo1.length ∧ i = .int .i64 k ∧ (lo1 == lo2) = (lo1.drop k == lo2.drop k) ∧ Hd wr W.heap.size (.cells #[.slice a1 ch1.length c1, .string ⟨rp1.toArray⟩, .slice d1 m1 f1, .slice o1 p1 q1, .int .i64 now1, .int .i64 nx1, .slice r1 lo1.length t1, .slice e1 wi1.length i1] 41) ∧ Hd wr (W.heap.size + 1) (.cells #[.slice a2 ch2.length c2, .string ⟨rp2.toArray⟩, .slice d2 m2 f2, .slice o2 p2 q2, .int .i64 now1, .int .i64 nx1, .slice r2 lo2.length t2, .slice e2 wi2.length i2] 41) ∧ Below W.heap.size W wr) (fun i _ => lo1.length - (intOf i).toNat)
      case atStart => exact ⟨0, by omega, rfl, rfl, K0.out, K1.out, BA.out⟩
      case round =>
        obtain ⟨k, hk, rfl, hE, hK0, hK1, hRr⟩ := hrel
        have HE := Lib.hid hE
        have K0 := Lib.hid hK0
        have K1 := Lib.hid hK1
        have BA := Lib.hid hRr
        have z1 : W.heap.size < wr.heap.size := hK0.lt
        have z2 : W.heap.size + 1 < wr.heap.size := hK1.lt
        have DB := Lib.hid (HB.out.trans (hRr.mono hB))
        have zB : B ≤ wr.heap.size := Nat.le_trans hB hRr.size
        have x6 := cell_of_row wr (W.heap.size) 6 _ _ _ hK0
        have y6 := cell_of_row wr (W.heap.size + 1) 6 _ _ _ hK1
        clear hE hK0 hK1 hRr
        by_cases hlt : k < lo1.length
        · have hlt' : k < lo2.length := by have := HLO.out; omega
          obtain ⟨ea, hlb⟩ := HLA1.out (by omega)
          obtain ⟨ea', hlb'⟩ := HLA2.out (by omega)
          subst ea ea'
          obtain ⟨e0_, e1_, e2_⟩ := HLD1.out k hlt
          obtain ⟨d0_, d1_, d2_⟩ := HLD2.out k hlt'
          have q0 := (DB.out.cell (p := ⟨lb1, lf1 + k * 3, none⟩) hlb).trans e0_
          have r0_ := (DB.out.cell (p := ⟨lb2, lf2 + k * 3, none⟩) hlb').trans d0_
          have q1 := (DB.out.cell (p := ⟨lb1, lf1 + k * 3 + 1, none⟩) hlb).trans e1_
          have r1_ := (DB.out.cell (p := ⟨lb2, lf2 + k * 3 + 1, none⟩) hlb').trans d1_
          have q2 := (DB.out.cell (p := ⟨lb1, lf1 + k * 3 + 2, none⟩) hlb).trans e2_
          have r2_ := (DB.out.cell (p := ⟨lb2, lf2 + k * 3 + 2, none⟩) hlb').trans d2_
          have D := Lib.hid (en_drop k hlt hlt')
          clear e0_ e1_ e2_ d0_ d1_ d2_
          generalize lo1.getD k default = x at *
          generalize lo2.getD k default = y at *
          by_cases hxy : x = y
          · subst hxy
            have D2 := Lib.hid (D.out.trans (by rw [beq_self_eq_true, Bool.true_and]))
            go_wp2_with fail
            go_quiet (fail)
            go_wp2
            go_roundw
            case rel => exact ⟨k + 1, by omega, by go_num, by rw [HE.out, D2.out], K0.out, K1.out, belI_drewN BA.out _⟩
            case measure => simp [intOf]; omega
          · have e1 : (x == y) = false := by simpa using hxy
            have D2 := Lib.hid (HE.out.trans (D.out.trans (by rw [e1, Bool.false_and])))
            clear e1
            obtain ⟨a0, a1, a2⟩ := x
            obtain ⟨b0, b1, b2⟩ := y
            simp only at q0 r0_ q1 r1_ q2 r2_
            have hne : ¬ (a0 = b0 ∧ a1 = b1 ∧ a2 = b2) := by simpa using hxy
            clear hxy D
            by_cases h0 : a0 = b0
            rotate_left
            · have f5 : (a0 == b0) = false := by simpa using h0
              have f6 : decide (a0 = b0) = false := by simpa using h0
              clear hne
              go_wp2_with fail
              go_quiet (fail)
              go_wp2
              go_ret
              exact ⟨ret_b (by rw [HR3.out, D2.out]; rfl), belI_drewN BA.out _⟩
            subst h0
            by_cases h1 : a1 = b1
            rotate_left
            · have f5 : (a1 == b1) = false := by simpa using h1
              have f6 : decide (a1 = b1) = false := by simpa using h1
              clear hne
              go_wp2_with fail
              go_quiet (fail)
              go_wp2
              go_ret
              exact ⟨ret_b (by rw [HR3.out, D2.out]; rfl), belI_drewN BA.out _⟩
            subst h1
            have h2 : ¬ a2 = b2 := by simpa using hne
            have f5 : (a2 == b2) = false := by simpa using h2
            have f6 : decide (a2 = b2) = false := by simpa using h2
            clear hne
            go_wp2_with fail
            go_quiet (fail)
            go_wp2
            go_ret
            exact ⟨ret_b (by rw [HR3.out, D2.out]; rfl), belI_drewN BA.out _⟩
        · have hkI : ¬ ((k : Int) < (lo1.length : Int)) := by omega
          obtain rfl : k = lo1.length := by omega
          have HR4 := Lib.hid (show R = (wi1 == wi2) by rw [HR3.out, HE.out, List.drop_length, HLO.out, List.drop_length]; rfl)
          clear HE HR3 DB zB z1 z2
          go_wp2
          clear x6 y6
          go_loopw [7] (fun i wr => ∃ k : Nat, k ≤ wi1.length ∧ i = .int .i64 k ∧ (wi1 == wi2) = (wi1.drop k == wi2.drop k) ∧ Hd wr W.heap.size (.cells #[.slice a1 ch1.length c1, .string ⟨rp1.toArray⟩, .slice d1 m1 f1, .slice o1 p1 q1, .int .i64 now1, .int .i64 nx1, .slice r1 lo1.length t1, .slice e1 wi1.length i1] 41) ∧ Hd wr (W.heap.size + 1) (.cells #[.slice a2 ch2.length c2, .string ⟨rp2.toArray⟩, .slice d2 m2 f2, .slice o2 p2 q2, .int .i64 now1, .int .i64 nx1, .slice r2 lo2.length t2, .slice e2 wi2.length i2] 41) ∧ Below W.heap.size W wr) (fun i _ => wi1.length - (intOf i).toNat)
          case atStart => exact ⟨0, by omega, rfl, rfl, K0.out, K1.out, BA.out⟩
          case round =>
            obtain ⟨k, hk, rfl, hE, hK0, hK1, hRr⟩ := hrel
            have HE := Lib.hid hE
            have K0 := Lib.hid hK0
            have K1 := Lib.hid hK1
            have BA := Lib.hid hRr
            have z1 : W.heap.size < wr.heap.size := hK0.lt
            have z2 : W.heap.size + 1 < wr.heap.size := hK1.lt
            have DB := Lib.hid (HB.out.trans (hRr.mono hB))
            have zB : B ≤ wr.heap.size := Nat.le_trans hB hRr.size
            have x7 := cell_of_row wr (W.heap.size) 7 _ _ _ hK0
            have y7 := cell_of_row wr (W.heap.size + 1) 7 _ _ _ hK1
            clear hE hK0 hK1 hRr
            by_cases hlt : k < wi1.length
            · have hlt' : k < wi2.length := by have := HWI.out; omega
              obtain ⟨ea, hlb⟩ := HWA1.out (by omega)
              obtain ⟨ea', hlb'⟩ := HWA2.out (by omega)
              subst ea ea'
              obtain ⟨e0_, e1_, e2_, e3_, e4_, e5_, e6_, cN⟩ := HWD1.out k hlt
              obtain ⟨d0_, d1_, d2_, d3_, d4_, d5_, d6_, cM⟩ := HWD2.out k hlt'
              have q0 := (DB.out.cell (p := ⟨wb1, wf1 + k * 7, none⟩) hlb).trans e0_
              have r0_ := (DB.out.cell (p := ⟨wb2, wf2 + k * 7, none⟩) hlb').trans d0_
              have q1 := (DB.out.cell (p := ⟨wb1, wf1 + k * 7 + 1, none⟩) hlb).trans e1_
              have r1_ := (DB.out.cell (p := ⟨wb2, wf2 + k * 7 + 1, none⟩) hlb').trans d1_
              have q2 := (DB.out.cell (p := ⟨wb1, wf1 + k * 7 + 2, none⟩) hlb).trans e2_
              have r2_ := (DB.out.cell (p := ⟨wb2, wf2 + k * 7 + 2, none⟩) hlb').trans d2_
              have q3 := (DB.out.cell (p := ⟨wb1, wf1 + k * 7 + 3, none⟩) hlb).trans e3_
              have r3_ := (DB.out.cell (p := ⟨wb2, wf2 + k * 7 + 3, none⟩) hlb').trans d3_
              have q4 := (DB.out.cell (p := ⟨wb1, wf1 + k * 7 + 4, none⟩) hlb).trans e4_
              have r4_ := (DB.out.cell (p := ⟨wb2, wf2 + k * 7 + 4, none⟩) hlb').trans d4_
              have q5 := (DB.out.cell (p := ⟨wb1, wf1 + k * 7 + 5, none⟩) hlb).trans e5_
              have r5_ := (DB.out.cell (p := ⟨wb2, wf2 + k * 7 + 5, none⟩) hlb').trans d5_
              have q6 := (DB.out.cell (p := ⟨wb1, wf1 + k * 7 + 6, none⟩) hlb).trans e6_
              have r6_ := (DB.out.cell (p := ⟨wb2, wf2 + k * 7 + 6, none⟩) hlb').trans d6_
              have hz3 : wb1 < wr.heap.size := by omega
              have hz4 : wb2 < wr.heap.size := by omega
              have TD := Lib.hid (wi_drop k hlt hlt')
              have HCS := Lib.hid (fun W' a b => wiS_any B w0 (wi1.getD k default) (wi2.getD k default) (vs1 k) (vs2 k) cN cM W' a b)
              clear e0_ e1_ e2_ e3_ e4_ e5_ e6_ d0_ d1_ d2_ d3_ d4_ d5_ d6_
              generalize vs1 k = uu at *
              generalize vs2 k = vv at *
              generalize wi1.getD k default = x at *
              generalize wi2.getD k default = y at *
              obtain ⟨u_id⟩ := uu
              obtain ⟨v_id⟩ := vv
              obtain ⟨ja1, jl1, jc1, rfl⟩ : ∃ a l c, u_id = .slice a l c := by obtain ⟨a, c, e⟩ := cN.id.slice2; exact ⟨_, _, _, e⟩
              obtain ⟨ja2, jl2, jc2, rfl⟩ : ∃ a l c, v_id = .slice a l c := by obtain ⟨a, c, e⟩ := cM.id.slice2; exact ⟨_, _, _, e⟩
              clear cN cM
              obtain ⟨rb, hrb⟩ : ∃ rb, (x == y) = rb := ⟨_, rfl⟩
              obtain ⟨at1, st1, gr1, ul1, id1, bo1, ls1⟩ := x
              obtain ⟨at2, st2, gr2, ul2, id2, bo2, ls2⟩ := y
              simp only at q0 q1 q2 q3 q4 q5 q6 r0_ r1_ r2_ r3_ r4_ r5_ r6_
              have HCS1 := Lib.hid (fun (W' : World) a b => show Calls Tryz.prog 152 #[.agg #[.int .i64 at1, .int .i64 st1, .string ⟨gr1.toArray⟩, .string ⟨ul1.toArray⟩, .slice ja1 jl1 jc1, .string ⟨bo1.toArray⟩, .bool ls1], .agg #[.int .i64 at2, .int .i64 st2, .string ⟨gr2.toArray⟩, .string ⟨ul2.toArray⟩, .slice ja2 jl2 jc2, .string ⟨bo2.toArray⟩, .bool ls2]] W' (fun e w' => e = .returned (.bool rb) ∧ Below W'.heap.size W' w') from hrb ▸ HCS.out W' a b)
              rw [hrb] at TD
              clear hrb HCS
              cases rb
              all_goals
                go_wp2_with fail
                refine wp_region_ext (by kernel_rfl) (by kernel_rfl) ?_
                repeat (go_big_quiet_step ((first
                  | (go_at_call 152; refine call_ext (v := .bool true) ?_; with_reducible exact HCS1.out _ (DB.out.trans ((up_below _ _).mono zB)) (Nat.le_trans zB (up_below _ _).size))
                  | (go_at_call 152; refine call_ext (v := .bool false) ?_; with_reducible exact HCS1.out _ (DB.out.trans ((up_below _ _).mono zB)) (Nat.le_trans zB (up_below _ _).size)))))
                refine wpQuiet_nil ?_
                intro _ hw'
                obtain ⟨y8, rfl⟩ := hw'
                have hv8 := up_below _ y8
                generalize up _ y8 = v8 at *
                have K0 := Lib.hid (K0.out.blw hv8)
                have K1 := Lib.hid (K1.out.blw hv8)
                have BA := Lib.hid (belI_step BA.out hv8)
                clear hv8 x7 y7 q0 q1 q2 q3 q4 q5 q6 r0_ r1_ r2_ r3_ r4_ r5_ r6_
              · go_wp2
                go_ret
                exact ⟨ret_b (by rw [HR4.out, HE.out, TD.out]; simp), BA.out⟩
              · go_wp2
                go_roundw
                case rel => exact ⟨k + 1, by omega, by go_num, by rw [HE.out, TD.out]; rfl, K0.out, K1.out, BA.out⟩
                case measure => simp [intOf]; omega
            · have hkI : ¬ ((k : Int) < (wi1.length : Int)) := by omega
              obtain rfl : k = wi1.length := by omega
              have HR5 := Lib.hid (show R = true by rw [HR4.out, HE.out, List.drop_length, HWI.out, List.drop_length]; rfl)
              go_wp2
              go_ret
              exact ⟨ret_b HR5.out.symm, BA.out⟩
end Go.Proofs.YtmaknkbmilcanaaGreatDoor.Pi
