
/-
  The model's l08At, l08Channel and l08Wire, walked. (Made by pis.py.) The model's l08Wire, walked. (Made by pis.py.) The model's l08OK and PipeOK, walked. (Made by pis.py.) The law FnExactPipeOK, walked. (Made by pilaw.py.)
-/
import Derived.Test.YtmaknkbmilcanaaGreatDoorPiI
import Derived.Deep.RegionHeld3
namespace Go.Proofs.YtmaknkbmilcanaaGreatDoor.Pi
open Go.RowKit
open Go.Proofs.YtmaknkbmilcanaaGreatDoor.Tx (TxtsIn ret_b)
open Go.Proofs.YtmaknkbmilcanaaGreatDoor.Gr (Tg Gp TgIn gV tV gpB atF atF_drop ret_i)
open Go.Proofs.YtmaknkbmilcanaaGreatDoor.Pe (Pr PrIn pV)
open Go.Proofs.YtmaknkbmilcanaaGreatDoor.Qu (Rep Q RpIn IntsIn qV rV quB Hd)
open Go.Proofs.YtmaknkbmilcanaaGreatDoor.Po (Pl RlIn belI_step belI_alloc belI_drewN)
open Go.Proofs.YtmaknkbmilcanaaGreatDoor.Ul (in_any)
open Go.Proofs.YtmaknkbmilcanaaGreatDoor.Nm (nameB)
open Go.Proofs.YtmaknkbmilcanaaGreatDoor.Ext (up up_below up_mk wp_region_ext call_ext call_ext_same)
@[local go_sem] theorem up_cellS (w : World) (y : Ext.Ext w) (b o : Nat) (h : b < w.heap.size) : (up w y).cell? ⟨b, o, none⟩ = w.cell? ⟨b, o, none⟩ := Ext.up_cell w y b o h
set_option maxRecDepth 100000 in
set_option maxHeartbeats 1000000 in
theorem atC_any (S : Nat → Prop) (xs : List Cn) (v : Value) (u : List UInt8) (w : World) (h : CnIn S w v xs) :
    Calls Tryz.prog 124 #[v, .string ⟨u.toArray⟩] w fun e w' => e = .returned (.int .i64 (atC u xs)) ∧ w = w' := by
  obtain ⟨a, cap, b, off, us, rfl, hcap, hm, hlen, ha, hc⟩ := h
  have hn : xs.length ≤ 9223372036854775807 := by omega
  have HC := Lib.hid hc
  have HA := Lib.hid ha
  have HZ := Lib.hid (show atC u xs = atF u 0 (xs.map nmT) from rfl)
  clear hc ha hlen
  generalize atC u xs = r at *
  go_enter Tryz.func124, Tryz.ntmps124
  go_wp2
  go_loopw [5] (fun i wr => ∃ k : Nat, k ≤ xs.length ∧ i = .int .i64 k ∧ atF u 0 (xs.map nmT) = atF u k ((xs.map nmT).drop k) ∧ w = wr) (fun i _ => xs.length - (intOf i).toNat)
  case atStart => exact ⟨0, by omega, rfl, rfl, rfl⟩
  case round =>
    obtain ⟨k, hk, rfl, hE, rfl⟩ := hrel
    have HE := Lib.hid hE
    clear hE
    by_cases hlt : k < xs.length
    · obtain ⟨ea, _⟩ := HA.out (by omega)
      subst ea
      have q0 := (HC.out k hlt).1
      have D := Lib.hid (atF_drop u (xs := xs.map nmT) k (by simpa using hlt))
      rw [map_getD k hlt, show (nmT (xs.getD k default)).url = (xs.getD k default).g.name from rfl] at D
      generalize (xs.getD k default).g.name = t at *
      obtain ⟨c, hcc⟩ : ∃ c, (t == u) = c := ⟨_, rfl⟩
      rw [hcc] at D
      cases c with
      | true =>
        go_wp2
        go_ret
        exact ⟨ret_i (by rw [HZ.out, HE.out, D.out]; rfl), rfl⟩
      | false =>
        go_wp2
        go_roundw
        case rel => exact ⟨k + 1, by omega, by go_num, by rw [HE.out, D.out]; simp, trivial⟩
        case measure => simp [intOf]; omega
    · go_wp2
      go_ret
      obtain rfl : k = xs.length := by omega
      exact ⟨ret_i (by rw [HZ.out, HE.out, show (xs.map nmT).drop xs.length = [] by simp]; rfl), rfl⟩
set_option maxRecDepth 100000 in
set_option maxHeartbeats 8000000 in
theorem chanS_any (B : Nat) (w0 : World) (c : Cn) (u : CV) (h : CnN (· < B) w0 u c) (big : CBig c) (cv : Value) (rp : List UInt8) (uv rv : Value) (now next : Int) (lv wv : Value) (W : World) (hb : Below B w0 W) (hB : B ≤ W.heap.size) :
    Calls Tryz.prog 125 #[rawP cv rp uv rv now next lv wv, cV c u] W fun e w' => e = .returned (.bool (chB now next c)) ∧ Below W.heap.size W w' := by
  obtain ⟨⟨nm, ag, ts⟩, ps, ⟨rs, bs⟩⟩ := c
  obtain ⟨u_tv, u_pv, u_iv, u_rv⟩ := u
  obtain ⟨ht, hp, hi, hr⟩ := h
  obtain ⟨g1, g2, g3⟩ := big
  simp only at ht hp hi hr g1 g2 g3
  have ES := Lib.hid (show chB now next ⟨⟨nm, ag, ts⟩, ps, ⟨rs, bs⟩⟩ = (gpB ⟨nm, ag, ts⟩ && (Pe.plB ps && (quB ⟨rs, bs⟩ && ((ps.map Pr.tg == ts) && rs.all (oldB now next))))) from rfl)
  have HG := Lib.hid (fun W' h1 h2 => Gr.gpS_any B w0 ⟨nm, ag, ts⟩ u_tv ht g2 g1 W' h1 h2)
  have HP := Lib.hid (fun W' h1 h2 => Pe.okS_any B w0 ps u_pv hp g3 W' h1 h2)
  have HQ := Lib.hid (fun W' h1 h2 => Qu.quS_any B w0 ⟨rs, bs⟩ u_iv u_rv hi hr W' h1 h2)
  have HB := Lib.hid hb
  obtain ⟨a1, cap1, b1, off1, rfl, hcap1, hm1, -, ha1, hc1⟩ := ht
  obtain ⟨a2, cap2, b2, off2, rfl, hcap2, hm2, -, ha2, hc2⟩ := hp
  obtain ⟨a3, cap3, b3, off3, rfl, hcap3, hm3, -, ha3, hc3⟩ := hi
  obtain ⟨a4, l4, c4, rfl⟩ := hr.slice
  have HC1 := Lib.hid hc1
  have HA1 := Lib.hid ha1
  have HC2 := Lib.hid hc2
  have HA2 := Lib.hid ha2
  have HC3 := Lib.hid hc3
  have HA3 := Lib.hid ha3
  clear hr g1 g2 g3 hb hc1 ha1 hc2 ha2 hc3 ha3
  generalize gpB ⟨nm, ag, ts⟩ = d1 at *
  generalize Pe.plB ps = d2 at *
  generalize quB ⟨rs, bs⟩ = d3 at *
  generalize chB now next ⟨⟨nm, ag, ts⟩, ps, ⟨rs, bs⟩⟩ = r at *
  have B2 := Lib.hid ((Below.refl W.heap.size W).alloc (Nat.le_refl _) (.cells #[cv, .string ⟨rp.toArray⟩, uv, rv, .int .i64 now, .int .i64 next, lv, wv] 41) |>.alloc (by simp) (.cells #[.string ⟨nm.toArray⟩, .int .i64 ag, .slice a1 ts.length cap1, .slice a2 ps.length cap2, .slice a3 rs.length cap3, .slice a4 l4 c4] 132))
  go_enter Tryz.func125, Tryz.ntmps125
  go_wp2_with fail
  refine (HG.out _ (HB.out.trans (B2.out.mono hB)) (Nat.le_trans hB B2.out.size)).mono ?_
  rintro e w1 ⟨rfl, hb2⟩
  have K0 := Lib.hid (((Hd.new W (.cells #[cv, .string ⟨rp.toArray⟩, uv, rv, .int .i64 now, .int .i64 next, lv, wv] 41)).al (.cells #[.string ⟨nm.toArray⟩, .int .i64 ag, .slice a1 ts.length cap1, .slice a2 ps.length cap2, .slice a3 rs.length cap3, .slice a4 l4 c4] 132)).blw hb2)
  have K1 := Lib.hid ((show Hd ((W.alloc (.cells #[cv, .string ⟨rp.toArray⟩, uv, rv, .int .i64 now, .int .i64 next, lv, wv] 41)).alloc (.cells #[.string ⟨nm.toArray⟩, .int .i64 ag, .slice a1 ts.length cap1, .slice a2 ps.length cap2, .slice a3 rs.length cap3, .slice a4 l4 c4] 132)) (W.heap.size + 1) (.cells #[.string ⟨nm.toArray⟩, .int .i64 ag, .slice a1 ts.length cap1, .slice a2 ps.length cap2, .slice a3 rs.length cap3, .slice a4 l4 c4] 132) by simpa using Hd.new (W.alloc (.cells #[cv, .string ⟨rp.toArray⟩, uv, rv, .int .i64 now, .int .i64 next, lv, wv] 41)) (.cells #[.string ⟨nm.toArray⟩, .int .i64 ag, .slice a1 ts.length cap1, .slice a2 ps.length cap2, .slice a3 rs.length cap3, .slice a4 l4 c4] 132)).blw hb2)
  have BA := Lib.hid (belI_step B2.out hb2)
  clear hb2
  have kk := K0.out
  have m0 := cell_of_row w1 (W.heap.size) 0 _ _ _ kk
  have m1 := cell_of_row w1 (W.heap.size) 1 _ _ _ kk
  have m2 := cell_of_row w1 (W.heap.size) 2 _ _ _ kk
  have m3 := cell_of_row w1 (W.heap.size) 3 _ _ _ kk
  have m4 := cell_of_row w1 (W.heap.size) 4 _ _ _ kk
  have m5 := cell_of_row w1 (W.heap.size) 5 _ _ _ kk
  have m6 := cell_of_row w1 (W.heap.size) 6 _ _ _ kk
  have m7 := cell_of_row w1 (W.heap.size) 7 _ _ _ kk
  clear kk
  have kk := K1.out
  have n0 := cell_of_row w1 (W.heap.size + 1) 0 _ _ _ kk
  have n1 := cell_of_row w1 (W.heap.size + 1) 1 _ _ _ kk
  have n2 := cell_of_row w1 (W.heap.size + 1) 2 _ _ _ kk
  have n3 := cell_of_row w1 (W.heap.size + 1) 3 _ _ _ kk
  have n4 := cell_of_row w1 (W.heap.size + 1) 4 _ _ _ kk
  have n5 := cell_of_row w1 (W.heap.size + 1) 5 _ _ _ kk
  clear kk
  cases d1
  ·
    go_wp2
    go_ret
    exact ⟨ret_b (by rw [ES.out]; rfl), BA.out⟩
  go_wp2_with fail
  refine (HP.out _ (HB.out.trans (BA.out.mono hB)) (Nat.le_trans hB BA.out.size)).mono ?_
  rintro e w2 ⟨rfl, hb2⟩
  clear m0 m1 m2 m3 m4 m5 m6 m7
  clear n0 n1 n2 n3 n4 n5
  have K0 := Lib.hid (K0.out.blw hb2)
  have K1 := Lib.hid (K1.out.blw hb2)
  have BA := Lib.hid (belI_step BA.out hb2)
  clear hb2
  have kk := K0.out
  have m0 := cell_of_row w2 (W.heap.size) 0 _ _ _ kk
  have m1 := cell_of_row w2 (W.heap.size) 1 _ _ _ kk
  have m2 := cell_of_row w2 (W.heap.size) 2 _ _ _ kk
  have m3 := cell_of_row w2 (W.heap.size) 3 _ _ _ kk
  have m4 := cell_of_row w2 (W.heap.size) 4 _ _ _ kk
  have m5 := cell_of_row w2 (W.heap.size) 5 _ _ _ kk
  have m6 := cell_of_row w2 (W.heap.size) 6 _ _ _ kk
  have m7 := cell_of_row w2 (W.heap.size) 7 _ _ _ kk
  clear kk
  have kk := K1.out
  have n0 := cell_of_row w2 (W.heap.size + 1) 0 _ _ _ kk
  have n1 := cell_of_row w2 (W.heap.size + 1) 1 _ _ _ kk
  have n2 := cell_of_row w2 (W.heap.size + 1) 2 _ _ _ kk
  have n3 := cell_of_row w2 (W.heap.size + 1) 3 _ _ _ kk
  have n4 := cell_of_row w2 (W.heap.size + 1) 4 _ _ _ kk
  have n5 := cell_of_row w2 (W.heap.size + 1) 5 _ _ _ kk
  clear kk
  cases d2
  ·
    go_wp2
    go_ret
    exact ⟨ret_b (by rw [ES.out]; rfl), BA.out⟩
  by_cases hl : ps.length = ts.length
  case neg =>
    have D := Lib.hid (tgs_len (xs := ps.map Pr.tg) (ys := ts) (by simpa using hl))
    have g1 : ((ps.length : Int) != (ts.length : Int)) = true := by simp only [bne_iff_ne, ne_eq]; omega
    clear hl
    go_wp2
    go_ret
    exact ⟨ret_b (by rw [ES.out, D.out]; cases d3 <;> rfl), BA.out⟩
  have HL := Lib.hid hl
  have g1 : ((ps.length : Int) != (ts.length : Int)) = false := by simp [hl]
  clear hl
  go_wp2_with fail
  refine (HQ.out _ (HB.out.trans (BA.out.mono hB)) (Nat.le_trans hB BA.out.size)).mono ?_
  rintro e w3 ⟨rfl, hb2⟩
  clear m0 m1 m2 m3 m4 m5 m6 m7
  clear n0 n1 n2 n3 n4 n5
  have K0 := Lib.hid (K0.out.blw hb2)
  have K1 := Lib.hid (K1.out.blw hb2)
  have BA := Lib.hid (belI_step BA.out hb2)
  clear hb2
  have kk := K0.out
  have m0 := cell_of_row w3 (W.heap.size) 0 _ _ _ kk
  have m1 := cell_of_row w3 (W.heap.size) 1 _ _ _ kk
  have m2 := cell_of_row w3 (W.heap.size) 2 _ _ _ kk
  have m3 := cell_of_row w3 (W.heap.size) 3 _ _ _ kk
  have m4 := cell_of_row w3 (W.heap.size) 4 _ _ _ kk
  have m5 := cell_of_row w3 (W.heap.size) 5 _ _ _ kk
  have m6 := cell_of_row w3 (W.heap.size) 6 _ _ _ kk
  have m7 := cell_of_row w3 (W.heap.size) 7 _ _ _ kk
  clear kk
  have kk := K1.out
  have n0 := cell_of_row w3 (W.heap.size + 1) 0 _ _ _ kk
  have n1 := cell_of_row w3 (W.heap.size + 1) 1 _ _ _ kk
  have n2 := cell_of_row w3 (W.heap.size + 1) 2 _ _ _ kk
  have n3 := cell_of_row w3 (W.heap.size + 1) 3 _ _ _ kk
  have n4 := cell_of_row w3 (W.heap.size + 1) 4 _ _ _ kk
  have n5 := cell_of_row w3 (W.heap.size + 1) 5 _ _ _ kk
  clear kk
  cases d3
  ·
    go_wp2
    go_ret
    exact ⟨ret_b (by rw [ES.out]; rfl), BA.out⟩
  go_wp2
  clear m0 m1 m2 m3 m4 m5 m6 m7 n0 n1 n2 n3 n4 n5
  go_loopw [5] (fun i wr => ∃ k : Nat, k ≤ ps.length ∧ i = .int .i64 k ∧ (ps.map Pr.tg == ts) = ((ps.map Pr.tg).drop k == ts.drop k) ∧ Hd wr W.heap.size (.cells #[cv, .string ⟨rp.toArray⟩, uv, rv, .int .i64 now, .int .i64 next, lv, wv] 41) ∧ Hd wr (W.heap.size + 1) (.cells #[.string ⟨nm.toArray⟩, .int .i64 ag, .slice a1 ts.length cap1, .slice a2 ps.length cap2, .slice a3 rs.length cap3, .slice a4 l4 c4] 132) ∧ Below W.heap.size W wr) (fun i _ => ps.length - (intOf i).toNat)
  case atStart => exact ⟨0, by omega, rfl, rfl, K0.out, K1.out, BA.out⟩
  case round =>
    obtain ⟨k, hk, rfl, hE, hK0, hK1, hR⟩ := hrel
    have HE := Lib.hid hE
    have KA := Lib.hid hK0
    have KB := Lib.hid hK1
    have hW := HB.out.trans (hR.mono hB)
    have HR := Lib.hid hR
    have z0 : W.heap.size < wr.heap.size := hK0.lt
    have z1 : W.heap.size + 1 < wr.heap.size := hK1.lt
    clear hE hK0 hK1 hR
    have kk := KB.out
    have n0 := cell_of_row wr (W.heap.size + 1) 0 _ _ _ kk
    have n1 := cell_of_row wr (W.heap.size + 1) 1 _ _ _ kk
    have n2 := cell_of_row wr (W.heap.size + 1) 2 _ _ _ kk
    have n3 := cell_of_row wr (W.heap.size + 1) 3 _ _ _ kk
    have n4 := cell_of_row wr (W.heap.size + 1) 4 _ _ _ kk
    have n5 := cell_of_row wr (W.heap.size + 1) 5 _ _ _ kk
    clear kk
    by_cases hlt : k < ps.length
    · have hlt' : k < ts.length := by have := HL.out; omega
      obtain ⟨ea, hlb⟩ := HA2.out (by omega)
      obtain ⟨ea', hlb'⟩ := HA1.out (by omega)
      subst ea ea'
      obtain ⟨c0, c1, c2, c3, c4, c5⟩ := HC2.out k hlt
      obtain ⟨d0, d1, d2⟩ := HC1.out k hlt'
      have q0 := (hW.cell (p := ⟨b2, off2 + k * 6, none⟩) hlb).trans c0
      have q1 := (hW.cell (p := ⟨b2, off2 + k * 6 + 1, none⟩) hlb).trans c1
      have q2 := (hW.cell (p := ⟨b2, off2 + k * 6 + 2, none⟩) hlb).trans c2
      have y0 := (hW.cell (p := ⟨b1, off1 + k * 3, none⟩) hlb').trans d0
      have y1 := (hW.cell (p := ⟨b1, off1 + k * 3 + 1, none⟩) hlb').trans d1
      have y2 := (hW.cell (p := ⟨b1, off1 + k * 3 + 2, none⟩) hlb').trans d2
      have D := Lib.hid (tgs_drop (xs := ps.map Pr.tg) (ys := ts) k (by simpa using hlt) hlt')
      rw [show (ps.map Pr.tg).getD k default = (ps.getD k default).tg by simp [hlt]] at D
      clear c0 c1 c2 c3 c4 c5 d0 d1 d2 hW
      generalize ps.getD k default = x at *
      generalize ts.getD k default = y at *
      obtain ⟨t1, p1, r1, f1, e1, g9⟩ := x
      obtain ⟨t2, p2, r2⟩ := y
      simp only at q0 q1 q2 y0 y1 y2 D
      by_cases hxy : (⟨t1, p1, r1⟩ : Tg) = ⟨t2, p2, r2⟩
      · obtain ⟨rfl, rfl, rfl⟩ : t1 = t2 ∧ p1 = p2 ∧ r1 = r2 := by simpa using hxy
        clear hxy
        have D2 := Lib.hid (D.out.trans (by rw [beq_self_eq_true, Bool.true_and]))
        go_wp2
        go_quiet (fail)
        go_wp2
        go_roundw
        case rel => exact ⟨k + 1, by omega, by go_num, by rw [HE.out, D2.out], KA.out, KB.out, belI_drewN HR.out _⟩
        case measure => simp [intOf]; omega
      · have d1 : ((⟨t1, p1, r1⟩ : Tg) == ⟨t2, p2, r2⟩) = false := by simpa using hxy
        have D2 := Lib.hid (D.out.trans (by rw [d1, Bool.false_and]))
        clear d1
        have hne : ¬ (t1 = t2 ∧ p1 = p2 ∧ r1 = r2) := by simpa using hxy
        clear hxy
        by_cases h1 : t1 = t2
        · subst h1
          by_cases h2 : p1 = p2
          · subst h2
            have h3 : ¬ r1 = r2 := by simpa using hne
            have f5 : (r1 == r2) = false := by simpa using h3
            have f6 : decide (r1 = r2) = false := by simpa using h3
            clear hne
            go_wp2
            go_quiet (fail)
            go_wp2
            go_ret
            exact ⟨ret_b (by rw [ES.out, HE.out, D2.out]; rfl), belI_drewN HR.out _⟩
          · have f5 : (p1 == p2) = false := by simpa using h2
            have f6 : decide (p1 = p2) = false := by simpa using h2
            clear hne
            go_wp2
            go_quiet (fail)
            go_wp2
            go_ret
            exact ⟨ret_b (by rw [ES.out, HE.out, D2.out]; rfl), belI_drewN HR.out _⟩
        · have f5 : (t1 == t2) = false := by simpa using h1
          have f6 : decide (t1 = t2) = false := by simpa using h1
          clear hne
          go_wp2
          go_quiet (fail)
          go_wp2
          go_ret
          exact ⟨ret_b (by rw [ES.out, HE.out, D2.out]; rfl), belI_drewN HR.out _⟩
    · obtain rfl : k = ps.length := by omega
      have EQ := Lib.hid (show (ps.map Pr.tg == ts) = true by rw [HE.out, show (ps.map Pr.tg).drop ps.length = [] by simp, HL.out, List.drop_length]; rfl)
      clear HA1 HA2 HC1 HC2 HE HL g1
      obtain ⟨wo, hwo⟩ : ∃ wo, wo = wr := ⟨_, rfl⟩
      subst hwo
      go_wp2
      clear n0 n1 n2 n3 n4 n5
      go_loopw [6] (fun i wr => ∃ k : Nat, k ≤ rs.length ∧ i = .int .i64 k ∧ rs.all (oldB now next) = (rs.drop k).all (oldB now next) ∧ Hd wr W.heap.size (.cells #[cv, .string ⟨rp.toArray⟩, uv, rv, .int .i64 now, .int .i64 next, lv, wv] 41) ∧ Hd wr (W.heap.size + 1) (.cells #[.string ⟨nm.toArray⟩, .int .i64 ag, .slice a1 ts.length cap1, .slice a2 ps.length cap2, .slice a3 rs.length cap3, .slice a4 l4 c4] 132) ∧ Below W.heap.size W wr) (fun i _ => rs.length - (intOf i).toNat)
      case atStart => exact ⟨0, by omega, rfl, rfl, KA.out, KB.out, HR.out⟩
      case round =>
        obtain ⟨k, hk, rfl, hE, hK0, hK1, hR⟩ := hrel
        have HE := Lib.hid hE
        have KA := Lib.hid hK0
        have KB := Lib.hid hK1
        have hW := HB.out.trans (hR.mono hB)
        have HR := Lib.hid hR
        clear hE hK0 hK1 hR
        by_cases hlt : k < rs.length
        · obtain ⟨ea, hlb⟩ := HA3.out (by omega)
          subst ea
          obtain ⟨c0, c1, c2, c3⟩ := HC3.out k hlt
          have q0 := (hW.cell (p := ⟨b3, off3 + k * 4, none⟩) hlb).trans c0
          have q1 := (hW.cell (p := ⟨b3, off3 + k * 4 + 1, none⟩) hlb).trans c1
          have q2 := (hW.cell (p := ⟨b3, off3 + k * 4 + 2, none⟩) hlb).trans c2
          have q3 := (hW.cell (p := ⟨b3, off3 + k * 4 + 3, none⟩) hlb).trans c3
          have D := Lib.hid (allR_drop (oldB now next) k hlt)
          have hd2 : b3 < wr.heap.size := Nat.lt_of_lt_of_le hlb (Nat.le_trans hB HR.out.size)
          clear c0 c1 c2 c3 hW
          generalize rs.getD k default = x at *
          obtain ⟨i1, b1', n1', t1⟩ := x
          simp only at q0 q1 q2 q3
          have EB := Lib.hid (show oldB now next ⟨i1, b1', n1', t1⟩ = (decide (i1 < next) && decide (b1' ≤ now)) from rfl)
          generalize oldB now next ⟨i1, b1', n1', t1⟩ = ob at *
          have BR := Lib.hid (belI_alloc (o := (.cells #[.int .i64 i1, .int .i64 b1', .int .i64 n1', .string ⟨t1.toArray⟩] 134)) HR.out)
          have KX := Lib.hid (KA.out.al (.cells #[.int .i64 i1, .int .i64 b1', .int .i64 n1', .string ⟨t1.toArray⟩] 134))
          have KY := Lib.hid (KB.out.al (.cells #[.int .i64 i1, .int .i64 b1', .int .i64 n1', .string ⟨t1.toArray⟩] 134))
          have kk := KX.out
          have m0 := cell_of_row _ (W.heap.size) 0 _ _ _ kk
          have m1 := cell_of_row _ (W.heap.size) 1 _ _ _ kk
          have m2 := cell_of_row _ (W.heap.size) 2 _ _ _ kk
          have m3 := cell_of_row _ (W.heap.size) 3 _ _ _ kk
          have m4 := cell_of_row _ (W.heap.size) 4 _ _ _ kk
          have m5 := cell_of_row _ (W.heap.size) 5 _ _ _ kk
          have m6 := cell_of_row _ (W.heap.size) 6 _ _ _ kk
          have m7 := cell_of_row _ (W.heap.size) 7 _ _ _ kk
          clear kk
          have kk := KY.out
          have n0 := cell_of_row _ (W.heap.size + 1) 0 _ _ _ kk
          have n1 := cell_of_row _ (W.heap.size + 1) 1 _ _ _ kk
          have n2 := cell_of_row _ (W.heap.size + 1) 2 _ _ _ kk
          have n3 := cell_of_row _ (W.heap.size + 1) 3 _ _ _ kk
          have n4 := cell_of_row _ (W.heap.size + 1) 4 _ _ _ kk
          have n5 := cell_of_row _ (W.heap.size + 1) 5 _ _ _ kk
          clear kk
          have zA : W.heap.size < wr.heap.size := KA.out.lt
          have zB : W.heap.size + 1 < wr.heap.size := KB.out.lt
          have kk := KB.out
          have s4 := cell_of_row wr (W.heap.size + 1) 4 _ _ _ kk
          clear kk
          by_cases h1 : next ≤ i1
          · have G := Lib.hid (show ob = false by rw [EB.out, decide_eq_false (p := i1 < next) (by omega)]; rfl)
            go_wp2
            go_ret
            exact ⟨ret_b (by rw [ES.out, EQ.out, HE.out, D.out, G.out]; rfl), BR.out⟩
          by_cases h2 : now < b1'
          · have G := Lib.hid (show ob = false by rw [EB.out, decide_eq_false (p := b1' ≤ now) (by omega), Bool.and_false])
            go_wp2
            go_ret
            exact ⟨ret_b (by rw [ES.out, EQ.out, HE.out, D.out, G.out]; rfl), BR.out⟩
          have G := Lib.hid (show ob = true by rw [EB.out, decide_eq_true (p := i1 < next) (by omega), decide_eq_true (p := b1' ≤ now) (by omega)]; rfl)
          go_wp2
          go_roundw
          case rel => exact ⟨k + 1, by omega, by go_num, by rw [HE.out, D.out, G.out]; rfl, KX.out, KY.out, BR.out⟩
          case measure => simp [intOf]; omega
        · obtain rfl : k = rs.length := by omega
          have kk := KB.out
          have s4 := cell_of_row wr (W.heap.size + 1) 4 _ _ _ kk
          clear kk
          go_wp2
          go_ret
          exact ⟨ret_b (by rw [ES.out, EQ.out, HE.out, List.drop_length]; rfl), HR.out⟩
end Go.Proofs.YtmaknkbmilcanaaGreatDoor.Pi
namespace Go.Proofs.YtmaknkbmilcanaaGreatDoor.Pi
open Go.RowKit
open Go.Proofs.YtmaknkbmilcanaaGreatDoor.Tx (TxtsIn ret_b)
open Go.Proofs.YtmaknkbmilcanaaGreatDoor.Gr (Tg Gp TgIn gV tV gpB atF atF_drop ret_i)
open Go.Proofs.YtmaknkbmilcanaaGreatDoor.Pe (Pr PrIn pV)
open Go.Proofs.YtmaknkbmilcanaaGreatDoor.Qu (Rep Q RpIn IntsIn qV rV quB Hd)
open Go.Proofs.YtmaknkbmilcanaaGreatDoor.Po (Pl RlIn belI_step belI_alloc belI_drewN)
open Go.Proofs.YtmaknkbmilcanaaGreatDoor.Ul (in_any)
open Go.Proofs.YtmaknkbmilcanaaGreatDoor.Nm (nameB)
open Go.Proofs.YtmaknkbmilcanaaGreatDoor.Ext (up up_below up_mk wp_region_ext call_ext call_ext_same)
@[local go_sem] theorem up_cellR (w : World) (y : Ext.Ext w) (b o : Nat) (h : b < w.heap.size) : (up w y).cell? ⟨b, o, none⟩ = w.cell? ⟨b, o, none⟩ := Ext.up_cell w y b o h
set_option maxRecDepth 100000 in
set_option maxHeartbeats 8000000 in
theorem wireS_any (cv : Value) (rp : List UInt8) (uv rv : Value) (now next : Int) (lv wv : Value) (hnx : 1 ≤ next ∧ next ≤ 1000000) (B : Nat) (w0 : World) (x : Wi) (u : WV) (h : WiN (· < B) w0 u x) (big : WBig x) (W : World) (hb : Below B w0 W) (hB : B ≤ W.heap.size) :
    Calls Tryz.prog 126 #[rawP cv rp uv rv now next lv wv, wV x u] W fun e w' => e = .returned (.bool (wiB now next x)) ∧ Below W.heap.size W w' := by
  obtain ⟨t, s, g, l, ns, d, z⟩ := x
  obtain ⟨u_id⟩ := u
  obtain ⟨hi⟩ := h
  obtain ⟨y1, y2, y3, y4⟩ := big
  simp only at hi y1 y2 y3 y4
  obtain ⟨nx1, nx2⟩ := hnx
  have HT := Lib.hid (fun W' => in_any t 0 now W')
  have HS := Lib.hid (fun W' => in_any s 100 599 W')
  have HN := Lib.hid (fun W' => Nm.l00Word_any ⟨g.toArray⟩ W' (by simp [ByteArray.size, maxLen]; omega))
  have HI := Lib.hid (fun W' => in_any (ns.length : Int) 1 3 W')
  have HB := Lib.hid hb
  have Z := Lib.hid (show wiB now next ⟨t, s, g, l, ns, d, z⟩ = (decide (0 ≤ t ∧ t ≤ now) && (decide (100 ≤ s ∧ s ≤ 599) && (nameB ⟨g.toArray⟩ && (decide (l.length ≤ 100) && (decide (d.length ≤ 65536) && (decide (1 ≤ ns.length ∧ ns.length ≤ 3) && idsB next 0 ns)))))) from rfl)
  rw [show decide (1 ≤ ns.length ∧ ns.length ≤ 3) = decide ((1 : Int) ≤ (ns.length : Int) ∧ (ns.length : Int) ≤ 3) by congr 1; simp; omega] at Z
  obtain ⟨a1, c1, b, off, rfl, hcap, hm, ha, hc⟩ := hi
  have HC := Lib.hid hc
  have HA := Lib.hid ha
  clear hb hc ha y1 y3
  generalize decide (0 ≤ t ∧ t ≤ now) = d1 at *
  generalize decide (100 ≤ s ∧ s ≤ 599) = d2 at *
  generalize nameB ⟨g.toArray⟩ = d3 at *
  generalize decide ((1 : Int) ≤ (ns.length : Int) ∧ (ns.length : Int) ≤ 3) = d4 at *
  generalize wiB now next ⟨t, s, g, l, ns, d, z⟩ = r at *
  have K0 := Lib.hid ((Hd.new W (.cells #[cv, .string ⟨rp.toArray⟩, uv, rv, .int .i64 now, .int .i64 next, lv, wv] 41)).al (.cells #[.int .i64 t, .int .i64 s, .string ⟨g.toArray⟩, .string ⟨l.toArray⟩, .slice a1 ns.length c1, .string ⟨d.toArray⟩, .bool z] 142))
  have K1 := Lib.hid (show Hd ((W.alloc (.cells #[cv, .string ⟨rp.toArray⟩, uv, rv, .int .i64 now, .int .i64 next, lv, wv] 41)).alloc (.cells #[.int .i64 t, .int .i64 s, .string ⟨g.toArray⟩, .string ⟨l.toArray⟩, .slice a1 ns.length c1, .string ⟨d.toArray⟩, .bool z] 142)) (W.heap.size + 1) (.cells #[.int .i64 t, .int .i64 s, .string ⟨g.toArray⟩, .string ⟨l.toArray⟩, .slice a1 ns.length c1, .string ⟨d.toArray⟩, .bool z] 142) by simpa using Hd.new (W.alloc (.cells #[cv, .string ⟨rp.toArray⟩, uv, rv, .int .i64 now, .int .i64 next, lv, wv] 41)) (.cells #[.int .i64 t, .int .i64 s, .string ⟨g.toArray⟩, .string ⟨l.toArray⟩, .slice a1 ns.length c1, .string ⟨d.toArray⟩, .bool z] 142))
  have BA := Lib.hid (((Below.refl W.heap.size W).alloc (Nat.le_refl _) (.cells #[cv, .string ⟨rp.toArray⟩, uv, rv, .int .i64 now, .int .i64 next, lv, wv] 41)).alloc (by simp) (.cells #[.int .i64 t, .int .i64 s, .string ⟨g.toArray⟩, .string ⟨l.toArray⟩, .slice a1 ns.length c1, .string ⟨d.toArray⟩, .bool z] 142))
  go_enter Tryz.func126, Tryz.ntmps126
  go_wp2_with fail
  refine (HT.out _).mono ?_
  rintro e wx ⟨rfl, rfl⟩
  cases d1
  · go_wp2
    go_ret
    exact ⟨ret_b Z.out.symm, BA.out⟩
  go_wp2_with fail
  refine (HS.out _).mono ?_
  rintro e wx ⟨rfl, rfl⟩
  cases d2
  · go_wp2
    go_ret
    exact ⟨ret_b Z.out.symm, BA.out⟩
  go_wp2_with fail
  refine (HN.out _).mono ?_
  rintro e wx ⟨rfl, rfl⟩
  cases d3
  · go_wp2
    go_ret
    exact ⟨ret_b Z.out.symm, BA.out⟩
  by_cases hu : l.length ≤ 100
  case neg =>
    have e1 : decide (l.length ≤ 100) = false := decide_eq_false hu
    rw [e1] at Z
    have gu : (100 : Int) < (l.length : Int) := by omega
    clear e1 hu
    go_wp2
    go_ret
    exact ⟨ret_b (by rw [Z.out]; rfl), BA.out⟩
  have e1 : decide (l.length ≤ 100) = true := decide_eq_true hu
  rw [e1] at Z
  have gu : ¬ ((100 : Int) < (l.length : Int)) := by omega
  clear e1 hu
  go_wp2_with fail
  refine (HI.out _).mono ?_
  rintro e wx ⟨rfl, rfl⟩
  cases d4
  · go_wp2
    go_ret
    exact ⟨ret_b (by rw [Z.out]; cases decide (d.length ≤ 65536) <;> rfl), BA.out⟩
  by_cases hd : d.length ≤ 65536
  case neg =>
    have e1 : decide (d.length ≤ 65536) = false := decide_eq_false hd
    rw [e1] at Z
    have gd : (65536 : Int) < (d.length : Int) := by omega
    clear e1 hd
    go_wp2
    go_ret
    exact ⟨ret_b (by rw [Z.out]; rfl), BA.out⟩
  have e1 : decide (d.length ≤ 65536) = true := decide_eq_true hd
  rw [e1] at Z
  have gd : ¬ ((65536 : Int) < (d.length : Int)) := by omega
  clear e1 hd
  have Z := Lib.hid (show r = idsB next 0 ns by rw [Z.out]; rfl)
  go_wp2
  go_loopw [5] (fun i wr => ∃ k : Nat, k ≤ ns.length ∧ i = .int .i64 k ∧ idsB next 0 ns = idsB next (preI ns k) (ns.drop k) ∧ Hd wr W.heap.size (.cells #[cv, .string ⟨rp.toArray⟩, uv, rv, .int .i64 now, .int .i64 next, lv, wv] 41) ∧ Hd wr (W.heap.size + 1) (.cells #[.int .i64 t, .int .i64 s, .string ⟨g.toArray⟩, .string ⟨l.toArray⟩, .slice a1 ns.length c1, .string ⟨d.toArray⟩, .bool z] 142) ∧ Below W.heap.size W wr) (fun i _ => ns.length - (intOf i).toNat)
  case atStart => exact ⟨0, by omega, rfl, rfl, K0.out, K1.out, BA.out⟩
  case round =>
    obtain ⟨k, hk, rfl, hE, hK0, hK1, hR⟩ := hrel
    have HE := Lib.hid hE
    have KA := Lib.hid hK0
    have KB := Lib.hid hK1
    have hW := HB.out.trans (hR.mono hB)
    have HR := Lib.hid hR
    have z0 : W.heap.size < wr.heap.size := hK0.lt
    have z1 : W.heap.size + 1 < wr.heap.size := hK1.lt
    clear hE hK0 hK1 hR
    have kk := KA.out
    have m0 := cell_of_row wr (W.heap.size) 0 _ _ _ kk
    have m1 := cell_of_row wr (W.heap.size) 1 _ _ _ kk
    have m2 := cell_of_row wr (W.heap.size) 2 _ _ _ kk
    have m3 := cell_of_row wr (W.heap.size) 3 _ _ _ kk
    have m4 := cell_of_row wr (W.heap.size) 4 _ _ _ kk
    have m5 := cell_of_row wr (W.heap.size) 5 _ _ _ kk
    have m6 := cell_of_row wr (W.heap.size) 6 _ _ _ kk
    have m7 := cell_of_row wr (W.heap.size) 7 _ _ _ kk
    clear kk
    have kk := KB.out
    have n0 := cell_of_row wr (W.heap.size + 1) 0 _ _ _ kk
    have n1 := cell_of_row wr (W.heap.size + 1) 1 _ _ _ kk
    have n2 := cell_of_row wr (W.heap.size + 1) 2 _ _ _ kk
    have n3 := cell_of_row wr (W.heap.size + 1) 3 _ _ _ kk
    have n4 := cell_of_row wr (W.heap.size + 1) 4 _ _ _ kk
    have n5 := cell_of_row wr (W.heap.size + 1) 5 _ _ _ kk
    have n6 := cell_of_row wr (W.heap.size + 1) 6 _ _ _ kk
    clear kk
    by_cases hlt : k < ns.length
    · obtain ⟨ea, hlb⟩ := HA.out (by omega)
      subst ea
      have hd2 : b < wr.heap.size := Nat.lt_of_lt_of_le hlb (Nat.le_trans hB HR.out.size)
      have q0 := (hW.cell (p := ⟨b, off + k, none⟩) hlb).trans (HC.out k hlt)
      have D := Lib.hid (idsB_drop next (preI ns k) k hlt)
      have HNX := Lib.hid (show preI ns (k + 1) = ns.getD k 0 from rfl)
      have HQ := Lib.hid (fun (m : Nat) (hm : k = m + 1) => (hW.cell (p := ⟨b, off + m, none⟩) hlb).trans (HC.out m (by omega)))
      have HP := Lib.hid (fun (m : Nat) (hm : k = m + 1) => show preI ns k = ns.getD m 0 by subst hm; rfl)
      have HP0 := Lib.hid (fun (hm : k = 0) => show preI ns k = 0 by subst hm; rfl)
      generalize ns.getD k 0 = t9 at *
      have HJ := Lib.hid (fun W' => in_any t9 1 (next - 1) W')
      clear hW
      by_cases hw : 1 ≤ t9 ∧ t9 ≤ next - 1
      · have d1 : decide (1 ≤ t9 ∧ t9 ≤ next - 1) = true := decide_eq_true hw
        rw [d1] at HJ
        cases k with
        | zero =>
          have G := Lib.hid (show idB next (preI ns 0) t9 = true by rw [HP0.out rfl, idB_first]; exact d1)
          clear hw d1 HQ HP
          rw [Nat.add_zero] at q0
          go_wp2_with fail
          refine wp_region_ext (by kernel_rfl) (by kernel_rfl) ?_
          repeat (go_big_quiet_step ((first
            | (go_at_call 78; refine call_ext_same (v := .bool true) ?_; with_reducible exact HJ.out _)
            | (go_at_call 78; refine call_ext_same (v := .bool false) ?_; with_reducible exact HJ.out _))))
          refine wpQuiet_nil ?_
          intro _ hw'
          obtain ⟨y8, rfl⟩ := hw'
          have hv8 := up_below _ y8
          generalize up _ y8 = v8 at *
          clear m0 m1 m2 m3 m4 m5 m6 m7 n0 n1 n2 n3 n4 n5 n6
          go_wp2
          go_roundw
          case rel => exact ⟨1, by omega, by go_num, by rw [HE.out, D.out, G.out, ← HNX.out]; rfl, KA.out.blw hv8, KB.out.blw hv8, belI_step HR.out hv8⟩
          case measure => simp [intOf]; omega
        | succ m =>
          have r0 := HQ.out m rfl
          have P0 := HP.out m rfl
          have e1 : ((m : Int) + 1) - 1 = (m : Int) := by omega
          generalize ns.getD m 0 = s9 at *
          by_cases hs : t9 ≤ s9
          · have G := Lib.hid (show idB next (preI ns (m + 1)) t9 = false by rw [P0]; unfold idB; rw [decide_eq_false (p := s9 < t9) (by omega), Bool.and_false])
            clear hw d1 HQ P0 HP HP0
            go_wp2_with fail
            refine wp_region_ext (by kernel_rfl) (by kernel_rfl) ?_
            repeat (go_big_quiet_step ((first
              | (go_at_call 78; refine call_ext_same (v := .bool true) ?_; with_reducible exact HJ.out _)
              | (go_at_call 78; refine call_ext_same (v := .bool false) ?_; with_reducible exact HJ.out _))))
            refine wpQuiet_nil ?_
            intro _ hw'
            obtain ⟨y8, rfl⟩ := hw'
            have hv8 := up_below _ y8
            generalize up _ y8 = v8 at *
            clear m0 m1 m2 m3 m4 m5 m6 m7 n0 n1 n2 n3 n4 n5 n6
            go_wp2
            go_ret
            exact ⟨ret_b (by rw [Z.out, HE.out, D.out, G.out]; rfl), belI_step HR.out hv8⟩
          · have G := Lib.hid (show idB next (preI ns (m + 1)) t9 = true by rw [P0]; unfold idB; rw [d1, decide_eq_true (p := s9 < t9) (by omega)]; rfl)
            clear hw d1 HQ P0 HP HP0
            go_wp2_with fail
            refine wp_region_ext (by kernel_rfl) (by kernel_rfl) ?_
            repeat (go_big_quiet_step ((first
              | (go_at_call 78; refine call_ext_same (v := .bool true) ?_; with_reducible exact HJ.out _)
              | (go_at_call 78; refine call_ext_same (v := .bool false) ?_; with_reducible exact HJ.out _))))
            refine wpQuiet_nil ?_
            intro _ hw'
            obtain ⟨y8, rfl⟩ := hw'
            have hv8 := up_below _ y8
            generalize up _ y8 = v8 at *
            clear m0 m1 m2 m3 m4 m5 m6 m7 n0 n1 n2 n3 n4 n5 n6
            go_wp2
            go_roundw
            case rel => exact ⟨m + 1 + 1, by omega, by go_num, by rw [HE.out, D.out, G.out, ← HNX.out]; rfl, KA.out.blw hv8, KB.out.blw hv8, belI_step HR.out hv8⟩
            case measure => simp [intOf]; omega
      · have d1 : decide (1 ≤ t9 ∧ t9 ≤ next - 1) = false := decide_eq_false hw
        have G := Lib.hid (show idB next (preI ns k) t9 = false by unfold idB; rw [d1]; rfl)
        rw [d1] at HJ
        clear hw d1 HQ HP HP0
        go_wp2_with fail
        refine wp_region_ext (by kernel_rfl) (by kernel_rfl) ?_
        repeat (go_big_quiet_step ((first
          | (go_at_call 78; refine call_ext_same (v := .bool true) ?_; with_reducible exact HJ.out _)
          | (go_at_call 78; refine call_ext_same (v := .bool false) ?_; with_reducible exact HJ.out _))))
        refine wpQuiet_nil ?_
        intro _ hw'
        obtain ⟨y8, rfl⟩ := hw'
        have hv8 := up_below _ y8
        generalize up _ y8 = v8 at *
        clear m0 m1 m2 m3 m4 m5 m6 m7 n0 n1 n2 n3 n4 n5 n6
        go_wp2
        go_ret
        exact ⟨ret_b (by rw [Z.out, HE.out, D.out, G.out]; rfl), belI_step HR.out hv8⟩
    · obtain rfl : k = ns.length := by omega
      go_wp2
      go_ret
      exact ⟨ret_b (by rw [Z.out, HE.out, List.drop_length]; rfl), HR.out⟩
end Go.Proofs.YtmaknkbmilcanaaGreatDoor.Pi
namespace Go.Proofs.YtmaknkbmilcanaaGreatDoor.Pi
open Go.RowKit
open Go.Proofs.YtmaknkbmilcanaaGreatDoor.Tx (TxtsIn ret_b)
open Go.Proofs.YtmaknkbmilcanaaGreatDoor.Gr (Tg Gp TgIn gV tV gpB atF atF_drop ret_i)
open Go.Proofs.YtmaknkbmilcanaaGreatDoor.Pe (Pr PrIn pV)
open Go.Proofs.YtmaknkbmilcanaaGreatDoor.Qu (Rep Q RpIn IntsIn qV rV quB Hd)
open Go.Proofs.YtmaknkbmilcanaaGreatDoor.Po (Pl RlIn belI_step belI_alloc belI_drewN)
open Go.Proofs.YtmaknkbmilcanaaGreatDoor.Ul (in_any)
open Go.Proofs.YtmaknkbmilcanaaGreatDoor.Nm (nameB)
open Go.Proofs.YtmaknkbmilcanaaGreatDoor.Ext (up up_below up_mk wp_region_ext call_ext call_ext_same)
@[local go_sem] theorem up_cellT (w : World) (y : Ext.Ext w) (b o : Nat) (h : b < w.heap.size) : (up w y).cell? ⟨b, o, none⟩ = w.cell? ⟨b, o, none⟩ := Ext.up_cell w y b o h
/-- the time of the entry ahead of the k-th, or 0 -/
def preE (xs : List En) : Nat → Int
  | 0 => 0
  | k + 1 => (xs.getD k default).tm
set_option maxRecDepth 100000 in
set_option maxHeartbeats 16000000 in
theorem ok08_any (B : Nat) (w0 : World) (p : Pp) (u : PV) (h : PpN (· < B) w0 u p) (sm : Sm p) (W : World) (hb : Below B w0 W) (hB : B ≤ W.heap.size) :
    Calls Tryz.prog 61 #[pV8 p u] W fun e w' => e = .returned (.bool (ppB p)) ∧ Below W.heap.size W w' := by
  obtain ⟨chs, ⟨rp, uris, rules⟩, now, next, log, ws⟩ := p
  obtain ⟨u1, u2, u3, u4, u5⟩ := u
  obtain ⟨h1, h2, h3, h4, h5⟩ := h
  obtain ⟨s1, s2, s3, s4⟩ := sm
  simp only at h1 h2 h3 h4 h5 s2 s3 s4
  have HP := Lib.hid (fun W' a b => Po.okS_any B w0 ⟨rp, uris, rules⟩ u2 u3 h2 h3 s2.rules s2.name s2.words W' a b)
  have HI1 := Lib.hid (fun W' => in_any now 0 1000000 W')
  have HI2 := Lib.hid (fun W' => in_any next 1 1000000 W')
  have HAA := Lib.hid (fun (nm : List UInt8) (W' : World) (a : Below B w0 W') => atC_any (· < B) chs u1 nm W' (h1.blw a))
  have HBC := Lib.hid s3
  have HBW := Lib.hid s4
  have HB := Lib.hid hb
  obtain ⟨a2, l2, c2, rfl⟩ := h2.slice
  obtain ⟨a3, l3, c3, rfl⟩ := h3.slice
  obtain ⟨a1, cap1, b1, off1, us1, rfl, hcap1, hm1, -, ha1, hc1⟩ := h1
  obtain ⟨a4, cap4, b4, off4, rfl, hcap4, hm4, -, ha4, hc4⟩ := h4
  obtain ⟨a5, cap5, b5, off5, us5, rfl, hcap5, hm5, -, ha5, hc5⟩ := h5
  have HC1 := Lib.hid hc1
  have HA1 := Lib.hid ha1
  have HC4 := Lib.hid hc4
  have HA4 := Lib.hid ha4
  have HC5 := Lib.hid hc5
  have HA5 := Lib.hid ha5
  have Z := Lib.hid (show ppB ⟨chs, ⟨rp, uris, rules⟩, now, next, log, ws⟩ = (decide (0 ≤ now ∧ now ≤ 1000000) && (decide (1 ≤ next ∧ next ≤ 1000000) && (Po.plB ⟨rp, uris, rules⟩ && ((decide (chs.length ≤ 5) && chsB now next [] chs) && ((decide (log.length ≤ 4096) && loB now next 0 log) && (decide (ws.length ≤ 4096) && ws.all (wiB now next))))))) from rfl)
  have NX := Lib.hid (fun (hh : decide (1 ≤ next ∧ next ≤ 1000000) = true) => of_decide_eq_true hh)
  clear h2 h3 hb hc1 ha1 hc4 ha4 hc5 ha5 s1 s2 s3 s4
  generalize decide (0 ≤ now ∧ now ≤ 1000000) = d1 at *
  generalize decide (1 ≤ next ∧ next ≤ 1000000) = d2 at *
  generalize Po.plB ⟨rp, uris, rules⟩ = d3 at *
  generalize ppB ⟨chs, ⟨rp, uris, rules⟩, now, next, log, ws⟩ = r at *
  have BA := Lib.hid ((Below.refl W.heap.size W).alloc (Nat.le_refl _) (.cells #[.slice a1 chs.length cap1, .string ⟨rp.toArray⟩, .slice a2 l2 c2, .slice a3 l3 c3, .int .i64 now, .int .i64 next, .slice a4 log.length cap4, .slice a5 ws.length cap5] 41))
  have K := Lib.hid (Hd.new W (.cells #[.slice a1 chs.length cap1, .string ⟨rp.toArray⟩, .slice a2 l2 c2, .slice a3 l3 c3, .int .i64 now, .int .i64 next, .slice a4 log.length cap4, .slice a5 ws.length cap5] 41))
  by_cases g5 : chs.length ≤ 5
  case neg =>
    have e1 : decide (chs.length ≤ 5) = false := decide_eq_false g5
    rw [e1] at Z
    have gg : (5 : Int) < (chs.length : Int) := by omega
    clear e1 g5
    go_enter Tryz.func61, Tryz.ntmps61
    go_wp2
    go_ret
    exact ⟨ret_b (by rw [Z.out]; cases d1 <;> cases d2 <;> cases d3 <;> rfl), BA.out⟩
  have e1 : decide (chs.length ≤ 5) = true := decide_eq_true g5
  rw [e1] at Z
  have gg : ¬ ((5 : Int) < (chs.length : Int)) := by omega
  clear e1
  go_enter Tryz.func61, Tryz.ntmps61
  go_wp2_with fail
  refine (HP.out _ (HB.out.trans (BA.out.mono hB)) (Nat.le_trans hB BA.out.size)).mono ?_
  rintro e w1 ⟨rfl, hb2⟩
  have K := Lib.hid (K.out.blw hb2)
  have BA := Lib.hid (belI_step BA.out hb2)
  clear hb2 HP
  have kk := K.out
  have m0 := cell_of_row w1 (W.heap.size) 0 _ _ _ kk
  have m1 := cell_of_row w1 (W.heap.size) 1 _ _ _ kk
  have m2 := cell_of_row w1 (W.heap.size) 2 _ _ _ kk
  have m3 := cell_of_row w1 (W.heap.size) 3 _ _ _ kk
  have m4 := cell_of_row w1 (W.heap.size) 4 _ _ _ kk
  have m5 := cell_of_row w1 (W.heap.size) 5 _ _ _ kk
  have m6 := cell_of_row w1 (W.heap.size) 6 _ _ _ kk
  have m7 := cell_of_row w1 (W.heap.size) 7 _ _ _ kk
  clear kk
  cases d3
  · go_wp2
    go_ret
    exact ⟨ret_b (by rw [Z.out]; cases d1 <;> cases d2 <;> rfl), BA.out⟩
  go_wp2_with fail
  refine (HI1.out _).mono ?_
  rintro e wx ⟨rfl, rfl⟩
  cases d1
  · go_wp2
    go_ret
    exact ⟨ret_b Z.out.symm, BA.out⟩
  go_wp2_with fail
  refine (HI2.out _).mono ?_
  rintro e wx ⟨rfl, rfl⟩
  cases d2
  · go_wp2
    go_ret
    exact ⟨ret_b Z.out.symm, BA.out⟩
  have NXX := Lib.hid (show 1 ≤ next ∧ next ≤ 1000000 from NX.out (by first | rfl | trivial))
  clear NX
  by_cases g6 : log.length ≤ 4096
  case neg =>
    have e1 : decide (log.length ≤ 4096) = false := decide_eq_false g6
    rw [e1] at Z
    have gl : (4096 : Int) < (log.length : Int) := by omega
    clear e1 g6
    go_wp2
    go_ret
    exact ⟨ret_b (by rw [Z.out]; cases chsB now next [] chs <;> rfl), BA.out⟩
  have e1 : decide (log.length ≤ 4096) = true := decide_eq_true g6
  rw [e1] at Z
  have gl : ¬ ((4096 : Int) < (log.length : Int)) := by omega
  clear e1
  by_cases g7 : ws.length ≤ 4096
  case neg =>
    have e1 : decide (ws.length ≤ 4096) = false := decide_eq_false g7
    rw [e1] at Z
    have gw : (4096 : Int) < (ws.length : Int) := by omega
    clear e1 g7
    go_wp2
    go_ret
    exact ⟨ret_b (by rw [Z.out]; cases chsB now next [] chs <;> cases loB now next 0 log <;> rfl), BA.out⟩
  have e1 : decide (ws.length ≤ 4096) = true := decide_eq_true g7
  rw [e1] at Z
  have gw : ¬ ((4096 : Int) < (ws.length : Int)) := by omega
  clear e1
  have Z := Lib.hid (show r = (chsB now next [] chs && (loB now next 0 log && ws.all (wiB now next))) by rw [Z.out]; rfl)
  go_wp2
  clear m0 m1 m2 m3 m4 m5 m6 m7
  go_loopw [3] (fun i wr => ∃ k : Nat, k ≤ chs.length ∧ i = .int .i64 k ∧ chsB now next [] chs = chsB now next (chs.take k) (chs.drop k) ∧ Hd wr W.heap.size (.cells #[.slice a1 chs.length cap1, .string ⟨rp.toArray⟩, .slice a2 l2 c2, .slice a3 l3 c3, .int .i64 now, .int .i64 next, .slice a4 log.length cap4, .slice a5 ws.length cap5] 41) ∧ Below W.heap.size W wr) (fun i _ => chs.length - (intOf i).toNat)
  case atStart => exact ⟨0, by omega, rfl, rfl, K.out, BA.out⟩
  case round =>
    obtain ⟨k, hk, rfl, hE, hK, hR⟩ := hrel
    have HE := Lib.hid hE
    have K := Lib.hid hK
    have HR := Lib.hid hR
    have z0 : W.heap.size < wr.heap.size := hK.lt
    have zB : B ≤ wr.heap.size := Nat.le_trans hB hR.size
    have DB := Lib.hid (HB.out.trans (hR.mono hB))
    clear hE hK hR
    have kk := K.out
    have m0 := cell_of_row wr (W.heap.size) 0 _ _ _ kk
    have m1 := cell_of_row wr (W.heap.size) 1 _ _ _ kk
    have m2 := cell_of_row wr (W.heap.size) 2 _ _ _ kk
    have m3 := cell_of_row wr (W.heap.size) 3 _ _ _ kk
    have m4 := cell_of_row wr (W.heap.size) 4 _ _ _ kk
    have m5 := cell_of_row wr (W.heap.size) 5 _ _ _ kk
    have m6 := cell_of_row wr (W.heap.size) 6 _ _ _ kk
    have m7 := cell_of_row wr (W.heap.size) 7 _ _ _ kk
    clear kk
    by_cases hlt : k < chs.length
    · obtain ⟨ea, hlb⟩ := HA1.out (by omega)
      subst ea
      obtain ⟨c0, c1, c2', c3', c4', c5', cN⟩ := HC1.out k hlt
      have hd2 : b1 < wr.heap.size := Nat.lt_of_lt_of_le hlb zB
      have q0 := (DB.out.cell (p := ⟨b1, off1 + k * 6, none⟩) hlb).trans c0
      have q1 := (DB.out.cell (p := ⟨b1, off1 + k * 6 + 1, none⟩) hlb).trans c1
      have q2 := (DB.out.cell (p := ⟨b1, off1 + k * 6 + 2, none⟩) hlb).trans c2'
      have q3 := (DB.out.cell (p := ⟨b1, off1 + k * 6 + 3, none⟩) hlb).trans c3'
      have q4 := (DB.out.cell (p := ⟨b1, off1 + k * 6 + 4, none⟩) hlb).trans c4'
      have q5 := (DB.out.cell (p := ⟨b1, off1 + k * 6 + 5, none⟩) hlb).trans c5'
      have TD := Lib.hid (chsB_drop now next k hlt)
      have AH := atC_has chs k hlt
      have HAT := Lib.hid (fun W' a => HAA.out (chs.getD k default).g.name W' a)
      have HCH := Lib.hid (fun (W' : World) (a : Below B w0 W') (b : B ≤ W'.heap.size) => chanS_any B w0 (chs.getD k default) (us1 k) cN (HBC.out k hlt) (.slice (some ⟨b1, off1, none⟩) chs.length cap1) rp (.slice a2 l2 c2) (.slice a3 l3 c3) now next (.slice a4 log.length cap4) (.slice a5 ws.length cap5) W' a b)
      clear c0 c1 c2' c3' c4' c5'
      generalize us1 k = uu at *
      generalize chs.getD k default = x at *
      obtain ⟨u_tv, u_pv, u_iv, u_rv⟩ := uu
      obtain ⟨aa1, ll1, cc1, rfl⟩ : ∃ a l c, u_tv = .slice a l c := cN.tv.slice
      obtain ⟨aa2, ll2, cc2, rfl⟩ : ∃ a l c, u_pv = .slice a l c := cN.pv.slice
      obtain ⟨aa3, ll3, cc3, rfl⟩ : ∃ a l c, u_iv = .slice a l c := cN.iv.slice
      obtain ⟨aa4, ll4, cc4, rfl⟩ : ∃ a l c, u_rv = .slice a l c := cN.rv.slice
      clear cN
      obtain ⟨⟨nm, ag, ts⟩, ps, ⟨rs, bs⟩⟩ := x
      simp only at q0 q1 AH TD HAT
      generalize atC nm chs = ai at *
      generalize hasC (chs.take k) nm = c at *
      generalize chB now next ⟨⟨nm, ag, ts⟩, ps, ⟨rs, bs⟩⟩ = cb at *
      go_wp2_with fail
      cases cb <;> cases c
      all_goals
        refine wp_region_ext (by kernel_rfl) (by kernel_rfl) ?_
        repeat (go_big_quiet_step ((first
          | (go_at_call 124; refine call_ext_same (v := .int .i64 ai) ?_; with_reducible exact HAT.out _ (DB.out.trans ((up_below _ _).mono zB)))
          | (go_at_call 125; refine call_ext (v := .bool true) ?_; with_reducible exact HCH.out _ (DB.out.trans ((up_below _ _).mono zB)) (Nat.le_trans zB (up_below _ _).size))
          | (go_at_call 125; refine call_ext (v := .bool false) ?_; with_reducible exact HCH.out _ (DB.out.trans ((up_below _ _).mono zB)) (Nat.le_trans zB (up_below _ _).size)))))
        refine wpQuiet_nil ?_
        intro _ hw'
        obtain ⟨y8, rfl⟩ := hw'
        have hv8 := up_below _ y8
        generalize up _ y8 = v8 at *
        clear m0 m1 m2 m3 m4 m5 m6 m7 q0 q1 q2 q3 q4 q5
        have D8 := Lib.hid (belI_step HR.out hv8)
        have K8 := Lib.hid (K.out.blw hv8)
        clear hv8
      · go_wp2
        go_ret
        exact ⟨ret_b (by rw [Z.out, HE.out, TD.out]; rfl), D8.out⟩
      · go_wp2
        go_ret
        exact ⟨ret_b (by rw [Z.out, HE.out, TD.out]; rfl), D8.out⟩
      · go_wp2
        go_roundw
        case rel => exact ⟨k + 1, by omega, by go_num, by rw [HE.out, TD.out]; rfl, K8.out, D8.out⟩
        case measure => simp [intOf]; omega
      · go_wp2
        go_ret
        exact ⟨ret_b (by rw [Z.out, HE.out, TD.out]; rfl), D8.out⟩
    · obtain rfl : k = chs.length := by omega
      have Z := Lib.hid (show r = (loB now next 0 log && ws.all (wiB now next)) by rw [Z.out, HE.out, List.drop_length]; rfl)
      clear HA1 HC1 HE HAA HBC z0 zB DB
      obtain ⟨wo, hwo⟩ : ∃ wo, wo = wr := ⟨_, rfl⟩
      subst hwo
      go_wp2
      clear m0 m1 m2 m3 m4 m5 m6 m7
      go_loopw [4] (fun i wr => ∃ k : Nat, k ≤ log.length ∧ i = .int .i64 k ∧ loB now next 0 log = loB now next (preE log k) (log.drop k) ∧ 0 ≤ preE log k ∧ Hd wr W.heap.size (.cells #[.slice a1 chs.length cap1, .string ⟨rp.toArray⟩, .slice a2 l2 c2, .slice a3 l3 c3, .int .i64 now, .int .i64 next, .slice a4 log.length cap4, .slice a5 ws.length cap5] 41) ∧ Below W.heap.size W wr) (fun i _ => log.length - (intOf i).toNat)
      case atStart => exact ⟨0, by omega, rfl, rfl, Int.le_refl _, K.out, HR.out⟩
      case round =>
        obtain ⟨k, hk, rfl, hE, hpre, hK, hR⟩ := hrel
        have HE := Lib.hid hE
        have HR := Lib.hid hR
        have K := Lib.hid hK
        have DB := Lib.hid (HB.out.trans (hR.mono hB))
        have zB : B ≤ wr.heap.size := Nat.le_trans hB hR.size
        clear hE hK hR
        by_cases hlt : k < log.length
        · obtain ⟨ea, hlb⟩ := HA4.out (by omega)
          subst ea
          obtain ⟨c0, c1, c2'⟩ := HC4.out k hlt
          have q0 := (DB.out.cell (p := ⟨b4, off4 + k * 3, none⟩) hlb).trans c0
          have q1 := (DB.out.cell (p := ⟨b4, off4 + k * 3 + 1, none⟩) hlb).trans c1
          have q2 := (DB.out.cell (p := ⟨b4, off4 + k * 3 + 2, none⟩) hlb).trans c2'
          have D := Lib.hid (loB_drop now next (preE log k) k hlt)
          have HNX := Lib.hid (show preE log (k + 1) = (log.getD k default).tm from rfl)
          have HQ := Lib.hid (fun (m : Nat) (hm : k = m + 1) => (DB.out.cell (p := ⟨b4, off4 + m * 3 + 2, none⟩) hlb).trans (HC4.out m (by omega)).2.2)
          have HPR := Lib.hid (fun (m : Nat) (hm : k = m + 1) => show preE log k = (log.getD m default).tm by subst hm; rfl)
          have HP0 := Lib.hid (fun (hm : k = 0) => show preE log k = 0 by subst hm; rfl)
          have hd4 : b4 < wr.heap.size := Nat.lt_of_lt_of_le hlb zB
          clear c0 c1 c2'
          generalize log.getD k default = x at *
          obtain ⟨kd, id, tm⟩ := x
          simp only at q0 q1 q2 D HNX
          have H1 := Lib.hid (fun W' => in_any kd 1 7 W')
          have H2 := Lib.hid (fun W' => in_any id 1 (next - 1) W')
          have H3 := Lib.hid (fun W' => in_any tm 0 now W')
          have EB := Lib.hid (show enB now next (preE log k) ⟨kd, id, tm⟩ = (decide (1 ≤ kd ∧ kd ≤ 7) && (decide (1 ≤ id ∧ id ≤ next - 1) && (decide (preE log k ≤ tm) && decide (tm ≤ now)))) from rfl)
          have E3 := Lib.hid (fun (hh : decide (0 ≤ tm ∧ tm ≤ now) = false) => show (decide (preE log k ≤ tm) && decide (tm ≤ now)) = false by
            have := of_decide_eq_false hh
            by_cases h9 : tm ≤ now
            · rw [decide_eq_false (p := preE log k ≤ tm) (by omega)]; rfl
            · rw [decide_eq_false h9, Bool.and_false])
          have E4 := Lib.hid (fun (hh : decide (0 ≤ tm ∧ tm ≤ now) = true) => of_decide_eq_true hh)
          generalize decide (1 ≤ kd ∧ kd ≤ 7) = b1' at *
          generalize decide (1 ≤ id ∧ id ≤ next - 1) = b2' at *
          generalize decide (0 ≤ tm ∧ tm ≤ now) = b3' at *
          generalize enB now next (preE log k) ⟨kd, id, tm⟩ = eb at *
          have BR := Lib.hid (belI_alloc (o := (.cells #[.int .i64 kd, .int .i64 id, .int .i64 tm] 107)) HR.out)
          have KA := Lib.hid (K.out.al (.cells #[.int .i64 kd, .int .i64 id, .int .i64 tm] 107))
          have KX := Lib.hid (Hd.new wr (.cells #[.int .i64 kd, .int .i64 id, .int .i64 tm] 107))
          have AB := Lib.hid ((Below.refl wr.heap.size wr).alloc (Nat.le_refl _) (.cells #[.int .i64 kd, .int .i64 id, .int .i64 tm] 107))
          have z0 : W.heap.size < wr.heap.size := K.out.lt
          have kk := KA.out
          have m0 := cell_of_row _ (W.heap.size) 0 _ _ _ kk
          have m1 := cell_of_row _ (W.heap.size) 1 _ _ _ kk
          have m2 := cell_of_row _ (W.heap.size) 2 _ _ _ kk
          have m3 := cell_of_row _ (W.heap.size) 3 _ _ _ kk
          have m4 := cell_of_row _ (W.heap.size) 4 _ _ _ kk
          have m5 := cell_of_row _ (W.heap.size) 5 _ _ _ kk
          have m6 := cell_of_row _ (W.heap.size) 6 _ _ _ kk
          have m7 := cell_of_row _ (W.heap.size) 7 _ _ _ kk
          clear kk
          have nx1 := NXX.out.1
          have nx2 := NXX.out.2
          have kk := K.out
          have s6 := cell_of_row wr W.heap.size 6 _ _ _ kk
          clear kk
          go_wp2_with fail
          clear s6
          have zz : (wr.alloc (.cells #[.int .i64 kd, .int .i64 id, .int .i64 tm] 107)).heap.size = wr.heap.size + 1 := by simp
          have p0 := (AB.out.cell (p := ⟨b4, off4 + k * 3, none⟩) hd4).trans q0
          have HQ2 := Lib.hid (fun (m : Nat) (hm : k = m + 1) => (AB.out.cell (p := ⟨b4, off4 + m * 3 + 2, none⟩) hd4).trans (HQ.out m hm))
          clear q0 q1 q2 HQ AB
          generalize wr.alloc (.cells #[.int .i64 kd, .int .i64 id, .int .i64 tm] 107) = wa at *
          have y0 : W.heap.size < wa.heap.size := by omega
          have y1 : wr.heap.size < wa.heap.size := by omega
          have y4 : b4 < wa.heap.size := by omega
          have kk := KX.out
          have n0 := cell_of_row wa wr.heap.size 0 _ _ _ kk
          have n1 := cell_of_row wa wr.heap.size 1 _ _ _ kk
          have n2 := cell_of_row wa wr.heap.size 2 _ _ _ kk
          clear kk zz
          cases b1'
          · have G := Lib.hid (show eb = false by rw [EB.out]; rfl)
            refine wp_region_ext (by kernel_rfl) (by kernel_rfl) ?_
            repeat (go_big_quiet_step ((first
              | (go_at_call 78; refine call_ext_same (v := .bool true) ?_; with_reducible exact H1.out _)
              | (go_at_call 78; refine call_ext_same (v := .bool false) ?_; with_reducible exact H1.out _)
              | (go_at_call 78; refine call_ext_same (v := .bool true) ?_; with_reducible exact H2.out _)
              | (go_at_call 78; refine call_ext_same (v := .bool false) ?_; with_reducible exact H2.out _)
              | (go_at_call 78; refine call_ext_same (v := .bool true) ?_; with_reducible exact H3.out _)
              | (go_at_call 78; refine call_ext_same (v := .bool false) ?_; with_reducible exact H3.out _))))
            refine wpQuiet_nil ?_
            intro _ hw'
            obtain ⟨y8, rfl⟩ := hw'
            have hv8 := up_below _ y8
            generalize up _ y8 = v8 at *
            clear m0 m1 m2 m3 m4 m5 m6 m7 n0 n1 n2
            go_wp2
            go_ret
            exact ⟨ret_b (by rw [Z.out, HE.out, D.out, G.out]; rfl), belI_step BR.out hv8⟩
          cases b2'
          · have G := Lib.hid (show eb = false by rw [EB.out]; rfl)
            refine wp_region_ext (by kernel_rfl) (by kernel_rfl) ?_
            repeat (go_big_quiet_step ((first
              | (go_at_call 78; refine call_ext_same (v := .bool true) ?_; with_reducible exact H1.out _)
              | (go_at_call 78; refine call_ext_same (v := .bool false) ?_; with_reducible exact H1.out _)
              | (go_at_call 78; refine call_ext_same (v := .bool true) ?_; with_reducible exact H2.out _)
              | (go_at_call 78; refine call_ext_same (v := .bool false) ?_; with_reducible exact H2.out _)
              | (go_at_call 78; refine call_ext_same (v := .bool true) ?_; with_reducible exact H3.out _)
              | (go_at_call 78; refine call_ext_same (v := .bool false) ?_; with_reducible exact H3.out _))))
            refine wpQuiet_nil ?_
            intro _ hw'
            obtain ⟨y8, rfl⟩ := hw'
            have hv8 := up_below _ y8
            generalize up _ y8 = v8 at *
            clear m0 m1 m2 m3 m4 m5 m6 m7 n0 n1 n2
            go_wp2
            go_ret
            exact ⟨ret_b (by rw [Z.out, HE.out, D.out, G.out]; rfl), belI_step BR.out hv8⟩
          cases b3'
          · have G := Lib.hid (show eb = false by rw [EB.out, E3.out rfl]; rfl)
            refine wp_region_ext (by kernel_rfl) (by kernel_rfl) ?_
            repeat (go_big_quiet_step ((first
              | (go_at_call 78; refine call_ext_same (v := .bool true) ?_; with_reducible exact H1.out _)
              | (go_at_call 78; refine call_ext_same (v := .bool false) ?_; with_reducible exact H1.out _)
              | (go_at_call 78; refine call_ext_same (v := .bool true) ?_; with_reducible exact H2.out _)
              | (go_at_call 78; refine call_ext_same (v := .bool false) ?_; with_reducible exact H2.out _)
              | (go_at_call 78; refine call_ext_same (v := .bool true) ?_; with_reducible exact H3.out _)
              | (go_at_call 78; refine call_ext_same (v := .bool false) ?_; with_reducible exact H3.out _))))
            refine wpQuiet_nil ?_
            intro _ hw'
            obtain ⟨y8, rfl⟩ := hw'
            have hv8 := up_below _ y8
            generalize up _ y8 = v8 at *
            clear m0 m1 m2 m3 m4 m5 m6 m7 n0 n1 n2
            go_wp2
            go_ret
            exact ⟨ret_b (by rw [Z.out, HE.out, D.out, G.out]; rfl), belI_step BR.out hv8⟩
          have ht := E4.out rfl
          cases k with
          | zero =>
            have G := Lib.hid (show eb = true by rw [EB.out, HP0.out rfl, decide_eq_true ht.1, decide_eq_true ht.2]; rfl)
            have T := Lib.hid ht
            clear ht
            refine wp_region_ext (by kernel_rfl) (by kernel_rfl) ?_
            repeat (go_big_quiet_step ((first
              | (go_at_call 78; refine call_ext_same (v := .bool true) ?_; with_reducible exact H1.out _)
              | (go_at_call 78; refine call_ext_same (v := .bool false) ?_; with_reducible exact H1.out _)
              | (go_at_call 78; refine call_ext_same (v := .bool true) ?_; with_reducible exact H2.out _)
              | (go_at_call 78; refine call_ext_same (v := .bool false) ?_; with_reducible exact H2.out _)
              | (go_at_call 78; refine call_ext_same (v := .bool true) ?_; with_reducible exact H3.out _)
              | (go_at_call 78; refine call_ext_same (v := .bool false) ?_; with_reducible exact H3.out _))))
            refine wpQuiet_nil ?_
            intro _ hw'
            obtain ⟨y8, rfl⟩ := hw'
            have hv8 := up_below _ y8
            generalize up _ y8 = v8 at *
            clear m0 m1 m2 m3 m4 m5 m6 m7 n0 n1 n2
            go_wp2
            go_roundw
            case rel => exact ⟨1, by omega, by go_num, by rw [HE.out, D.out, G.out, ← HNX.out]; rfl, by rw [HNX.out]; exact T.out.1, KA.out.blw hv8, belI_step BR.out hv8⟩
            case measure => simp [intOf]; omega
          | succ m =>
            have r0 := HQ2.out m rfl
            have P0 := HPR.out m rfl
            have e1 : ((m : Int) + 1) - 1 = (m : Int) := by omega
            generalize (log.getD m default).tm = s9 at *
            by_cases hs : tm < s9
            · have G := Lib.hid (show eb = false by rw [EB.out, P0, decide_eq_false (p := s9 ≤ tm) (by omega)]; rfl)
              clear ht P0
              refine wp_region_ext (by kernel_rfl) (by kernel_rfl) ?_
              repeat (go_big_quiet_step ((first
                | (go_at_call 78; refine call_ext_same (v := .bool true) ?_; with_reducible exact H1.out _)
                | (go_at_call 78; refine call_ext_same (v := .bool false) ?_; with_reducible exact H1.out _)
                | (go_at_call 78; refine call_ext_same (v := .bool true) ?_; with_reducible exact H2.out _)
                | (go_at_call 78; refine call_ext_same (v := .bool false) ?_; with_reducible exact H2.out _)
                | (go_at_call 78; refine call_ext_same (v := .bool true) ?_; with_reducible exact H3.out _)
                | (go_at_call 78; refine call_ext_same (v := .bool false) ?_; with_reducible exact H3.out _))))
              refine wpQuiet_nil ?_
              intro _ hw'
              obtain ⟨y8, rfl⟩ := hw'
              have hv8 := up_below _ y8
              generalize up _ y8 = v8 at *
              clear m0 m1 m2 m3 m4 m5 m6 m7 n0 n1 n2
              go_wp2
              go_ret
              exact ⟨ret_b (by rw [Z.out, HE.out, D.out, G.out]; rfl), belI_step BR.out hv8⟩
            · have G := Lib.hid (show eb = true by rw [EB.out, P0, decide_eq_true (p := s9 ≤ tm) (by omega), decide_eq_true ht.2]; rfl)
              have T := Lib.hid ht
              clear ht P0
              refine wp_region_ext (by kernel_rfl) (by kernel_rfl) ?_
              repeat (go_big_quiet_step ((first
                | (go_at_call 78; refine call_ext_same (v := .bool true) ?_; with_reducible exact H1.out _)
                | (go_at_call 78; refine call_ext_same (v := .bool false) ?_; with_reducible exact H1.out _)
                | (go_at_call 78; refine call_ext_same (v := .bool true) ?_; with_reducible exact H2.out _)
                | (go_at_call 78; refine call_ext_same (v := .bool false) ?_; with_reducible exact H2.out _)
                | (go_at_call 78; refine call_ext_same (v := .bool true) ?_; with_reducible exact H3.out _)
                | (go_at_call 78; refine call_ext_same (v := .bool false) ?_; with_reducible exact H3.out _))))
              refine wpQuiet_nil ?_
              intro _ hw'
              obtain ⟨y8, rfl⟩ := hw'
              have hv8 := up_below _ y8
              generalize up _ y8 = v8 at *
              clear m0 m1 m2 m3 m4 m5 m6 m7 n0 n1 n2
              go_wp2
              go_roundw
              case rel => exact ⟨m + 1 + 1, by omega, by go_num, by rw [HE.out, D.out, G.out, ← HNX.out]; rfl, by rw [HNX.out]; exact T.out.1, KA.out.blw hv8, belI_step BR.out hv8⟩
              case measure => simp [intOf]; omega
        · obtain rfl : k = log.length := by omega
          have Z := Lib.hid (show r = ws.all (wiB now next) by rw [Z.out, HE.out, List.drop_length]; rfl)
          clear HA4 HC4 HE zB DB hpre
          have kk := K.out
          have m0 := cell_of_row wr (W.heap.size) 0 _ _ _ kk
          have m1 := cell_of_row wr (W.heap.size) 1 _ _ _ kk
          have m2 := cell_of_row wr (W.heap.size) 2 _ _ _ kk
          have m3 := cell_of_row wr (W.heap.size) 3 _ _ _ kk
          have m4 := cell_of_row wr (W.heap.size) 4 _ _ _ kk
          have m5 := cell_of_row wr (W.heap.size) 5 _ _ _ kk
          have m6 := cell_of_row wr (W.heap.size) 6 _ _ _ kk
          have m7 := cell_of_row wr (W.heap.size) 7 _ _ _ kk
          clear kk
          obtain ⟨wo2, hwo2⟩ : ∃ wo2, wo2 = wr := ⟨_, rfl⟩
          subst hwo2
          go_wp2
          clear m0 m1 m2 m3 m4 m5 m6 m7
          go_loopw [6] (fun i wr => ∃ k : Nat, k ≤ ws.length ∧ i = .int .i64 k ∧ ws.all (wiB now next) = (ws.drop k).all (wiB now next) ∧ Hd wr W.heap.size (.cells #[.slice a1 chs.length cap1, .string ⟨rp.toArray⟩, .slice a2 l2 c2, .slice a3 l3 c3, .int .i64 now, .int .i64 next, .slice a4 log.length cap4, .slice a5 ws.length cap5] 41) ∧ Below W.heap.size W wr) (fun i _ => ws.length - (intOf i).toNat)
          case atStart => exact ⟨0, by omega, rfl, rfl, K.out, HR.out⟩
          case round =>
            obtain ⟨k, hk, rfl, hE, hK, hR⟩ := hrel
            have HE := Lib.hid hE
            have HR := Lib.hid hR
            have K := Lib.hid hK
            have DB := Lib.hid (HB.out.trans (hR.mono hB))
            have zB : B ≤ wr.heap.size := Nat.le_trans hB hR.size
            have z0 : W.heap.size < wr.heap.size := hK.lt
            clear hE hK hR
            have kk := K.out
            have m0 := cell_of_row wr (W.heap.size) 0 _ _ _ kk
            have m1 := cell_of_row wr (W.heap.size) 1 _ _ _ kk
            have m2 := cell_of_row wr (W.heap.size) 2 _ _ _ kk
            have m3 := cell_of_row wr (W.heap.size) 3 _ _ _ kk
            have m4 := cell_of_row wr (W.heap.size) 4 _ _ _ kk
            have m5 := cell_of_row wr (W.heap.size) 5 _ _ _ kk
            have m6 := cell_of_row wr (W.heap.size) 6 _ _ _ kk
            have m7 := cell_of_row wr (W.heap.size) 7 _ _ _ kk
            clear kk
            by_cases hlt : k < ws.length
            · obtain ⟨ea, hlb⟩ := HA5.out (by omega)
              subst ea
              obtain ⟨c0, c1, c2', c3', c4', c5', c6', cN⟩ := HC5.out k hlt
              have hd5 : b5 < wr.heap.size := Nat.lt_of_lt_of_le hlb zB
              have q0 := (DB.out.cell (p := ⟨b5, off5 + k * 7, none⟩) hlb).trans c0
              have q1 := (DB.out.cell (p := ⟨b5, off5 + k * 7 + 1, none⟩) hlb).trans c1
              have q2 := (DB.out.cell (p := ⟨b5, off5 + k * 7 + 2, none⟩) hlb).trans c2'
              have q3 := (DB.out.cell (p := ⟨b5, off5 + k * 7 + 3, none⟩) hlb).trans c3'
              have q4 := (DB.out.cell (p := ⟨b5, off5 + k * 7 + 4, none⟩) hlb).trans c4'
              have q5 := (DB.out.cell (p := ⟨b5, off5 + k * 7 + 5, none⟩) hlb).trans c5'
              have q6 := (DB.out.cell (p := ⟨b5, off5 + k * 7 + 6, none⟩) hlb).trans c6'
              have D := Lib.hid (allW_drop (wiB now next) k hlt)
              have HWR := Lib.hid (fun (W' : World) (a : Below B w0 W') (b : B ≤ W'.heap.size) => wireS_any (.slice a1 chs.length cap1) rp (.slice a2 l2 c2) (.slice a3 l3 c3) now next (.slice a4 log.length cap4) (.slice (some ⟨b5, off5, none⟩) ws.length cap5) NXX.out B w0 (ws.getD k default) (us5 k) cN (HBW.out k hlt) W' a b)
              clear c0 c1 c2' c3' c4' c5' c6'
              generalize us5 k = uu at *
              generalize ws.getD k default = x at *
              obtain ⟨u_id⟩ := uu
              obtain ⟨aa1, ll1, cc1, rfl⟩ : ∃ a l c, u_id = .slice a l c := cN.id.slice
              clear cN
              obtain ⟨t, s, g, l, ns, d, z⟩ := x
              simp only at q0 q1 q2 q3 q5 q6
              generalize wiB now next ⟨t, s, g, l, ns, d, z⟩ = rb at *
              go_wp2_with fail
              cases rb
              all_goals
                refine wp_region_ext (by kernel_rfl) (by kernel_rfl) ?_
                repeat (go_big_quiet_step ((first
                  | (go_at_call 126; refine call_ext (v := .bool true) ?_; with_reducible exact HWR.out _ (DB.out.trans ((up_below _ _).mono zB)) (Nat.le_trans zB (up_below _ _).size))
                  | (go_at_call 126; refine call_ext (v := .bool false) ?_; with_reducible exact HWR.out _ (DB.out.trans ((up_below _ _).mono zB)) (Nat.le_trans zB (up_below _ _).size)))))
                refine wpQuiet_nil ?_
                intro _ hw'
                obtain ⟨y8, rfl⟩ := hw'
                have hv8 := up_below _ y8
                generalize up _ y8 = v8 at *
                clear m0 m1 m2 m3 m4 m5 m6 m7 q0 q1 q2 q3 q4 q5 q6
                have D8 := Lib.hid (belI_step HR.out hv8)
                have K8 := Lib.hid (K.out.blw hv8)
                clear hv8
              · go_wp2
                go_ret
                exact ⟨ret_b (by rw [Z.out, HE.out, D.out]; rfl), D8.out⟩
              · go_wp2
                go_roundw
                case rel => exact ⟨k + 1, by omega, by go_num, by rw [HE.out, D.out]; rfl, K8.out, D8.out⟩
                case measure => simp [intOf]; omega
            · obtain rfl : k = ws.length := by omega
              go_wp2
              go_ret
              exact ⟨ret_b (by rw [Z.out, HE.out, List.drop_length]; rfl), HR.out⟩
end Go.Proofs.YtmaknkbmilcanaaGreatDoor.Pi
namespace Go.Proofs.YtmaknkbmilcanaaGreatDoor.Pi
open Go.RowKit
open Go.Proofs.YtmaknkbmilcanaaGreatDoor.Tx (szR szR_in szR_out)
open Go.Proofs.YtmaknkbmilcanaaGreatDoor.Po (belI_step)
open Go.Proofs.YtmaknkbmilcanaaGreatDoor.Ul (Tab MaxL)
theorem PpN.low {B : Nat} {w : World} {u : PV} {p : Pp} (h : PpN (fun b => B ≤ b ∧ b < w.heap.size) w u p) : PpN (· < w.heap.size) w u p := h.same fun _ hb => ⟨hb.2, rfl⟩
end Go.Proofs.YtmaknkbmilcanaaGreatDoor.Pi
