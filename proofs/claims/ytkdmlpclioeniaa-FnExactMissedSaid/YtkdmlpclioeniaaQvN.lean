
/-
  The law FnExactMissed, walked.
-/
import Derived.Test.YtkdmlpclioeniaaQvM
import Derived.Test.YtkdmlpclioeniaaQvD
namespace Go.Proofs.Ytkdmlpclioeniaa.Qu
open Go.RowKit
open Go.Proofs.Ytkdmlpclioeniaa.Tx
set_option maxRecDepth 100000 in
set_option maxHeartbeats 8000000 in
theorem missed_in (q : Q) (n : Int) (a1 : Option Addr) (l1 c1 : Nat) (a2 : Option Addr) (l2 c2 : Nat) (W : World) (hi : RpIn (· < W.heap.size) W (.slice a1 l1 c1) q.items) (hr : TxtsIn (· < W.heap.size) W (.slice a2 l2 c2) q.recent) (hs : szQ q ≤ 1048576) :
    Calls Try.prog 9 #[qV (.slice a1 l1 c1) (.slice a2 l2 c2), .int .i64 n] W fun e w' => e = .returned (.bool true) ∧ Below W.heap.size W w' := by
  have hsi : q.items.length ≤ 1048576 := by unfold szQ at hs; omega
  have hsr : q.recent.length ≤ 1048576 := by unfold szQ at hs; omega
  have HSZ := Lib.hid (fun wx hx hy => szQ_any W.heap.size W q _ _ hi hr 1048576 wx hx hy (by omega) (by omega))
  rw [szR_in (by omega)] at HSZ
  have g1 : ¬ (1048576 - (szQ q : Int) < 0) := by omega
  generalize 1048576 - (szQ q : Int) = z at *
  have HTO := Lib.hid (fun wx hx hy => toQ_any W.heap.size W q _ _ hi hr hsi hsr wx hx hy)
  have FI := Lib.hid hi.fit
  have FT := Lib.hid (TxtsIn_lens hr)
  have hsz : Sized (msR q n) (msD q n) := ms_sized hsi hsr hi.fit (TxtsIn_lens hr)
  obtain ⟨R, hR⟩ : ∃ R, msR q n = R := ⟨_, rfl⟩
  obtain ⟨D, hD⟩ : ∃ D, msD q n = D := ⟨_, rfl⟩
  obtain ⟨C, hC⟩ : ∃ C, msC q n = C := ⟨_, rfl⟩
  have HOS := Lib.hid (fun (W' : World) (v u : Value) (h : RpIn (· < W'.heap.size) W' v q.items) (h2 : TxtsIn (· < W'.heap.size) W' u q.recent) => (hR ▸ hD ▸ hC ▸ missedS_any W'.heap.size W' q n v u h h2 hsi W' (Below.refl _ _) (Nat.le_refl _) : Calls Try.prog 36 #[qV v u, .int .i64 n] W' (NewS W' R D C)))
  have HOI := Lib.hid (fun (w0 W' : World) (v u : Value) (h : RpIn (· < w0.heap.size) w0 v q.items) (h2 : TxtsIn (· < w0.heap.size) w0 u q.recent) h3 h4 => (hR ▸ hD ▸ hC ▸ missedI_any w0.heap.size w0 q n v u h h2 hsi W' h3 h4 : Calls Try.prog 37 #[qV v u, .int .i64 n] W' (NewS W' R D C)))
  rw [hR, hD] at hsz
  obtain ⟨hfr, hft, hl1, hl2, hl3⟩ := hsz
  have HEQ := Lib.hid (fun (q : Q) (w0 : World) (v u v' u' : Value) (h1 : RpIn (· < w0.heap.size) w0 v q.items) (h2 : TxtsIn (· < w0.heap.size) w0 u q.recent) (h3 : RpIn (· < w0.heap.size) w0 v' q.items) (h4 : TxtsIn (· < w0.heap.size) w0 u' q.recent) => eqQ_self w0.heap.size w0 q v u v' u' h1 h2 h3 h4 w0 (Below.refl _ _) (Nat.le_refl _))
  have HEI := Lib.hid (fun (w0 : World) (v u : Value) (h1 : IntsIn (· < w0.heap.size) w0 v D) (h3 : IntsIn (· < w0.heap.size) w0 u D) => eqIs_self _ _ D v u w0 h1 h3)
  have HMX := Lib.hid (fun (S : Nat → Prop) (base : Nat) (v u : Value) (w : World) (h : O4 w base v q.items) (h2 : O1 w base u q.recent) hS hS2 => markQ_any S base q v u 1 w h h2 hS hS2 (by omega) (by omega))
  have HMG := Lib.hid (fun (base : Nat) (v u : Value) (w : World) (h : O4 w base v R.items) (h2 : O1 w base u R.recent) => markQ_any (fun b => v.ownBlock = some b ∨ u.ownBlock = some b) base R v u 1 w h h2 (fun b e => .inl e) (fun b e => .inr e) (by omega) (by omega))
  have HMI := Lib.hid (fun (base : Nat) (v : Value) (w : World) (h : OI w base v D) => markIs_any base v D (1 + 4 * R.items.length + R.recent.length) w h (by omega) (by omega))
  have HHG := Lib.hid (fun (v u : Value) (w : World) (h : RpIn (· < w.heap.size) w v (mrp R.items.length 1)) (h2 : TxtsIn (· < w.heap.size) w u (mks R.recent.length (1 + 4 * R.items.length))) => heldQ_any (· < w.heap.size) (· < w.heap.size) v u R.items.length R.recent.length 1 w h h2 (fun _ h => h) (fun _ h => h) (by omega) (by omega))
  have HHI := Lib.hid (fun (v : Value) (w : World) (h : IntsIn (· < w.heap.size) w v (mki D.length (1 + 4 * R.items.length + R.recent.length))) => heldIs_any (· < w.heap.size) v D.length (1 + 4 * R.items.length + R.recent.length) w h (by omega) (by omega))
  have HFM := Lib.hid (mrp_fit R.items.length 1 (by omega))
  have HFK := Lib.hid (mks_fit R.recent.length (1 + 4 * R.items.length) (by omega))
  have HFR := Lib.hid hfr
  have HFT := Lib.hid hft
  have gk : ¬ (((1 + 4 * q.items.length + q.recent.length : Nat) : Int) < 0) := by omega
  have gm : ¬ (((1 + 4 * R.items.length + R.recent.length : Nat) : Int) < 0) := by omega
  have gn : ¬ (((1 + 4 * R.items.length + R.recent.length + D.length : Nat) : Int) < 0) := by omega
  have ecc : (C != C) = false := by simp
  generalize 1 + 4 * q.items.length + q.recent.length = kx at *
  generalize hkm : 1 + 4 * R.items.length = km0 at *
  generalize km0 + R.recent.length = km at *
  generalize km + D.length = kn at *
  clear hkm
  have A0 := Lib.hid (Hd.new W (lqO (.slice a1 l1 c1) (.slice a2 l2 c2)))
  have B0 := Lib.hid ((Below.refl W.heap.size W).alloc (Nat.le_refl _) (lqO (.slice a1 l1 c1) (.slice a2 l2 c2)))
  clear hR hD hC hs hi hr hsi hsr hfr hft hl1 hl2 hl3
  go_enter Try.func9, Try.ntmps9
  go_wp2_with fail
  refine (HSZ.out _ B0.out (by simp)).mono ?_
  rintro e w1 ⟨rfl, hb1⟩
  have A1 := Lib.hid (A0.out.blw hb1)
  have B1 := Lib.hid (below_chain B0.out hb1)
  have z1 := A1.out.lt
  obtain ⟨m0, m1, -⟩ := A1.out.two
  clear hb1 A0 B0
  go_wp2_with fail
  refine (HTO.out w1 B1.out (by omega)).mono ?_
  rintro e w2 ⟨va, ua, rfl, hja, hka, hb2⟩
  obtain ⟨aa, ca, rfl⟩ := hja.slice
  obtain ⟨ab, cb, rfl⟩ := hka.slice
  have A2 := Lib.hid (A1.out.blw hb2)
  have B2 := Lib.hid (below_chain B1.out hb2)
  have HOK := Lib.hid (HOS.out w2 _ _ ((hja.rp FI.out).mono fun _ hb => hb.2) ((hka.txts FT.out).mono fun _ hb => hb.2))
  clear hb2 hja hka m0 m1 z1 A1 B1 HOS
  go_wp2_with fail
  refine HOK.out.mono ?_
  rintro e w3 ⟨pi, pr, pd, rfl, ho3, ht3, hd3, hb3⟩
  obtain ⟨x3, hx3⟩ : ∃ x3, x3 = w3.alloc (iqO pi pr) := ⟨_, rfl⟩
  have hbx : Below w2.heap.size w2 x3 := hx3 ▸ belI_alloc hb3
  have T3 := Lib.hid (show St0 W (.slice a1 l1 c1) (.slice a2 l2 c2) x3.heap.size w3.heap.size (iqO pi pr) pi pr pd R D x3 from
    ⟨A2.out.blw hbx, below_chain B2.out hbx, hx3 ▸ Hd.new _ _, (O4.rp (hx3 ▸ own_al ho3 _) HFR.out).mono fun _ hb => hb.2, (O1.txts (hx3 ▸ own_al ht3 _) HFT.out).mono fun _ hb => hb.2, (OI.ints (hx3 ▸ own_al hd3 _)).mono fun _ hb => hb.2, (A2.out.blw hbx).lt, by rw [hx3]; simp, Nat.le_refl _⟩)
  obtain ⟨at0, ct0, rfl⟩ := ho3.slice
  obtain ⟨au0, cu0, rfl⟩ := ht3.slice
  obtain ⟨ad0, cd0, rfl⟩ := hd3.slice
  obtain ⟨m0, m1, -⟩ := (A2.out.blw hb3).two
  have z3w := (A2.out.blw hb3).lt
  have z3 := T3.out.zA
  have y3 := T3.out.zP
  clear hb3 hbx ho3 ht3 hd3 HOK A2 B2
  go_wp2_with fail
  rw [← hx3]
  clear hx3 z3w m0 m1
  refine (HTO.out x3 T3.out.B (by omega)).mono ?_
  rintro e w4 ⟨vb, ub, rfl, hjb, hkb, hb4⟩
  obtain ⟨a4, c4, rfl⟩ := hjb.slice
  obtain ⟨a5, c5, rfl⟩ := hkb.slice
  have T4 := Lib.hid (T3.out.below hb4)
  have XI := Lib.hid hjb
  have XR := Lib.hid hkb
  have HJB := Lib.hid ((hjb.rp FI.out).mono (S' := (· < w4.heap.size)) fun _ hb => hb.2)
  have HKB := Lib.hid ((hkb.txts FT.out).mono (S' := (· < w4.heap.size)) fun _ hb => hb.2)
  have A45 := Lib.hid ((Below.refl w4.heap.size w4).alloc (Nat.le_refl _) (iqO (.slice a4 q.items.length c4) (.slice a5 q.recent.length c5)))
  have X4 := Lib.hid (Hd.new w4 (iqO (.slice a4 q.items.length c4) (.slice a5 q.recent.length c5)))
  have s34 : x3.heap.size ≤ w4.heap.size := hb4.size
  clear hb4 hjb hkb T3
  go_wp2_with fail
  refine (HOI.out w4 _ _ _ HJB.out HKB.out A45.out (by simp)).mono ?_
  rintro e w5 ⟨i1, r1, d1, rfl, ho5, ht5, hd5, hb5⟩
  have B45' := below_chain A45.out hb5
  have ho5' : O4 w5 (w4.heap.size + 1) i1 R.items := ho5.base (by simp)
  have ht5' : O1 w5 (w4.heap.size + 1) r1 R.recent := ht5.base (by simp)
  have hd5' : OI w5 (w4.heap.size + 1) d1 D := hd5.base (by simp)
  obtain ⟨x5, hx5⟩ : ∃ x5, x5 = w5.alloc (iqO i1 r1) := ⟨_, rfl⟩
  have hl45 := (X4.out.blw hb5).lt
  have B45 := Lib.hid (show Below w4.heap.size w4 x5 from hx5 ▸ belI_alloc B45')
  have X5 := Lib.hid (show Hd x5 w4.heap.size (iqO (.slice a4 q.items.length c4) (.slice a5 q.recent.length c5)) from hx5 ▸ (X4.out.blw hb5).al _)
  have S5 := Lib.hid (show St W (.slice a1 l1 c1) (.slice a2 l2 c2) x3.heap.size w3.heap.size (iqO (.slice at0 R.items.length ct0) (.slice au0 R.recent.length cu0)) (.slice at0 R.items.length ct0) (.slice au0 R.recent.length cu0) (.slice ad0 D.length cd0) R D (w4.heap.size + 1) w5.heap.size (iqO i1 r1) i1 r1 d1 R D x5 from
    ⟨T4.out.below B45.out, by omega, by rw [hx5]; simp; omega, hx5 ▸ own_al ho5' _, hx5 ▸ own_al ht5' _, hx5 ▸ own_al hd5' _, hx5 ▸ Hd.new _ _, (fun b e => by have := (World.ownsRow.lt ho5' b e).2; omega), (fun b e => by have := (World.ownsRow.lt ht5' b e).2; omega), (fun b e => by have := (World.ownsRow.lt hd5' b e).2; omega)⟩)
  obtain ⟨at1, ct1, rfl⟩ := ho5.slice
  obtain ⟨au1, cu1, rfl⟩ := ht5.slice
  obtain ⟨ad1, cd1, rfl⟩ := hd5.slice
  have HE5 := Lib.hid (HEQ.out R x5 _ _ _ _ ((S5.out.g1.rp HFR.out).mono fun _ hb => hb.2) ((S5.out.g2.txts HFT.out).mono fun _ hb => hb.2) S5.out.o.r0 S5.out.o.t0)
  obtain ⟨n0, n1, -⟩ := (T4.out.P.blw B45').two
  have y35 := (T4.out.P.blw B45').lt
  clear hb5 ho5 ht5 hd5 ho5' ht5' hd5' B45' T4 X4 A45
  go_wp2_with fail
  rw [← hx5]
  clear hx5 n0 n1 y35
  refine HE5.out.mono ?_
  rintro e w6 ⟨rfl, hb6⟩
  have S6 := Lib.hid (S5.out.below hb6)
  have X6 := Lib.hid (X5.out.blw hb6)
  have B46 := Lib.hid (below_chain B45.out hb6)
  have HI6 := Lib.hid (HEI.out w6 _ _ (S6.out.g3.ints.mono fun _ hb => hb.2) S6.out.o.i0)
  clear hb6 HE5 S5 X5 B45
  go_wp2_with fail
  refine HI6.out.mono ?_
  rintro e w7 ⟨rfl, hb7⟩
  have S7 := Lib.hid (S6.out.below hb7)
  have X7 := Lib.hid (X6.out.blw hb7)
  have B47 := Lib.hid (below_chain B46.out hb7)
  obtain ⟨m00, m01, -⟩ := S7.out.o.A.two
  obtain ⟨p00, p01, -⟩ := X7.out.two
  have z7 := S7.out.o.A.lt
  have y7 := X7.out.lt
  have hRR : Below w7.heap.size w7 w7 := Below.refl _ _
  clear hb7 HI6 S6 X6 B46
  go_wp2_with fail
  go_region_held3 (fun wx => wx.cell? ⟨W.heap.size, 0, none⟩ = some (.slice a1 l1 c1) ∧ wx.cell? ⟨W.heap.size, 1, none⟩ = some (.slice a2 l2 c2) ∧
      wx.cell? ⟨w4.heap.size, 0, none⟩ = some (.slice a4 q.items.length c4) ∧ wx.cell? ⟨w4.heap.size, 1, none⟩ = some (.slice a5 q.recent.length c5) ∧
      W.heap.size < wx.heap.size ∧ w4.heap.size < wx.heap.size ∧ Below w7.heap.size w7 wx)
    (first
      | (simp [*, Below.drew]; done)
      | (go_split_ands
         refine ⟨?_, ?_, ?_, ?_, Nat.lt_of_lt_of_le (by assumption) hb.size, Nat.lt_of_lt_of_le (by assumption) hb.size, belI_step (by assumption) hb⟩
         · (rw [hb.cell (p := ⟨W.heap.size, 0, none⟩) (by assumption)]; assumption)
         · (rw [hb.cell (p := ⟨W.heap.size, 1, none⟩) (by assumption)]; assumption)
         · (rw [hb.cell (p := ⟨w4.heap.size, 0, none⟩) (by assumption)]; assumption)
         · (rw [hb.cell (p := ⟨w4.heap.size, 1, none⟩) (by assumption)]; assumption)))
    (first
      | (go_split_ands; go_at_call 17; refine (HTO.out _ (below_chain S7.out.o.B (by assumption)) (Nat.le_of_lt (by assumption))).mono ?_; rintro e wn ⟨vc, uc, rfl, hjc, hkc, hb⟩)
      | (go_split_ands; go_at_call 19; refine (HEQ.out q _ _ _ vc uc (RpIn.later HJB.out (fun _ hb => hb) (below_chain B47.out (by assumption))) (TxtsIn.later HKB.out (fun _ hb => hb) (below_chain B47.out (by assumption))) ((hjc.rp FI.out).mono fun _ hb => hb.2) ((hkc.txts FT.out).mono fun _ hb => hb.2)).mono ?_; rintro e wn ⟨rfl, hb⟩))
  go_split_ands
  rename_i hfin
  have S8 := Lib.hid (S7.out.below hfin)
  have B48 := Lib.hid (below_chain B47.out hfin)
  have HM8 := Lib.hid (HMX.out (fun b => x3.heap.size ≤ b ∧ b < w4.heap.size + 1) _ _ _ _ (XI.out.below B48.out) (XR.out.below B48.out)
    (fun b e => ⟨(World.ownsRow.lt XI.out b e).1, Nat.lt_succ_of_lt (World.ownsRow.lt XI.out b e).2⟩) (fun b e => ⟨(World.ownsRow.lt XR.out b e).1, Nat.lt_succ_of_lt (World.ownsRow.lt XR.out b e).2⟩))
  clear hfin hRR S7 B47 X7 z7 y7
  go_wp2_with fail
  refine HM8.out.mono ?_
  rintro e w9 ⟨rfl, -, -, hm9⟩
  have S9 := Lib.hid (S8.out.markX hm9 (fun b h => h) (.inl (by omega)))
  have HE9 := Lib.hid (HEQ.out R w9 _ _ _ _ ((S9.out.g1.rp HFR.out).mono fun _ hb => hb.2) ((S9.out.g2.txts HFT.out).mono fun _ hb => hb.2) S9.out.o.r0 S9.out.o.t0)
  obtain ⟨h0, h1, -⟩ := S9.out.H.two
  obtain ⟨n0, n1, -⟩ := S9.out.o.P.two
  clear hm9 HM8 S8 B48 XI XR HJB HKB m00 m01 p00 p01
  go_wp2_with fail
  refine HE9.out.mono ?_
  rintro e w10 ⟨rfl, hb10⟩
  have S10 := Lib.hid (S9.out.below hb10)
  have HI10 := Lib.hid (HEI.out w10 _ _ (S10.out.g3.ints.mono fun _ hb => hb.2) S10.out.o.i0)
  clear hb10 HE9 S9 h0 h1 n0 n1
  go_wp2_with fail
  refine HI10.out.mono ?_
  rintro e w11 ⟨rfl, hb11⟩
  have S11 := Lib.hid (S10.out.below hb11)
  obtain ⟨h0, h1, -⟩ := S11.out.H.two
  clear hb11 HI10 S10
  go_wp2_with fail
  refine (HMG.out _ _ _ _ S11.out.g1 S11.out.g2).mono ?_
  rintro e w12 ⟨rfl, k1, k2, hm12⟩
  have S12 := Lib.hid (S11.out.markQ (G' := ⟨mrp R.items.length 1, mks R.recent.length km0⟩) hm12 k1 k2)
  clear k1 k2 hm12 S11 h0 h1
  go_wp2_with fail
  refine (HMI.out _ _ _ S12.out.g3).mono ?_
  rintro e w13 ⟨rfl, k3, hg13⟩
  have S13 := Lib.hid (S12.out.markI hg13 k3)
  obtain ⟨h0, h1, -⟩ := S13.out.H.two
  clear k3 hg13 S12
  go_wp2_with fail
  refine (HHG.out _ _ _ ((S13.out.g1.rp HFM.out).mono fun _ hb => hb.2) ((S13.out.g2.txts HFK.out).mono fun _ hb => hb.2)).mono ?_
  rintro e w14 ⟨rfl, hb14⟩
  have S14 := Lib.hid (S13.out.below hb14)
  clear hb14 S13 h0 h1
  go_wp2_with fail
  refine (HHI.out _ _ (S14.out.g3.ints.mono fun _ hb => hb.2)).mono ?_
  rintro e w15 ⟨rfl, rfl⟩
  obtain ⟨m0, m1, -⟩ := S14.out.o.A.two
  have z14 := S14.out.o.A.lt
  go_wp2_with fail
  refine (HTO.out w14 S14.out.o.B (by omega)).mono ?_
  rintro e w16 ⟨vd, ud, rfl, hjd, hkd, hb16⟩
  have S16 := Lib.hid (S14.out.below hb16)
  have HO16 := Lib.hid (HOI.out w16 w16 _ _ ((hjd.rp FI.out).mono fun _ hb => hb.2) ((hkd.txts FT.out).mono fun _ hb => hb.2) (Below.refl _ _) (Nat.le_refl _))
  obtain ⟨a6, c6, rfl⟩ := hjd.slice
  obtain ⟨a7, c7, rfl⟩ := hkd.slice
  clear hb16 hjd hkd m0 m1 z14 S14
  go_wp2_with fail
  refine HO16.out.mono ?_
  rintro e w17 ⟨i2, r2, d2, rfl, ho17, ht17, hd17, hb17⟩
  obtain ⟨x17, hx17⟩ : ∃ x17, x17 = w17.alloc (iqO i2 r2) := ⟨_, rfl⟩
  have S17 := Lib.hid (S16.out.below (show Below w16.heap.size w16 x17 from hx17 ▸ belI_alloc hb17))
  have D17 := Lib.hid (show OI x17 w16.heap.size d2 D from hx17 ▸ own_al hd17 _)
  have HE17 := Lib.hid (HEQ.out R x17 _ _ _ _ ((O4.rp (show O4 x17 w16.heap.size i2 R.items from hx17 ▸ own_al ho17 _) HFR.out).mono fun _ hb => hb.2) ((O1.txts (show O1 x17 w16.heap.size r2 R.recent from hx17 ▸ own_al ht17 _) HFT.out).mono fun _ hb => hb.2) S17.out.o.r0 S17.out.o.t0)
  obtain ⟨at2, ct2, rfl⟩ := ho17.slice
  obtain ⟨au2, cu2, rfl⟩ := ht17.slice
  obtain ⟨ad2, cd2, rfl⟩ := hd17.slice
  obtain ⟨n0, n1, -⟩ := (S16.out.o.P.blw hb17).two
  have y17 := (S16.out.o.P.blw hb17).lt
  clear hb17 ho17 ht17 hd17 HO16 S16
  go_wp2_with fail
  rw [← hx17]
  clear hx17 n0 n1 y17
  refine HE17.out.mono ?_
  rintro e w18 ⟨rfl, hb18⟩
  have S18 := Lib.hid (S17.out.below hb18)
  have HI18 := Lib.hid (HEI.out w18 _ _ ((OI.below D17.out hb18).ints.mono fun _ hb => hb.2) S18.out.o.i0)
  clear hb18 HE17 S17 D17
  go_wp2_with fail
  refine HI18.out.mono ?_
  rintro e w19 ⟨rfl, hb19⟩
  have S19 := Lib.hid (S18.out.below hb19)
  obtain ⟨h0, h1, -⟩ := S19.out.H.two
  clear hb19 HI18 S18
  go_wp2_with fail
  refine (HHG.out _ _ _ ((S19.out.g1.rp HFM.out).mono fun _ hb => hb.2) ((S19.out.g2.txts HFK.out).mono fun _ hb => hb.2)).mono ?_
  rintro e w20 ⟨rfl, hb20⟩
  have S20 := Lib.hid (S19.out.below hb20)
  clear hb20 S19 h0 h1
  go_wp2_with fail
  refine (HHI.out _ _ (S20.out.g3.ints.mono fun _ hb => hb.2)).mono ?_
  rintro e w21 ⟨rfl, rfl⟩
  have B20 := Lib.hid S20.out.o.B
  go_wp2
  go_ret
  exact ⟨rfl, B20.out⟩
theorem missed_walk (q : Q) (n : Int) (iv rv : Value) (W : World) (hi : RpIn (· < W.heap.size) W iv q.items) (hr : TxtsIn (· < W.heap.size) W rv q.recent) :
    Calls Try.prog 9 #[qV iv rv, .int .i64 n] W fun e w' => e = .returned (.bool true) ∧ Below W.heap.size W w' := by
  obtain ⟨a1, l1, c1, rfl⟩ := hi.slice
  obtain ⟨a2, l2, c2, rfl⟩ := hr.slice
  by_cases hs : szQ q ≤ 1048576
  · exact missed_in q n a1 l1 c1 a2 l2 c2 W hi hr hs
  · have HSZ := Lib.hid (fun wx hx hy => szQ_any W.heap.size W q _ _ hi hr 1048576 wx hx hy (by omega) (by omega))
    rw [szR_out (by omega)] at HSZ
    have HB1 := Lib.hid ((Below.refl W.heap.size W).alloc (Nat.le_refl _) (lqO (.slice a1 l1 c1) (.slice a2 l2 c2)))
    clear hi hr hs
    go_enter Try.func9, Try.ntmps9
    go_wp2_with fail
    refine (HSZ.out _ HB1.out (by simp)).mono ?_
    rintro e w1 ⟨rfl, hb2⟩
    have B1 := Lib.hid (below_chain HB1.out hb2)
    clear hb2
    go_wp2
    go_ret
    exact ⟨rfl, B1.out⟩
end Go.Proofs.Ytkdmlpclioeniaa.Qu
