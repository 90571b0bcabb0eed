
/-
  The law FnExactOffer, walked, from the contract of the model's l06Offer.
-/
import Derived.Test.YtakiigddbdapaaaQvP
import Derived.Test.YtakiigddbdapaaaQvD
namespace Go.Proofs.Ytakiigddbdapaaa.Qu
open Go.RowKit
open Go.Proofs.Ytakiigddbdapaaa.Tx
theorem O4rp {w : World} {base : Nat} {v : Value} {xs : List Rep} (h : w.ownsRow base 38 4 v xs.length (rpC xs)) (hf : ∀ i, i < xs.length → Fit (xs.getD i default)) : RpIn (· < w.heap.size) w v xs := (O4.rp h hf).mono fun _ hb => hb.2
theorem O1tx {w : World} {base : Nat} {v : Value} {xs : List (List UInt8)} (h : w.ownsRow base 9 1 v xs.length (strV xs)) (hf : ∀ i, i < xs.length → (xs.getD i []).length ≤ 9223372036854775807) : TxtsIn (· < w.heap.size) w v xs := (O1.txts h hf).mono fun _ hb => hb.2
theorem of_sized {q : Q} {r : Rep} (h1 : q.items.length ≤ 1048576) (h2 : q.recent.length ≤ 1048576) (h3 : ∀ i, i < q.items.length → Fit (q.items.getD i default)) (h4 : ∀ i, i < q.recent.length → (q.recent.getD i []).length ≤ 9223372036854775807) (hf : Fit r) : Sized (ofR q r) [] := by
  have hq : Sized q [] := ⟨h3, h4, by omega, by omega, by simp⟩
  unfold ofR
  split
  · exact ⟨fun i hi => by simp at hi, fun i hi => by simp at hi, by simp, by simp, by simp⟩
  · split
    · exact hq
    · split
      · exact hq
      · refine ⟨gdR_of (adR_all (gdR_all h3) hf), gdT_of (P := fun t => t.length ≤ 9223372036854775807) (adT_all (gdT_all (P := fun t => t.length ≤ 9223372036854775807) h4) hf.m), ?_, ?_, by simp⟩
        · show (adR q.items r).length ≤ _
          unfold adR; split <;> simp <;> omega
        · show (adT q.recent r.body).length ≤ _
          unfold adT; split <;> simp <;> omega
set_option maxRecDepth 100000 in
set_option maxHeartbeats 8000000 in
theorem offer_in (q : Q) (r : Rep) (hf : Fit r) (HLO0 : ∀ (B : Nat) (w0 : World) (iv rv : Value), RpIn (· < B) w0 iv q.items → TxtsIn (· < B) w0 rv q.recent → QSm q → ∀ W : World, Below B w0 W → B ≤ W.heap.size → Calls Try.prog 22 #[qV iv rv, rV r] W (NewL W (loR q r) (loB q r) (loE q r))) (a1 : Option Addr) (l1 c1 : Nat) (a2 : Option Addr) (l2 c2 : Nat) (W : World) (hi : RpIn (· < W.heap.size) W (.slice a1 l1 c1) q.items) (hr : TxtsIn (· < W.heap.size) W (.slice a2 l2 c2) q.recent) (hs : szQ q + r.body.length ≤ 1048576) :
    Calls Try.prog 4 #[qV (.slice a1 l1 c1) (.slice a2 l2 c2), rV r] W fun e w' => e = .returned (.bool true) ∧ Below W.heap.size W w' := by
  have hsi : q.items.length ≤ 1048576 := by unfold szQ at hs; omega
  have hsr : q.recent.length ≤ 1048576 := by unfold szQ at hs; omega
  have HSZ := Lib.hid (fun wx hx hy => szQ_any W.heap.size W q _ _ hi hr 1048576 wx hx hy (by omega) (by omega))
  rw [szR_in (by omega)] at HSZ
  have g1 : ¬ (1048576 - (szQ q : Int) < 0) := by omega
  have HSR := Lib.hid (fun W' => szRp_any r (1048576 - (szQ q : Int)) W' (by omega) (by omega) hf.m)
  rw [szR_in (by omega)] at HSR
  have g2 : ¬ (1048576 - (szQ q : Int) - (r.body.length : Int) < 0) := by omega
  generalize 1048576 - (szQ q : Int) - (r.body.length : Int) = z2 at *
  generalize 1048576 - (szQ q : Int) = z at *
  have HTR := Lib.hid (fun W' => toRp_any r W')
  have HTO := Lib.hid (fun wx hx hy => toQ_any W.heap.size W q _ _ hi hr hsi hsr wx hx hy)
  have FI := Lib.hid hi.fit
  have FT := Lib.hid (TxtsIn_lens hr)
  have hsz : Sized (ofR q r) [] := of_sized hsi hsr hi.fit (TxtsIn_lens hr) hf
  obtain ⟨R, hR⟩ : ∃ R, ofR q r = R := ⟨_, rfl⟩
  obtain ⟨b, hbb⟩ : ∃ b, ofB q r = b := ⟨_, rfl⟩
  obtain ⟨E, hE⟩ : ∃ E, ofE q r = E := ⟨_, rfl⟩
  obtain ⟨C, hC⟩ : ∃ C, ofC q r = C := ⟨_, rfl⟩
  have HOS := Lib.hid (fun (W' : World) (v u : Value) (h : RpIn (· < W'.heap.size) W' v q.items) (h2 : TxtsIn (· < W'.heap.size) W' u q.recent) => (hR ▸ hbb ▸ hE ▸ hC ▸ offerS_of q r HLO0 W'.heap.size W' v u h h2 hf W' (Below.refl _ _) (Nat.le_refl _) : Calls Try.prog 9 #[qV v u, rV r] W' (NewF W' R b E C)))
  have HOI := Lib.hid (fun (w0 W' : World) (v u : Value) (h : RpIn (· < w0.heap.size) w0 v q.items) (h2 : TxtsIn (· < w0.heap.size) w0 u q.recent) h3 h4 => (hR ▸ hbb ▸ hE ▸ hC ▸ offerI_any w0.heap.size w0 q r v u h h2 hf W' h3 h4 : Calls Try.prog 12 #[qV v u, rV r] W' (NewF W' R b E C)))
  rw [hR] at hsz
  obtain ⟨hfr, hft, hl1, hl2, -⟩ := hsz
  obtain ⟨D, hD⟩ : ∃ D : List Int, D = [] := ⟨_, rfl⟩
  have HEQ := Lib.hid (fun (q : Q) (w0 : World) (v u v' u' : Value) (h1 : RpIn (· < w0.heap.size) w0 v q.items) (h2 : TxtsIn (· < w0.heap.size) w0 u q.recent) (h3 : RpIn (· < w0.heap.size) w0 v' q.items) (h4 : TxtsIn (· < w0.heap.size) w0 u' q.recent) => eqQ_self w0.heap.size w0 q v u v' u' h1 h2 h3 h4 w0 (Below.refl _ _) (Nat.le_refl _))
  have HMX := Lib.hid (fun (S : Nat → Prop) (base : Nat) (v u : Value) (w : World) (h : O4 w base v q.items) (h2 : O1 w base u q.recent) hS hS2 => markQ_any S base q v u 1 w h h2 hS hS2 (by omega) (by omega))
  have HMG := Lib.hid (fun (base : Nat) (v u : Value) (w : World) (h : O4 w base v R.items) (h2 : O1 w base u R.recent) => markQ_any (fun b => v.ownBlock = some b ∨ u.ownBlock = some b) base R v u 1 w h h2 (fun b e => .inl e) (fun b e => .inr e) (by omega) (by omega))
  have HHG := Lib.hid (fun (v u : Value) (w : World) (h : RpIn (· < w.heap.size) w v (mrp R.items.length 1)) (h2 : TxtsIn (· < w.heap.size) w u (mks R.recent.length (1 + 4 * R.items.length))) => heldQ_any (· < w.heap.size) (· < w.heap.size) v u R.items.length R.recent.length 1 w h h2 (fun _ h => h) (fun _ h => h) (by omega) (by omega))
  have HFM := Lib.hid (mrp_fit R.items.length 1 (by omega))
  have HFK := Lib.hid (mks_fit R.recent.length (1 + 4 * R.items.length) (by omega))
  have HFR := Lib.hid hfr
  have HFT := Lib.hid hft
  have gk : ¬ (((1 + 4 * q.items.length + q.recent.length : Nat) : Int) < 0) := by omega
  have gm : ¬ (((1 + 4 * R.items.length + R.recent.length : Nat) : Int) < 0) := by omega
  have ecc : (C != C) = false := by simp
  have eee : (E != E) = false := by simp
  have ebb : (b != b) = false := by simp
  generalize 1 + 4 * q.items.length + q.recent.length = kx at *
  generalize hkm : 1 + 4 * R.items.length = km0 at *
  generalize km0 + R.recent.length = km at *
  clear hkm
  obtain ⟨x0, hx0⟩ : ∃ x0, x0 = (W.alloc (lqO (.slice a1 l1 c1) (.slice a2 l2 c2))).alloc (.cells (rC r) 29) := ⟨_, rfl⟩
  have A0 := Lib.hid (show Hd x0 W.heap.size (lqO (.slice a1 l1 c1) (.slice a2 l2 c2)) from hx0 ▸ (Hd.new W _).al _)
  have AR0 := Lib.hid (show Hd x0 (W.heap.size + 1) (.cells (rC r) 29) from by
    have := Hd.new (W.alloc (lqO (.slice a1 l1 c1) (.slice a2 l2 c2))) (.cells (rC r) 29)
    rw [hx0]; simpa using this)
  have B0 := Lib.hid (show Below W.heap.size W x0 from hx0 ▸ ((Below.refl W.heap.size W).alloc (Nat.le_refl _) _).alloc (by simp) _)
  clear hR hbb hE hC hD hs hi hr hsi hsr hfr hft hl1 hl2 hf HLO0
  go_enter Try.func4, Try.ntmps4
  go_wp2_with fail
  rw [← hx0]
  clear hx0
  refine (HSZ.out _ B0.out B0.out.size).mono ?_
  rintro e w1 ⟨rfl, hb1⟩
  have A1 := Lib.hid (A0.out.blw hb1)
  have AR1 := Lib.hid (AR0.out.blw hb1)
  have B1 := Lib.hid (below_chain B0.out hb1)
  obtain ⟨s0, s1, s2, s3, -⟩ := AR1.out.four
  clear hb1 A0 B0 AR0
  go_wp2_with fail
  refine (HSR.out w1).mono ?_
  rintro e w2 ⟨rfl, hb2⟩
  have A2 := Lib.hid (A1.out.blw hb2)
  have AR2 := Lib.hid (AR1.out.blw hb2)
  have B2 := Lib.hid (below_chain B1.out hb2)
  have HALL := Lib.hid (fun wx (hg : Below w2.heap.size w2 wx) => And.intro (A2.out.blw hg).two.1 (And.intro (A2.out.blw hg).two.2.1 (And.intro (AR2.out.blw hg).four.1 (And.intro (AR2.out.blw hg).four.2.1 (And.intro (AR2.out.blw hg).four.2.2.1 (And.intro (AR2.out.blw hg).four.2.2.2.1 (And.intro hg hg.size)))))))
  clear hb2 s0 s1 s2 s3 A1 AR1 B1
  go_wp2_with fail
  go_cut [6, 7, 8, 9] (fun s6 s7 s8 s9 wx => ∃ n a3 c3 a5 c5, s6 = .pointer (some ⟨n, 0, none⟩) ∧ s7 = .bool b ∧ s8 = .int .i64 E ∧ s9 = .int .i64 C ∧ Mid W w2 R n a3 c3 a5 c5 wx)
  case first =>
    go_region_held3 (fun wx => wx.cell? ⟨W.heap.size, 0, none⟩ = some (.slice a1 l1 c1) ∧ wx.cell? ⟨W.heap.size, 1, none⟩ = some (.slice a2 l2 c2) ∧ wx.cell? ⟨W.heap.size + 1, 0, none⟩ = some (.int .i64 r.id) ∧ wx.cell? ⟨W.heap.size + 1, 1, none⟩ = some (.int .i64 r.born) ∧ wx.cell? ⟨W.heap.size + 1, 2, none⟩ = some (.int .i64 r.tries) ∧ wx.cell? ⟨W.heap.size + 1, 3, none⟩ = some (.string ⟨r.body.toArray⟩) ∧ Below w2.heap.size w2 wx ∧ w2.heap.size ≤ wx.heap.size)
      (first
          | exact HALL.out _ (Below.drew (Below.refl _ _))
          | (go_split_ands; exact HALL.out _ (belI_step (by assumption) hbQ))
          | (go_split_ands; exact HALL.out _ (belI_step (by assumption) hbR))
          | (go_split_ands; exact HALL.out _ (belI_step (by assumption) hbF))
          | (go_split_ands; exact HALL.out _ (belI_alloc (by assumption)))
          | (go_split_ands; exact HALL.out _ (belI_alloc (belI_step (by assumption) hbQ)))
          | (go_split_ands; exact HALL.out _ (belI_alloc (belI_step (by assumption) hbR)))
          | (go_split_ands; exact HALL.out _ (belI_alloc (belI_step (by assumption) hbF)))
          | (go_split_ands; exact HALL.out _ (Below.setCell (Below.setCell (by assumption) (by first | omega | (simp <;> omega)) _) (by first | omega | (simp <;> omega)) _))
          | (go_split_ands; exact HALL.out _ (Below.setCell (Below.setCell (belI_step (by assumption) hbQ) (by first | omega | (simp <;> omega)) _) (by first | omega | (simp <;> omega)) _))
          | (go_split_ands; exact HALL.out _ (Below.setCell (Below.setCell (belI_step (by assumption) hbR) (by first | omega | (simp <;> omega)) _) (by first | omega | (simp <;> omega)) _))
          | (go_split_ands; exact HALL.out _ (Below.setCell (Below.setCell (belI_step (by assumption) hbF) (by first | omega | (simp <;> omega)) _) (by first | omega | (simp <;> omega)) _)))
      (first
        | (go_split_ands; go_at_call 10; refine (HTO.out _ (below_chain B2.out (by assumption)) (Nat.le_trans B2.out.size (by assumption))).mono ?_; have hzq : w2.heap.size ≤ _ := Below.size (by assumption); rintro e wq ⟨va, ua, rfl, hja, hka, hbQ⟩; obtain ⟨aa, ca, rfl⟩ := hja.slice; obtain ⟨ab, cb, rfl⟩ := hka.slice
           have hja := O4.base hja hzq
           have hka := O1.base hka hzq
           have hyq : w2.heap.size ≤ wq.heap.size := Nat.le_trans hzq hbQ.size
           first
            | (have kN := Hd.blw kN hbQ; obtain ⟨kc0, kc1, kcf⟩ := kN.two)
            | (have kN : Hd _ w2.heap.size zqO := Hd.blw (Hd.new w2.drew zqO) hbQ; obtain ⟨kc0, kc1, kcf⟩ := kN.two)
            | (have kN := Hd.blw (Hd.new _ zqO) hbQ; obtain ⟨kc0, kc1, kcf⟩ := kN.two)
            | skip)
        | (go_split_ands; go_at_call 11; refine (HTR.out _).mono ?_; have hzr : w2.heap.size ≤ _ := Below.size (by assumption); rintro e wr ⟨rfl, hbR⟩
           have hyr : w2.heap.size ≤ wr.heap.size := Nat.le_trans hzr hbR.size
           first
            | (have kN := Hd.blw kN hbR; obtain ⟨kc0, kc1, kcf⟩ := kN.two)
            | (have kN : Hd _ w2.heap.size zqO := Hd.blw (Hd.new w2.drew zqO) hbR; obtain ⟨kc0, kc1, kcf⟩ := kN.two)
            | (have kN := Hd.blw (Hd.new _ zqO) hbR; obtain ⟨kc0, kc1, kcf⟩ := kN.two)
            | skip
           first
            | (have hja := own_blw hja hbR)
            | (have hja := own_blw (own_al hja zqO) hbR)
            | skip
           first
            | (have hka := own_blw hka hbR)
            | (have hka := own_blw (own_al hka zqO) hbR)
            | skip
           skip)
        | (go_split_ands; go_at_call 9
           have hzf : w2.heap.size ≤ _ := Below.size (by assumption)
           first
            | (refine (HOS.out _ _ _ (O4rp hja FI.out) (O1tx hka FT.out)).mono ?_)
            | (refine (HOS.out _ _ _ (O4rp (own_al hja zqO) FI.out) (O1tx (own_al hka zqO) FT.out)).mono ?_)
           rintro e wf ⟨pi, pr, rfl, ho3, ho5, hbF⟩; obtain ⟨a3, c3, rfl⟩ := ho3.slice; obtain ⟨a5, c5, rfl⟩ := ho5.slice
           have ho3 := O4.base ho3 hzf
           have ho5 := O1.base ho5 hzf
           have hBF := belI_step (w := w2) (by assumption) hbF
           have hyf : w2.heap.size ≤ wf.heap.size := hBF.size
           first
            | (have kN := Hd.blw kN hbF; obtain ⟨kc0, kc1, kcf⟩ := kN.two)
            | (have kN : Hd _ w2.heap.size zqO := Hd.blw (Hd.new w2.drew zqO) hbF; obtain ⟨kc0, kc1, kcf⟩ := kN.two)
            | (have kN := Hd.blw (Hd.new _ zqO) hbF; obtain ⟨kc0, kc1, kcf⟩ := kN.two)
            | skip
           skip))
    all_goals
      go_split_ands
      go_wp2_with fail
      go_meet
    all_goals first
      | exact ⟨_, _, _, _, _, rfl, rfl, rfl, rfl, mid1 ho3 ho5 hBF⟩
      | exact ⟨_, _, _, _, _, rfl, rfl, rfl, rfl, mid2 kN ho3 ho5 hBF (by omega)⟩
  case rest =>
  obtain ⟨yn, ya, yc, yd, ye, rfl, rfl, rfl, rfl, yM⟩ := hcut
  generalize wc = x3 at *
  have A3 := A2.out.blw yM.b
  have AR3 := Lib.hid (AR2.out.blw yM.b)
  have T3 := Lib.hid (show St0 W (.slice a1 l1 c1) (.slice a2 l2 c2) x3.heap.size yn (iqO (.slice ya R.items.length yc) (.slice yd R.recent.length ye)) (.slice ya R.items.length yc) (.slice yd R.recent.length ye) (.slice none 0 0) R [] x3 from
    ⟨A3, below_chain B2.out yM.b, yM.H, O4rp yM.o4 HFR.out, O1tx yM.o1 HFT.out, (OI.nil x3 0).ints.mono fun _ hb => hb.2, A3.lt, yM.H.lt, Nat.le_refl _⟩)
  obtain ⟨m0, m1, -⟩ := A3.two
  have z3 := T3.out.zA
  have y3 := T3.out.zP
  have ar3 := AR3.out.lt
  clear A3 yM HALL HOS A2 AR2 B2
  go_wp2_with fail
  refine (HTO.out x3 T3.out.B (by omega)).mono ?_
  rintro e w4 ⟨vb, ub, rfl, hjb, hkb, hb4⟩
  obtain ⟨a4, c4, rfl⟩ := hjb.slice
  obtain ⟨a5, c5, rfl⟩ := hkb.slice
  obtain ⟨x4, hx4⟩ : ∃ x4, x4 = w4.alloc (iqO (.slice a4 q.items.length c4) (.slice a5 q.recent.length c5)) := ⟨_, rfl⟩
  have A45 := Lib.hid (show Below w4.heap.size w4 x4 from hx4 ▸ (Below.refl w4.heap.size w4).alloc (Nat.le_refl _) _)
  have T4 := Lib.hid ((T3.out.below hb4).below A45.out)
  have AR4 := Lib.hid ((AR3.out.blw hb4).blw A45.out)
  have XI := Lib.hid (show O4 x4 x3.heap.size _ _ from hjb.below A45.out)
  have XR := Lib.hid (show O1 x4 x3.heap.size _ _ from hkb.below A45.out)
  have HJB := Lib.hid ((hjb.rp FI.out).mono (S' := (· < w4.heap.size)) fun _ hb => hb.2)
  have HKB := Lib.hid ((hkb.txts FT.out).mono (S' := (· < w4.heap.size)) fun _ hb => hb.2)
  have X4 := Lib.hid (show Hd x4 w4.heap.size (iqO (.slice a4 q.items.length c4) (.slice a5 q.recent.length c5)) from hx4 ▸ Hd.new _ _)
  have s34 : x3.heap.size ≤ w4.heap.size := hb4.size
  have s44 : w4.heap.size ≤ x4.heap.size := A45.out.size
  have HALL := Lib.hid (fun wx (hg : Below x4.heap.size x4 wx) => And.intro (X4.out.blw hg).two.1 (And.intro (X4.out.blw hg).two.2.1 (And.intro (AR4.out.blw hg).four.1 (And.intro (AR4.out.blw hg).four.2.1 (And.intro (AR4.out.blw hg).four.2.2.1 (And.intro (AR4.out.blw hg).four.2.2.2.1 (And.intro hg hg.size)))))))
  clear hb4 hjb hkb m0 m1 T3 AR3
  go_wp2_with fail
  rw [← hx4]
  clear hx4
  go_cut [11, 12, 13, 14] (fun s6 s7 s8 s9 wx => ∃ n a3 c3 a5 c5, s6 = .pointer (some ⟨n, 0, none⟩) ∧ s7 = .bool b ∧ s8 = .int .i64 E ∧ s9 = .int .i64 C ∧ Mid W x4 R n a3 c3 a5 c5 wx)
  case first =>
    go_region_held3 (fun wx => wx.cell? ⟨w4.heap.size, 0, none⟩ = some (.slice a4 q.items.length c4) ∧ wx.cell? ⟨w4.heap.size, 1, none⟩ = some (.slice a5 q.recent.length c5) ∧ wx.cell? ⟨W.heap.size + 1, 0, none⟩ = some (.int .i64 r.id) ∧ wx.cell? ⟨W.heap.size + 1, 1, none⟩ = some (.int .i64 r.born) ∧ wx.cell? ⟨W.heap.size + 1, 2, none⟩ = some (.int .i64 r.tries) ∧ wx.cell? ⟨W.heap.size + 1, 3, none⟩ = some (.string ⟨r.body.toArray⟩) ∧ Below x4.heap.size x4 wx ∧ x4.heap.size ≤ wx.heap.size)
      (first
          | exact HALL.out _ (Below.drew (Below.refl _ _))
          | (go_split_ands; exact HALL.out _ (belI_step (by assumption) hbR))
          | (go_split_ands; exact HALL.out _ (belI_step (by assumption) hbF))
          | (go_split_ands; exact HALL.out _ (belI_alloc (by assumption)))
          | (go_split_ands; exact HALL.out _ (belI_alloc (belI_step (by assumption) hbR)))
          | (go_split_ands; exact HALL.out _ (belI_alloc (belI_step (by assumption) hbF)))
          | (go_split_ands; exact HALL.out _ (Below.setCell (Below.setCell (by assumption) (by first | omega | (simp <;> omega)) _) (by first | omega | (simp <;> omega)) _))
          | (go_split_ands; exact HALL.out _ (Below.setCell (Below.setCell (belI_step (by assumption) hbR) (by first | omega | (simp <;> omega)) _) (by first | omega | (simp <;> omega)) _))
          | (go_split_ands; exact HALL.out _ (Below.setCell (Below.setCell (belI_step (by assumption) hbF) (by first | omega | (simp <;> omega)) _) (by first | omega | (simp <;> omega)) _)))
      (first
        | (go_split_ands; go_at_call 11; refine (HTR.out _).mono ?_; have hzr : x4.heap.size ≤ _ := Below.size (by assumption); rintro e wr ⟨rfl, hbR⟩
           have hyr : x4.heap.size ≤ wr.heap.size := Nat.le_trans hzr hbR.size
           first
            | (have kN := Hd.blw kN hbR; obtain ⟨kc0, kc1, kcf⟩ := kN.two)
            | (have kN : Hd _ x4.heap.size zqO := Hd.blw (Hd.new x4.drew zqO) hbR; obtain ⟨kc0, kc1, kcf⟩ := kN.two)
            | (have kN := Hd.blw (Hd.new _ zqO) hbR; obtain ⟨kc0, kc1, kcf⟩ := kN.two)
            | skip
           skip)
        | (go_split_ands; go_at_call 12
           have hzf : x4.heap.size ≤ _ := Below.size (by assumption)
           first
            | (refine (HOI.out w4 _ _ _ HJB.out HKB.out (below_chain A45.out (by assumption)) (Nat.le_trans A45.out.size (by assumption))).mono ?_)
            | (refine (HOI.out w4 _ _ _ HJB.out HKB.out (below_chain A45.out (by assumption)) (Nat.le_trans A45.out.size (by assumption))).mono ?_)
           rintro e wf ⟨pi, pr, rfl, ho3, ho5, hbF⟩; obtain ⟨a3, c3, rfl⟩ := ho3.slice; obtain ⟨a5, c5, rfl⟩ := ho5.slice
           have ho3 := O4.base ho3 hzf
           have ho5 := O1.base ho5 hzf
           have hBF := belI_step (w := x4) (by assumption) hbF
           have hyf : x4.heap.size ≤ wf.heap.size := hBF.size
           first
            | (have kN := Hd.blw kN hbF; obtain ⟨kc0, kc1, kcf⟩ := kN.two)
            | (have kN : Hd _ x4.heap.size zqO := Hd.blw (Hd.new x4.drew zqO) hbF; obtain ⟨kc0, kc1, kcf⟩ := kN.two)
            | (have kN := Hd.blw (Hd.new _ zqO) hbF; obtain ⟨kc0, kc1, kcf⟩ := kN.two)
            | skip
           skip))
    all_goals
      go_split_ands
      go_wp2_with fail
      go_meet
    all_goals first
      | exact ⟨_, _, _, _, _, rfl, rfl, rfl, rfl, mid1 ho3 ho5 hBF⟩
      | exact ⟨_, _, _, _, _, rfl, rfl, rfl, rfl, mid2 kN ho3 ho5 hBF (by omega)⟩
  case rest =>
  obtain ⟨xn, xa, xc, xd, xe, rfl, rfl, rfl, rfl, xM⟩ := hcut
  generalize wc = x5 at *
  have S5 := Lib.hid (show St W (.slice a1 l1 c1) (.slice a2 l2 c2) x3.heap.size yn (iqO (.slice ya R.items.length yc) (.slice yd R.recent.length ye)) (.slice ya R.items.length yc) (.slice yd R.recent.length ye) (.slice none 0 0) R [] x4.heap.size xn (iqO (.slice xa R.items.length xc) (.slice xd R.recent.length xe)) (.slice xa R.items.length xc) (.slice xd R.recent.length xe) (.slice none 0 0) R [] x5 from
    ⟨T4.out.below xM.b, by omega, xM.b.size, xM.o4, xM.o1, OI.nil _ _, xM.H, (fun b e x => own_hd xM.o4 xM.H (by decide) (by rw [e, x])), (fun b e x => own_hd xM.o1 xM.H (by decide) (by rw [e, x])), (fun b e => by cases e)⟩)
  have AR5 := Lib.hid (AR4.out.blw xM.b)
  have X5 := Lib.hid (X4.out.blw xM.b)
  have B45 := Lib.hid xM.b
  have hgn := xM.n
  have HE5 := Lib.hid (HEQ.out R x5 _ _ _ _ (O4rp S5.out.g1 HFR.out) (O1tx S5.out.g2 HFT.out) S5.out.o.r0 S5.out.o.t0)
  obtain ⟨h0, h1, -⟩ := S5.out.H.two
  obtain ⟨n0, n1, -⟩ := S5.out.o.P.two
  clear HALL xM AR4 X4 T4
  go_wp2_with fail
  refine HE5.out.mono ?_
  rintro e w7 ⟨rfl, hb7⟩
  have S7 := Lib.hid (S5.out.below hb7)
  have AR7 := Lib.hid (AR5.out.blw hb7)
  have X7 := Lib.hid (X5.out.blw hb7)
  have B47 := Lib.hid (below_chain B45.out hb7)
  obtain ⟨m00, m01, -⟩ := S7.out.o.A.two
  obtain ⟨p00, p01, -⟩ := X7.out.two
  have z7 := S7.out.o.A.lt
  have y7 := X7.out.lt
  have hRR : Below w7.heap.size w7 w7 := Below.refl _ _
  clear hb7 HE5 S5 X5 B45 AR5 h0 h1 n0 n1
  go_wp2_with fail
  go_region_held3 (fun wx => wx.cell? ⟨W.heap.size, 0, none⟩ = some (.slice a1 l1 c1) ∧ wx.cell? ⟨W.heap.size, 1, none⟩ = some (.slice a2 l2 c2) ∧
      wx.cell? ⟨w4.heap.size, 0, none⟩ = some (.slice a4 q.items.length c4) ∧ wx.cell? ⟨w4.heap.size, 1, none⟩ = some (.slice a5 q.recent.length c5) ∧
      W.heap.size < wx.heap.size ∧ w4.heap.size < wx.heap.size ∧ Below w7.heap.size w7 wx)
    (first
      | (simp [*, Below.drew]; done)
      | (go_split_ands
         refine ⟨?_, ?_, ?_, ?_, Nat.lt_of_lt_of_le (by assumption) hb.size, Nat.lt_of_lt_of_le (by assumption) hb.size, belI_step (by assumption) hb⟩
         · (rw [hb.cell (p := ⟨W.heap.size, 0, none⟩) (by assumption)]; assumption)
         · (rw [hb.cell (p := ⟨W.heap.size, 1, none⟩) (by assumption)]; assumption)
         · (rw [hb.cell (p := ⟨w4.heap.size, 0, none⟩) (by assumption)]; assumption)
         · (rw [hb.cell (p := ⟨w4.heap.size, 1, none⟩) (by assumption)]; assumption)))
    (first
      | (go_split_ands; go_at_call 10; refine (HTO.out _ (below_chain S7.out.o.B (by assumption)) (Nat.le_of_lt (by assumption))).mono ?_; rintro e wn ⟨vc, uc, rfl, hjc, hkc, hb⟩)
      | (go_split_ands; go_at_call 13; refine (HEQ.out q _ _ _ vc uc (RpIn.later (O4rp XI.out FI.out) (fun _ hb => hb) (below_chain B47.out (by assumption))) (TxtsIn.later (O1tx XR.out FT.out) (fun _ hb => hb) (below_chain B47.out (by assumption))) ((hjc.rp FI.out).mono fun _ hb => hb.2) ((hkc.txts FT.out).mono fun _ hb => hb.2)).mono ?_; rintro e wn ⟨rfl, hb⟩))
  go_split_ands
  rename_i hfin
  have S8 := Lib.hid (S7.out.below hfin)
  have AR8 := Lib.hid (AR7.out.blw hfin)
  have B48 := Lib.hid (below_chain B47.out hfin)
  have HM8 := Lib.hid (HMX.out (fun b => x3.heap.size ≤ b ∧ b < x4.heap.size) _ _ _ _ (XI.out.below B48.out) (XR.out.below B48.out)
    (fun b e => ⟨(World.ownsRow.lt XI.out b e).1, (World.ownsRow.lt XI.out b e).2⟩) (fun b e => ⟨(World.ownsRow.lt XR.out b e).1, (World.ownsRow.lt XR.out b e).2⟩))
  clear hfin hRR S7 B47 X7 z7 y7 AR7
  go_wp2_with fail
  refine HM8.out.mono ?_
  rintro e w9 ⟨rfl, -, -, hm9⟩
  have S9 := Lib.hid (S8.out.markX hm9 (fun b h => h) (.inl hgn))
  have AR9 := Lib.hid (hm9.hd AR8.out (by omega))
  have HE9 := Lib.hid (HEQ.out R w9 _ _ _ _ (O4rp S9.out.g1 HFR.out) (O1tx S9.out.g2 HFT.out) S9.out.o.r0 S9.out.o.t0)
  obtain ⟨h0, h1, -⟩ := S9.out.H.two
  obtain ⟨n0, n1, -⟩ := S9.out.o.P.two
  clear hm9 HM8 S8 B48 XI XR HJB HKB m00 m01 p00 p01 AR8
  go_wp2_with fail
  refine HE9.out.mono ?_
  rintro e w11 ⟨rfl, hb11⟩
  have S11 := Lib.hid (S9.out.below hb11)
  have AR11 := Lib.hid (AR9.out.blw hb11)
  clear h0 h1 n0 n1
  obtain ⟨h0, h1, -⟩ := S11.out.H.two
  clear hb11 HE9 S9 AR9
  go_wp2_with fail
  refine (HMG.out _ _ _ _ S11.out.g1 S11.out.g2).mono ?_
  rintro e w13 ⟨rfl, k1, k2, hm12⟩
  have S13 := Lib.hid (S11.out.markQ (G' := ⟨mrp R.items.length 1, mks R.recent.length km0⟩) hm12 k1 k2)
  have AR13 := Lib.hid (hm12.hd AR11.out (fun x => by have g1 := S11.out.g1; have g2 := S11.out.g2; rcases x with x | x; · have := (World.ownsRow.lt g1 _ x).1; omega
                                                      · have := (World.ownsRow.lt g2 _ x).1; omega))
  clear k1 k2 hm12 S11 h0 h1 AR11
  obtain ⟨h0, h1, -⟩ := S13.out.H.two
  go_wp2_with fail
  refine (HHG.out _ _ _ (O4rp S13.out.g1 HFM.out) (O1tx S13.out.g2 HFK.out)).mono ?_
  rintro e w14 ⟨rfl, hb14⟩
  have S14 := Lib.hid (S13.out.below hb14)
  have A14 := Lib.hid S14.out.o.A
  have AR14 := Lib.hid (AR13.out.blw hb14)
  have B14 := Lib.hid S14.out.o.B
  have HALL := Lib.hid (fun wx (hg : Below w14.heap.size w14 wx) => And.intro (A14.out.blw hg).two.1 (And.intro (A14.out.blw hg).two.2.1 (And.intro (AR14.out.blw hg).four.1 (And.intro (AR14.out.blw hg).four.2.1 (And.intro (AR14.out.blw hg).four.2.2.1 (And.intro (AR14.out.blw hg).four.2.2.2.1 (And.intro hg hg.size)))))))
  clear hb14 S13 h0 h1 AR13
  go_wp2_with fail
  go_cut [18, 19, 20, 21] (fun s6 s7 s8 s9 wx => ∃ n a3 c3 a5 c5, s6 = .pointer (some ⟨n, 0, none⟩) ∧ s7 = .bool b ∧ s8 = .int .i64 E ∧ s9 = .int .i64 C ∧ Mid W w14 R n a3 c3 a5 c5 wx)
  case first =>
    go_region_held3 (fun wx => wx.cell? ⟨W.heap.size, 0, none⟩ = some (.slice a1 l1 c1) ∧ wx.cell? ⟨W.heap.size, 1, none⟩ = some (.slice a2 l2 c2) ∧ wx.cell? ⟨W.heap.size + 1, 0, none⟩ = some (.int .i64 r.id) ∧ wx.cell? ⟨W.heap.size + 1, 1, none⟩ = some (.int .i64 r.born) ∧ wx.cell? ⟨W.heap.size + 1, 2, none⟩ = some (.int .i64 r.tries) ∧ wx.cell? ⟨W.heap.size + 1, 3, none⟩ = some (.string ⟨r.body.toArray⟩) ∧ Below w14.heap.size w14 wx ∧ w14.heap.size ≤ wx.heap.size)
      (first
          | exact HALL.out _ (Below.drew (Below.refl _ _))
          | (go_split_ands; exact HALL.out _ (belI_step (by assumption) hbQ))
          | (go_split_ands; exact HALL.out _ (belI_step (by assumption) hbR))
          | (go_split_ands; exact HALL.out _ (belI_step (by assumption) hbF))
          | (go_split_ands; exact HALL.out _ (belI_alloc (by assumption)))
          | (go_split_ands; exact HALL.out _ (belI_alloc (belI_step (by assumption) hbQ)))
          | (go_split_ands; exact HALL.out _ (belI_alloc (belI_step (by assumption) hbR)))
          | (go_split_ands; exact HALL.out _ (belI_alloc (belI_step (by assumption) hbF)))
          | (go_split_ands; exact HALL.out _ (Below.setCell (Below.setCell (by assumption) (by first | omega | (simp <;> omega)) _) (by first | omega | (simp <;> omega)) _))
          | (go_split_ands; exact HALL.out _ (Below.setCell (Below.setCell (belI_step (by assumption) hbQ) (by first | omega | (simp <;> omega)) _) (by first | omega | (simp <;> omega)) _))
          | (go_split_ands; exact HALL.out _ (Below.setCell (Below.setCell (belI_step (by assumption) hbR) (by first | omega | (simp <;> omega)) _) (by first | omega | (simp <;> omega)) _))
          | (go_split_ands; exact HALL.out _ (Below.setCell (Below.setCell (belI_step (by assumption) hbF) (by first | omega | (simp <;> omega)) _) (by first | omega | (simp <;> omega)) _)))
      (first
        | (go_split_ands; go_at_call 10; refine (HTO.out _ (below_chain B14.out (by assumption)) (Nat.le_trans B14.out.size (by assumption))).mono ?_; have hzq : w14.heap.size ≤ _ := Below.size (by assumption); rintro e wq ⟨va, ua, rfl, hja, hka, hbQ⟩; obtain ⟨aa, ca, rfl⟩ := hja.slice; obtain ⟨ab, cb, rfl⟩ := hka.slice
           have hja := O4.base hja hzq
           have hka := O1.base hka hzq
           have hyq : w14.heap.size ≤ wq.heap.size := Nat.le_trans hzq hbQ.size
           first
            | (have kN := Hd.blw kN hbQ; obtain ⟨kc0, kc1, kcf⟩ := kN.two)
            | (have kN : Hd _ w14.heap.size zqO := Hd.blw (Hd.new w14.drew zqO) hbQ; obtain ⟨kc0, kc1, kcf⟩ := kN.two)
            | (have kN := Hd.blw (Hd.new _ zqO) hbQ; obtain ⟨kc0, kc1, kcf⟩ := kN.two)
            | skip)
        | (go_split_ands; go_at_call 11; refine (HTR.out _).mono ?_; have hzr : w14.heap.size ≤ _ := Below.size (by assumption); rintro e wr ⟨rfl, hbR⟩
           have hyr : w14.heap.size ≤ wr.heap.size := Nat.le_trans hzr hbR.size
           first
            | (have kN := Hd.blw kN hbR; obtain ⟨kc0, kc1, kcf⟩ := kN.two)
            | (have kN : Hd _ w14.heap.size zqO := Hd.blw (Hd.new w14.drew zqO) hbR; obtain ⟨kc0, kc1, kcf⟩ := kN.two)
            | (have kN := Hd.blw (Hd.new _ zqO) hbR; obtain ⟨kc0, kc1, kcf⟩ := kN.two)
            | skip
           first
            | (have hja := own_blw hja hbR)
            | (have hja := own_blw (own_al hja zqO) hbR)
            | skip
           first
            | (have hka := own_blw hka hbR)
            | (have hka := own_blw (own_al hka zqO) hbR)
            | skip
           skip)
        | (go_split_ands; go_at_call 12
           have hzf : w14.heap.size ≤ _ := Below.size (by assumption)
           first
            | (refine (HOI.out _ _ _ _ (O4rp hja FI.out) (O1tx hka FT.out) (Below.refl _ _) (Nat.le_refl _)).mono ?_)
            | (refine (HOI.out _ _ _ _ (O4rp (own_al hja zqO) FI.out) (O1tx (own_al hka zqO) FT.out) (Below.refl _ _) (Nat.le_refl _)).mono ?_)
           rintro e wf ⟨pi, pr, rfl, ho3, ho5, hbF⟩; obtain ⟨a3, c3, rfl⟩ := ho3.slice; obtain ⟨a5, c5, rfl⟩ := ho5.slice
           have ho3 := O4.base ho3 hzf
           have ho5 := O1.base ho5 hzf
           have hBF := belI_step (w := w14) (by assumption) hbF
           have hyf : w14.heap.size ≤ wf.heap.size := hBF.size
           first
            | (have kN := Hd.blw kN hbF; obtain ⟨kc0, kc1, kcf⟩ := kN.two)
            | (have kN : Hd _ w14.heap.size zqO := Hd.blw (Hd.new w14.drew zqO) hbF; obtain ⟨kc0, kc1, kcf⟩ := kN.two)
            | (have kN := Hd.blw (Hd.new _ zqO) hbF; obtain ⟨kc0, kc1, kcf⟩ := kN.two)
            | skip
           skip))
    all_goals
      go_split_ands
      go_wp2_with fail
      go_meet
    all_goals first
      | exact ⟨_, _, _, _, _, rfl, rfl, rfl, rfl, mid1 ho3 ho5 hBF⟩
      | exact ⟨_, _, _, _, _, rfl, rfl, rfl, rfl, mid2 kN ho3 ho5 hBF (by omega)⟩
  case rest =>
  obtain ⟨tn, ta, tc, td, te, rfl, rfl, rfl, rfl, tM⟩ := hcut
  generalize wc = x17 at *
  have S17 := Lib.hid (S14.out.below tM.b)
  have HE17 := Lib.hid (HEQ.out R x17 _ _ _ _ (O4rp tM.o4 HFR.out) (O1tx tM.o1 HFT.out) S17.out.o.r0 S17.out.o.t0)
  obtain ⟨h0, h1, -⟩ := tM.H.two
  obtain ⟨n0, n1, -⟩ := S17.out.o.P.two
  clear HALL tM S14 A14 AR14 B14
  go_wp2_with fail
  refine HE17.out.mono ?_
  rintro e w19 ⟨rfl, hb19⟩
  have S19 := Lib.hid (S17.out.below hb19)
  clear h0 h1 n0 n1
  obtain ⟨h0, h1, -⟩ := S19.out.H.two
  clear hb19 HE17 S17
  go_wp2_with fail
  refine (HHG.out _ _ _ (O4rp S19.out.g1 HFM.out) (O1tx S19.out.g2 HFK.out)).mono ?_
  rintro e w20 ⟨rfl, hb20⟩
  have B20 := Lib.hid (below_chain S19.out.o.B hb20)
  clear hb20 S19 h0 h1
  go_wp2
  go_ret
  exact ⟨rfl, B20.out⟩
theorem offer_walk (q : Q) (r : Rep) (hf : Fit r) (HLO0 : ∀ (B : Nat) (w0 : World) (iv rv : Value), RpIn (· < B) w0 iv q.items → TxtsIn (· < B) w0 rv q.recent → QSm q → ∀ W : World, Below B w0 W → B ≤ W.heap.size → Calls Try.prog 22 #[qV iv rv, rV r] W (NewL W (loR q r) (loB q r) (loE q r))) (iv rv : Value) (W : World) (hi : RpIn (· < W.heap.size) W iv q.items) (hr : TxtsIn (· < W.heap.size) W rv q.recent) :
    Calls Try.prog 4 #[qV iv rv, rV r] W fun e w' => e = .returned (.bool true) ∧ Below W.heap.size W w' := by
  obtain ⟨a1, l1, c1, rfl⟩ := hi.slice
  obtain ⟨a2, l2, c2, rfl⟩ := hr.slice
  by_cases hs : szQ q + r.body.length ≤ 1048576
  · exact offer_in q r hf HLO0 a1 l1 c1 a2 l2 c2 W hi hr hs
  · have HSZ := Lib.hid (fun wx hx hy => szQ_any W.heap.size W q _ _ hi hr 1048576 wx hx hy (by omega) (by omega))
    obtain ⟨x0, hx0⟩ : ∃ x0, x0 = (W.alloc (lqO (.slice a1 l1 c1) (.slice a2 l2 c2))).alloc (.cells (rC r) 29) := ⟨_, rfl⟩
    have AR0 := Lib.hid (show Hd x0 (W.heap.size + 1) (.cells (rC r) 29) from by
      have := Hd.new (W.alloc (lqO (.slice a1 l1 c1) (.slice a2 l2 c2))) (.cells (rC r) 29)
      rw [hx0]; simpa using this)
    have B0 := Lib.hid (show Below W.heap.size W x0 from hx0 ▸ ((Below.refl W.heap.size W).alloc (Nat.le_refl _) _).alloc (by simp) _)
    by_cases h1 : szQ q ≤ 1048576
    · rw [szR_in (by omega)] at HSZ
      have HSR := Lib.hid (fun W' => szRp_any r (1048576 - (szQ q : Int)) W' (by omega) (by omega) hf.m)
      rw [szR_out (by omega)] at HSR
      have g1 : ¬ (1048576 - (szQ q : Int) < 0) := by omega
      generalize 1048576 - (szQ q : Int) = z at *
      clear hi hr hs h1 HLO0
      go_enter Try.func4, Try.ntmps4
      go_wp2_with fail
      rw [← hx0]
      clear hx0
      refine (HSZ.out _ B0.out B0.out.size).mono ?_
      rintro e w1 ⟨rfl, hb1⟩
      obtain ⟨s0, s1, s2, s3, -⟩ := (AR0.out.blw hb1).four
      have B1 := Lib.hid (below_chain B0.out hb1)
      clear hb1
      go_wp2_with fail
      refine (HSR.out w1).mono ?_
      rintro e w2 ⟨rfl, hb2⟩
      have B2 := Lib.hid (below_chain B1.out hb2)
      clear hb2
      go_wp2
      go_ret
      exact ⟨rfl, B2.out⟩
    · rw [szR_out (by omega)] at HSZ
      clear hi hr hs h1 HLO0
      go_enter Try.func4, Try.ntmps4
      go_wp2_with fail
      rw [← hx0]
      clear hx0
      refine (HSZ.out _ B0.out B0.out.size).mono ?_
      rintro e w1 ⟨rfl, hb1⟩
      have B1 := Lib.hid (below_chain B0.out hb1)
      clear hb1
      go_wp2
      go_ret
      exact ⟨rfl, B1.out⟩
end Go.Proofs.Ytakiigddbdapaaa.Qu
