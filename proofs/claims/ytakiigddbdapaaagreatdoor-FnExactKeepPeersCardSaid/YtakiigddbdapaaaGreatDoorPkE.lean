
/-
  The law FnExactKeepPeers, walked.
-/
import Derived.Test.YtakiigddbdapaaaGreatDoorPkD
import Derived.Test.YtakiigddbdapaaaGreatDoorPoD
namespace Go.Proofs.YtakiigddbdapaaaGreatDoor.Pe
open Go.RowKit
open Go.Proofs.YtakiigddbdapaaaGreatDoor.Gr (Tg Gp TgIn tV gV gpB szG szU szU_get szG_any szR szR_in szR_out eqG_self belI_step belI_alloc)
open Go.Proofs.YtakiigddbdapaaaGreatDoor.Ul (Tab MaxL)
open Go.Proofs.YtakiigddbdapaaaGreatDoor.Mk
theorem O3.pre {w p w' : World} {base : Nat} {v : Value} {ts : List Tg} (hb : Below p.heap.size p w') (h : O3 w base v ts) (e : p.heap = w.heap) : O3 w' base v ts :=
  O3.below (by unfold O3 World.ownsRow at *; rw [e]; exact h) hb
theorem PrIn.pre {w p : World} {v : Value} {xs : List Pr} (h : PrIn (· < w.heap.size) w v xs) (e : p.heap = w.heap) : PrIn (· < p.heap.size) p v xs := h.same fun b hb => ⟨by rw [e]; exact hb, by rw [e]⟩
theorem TgIn.pre {w p : World} {v : Value} {xs : List Tg} (h : TgIn (· < w.heap.size) w v xs) (e : p.heap = w.heap) : TgIn (· < p.heap.size) p v xs := h.same fun b hb => ⟨by rw [e]; exact hb, by rw [e]⟩
structure Kw (W : World) (gl : Obj) (wx : World) : Prop where
  B : Below W.heap.size W wx
  G : Hd wx W.heap.size gl
theorem Kw.call {W wx w' : World} {gl : Obj} (h : Kw W gl wx) (hb : Below wx.heap.size wx w') : Kw W gl w' := ⟨below_chain h.B hb, h.G.blw hb⟩
structure Ks (W : World) (gl : Obj) (s : Nat) (pv : Value) (R : List Pr) (s2 : Nat) (gv : Value) (GG : List Pr) (wx : World) : Prop where
  B : Below W.heap.size W wx
  G : Hd wx W.heap.size gl
  S : S1 W s pv R s2 gv GG wx
theorem Ks.call {W wx w' : World} {gl : Obj} {s s2 : Nat} {pv gv : Value} {R G : List Pr} (h : Ks W gl s pv R s2 gv G wx) (hb : Below wx.heap.size wx w') : Ks W gl s pv R s2 gv G w' := ⟨below_chain h.B hb, h.G.blw hb, h.S.below hb⟩
set_option maxRecDepth 100000 in
set_option maxHeartbeats 16000000 in
theorem keep_in (old : List Pr) (ao : Option Addr) (co : Nat) (g : Gp) (a1 : Option Addr) (l1 c1 : Nat) (W : World) (ho : PrIn (· < W.heap.size) W (.slice ao old.length co) old) (h : TgIn (· < W.heap.size) W (.slice a1 l1 c1) g.tgs) (hs : old.length + szP old + szG g ≤ 1048576) (hn : g.name.length ≤ 1048576) (ht : g.tgs.length + old.length ≤ 1048576) (hl : ∀ i, i < g.tgs.length → (g.tgs.getD i default).url.length ≤ 1048576) (hT : Tab W) (hM : MaxL W) :
    Calls Tryz.prog 8 #[.slice ao old.length co, gV g (.slice a1 l1 c1)] W fun e w' => e = .returned (.bool true) ∧ Below W.heap.size W w' := by
  have hlm : ∀ i, i < g.tgs.length → (g.tgs.getD i default).url.length ≤ 9223372036854775807 := fun i hi => by have := hl i hi; omega
  have hlo : ∀ i, i < old.length → (old.getD i default).url.length ≤ 1048576 := fun i hi => by have := url_le old i hi; omega
  have hlp : ∀ i, i < old.length → (old.getD i default).url.length ≤ 9223372036854775807 := fun i hi => by have := hlo i hi; omega
  have HSP := Lib.hid (fun wx hx hy => szPrs_any W.heap.size W old _ ho 1048576 wx hx hy (by omega) (by omega))
  have HSZ := Lib.hid (fun wx hx hy => szG_any W.heap.size W g _ h (by omega) (1048576 - ((old.length + szP old : Nat) : Int)) wx hx hy (by omega) (by omega))
  rw [szR_in (by omega)] at HSP
  rw [szR_in (by omega)] at HSZ
  have g1 : ¬ (1048576 - ((old.length + szP old : Nat) : Int) < 0) := by omega
  have g2 : ¬ (1048576 - ((old.length + szP old : Nat) : Int) - (szG g : Int) < 0) := by omega
  generalize 1048576 - ((old.length + szP old : Nat) : Int) = z at *
  generalize z - (szG g : Int) = zz at *
  have HTP := Lib.hid (fun wx hx hy => toPrs_any W.heap.size W old _ ho (by omega) wx hx hy)
  have HTG := Lib.hid (fun wx hx hy => toG3_any W.heap.size W g _ h (by omega) wx hx hy)
  have HT := Lib.hid hT
  have HM := Lib.hid hM
  have HLX := Lib.hid hlm
  have HLP := Lib.hid hlp
  have hrl := kpR_len old g (by omega)
  have hru := kpR_url old g _ hlm
  obtain ⟨R, hR⟩ : ∃ R, kpR old g = R := ⟨_, rfl⟩
  obtain ⟨C, hC⟩ : ∃ C, kpC old g = C := ⟨_, rfl⟩
  have HOS := Lib.hid (fun (W' : World) (vo v : Value) (h0 : PrIn (· < W'.heap.size) W' vo old) (h : TgIn (· < W'.heap.size) W' v g.tgs) => show Calls Tryz.prog 28 #[vo, gV g v] W' (NewL W' R C) from hR ▸ hC ▸ kpS_any W'.heap.size W' old vo h0 hlo g v h hl hn (by omega) W' (Below.refl _ _) (Nat.le_refl _))
  have HOI := Lib.hid (fun (w0 W' : World) (vo v : Value) (h0 : PrIn (· < w0.heap.size) w0 vo old) (h : TgIn (· < w0.heap.size) w0 v g.tgs) h2 h3 h4 h5 => show Calls Tryz.prog 29 #[vo, gV g v] W' (NewL W' R C) from hR ▸ hC ▸ kpI_any w0.heap.size w0 old vo h0 g v h hl hn (by omega) W' h2 h3 h4 h5)
  rw [hR] at hrl hru
  have HFR := Lib.hid hru
  have HER := Lib.hid (fun (w : World) (v u : Value) (h1 : PrIn (· < w.heap.size) w v R) (h2 : PrIn (· < w.heap.size) w u R) => eqPrs_self w.heap.size w R v u h1 h2 w (Below.refl _ _) (Nat.le_refl _))
  have HEX := Lib.hid (fun (w : World) (v u : Value) (h1 : PrIn (· < w.heap.size) w v old) (h2 : PrIn (· < w.heap.size) w u old) => eqPrs_self w.heap.size w old v u h1 h2 w (Below.refl _ _) (Nat.le_refl _))
  have HEQ := Lib.hid (fun (w0 : World) (v u : Value) (h1 : TgIn (· < w0.heap.size) w0 v g.tgs) (h2 : TgIn (· < w0.heap.size) w0 u g.tgs) => eqG_self w0.heap.size w0 g v u h1 h2 w0 (Below.refl _ _) (Nat.le_refl _))
  have HMX := Lib.hid (fun (base : Nat) (v : Value) (w : World) (h : O6 w base v old) => markPrs_any base v old 1 w h (by omega) (by omega))
  have HMK := Lib.hid (fun (base : Nat) (v : Value) (w : World) (h : O3 w base v g.tgs) => markG_any base g v (1 + 6 * old.length) w h (by omega) (by omega))
  have HMG := Lib.hid (fun (base : Nat) (v : Value) (w : World) (h : O6 w base v R) => markPrs_any base v R 1 w h (by omega) (by omega))
  have HHG := Lib.hid (fun (S : Nat → Prop) (v : Value) (w : World) (h : PrIn S w v (mpr R.length 1)) hS => heldPrs_any S v R.length 1 w h hS (by omega) (by omega))
  have HFM := Lib.hid (mpr_lens R.length 1 (by omega))
  have gk : ¬ (((1 + 6 * old.length + 3 * g.tgs.length : Nat) : Int) < 0) := by omega
  have gm : ¬ (((1 + 6 * R.length : Nat) : Int) < 0) := by omega
  have ecc : (C != C) = false := by simp
  generalize 1 + 6 * old.length + 3 * g.tgs.length = kx at *
  generalize 1 + 6 * old.length = k1 at *
  generalize 1 + 6 * R.length = km at *
  obtain ⟨x1, hx1⟩ : ∃ x1, x1 = W.alloc (gL g (.slice a1 l1 c1)) := ⟨_, rfl⟩
  have K0 := Lib.hid (show Hd x1 W.heap.size (gL g (.slice a1 l1 c1)) by rw [hx1]; exact Hd.new _ _)
  have B0 := Lib.hid (show Below W.heap.size W x1 by rw [hx1]; exact (Below.refl _ _).alloc (Nat.le_refl _) _)
  clear hR hC hs h ho hn ht hl hlm hlo hlp hrl hru hT hM
  go_enter Tryz.func8, Tryz.ntmps8
  go_wp2_with fail
  rw [← hx1]
  clear hx1
  refine (HSP.out _ B0.out B0.out.size).mono ?_
  rintro e w1 ⟨rfl, hb1⟩
  have K1 := Lib.hid (K0.out.blw hb1)
  obtain ⟨m00, m01, m02, -⟩ := K1.out.three
  have B1 := Lib.hid (below_chain B0.out hb1)
  clear hb1 HSP K0 B0
  go_wp2_with fail
  refine (HSZ.out _ B1.out B1.out.size).mono ?_
  rintro e w2 ⟨rfl, hb2⟩
  have K2 := Lib.hid (K1.out.blw hb2)
  have B2 := Lib.hid (below_chain B1.out hb2)
  clear hb2 HSZ K1 B1 m00 m01 m02
  have HST := Lib.hid (show Kw W (gL g (.slice a1 l1 c1)) w2 from ⟨B2.out, K2.out⟩)
  have HALL := Lib.hid (fun wx (hk : Kw W (gL g (.slice a1 l1 c1)) wx) => And.intro hk.G.three.1 (And.intro hk.G.three.2.1 (And.intro hk.G.three.2.2.1 hk)))
  go_wp2_with fail
  go_region_held3 (fun wx => wx.cell? ⟨W.heap.size, 0, none⟩ = some (.string ⟨g.name.toArray⟩) ∧ wx.cell? ⟨W.heap.size, 1, none⟩ = some (.int .i64 g.age) ∧ wx.cell? ⟨W.heap.size, 2, none⟩ = some (.slice a1 l1 c1) ∧ Kw W (gL g (.slice a1 l1 c1)) wx)
    (first
      | exact HALL.out _ HST.out
      | (go_split_ands; exact HALL.out _ (Kw.call (by assumption) hb))
      | (go_split_ands; exact HALL.out _ (Kw.call (by assumption) (Below.refl _ _).drew)))
    (first
      | (go_split_ands
         go_at_call 20
         refine (HTP.out _ (Kw.B (by assumption)) (Kw.B (by assumption)).size).mono ?_
         rintro e wa ⟨va, rfl, hja, hb⟩
         obtain ⟨aa, ca, rfl⟩ := hja.slice
         first
           | (have hjg := O3.pre hb hjg rfl)
           | skip)
      | (go_split_ands
         go_at_call 11
         refine (HTG.out _ (Kw.B (by assumption)) (Kw.B (by assumption)).size).mono ?_
         rintro e wa ⟨vg, rfl, hjg, hb⟩
         obtain ⟨ag, cg, rfl⟩ := hjg.slice
         first
           | (have hja := O6.pre hb hja rfl)
           | skip)
      | (go_split_ands
         go_at_call 28
         refine (HOS.out _ _ _ (by exact PrIn.pre ((hja.pr HLP.out).mono fun _ hb => hb.2) rfl) (by exact TgIn.pre ((hjg.tg HLX.out).mono fun _ hb => hb.2) rfl)).mono ?_
         rintro e w3 ⟨v0, rfl, hoR, hb⟩
         have hkw := Kw.call (by assumption) hb
         obtain ⟨at0, ct0, rfl⟩ := hoR.slice)
      | fail)
  have T3 := Lib.hid (show S0 W w3.heap.size (.slice at0 R.length ct0) R w3 from ⟨hkw.B, (hoR.pr HFR.out).mono fun _ hb => hb.2, hkw.B.size, Nat.le_refl _⟩)
  have K3 := Lib.hid hkw.G
  clear hkw hoR hja hjg HST HALL B2 K2
  go_split_ands
  repeat (first | (rename_i x; clear x))
  have kz := Lib.hid K3.out.lt
  go_wp2_with fail
  clear hja
  refine (HTP.out w3 T3.out.B T3.out.zA).mono ?_
  rintro e w4 ⟨va, rfl, hjp, hb4⟩
  obtain ⟨a3, c3, rfl⟩ := hjp.slice
  have XP := Lib.hid hjp
  have T4 := Lib.hid (T3.out.below hb4)
  have K4 := Lib.hid (K3.out.blw hb4)
  have s34 := Lib.hid hb4.size
  obtain ⟨m00, m01, m02, -⟩ := K4.out.three
  clear hb4 hjp T3 K3
  go_wp2_with fail
  refine (HTG.out w4 T4.out.B T4.out.B.size).mono ?_
  rintro e w5 ⟨vb, rfl, hjb, hb5⟩
  obtain ⟨a4, c4, rfl⟩ := hjb.slice
  have XG := Lib.hid hjb
  have T5 := Lib.hid (T4.out.below hb5)
  have K5 := Lib.hid (K4.out.blw hb5)
  have XP5 := Lib.hid (XP.out.below hb5)
  have HPB := Lib.hid ((XP5.out.pr HLP.out).mono (S' := (· < w5.heap.size)) fun _ hb => hb.2)
  have HJB := Lib.hid ((hjb.tg HLX.out).mono (S' := (· < w5.heap.size)) fun _ hb => hb.2)
  have s45 := Lib.hid hb5.size
  obtain ⟨x5, hx5⟩ : ∃ x5, x5 = w5.alloc (gO g (.slice a4 g.tgs.length c4)) := ⟨_, rfl⟩
  have A5 := Lib.hid (show Below w5.heap.size w5 x5 by rw [hx5]; exact (Below.refl _ _).alloc (Nat.le_refl _) _)
  have P5 := Lib.hid (show Hd x5 w5.heap.size (gO g (.slice a4 g.tgs.length c4)) by rw [hx5]; exact Hd.new _ _)
  have s5x := Lib.hid A5.out.size
  have TX := Lib.hid (T5.out.below A5.out)
  have KX := Lib.hid (K5.out.blw A5.out)
  have HOK := Lib.hid (HOI.out w5 x5 _ _ HPB.out HJB.out A5.out A5.out.size (HT.out.below TX.out.B) (HM.out.below TX.out.B))
  clear hb5 hjb T4 T5 K4 K5 m00 m01 m02
  go_wp2_with fail
  rw [← hx5]
  clear hx5
  refine HOK.out.mono ?_
  rintro e w6 ⟨v1, rfl, ho6, hb6⟩
  have A6 := Lib.hid (below_chain A5.out hb6)
  have XP6 := Lib.hid (XP5.out.below A6.out)
  have XG6 := Lib.hid (XG.out.below A6.out)
  have P6 := Lib.hid (P5.out.blw hb6)
  have K6 := Lib.hid (KX.out.blw hb6)
  have S6 := Lib.hid (show S1 W w3.heap.size (.slice at0 R.length ct0) R x5.heap.size v1 R w6 from ⟨TX.out.below hb6, Nat.le_trans s34.out (Nat.le_trans s45.out s5x.out), hb6.size, ho6⟩)
  obtain ⟨at1, ct1, rfl⟩ := ho6.slice
  have HE6 := Lib.hid (HER.out w6 _ _ ((S6.out.g1.pr HFR.out).mono fun _ hb => hb.2) S6.out.o.r)
  clear hb6 ho6 TX HOK P5 KX XP5
  go_wp2_with fail
  refine HE6.out.mono ?_
  rintro e w7 ⟨rfl, hb7⟩
  have S7 := Lib.hid (S6.out.below hb7)
  have XP7 := Lib.hid (XP6.out.below hb7)
  have XG7 := Lib.hid (XG6.out.below hb7)
  have P7 := Lib.hid (P6.out.blw hb7)
  have K7 := Lib.hid (K6.out.blw hb7)
  have A7 := Lib.hid (below_chain A6.out hb7)
  clear hb7 HE6 S6 XP6 XG6 P6 K6 A6
  go_wp2_with fail
  refine (HTP.out w7 S7.out.o.B S7.out.o.B.size).mono ?_
  rintro e w8 ⟨vc, rfl, hjc, hb8⟩
  obtain ⟨a8, c8, rfl⟩ := hjc.slice
  have S8 := Lib.hid (S7.out.below hb8)
  have XP8 := Lib.hid (XP7.out.below hb8)
  have XG8 := Lib.hid (XG7.out.below hb8)
  have P8 := Lib.hid (P7.out.blw hb8)
  have K8 := Lib.hid (K7.out.blw hb8)
  have A8 := Lib.hid (below_chain A7.out hb8)
  have HE8 := Lib.hid (HEX.out w8 _ _ ((XP8.out.pr HLP.out).mono fun _ hb => hb.2) ((hjc.pr HLP.out).mono fun _ hb => hb.2))
  clear hb8 hjc S7 XP7 XG7 P7 K7 A7
  go_wp2_with fail
  refine HE8.out.mono ?_
  rintro e w9 ⟨rfl, hb9⟩
  have S9 := Lib.hid (S8.out.below hb9)
  have XP9 := Lib.hid (XP8.out.below hb9)
  have XG9 := Lib.hid (XG8.out.below hb9)
  have P9 := Lib.hid (P8.out.blw hb9)
  have K9 := Lib.hid (K8.out.blw hb9)
  have A9 := Lib.hid (below_chain A8.out hb9)
  obtain ⟨m00, m01, m02, -⟩ := K9.out.three
  obtain ⟨p00, p01, p02, -⟩ := P9.out.three
  have z5 := K9.out.lt
  have y5 := P9.out.lt
  have hRR : Below w9.heap.size w9 w9 := Below.refl _ _
  clear hb9 HE8 S8 XP8 XG8 P8 K8 A8
  go_wp2_with fail
  go_region_held3 (fun wx => wx.cell? ⟨W.heap.size, 0, none⟩ = some (.string ⟨g.name.toArray⟩) ∧ wx.cell? ⟨W.heap.size, 1, none⟩ = some (.int .i64 g.age) ∧ wx.cell? ⟨W.heap.size, 2, none⟩ = some (.slice a1 l1 c1) ∧
      wx.cell? ⟨w5.heap.size, 0, none⟩ = some (.string ⟨g.name.toArray⟩) ∧ wx.cell? ⟨w5.heap.size, 1, none⟩ = some (.int .i64 g.age) ∧ wx.cell? ⟨w5.heap.size, 2, none⟩ = some (.slice a4 g.tgs.length c4) ∧
      W.heap.size < wx.heap.size ∧ w5.heap.size < wx.heap.size ∧ Below w9.heap.size w9 wx)
    (first
      | (simp [*, Below.drew]; done)
      | (go_split_ands
         refine ⟨?_, ?_, ?_, ?_, ?_, ?_, Nat.lt_of_lt_of_le (by assumption) hb.size, Nat.lt_of_lt_of_le (by assumption) hb.size, belI_step (by assumption) hb⟩
         · (rw [hb.cell (p := ⟨W.heap.size, 0, none⟩) (by assumption)]; assumption)
         · (rw [hb.cell (p := ⟨W.heap.size, 1, none⟩) (by assumption)]; assumption)
         · (rw [hb.cell (p := ⟨W.heap.size, 2, none⟩) (by assumption)]; assumption)
         · (rw [hb.cell (p := ⟨w5.heap.size, 0, none⟩) (by assumption)]; assumption)
         · (rw [hb.cell (p := ⟨w5.heap.size, 1, none⟩) (by assumption)]; assumption)
         · (rw [hb.cell (p := ⟨w5.heap.size, 2, none⟩) (by assumption)]; assumption)))
    (first
      | (go_split_ands; go_at_call 11; refine (HTG.out _ (below_chain S9.out.o.B (by assumption)) (Nat.le_of_lt (by assumption))).mono ?_; rintro e wy ⟨vc, rfl, hjc, hb⟩)
      | (go_split_ands; go_at_call 14; refine (HEQ.out _ _ vc (TgIn.later HJB.out (fun _ hb => hb) (below_chain A9.out (by assumption))) ((hjc.tg HLX.out).mono fun _ hb => hb.2)).mono ?_; rintro e w10 ⟨rfl, hb⟩))
  clear hjc
  go_split_ands
  rename_i hfin
  have S10 := Lib.hid (S9.out.below hfin)
  have XP10 := Lib.hid (XP9.out.below hfin)
  have XG10 := Lib.hid (XG9.out.below hfin)
  have P10 := Lib.hid (P9.out.blw hfin)
  have K10 := Lib.hid (K9.out.blw hfin)
  clear hfin m00 m01 m02 p00 p01 p02 S9 XP9 XG9 P9 K9
  have HM10 := Lib.hid (HMX.out _ _ _ XP10.out)
  go_wp2_with fail
  refine HM10.out.mono ?_
  rintro e w11 ⟨rfl, -, hg11⟩
  have oXP := Lib.hid (fun b e => World.ownsRow.lt XP.out b e)
  have oXG := Lib.hid (fun b e => World.ownsRow.lt XG.out b e)
  have S11 := Lib.hid (S10.out.markX (Ch.of_grown (S := fun b => (Value.slice a3 old.length c3).ownBlock = some b) hg11 fun _ e => e) (fun b e => ⟨(oXP.out b e).1, Nat.lt_of_lt_of_le (oXP.out b e).2 (Nat.le_trans s45.out s5x.out)⟩))
  have K11 := Lib.hid (K10.out.grown hg11 (fun e => by have := (oXP.out _ e.symm).1; have := kz.out; omega))
  have P11 := Lib.hid (P10.out.grown hg11 (fun e => by have := (oXP.out _ e.symm).2; have := s45.out; omega))
  have XG11 := Lib.hid (own_ch (Ch.of_grown (S := fun b => (Value.slice a3 old.length c3).ownBlock = some b) hg11 fun _ e => e) XG10.out (fun b e hb => by have := (oXG.out b e).1; have := (oXP.out b hb).2; omega))
  obtain ⟨p00, p01, p02, -⟩ := P11.out.three
  clear hg11 HM10 S10 XP10 XG10 P10 K10
  have HM11 := Lib.hid (HMK.out _ _ _ XG11.out)
  go_wp2_with fail
  refine HM11.out.mono ?_
  rintro e w12 ⟨rfl, hg12⟩
  have S12 := Lib.hid (S11.out.markX (Ch.of_grown (S := fun b => (Value.slice a4 g.tgs.length c4).ownBlock = some b) hg12 fun _ e => e) (fun b e => ⟨Nat.le_trans s34.out (oXG.out b e).1, Nat.lt_of_lt_of_le (oXG.out b e).2 s5x.out⟩))
  have K12 := Lib.hid (K11.out.grown hg12 (fun e => by have := (oXG.out _ e.symm).1; have := kz.out; have := s34.out; omega))
  have HE12 := Lib.hid (HER.out w12 _ _ ((S12.out.g1.pr HFR.out).mono fun _ hb => hb.2) S12.out.o.r)
  clear hg12 HM11 S11 XG11 P11 K11 p00 p01 p02
  go_wp2_with fail
  refine HE12.out.mono ?_
  rintro e w13 ⟨rfl, hb13⟩
  have S13 := Lib.hid (S12.out.below hb13)
  have K13 := Lib.hid (K12.out.blw hb13)
  clear hb13 HE12 S12 K12
  go_wp2_with fail
  refine (HMG.out _ _ _ S13.out.g1).mono ?_
  rintro e w14 ⟨rfl, ho14, hg14⟩
  have S14 := Lib.hid (S13.out.markG hg14 ho14)
  have K14 := Lib.hid (K13.out.grown hg14 (fun e => by have := (World.ownsRow.lt S13.out.g1 _ e.symm).1; have := kz.out; have := s34.out; have := s45.out; have := s5x.out; omega))
  clear ho14 hg14 S13 K13
  go_wp2_with fail
  refine (HHG.out _ _ _ (S14.out.g1.pr HFM.out) (fun _ hb => hb.2)).mono ?_
  rintro e w15 ⟨rfl, hb15⟩
  have HST := Lib.hid (show Ks W (gL g (.slice a1 l1 c1)) w3.heap.size (.slice at0 R.length ct0) R x5.heap.size (.slice at1 R.length ct1) (mpr R.length 1) w15 from ⟨below_chain S14.out.o.B hb15, K14.out.blw hb15, S14.out.below hb15⟩)
  have HALL := Lib.hid (fun wx (hk : Ks W (gL g (.slice a1 l1 c1)) w3.heap.size (.slice at0 R.length ct0) R x5.heap.size (.slice at1 R.length ct1) (mpr R.length 1) wx) => And.intro hk.G.three.1 (And.intro hk.G.three.2.1 (And.intro hk.G.three.2.2.1 hk)))
  clear hb15 S14 K14
  go_wp2_with fail
  go_region_held3 (fun wx => wx.cell? ⟨W.heap.size, 0, none⟩ = some (.string ⟨g.name.toArray⟩) ∧ wx.cell? ⟨W.heap.size, 1, none⟩ = some (.int .i64 g.age) ∧ wx.cell? ⟨W.heap.size, 2, none⟩ = some (.slice a1 l1 c1) ∧ Ks W (gL g (.slice a1 l1 c1)) w3.heap.size (.slice at0 R.length ct0) R x5.heap.size (.slice at1 R.length ct1) (mpr R.length 1) wx)
    (first
      | exact HALL.out _ HST.out
      | (go_split_ands; exact HALL.out _ (Ks.call (by assumption) hb))
      | (go_split_ands; exact HALL.out _ (Ks.call (by assumption) (Below.refl _ _).drew)))
    (first
      | (go_split_ands
         go_at_call 20
         refine (HTP.out _ (Ks.B (by assumption)) (Ks.B (by assumption)).size).mono ?_
         rintro e wa ⟨va, rfl, hja, hb⟩
         obtain ⟨aa, ca, rfl⟩ := hja.slice
         first
           | (have hjg := O3.pre hb hjg rfl)
           | skip)
      | (go_split_ands
         go_at_call 11
         refine (HTG.out _ (Ks.B (by assumption)) (Ks.B (by assumption)).size).mono ?_
         rintro e wa ⟨vg, rfl, hjg, hb⟩
         obtain ⟨ag, cg, rfl⟩ := hjg.slice
         first
           | (have hja := O6.pre hb hja rfl)
           | skip)
      | (go_split_ands
         go_at_call 29
         refine (HOI.out _ _ _ _ (by exact PrIn.pre ((hja.pr HLP.out).mono fun _ hb => hb.2) rfl) (by exact TgIn.pre ((hjg.tg HLX.out).mono fun _ hb => hb.2) rfl) (by exact Below.refl _ _) (by exact Nat.le_refl _) (HT.out.below (Ks.B (by assumption))) (HM.out.below (Ks.B (by assumption)))).mono ?_
         rintro e w18 ⟨v2, rfl, hoR, hb⟩
         have hkw := Ks.call (by assumption) hb
         obtain ⟨at2, ct2, rfl⟩ := hoR.slice)
      | fail)
  have S18 := Lib.hid hkw.S
  have O18 := Lib.hid ((hoR.pr HFR.out).mono (S' := (· < w18.heap.size)) fun _ hb => hb.2)
  clear hkw hoR hja hjg HST HALL
  go_split_ands
  repeat (first | (rename_i x; clear x))
  have HE18 := Lib.hid (HER.out w18 _ _ O18.out S18.out.o.r)
  go_wp2_with fail
  refine HE18.out.mono ?_
  rintro e w19 ⟨rfl, hb19⟩
  have S19 := Lib.hid (S18.out.below hb19)
  clear hb19 HE18 S18 O18
  go_wp2_with fail
  refine (HHG.out _ _ _ (S19.out.g1.pr HFM.out) (fun _ hb => hb.2)).mono ?_
  rintro e w20 ⟨rfl, hb20⟩
  have B20 := Lib.hid (below_chain S19.out.o.B hb20)
  clear hb20
  go_wp2
  go_ret
  exact ⟨rfl, B20.out⟩
set_option maxRecDepth 100000 in
set_option maxHeartbeats 2000000 in
theorem keep_walk (old : List Pr) (ov : Value) (g : Gp) (tv : Value) (W : World) (ho : PrIn (· < W.heap.size) W ov old) (h : TgIn (· < W.heap.size) W tv g.tgs) (hn : g.name.length ≤ 9223372036854775807) (hT : Tab W) (hM : MaxL W) :
    Calls Tryz.prog 8 #[ov, gV g tv] W fun e w' => e = .returned (.bool true) ∧ Below W.heap.size W w' := by
  obtain ⟨a1, l1, c1, rfl⟩ := h.slice
  obtain ⟨ao, co, rfl⟩ := ho.slice2
  have B0 := Lib.hid ((Below.refl W.heap.size W).alloc (Nat.le_refl _) (gL g (.slice a1 l1 c1)))
  by_cases hs1 : old.length + szP old ≤ 1048576
  · by_cases hs : old.length + szP old + szG g ≤ 1048576
    · have hs' := hs
      unfold szG at hs'
      exact keep_in old ao co g a1 l1 c1 W ho h hs (by omega) (by omega) (fun i hi => by have := szU_get g.tgs i hi; omega) hT hM
    · have HSP := Lib.hid (fun wx hx hy => szPrs_any W.heap.size W old _ ho 1048576 wx hx hy (by omega) (by omega))
      have HSZ := Lib.hid (fun wx hx hy => szG_any W.heap.size W g _ h (by omega) (1048576 - ((old.length + szP old : Nat) : Int)) wx hx hy (by omega) (by omega))
      rw [szR_in (by omega)] at HSP
      rw [szR_out (by omega)] at HSZ
      have g1 : ¬ (1048576 - ((old.length + szP old : Nat) : Int) < 0) := by omega
      generalize 1048576 - ((old.length + szP old : Nat) : Int) = z at *
      obtain ⟨x1, hx1⟩ : ∃ x1, x1 = W.alloc (gL g (.slice a1 l1 c1)) := ⟨_, rfl⟩
      rw [← hx1] at B0
      have K0 := Lib.hid (show Hd x1 W.heap.size (gL g (.slice a1 l1 c1)) by rw [hx1]; exact Hd.new _ _)
      clear h ho hs hs1 hT hM
      go_enter Tryz.func8, Tryz.ntmps8
      go_wp2_with fail
      rw [← hx1]
      clear hx1
      refine (HSP.out _ B0.out B0.out.size).mono ?_
      rintro e w1 ⟨rfl, hb1⟩
      have K1 := Lib.hid (K0.out.blw hb1)
      obtain ⟨m00, m01, m02, -⟩ := K1.out.three
      have B1 := Lib.hid (below_chain B0.out hb1)
      clear hb1 HSP K0 B0
      go_wp2_with fail
      refine (HSZ.out _ B1.out B1.out.size).mono ?_
      rintro e w2 ⟨rfl, hb2⟩
      have B2 := Lib.hid (below_chain B1.out hb2)
      clear hb2 HSZ
      go_wp2
      go_ret
      exact ⟨rfl, B2.out⟩
  · have HSP := Lib.hid (fun wx hx hy => szPrs_any W.heap.size W old _ ho 1048576 wx hx hy (by omega) (by omega))
    rw [szR_out (by omega)] at HSP
    clear h ho hs1 hT hM
    go_enter Tryz.func8, Tryz.ntmps8
    go_wp2_with fail
    refine (HSP.out _ B0.out B0.out.size).mono ?_
    rintro e w1 ⟨rfl, hb1⟩
    have B1 := Lib.hid (below_chain B0.out hb1)
    clear hb1
    go_wp2
    go_ret
    exact ⟨rfl, B1.out⟩
end Go.Proofs.YtakiigddbdapaaaGreatDoor.Pe
