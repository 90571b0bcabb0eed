
/-
  PeersOf of the program, walked; the law FnExactPeersOf, walked.
-/
import Derived.Test.YtakiigddbdapaaaGreatDoorPoC
import Derived.Test.YtakiigddbdapaaaGreatDoorPeS
import Derived.Test.YtakiigddbdapaaaGreatDoorGrLaw
namespace Go.Proofs.YtakiigddbdapaaaGreatDoor.Pe
open Go.RowKit
open Go.Proofs.YtakiigddbdapaaaGreatDoor.Gr (Tg Gp TgIn tV gV gpB szG szU szU_get szG_any szR szR_in szR_out eqG_self belI_step belI_alloc)
open Go.Proofs.YtakiigddbdapaaaGreatDoor.Ul (Tab MaxL)
open Go.Proofs.YtakiigddbdapaaaGreatDoor.Mk
set_option maxRecDepth 100000 in
set_option maxHeartbeats 2000000 in
theorem poI_any (B : Nat) (w0 : World) (g : Gp) (v : Value) (h : TgIn (· < B) w0 v g.tgs) (hl : ∀ i, i < g.tgs.length → (g.tgs.getD i default).url.length ≤ 1048576) (hn : g.name.length ≤ 1048576) (hm : g.tgs.length ≤ 1048576) (W : World) (hb : Below B w0 W) (hB : B ≤ W.heap.size) (hT : Tab W) (hM : MaxL W) :
    Calls Tryz.prog 12 #[gV g v] W (NewL W (poR g) (poC g)) := by
  have HK := Lib.hid (fun W h1 h2 h3 h4 => kpI_nil B w0 g v h hl hn hm W h1 h2 h3 h4)
  obtain ⟨a1, l1, cc1, rfl⟩ := h.slice
  obtain ⟨w1, hw1⟩ : ∃ w1, w1 = W.alloc (gO g (.slice a1 l1 cc1)) := ⟨_, rfl⟩
  have B1 := Lib.hid (show Below W.heap.size W w1 by rw [hw1]; exact (Below.refl _ _).alloc (Nat.le_refl _) _)
  have HB1 := Lib.hid (hb.trans (B1.out.mono hB))
  have hB1 : B ≤ w1.heap.size := Nat.le_trans hB B1.out.size
  have HT1 := Lib.hid (hT.below B1.out)
  have HM1 := Lib.hid (hM.below B1.out)
  clear h hl hn hm hb hT hM
  generalize poR g = R at *
  generalize poC g = C at *
  go_enter Tryz.func12, Tryz.ntmps12
  go_wp2_with fail
  rw [← hw1]
  clear hw1
  refine (HK.out _ HB1.out hB1 HT1.out HM1.out).mono ?_
  rintro e w2 ⟨v2, rfl, ho, hb2⟩
  have HF := Lib.hid (show NewL W R C (.returned (.tuple #[v2, .int .i64 C])) w2 from ⟨v2, rfl, ho.base B1.out.size, below_chain B1.out hb2⟩)
  obtain ⟨a3, c3, rfl⟩ := ho.slice
  clear ho hb2
  generalize R.length = nn at *
  go_wp2
  exact bodyPost_ret (ret_2 Tryz.results12) rfl HF.out
theorem poR_len (g : Gp) (h : g.tgs.length ≤ 1048576) : (poR g).length ≤ 1048576 := by
  unfold poR; split <;> simp [h]
theorem poR_url (g : Gp) (M : Nat) (h : ∀ i, i < g.tgs.length → (g.tgs.getD i default).url.length ≤ M) : ∀ i, i < (poR g).length → ((poR g).getD i default).url.length ≤ M := by
  unfold poR
  split
  · intro i hi
    have hi' : i < g.tgs.length := by simpa using hi
    have := h i hi'
    simpa [hi', zP] using this
  · intro i hi; simp at hi
abbrev gL (g : Gp) (v : Value) : Obj := .cells #[.string ⟨g.name.toArray⟩, .int .i64 g.age, v] 24
set_option maxRecDepth 100000 in
set_option maxHeartbeats 8000000 in
theorem peersOf_in (g : Gp) (a1 : Option Addr) (l1 c1 : Nat) (W : World) (h : TgIn (· < W.heap.size) W (.slice a1 l1 c1) g.tgs) (hs : szG g ≤ 1048576) (hn : g.name.length ≤ 1048576) (ht : g.tgs.length ≤ 1048576) (hl : ∀ i, i < g.tgs.length → (g.tgs.getD i default).url.length ≤ 1048576) (hT : Tab W) (hM : MaxL W) :
    Calls Tryz.prog 3 #[gV g (.slice a1 l1 c1)] W fun e w' => e = .returned (.bool true) ∧ Below W.heap.size W w' := by
  have hlm : ∀ i, i < g.tgs.length → (g.tgs.getD i default).url.length ≤ 9223372036854775807 := fun i hi => by have := hl i hi; omega
  have HSZ := Lib.hid (fun wx hx hy => szG_any W.heap.size W g _ h (by omega) 1048576 wx hx hy (by omega) (by omega))
  rw [szR_in (by omega)] at HSZ
  have g1 : ¬ (1048576 - (szG g : Int) < 0) := by omega
  generalize 1048576 - (szG g : Int) = z at *
  have HTO := Lib.hid (fun wx hx hy => toG3_any W.heap.size W g _ h ht wx hx hy)
  have HT := Lib.hid hT
  have HM := Lib.hid hM
  have HLX := Lib.hid hlm
  have hrl := poR_len g ht
  have hru := poR_url g _ hlm
  obtain ⟨R, hR⟩ : ∃ R, poR g = R := ⟨_, rfl⟩
  obtain ⟨C, hC⟩ : ∃ C, poC g = C := ⟨_, rfl⟩
  have HOS := Lib.hid (fun (W' : World) (v : Value) (h : TgIn (· < W'.heap.size) W' v g.tgs) => show Calls Tryz.prog 10 #[gV g v] W' (NewL W' R C) from hR ▸ hC ▸ poS_any W'.heap.size W' g v h hl hn ht W' (Below.refl _ _) (Nat.le_refl _))
  have HOI := Lib.hid (fun (w0 W' : World) (v : Value) (h : TgIn (· < w0.heap.size) w0 v g.tgs) h2 h3 h4 h5 => show Calls Tryz.prog 12 #[gV g v] W' (NewL W' R C) from hR ▸ hC ▸ poI_any w0.heap.size w0 g v h hl hn ht W' h2 h3 h4 h5)
  rw [hR] at hrl hru
  have HFR := Lib.hid hru
  have HER := Lib.hid (fun (w : World) (v u : Value) (h1 : PrIn (· < w.heap.size) w v R) (h2 : PrIn (· < w.heap.size) w u R) => eqPrs_self w.heap.size w R v u h1 h2 w (Below.refl _ _) (Nat.le_refl _))
  have HEQ := Lib.hid (fun (w0 : World) (v u : Value) (h1 : TgIn (· < w0.heap.size) w0 v g.tgs) (h2 : TgIn (· < w0.heap.size) w0 u g.tgs) => eqG_self w0.heap.size w0 g v u h1 h2 w0 (Below.refl _ _) (Nat.le_refl _))
  have HMK := Lib.hid (fun (base : Nat) (v : Value) (w : World) (h : O3 w base v g.tgs) => markG_any base g v 1 w h (by omega) (by omega))
  have HMG := Lib.hid (fun (base : Nat) (v : Value) (w : World) (h : O6 w base v R) => markPrs_any base v R 1 w h (by omega) (by omega))
  have HHG := Lib.hid (fun (S : Nat → Prop) (v : Value) (w : World) (h : PrIn S w v (mpr R.length 1)) hS => heldPrs_any S v R.length 1 w h hS (by omega) (by omega))
  have HFM := Lib.hid (mpr_lens R.length 1 (by omega))
  have gk : ¬ (((1 + 3 * g.tgs.length : Nat) : Int) < 0) := by omega
  have gm : ¬ (((1 + 6 * R.length : Nat) : Int) < 0) := by omega
  have ecc : (C != C) = false := by simp
  generalize 1 + 3 * g.tgs.length = kx at *
  generalize 1 + 6 * R.length = km at *
  obtain ⟨x1, hx1⟩ : ∃ x1, x1 = W.alloc (gL g (.slice a1 l1 c1)) := ⟨_, rfl⟩
  have K0 := Lib.hid (show Hd x1 W.heap.size (gL g (.slice a1 l1 c1)) by rw [hx1]; exact Hd.new _ _)
  have B0 := Lib.hid (show Below W.heap.size W x1 by rw [hx1]; exact (Below.refl _ _).alloc (Nat.le_refl _) _)
  clear hR hC hs h hn ht hl hlm hrl hru hT hM
  go_enter Tryz.func3, Tryz.ntmps3
  go_wp2_with fail
  rw [← hx1]
  clear hx1
  refine (HSZ.out _ B0.out B0.out.size).mono ?_
  rintro e w1 ⟨rfl, hb1⟩
  have K1 := Lib.hid (K0.out.blw hb1)
  obtain ⟨m00, m01, m02, -⟩ := K1.out.three
  have B1 := Lib.hid (below_chain B0.out hb1)
  clear hb1 HSZ K0 B0
  go_wp2_with fail
  refine (HTO.out w1 B1.out B1.out.size).mono ?_
  rintro e w2 ⟨va, rfl, hja, hb2⟩
  obtain ⟨aa, ca, rfl⟩ := hja.slice
  have K2 := Lib.hid (K1.out.blw hb2)
  have B2 := Lib.hid (below_chain B1.out hb2)
  have HOK := Lib.hid (HOS.out w2 _ ((hja.tg HLX.out).mono fun _ hb => hb.2))
  clear hb2 hja B1 HOS K1 m00 m01 m02
  go_wp2_with fail
  refine HOK.out.mono ?_
  rintro e w3 ⟨v0, rfl, ho3, hb3⟩
  have T3 := Lib.hid (show S0 W w3.heap.size v0 R w3 from ⟨below_chain B2.out hb3, (ho3.pr HFR.out).mono fun _ hb => hb.2, (below_chain B2.out hb3).size, Nat.le_refl _⟩)
  have K3 := Lib.hid (K2.out.blw hb3)
  have kz := Lib.hid K3.out.lt
  obtain ⟨m00, m01, m02, -⟩ := K3.out.three
  obtain ⟨at0, ct0, rfl⟩ := ho3.slice
  clear hb3 ho3 HOK B2 K2
  go_wp2_with fail
  refine (HTO.out w3 T3.out.B T3.out.zA).mono ?_
  rintro e w4 ⟨vb, rfl, hjb, hb4⟩
  obtain ⟨a4, c4, rfl⟩ := hjb.slice
  have T4 := Lib.hid (T3.out.below hb4)
  have K4 := Lib.hid (K3.out.blw hb4)
  have XI := Lib.hid hjb
  have HJB := Lib.hid ((hjb.tg HLX.out).mono (S' := (· < w4.heap.size)) fun _ hb => hb.2)
  have s34 : w3.heap.size ≤ w4.heap.size := hb4.size
  have S34 := Lib.hid s34
  obtain ⟨x4, hx4⟩ : ∃ x4, x4 = w4.alloc (gO g (.slice a4 g.tgs.length c4)) := ⟨_, rfl⟩
  have A4 := Lib.hid (show Below w4.heap.size w4 x4 by rw [hx4]; exact (Below.refl _ _).alloc (Nat.le_refl _) _)
  have P4 := Lib.hid (show Hd x4 w4.heap.size (gO g (.slice a4 g.tgs.length c4)) by rw [hx4]; exact Hd.new _ _)
  have Z4 := Lib.hid A4.out.size
  have T5 := Lib.hid (T4.out.below A4.out)
  have K5 := Lib.hid (K4.out.blw A4.out)
  have HOK := Lib.hid (HOI.out w4 x4 _ HJB.out A4.out A4.out.size (HT.out.below T5.out.B) (HM.out.below T5.out.B))
  clear hb4 hjb T3 T4 K3 K4 s34 m00 m01 m02
  go_wp2_with fail
  rw [← hx4]
  clear hx4
  refine HOK.out.mono ?_
  rintro e w5 ⟨v1, rfl, ho5, hb5⟩
  have A5 := Lib.hid (below_chain A4.out hb5)
  have X5 := Lib.hid (XI.out.below A5.out)
  have P5 := Lib.hid (P4.out.blw hb5)
  have K6 := Lib.hid (K5.out.blw hb5)
  have S5 := Lib.hid (show S1 W w3.heap.size (.slice at0 R.length ct0) R x4.heap.size v1 R w5 from ⟨T5.out.below hb5, Nat.le_trans S34.out Z4.out, hb5.size, ho5⟩)
  obtain ⟨at1, ct1, rfl⟩ := ho5.slice
  have HE5 := Lib.hid (HER.out w5 _ _ ((S5.out.g1.pr HFR.out).mono fun _ hb => hb.2) S5.out.o.r)
  clear hb5 ho5 T5 HOK P4 K5
  go_wp2_with fail
  refine HE5.out.mono ?_
  rintro e w6 ⟨rfl, hb6⟩
  have S6 := Lib.hid (S5.out.below hb6)
  have X6 := Lib.hid (X5.out.below hb6)
  have P6 := Lib.hid (P5.out.blw hb6)
  have K7 := Lib.hid (K6.out.blw hb6)
  have A6 := Lib.hid (below_chain A5.out hb6)
  obtain ⟨m00, m01, m02, -⟩ := K7.out.three
  obtain ⟨p00, p01, p02, -⟩ := P6.out.three
  have z5 := K7.out.lt
  have y5 := P6.out.lt
  have hRR : Below w6.heap.size w6 w6 := Below.refl _ _
  clear hb6 HE5 S5 X5 P5 K6 A5
  go_wp2_with fail
  go_region_held3 (fun wx => wx.cell? ⟨W.heap.size, 0, none⟩ = some (.string ⟨g.name.toArray⟩) ∧ wx.cell? ⟨W.heap.size, 1, none⟩ = some (.int .i64 g.age) ∧ wx.cell? ⟨W.heap.size, 2, none⟩ = some (.slice a1 l1 c1) ∧
      wx.cell? ⟨w4.heap.size, 0, none⟩ = some (.string ⟨g.name.toArray⟩) ∧ wx.cell? ⟨w4.heap.size, 1, none⟩ = some (.int .i64 g.age) ∧ wx.cell? ⟨w4.heap.size, 2, none⟩ = some (.slice a4 g.tgs.length c4) ∧
      W.heap.size < wx.heap.size ∧ w4.heap.size < wx.heap.size ∧ Below w6.heap.size w6 wx)
    (first
      | (simp [*, Below.drew]; done)
      | (go_split_ands
         refine ⟨?_, ?_, ?_, ?_, ?_, ?_, Nat.lt_of_lt_of_le (by assumption) hb.size, Nat.lt_of_lt_of_le (by assumption) hb.size, belI_step (by assumption) hb⟩
         · (rw [hb.cell (p := ⟨W.heap.size, 0, none⟩) (by assumption)]; assumption)
         · (rw [hb.cell (p := ⟨W.heap.size, 1, none⟩) (by assumption)]; assumption)
         · (rw [hb.cell (p := ⟨W.heap.size, 2, none⟩) (by assumption)]; assumption)
         · (rw [hb.cell (p := ⟨w4.heap.size, 0, none⟩) (by assumption)]; assumption)
         · (rw [hb.cell (p := ⟨w4.heap.size, 1, none⟩) (by assumption)]; assumption)
         · (rw [hb.cell (p := ⟨w4.heap.size, 2, none⟩) (by assumption)]; assumption)))
    (first
      | (go_split_ands; go_at_call 11; refine (HTO.out _ (below_chain S6.out.o.B (by assumption)) (Nat.le_of_lt (by assumption))).mono ?_; rintro e wy ⟨vc, rfl, hjc, hb⟩)
      | (go_split_ands; go_at_call 14; refine (HEQ.out _ _ vc (TgIn.later HJB.out (fun _ hb => hb) (below_chain A6.out (by assumption))) ((hjc.tg HLX.out).mono fun _ hb => hb.2)).mono ?_; rintro e w7 ⟨rfl, hb⟩))
  go_split_ands
  rename_i hfin
  have S7 := Lib.hid (S6.out.below hfin)
  have X7 := Lib.hid (X6.out.below hfin)
  have P7 := Lib.hid (P6.out.blw hfin)
  have K8 := Lib.hid (K7.out.blw hfin)
  clear hfin m00 m01 m02 p00 p01 p02 S6 X6 P6 K7
  have HM7 := Lib.hid (HMK.out _ _ _ X7.out)
  obtain ⟨p00, p01, p02, -⟩ := P7.out.three
  go_wp2_with fail
  refine HM7.out.mono ?_
  rintro e w8 ⟨rfl, hg8⟩
  have S8 := Lib.hid (S7.out.markX (Ch.of_grown (S := fun b => (Value.slice a4 g.tgs.length c4).ownBlock = some b) hg8 fun _ e => e) (fun b e => ⟨(World.ownsRow.lt XI.out b e).1, Nat.lt_of_lt_of_le (World.ownsRow.lt XI.out b e).2 Z4.out⟩))
  have K9 := Lib.hid (K8.out.grown hg8 (fun e => by have := (World.ownsRow.lt XI.out _ e.symm).1; have := kz.out; omega))
  have HE8 := Lib.hid (HER.out w8 _ _ ((S8.out.g1.pr HFR.out).mono fun _ hb => hb.2) S8.out.o.r)
  clear hg8 HM7 S7 X7 P7 K8 p00 p01 p02
  go_wp2_with fail
  refine HE8.out.mono ?_
  rintro e w10 ⟨rfl, hb10⟩
  have S10 := Lib.hid (S8.out.below hb10)
  have K10 := Lib.hid (K9.out.blw hb10)
  clear hb10 HE8 S8 K9
  go_wp2_with fail
  refine (HMG.out _ _ _ S10.out.g1).mono ?_
  rintro e w11 ⟨rfl, ho11, hg11⟩
  have S11 := Lib.hid (S10.out.markG hg11 ho11)
  have K11 := Lib.hid (K10.out.grown hg11 (fun e => by have := (World.ownsRow.lt S10.out.g1 _ e.symm).1; have := kz.out; have := S34.out; have := Z4.out; omega))
  clear ho11 hg11 S10 K10
  go_wp2_with fail
  refine (HHG.out _ _ _ (S11.out.g1.pr HFM.out) (fun _ hb => hb.2)).mono ?_
  rintro e w12 ⟨rfl, hb12⟩
  have S12 := Lib.hid (S11.out.below hb12)
  have K12 := Lib.hid (K11.out.blw hb12)
  obtain ⟨m00, m01, m02, -⟩ := K12.out.three
  clear hb12 S11 K11
  go_wp2_with fail
  refine (HTO.out w12 S12.out.o.B S12.out.o.B.size).mono ?_
  rintro e w13 ⟨vd, rfl, hjd, hb13⟩
  have S13 := Lib.hid (S12.out.below hb13)
  have HOK := Lib.hid (HOI.out w13 w13 _ ((hjd.tg HLX.out).mono (S' := (· < w13.heap.size)) fun _ hb => hb.2) (Below.refl _ _) (Nat.le_refl _) (HT.out.below S13.out.o.B) (HM.out.below S13.out.o.B))
  obtain ⟨a6, c6, rfl⟩ := hjd.slice
  clear hb13 hjd S12 K12 m00 m01 m02
  go_wp2_with fail
  refine HOK.out.mono ?_
  rintro e w14 ⟨v2, rfl, ho14, hb14⟩
  have S14 := Lib.hid (S13.out.below hb14)
  have HE14 := Lib.hid (HER.out w14 _ _ ((ho14.pr HFR.out).mono fun _ hb => hb.2) S14.out.o.r)
  obtain ⟨at2, ct2, rfl⟩ := ho14.slice
  clear hb14 ho14 HOK S13
  go_wp2_with fail
  refine HE14.out.mono ?_
  rintro e w15 ⟨rfl, hb15⟩
  have S15 := Lib.hid (S14.out.below hb15)
  clear hb15 HE14 S14
  go_wp2_with fail
  refine (HHG.out _ _ _ (S15.out.g1.pr HFM.out) (fun _ hb => hb.2)).mono ?_
  rintro e w16 ⟨rfl, hb16⟩
  have B16 := Lib.hid (below_chain S15.out.o.B hb16)
  clear hb16
  go_wp2
  go_ret
  exact ⟨rfl, B16.out⟩
theorem peersOf_walk (g : Gp) (tv : Value) (W : World) (h : TgIn (· < W.heap.size) W tv g.tgs) (hn : g.name.length ≤ 9223372036854775807) (hT : Tab W) (hM : MaxL W) :
    Calls Tryz.prog 3 #[gV g tv] W fun e w' => e = .returned (.bool true) ∧ Below W.heap.size W w' := by
  obtain ⟨a1, l1, c1, rfl⟩ := h.slice
  by_cases hs : szG g ≤ 1048576
  · have hs' := hs
    unfold szG at hs'
    exact peersOf_in g a1 l1 c1 W h hs (by omega) (by omega) (fun i hi => by have := szU_get g.tgs i hi; omega) hT hM
  · have HSZ := Lib.hid (fun wx hx hy => szG_any W.heap.size W g _ h hn 1048576 wx hx hy (by omega) (by omega))
    rw [szR_out (by omega)] at HSZ
    have HB1 := Lib.hid ((Below.refl W.heap.size W).alloc (Nat.le_refl _) (gL g (.slice a1 l1 c1)))
    clear h hs hT hM
    go_enter Tryz.func3, Tryz.ntmps3
    go_wp2_with fail
    refine (HSZ.out _ HB1.out (by simp)).mono ?_
    rintro e w1 ⟨rfl, hb2⟩
    have B1 := Lib.hid (below_chain HB1.out hb2)
    clear hb2
    go_wp2
    go_ret
    exact ⟨rfl, B1.out⟩
end Go.Proofs.YtakiigddbdapaaaGreatDoor.Pe
