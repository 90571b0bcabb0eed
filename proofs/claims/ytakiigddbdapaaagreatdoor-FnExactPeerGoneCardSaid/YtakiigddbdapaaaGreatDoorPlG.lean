
/-
  The law FnExactPeerGone, walked.
-/
import Derived.Test.YtakiigddbdapaaaGreatDoorPeS
namespace Go.Proofs.YtakiigddbdapaaaGreatDoor.Pe
open Go.RowKit
open Go.Proofs.YtakiigddbdapaaaGreatDoor.Gr (szR szR_in szR_out belI_step belI_alloc)
open Go.Proofs.YtakiigddbdapaaaGreatDoor.Ul (Tab MaxL)
open Go.Proofs.YtakiigddbdapaaaGreatDoor.Mk
set_option maxRecDepth 100000 in
set_option maxHeartbeats 8000000 in
theorem peerGone_in (xs : List Pr) (a1 : Option Addr) (l1 c1 : Nat) (k : Int) (W : World) (h : PrIn (· < W.heap.size) W (.slice a1 l1 c1) xs) (hs : xs.length + szP xs ≤ 1048576) (hT : Tab W) (hM : MaxL W) :
    Calls Tryz.prog 7 #[.slice a1 l1 c1, .int .i64 k] W fun e w' => e = .returned (.bool true) ∧ Below W.heap.size W w' := by
  have hsx : xs.length ≤ 1048576 := by omega
  have hlx : ∀ i, i < xs.length → (xs.getD i default).url.length ≤ 1048576 := fun i hi => by have := url_le xs i hi; omega
  have hlm : ∀ i, i < xs.length → (xs.getD i default).url.length ≤ 9223372036854775807 := fun i hi => by have := hlx i hi; omega
  have HSZ := Lib.hid (fun wx hx hy => szPrs_any W.heap.size W xs _ h 1048576 wx hx hy (by omega) (by omega))
  rw [szR_in (by omega)] at HSZ
  have g1 : ¬ (1048576 - ((xs.length + szP xs : Nat) : Int) < 0) := by omega
  generalize 1048576 - ((xs.length + szP xs : Nat) : Int) = z at *
  have HTO := Lib.hid (fun wx hx hy => toPrs_any W.heap.size W xs _ h hsx wx hx hy)
  have HT := Lib.hid hT
  have HM := Lib.hid hM
  have HLX := Lib.hid hlm
  have hnr := near_pg xs k
  obtain ⟨R, hR⟩ : ∃ R, pgR xs k = R := ⟨_, rfl⟩
  obtain ⟨C, hC⟩ : ∃ C, pgC xs k = C := ⟨_, rfl⟩
  have HOS := Lib.hid (fun (W' : World) (v : Value) (h : PrIn (· < W'.heap.size) W' v xs) => show Calls Tryz.prog 26 #[v, .int .i64 k] W' (NewL W' R C) from hR ▸ hC ▸ goneS_any W'.heap.size W' xs v h hlx k W' (Below.refl _ _) (Nat.le_refl _))
  have HOI := Lib.hid (fun (W' : World) (v : Value) (h : PrIn (· < W'.heap.size) W' v xs) h2 h3 => show Calls Tryz.prog 27 #[v, .int .i64 k] W' (NewL W' R C) from hR ▸ hC ▸ goneI_any W'.heap.size W' xs v h hlx k W' (Below.refl _ _) (Nat.le_refl _) h2 h3)
  rw [hR] at hnr
  have HFR := Lib.hid (hnr.2 9223372036854775807 hlm)
  have hrl : R.length ≤ 1048576 := Nat.le_trans hnr.1 hsx
  have HER := Lib.hid (fun (w : World) (v u : Value) (h1 : PrIn (· < w.heap.size) w v R) (h2 : PrIn (· < w.heap.size) w u R) => eqPrs_self w.heap.size w R v u h1 h2 w (Below.refl _ _) (Nat.le_refl _))
  have HEX := Lib.hid (fun (w : World) (v u : Value) (h1 : PrIn (· < w.heap.size) w v xs) (h2 : PrIn (· < w.heap.size) w u xs) => eqPrs_self w.heap.size w xs v u h1 h2 w (Below.refl _ _) (Nat.le_refl _))
  have HMX := Lib.hid (fun (base : Nat) (v : Value) (w : World) (h : O6 w base v xs) => markPrs_any base v xs 1 w h (by omega) (by omega))
  have HMG := Lib.hid (fun (base : Nat) (v : Value) (w : World) (h : O6 w base v R) => markPrs_any base v R 1 w h (by omega) (by omega))
  have HHG := Lib.hid (fun (S : Nat → Prop) (v : Value) (w : World) (h : PrIn S w v (mpr R.length 1)) hS => heldPrs_any S v R.length 1 w h hS (by omega) (by omega))
  have HFM := Lib.hid (mpr_lens R.length 1 (by omega))
  have gk : ¬ (((1 + 6 * xs.length : Nat) : Int) < 0) := by omega
  have gm : ¬ (((1 + 6 * R.length : Nat) : Int) < 0) := by omega
  have ecc : (C != C) = false := by simp
  generalize 1 + 6 * xs.length = kx at *
  generalize 1 + 6 * R.length = km at *
  clear hR hC hs h hsx hlx hlm hnr hrl hT hM
  go_enter Tryz.func7, Tryz.ntmps7
  go_wp2_with fail
  refine (HSZ.out _ (Below.refl _ _) (Nat.le_refl _)).mono ?_
  rintro e w1 ⟨rfl, hb1⟩
  have B1 := Lib.hid hb1
  clear hb1 HSZ
  go_wp2_with fail
  refine (HTO.out w1 B1.out B1.out.size).mono ?_
  rintro e w2 ⟨va, rfl, hja, hb2⟩
  obtain ⟨aa, ca, rfl⟩ := hja.slice
  have B2 := Lib.hid (below_chain B1.out hb2)
  have HOK := Lib.hid (HOS.out w2 _ ((hja.pr HLX.out).mono fun _ hb => hb.2))
  clear hb2 hja B1 HOS
  go_wp2_with fail
  refine HOK.out.mono ?_
  rintro e w3 ⟨v0, rfl, ho3, hb3⟩
  have T3 := Lib.hid (show S0 W w3.heap.size v0 R w3 from ⟨below_chain B2.out hb3, (ho3.pr HFR.out).mono fun _ hb => hb.2, (below_chain B2.out hb3).size, Nat.le_refl _⟩)
  obtain ⟨at0, ct0, rfl⟩ := ho3.slice
  clear hb3 ho3 HOK B2
  go_wp2_with fail
  refine (HTO.out w3 T3.out.B T3.out.zA).mono ?_
  rintro e w4 ⟨vb, rfl, hjb, hb4⟩
  obtain ⟨a4, c4, rfl⟩ := hjb.slice
  have T4 := Lib.hid (T3.out.below hb4)
  have XI := Lib.hid hjb
  have HOK := Lib.hid (HOI.out w4 _ ((hjb.pr HLX.out).mono fun _ hb => hb.2) (HT.out.below T4.out.B) (HM.out.below T4.out.B))
  have s34 : w3.heap.size ≤ w4.heap.size := hb4.size
  clear hb4 hjb T3
  go_wp2_with fail
  refine HOK.out.mono ?_
  rintro e w5 ⟨v1, rfl, ho5, hb5⟩
  have X5 := Lib.hid (XI.out.below hb5)
  have S5 := Lib.hid (show S1 W w3.heap.size (.slice at0 R.length ct0) R w4.heap.size v1 R w5 from ⟨T4.out.below hb5, s34, hb5.size, ho5⟩)
  obtain ⟨at1, ct1, rfl⟩ := ho5.slice
  have HE5 := Lib.hid (HER.out w5 _ _ ((S5.out.g1.pr HFR.out).mono fun _ hb => hb.2) S5.out.o.r)
  clear hb5 ho5 T4 HOK
  go_wp2_with fail
  refine HE5.out.mono ?_
  rintro e w6 ⟨rfl, hb6⟩
  have S6 := Lib.hid (S5.out.below hb6)
  have X6 := Lib.hid (X5.out.below hb6)
  clear hb6 HE5 S5 X5
  go_wp2_with fail
  refine (HTO.out w6 S6.out.o.B S6.out.o.B.size).mono ?_
  rintro e w7 ⟨vc, rfl, hjc, hb7⟩
  obtain ⟨a7, c7, rfl⟩ := hjc.slice
  have S7 := Lib.hid (S6.out.below hb7)
  have X7 := Lib.hid (X6.out.below hb7)
  have HE7 := Lib.hid (HEX.out w7 _ _ ((X7.out.pr HLX.out).mono fun _ hb => hb.2) ((hjc.pr HLX.out).mono fun _ hb => hb.2))
  clear hb7 hjc S6 X6
  go_wp2_with fail
  refine HE7.out.mono ?_
  rintro e w8 ⟨rfl, hb8⟩
  have S8 := Lib.hid (S7.out.below hb8)
  have HM8 := Lib.hid (HMX.out _ _ _ (X7.out.below hb8))
  clear hb8 HE7 S7 X7
  go_wp2_with fail
  refine HM8.out.mono ?_
  rintro e w9 ⟨rfl, -, hg9⟩
  have S9 := Lib.hid (S8.out.markX (Ch.of_grown (S := fun b => (Value.slice a4 xs.length c4).ownBlock = some b) hg9 fun _ e => e) (fun b e => World.ownsRow.lt XI.out b e))
  have HE9 := Lib.hid (HER.out w9 _ _ ((S9.out.g1.pr HFR.out).mono fun _ hb => hb.2) S9.out.o.r)
  clear hg9 HM8 S8
  go_wp2_with fail
  refine HE9.out.mono ?_
  rintro e w10 ⟨rfl, hb10⟩
  have S10 := Lib.hid (S9.out.below hb10)
  clear hb10 HE9 S9
  go_wp2_with fail
  refine (HMG.out _ _ _ S10.out.g1).mono ?_
  rintro e w11 ⟨rfl, ho11, hg11⟩
  have S11 := Lib.hid (S10.out.markG hg11 ho11)
  clear ho11 hg11 S10
  go_wp2_with fail
  refine (HHG.out _ _ _ (S11.out.g1.pr HFM.out) (fun _ hb => hb.2)).mono ?_
  rintro e w12 ⟨rfl, hb12⟩
  have S12 := Lib.hid (S11.out.below hb12)
  clear hb12 S11
  go_wp2_with fail
  refine (HTO.out w12 S12.out.o.B S12.out.o.B.size).mono ?_
  rintro e w13 ⟨vd, rfl, hjd, hb13⟩
  have S13 := Lib.hid (S12.out.below hb13)
  have HOK := Lib.hid (HOI.out w13 _ ((hjd.pr HLX.out).mono fun _ hb => hb.2) (HT.out.below S13.out.o.B) (HM.out.below S13.out.o.B))
  obtain ⟨a6, c6, rfl⟩ := hjd.slice
  clear hb13 hjd S12
  go_wp2_with fail
  refine HOK.out.mono ?_
  rintro e w14 ⟨v2, rfl, ho14, hb14⟩
  have S14 := Lib.hid (S13.out.below hb14)
  have HE14 := Lib.hid (HER.out w14 _ _ ((ho14.pr HFR.out).mono fun _ hb => hb.2) S14.out.o.r)
  obtain ⟨at2, ct2, rfl⟩ := ho14.slice
  clear hb14 ho14 HOK S13
  go_wp2_with fail
  refine HE14.out.mono ?_
  rintro e w15 ⟨rfl, hb15⟩
  have S15 := Lib.hid (S14.out.below hb15)
  clear hb15 HE14 S14
  go_wp2_with fail
  refine (HHG.out _ _ _ (S15.out.g1.pr HFM.out) (fun _ hb => hb.2)).mono ?_
  rintro e w16 ⟨rfl, hb16⟩
  have B16 := Lib.hid (below_chain S15.out.o.B hb16)
  clear hb16
  go_wp2
  go_ret
  exact ⟨rfl, B16.out⟩
theorem peerGone_walk (xs : List Pr) (v : Value) (k : Int) (W : World) (h : PrIn (· < W.heap.size) W v xs) (hT : Tab W) (hM : MaxL W) :
    Calls Tryz.prog 7 #[v, .int .i64 k] W fun e w' => e = .returned (.bool true) ∧ Below W.heap.size W w' := by
  obtain ⟨a1, l1, c1, rfl⟩ := h.slice
  by_cases hs : xs.length + szP xs ≤ 1048576
  · exact peerGone_in xs a1 l1 c1 k W h hs hT hM
  · have HSZ := Lib.hid (fun wx hx hy => szPrs_any W.heap.size W xs _ h 1048576 wx hx hy (by omega) (by omega))
    rw [szR_out (by omega)] at HSZ
    clear h hs hT hM
    go_enter Tryz.func7, Tryz.ntmps7
    go_wp2_with fail
    refine (HSZ.out _ (Below.refl _ _) (Nat.le_refl _)).mono ?_
    rintro e w1 ⟨rfl, hb1⟩
    have B1 := Lib.hid hb1
    clear hb1
    go_wp2
    go_ret
    exact ⟨rfl, B1.out⟩
end Go.Proofs.YtakiigddbdapaaaGreatDoor.Pe
