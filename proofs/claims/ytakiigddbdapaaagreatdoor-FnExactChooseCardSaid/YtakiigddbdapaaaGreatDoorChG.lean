
/-
  The law FnExactChoose, walked.
-/
import Derived.Test.YtakiigddbdapaaaGreatDoorChF
import Derived.Test.YtakiigddbdapaaaGreatDoorPeS
namespace Go.Proofs.YtakiigddbdapaaaGreatDoor.Pe
open Go.RowKit
open Go.Proofs.YtakiigddbdapaaaGreatDoor.Gr (szR szR_in szR_out belI_step belI_alloc)
open Go.Proofs.YtakiigddbdapaaaGreatDoor.Ul (Tab MaxL)
open Go.Proofs.YtakiigddbdapaaaGreatDoor.Mk
set_option maxRecDepth 100000 in
set_option maxHeartbeats 8000000 in
theorem choose_in (xs : List Pr) (a1 : Option Addr) (l1 c1 : Nat) (now draw : Int) (W : World) (h : PrIn (· < W.heap.size) W (.slice a1 l1 c1) xs) (hs : xs.length + szP xs ≤ 1048576) (hT : Tab W) (hM : MaxL W) :
    Calls Tryz.prog 4 #[.slice a1 l1 c1, .int .i64 now, .int .i64 draw] W fun e w' => e = .returned (.bool true) ∧ Below W.heap.size W w' := by
  have hsx : xs.length ≤ 1048576 := by omega
  have hlx : ∀ i, i < xs.length → (xs.getD i default).url.length ≤ 1048576 := fun i hi => by have := url_le xs i hi; omega
  have hlm : ∀ i, i < xs.length → (xs.getD i default).url.length ≤ 9223372036854775807 := fun i hi => by have := hlx i hi; omega
  have HSZ := Lib.hid (fun wx hx hy => szPrs_any W.heap.size W xs _ h 1048576 wx hx hy (by omega) (by omega))
  rw [szR_in (by omega)] at HSZ
  have g1 : ¬ (1048576 - ((xs.length + szP xs : Nat) : Int) < 0) := by omega
  generalize 1048576 - ((xs.length + szP xs : Nat) : Int) = z at *
  have HTO := Lib.hid (fun wx hx hy => toPrs_any W.heap.size W xs _ h hsx wx hx hy)
  have HT := Lib.hid hT
  have HM := Lib.hid hM
  have HLX := Lib.hid hlm
  obtain ⟨P, hP⟩ : ∃ P, hoP xs now draw = P := ⟨_, rfl⟩
  obtain ⟨C, hC⟩ : ∃ C, hoC xs now draw = C := ⟨_, rfl⟩
  have HOS := Lib.hid (fun (W' : World) (v : Value) (h : PrIn (· < W'.heap.size) W' v xs) => show Calls Tryz.prog 19 #[v, .int .i64 now, .int .i64 draw] W' (Ho W' P C) from hP ▸ hC ▸ hoS_any W'.heap.size W' xs v h hlx now draw W' (Below.refl _ _) (Nat.le_refl _))
  have HOI := Lib.hid (fun (W' : World) (v : Value) (h : PrIn (· < W'.heap.size) W' v xs) h2 h3 => show Calls Tryz.prog 21 #[v, .int .i64 now, .int .i64 draw] W' (Ho W' P C) from hP ▸ hC ▸ hoI_any W'.heap.size W' xs v h now draw W' (Below.refl _ _) (Nat.le_refl _) h2 h3)
  have HEX := Lib.hid (fun (w : World) (v u : Value) (h1 : PrIn (· < w.heap.size) w v xs) (h2 : PrIn (· < w.heap.size) w u xs) => eqPrs_self w.heap.size w xs v u h1 h2 w (Below.refl _ _) (Nat.le_refl _))
  have ecc : (C != C) = false := by simp
  have epp : (P != P) = false := by simp
  clear hP hC hs h hsx hlx hlm hT hM
  go_enter Tryz.func4, Tryz.ntmps4
  go_wp2_with fail
  refine (HSZ.out _ (Below.refl _ _) (Nat.le_refl _)).mono ?_
  rintro e w1 ⟨rfl, hb1⟩
  have B1 := Lib.hid hb1
  clear hb1 HSZ
  go_wp2_with fail
  refine (HTO.out w1 B1.out B1.out.size).mono ?_
  rintro e w2 ⟨va, rfl, hja, hb2⟩
  obtain ⟨aa, ca, rfl⟩ := hja.slice
  have B2 := Lib.hid (below_chain B1.out hb2)
  have HOK := Lib.hid (HOS.out w2 _ ((hja.pr HLX.out).mono fun _ hb => hb.2))
  clear hb2 hja B1 HOS
  go_wp2_with fail
  refine HOK.out.mono ?_
  rintro e w3 ⟨rfl, hb3⟩
  have B3 := Lib.hid (below_chain B2.out hb3)
  clear hb3 HOK B2
  go_wp2_with fail
  refine (HTO.out w3 B3.out B3.out.size).mono ?_
  rintro e w4 ⟨vb, rfl, hjb, hb4⟩
  obtain ⟨a4, c4, rfl⟩ := hjb.slice
  have B4 := Lib.hid (below_chain B3.out hb4)
  have XI := Lib.hid hjb
  have HOK := Lib.hid (HOI.out w4 _ ((hjb.pr HLX.out).mono fun _ hb => hb.2) (HT.out.below B4.out) (HM.out.below B4.out))
  clear hb4 hjb B3
  go_wp2_with fail
  refine HOK.out.mono ?_
  rintro e w5 ⟨rfl, hb5⟩
  have B5 := Lib.hid (below_chain B4.out hb5)
  have X5 := Lib.hid (XI.out.below hb5)
  clear hb5 HOK B4
  go_wp2_with fail
  refine (HTO.out w5 B5.out B5.out.size).mono ?_
  rintro e w6 ⟨vc, rfl, hjc, hb6⟩
  obtain ⟨a6, c6, rfl⟩ := hjc.slice
  have B6 := Lib.hid (below_chain B5.out hb6)
  have X6 := Lib.hid (X5.out.below hb6)
  have HE6 := Lib.hid (HEX.out w6 _ _ ((X6.out.pr HLX.out).mono fun _ hb => hb.2) ((hjc.pr HLX.out).mono fun _ hb => hb.2))
  clear hb6 hjc X5 B5
  go_wp2_with fail
  refine HE6.out.mono ?_
  rintro e w7 ⟨rfl, hb7⟩
  have B7 := Lib.hid (below_chain B6.out hb7)
  clear hb7 HE6
  go_wp2
  go_ret
  exact ⟨rfl, B7.out⟩
set_option maxRecDepth 100000 in
theorem choose_walk (xs : List Pr) (v : Value) (now draw : Int) (W : World) (h : PrIn (· < W.heap.size) W v xs) (hT : Tab W) (hM : MaxL W) :
    Calls Tryz.prog 4 #[v, .int .i64 now, .int .i64 draw] W fun e w' => e = .returned (.bool true) ∧ Below W.heap.size W w' := by
  obtain ⟨a1, l1, c1, rfl⟩ := h.slice
  by_cases hs : xs.length + szP xs ≤ 1048576
  · exact choose_in xs a1 l1 c1 now draw W h hs hT hM
  · have HSZ := Lib.hid (fun wx hx hy => szPrs_any W.heap.size W xs _ h 1048576 wx hx hy (by omega) (by omega))
    rw [szR_out (by omega)] at HSZ
    clear h hs hT hM
    go_enter Tryz.func4, Tryz.ntmps4
    go_wp2_with fail
    refine (HSZ.out _ (Below.refl _ _) (Nat.le_refl _)).mono ?_
    rintro e w1 ⟨rfl, hb1⟩
    have B1 := Lib.hid hb1
    clear hb1
    go_wp2
    go_ret
    exact ⟨rfl, B1.out⟩
end Go.Proofs.YtakiigddbdapaaaGreatDoor.Pe
