
/-
  The law FnExactNextWake, walked.
-/
import Derived.Test.YtakiigddbdapaaaDoorPnB
namespace Go.Proofs.YtakiigddbdapaaaDoor.Pe
open Go.RowKit
open Go.Proofs.YtakiigddbdapaaaDoor.Gr (szR szR_in szR_out belI_step belI_alloc ret_b ret_i)
open Go.Proofs.YtakiigddbdapaaaDoor.Ul (Tab MaxL)
open Go.Proofs.YtakiigddbdapaaaDoor.Mk
theorem url_le3 : ∀ (xs : List Pr) (i : Nat), i < xs.length → (xs.getD i default).url.length ≤ szP xs
  | [], _, h => by simp at h
  | x :: r, 0, _ => by simp [szP]
  | x :: r, i + 1, h => by
    have := url_le3 r i (by simpa using h)
    simp only [szP, List.getD_cons_succ]
    omega
set_option maxRecDepth 100000 in
set_option maxHeartbeats 4000000 in
theorem nextWake_in (xs : List Pr) (a1 : Option Addr) (l1 c1 : Nat) (now : Int) (W : World) (h : PrIn (· < W.heap.size) W (.slice a1 l1 c1) xs) (hs : xs.length + szP xs ≤ 1048576) (hT : Tab W) (hM : MaxL W) :
    Calls Tryd.prog 4 #[.slice a1 l1 c1, .int .i64 now] W fun e w' => e = .returned (.bool true) ∧ Below W.heap.size W w' := by
  have hsx : xs.length ≤ 1048576 := by omega
  have hlx : ∀ i, i < xs.length → (xs.getD i default).url.length ≤ 1048576 := fun i hi => by have := url_le3 xs i hi; omega
  have hlm : ∀ i, i < xs.length → (xs.getD i default).url.length ≤ 9223372036854775807 := fun i hi => by have := hlx i hi; omega
  have HSZ := Lib.hid (fun wx hx hy => szPrs_any W.heap.size W xs _ h 1048576 wx hx hy (by omega) (by omega))
  rw [szR_in (by omega)] at HSZ
  have g1 : ¬ (1048576 - ((xs.length + szP xs : Nat) : Int) < 0) := by omega
  generalize 1048576 - ((xs.length + szP xs : Nat) : Int) = z at *
  have HTO := Lib.hid (fun wx hx hy => toPrs_any W.heap.size W xs _ h hsx wx hx hy)
  have HT := Lib.hid hT
  have HM := Lib.hid hM
  have HLX := Lib.hid hlm
  obtain ⟨V, hV⟩ : ∃ r, nwV xs now = r := ⟨_, rfl⟩
  obtain ⟨C, hC⟩ : ∃ r, nwC xs now = r := ⟨_, rfl⟩
  have HOS := Lib.hid (fun (W' : World) (v : Value) (h : PrIn (· < W'.heap.size) W' v xs) => show Calls Tryd.prog 12 #[v, .int .i64 now] W' (Two W' V C) from hV ▸ hC ▸ wakeS_any W'.heap.size W' xs v h hlx now W' (Below.refl _ _) (Nat.le_refl _))
  have HOI := Lib.hid (fun (W' : World) (v : Value) (h : PrIn (· < W'.heap.size) W' v xs) h2 h3 => show Calls Tryd.prog 13 #[v, .int .i64 now] W' (Two W' V C) from hV ▸ hC ▸ wakeI_any W'.heap.size W' xs v h now W' (Below.refl _ _) (Nat.le_refl _) h2 h3)
  have HEX := Lib.hid (fun (w : World) (v u : Value) (h1 : PrIn (· < w.heap.size) w v xs) (h2 : PrIn (· < w.heap.size) w u xs) => eqPrs_self w.heap.size w xs v u h1 h2 w (Below.refl _ _) (Nat.le_refl _))
  have err : (V != V) = false := by simp
  have err2 : (C != C) = false := by simp
  clear hV hC hs h hsx hlx hlm hT hM
  go_enter Tryd.func4, Tryd.ntmps4
  go_wp2_with fail
  refine (HSZ.out _ (Below.refl _ _) (Nat.le_refl _)).mono ?_
  rintro e w1 ⟨rfl, hb1⟩
  have B1 := Lib.hid hb1
  clear hb1 HSZ
  go_wp2_with fail
  refine (HTO.out w1 B1.out B1.out.size).mono ?_
  rintro e w2 ⟨va, rfl, hja, hb2⟩
  obtain ⟨aa, ca, rfl⟩ := hja.slice
  have B2 := Lib.hid (below_chain B1.out hb2)
  have HOK := Lib.hid (HOS.out w2 _ ((hja.pr HLX.out).mono fun _ hb => hb.2))
  clear hb2 hja B1 HOS
  go_wp2_with fail
  refine HOK.out.mono ?_
  rintro e w3 ⟨rfl, hb3⟩
  have B3 := Lib.hid (below_chain B2.out hb3)
  clear hb3 HOK B2
  go_wp2_with fail
  refine (HTO.out w3 B3.out B3.out.size).mono ?_
  rintro e w4 ⟨vb, rfl, hjb, hb4⟩
  obtain ⟨a4, c4, rfl⟩ := hjb.slice
  have B4 := Lib.hid (below_chain B3.out hb4)
  have XI := Lib.hid hjb
  have HOK := Lib.hid (HOI.out w4 _ ((hjb.pr HLX.out).mono fun _ hb => hb.2) (HT.out.below B4.out) (HM.out.below B4.out))
  clear hb4 hjb B3
  go_wp2_with fail
  refine HOK.out.mono ?_
  rintro e w5 ⟨rfl, hb5⟩
  have X5 := Lib.hid (XI.out.below hb5)
  have B5 := Lib.hid (below_chain B4.out hb5)
  clear hb5 HOK B4 XI
  all_goals
    go_wp2_with fail
    refine (HTO.out w5 B5.out B5.out.size).mono ?_
    rintro e w7 ⟨vc, rfl, hjc, hb7⟩
    obtain ⟨a7, c7, rfl⟩ := hjc.slice
    have X7 := Lib.hid (X5.out.below hb7)
    have B7 := Lib.hid (below_chain B5.out hb7)
    have HE7 := Lib.hid (HEX.out w7 _ _ ((X7.out.pr HLX.out).mono fun _ hb => hb.2) ((hjc.pr HLX.out).mono fun _ hb => hb.2))
    clear hb7 hjc X5
    go_wp2_with fail
    refine HE7.out.mono ?_
    rintro e w8 ⟨rfl, hb8⟩
    have B8 := Lib.hid (below_chain B7.out hb8)
    clear hb8
    go_wp2
    go_ret
    exact ⟨rfl, B8.out⟩
theorem nextWake_walk (xs : List Pr) (v : Value) (now : Int) (W : World) (h : PrIn (· < W.heap.size) W v xs) (hT : Tab W) (hM : MaxL W) :
    Calls Tryd.prog 4 #[v, .int .i64 now] W fun e w' => e = .returned (.bool true) ∧ Below W.heap.size W w' := by
  obtain ⟨a1, l1, c1, rfl⟩ := h.slice
  by_cases hs : xs.length + szP xs ≤ 1048576
  · exact nextWake_in xs a1 l1 c1 now W h hs hT hM
  · have HSZ := Lib.hid (fun wx hx hy => szPrs_any W.heap.size W xs _ h 1048576 wx hx hy (by omega) (by omega))
    rw [szR_out (by omega)] at HSZ
    clear h hs hT hM
    go_enter Tryd.func4, Tryd.ntmps4
    go_wp2_with fail
    refine (HSZ.out _ (Below.refl _ _) (Nat.le_refl _)).mono ?_
    rintro e w1 ⟨rfl, hb1⟩
    have B1 := Lib.hid hb1
    clear hb1
    go_wp2
    go_ret
    exact ⟨rfl, B1.out⟩
end Go.Proofs.YtakiigddbdapaaaDoor.Pe
