
/-
  The law FnExactPolicyOK, walked.
-/
import Derived.Test.YtjnlnndeadihoaaGreatDoorPoO
import Derived.Test.YtjnlnndeadihoaaGreatDoorPoMem
namespace Go.Proofs.YtjnlnndeadihoaaGreatDoor.Po
open Go.RowKit
open Go.Proofs.YtjnlnndeadihoaaGreatDoor.Tx
open Go.Proofs.YtjnlnndeadihoaaGreatDoor.Ul hiding ret_bool
theorem szT_get : ∀ (xs : List (List UInt8)) (i : Nat), i < xs.length → (xs.getD i []).length ≤ szT xs
  | [], _, h => by simp at h
  | x :: r, 0, _ => by simp [szT]
  | x :: r, i + 1, h => by
    have := szT_get r i (by simpa using h)
    simp only [szT, List.getD_cons_succ]
    omega
theorem szLs_get : ∀ (xs : List Rl) (i : Nat), i < xs.length → szL (xs.getD i default) ≤ szLs xs
  | [], _, h => by simp at h
  | x :: r, 0, _ => by simp [szLs]
  | x :: r, i + 1, h => by
    have := szLs_get r i (by simpa using h)
    simp only [szLs, List.getD_cons_succ]
    omega
theorem small_of (p : Pl) (h : szP p ≤ 1048576) : Small p := by
  unfold szP at h
  refine ⟨by omega, by omega, fun i hi => ?_, by omega, fun i hi => ?_, fun i hi => ⟨?_, fun j hj => ?_⟩⟩
  · have := szT_get p.uris i hi; omega
  · have := szLs_get p.rules i hi; unfold szL at this; omega
  · have := szLs_get p.rules i hi; unfold szL at this; omega
  · have := szLs_get p.rules i hi; unfold szL at this; have := szT_get _ j hj; omega
theorem below_chain {W w w' : World} (h : Below W.heap.size W w) (h2 : Below w.heap.size w w') : Below W.heap.size W w' := h.trans (h2.mono h.size)
abbrev aO (p : Pl) (u v : Value) : Obj := .cells #[.string ⟨p.rep.toArray⟩, u, v] 25
abbrev xO (p : Pl) (u v : Value) : Obj := .cells #[.string ⟨p.rep.toArray⟩, u, v] 30
set_option maxRecDepth 100000 in
set_option maxHeartbeats 8000000 in
theorem policyOK_in (p : Pl) (a1 : Option Addr) (l1 c1 : Nat) (a2 : Option Addr) (l2 c2 : Nat) (W : World) (hu : TxtsIn (· < W.heap.size) W (.slice a1 l1 c1) p.uris) (hr : RlIn (· < W.heap.size) W (.slice a2 l2 c2) p.rules) (hs : szP p ≤ 1048576) (hT : Tab W) (hM : MaxL W) :
    Calls Tryz.prog 3 #[pV p (.slice a1 l1 c1) (.slice a2 l2 c2)] W fun e w' => e = .returned (.bool true) ∧ Below W.heap.size W w' := by
  have sm := small_of p hs
  have HSZ := Lib.hid (fun wx hx hy => szP_any W.heap.size W p _ _ hu hr (Nat.le_trans sm.rep (by omega)) 1048576 wx hx hy (by omega) (by omega))
  rw [szR_in (by omega)] at HSZ
  have g1 : ¬ (1048576 - (szP p : Int) < 0) := by omega
  generalize 1048576 - (szP p : Int) = z at *
  have HTO := Lib.hid (fun wx hx hy => toP_any W.heap.size W p _ _ hu hr sm.uris sm.rules (fun i hi => (sm.words i hi).1) wx hx hy)
  have HT := Lib.hid hT
  have HM := Lib.hid hM
  clear hT hM
  obtain ⟨r, hr2⟩ : ∃ r, plB p = r := ⟨_, rfl⟩
  have HOS := Lib.hid (fun (W' : World) (u v : Value) (h : TxtsIn (· < W'.heap.size) W' u p.uris) (h2 : RlIn (· < W'.heap.size) W' v p.rules) => hr2 ▸ polS_any W'.heap.size W' p u v h h2 sm W' (Below.refl _ _) (Nat.le_refl _))
  have HOI := Lib.hid (fun (w0 W' : World) (u v : Value) (h : TxtsIn (· < w0.heap.size) w0 u p.uris) (h1 : RlIn (· < w0.heap.size) w0 v p.rules) h2 h3 h4 h5 => hr2 ▸ polI_any w0.heap.size w0 p u v h h1 sm W' h2 h3 h4 h5)
  have HEQ := Lib.hid (fun (w0 : World) (u v u' v' : Value) (h1 : TxtsIn (· < w0.heap.size) w0 u p.uris) (h2 : RlIn (· < w0.heap.size) w0 v p.rules) (h3 : TxtsIn (· < w0.heap.size) w0 u' p.uris) (h4 : RlIn (· < w0.heap.size) w0 v' p.rules) => eqP_self w0.heap.size w0 p u v u' v' h1 h2 h3 h4 w0 (Below.refl _ _) (Nat.le_refl _))
  have HK1 := Lib.hid (heap_alloc_new W (aO p (.slice a1 l1 c1) (.slice a2 l2 c2)))
  have HB1 := Lib.hid ((Below.refl W.heap.size W).alloc (Nat.le_refl _) (aO p (.slice a1 l1 c1) (.slice a2 l2 c2)))
  clear hr2 hs sm hu hr
  go_enter Tryz.func3, Tryz.ntmps3
  go_wp2_with fail
  refine (HSZ.out _ HB1.out (by simp)).mono ?_
  rintro e w1 ⟨rfl, hb2⟩
  have k1 := (hb2.block _ (by simp)).trans HK1.out
  obtain ⟨m00, m01, m02, -⟩ := three_cells k1
  have K1 := Lib.hid k1
  have z1 : W.heap.size < w1.heap.size := by have := hb2.size; simp at this; omega
  have B1 := Lib.hid (below_chain HB1.out hb2)
  clear hb2 k1
  go_wp2_with fail
  refine (HTO.out w1 B1.out (by omega)).mono ?_
  rintro e w2 ⟨ua, va, rfl, hja, hka, hb2⟩
  obtain ⟨aa, la, ca, rfl⟩ := hja.slice
  obtain ⟨ab, lb, cb, rfl⟩ := hka.slice
  have K2 := Lib.hid ((hb2.block _ z1).trans K1.out)
  have z2 : W.heap.size < w2.heap.size := Nat.lt_of_lt_of_le z1 hb2.size
  have B2 := Lib.hid (below_chain B1.out hb2)
  have HOK := Lib.hid (HOS.out w2 _ _ (hja.mono fun _ hb => hb.2) (hka.mono fun _ hb => hb.2))
  clear hb2 hja hka m00 m01 m02 HOS
  go_wp2_with fail
  refine HOK.out.mono ?_
  rintro e w3 ⟨rfl, hb3⟩
  have k3 := (hb3.block _ z2).trans K2.out
  have K3 := Lib.hid k3
  obtain ⟨m00, m01, m02, -⟩ := three_cells k3
  have z3 : W.heap.size < w3.heap.size := Nat.lt_of_lt_of_le z2 hb3.size
  have B3 := Lib.hid (below_chain B2.out hb3)
  clear hb3 k3
  go_wp2_with fail
  refine (HTO.out w3 B3.out (by omega)).mono ?_
  rintro e w4 ⟨ub, vb, rfl, hjb, hkb, hb4⟩
  obtain ⟨a4, l4, c4, rfl⟩ := hjb.slice
  obtain ⟨a5, l5, c5, rfl⟩ := hkb.slice
  have K4 := Lib.hid ((hb4.block _ z3).trans K3.out)
  have z4 : W.heap.size < w4.heap.size := Nat.lt_of_lt_of_le z3 hb4.size
  have B4 := Lib.hid (below_chain B3.out hb4)
  have HJB := Lib.hid (hjb.mono (S' := (· < w4.heap.size)) fun _ hb => hb.2)
  have HKB := Lib.hid (hkb.mono (S' := (· < w4.heap.size)) fun _ hb => hb.2)
  clear hb4 hjb hkb m00 m01 m02
  have HK5 := Lib.hid (heap_alloc_new w4 (xO p (.slice a4 l4 c4) (.slice a5 l5 c5)))
  have A45 := Lib.hid ((Below.refl w4.heap.size w4).alloc (Nat.le_refl _) (xO p (.slice a4 l4 c4) (.slice a5 l5 c5)))
  have B4a := Lib.hid (below_chain B4.out A45.out)
  go_wp2_with fail
  refine (HOI.out w4 _ _ _ HJB.out HKB.out A45.out (by simp) (HT.out.below B4a.out) (HM.out.below B4a.out)).mono ?_
  rintro e w5 ⟨rfl, hb5⟩
  obtain ⟨p00, p01, p02, -⟩ := three_cells ((hb5.block _ (by simp)).trans HK5.out)
  obtain ⟨m00, m01, m02, -⟩ := three_cells ((hb5.block _ (by simp; omega)).trans ((heap_alloc_old _ _ z4).trans K4.out))
  have z5 : W.heap.size < w5.heap.size := by have := hb5.size; simp at this; omega
  have y5 : w4.heap.size < w5.heap.size := by have := hb5.size; simp at this; omega
  have B45 : Below w4.heap.size w4 w5 := A45.out.trans (hb5.mono (by simp))
  have B5 := Lib.hid (below_chain B4.out B45)
  clear hb5
  have hRR : Below w5.heap.size w5 w5 := Below.refl _ _
  have HB45 := Lib.hid B45
  clear B45
  cases r
  all_goals
    go_wp2_with fail
    go_region_held3 (fun wx => wx.cell? ⟨W.heap.size, 0, none⟩ = some (.string ⟨p.rep.toArray⟩) ∧ wx.cell? ⟨W.heap.size, 1, none⟩ = some (.slice a1 l1 c1) ∧ wx.cell? ⟨W.heap.size, 2, none⟩ = some (.slice a2 l2 c2) ∧
        wx.cell? ⟨w4.heap.size, 0, none⟩ = some (.string ⟨p.rep.toArray⟩) ∧ wx.cell? ⟨w4.heap.size, 1, none⟩ = some (.slice a4 l4 c4) ∧ wx.cell? ⟨w4.heap.size, 2, none⟩ = some (.slice a5 l5 c5) ∧
        W.heap.size < wx.heap.size ∧ w4.heap.size < wx.heap.size ∧ Below w5.heap.size w5 wx)
      (first
        | (simp [*, Below.drew]; done)
        | (go_split_ands
           refine ⟨?_, ?_, ?_, ?_, ?_, ?_, Nat.lt_of_lt_of_le (by assumption) hb.size, Nat.lt_of_lt_of_le (by assumption) hb.size, belI_step (by assumption) hb⟩
           · (rw [hb.cell (p := ⟨W.heap.size, 0, none⟩) (by assumption)]; assumption)
           · (rw [hb.cell (p := ⟨W.heap.size, 1, none⟩) (by assumption)]; assumption)
           · (rw [hb.cell (p := ⟨W.heap.size, 2, none⟩) (by assumption)]; assumption)
           · (rw [hb.cell (p := ⟨w4.heap.size, 0, none⟩) (by assumption)]; assumption)
           · (rw [hb.cell (p := ⟨w4.heap.size, 1, none⟩) (by assumption)]; assumption)
           · (rw [hb.cell (p := ⟨w4.heap.size, 2, none⟩) (by assumption)]; assumption)))
      (first
        | (go_split_ands; go_at_call 10; refine (HTO.out _ (below_chain B5.out (by assumption)) (Nat.le_of_lt (by assumption))).mono ?_; rintro e w6 ⟨uc, vc, rfl, hjc, hkc, hb⟩)
        | (go_split_ands; go_at_call 12; refine (HEQ.out _ _ _ uc vc (TxtsIn.later HJB.out (fun _ hb => hb) (below_chain HB45.out (by assumption))) (RlIn.later HKB.out (fun _ hb => hb) (below_chain HB45.out (by assumption))) (hjc.mono fun _ hb => hb.2) (hkc.mono fun _ hb => hb.2)).mono ?_; rintro e w7 ⟨rfl, hb⟩))
    go_split_ands
    rename_i hfin
    have HF := Lib.hid (below_chain B5.out hfin)
    clear hfin
    go_wp2
    go_ret
    exact ⟨rfl, HF.out⟩
set_option maxRecDepth 100000 in
theorem policyOK_long (p : Pl) (a1 : Option Addr) (l1 c1 : Nat) (a2 : Option Addr) (l2 c2 : Nat) (W : World) (hu : TxtsIn (· < W.heap.size) W (.slice a1 l1 c1) p.uris) (hr : RlIn (· < W.heap.size) W (.slice a2 l2 c2) p.rules) (hn : p.rep.length ≤ 9223372036854775807) (hs : ¬ szP p ≤ 1048576) :
    Calls Tryz.prog 3 #[pV p (.slice a1 l1 c1) (.slice a2 l2 c2)] W fun e w' => e = .returned (.bool true) ∧ Below W.heap.size W w' := by
  have HSZ := Lib.hid (fun wx hx hy => szP_any W.heap.size W p _ _ hu hr hn 1048576 wx hx hy (by omega) (by omega))
  rw [szR_out (by omega)] at HSZ
  have HB1 := Lib.hid ((Below.refl W.heap.size W).alloc (Nat.le_refl _) (aO p (.slice a1 l1 c1) (.slice a2 l2 c2)))
  clear hu hr hs
  go_enter Tryz.func3, Tryz.ntmps3
  go_wp2_with fail
  refine (HSZ.out _ HB1.out (by simp)).mono ?_
  rintro e w1 ⟨rfl, hb2⟩
  have B1 := Lib.hid (below_chain HB1.out hb2)
  clear hb2
  go_wp2
  go_ret
  exact ⟨rfl, B1.out⟩
theorem policyOK_walk (p : Pl) (uv rv : Value) (W : World) (hu : TxtsIn (· < W.heap.size) W uv p.uris) (hr : RlIn (· < W.heap.size) W rv p.rules) (hn : p.rep.length ≤ 9223372036854775807) (hT : Tab W) (hM : MaxL W) :
    Calls Tryz.prog 3 #[pV p uv rv] W fun e w' => e = .returned (.bool true) ∧ Below W.heap.size W w' := by
  obtain ⟨a1, l1, c1, rfl⟩ := hu.slice
  obtain ⟨a2, l2, c2, rfl⟩ := hr.slice
  by_cases hs : szP p ≤ 1048576
  · exact policyOK_in p a1 l1 c1 a2 l2 c2 W hu hr hs hT hM
  · exact policyOK_long p a1 l1 c1 a2 l2 c2 W hu hr hn hs
end Go.Proofs.YtjnlnndeadihoaaGreatDoor.Po
