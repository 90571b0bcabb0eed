
/-
  The law FnExactQueueOK, walked.
-/
import Derived.Test.YtkdmlpclioeniaaQuS
import Derived.Deep.RegionHeld3
namespace Go.Proofs.Ytkdmlpclioeniaa.Qu
open Go.RowKit
open Go.Proofs.Ytkdmlpclioeniaa.Tx
theorem RpIn.fit {S : Nat → Prop} {w : World} {v : Value} {xs : List Rep} (h : RpIn S w v xs) : ∀ i, i < xs.length → Fit (xs.getD i default) := by
  obtain ⟨_, _, _, _, _, _, _, h, _⟩ := h; exact h
theorem TxtsIn_lens {S : Nat → Prop} {w : World} {v : Value} {ns : List (List UInt8)} (h : TxtsIn S w v ns) : ∀ i, i < ns.length → (ns.getD i []).length ≤ 9223372036854775807 := by
  obtain ⟨_, _, _, _, _, _, _, h, _⟩ := h; exact h
abbrev lqO (iv rv : Value) : Obj := .cells #[iv, rv] 32
abbrev iqO (iv rv : Value) : Obj := .cells #[iv, rv] 37
set_option maxRecDepth 100000 in
set_option maxHeartbeats 4000000 in
theorem queueOK_in (q : Q) (a1 : Option Addr) (l1 c1 : Nat) (a2 : Option Addr) (l2 c2 : Nat) (W : World) (hi : RpIn (· < W.heap.size) W (.slice a1 l1 c1) q.items) (hr : TxtsIn (· < W.heap.size) W (.slice a2 l2 c2) q.recent) (hs : szQ q ≤ 1048576) :
    Calls Try.prog 4 #[qV (.slice a1 l1 c1) (.slice a2 l2 c2)] W fun e w' => e = .returned (.bool true) ∧ Below W.heap.size W w' := by
  have hsi : q.items.length ≤ 1048576 := by unfold szQ at hs; omega
  have hsr : q.recent.length ≤ 1048576 := by unfold szQ at hs; omega
  have HSZ := Lib.hid (fun wx hx hy => szQ_any W.heap.size W q _ _ hi hr 1048576 wx hx hy (by omega) (by omega))
  rw [szR_in (by omega)] at HSZ
  have g1 : ¬ (1048576 - (szQ q : Int) < 0) := by omega
  generalize 1048576 - (szQ q : Int) = z at *
  have HTO := Lib.hid (fun wx hx hy => toQ_any W.heap.size W q _ _ hi hr hsi hsr wx hx hy)
  have FI := Lib.hid hi.fit
  have FT := Lib.hid (TxtsIn_lens hr)
  obtain ⟨r, hr0⟩ : ∃ r, quB q = r := ⟨_, rfl⟩
  have HOS := Lib.hid (fun (W' : World) (v u : Value) (h : RpIn (· < W'.heap.size) W' v q.items) (h2 : TxtsIn (· < W'.heap.size) W' u q.recent) => hr0 ▸ quSV_any W'.heap.size W' q v u h h2 W' (Below.refl _ _) (Nat.le_refl _))
  have HOI := Lib.hid (fun (w0 W' : World) (v u : Value) (h : RpIn (· < w0.heap.size) w0 v q.items) (h2 : TxtsIn (· < w0.heap.size) w0 u q.recent) h3 h4 => hr0 ▸ quI_any w0.heap.size w0 q v u h h2 W' h3 h4)
  have HEQ := Lib.hid (fun (w0 : World) (v u v' u' : Value) (h1 : RpIn (· < w0.heap.size) w0 v q.items) (h2 : TxtsIn (· < w0.heap.size) w0 u q.recent) (h3 : RpIn (· < w0.heap.size) w0 v' q.items) (h4 : TxtsIn (· < w0.heap.size) w0 u' q.recent) => eqQ_self w0.heap.size w0 q v u v' u' h1 h2 h3 h4 w0 (Below.refl _ _) (Nat.le_refl _))
  have A0 := Lib.hid (Hd.new W (lqO (.slice a1 l1 c1) (.slice a2 l2 c2)))
  have B0 := Lib.hid ((Below.refl W.heap.size W).alloc (Nat.le_refl _) (lqO (.slice a1 l1 c1) (.slice a2 l2 c2)))
  clear hr0 hs hi hr hsi hsr
  go_enter Try.func4, Try.ntmps4
  go_wp2_with fail
  refine (HSZ.out _ B0.out (by simp)).mono ?_
  rintro e w1 ⟨rfl, hb1⟩
  have A1 := Lib.hid (A0.out.blw hb1)
  have B1 := Lib.hid (below_chain B0.out hb1)
  have z1 := A1.out.lt
  obtain ⟨m0, m1, -⟩ := A1.out.two
  clear hb1 A0 B0
  go_wp2_with fail
  refine (HTO.out w1 B1.out (by omega)).mono ?_
  rintro e w2 ⟨va, ua, rfl, hja, hka, hb2⟩
  obtain ⟨aa, ca, rfl⟩ := hja.slice
  obtain ⟨ab, cb, rfl⟩ := hka.slice
  have A2 := Lib.hid (A1.out.blw hb2)
  have B2 := Lib.hid (below_chain B1.out hb2)
  have HOK := Lib.hid (HOS.out w2 _ _ ((hja.rp FI.out).mono fun _ hb => hb.2) ((hka.txts FT.out).mono fun _ hb => hb.2))
  clear hb2 hja hka m0 m1 z1 A1 B1 HOS
  go_wp2_with fail
  refine HOK.out.mono ?_
  rintro e w3 ⟨rfl, hb3⟩
  have A3 := Lib.hid (A2.out.blw hb3)
  have B3 := Lib.hid (below_chain B2.out hb3)
  have z3 := A3.out.lt
  obtain ⟨m0, m1, -⟩ := A3.out.two
  clear hb3 HOK A2 B2
  go_wp2_with fail
  refine (HTO.out w3 B3.out (by omega)).mono ?_
  rintro e w4 ⟨vb, ub, rfl, hjb, hkb, hb4⟩
  obtain ⟨a4, c4, rfl⟩ := hjb.slice
  obtain ⟨a5, c5, rfl⟩ := hkb.slice
  have A4 := Lib.hid (A3.out.blw hb4)
  have B4 := Lib.hid (below_chain B3.out hb4)
  have HJB := Lib.hid ((hjb.rp FI.out).mono (S' := (· < w4.heap.size)) fun _ hb => hb.2)
  have HKB := Lib.hid ((hkb.txts FT.out).mono (S' := (· < w4.heap.size)) fun _ hb => hb.2)
  have A45 := Lib.hid ((Below.refl w4.heap.size w4).alloc (Nat.le_refl _) (iqO (.slice a4 q.items.length c4) (.slice a5 q.recent.length c5)))
  have X4 := Lib.hid (Hd.new w4 (iqO (.slice a4 q.items.length c4) (.slice a5 q.recent.length c5)))
  have A4a := Lib.hid (A4.out.al (iqO (.slice a4 q.items.length c4) (.slice a5 q.recent.length c5)))
  clear hb4 hjb hkb m0 m1 A3 B3 z3
  go_wp2_with fail
  refine (HOI.out w4 _ _ _ HJB.out HKB.out A45.out (by simp)).mono ?_
  rintro e w5 ⟨rfl, hb5⟩
  have A5 := Lib.hid (A4a.out.blw hb5)
  have X5 := Lib.hid (X4.out.blw hb5)
  have B45 := Lib.hid (below_chain A45.out hb5)
  have B5 := Lib.hid (below_chain B4.out B45.out)
  obtain ⟨m00, m01, -⟩ := A5.out.two
  obtain ⟨p00, p01, -⟩ := X5.out.two
  have z5 := A5.out.lt
  have y5 := X5.out.lt
  have hRR : Below w5.heap.size w5 w5 := Below.refl _ _
  clear hb5 A4 A4a X4
  cases r
  all_goals
    go_wp2_with fail
    go_region_held3 (fun wx => wx.cell? ⟨W.heap.size, 0, none⟩ = some (.slice a1 l1 c1) ∧ wx.cell? ⟨W.heap.size, 1, none⟩ = some (.slice a2 l2 c2) ∧
        wx.cell? ⟨w4.heap.size, 0, none⟩ = some (.slice a4 q.items.length c4) ∧ wx.cell? ⟨w4.heap.size, 1, none⟩ = some (.slice a5 q.recent.length c5) ∧
        W.heap.size < wx.heap.size ∧ w4.heap.size < wx.heap.size ∧ Below w5.heap.size w5 wx)
      (first
        | (simp [*, Below.drew]; done)
        | (go_split_ands
           refine ⟨?_, ?_, ?_, ?_, Nat.lt_of_lt_of_le (by assumption) hb.size, Nat.lt_of_lt_of_le (by assumption) hb.size, belI_step (by assumption) hb⟩
           · (rw [hb.cell (p := ⟨W.heap.size, 0, none⟩) (by assumption)]; assumption)
           · (rw [hb.cell (p := ⟨W.heap.size, 1, none⟩) (by assumption)]; assumption)
           · (rw [hb.cell (p := ⟨w4.heap.size, 0, none⟩) (by assumption)]; assumption)
           · (rw [hb.cell (p := ⟨w4.heap.size, 1, none⟩) (by assumption)]; assumption)))
      (first
        | (go_split_ands; go_at_call 17; refine (HTO.out _ (below_chain B5.out (by assumption)) (Nat.le_of_lt (by assumption))).mono ?_; rintro e w6 ⟨vc, uc, rfl, hjc, hkc, hb⟩)
        | (go_split_ands; go_at_call 19; refine (HEQ.out _ _ _ vc uc (RpIn.later HJB.out (fun _ hb => hb) (below_chain B45.out (by assumption))) (TxtsIn.later HKB.out (fun _ hb => hb) (below_chain B45.out (by assumption))) ((hjc.rp FI.out).mono fun _ hb => hb.2) ((hkc.txts FT.out).mono fun _ hb => hb.2)).mono ?_; rintro e w7 ⟨rfl, hb⟩))
    go_split_ands
    rename_i hfin
    have HF := Lib.hid (below_chain B5.out hfin)
    clear hfin
    go_wp2
    go_ret
    exact ⟨rfl, HF.out⟩
set_option maxRecDepth 100000 in
theorem queueOK_long (q : Q) (a1 : Option Addr) (l1 c1 : Nat) (a2 : Option Addr) (l2 c2 : Nat) (W : World) (hi : RpIn (· < W.heap.size) W (.slice a1 l1 c1) q.items) (hr : TxtsIn (· < W.heap.size) W (.slice a2 l2 c2) q.recent) (hs : ¬ szQ q ≤ 1048576) :
    Calls Try.prog 4 #[qV (.slice a1 l1 c1) (.slice a2 l2 c2)] W fun e w' => e = .returned (.bool true) ∧ Below W.heap.size W w' := by
  have HSZ := Lib.hid (fun wx hx hy => szQ_any W.heap.size W q _ _ hi hr 1048576 wx hx hy (by omega) (by omega))
  rw [szR_out (by omega)] at HSZ
  have HB1 := Lib.hid ((Below.refl W.heap.size W).alloc (Nat.le_refl _) (lqO (.slice a1 l1 c1) (.slice a2 l2 c2)))
  clear hi hr hs
  go_enter Try.func4, Try.ntmps4
  go_wp2_with fail
  refine (HSZ.out _ HB1.out (by simp)).mono ?_
  rintro e w1 ⟨rfl, hb2⟩
  have B1 := Lib.hid (below_chain HB1.out hb2)
  clear hb2
  go_wp2
  go_ret
  exact ⟨rfl, B1.out⟩
theorem queueOK_walk (q : Q) (iv rv : Value) (W : World) (hi : RpIn (· < W.heap.size) W iv q.items) (hr : TxtsIn (· < W.heap.size) W rv q.recent) :
    Calls Try.prog 4 #[qV iv rv] W fun e w' => e = .returned (.bool true) ∧ Below W.heap.size W w' := by
  obtain ⟨a1, l1, c1, rfl⟩ := hi.slice
  obtain ⟨a2, l2, c2, rfl⟩ := hr.slice
  by_cases hs : szQ q ≤ 1048576
  · exact queueOK_in q a1 l1 c1 a2 l2 c2 W hi hr hs
  · exact queueOK_long q a1 l1 c1 a2 l2 c2 W hi hr hs
end Go.Proofs.Ytkdmlpclioeniaa.Qu
