
/-
  The law FnExactSameQueue, walked.
-/
import Derived.Test.YtkdmlpclioeniaaQuE
namespace Go.Proofs.Ytkdmlpclioeniaa.Qu
open Go.RowKit
open Go.Proofs.Ytkdmlpclioeniaa.Tx
/-- an argument of the law: it lies in W, and its size has been found in bounds -/
def ArgQ (W : World) (q : Q) (iv rv : Value) : Prop := RpIn (· < W.heap.size) W iv q.items ∧ TxtsIn (· < W.heap.size) W rv q.recent ∧ szQ q ≤ 1048576
/-- the queue q lies in w, its rows under iv and rv -/
structure QIn (w : World) (q : Q) (iv rv : Value) : Prop where
  i : RpIn (· < w.heap.size) w iv q.items
  r : TxtsIn (· < w.heap.size) w rv q.recent
theorem QIn.later {w wx : World} {q : Q} {iv rv : Value} (h : QIn w q iv rv) (hb : Below w.heap.size w wx) : QIn wx q iv rv := ⟨h.i.later (fun _ hb => hb) hb, h.r.later (fun _ hb => hb) hb⟩
theorem newQ_in {w w' : World} {q : Q} {iv rv : Value} (h : O4 w' w.heap.size iv q.items) (h2 : O1 w' w.heap.size rv q.recent) (f : ∀ i, i < q.items.length → Fit (q.items.getD i default)) (f2 : ∀ i, i < q.recent.length → (q.recent.getD i []).length ≤ 9223372036854775807) : QIn w' q iv rv :=
  ⟨(h.rp f).mono fun _ hb => hb.2, (h2.txts f2).mono fun _ hb => hb.2⟩
set_option maxRecDepth 100000 in
set_option maxHeartbeats 8000000 in
theorem sameQueue_in (a b : Q) (a1 : Option Addr) (l1 c1 : Nat) (a2 : Option Addr) (l2 c2 : Nat) (a3 : Option Addr) (l3 c3 : Nat) (a4 : Option Addr) (l4 c4 : Nat) (W : World) (ha : ArgQ W a (.slice a1 l1 c1) (.slice a2 l2 c2)) (hbb : ArgQ W b (.slice a3 l3 c3) (.slice a4 l4 c4)) (hs : szQ a + szQ b ≤ 1048576) :
    Calls Try.prog 5 #[qV (.slice a1 l1 c1) (.slice a2 l2 c2), qV (.slice a3 l3 c3) (.slice a4 l4 c4)] W fun e w' => e = .returned (.bool true) ∧ Below W.heap.size W w' := by
  have HSZ := Lib.hid (fun wx hx => szQ_any W.heap.size W a _ _ ha.1 ha.2.1 1048576 wx hx)
  have HSZ2 := Lib.hid (fun wx hx => szQ_any W.heap.size W b _ _ hbb.1 hbb.2.1 (1048576 - (szQ a : Int)) wx hx)
  have HT := Lib.hid (fun q iv rv (h : ArgQ W q iv rv) wx hx => toQ_any W.heap.size W q iv rv h.1 h.2.1 (by have := h.2.2; unfold szQ at this; omega) (by have := h.2.2; unfold szQ at this; omega) wx hx)
  rw [szR_in (by omega)] at HSZ
  rw [szR_in (by omega)] at HSZ2
  have g1 : ¬ (1048576 - (szQ a : Int) < 0) := by omega
  have g2 : ¬ (1048576 - (szQ a : Int) - (szQ b : Int) < 0) := by omega
  have hl0 : 0 ≤ 1048576 - (szQ a : Int) := by omega
  have hl1 : 1048576 - (szQ a : Int) ≤ 1048576 := by omega
  generalize 1048576 - (szQ a : Int) - (szQ b : Int) = z2 at *
  generalize 1048576 - (szQ a : Int) = z1 at *
  have HB1 := Lib.hid (((Below.refl W.heap.size W).alloc (Nat.le_refl _) (lqO (.slice a1 l1 c1) (.slice a2 l2 c2))).alloc (by simp) (lqO (.slice a3 l3 c3) (.slice a4 l4 c4)))
  have K2 := Lib.hid ((Hd.new W (lqO (.slice a1 l1 c1) (.slice a2 l2 c2))).al (lqO (.slice a3 l3 c3) (.slice a4 l4 c4)))
  have K3 := Lib.hid (show Hd ((W.alloc (lqO (.slice a1 l1 c1) (.slice a2 l2 c2))).alloc (lqO (.slice a3 l3 c3) (.slice a4 l4 c4))) (W.heap.size + 1) (lqO (.slice a3 l3 c3) (.slice a4 l4 c4)) by
    have := Hd.new (W.alloc (lqO (.slice a1 l1 c1) (.slice a2 l2 c2))) (lqO (.slice a3 l3 c3) (.slice a4 l4 c4))
    simpa using this)
  have F := Lib.hid (fun q iv rv (h0 : ArgQ W q iv rv) (w w' : World) (v u : Value) (h : O4 w' w.heap.size v q.items) (h2 : O1 w' w.heap.size u q.recent) => newQ_in h h2 h0.1.fit (TxtsIn_lens h0.2.1))
  have FA := Lib.hid (fun (w w' : World) (iv rv : Value) (h : O4 w' w.heap.size iv a.items) (h2 : O1 w' w.heap.size rv a.recent) => newQ_in h h2 ha.1.fit (TxtsIn_lens ha.2.1))
  have FB := Lib.hid (fun (w w' : World) (iv rv : Value) (h : O4 w' w.heap.size iv b.items) (h2 : O1 w' w.heap.size rv b.recent) => newQ_in h h2 hbb.1.fit (TxtsIn_lens hbb.2.1))
  obtain ⟨r, hr⟩ : ∃ r, saQ a b = r := ⟨_, rfl⟩
  have HSS := Lib.hid (fun (w : World) (v u v' u' : Value) (h1 : QIn w a v u) (h3 : QIn w b v' u') => hr ▸ sameS_any w.heap.size w a b v u v' u' h1.i h1.r h3.i h3.r w (Below.refl _ _) (Nat.le_refl _))
  have HSI := Lib.hid (fun (w : World) (v u v' u' : Value) (h1 : QIn w a v u) (h3 : QIn w b v' u') => hr ▸ sameI_any w.heap.size w a b v u v' u' h1.i h1.r h3.i h3.r w (Below.refl _ _) (Nat.le_refl _))
  have HEQA := Lib.hid (fun (w : World) (v u v' u' : Value) (h1 : QIn w a v u) (h3 : QIn w a v' u') => eqQ_self w.heap.size w a v u v' u' h1.i h1.r h3.i h3.r w (Below.refl _ _) (Nat.le_refl _))
  have HEQB := Lib.hid (fun (w : World) (v u v' u' : Value) (h1 : QIn w b v u) (h3 : QIn w b v' u') => eqQ_self w.heap.size w b v u v' u' h1.i h1.r h3.i h3.r w (Below.refl _ _) (Nat.le_refl _))
  clear hr hs
  go_enter Try.func5, Try.ntmps5
  go_wp2_with fail
  refine (HSZ.out _ HB1.out (by simp; omega) (by omega) (by omega)).mono ?_
  rintro e w1 ⟨rfl, hb2⟩
  have L2 := Lib.hid (K2.out.blw hb2)
  have L3 := Lib.hid (K3.out.blw hb2)
  have B1 := Lib.hid (below_chain HB1.out hb2)
  obtain ⟨m00, m01, -⟩ := L3.out.two
  have y1 := B1.out.size
  clear hb2
  go_wp2_with fail
  refine (HSZ2.out _ B1.out y1 hl0 hl1).mono ?_
  rintro e w2 ⟨rfl, hb2⟩
  clear m00 m01
  have M2 := Lib.hid (L2.out.blw hb2)
  have M3 := Lib.hid (L3.out.blw hb2)
  have B2 := Lib.hid (below_chain B1.out hb2)
  obtain ⟨m00, m01, -⟩ := M2.out.two
  obtain ⟨p00, p01, -⟩ := M3.out.two
  have y2 := M2.out.lt
  have y3 := M3.out.lt
  have hRR := Below.refl w2.heap.size w2
  clear hb2 y1
  go_wp2_with fail
  go_region_held3 (fun wx => wx.cell? ⟨W.heap.size, 0, none⟩ = some (.slice a1 l1 c1) ∧ wx.cell? ⟨W.heap.size, 1, none⟩ = some (.slice a2 l2 c2) ∧ wx.cell? ⟨W.heap.size + 1, 0, none⟩ = some (.slice a3 l3 c3) ∧ wx.cell? ⟨W.heap.size + 1, 1, none⟩ = some (.slice a4 l4 c4) ∧ W.heap.size < wx.heap.size ∧ W.heap.size + 1 < wx.heap.size ∧ Below w2.heap.size w2 wx)
    (first
      | (simp [*, Below.drew]; done)
      | (go_split_ands
         refine ⟨?_, ?_, ?_, ?_, Nat.lt_of_lt_of_le (by assumption) hb.size, Nat.lt_of_lt_of_le (by assumption) hb.size, belI_step (by assumption) hb⟩
         · (rw [hb.cell (p := ⟨W.heap.size, 0, none⟩) (by assumption)]; assumption)
         · (rw [hb.cell (p := ⟨W.heap.size, 1, none⟩) (by assumption)]; assumption)
         · (rw [hb.cell (p := ⟨W.heap.size + 1, 0, none⟩) (by assumption)]; assumption)
         · (rw [hb.cell (p := ⟨W.heap.size + 1, 1, none⟩) (by assumption)]; assumption)))
    (first
      | (go_split_ands; go_at_call 20; (first | refine (HSS.out _ v1 u1 v2 u2 hj1L hj2L).mono ?_ | refine (HSS.out _ v2 u2 v1 u1 hj2L hj1L).mono ?_); rintro e w9 ⟨rfl, hb⟩)
      | (have hh := hj1; go_split_ands; go_at_call 17; refine (HT.out _ _ _ (by assumption) _ (below_chain B2.out (by assumption)) (Nat.le_of_lt (by assumption))).mono ?_; rintro e w8 ⟨v2, u2, rfl, hj2, hk2, hb⟩; have hj2L := F.out _ _ _ (by assumption) _ _ _ _ hj2 hk2; have hj1L := hj1.later hb)
      | (go_split_ands; go_at_call 17; refine (HT.out _ _ _ (by assumption) _ (below_chain B2.out (by assumption)) (Nat.le_of_lt (by assumption))).mono ?_; rintro e w7 ⟨v1, u1, rfl, hk1, hl1, hb⟩; have hj1 := F.out _ _ _ (by assumption) _ _ _ _ hk1 hl1; clear hk1 hl1))
  all_goals
    go_split_ands
    rename_i hNW
    have N2 := Lib.hid (M2.out.blw hNW)
    have N3 := Lib.hid (M3.out.blw hNW)
    have B3 := Lib.hid (below_chain B2.out hNW)
    clear hNW hj1L hj2L hj1 hj2 hk2
    go_wp2_with fail
    refine (HT.out _ _ _ ha w9 B3.out B3.out.size).mono ?_
    rintro e w4 ⟨iva, rva, rfl, hja, hka, hb4⟩
    have HJA := Lib.hid (FA.out _ _ _ _ hja hka)
    obtain ⟨a7, c7, rfl⟩ := hja.slice
    obtain ⟨a8, c8, rfl⟩ := hka.slice
    have P2 := Lib.hid (N2.out.blw hb4)
    have P3 := Lib.hid (N3.out.blw hb4)
    have B4 := Lib.hid (below_chain B3.out hb4)
    have K7 := Lib.hid (Hd.new w4 (iqO (.slice a7 a.items.length c7) (.slice a8 a.recent.length c8)))
    have B4b := Lib.hid ((Below.refl w4.heap.size w4).alloc (Nat.le_refl _) (iqO (.slice a7 a.items.length c7) (.slice a8 a.recent.length c8)))
    have B4a := Lib.hid (below_chain B4.out B4b.out)
    obtain ⟨x00, x01, -⟩ := (P3.out.al (iqO (.slice a7 a.items.length c7) (.slice a8 a.recent.length c8))).two
    clear hb4 hja hka
    go_wp2_with fail
    refine (HT.out _ _ _ hbb _ B4a.out B4a.out.size).mono ?_
    rintro e w5 ⟨ivb, rvb, rfl, hjb, hkb, hb5⟩
    have HJB := Lib.hid (FB.out _ _ _ _ hjb hkb)
    obtain ⟨a9, c9, rfl⟩ := hjb.slice
    obtain ⟨a10, c10, rfl⟩ := hkb.slice
    have Q2 := Lib.hid ((P2.out.al (iqO (.slice a7 a.items.length c7) (.slice a8 a.recent.length c8))).blw hb5)
    have Q3 := Lib.hid ((P3.out.al (iqO (.slice a7 a.items.length c7) (.slice a8 a.recent.length c8))).blw hb5)
    have Q7 := Lib.hid (K7.out.blw hb5)
    have B5 := Lib.hid (below_chain B4a.out hb5)
    have B45 := Lib.hid (below_chain B4b.out hb5)
    have HJA5 := Lib.hid (HJA.out.later B45.out)
    have K8 := Lib.hid (Hd.new w5 (iqO (.slice a9 b.items.length c9) (.slice a10 b.recent.length c10)))
    have A5 := Lib.hid ((Below.refl w5.heap.size w5).alloc (Nat.le_refl _) (iqO (.slice a9 b.items.length c9) (.slice a10 b.recent.length c10)))
    clear x00 x01
    obtain ⟨x00, x01, -⟩ := (Q7.out.al (iqO (.slice a9 b.items.length c9) (.slice a10 b.recent.length c10))).two
    obtain ⟨v00, v01, -⟩ := K8.out.two
    clear hb5 hjb hkb
    go_wp2_with fail
    refine (HSI.out _ _ _ _ _ (HJA5.out.later A5.out) (HJB.out.later A5.out)).mono ?_
    rintro e w6 ⟨rfl, hb6⟩
    clear x00 x01 v00 v01
    have R2 := Lib.hid ((Q2.out.al (iqO (.slice a9 b.items.length c9) (.slice a10 b.recent.length c10))).blw hb6)
    have R3 := Lib.hid ((Q3.out.al (iqO (.slice a9 b.items.length c9) (.slice a10 b.recent.length c10))).blw hb6)
    have R7 := Lib.hid ((Q7.out.al (iqO (.slice a9 b.items.length c9) (.slice a10 b.recent.length c10))).blw hb6)
    have R8 := Lib.hid (K8.out.blw hb6)
    have B56 := Lib.hid (below_chain A5.out hb6)
    have B6 := Lib.hid (below_chain B5.out B56.out)
    have HJA6 := Lib.hid (HJA5.out.later B56.out)
    have HJB6 := Lib.hid (HJB.out.later B56.out)
    clear hb6
    obtain ⟨x00, x01, -⟩ := R7.out.two
    obtain ⟨v00, v01, -⟩ := R2.out.two
    have t2 := R2.out.lt
    have t7 := R7.out.lt
    have hR6 := Below.refl w6.heap.size w6
    cases r
    all_goals
      go_wp2_with fail
      go_region_held3 (fun wx => wx.cell? ⟨w4.heap.size, 0, none⟩ = some (.slice a7 a.items.length c7) ∧ wx.cell? ⟨w4.heap.size, 1, none⟩ = some (.slice a8 a.recent.length c8) ∧ wx.cell? ⟨W.heap.size, 0, none⟩ = some (.slice a1 l1 c1) ∧ wx.cell? ⟨W.heap.size, 1, none⟩ = some (.slice a2 l2 c2) ∧ w4.heap.size < wx.heap.size ∧ W.heap.size < wx.heap.size ∧ Below w6.heap.size w6 wx)
        (first
          | (simp [*, Below.drew]; done)
          | (go_split_ands
             refine ⟨?_, ?_, ?_, ?_, Nat.lt_of_lt_of_le (by assumption) hb.size, Nat.lt_of_lt_of_le (by assumption) hb.size, belI_step (by assumption) hb⟩
             · (rw [hb.cell (p := ⟨w4.heap.size, 0, none⟩) (by assumption)]; assumption)
             · (rw [hb.cell (p := ⟨w4.heap.size, 1, none⟩) (by assumption)]; assumption)
             · (rw [hb.cell (p := ⟨W.heap.size, 0, none⟩) (by assumption)]; assumption)
             · (rw [hb.cell (p := ⟨W.heap.size, 1, none⟩) (by assumption)]; assumption)))
        (first
          | (go_split_ands; go_at_call 17; refine (HT.out _ _ _ ha _ (below_chain B6.out (by assumption)) ((below_chain B6.out (by assumption)).size)).mono ?_; rintro e w10 ⟨vc, uc, rfl, hjc, hkc, hb⟩)
          | (go_split_ands; go_at_call 19; refine (HEQA.out _ _ _ vc uc (HJA6.out.later (by assumption)) (FA.out _ _ _ _ hjc hkc)).mono ?_; rintro e w11 ⟨rfl, hb⟩))
      go_split_ands
      rename_i hNZ
      have hw : ∃ w12, w12 = w11 := ⟨_, rfl⟩
      obtain ⟨w12, rfl⟩ := hw
      have S3 := Lib.hid (R3.out.blw hNZ)
      have S8 := Lib.hid (R8.out.blw hNZ)
      have B12 := Lib.hid (below_chain B6.out hNZ)
      have HJB12 := Lib.hid (HJB6.out.later hNZ)
      obtain ⟨c00, c01, -⟩ := S8.out.two
      obtain ⟨d00, d01, -⟩ := S3.out.two
      have e3 := S3.out.lt
      have e8 := S8.out.lt
      have e2 : W.heap.size < w12.heap.size := Nat.lt_of_lt_of_le t2 hNZ.size
      have hR12 := Below.refl w12.heap.size w12
      clear hNZ hR6 t7 x00 x01 v00 v01
      go_wp2_with fail
      go_region_held3 (fun wx => wx.cell? ⟨w5.heap.size, 0, none⟩ = some (.slice a9 b.items.length c9) ∧ wx.cell? ⟨w5.heap.size, 1, none⟩ = some (.slice a10 b.recent.length c10) ∧ wx.cell? ⟨W.heap.size + 1, 0, none⟩ = some (.slice a3 l3 c3) ∧ wx.cell? ⟨W.heap.size + 1, 1, none⟩ = some (.slice a4 l4 c4) ∧ w5.heap.size < wx.heap.size ∧ W.heap.size + 1 < wx.heap.size ∧ Below w12.heap.size w12 wx)
        (first
          | (simp [*, Below.drew]; done)
          | (go_split_ands
             refine ⟨?_, ?_, ?_, ?_, Nat.lt_of_lt_of_le (by assumption) hb.size, Nat.lt_of_lt_of_le (by assumption) hb.size, belI_step (by assumption) hb⟩
             · (rw [hb.cell (p := ⟨w5.heap.size, 0, none⟩) (by assumption)]; assumption)
             · (rw [hb.cell (p := ⟨w5.heap.size, 1, none⟩) (by assumption)]; assumption)
             · (rw [hb.cell (p := ⟨W.heap.size + 1, 0, none⟩) (by assumption)]; assumption)
             · (rw [hb.cell (p := ⟨W.heap.size + 1, 1, none⟩) (by assumption)]; assumption)))
        (first
          | (go_split_ands; go_at_call 17; refine (HT.out _ _ _ hbb _ (below_chain B12.out (by assumption)) ((below_chain B12.out (by assumption)).size)).mono ?_; rintro e w10 ⟨vc, uc, rfl, hjc, hkc, hb⟩)
          | (go_split_ands; go_at_call 19; refine (HEQB.out _ _ _ vc uc (HJB12.out.later (by assumption)) (FB.out _ _ _ _ hjc hkc)).mono ?_; rintro e w11 ⟨rfl, hb⟩))
      go_split_ands
      rename_i hNF
      have HF := Lib.hid (below_chain B12.out hNF)
      clear hNF
      go_wp2
      go_ret
      exact ⟨rfl, HF.out⟩
set_option maxRecDepth 100000 in
set_option maxHeartbeats 4000000 in
theorem sameQueue_walk (a b : Q) (iv rv iv' rv' : Value) (W : World) (hi : RpIn (· < W.heap.size) W iv a.items) (hr : TxtsIn (· < W.heap.size) W rv a.recent) (hi' : RpIn (· < W.heap.size) W iv' b.items) (hr' : TxtsIn (· < W.heap.size) W rv' b.recent) :
    Calls Try.prog 5 #[qV iv rv, qV iv' rv'] W fun e w' => e = .returned (.bool true) ∧ Below W.heap.size W w' := by
  obtain ⟨a1, l1, c1, rfl⟩ := hi.slice
  obtain ⟨a2, l2, c2, rfl⟩ := hr.slice
  obtain ⟨a3, l3, c3, rfl⟩ := hi'.slice
  obtain ⟨a4, l4, c4, rfl⟩ := hr'.slice
  by_cases hs : szQ a + szQ b ≤ 1048576
  · exact sameQueue_in a b a1 l1 c1 a2 l2 c2 a3 l3 c3 a4 l4 c4 W ⟨hi, hr, by omega⟩ ⟨hi', hr', by omega⟩ hs
  · have HB1 := Lib.hid (((Below.refl W.heap.size W).alloc (Nat.le_refl _) (lqO (.slice a1 l1 c1) (.slice a2 l2 c2))).alloc (by simp) (lqO (.slice a3 l3 c3) (.slice a4 l4 c4)))
    have K3 := Lib.hid (show Hd ((W.alloc (lqO (.slice a1 l1 c1) (.slice a2 l2 c2))).alloc (lqO (.slice a3 l3 c3) (.slice a4 l4 c4))) (W.heap.size + 1) (lqO (.slice a3 l3 c3) (.slice a4 l4 c4)) by
      have := Hd.new (W.alloc (lqO (.slice a1 l1 c1) (.slice a2 l2 c2))) (lqO (.slice a3 l3 c3) (.slice a4 l4 c4))
      simpa using this)
    have HSZ := Lib.hid (fun wx hx => szQ_any W.heap.size W a _ _ hi hr 1048576 wx hx)
    by_cases hsa : szQ a ≤ 1048576
    · have HSZ2 := Lib.hid (fun wx hx => szQ_any W.heap.size W b _ _ hi' hr' (1048576 - (szQ a : Int)) wx hx)
      rw [szR_in (by omega)] at HSZ
      rw [szR_out (by omega)] at HSZ2
      have g1 : ¬ (1048576 - (szQ a : Int) < 0) := by omega
      have hl0 : 0 ≤ 1048576 - (szQ a : Int) := by omega
      have hl1 : 1048576 - (szQ a : Int) ≤ 1048576 := by omega
      clear hi hr hi' hr' hs
      generalize 1048576 - (szQ a : Int) = z1 at *
      go_enter Try.func5, Try.ntmps5
      go_wp2_with fail
      refine (HSZ.out _ HB1.out (by simp; omega) (by omega) (by omega)).mono ?_
      rintro e w1 ⟨rfl, hb2⟩
      have B1 := Lib.hid (below_chain HB1.out hb2)
      obtain ⟨m00, m01, -⟩ := (K3.out.blw hb2).two
      clear hb2
      go_wp2_with fail
      refine (HSZ2.out _ B1.out B1.out.size hl0 hl1).mono ?_
      rintro e w2 ⟨rfl, hb2⟩
      have B2 := Lib.hid (below_chain B1.out hb2)
      clear hb2
      go_wp2
      go_ret
      exact ⟨rfl, B2.out⟩
    · rw [szR_out (by omega)] at HSZ
      clear hi hr hi' hr' hs
      go_enter Try.func5, Try.ntmps5
      go_wp2_with fail
      refine (HSZ.out _ HB1.out (by simp; omega) (by omega) (by omega)).mono ?_
      rintro e w1 ⟨rfl, hb2⟩
      have B1 := Lib.hid (below_chain HB1.out hb2)
      clear hb2
      go_wp2
      go_ret
      exact ⟨rfl, B1.out⟩
end Go.Proofs.Ytkdmlpclioeniaa.Qu
