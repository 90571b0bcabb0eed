
/-
  The law FnExactBatch, walked.
-/
import Derived.Test.YtkdmlpclioeniaaQuQ
import Derived.Test.YtkdmlpclioeniaaQuH
namespace Go.Proofs.Ytkdmlpclioeniaa.Qu
open Go.RowKit
open Go.Proofs.Ytkdmlpclioeniaa.Tx
def NewB2 (W : World) (R : List Rep) (C : Int) (e : Ending) (w' : World) : Prop := ∃ v, e = .returned (.tuple #[v, .int .i64 C]) ∧ O4 w' W.heap.size v R ∧ Below W.heap.size W w'
theorem batR_fit {q : Q} (h : ∀ i, i < q.items.length → Fit (q.items.getD i default)) : ∀ i, i < (batR q).length → Fit ((batR q).getD i default) := by
  unfold batR
  split
  · intro i hi
    have h3 : i < 3 ∧ i < q.items.length := by simp at hi; omega
    have e : (q.items.take 3).getD i default = q.items.getD i default := by simp [List.getD, h3.1]
    rw [e]; exact h i h3.2
  · intro i hi; simp at hi
theorem batR_len (q : Q) : (batR q).length ≤ 3 := by
  unfold batR
  split
  · simp; omega
  · simp
theorem St0.r0 {W w : World} {a1 a2 : Value} {s pb : Nat} {po : Obj} {pi pr pd : Value} {R : Q} {D : List Int} (h : St0 W a1 a2 s pb po pi pr pd R D w) : RpIn (· < w.heap.size) w pi R.items := h.f1.mono fun _ hb => Nat.lt_of_lt_of_le hb h.z
theorem St0.t0 {W w : World} {a1 a2 : Value} {s pb : Nat} {po : Obj} {pi pr pd : Value} {R : Q} {D : List Int} (h : St0 W a1 a2 s pb po pi pr pd R D w) : TxtsIn (· < w.heap.size) w pr R.recent := h.f2.mono fun _ hb => Nat.lt_of_lt_of_le hb h.z
theorem body_le : ∀ (xs : List Rep) (i : Nat), i < xs.length → (xs.getD i default).body.length ≤ szB xs
  | [], _, h => by simp at h
  | x :: r, 0, _ => by simp [szB]
  | x :: r, i + 1, h => by
    have := body_le r i (by simpa using h)
    simp only [szB, List.getD_cons_succ]
    omega
set_option maxRecDepth 100000 in
set_option maxHeartbeats 8000000 in
theorem batch_in (q : Q) (a1 : Option Addr) (l1 c1 : Nat) (a2 : Option Addr) (l2 c2 : Nat) (W : World) (hi : RpIn (· < W.heap.size) W (.slice a1 l1 c1) q.items) (hr : TxtsIn (· < W.heap.size) W (.slice a2 l2 c2) q.recent) (hs : szQ q ≤ 1048576) :
    Calls Try.prog 6 #[qV (.slice a1 l1 c1) (.slice a2 l2 c2)] W fun e w' => e = .returned (.bool true) ∧ Below W.heap.size W w' := by
  have hsi : q.items.length ≤ 1048576 := by unfold szQ at hs; omega
  have hsr : q.recent.length ≤ 1048576 := by unfold szQ at hs; omega
  have hlb : ∀ i, i < q.items.length → (q.items.getD i default).body.length ≤ 1048576 := fun i hx => by have := body_le q.items i hx; unfold szQ at hs; omega
  have HSZ := Lib.hid (fun wx hx hy => szQ_any W.heap.size W q _ _ hi hr 1048576 wx hx hy (by omega) (by omega))
  rw [szR_in (by omega)] at HSZ
  have g1 : ¬ (1048576 - (szQ q : Int) < 0) := by omega
  generalize 1048576 - (szQ q : Int) = z at *
  have HTO := Lib.hid (fun wx hx hy => toQ_any W.heap.size W q _ _ hi hr hsi hsr wx hx hy)
  have FI := Lib.hid hi.fit
  have FT := Lib.hid (TxtsIn_lens hr)
  have hfr := batR_fit hi.fit
  have hrl := batR_len q
  obtain ⟨R, hR⟩ : ∃ R, batR q = R := ⟨_, rfl⟩
  obtain ⟨C, hC⟩ : ∃ C, batC q = C := ⟨_, rfl⟩
  have HOS := Lib.hid (fun (W' : World) (v u : Value) (h : RpIn (· < W'.heap.size) W' v q.items) (h2 : TxtsIn (· < W'.heap.size) W' u q.recent) => (hR ▸ hC ▸ batS_any W'.heap.size W' q v u h h2 hsi W' (Below.refl _ _) (Nat.le_refl _) : Calls Try.prog 22 #[qV v u] W' (NewB2 W' R C)))
  have HOI := Lib.hid (fun (w0 W' : World) (v u : Value) (h : RpIn (· < w0.heap.size) w0 v q.items) (h2 : TxtsIn (· < w0.heap.size) w0 u q.recent) h3 h4 => (hR ▸ hC ▸ batI_any w0.heap.size w0 q v u h h2 hlb hsi W' h3 h4 : Calls Try.prog 23 #[qV v u] W' (NewB2 W' R C)))
  rw [hR] at hfr hrl
  have HEQ := Lib.hid (fun (w0 : World) (v u v' u' : Value) (h1 : RpIn (· < w0.heap.size) w0 v q.items) (h2 : TxtsIn (· < w0.heap.size) w0 u q.recent) (h3 : RpIn (· < w0.heap.size) w0 v' q.items) (h4 : TxtsIn (· < w0.heap.size) w0 u' q.recent) => eqQ_self w0.heap.size w0 q v u v' u' h1 h2 h3 h4 w0 (Below.refl _ _) (Nat.le_refl _))
  have HER := Lib.hid (fun (w0 : World) (v u : Value) (h1 : RpIn (· < w0.heap.size) w0 v R) (h3 : RpIn (· < w0.heap.size) w0 u R) => eqRps_self w0.heap.size w0 R v u h1 h3 w0 (Below.refl _ _) (Nat.le_refl _))
  have HMX := Lib.hid (fun (S : Nat → Prop) (base : Nat) (v u : Value) (w : World) (h : O4 w base v q.items) (h2 : O1 w base u q.recent) hS hS2 => markQ_any S base q v u 1 w h h2 hS hS2 (by omega) (by omega))
  have HMG := Lib.hid (fun (base : Nat) (v : Value) (w : World) (h : O4 w base v R) => markRps_any base v R 1 w h (by omega) (by omega))
  have HHG := Lib.hid (fun (S : Nat → Prop) (v : Value) (w : World) (h : RpIn S w v (mrp R.length 1)) hS => heldRps_any S v R.length 1 w h hS (by omega) (by omega))
  have HFM := Lib.hid (mrp_fit R.length 1 (by omega))
  have HFR := Lib.hid hfr
  have gk : ¬ (((1 + 4 * q.items.length + q.recent.length : Nat) : Int) < 0) := by omega
  have gm : ¬ (((1 + 4 * R.length : Nat) : Int) < 0) := by omega
  have ecc : (C != C) = false := by simp
  generalize 1 + 4 * q.items.length + q.recent.length = kx at *
  generalize 1 + 4 * R.length = km at *
  have A0 := Lib.hid (Hd.new W (lqO (.slice a1 l1 c1) (.slice a2 l2 c2)))
  have B0 := Lib.hid ((Below.refl W.heap.size W).alloc (Nat.le_refl _) (lqO (.slice a1 l1 c1) (.slice a2 l2 c2)))
  clear hR hC hs hi hr hsi hsr hlb hfr hrl
  go_enter Try.func6, Try.ntmps6
  go_wp2_with fail
  refine (HSZ.out _ B0.out (by simp)).mono ?_
  rintro e w1 ⟨rfl, hb1⟩
  have A1 := Lib.hid (A0.out.blw hb1)
  have B1 := Lib.hid (below_chain B0.out hb1)
  have z1 := A1.out.lt
  obtain ⟨m0, m1, -⟩ := A1.out.two
  clear hb1 A0 B0
  go_wp2_with fail
  refine (HTO.out w1 B1.out (by omega)).mono ?_
  rintro e w2 ⟨va, ua, rfl, hja, hka, hb2⟩
  obtain ⟨aa, ca, rfl⟩ := hja.slice
  obtain ⟨ab, cb, rfl⟩ := hka.slice
  have A2 := Lib.hid (A1.out.blw hb2)
  have B2 := Lib.hid (below_chain B1.out hb2)
  have HOK := Lib.hid (HOS.out w2 _ _ ((hja.rp FI.out).mono fun _ hb => hb.2) ((hka.txts FT.out).mono fun _ hb => hb.2))
  clear hb2 hja hka m0 m1 z1 A1 B1 HOS
  go_wp2_with fail
  refine HOK.out.mono ?_
  rintro e w3 ⟨v0, rfl, ho3, hb3⟩
  have T3 := Lib.hid (show St0 W (.slice a1 l1 c1) (.slice a2 l2 c2) w3.heap.size W.heap.size (lqO (.slice a1 l1 c1) (.slice a2 l2 c2)) v0 (.slice none 0 0) (.slice none 0 0) ⟨R, []⟩ [] w3 from
    ⟨A2.out.blw hb3, below_chain B2.out hb3, A2.out.blw hb3, (ho3.rp HFR.out).mono fun _ hb => hb.2, ((O1.nil w3 0).txts (by simp)).mono fun _ hb => hb.2, (OI.nil w3 0).ints.mono fun _ hb => hb.2, (A2.out.blw hb3).lt, (A2.out.blw hb3).lt, Nat.le_refl _⟩)
  obtain ⟨at0, ct0, rfl⟩ := ho3.slice
  have z3 := T3.out.zA
  obtain ⟨m0, m1, -⟩ := T3.out.A.two
  clear hb3 ho3 HOK A2 B2
  go_wp2_with fail
  refine (HTO.out w3 T3.out.B (by omega)).mono ?_
  rintro e w4 ⟨vb, ub, rfl, hjb, hkb, hb4⟩
  obtain ⟨a4, c4, rfl⟩ := hjb.slice
  obtain ⟨a5, c5, rfl⟩ := hkb.slice
  have T4 := Lib.hid (T3.out.below hb4)
  have XI := Lib.hid hjb
  have XR := Lib.hid hkb
  have HJB := Lib.hid ((hjb.rp FI.out).mono (S' := (· < w4.heap.size)) fun _ hb => hb.2)
  have HKB := Lib.hid ((hkb.txts FT.out).mono (S' := (· < w4.heap.size)) fun _ hb => hb.2)
  have A45 := Lib.hid ((Below.refl w4.heap.size w4).alloc (Nat.le_refl _) (iqO (.slice a4 q.items.length c4) (.slice a5 q.recent.length c5)))
  have X4 := Lib.hid (Hd.new w4 (iqO (.slice a4 q.items.length c4) (.slice a5 q.recent.length c5)))
  have s34 : w3.heap.size ≤ w4.heap.size := hb4.size
  clear hb4 hjb hkb m0 m1 T3
  go_wp2_with fail
  refine (HOI.out w4 _ _ _ HJB.out HKB.out A45.out (by simp)).mono ?_
  rintro e w5 ⟨v1, rfl, ho5, hb5⟩
  have B45 := Lib.hid (below_chain A45.out hb5)
  have X5 := Lib.hid (X4.out.blw hb5)
  have ho5' : O4 w5 (w4.heap.size + 1) v1 R := ho5.base (by simp)
  have S5 := Lib.hid (show St W (.slice a1 l1 c1) (.slice a2 l2 c2) w3.heap.size W.heap.size (lqO (.slice a1 l1 c1) (.slice a2 l2 c2)) (.slice at0 R.length ct0) (.slice none 0 0) (.slice none 0 0) ⟨R, []⟩ [] (w4.heap.size + 1) W.heap.size (lqO (.slice a1 l1 c1) (.slice a2 l2 c2)) v1 (.slice none 0 0) (.slice none 0 0) ⟨R, []⟩ [] w5 from
    ⟨T4.out.below B45.out, by omega, X5.out.lt, ho5', O1.nil _ _, OI.nil _ _, (T4.out.below B45.out).A, (fun b e => by have := (World.ownsRow.lt ho5' b e).1; omega), (fun b e => by cases e), (fun b e => by cases e)⟩)
  obtain ⟨at1, ct1, rfl⟩ := ho5.slice
  have HE5 := Lib.hid (HER.out w5 _ _ ((S5.out.g1.rp HFR.out).mono fun _ hb => hb.2) S5.out.o.r0)
  clear hb5 ho5 ho5' X4 T4
  go_wp2_with fail
  refine HE5.out.mono ?_
  rintro e w6 ⟨rfl, hb6⟩
  have S6 := Lib.hid (S5.out.below hb6)
  have X6 := Lib.hid (X5.out.blw hb6)
  have B46 := Lib.hid (below_chain B45.out hb6)
  obtain ⟨m00, m01, -⟩ := S6.out.o.A.two
  obtain ⟨p00, p01, -⟩ := X6.out.two
  have z6 := S6.out.o.A.lt
  have y6 := X6.out.lt
  have hRR : Below w6.heap.size w6 w6 := Below.refl _ _
  clear hb6 HE5 S5 X5 B45
  go_wp2_with fail
  go_region_held3 (fun wx => wx.cell? ⟨W.heap.size, 0, none⟩ = some (.slice a1 l1 c1) ∧ wx.cell? ⟨W.heap.size, 1, none⟩ = some (.slice a2 l2 c2) ∧
      wx.cell? ⟨w4.heap.size, 0, none⟩ = some (.slice a4 q.items.length c4) ∧ wx.cell? ⟨w4.heap.size, 1, none⟩ = some (.slice a5 q.recent.length c5) ∧
      W.heap.size < wx.heap.size ∧ w4.heap.size < wx.heap.size ∧ Below w6.heap.size w6 wx)
    (first
      | (simp [*, Below.drew]; done)
      | (go_split_ands
         refine ⟨?_, ?_, ?_, ?_, Nat.lt_of_lt_of_le (by assumption) hb.size, Nat.lt_of_lt_of_le (by assumption) hb.size, belI_step (by assumption) hb⟩
         · (rw [hb.cell (p := ⟨W.heap.size, 0, none⟩) (by assumption)]; assumption)
         · (rw [hb.cell (p := ⟨W.heap.size, 1, none⟩) (by assumption)]; assumption)
         · (rw [hb.cell (p := ⟨w4.heap.size, 0, none⟩) (by assumption)]; assumption)
         · (rw [hb.cell (p := ⟨w4.heap.size, 1, none⟩) (by assumption)]; assumption)))
    (first
      | (go_split_ands; go_at_call 17; refine (HTO.out _ (below_chain S6.out.o.B (by assumption)) (Nat.le_of_lt (by assumption))).mono ?_; rintro e wn ⟨vc, uc, rfl, hjc, hkc, hb⟩)
      | (go_split_ands; go_at_call 19; refine (HEQ.out _ _ _ vc uc (RpIn.later HJB.out (fun _ hb => hb) (below_chain B46.out (by assumption))) (TxtsIn.later HKB.out (fun _ hb => hb) (below_chain B46.out (by assumption))) ((hjc.rp FI.out).mono fun _ hb => hb.2) ((hkc.txts FT.out).mono fun _ hb => hb.2)).mono ?_; rintro e wn ⟨rfl, hb⟩))
  go_split_ands
  rename_i hfin
  have S7 := Lib.hid (S6.out.below hfin)
  have B47 := Lib.hid (below_chain B46.out hfin)
  have HM7 := Lib.hid (HMX.out (fun b => w3.heap.size ≤ b ∧ b < w4.heap.size + 1) _ _ _ _ (XI.out.below B47.out) (XR.out.below B47.out)
    (fun b e => ⟨(World.ownsRow.lt XI.out b e).1, Nat.lt_succ_of_lt (World.ownsRow.lt XI.out b e).2⟩) (fun b e => ⟨(World.ownsRow.lt XR.out b e).1, Nat.lt_succ_of_lt (World.ownsRow.lt XR.out b e).2⟩))
  clear hfin hRR S6 B46 X6 z6 y6
  go_wp2_with fail
  refine HM7.out.mono ?_
  rintro e w8 ⟨rfl, -, -, hm8⟩
  have S8 := Lib.hid (S7.out.markX hm8 (fun b h => h) (.inr z3))
  have HE8 := Lib.hid (HER.out w8 _ _ ((S8.out.g1.rp HFR.out).mono fun _ hb => hb.2) S8.out.o.r0)
  clear hm8 HM7 S7 B47 XI XR HJB HKB m00 m01 p00 p01
  go_wp2_with fail
  refine HE8.out.mono ?_
  rintro e w9 ⟨rfl, hb9⟩
  have S9 := Lib.hid (S8.out.below hb9)
  clear hb9 HE8 S8
  go_wp2_with fail
  refine (HMG.out _ _ _ S9.out.g1).mono ?_
  rintro e w10 ⟨rfl, ho10, hg10⟩
  have S10 := Lib.hid (S9.out.markR hg10 ho10)
  clear ho10 hg10 S9
  go_wp2_with fail
  refine (HHG.out _ _ _ (S10.out.g1.rp HFM.out) (fun _ hb => hb.2)).mono ?_
  rintro e w11 ⟨rfl, hb11⟩
  have S11 := Lib.hid (S10.out.below hb11)
  obtain ⟨m0, m1, -⟩ := S11.out.o.A.two
  have z11 := S11.out.o.A.lt
  clear hb11 S10
  go_wp2_with fail
  refine (HTO.out w11 S11.out.o.B (by omega)).mono ?_
  rintro e w12 ⟨vd, ud, rfl, hjd, hkd, hb12⟩
  have S12 := Lib.hid (S11.out.below hb12)
  have HO12 := Lib.hid (HOI.out w12 w12 _ _ ((hjd.rp FI.out).mono fun _ hb => hb.2) ((hkd.txts FT.out).mono fun _ hb => hb.2) (Below.refl _ _) (Nat.le_refl _))
  obtain ⟨a6, c6, rfl⟩ := hjd.slice
  obtain ⟨a7, c7, rfl⟩ := hkd.slice
  clear hb12 hjd hkd m0 m1 z11 S11
  go_wp2_with fail
  refine HO12.out.mono ?_
  rintro e w13 ⟨v2, rfl, ho13, hb13⟩
  have S13 := Lib.hid (S12.out.below hb13)
  have HE13 := Lib.hid (HER.out w13 _ _ ((ho13.rp HFR.out).mono fun _ hb => hb.2) S13.out.o.r0)
  obtain ⟨at2, ct2, rfl⟩ := ho13.slice
  clear hb13 ho13 HO12 S12
  go_wp2_with fail
  refine HE13.out.mono ?_
  rintro e w14 ⟨rfl, hb14⟩
  have S14 := Lib.hid (S13.out.below hb14)
  clear hb14 HE13 S13
  go_wp2_with fail
  refine (HHG.out _ _ _ (S14.out.g1.rp HFM.out) (fun _ hb => hb.2)).mono ?_
  rintro e w15 ⟨rfl, hb15⟩
  have B15 := Lib.hid (below_chain S14.out.o.B hb15)
  clear hb15
  go_wp2
  go_ret
  exact ⟨rfl, B15.out⟩
theorem batch_walk (q : Q) (iv rv : Value) (W : World) (hi : RpIn (· < W.heap.size) W iv q.items) (hr : TxtsIn (· < W.heap.size) W rv q.recent) :
    Calls Try.prog 6 #[qV iv rv] W fun e w' => e = .returned (.bool true) ∧ Below W.heap.size W w' := by
  obtain ⟨a1, l1, c1, rfl⟩ := hi.slice
  obtain ⟨a2, l2, c2, rfl⟩ := hr.slice
  by_cases hs : szQ q ≤ 1048576
  · exact batch_in q a1 l1 c1 a2 l2 c2 W hi hr hs
  · have HSZ := Lib.hid (fun wx hx hy => szQ_any W.heap.size W q _ _ hi hr 1048576 wx hx hy (by omega) (by omega))
    rw [szR_out (by omega)] at HSZ
    have HB1 := Lib.hid ((Below.refl W.heap.size W).alloc (Nat.le_refl _) (lqO (.slice a1 l1 c1) (.slice a2 l2 c2)))
    clear hi hr hs
    go_enter Try.func6, Try.ntmps6
    go_wp2_with fail
    refine (HSZ.out _ HB1.out (by simp)).mono ?_
    rintro e w1 ⟨rfl, hb2⟩
    have B1 := Lib.hid (below_chain HB1.out hb2)
    clear hb2
    go_wp2
    go_ret
    exact ⟨rfl, B1.out⟩
end Go.Proofs.Ytkdmlpclioeniaa.Qu
