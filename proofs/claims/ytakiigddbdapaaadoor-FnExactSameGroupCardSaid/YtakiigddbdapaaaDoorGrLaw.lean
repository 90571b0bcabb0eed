
/-
  The law FnExactGroupOK, walked.
-/
import Derived.Test.YtakiigddbdapaaaDoorGrO
namespace Go.Proofs.YtakiigddbdapaaaDoor.Gr
open Go.RowKit
open Go.Proofs.YtakiigddbdapaaaDoor.Ul
theorem below_chain {W w w' : World} (h : Below W.heap.size W w) (h2 : Below w.heap.size w w') : Below W.heap.size W w' := h.trans (h2.mono h.size)
set_option maxRecDepth 100000 in
set_option maxHeartbeats 8000000 in
theorem groupOK_in (g : Gp) (a1 : Option Addr) (l1 c1 : Nat) (W : World) (h : TgIn (· < W.heap.size) W (.slice a1 l1 c1) g.tgs) (hs : szG g ≤ 1048576) (hn : g.name.length ≤ 1048576) (ht : g.tgs.length ≤ 1048576) (hl : ∀ i, i < g.tgs.length → (g.tgs.getD i default).url.length ≤ 1048576) (hT : Tab W) (hM : MaxL W) :
    Calls Tryd.prog 5 #[gV g (.slice a1 l1 c1)] W fun e w' => e = .returned (.bool true) ∧ Below W.heap.size W w' := by
  have HSZ := Lib.hid (fun wx hx hy => szG_any W.heap.size W g _ h (by omega) 1048576 wx hx hy (by omega) (by omega))
  rw [szR_in (by omega)] at HSZ
  have g1 : ¬ (1048576 - (szG g : Int) < 0) := by omega
  generalize 1048576 - (szG g : Int) = z at *
  have HTO := Lib.hid (fun wx hx hy => toG_any W.heap.size W g _ h ht wx hx hy)
  have HT := Lib.hid hT
  have HM := Lib.hid hM
  clear hT hM
  obtain ⟨r, hr⟩ : ∃ r, gpB g = r := ⟨_, rfl⟩
  have HOS := Lib.hid (fun (W' : World) (v : Value) (h : TgIn (· < W'.heap.size) W' v g.tgs) => hr ▸ groupS W'.heap.size W' g v h hl hn W' (Below.refl _ _) (Nat.le_refl _))
  have HOI := Lib.hid (fun (w0 W' : World) (v : Value) (h : TgIn (· < w0.heap.size) w0 v g.tgs) h2 h3 h4 h5 => hr ▸ groupI w0.heap.size w0 g v h hn W' h2 h3 h4 h5)
  have HEQ := Lib.hid (fun (w0 : World) (v u : Value) (h1 : TgIn (· < w0.heap.size) w0 v g.tgs) (h2 : TgIn (· < w0.heap.size) w0 u g.tgs) => eqG_self w0.heap.size w0 g v u h1 h2 w0 (Below.refl _ _) (Nat.le_refl _))
  have hk1 := heap_alloc_new W (.cells #[.string ⟨g.name.toArray⟩, .int .i64 g.age, .slice a1 l1 c1] 34)
  have hb1 := (Below.refl W.heap.size W).alloc (Nat.le_refl _) (.cells #[.string ⟨g.name.toArray⟩, .int .i64 g.age, .slice a1 l1 c1] 34)
  have HK1 := Lib.hid hk1
  have HB1 := Lib.hid hb1
  clear hk1 hb1 hr hs hn ht hl
  go_enter Tryd.func5, Tryd.ntmps5
  go_wp2_with fail
  refine (HSZ.out _ HB1.out (by simp)).mono ?_
  rintro e w1 ⟨rfl, hb2⟩
  have k1 := (hb2.block _ (by simp)).trans HK1.out
  obtain ⟨m00, m01, m02, -⟩ := three_cells k1
  have K1 := Lib.hid k1
  have z1 : W.heap.size < w1.heap.size := by have := hb2.size; simp at this; omega
  have B1 := Lib.hid (below_chain HB1.out hb2)
  clear hb2 k1
  go_wp2_with fail
  refine (HTO.out w1 B1.out (by omega)).mono ?_
  rintro e w2 ⟨va, rfl, hja, hb2⟩
  obtain ⟨aa, la, ca, rfl⟩ := hja.slice
  have K2 := Lib.hid ((hb2.block _ z1).trans K1.out)
  have z2 : W.heap.size < w2.heap.size := Nat.lt_of_lt_of_le z1 hb2.size
  have B2 := Lib.hid (below_chain B1.out hb2)
  have HOK := Lib.hid (HOS.out w2 _ (hja.mono fun _ hb => hb.2))
  clear hb2 hja m00 m01 m02 HOS
  go_wp2_with fail
  refine HOK.out.mono ?_
  rintro e w3 ⟨rfl, hb3⟩
  have k3 := (hb3.block _ z2).trans K2.out
  have K3 := Lib.hid k3
  obtain ⟨m00, m01, m02, -⟩ := three_cells k3
  have z3 : W.heap.size < w3.heap.size := Nat.lt_of_lt_of_le z2 hb3.size
  have B3 := Lib.hid (below_chain B2.out hb3)
  clear hb3 k3
  go_wp2_with fail
  refine (HTO.out w3 B3.out (by omega)).mono ?_
  rintro e w4 ⟨vb, rfl, hjb, hb4⟩
  obtain ⟨a4, l4, c4, rfl⟩ := hjb.slice
  have K4 := Lib.hid ((hb4.block _ z3).trans K3.out)
  have z4 : W.heap.size < w4.heap.size := Nat.lt_of_lt_of_le z3 hb4.size
  have B4 := Lib.hid (below_chain B3.out hb4)
  have HJB := Lib.hid (hjb.mono (S' := (· < w4.heap.size)) fun _ hb => hb.2)
  clear hb4 hjb m00 m01 m02
  have HK5 := Lib.hid (heap_alloc_new w4 (.cells #[.string ⟨g.name.toArray⟩, .int .i64 g.age, .slice a4 l4 c4] 39))
  have A45 := Lib.hid ((Below.refl w4.heap.size w4).alloc (Nat.le_refl _) (.cells #[.string ⟨g.name.toArray⟩, .int .i64 g.age, .slice a4 l4 c4] 39))
  have B4a := Lib.hid (below_chain B4.out A45.out)
  go_wp2_with fail
  refine (HOI.out w4 _ _ HJB.out A45.out (by simp) (HT.out.below B4a.out) (HM.out.below B4a.out)).mono ?_
  rintro e w5 ⟨rfl, hb5⟩
  obtain ⟨p00, p01, p02, -⟩ := three_cells ((hb5.block _ (by simp)).trans HK5.out)
  obtain ⟨m00, m01, m02, -⟩ := three_cells ((hb5.block _ (by simp; omega)).trans ((heap_alloc_old _ _ z4).trans K4.out))
  have z5 : W.heap.size < w5.heap.size := by have := hb5.size; simp at this; omega
  have y5 : w4.heap.size < w5.heap.size := by have := hb5.size; simp at this; omega
  have B45 : Below w4.heap.size w4 w5 := A45.out.trans (hb5.mono (by simp))
  have B5 := Lib.hid (below_chain B4.out B45)
  clear hb5
  have hRR : Below w5.heap.size w5 w5 := Below.refl _ _
  have HB45 := Lib.hid B45
  clear B45
  cases r
  all_goals
    go_wp2_with fail
    go_region_held3 (fun wx => wx.cell? ⟨W.heap.size, 0, none⟩ = some (.string ⟨g.name.toArray⟩) ∧ wx.cell? ⟨W.heap.size, 1, none⟩ = some (.int .i64 g.age) ∧ wx.cell? ⟨W.heap.size, 2, none⟩ = some (.slice a1 l1 c1) ∧
        wx.cell? ⟨w4.heap.size, 0, none⟩ = some (.string ⟨g.name.toArray⟩) ∧ wx.cell? ⟨w4.heap.size, 1, none⟩ = some (.int .i64 g.age) ∧ wx.cell? ⟨w4.heap.size, 2, none⟩ = some (.slice a4 l4 c4) ∧
        W.heap.size < wx.heap.size ∧ w4.heap.size < wx.heap.size ∧ Below w5.heap.size w5 wx)
      (first
        | (simp [*, Below.drew]; done)
        | (go_split_ands
           refine ⟨?_, ?_, ?_, ?_, ?_, ?_, Nat.lt_of_lt_of_le (by assumption) hb.size, Nat.lt_of_lt_of_le (by assumption) hb.size, belI_step (by assumption) hb⟩
           · (rw [hb.cell (p := ⟨W.heap.size, 0, none⟩) (by assumption)]; assumption)
           · (rw [hb.cell (p := ⟨W.heap.size, 1, none⟩) (by assumption)]; assumption)
           · (rw [hb.cell (p := ⟨W.heap.size, 2, none⟩) (by assumption)]; assumption)
           · (rw [hb.cell (p := ⟨w4.heap.size, 0, none⟩) (by assumption)]; assumption)
           · (rw [hb.cell (p := ⟨w4.heap.size, 1, none⟩) (by assumption)]; assumption)
           · (rw [hb.cell (p := ⟨w4.heap.size, 2, none⟩) (by assumption)]; assumption)))
      (first
        | (go_split_ands; go_at_call 16; refine (HTO.out _ (below_chain B5.out (by assumption)) (Nat.le_of_lt (by assumption))).mono ?_; rintro e w6 ⟨vc, rfl, hjc, hb⟩)
        | (go_split_ands; go_at_call 18; refine (HEQ.out _ _ vc (TgIn.later HJB.out (fun _ hb => hb) (below_chain HB45.out (by assumption))) (hjc.mono fun _ hb => hb.2)).mono ?_; rintro e w7 ⟨rfl, hb⟩))
    go_split_ands
    rename_i hfin
    have HF := Lib.hid (below_chain B5.out hfin)
    clear hfin
    go_wp2
    go_ret
    exact ⟨rfl, HF.out⟩
theorem szU_get : ∀ (xs : List Tg) (i : Nat), i < xs.length → (xs.getD i default).url.length ≤ szU xs
  | [], _, h => by simp at h
  | x :: r, 0, _ => by simp [szU]
  | x :: r, i + 1, h => by
    have := szU_get r i (by simpa using h)
    simp only [szU, List.getD_cons_succ]
    omega
set_option maxRecDepth 100000 in
theorem groupOK_long (g : Gp) (a1 : Option Addr) (l1 c1 : Nat) (W : World) (h : TgIn (· < W.heap.size) W (.slice a1 l1 c1) g.tgs) (hn : g.name.length ≤ 9223372036854775807) (hs : ¬ szG g ≤ 1048576) :
    Calls Tryd.prog 5 #[gV g (.slice a1 l1 c1)] W fun e w' => e = .returned (.bool true) ∧ Below W.heap.size W w' := by
  have HSZ := Lib.hid (fun wx hx hy => szG_any W.heap.size W g _ h hn 1048576 wx hx hy (by omega) (by omega))
  rw [szR_out (by omega)] at HSZ
  have HB1 := Lib.hid ((Below.refl W.heap.size W).alloc (Nat.le_refl _) (.cells #[.string ⟨g.name.toArray⟩, .int .i64 g.age, .slice a1 l1 c1] 34))
  clear h hs
  go_enter Tryd.func5, Tryd.ntmps5
  go_wp2_with fail
  refine (HSZ.out _ HB1.out (by simp)).mono ?_
  rintro e w1 ⟨rfl, hb2⟩
  have B1 := Lib.hid (below_chain HB1.out hb2)
  clear hb2
  go_wp2
  go_ret
  exact ⟨rfl, B1.out⟩
theorem groupOK_walk (g : Gp) (tv : Value) (W : World) (h : TgIn (· < W.heap.size) W tv g.tgs) (hn : g.name.length ≤ 9223372036854775807) (hT : Tab W) (hM : MaxL W) :
    Calls Tryd.prog 5 #[gV g tv] W fun e w' => e = .returned (.bool true) ∧ Below W.heap.size W w' := by
  obtain ⟨a1, l1, c1, rfl⟩ := h.slice
  by_cases hs : szG g ≤ 1048576
  · have hs' := hs
    unfold szG at hs'
    exact groupOK_in g a1 l1 c1 W h hs (by omega) (by omega) (fun i hi => by have := szU_get g.tgs i hi; omega) hT hM
  · exact groupOK_long g a1 l1 c1 W h hn hs
end Go.Proofs.YtakiigddbdapaaaDoor.Gr
