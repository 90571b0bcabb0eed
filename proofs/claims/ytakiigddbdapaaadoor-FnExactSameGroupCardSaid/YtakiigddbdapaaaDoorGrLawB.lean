
/-
  The law FnExactSameGroup, walked.
-/
import Derived.Test.YtakiigddbdapaaaDoorGrSameM
namespace Go.Proofs.YtakiigddbdapaaaDoor.Gr
open Go.RowKit
open Go.Proofs.YtakiigddbdapaaaDoor.Ul
/-- an argument of the law: it lies in W, and its size has been found in bounds -/
def ArgOf (W : World) (j : Gp) (nv : Value) : Prop := TgIn (· < W.heap.size) W nv j.tgs ∧ szG j ≤ 1048576 ∧ j.name.length ≤ 9223372036854775807
theorem tin_new {W w' : World} {v : Value} {xs : List Tg} (h : TgIn (fun b => W.heap.size ≤ b ∧ b < w'.heap.size) w' v xs) : TgIn (· < w'.heap.size) w' v xs := h.mono fun _ hb => hb.2
theorem blk_later {w w' : World} {g : Nat} {o : Obj} (h : w.heap[g]? = some o) (hb : Below w.heap.size w w') : w'.heap[g]? = some o := by
  rcases Nat.lt_or_ge g w.heap.size with h' | h'
  · exact (hb.block g h').trans h
  · simp [Array.getElem?_eq_none h'] at h
theorem blk_alloc {w : World} {g : Nat} {o : Obj} (h : w.heap[g]? = some o) (p : Obj) : (w.alloc p).heap[g]? = some o := blk_later h ((Below.refl _ _).alloc (Nat.le_refl _) p)
theorem blk_lt {w : World} {g : Nat} {o : Obj} (h : w.heap[g]? = some o) : g < w.heap.size := by
  rcases Nat.lt_or_ge g w.heap.size with h' | h'
  · exact h'
  · simp [Array.getElem?_eq_none h'] at h
set_option maxRecDepth 100000 in
set_option maxHeartbeats 8000000 in
theorem sameGroup_in (a b : Gp) (an1 : Option Addr) (ln1 cn1 : Nat) (an2 : Option Addr) (ln2 cn2 : Nat) (W : World) (ha : ArgOf W a (.slice an1 ln1 cn1)) (hbb : ArgOf W b (.slice an2 ln2 cn2)) (hs : szG a + szG b ≤ 1048576) (hT : Tab W) (hM : MaxL W) :
    Calls Tryd.prog 6 #[gV a (.slice an1 ln1 cn1), gV b (.slice an2 ln2 cn2)] W fun e w' => e = .returned (.bool true) ∧ Below W.heap.size W w' := by
  have HSZ := Lib.hid (fun wx hx => szG_any W.heap.size W a _ ha.1 ha.2.2 1048576 wx hx)
  have HSZ2 := Lib.hid (fun wx hx => szG_any W.heap.size W b _ hbb.1 hbb.2.2 (1048576 - (szG a : Int)) wx hx)
  have HT := Lib.hid (fun j nv (h : ArgOf W j nv) wx hx => toG_any W.heap.size W j nv h.1 (by have := h.2.1; unfold szG at this; omega) wx hx)
  rw [szR_in (by omega)] at HSZ
  rw [szR_in (by omega)] at HSZ2
  have g1 : ¬ (1048576 - (szG a : Int) < 0) := by omega
  have g2 : ¬ (1048576 - (szG a : Int) - (szG b : Int) < 0) := by omega
  have hl0 : 0 ≤ 1048576 - (szG a : Int) := by omega
  have hl1 : 1048576 - (szG a : Int) ≤ 1048576 := by omega
  have hsa : szG a ≤ 1048576 := by omega
  have hsb : szG b ≤ 1048576 := by omega
  generalize 1048576 - (szG a : Int) - (szG b : Int) = l2 at *
  generalize 1048576 - (szG a : Int) = l1 at *
  have hb1 : Below W.heap.size W ((W.alloc (.cells #[.string ⟨a.name.toArray⟩, .int .i64 a.age, .slice an1 ln1 cn1] 34)).alloc (.cells #[.string ⟨b.name.toArray⟩, .int .i64 b.age, .slice an2 ln2 cn2] 34)) := ((Below.refl _ _).alloc (Nat.le_refl _) _).alloc (by simp) _
  have HB1 := Lib.hid hb1
  have K2 := Lib.hid (alloc2_0 W (.cells #[.string ⟨a.name.toArray⟩, .int .i64 a.age, .slice an1 ln1 cn1] 34) (.cells #[.string ⟨b.name.toArray⟩, .int .i64 b.age, .slice an2 ln2 cn2] 34))
  have K3 := Lib.hid (alloc2_1 W (.cells #[.string ⟨a.name.toArray⟩, .int .i64 a.age, .slice an1 ln1 cn1] 34) (.cells #[.string ⟨b.name.toArray⟩, .int .i64 b.age, .slice an2 ln2 cn2] 34))
  clear hb1
  have hna : a.name.length ≤ 1048576 := by have := hsa; unfold szG at this; omega
  have hnb : b.name.length ≤ 1048576 := by have := hsb; unfold szG at this; omega
  have hla : ∀ i, i < a.tgs.length → (a.tgs.getD i default).url.length ≤ 1048576 := fun i hi => by have h1 := hsa; have h2 := szU_get a.tgs i hi; unfold szG at h1; omega
  have hlb : ∀ i, i < b.tgs.length → (b.tgs.getD i default).url.length ≤ 1048576 := fun i hi => by have h1 := hsb; have h2 := szU_get b.tgs i hi; unfold szG at h1; omega
  have TB := Lib.hid hT
  have MB := Lib.hid hM
  obtain ⟨r, hr⟩ : ∃ r, sameG a b = r := ⟨_, rfl⟩
  have HSS := Lib.hid (fun (w : World) (nv nv' : Value) (h1 : TgIn (· < w.heap.size) w nv a.tgs) (h2 : TgIn (· < w.heap.size) w nv' b.tgs) => hr ▸ sameGS w.heap.size w a b nv nv' h1 h2 hla hna hlb hnb w (Below.refl _ _) (Nat.le_refl _))
  have HSI := Lib.hid (fun (w : World) (nv nv' : Value) (h1 : TgIn (· < w.heap.size) w nv a.tgs) (h2 : TgIn (· < w.heap.size) w nv' b.tgs) (h3 : Tab w) (h4 : MaxL w) => hr ▸ sameGI w.heap.size w a b nv nv' h1 h2 hna w (Below.refl _ _) (Nat.le_refl _) h3 h4)
  have HEQA := Lib.hid (fun (w : World) (v u : Value) (h1 : TgIn (· < w.heap.size) w v a.tgs) (h2 : TgIn (· < w.heap.size) w u a.tgs) => eqG_self w.heap.size w a v u h1 h2 w (Below.refl _ _) (Nat.le_refl _))
  have HEQB := Lib.hid (fun (w : World) (v u : Value) (h1 : TgIn (· < w.heap.size) w v b.tgs) (h2 : TgIn (· < w.heap.size) w u b.tgs) => eqG_self w.heap.size w b v u h1 h2 w (Below.refl _ _) (Nat.le_refl _))
  clear hna hnb hla hlb hT hM hsb
  clear hr hs
  go_enter Tryd.func6, Tryd.ntmps6
  go_wp2_with fail
  refine (HSZ.out _ HB1.out (by simp; omega) (by omega) (by omega)).mono ?_
  rintro e w1 ⟨rfl, hb2⟩
  have L2 := Lib.hid (blk_later K2.out hb2)
  have L3 := Lib.hid (blk_later K3.out hb2)
  have B1 := Lib.hid (below_chain HB1.out hb2)
  obtain ⟨m00, m01, m02, -⟩ := three_cells L3.out
  have z1 := B1.out.size
  clear hb2
  go_wp2_with fail
  refine (HSZ2.out _ B1.out z1 hl0 hl1).mono ?_
  rintro e w2 ⟨rfl, hb2⟩
  clear m00 m01 m02
  have M2 := Lib.hid (blk_later L2.out hb2)
  have M3 := Lib.hid (blk_later L3.out hb2)
  have B2 := Lib.hid (below_chain B1.out hb2)
  obtain ⟨m00, m01, m02, -⟩ := three_cells M2.out
  obtain ⟨p00, p01, p02, -⟩ := three_cells M3.out
  have y2 := blk_lt M2.out
  have y3 := blk_lt M3.out
  have hRR := Below.refl w2.heap.size w2
  clear hb2 z1
  go_wp2_with fail
  go_region_held3 (fun wx => wx.cell? ⟨W.heap.size, 0, none⟩ = some (.string ⟨a.name.toArray⟩) ∧ wx.cell? ⟨W.heap.size, 1, none⟩ = some (.int .i64 a.age) ∧ wx.cell? ⟨W.heap.size, 2, none⟩ = some (.slice an1 ln1 cn1) ∧ wx.cell? ⟨W.heap.size + 1, 0, none⟩ = some (.string ⟨b.name.toArray⟩) ∧ wx.cell? ⟨W.heap.size + 1, 1, none⟩ = some (.int .i64 b.age) ∧ wx.cell? ⟨W.heap.size + 1, 2, none⟩ = some (.slice an2 ln2 cn2) ∧ W.heap.size < wx.heap.size ∧ W.heap.size + 1 < wx.heap.size ∧ Below w2.heap.size w2 wx)
    (first
      | (simp [*, Below.drew]; done)
      | (go_split_ands
         refine ⟨?_, ?_, ?_, ?_, ?_, ?_, Nat.lt_of_lt_of_le (by assumption) hb.size, Nat.lt_of_lt_of_le (by assumption) hb.size, belI_step (by assumption) hb⟩
         · (rw [hb.cell (p := ⟨W.heap.size, 0, none⟩) (by assumption)]; assumption)
         · (rw [hb.cell (p := ⟨W.heap.size, 1, none⟩) (by assumption)]; assumption)
         · (rw [hb.cell (p := ⟨W.heap.size, 2, none⟩) (by assumption)]; assumption)
         · (rw [hb.cell (p := ⟨W.heap.size + 1, 0, none⟩) (by assumption)]; assumption)
         · (rw [hb.cell (p := ⟨W.heap.size + 1, 1, none⟩) (by assumption)]; assumption)
         · (rw [hb.cell (p := ⟨W.heap.size + 1, 2, none⟩) (by assumption)]; assumption)))
    (first
      | (go_split_ands; go_at_call 19; (first | refine (HSS.out _ nv1 nv2 hj1L hj2L).mono ?_ | refine (HSS.out _ nv2 nv1 hj2L hj1L).mono ?_); rintro e w9 ⟨rfl, hb⟩)
      | (have hh := hj1; go_split_ands; go_at_call 16; refine (HT.out _ _ (by assumption) _ (below_chain B2.out (by assumption)) (Nat.le_of_lt (by assumption))).mono ?_; rintro e w8 ⟨nv2, rfl, hj2, hb⟩; have hj1L := TgIn.later hj1 (fun _ hb => hb.2) hb; have hj2L := tin_new hj2)
      | (go_split_ands; go_at_call 16; refine (HT.out _ _ (by assumption) _ (below_chain B2.out (by assumption)) (Nat.le_of_lt (by assumption))).mono ?_; rintro e w7 ⟨nv1, rfl, hj1, hb⟩))
  all_goals
    go_split_ands
    rename_i hNW
    have N2 := Lib.hid (blk_later M2.out hNW)
    have N3 := Lib.hid (blk_later M3.out hNW)
    have B3 := Lib.hid (below_chain B2.out hNW)
    clear hNW hj1L hj2L hj1 hj2
    go_wp2_with fail
    refine (HT.out _ _ ha w9 B3.out B3.out.size).mono ?_
    rintro e w4 ⟨nva, rfl, hja, hb4⟩
    obtain ⟨an7, ln7, cn7, rfl⟩ := hja.slice
    have P2 := Lib.hid (blk_later N2.out hb4)
    have P3 := Lib.hid (blk_later N3.out hb4)
    have B4 := Lib.hid (below_chain B3.out hb4)
    have HJA := Lib.hid (tin_new hja)
    have K7 := Lib.hid (heap_alloc_new w4 (.cells #[.string ⟨a.name.toArray⟩, .int .i64 a.age, .slice an7 ln7 cn7] 39))
    have B4a := Lib.hid (below_chain B4.out ((Below.refl w4.heap.size w4).alloc (Nat.le_refl _) (.cells #[.string ⟨a.name.toArray⟩, .int .i64 a.age, .slice an7 ln7 cn7] 39)))
    obtain ⟨x00, x01, x02, -⟩ := three_cells (blk_alloc P3.out (.cells #[.string ⟨a.name.toArray⟩, .int .i64 a.age, .slice an7 ln7 cn7] 39))
    clear hb4 hja
    go_wp2_with fail
    refine (HT.out _ _ hbb _ B4a.out B4a.out.size).mono ?_
    rintro e w5 ⟨nvb, rfl, hjb, hb5⟩
    obtain ⟨an8, ln8, cn8, rfl⟩ := hjb.slice
    have Q2 := Lib.hid (blk_later (blk_alloc P2.out (.cells #[.string ⟨a.name.toArray⟩, .int .i64 a.age, .slice an7 ln7 cn7] 39)) hb5)
    have Q3 := Lib.hid (blk_later (blk_alloc P3.out (.cells #[.string ⟨a.name.toArray⟩, .int .i64 a.age, .slice an7 ln7 cn7] 39)) hb5)
    have Q7 := Lib.hid (blk_later K7.out hb5)
    have B5 := Lib.hid (below_chain B4a.out hb5)
    have HJA5 := Lib.hid (TgIn.later HJA.out (fun _ hb => hb) (((Below.refl w4.heap.size w4).alloc (Nat.le_refl _) (.cells #[.string ⟨a.name.toArray⟩, .int .i64 a.age, .slice an7 ln7 cn7] 39)).trans (hb5.mono (by simp))))
    have HJB := Lib.hid (tin_new hjb)
    have K8 := Lib.hid (heap_alloc_new w5 (.cells #[.string ⟨b.name.toArray⟩, .int .i64 b.age, .slice an8 ln8 cn8] 39))
    have A5 := Lib.hid ((Below.refl w5.heap.size w5).alloc (Nat.le_refl _) (.cells #[.string ⟨b.name.toArray⟩, .int .i64 b.age, .slice an8 ln8 cn8] 39))
    clear x00 x01 x02
    obtain ⟨x00, x01, x02, -⟩ := three_cells (blk_alloc Q7.out (.cells #[.string ⟨b.name.toArray⟩, .int .i64 b.age, .slice an8 ln8 cn8] 39))
    obtain ⟨v00, v01, v02, -⟩ := three_cells K8.out
    clear hb5 hjb
    go_wp2_with fail
    refine (HSI.out _ _ _ (TgIn.later HJA5.out (fun _ hb => hb) A5.out) (TgIn.later HJB.out (fun _ hb => hb) A5.out) (TB.out.below (below_chain B5.out A5.out)) (MB.out.below (below_chain B5.out A5.out))).mono ?_
    rintro e w6 ⟨rfl, hb6⟩
    clear x00 x01 x02 v00 v01 v02
    have R2 := Lib.hid (blk_later (blk_alloc Q2.out (.cells #[.string ⟨b.name.toArray⟩, .int .i64 b.age, .slice an8 ln8 cn8] 39)) hb6)
    have R3 := Lib.hid (blk_later (blk_alloc Q3.out (.cells #[.string ⟨b.name.toArray⟩, .int .i64 b.age, .slice an8 ln8 cn8] 39)) hb6)
    have R7 := Lib.hid (blk_later (blk_alloc Q7.out (.cells #[.string ⟨b.name.toArray⟩, .int .i64 b.age, .slice an8 ln8 cn8] 39)) hb6)
    have R8 := Lib.hid (blk_later K8.out hb6)
    have B56 := Lib.hid (below_chain A5.out hb6)
    have B6 := Lib.hid (below_chain B5.out B56.out)
    have HJA6 := Lib.hid (TgIn.later HJA5.out (fun _ hb => hb) B56.out)
    have HJB6 := Lib.hid (TgIn.later HJB.out (fun _ hb => hb) B56.out)
    clear hb6
    obtain ⟨x00, x01, x02, -⟩ := three_cells R7.out
    obtain ⟨v00, v01, v02, -⟩ := three_cells R2.out
    have t2 := blk_lt R2.out
    have t7 := blk_lt R7.out
    have hR6 := Below.refl w6.heap.size w6
    cases r
    all_goals
      go_wp2_with fail
      go_region_held3 (fun wx => wx.cell? ⟨w4.heap.size, 0, none⟩ = some (.string ⟨a.name.toArray⟩) ∧ wx.cell? ⟨w4.heap.size, 1, none⟩ = some (.int .i64 a.age) ∧ wx.cell? ⟨w4.heap.size, 2, none⟩ = some (.slice an7 ln7 cn7) ∧ wx.cell? ⟨W.heap.size, 0, none⟩ = some (.string ⟨a.name.toArray⟩) ∧ wx.cell? ⟨W.heap.size, 1, none⟩ = some (.int .i64 a.age) ∧ wx.cell? ⟨W.heap.size, 2, none⟩ = some (.slice an1 ln1 cn1) ∧ w4.heap.size < wx.heap.size ∧ W.heap.size < wx.heap.size ∧ Below w6.heap.size w6 wx)
        (first
          | (simp [*, Below.drew]; done)
          | (go_split_ands
             refine ⟨?_, ?_, ?_, ?_, ?_, ?_, Nat.lt_of_lt_of_le (by assumption) hb.size, Nat.lt_of_lt_of_le (by assumption) hb.size, belI_step (by assumption) hb⟩
             · (rw [hb.cell (p := ⟨w4.heap.size, 0, none⟩) (by assumption)]; assumption)
             · (rw [hb.cell (p := ⟨w4.heap.size, 1, none⟩) (by assumption)]; assumption)
             · (rw [hb.cell (p := ⟨w4.heap.size, 2, none⟩) (by assumption)]; assumption)
             · (rw [hb.cell (p := ⟨W.heap.size, 0, none⟩) (by assumption)]; assumption)
             · (rw [hb.cell (p := ⟨W.heap.size, 1, none⟩) (by assumption)]; assumption)
             · (rw [hb.cell (p := ⟨W.heap.size, 2, none⟩) (by assumption)]; assumption)))
        (first
          | (go_split_ands; go_at_call 16; refine (HT.out _ _ (by assumption) _ (below_chain B6.out (by assumption)) ((below_chain B6.out (by assumption)).size)).mono ?_; rintro e w10 ⟨nvc, rfl, hjc, hb⟩)
          | (go_split_ands; go_at_call 18; refine (HEQA.out _ _ nvc (TgIn.later HJA6.out (fun _ hb => hb) (by assumption)) (tin_new hjc)).mono ?_; rintro e w11 ⟨rfl, hb⟩))
      go_split_ands
      rename_i hNZ
      have hw : ∃ w12, w12 = w11 := ⟨_, rfl⟩
      obtain ⟨w12, rfl⟩ := hw
      have S3 := Lib.hid (blk_later R3.out hNZ)
      have S8 := Lib.hid (blk_later R8.out hNZ)
      have B12 := Lib.hid (below_chain B6.out hNZ)
      have HJB12 := Lib.hid (TgIn.later HJB6.out (fun _ hb => hb) hNZ)
      obtain ⟨c00, c01, c02, -⟩ := three_cells S8.out
      obtain ⟨d00, d01, d02, -⟩ := three_cells S3.out
      have e3 := blk_lt S3.out
      have e8 := blk_lt S8.out
      have e2 : W.heap.size < w12.heap.size := Nat.lt_of_lt_of_le t2 hNZ.size
      have hR12 := Below.refl w12.heap.size w12
      clear hNZ hR6 t7 x00 x01 x02 v00 v01 v02
      go_wp2_with fail
      go_region_held3 (fun wx => wx.cell? ⟨w5.heap.size, 0, none⟩ = some (.string ⟨b.name.toArray⟩) ∧ wx.cell? ⟨w5.heap.size, 1, none⟩ = some (.int .i64 b.age) ∧ wx.cell? ⟨w5.heap.size, 2, none⟩ = some (.slice an8 ln8 cn8) ∧ wx.cell? ⟨W.heap.size + 1, 0, none⟩ = some (.string ⟨b.name.toArray⟩) ∧ wx.cell? ⟨W.heap.size + 1, 1, none⟩ = some (.int .i64 b.age) ∧ wx.cell? ⟨W.heap.size + 1, 2, none⟩ = some (.slice an2 ln2 cn2) ∧ w5.heap.size < wx.heap.size ∧ W.heap.size + 1 < wx.heap.size ∧ Below w12.heap.size w12 wx)
        (first
          | (simp [*, Below.drew]; done)
          | (go_split_ands
             refine ⟨?_, ?_, ?_, ?_, ?_, ?_, Nat.lt_of_lt_of_le (by assumption) hb.size, Nat.lt_of_lt_of_le (by assumption) hb.size, belI_step (by assumption) hb⟩
             · (rw [hb.cell (p := ⟨w5.heap.size, 0, none⟩) (by assumption)]; assumption)
             · (rw [hb.cell (p := ⟨w5.heap.size, 1, none⟩) (by assumption)]; assumption)
             · (rw [hb.cell (p := ⟨w5.heap.size, 2, none⟩) (by assumption)]; assumption)
             · (rw [hb.cell (p := ⟨W.heap.size + 1, 0, none⟩) (by assumption)]; assumption)
             · (rw [hb.cell (p := ⟨W.heap.size + 1, 1, none⟩) (by assumption)]; assumption)
             · (rw [hb.cell (p := ⟨W.heap.size + 1, 2, none⟩) (by assumption)]; assumption)))
        (first
          | (go_split_ands; go_at_call 16; refine (HT.out _ _ (by assumption) _ (below_chain B12.out (by assumption)) ((below_chain B12.out (by assumption)).size)).mono ?_; rintro e w10 ⟨nvc, rfl, hjc, hb⟩)
          | (go_split_ands; go_at_call 18; refine (HEQB.out _ _ nvc (TgIn.later HJB12.out (fun _ hb => hb) (by assumption)) (tin_new hjc)).mono ?_; rintro e w11 ⟨rfl, hb⟩))
      go_split_ands
      rename_i hNF
      have HF := Lib.hid (below_chain B12.out hNF)
      clear hNF
      go_wp2
      go_ret
      exact ⟨rfl, HF.out⟩
set_option maxRecDepth 100000 in
set_option maxHeartbeats 4000000 in
theorem sameGroup_walk (a b : Gp) (na nb : Value) (W : World) (ha : TgIn (· < W.heap.size) W na a.tgs) (hbb : TgIn (· < W.heap.size) W nb b.tgs) (hna : a.name.length ≤ 9223372036854775807) (hnb : b.name.length ≤ 9223372036854775807) (hT : Tab W) (hM : MaxL W) :
    Calls Tryd.prog 6 #[gV a na, gV b nb] W fun e w' => e = .returned (.bool true) ∧ Below W.heap.size W w' := by
  obtain ⟨an1, ln1, cn1, rfl⟩ := ha.slice
  obtain ⟨an2, ln2, cn2, rfl⟩ := hbb.slice
  by_cases hs : szG a + szG b ≤ 1048576
  · exact sameGroup_in a b an1 ln1 cn1 an2 ln2 cn2 W ⟨ha, by omega, hna⟩ ⟨hbb, by omega, hnb⟩ hs hT hM
  · have hb1 : Below W.heap.size W ((W.alloc (.cells #[.string ⟨a.name.toArray⟩, .int .i64 a.age, .slice an1 ln1 cn1] 34)).alloc (.cells #[.string ⟨b.name.toArray⟩, .int .i64 b.age, .slice an2 ln2 cn2] 34)) := ((Below.refl _ _).alloc (Nat.le_refl _) _).alloc (by simp) _
    have HB1 := Lib.hid hb1
    have K3 := Lib.hid (alloc2_1 W (.cells #[.string ⟨a.name.toArray⟩, .int .i64 a.age, .slice an1 ln1 cn1] 34) (.cells #[.string ⟨b.name.toArray⟩, .int .i64 b.age, .slice an2 ln2 cn2] 34))
    have HSZ := Lib.hid (fun wx hx => szG_any W.heap.size W a _ ha hna 1048576 wx hx)
    clear hb1
    by_cases hsa : szG a ≤ 1048576
    · have HSZ2 := Lib.hid (fun wx hx => szG_any W.heap.size W b _ hbb hnb (1048576 - (szG a : Int)) wx hx)
      rw [szR_in (by omega)] at HSZ
      rw [szR_out (by omega)] at HSZ2
      have g1 : ¬ (1048576 - (szG a : Int) < 0) := by omega
      have hl0 : 0 ≤ 1048576 - (szG a : Int) := by omega
      have hl1 : 1048576 - (szG a : Int) ≤ 1048576 := by omega
      clear ha hbb hs
      generalize 1048576 - (szG a : Int) = l1 at *
      go_enter Tryd.func6, Tryd.ntmps6
      go_wp2_with fail
      refine (HSZ.out _ HB1.out (by simp; omega) (by omega) (by omega)).mono ?_
      rintro e w1 ⟨rfl, hb2⟩
      have B1 := Lib.hid (below_chain HB1.out hb2)
      obtain ⟨m00, m01, m02, -⟩ := three_cells (blk_later K3.out hb2)
      clear hb2
      go_wp2_with fail
      refine (HSZ2.out _ B1.out B1.out.size hl0 hl1).mono ?_
      rintro e w2 ⟨rfl, hb2⟩
      have B2 := Lib.hid (below_chain B1.out hb2)
      clear hb2
      go_wp2
      go_ret
      exact ⟨rfl, B2.out⟩
    · rw [szR_out (by omega)] at HSZ
      clear ha hbb hs
      go_enter Tryd.func6, Tryd.ntmps6
      go_wp2_with fail
      refine (HSZ.out _ HB1.out (by simp; omega) (by omega) (by omega)).mono ?_
      rintro e w1 ⟨rfl, hb2⟩
      have B1 := Lib.hid (below_chain HB1.out hb2)
      clear hb2
      go_wp2
      go_ret
      exact ⟨rfl, B1.out⟩
end Go.Proofs.YtakiigddbdapaaaDoor.Gr
