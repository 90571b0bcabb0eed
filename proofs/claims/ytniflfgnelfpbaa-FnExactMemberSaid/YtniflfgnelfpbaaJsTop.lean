
/-
  The program's valueOf, JsonOK and SameJson, and the model's SameJson, walked.
-/
import Derived.Test.YtniflfgnelfpbaaJsOf
import Derived.Test.YtniflfgnelfpbaaJsOk
namespace Go.Proofs.Ytniflfgnelfpbaa.Js
open Go.RowKit
open Go.Proofs.Ytniflfgnelfpbaa.Ext (up up_below up_mk wp_region_ext call_ext call_ext_same call_ext_drewN)
theorem szL_norm : ∀ (xs : List J), (∀ x ∈ xs, szJ (normJ x) ≤ szJ x) → szL (normL xs) ≤ szL xs
  | [], _ => Nat.le_refl _
  | x :: xs, h => by
    have h1 := h x (by simp)
    have h2 := szL_norm xs (fun y hy => h y (by simp [hy]))
    simp only [normL, szL]
    omega
theorem szJ_norm (j : J) : szJ (normJ j) ≤ szJ j := by
  induction j using J.ind with
  | h k n t ns xs ih =>
    have hL := szL_norm xs ih
    have hl := normL_length xs
    unfold normJ
    split
    · simp [szJ, szT, szL]
    split
    · simp [szJ, szT, szL]
    split
    · simp [szJ, szT, szL]
    split
    · simp [szJ, szT, szL]
      omega
    split
    · simp only [szJ, szT, hl, List.length_nil]
      omega
    split
    · simp only [szJ, hl, List.length_nil]
      omega
    · simp [szJ, szT, szL]
def ValPost (B : Nat) (W : World) (r : Bool) (j : J) (e : Ending) (w' : World) : Prop := ∃ v, e = .returned (.tuple #[v, .bool r]) ∧ (r = true → VIn (Sb B W w') w' v (normJ j)) ∧ Below W.heap.size W w'
theorem valPost_no {B : Nat} {W w' : World} {j : J} {v : Value} (h : Below W.heap.size W w') : ValPost B W false j (.returned (.tuple #[v, .bool false])) w' := ⟨v, rfl, (fun h => by cases h), h⟩
theorem sb_lt {B : Nat} {W w' : World} (hB : B ≤ W.heap.size) (hs : W.heap.size ≤ w'.heap.size) {b : Nat} (h : Sb B W w' b) : b < w'.heap.size := by
  rcases h with h | h <;> omega
theorem sb_lt2 {B : Nat} {W w2 : World} {o : Obj} {b : Nat} (h : Sb B (W.alloc o) w2 b) (hs : W.heap.size < w2.heap.size) (hB : B ≤ W.heap.size) : b < w2.heap.size := by
  rcases h with h | h
  · omega
  · exact h.2
theorem sb_up {B : Nat} {W w2 w' : World} (hs : w2.heap.size ≤ w'.heap.size) {b : Nat} (h : Sb B W w2 b) : Sb B W w' b := by
  rcases h with h | h
  · exact .inl h
  · exact .inr ⟨h.1, by omega⟩
theorem jin_lift {B : Nat} {w0 W w2 wx : World} {j : J} {nv iv : Value} (h : JIn (· < B) w0 j nv iv) (hb : Below B w0 W) (h2 : Below W.heap.size W w2) (hB : B ≤ W.heap.size) (hB2 : B ≤ w2.heap.size) (hx : Below w2.heap.size w2 wx) (hs : w2.heap.size ≤ wx.heap.size) : JIn (· < wx.heap.size) wx j nv iv :=
  (h.blw ((hb.trans (h2.mono hB)).trans (hx.mono hB2))).mono fun b hb => by omega
theorem jin_new {m : Nat} {w : World} {j : J} {nv iv : Value} (h : JIn (fun b => m ≤ b ∧ b < w.heap.size) w j nv iv) : JIn (· < w.heap.size) w j nv iv := h.mono fun _ hb => hb.2
set_option maxRecDepth 100000 in
set_option maxHeartbeats 4000000 in
theorem valueOf_any (B : Nat) (w0 : World) (j : J) (nv iv : Value) (h : JIn (· < B) w0 j nv iv) (hs : szJ j ≤ 1048576) (W : World) (hb : Below B w0 W) (hB : B ≤ W.heap.size) :
    Calls Try.prog 26 #[jV j nv iv] W (ValPost B W (okJ j 5) j) := by
  have HBD := Lib.hid (bld_go B w0 j 5 nv iv (by omega) (by omega) h)
  have HB := Lib.hid hb
  have HJ := Lib.hid h
  obtain ⟨⟨an, ln, cn, rfl⟩, ⟨ai, li, ci, rfl⟩⟩ := h.slices
  rw [ok_split]
  clear h hb
  obtain ⟨r, hr⟩ : ∃ r, bldJ j 5 = r := ⟨_, rfl⟩
  rw [hr] at HBD
  rw [hr]
  clear hr
  have hb1 : ∀ o : Array Value, Below W.heap.size W (W.alloc (.cells o 36)) := fun o => (Below.refl _ _).alloc (Nat.le_refl _) _
  have HB1 := Lib.hid hb1
  clear hb1
  cases r with
  | false =>
    go_enter Try.func26, Try.ntmps26
    go_wp2_with fail
    refine (HBD.out _ (HB.out.trans ((HB1.out _).mono hB)) (by simp; omega)).mono ?_
    rintro e w2 ⟨v, rfl, _, hb2⟩
    have HB2 := Lib.hid ((HB1.out _).trans (hb2.mono (by simp)))
    clear hb2
    go_wp2
    go_quiet (fail)
    go_wp2
    go_ret2
    exact valPost_no (belDrew HB2.out _)
  | true =>
    obtain ⟨s, hs2⟩ : ∃ s, sameJ j (normJ j) = s := ⟨_, rfl⟩
    rw [hs2]
    have HS2 := Lib.hid hs2
    clear hs2
    have HEQ := Lib.hid (fun (w3 : World) (nv3 iv3 : Value) (h1 : JIn (· < w3.heap.size) w3 j (.slice an ln cn) (.slice ai li ci)) (h2 : JIn (· < w3.heap.size) w3 (normJ j) nv3 iv3) => HS2.out ▸ equalJ_go w3.heap.size w3 j (normJ j) _ _ nv3 iv3 h1 h2 w3 (Below.refl _ _) (Nat.le_refl _))
    cases s with
    | false =>
      go_enter Try.func26, Try.ntmps26
      go_wp2_with fail
      refine (HBD.out _ (HB.out.trans ((HB1.out _).mono hB)) (by simp; omega)).mono ?_
      rintro e w2 ⟨v, rfl, hv, hb2⟩
      obtain ⟨m00, m01, m02, m03, m04, m0f⟩ := five_cells ((hb2.block _ (by simp)).trans (heap_alloc_new W _))
      have hW2 : W.heap.size < w2.heap.size := by have := hb2.size; simp at this; omega
      have HB2 := Lib.hid ((HB1.out _).trans (hb2.mono (by simp)))
      have HV := Lib.hid (hv rfl)
      have hB2 : B ≤ w2.heap.size := by omega
      have HOF := Lib.hid (of_go w2.heap.size w2 (normJ j) v ((hv rfl).same fun b hS => ⟨by have := hb2.size; simp at this; rcases hS with h | h <;> (first | omega | (simp at h; omega)), rfl⟩) (Nat.le_trans (szJ_norm j) hs))
      have hRR := Below.refl w2.heap.size w2
      clear hb2 hv m0f
      go_wp2_with fail
      go_region_held3 (fun wx => wx.cell? ⟨W.heap.size, 0, none⟩ = some (.int .i64 j.kind) ∧ wx.cell? ⟨W.heap.size, 1, none⟩ = some (.int .i64 j.num) ∧ wx.cell? ⟨W.heap.size, 2, none⟩ = some (.string ⟨j.text.toArray⟩) ∧ wx.cell? ⟨W.heap.size, 3, none⟩ = some (.slice an ln cn) ∧ wx.cell? ⟨W.heap.size, 4, none⟩ = some (.slice ai li ci) ∧ W.heap.size < wx.heap.size ∧ w2.heap.size ≤ wx.heap.size ∧ Below w2.heap.size w2 wx)
        (first
          | (simp [*, Below.drew]; done)
          | (go_split_ands
             refine ⟨?_, ?_, ?_, ?_, ?_, Nat.lt_of_lt_of_le (by assumption) hb.size, Nat.le_trans (by assumption) hb.size, belI_step (by assumption) hb⟩
             · (rw [hb.cell (p := ⟨W.heap.size, 0, none⟩) (by assumption)]; assumption)
             · (rw [hb.cell (p := ⟨W.heap.size, 1, none⟩) (by assumption)]; assumption)
             · (rw [hb.cell (p := ⟨W.heap.size, 2, none⟩) (by assumption)]; assumption)
             · (rw [hb.cell (p := ⟨W.heap.size, 3, none⟩) (by assumption)]; assumption)
             · (rw [hb.cell (p := ⟨W.heap.size, 4, none⟩) (by assumption)]; assumption)))
        (first
          | (go_split_ands; go_at_call 28; refine (HOF.out _ (by assumption) (by assumption)).mono ?_; rintro e w3 ⟨nv3, iv3, rfl, hj3, hb⟩)
          | (go_split_ands; go_at_call 40; refine (HEQ.out _ nv3 iv3 (jin_lift HJ.out HB.out HB2.out hB hB2 (by assumption) (by assumption)) (jin_new hj3)).mono ?_; rintro e w4 ⟨rfl, hb⟩))
      go_split_ands
      rename_i hfin
      have HF := Lib.hid (HB2.out.trans (hfin.mono (Nat.le_of_lt hW2)))
      clear hfin
      go_wp2
      go_ret2
      exact valPost_no HF.out
    | true =>
      go_enter Try.func26, Try.ntmps26
      go_wp2_with fail
      refine (HBD.out _ (HB.out.trans ((HB1.out _).mono hB)) (by simp; omega)).mono ?_
      rintro e w2 ⟨v, rfl, hv, hb2⟩
      obtain ⟨m00, m01, m02, m03, m04, m0f⟩ := five_cells ((hb2.block _ (by simp)).trans (heap_alloc_new W _))
      have hW2 : W.heap.size < w2.heap.size := by have := hb2.size; simp at this; omega
      have HB2 := Lib.hid ((HB1.out _).trans (hb2.mono (by simp)))
      have HV := Lib.hid (hv rfl)
      have hB2 : B ≤ w2.heap.size := by omega
      have HOF := Lib.hid (of_go w2.heap.size w2 (normJ j) v ((hv rfl).same fun b hS => ⟨by have := hb2.size; simp at this; rcases hS with h | h <;> (first | omega | (simp at h; omega)), rfl⟩) (Nat.le_trans (szJ_norm j) hs))
      have hRR := Below.refl w2.heap.size w2
      clear hb2 hv m0f
      go_wp2_with fail
      go_region_held3 (fun wx => wx.cell? ⟨W.heap.size, 0, none⟩ = some (.int .i64 j.kind) ∧ wx.cell? ⟨W.heap.size, 1, none⟩ = some (.int .i64 j.num) ∧ wx.cell? ⟨W.heap.size, 2, none⟩ = some (.string ⟨j.text.toArray⟩) ∧ wx.cell? ⟨W.heap.size, 3, none⟩ = some (.slice an ln cn) ∧ wx.cell? ⟨W.heap.size, 4, none⟩ = some (.slice ai li ci) ∧ W.heap.size < wx.heap.size ∧ w2.heap.size ≤ wx.heap.size ∧ Below w2.heap.size w2 wx)
        (first
          | (simp [*, Below.drew]; done)
          | (go_split_ands
             refine ⟨?_, ?_, ?_, ?_, ?_, Nat.lt_of_lt_of_le (by assumption) hb.size, Nat.le_trans (by assumption) hb.size, belI_step (by assumption) hb⟩
             · (rw [hb.cell (p := ⟨W.heap.size, 0, none⟩) (by assumption)]; assumption)
             · (rw [hb.cell (p := ⟨W.heap.size, 1, none⟩) (by assumption)]; assumption)
             · (rw [hb.cell (p := ⟨W.heap.size, 2, none⟩) (by assumption)]; assumption)
             · (rw [hb.cell (p := ⟨W.heap.size, 3, none⟩) (by assumption)]; assumption)
             · (rw [hb.cell (p := ⟨W.heap.size, 4, none⟩) (by assumption)]; assumption)))
        (first
          | (go_split_ands; go_at_call 28; refine (HOF.out _ (by assumption) (by assumption)).mono ?_; rintro e w3 ⟨nv3, iv3, rfl, hj3, hb⟩)
          | (go_split_ands; go_at_call 40; refine (HEQ.out _ nv3 iv3 (jin_lift HJ.out HB.out HB2.out hB hB2 (by assumption) (by assumption)) (jin_new hj3)).mono ?_; rintro e w4 ⟨rfl, hb⟩))
      go_split_ands
      rename_i hsz hfin
      have HF := Lib.hid (HB2.out.trans (hfin.mono (Nat.le_of_lt hW2)))
      have HVF := Lib.hid (HV.out.same fun b hS => ⟨sb_up hsz (sb_alloc hS), hfin.block b (sb_lt2 hS hW2 hB)⟩)
      clear hfin
      go_wp2
      go_ret2
      exact ⟨_, rfl, fun _ => HVF.out, HF.out⟩
end Go.Proofs.Ytniflfgnelfpbaa.Js
