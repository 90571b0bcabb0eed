
/-
  BlockedPart and SourcePart, the program's and the model's, and the laws on them, walked.
-/
import Derived.Test.YtniflfgnelfpbaaDoorViR
namespace Go.Proofs.YtniflfgnelfpbaaDoor.Vi
open Go.RowKit
open Go.Proofs.YtniflfgnelfpbaaDoor.Ul
def PPost (W : World) (v : V) (r : List UInt8) (e : Ending) (w' : World) : Prop := e = .returned (.tuple #[.string ⟨(partL v r).toArray⟩, .int .i64 (partC v)]) ∧ Below W.heap.size W w'
set_option maxRecDepth 100000 in
theorem bpI_any (v : V) (hf : Fits v) (w : World) (hT : Tab w) (hM : MaxL w) (hE : ErrV w) : Calls Tryd.prog 9 #[vV v] w (PPost w v (blkV v)) := by
  have hb0 : Below w.heap.size w (w.alloc (.cells (vC v) 27)) := (Below.refl _ _).alloc (Nat.le_refl _) _
  unfold PPost partL partC
  obtain ⟨q, hq⟩ : ∃ q, vOK v = q := ⟨_, rfl⟩
  cases q with
  | false =>
    have HP := Lib.hid (fun W hE => part_no 20 v hf W hq hE)
    have HE := Lib.hid (hE.below hb0)
    have HB := Lib.hid hb0
    rw [hq]
    clear hq hf hE hb0 hT hM
    obtain ⟨d, rf, b, s, di, sm, l, c, re⟩ := v
    simp only [vV, vC] at HP HE HB
    go_enter Tryd.func9, Tryd.ntmps9
    go_wp2_with fail
    refine (HP.out _ HE.out).mono ?_
    rintro e w1 ⟨rfl, hb⟩
    go_wp2
    go_ret2
    exact ⟨rfl, belI_step HB.out hb⟩
  | true =>
    have hl := ok_lens hq
    have HP := Lib.hid (fun W hW => part_yesB v hf (blkV v) W hq hW)
    have HQ := Lib.hid (fun W hT hM => blockedI_any v W hT hM (by omega))
    have HT := Lib.hid hT
    have HM := Lib.hid hM
    have HB := Lib.hid hb0
    rw [hq]
    simp only [↓reduceIte]
    generalize blkV v = o at *
    clear hq hf hE hb0 hT hM hl
    obtain ⟨d, rf, b, s, di, sm, l, c, re⟩ := v
    simp only [vV, vC] at HP HQ HB
    go_enter Tryd.func9, Tryd.ntmps9
    go_wp2_with fail
    refine (HP.out _ (fun W hW => HQ.out W (HT.out.below (belI_step HB.out hW)) (HM.out.below (belI_step HB.out hW)))).mono ?_
    rintro e w1 ⟨rfl, hb⟩
    go_wp2
    go_ret2
    exact ⟨rfl, belI_step HB.out hb⟩
set_option maxRecDepth 100000 in
theorem bpS_any (v : V) (hf : Fits v) (w : World) : Calls Tryd.prog 7 #[vV v] w (PPost w v (blkV v)) := by
  have hva := vAt_new2 w v 27
  have HVA := Lib.hid hva
  have HZ0 := Lib.hid (show w.heap.size < (w.alloc (.cells (vC v) 27)).heap.size by simp)
  have HB0 := Lib.hid ((Below.refl w.heap.size w).alloc (Nat.le_refl _) (.cells (vC v) 27))
  have HO := Lib.hid (fun W => okS_any v hf W)
  unfold PPost partL partC
  obtain ⟨q, hq⟩ : ∃ q, vOK v = q := ⟨_, rfl⟩
  rw [hq] at HO ⊢
  cases q with
  | false =>
    clear hq hf hva
    obtain ⟨d, rf, b, s, di, sm, l, c, re⟩ := v
    simp only [vV, vC] at HO HB0
    go_enter Tryd.func7, Tryd.ntmps7
    go_wp2_with fail
    refine (HO.out _).mono ?_
    rintro e w1 ⟨rfl, hb⟩
    go_wp2
    go_ret2
    exact ⟨rfl, belI_step HB0.out hb⟩
  | true =>
    have hl := ok_lens hq
    have HQ := Lib.hid (fun W => blockedS_any v W (by omega))
    simp only [↓reduceIte]
    generalize blkV v = o at *
    clear hq hf hva hl
    obtain ⟨d, rf, b, s, di, sm, l, c, re⟩ := v
    simp only [vV, vC] at HO HB0 HQ HVA HZ0
    go_enter Tryd.func7, Tryd.ntmps7
    go_wp2_with fail
    refine (HO.out _).mono ?_
    rintro e w1 ⟨rfl, hb⟩
    have HB1 := Lib.hid (belI_step HB0.out hb)
    obtain ⟨k0, k1, k2, k3, k4, k5, k6, k7, k8, -⟩ := HVA.out.below hb HZ0.out
    clear hb
    go_wp2_with fail
    refine (HQ.out _).mono ?_
    rintro e w2 ⟨rfl, hb⟩
    go_wp2
    go_ret2
    exact ⟨rfl, belI_step HB1.out hb⟩
set_option maxRecDepth 100000 in
set_option maxHeartbeats 2000000 in
theorem blocked_walk (v : V) (hf : Fits v) (w : World) (hT : Tab w) (hM : MaxL w) (hE : ErrV w) : Calls Tryd.prog 3 #[vV v] w fun e w' => e = .returned (.bool true) ∧ Below w.heap.size w w' := by
  have HT := Lib.hid hT
  have HM := Lib.hid hM
  have HE := Lib.hid hE
  have HA1 := Lib.hid (VAt.newT w v 23)
  have HZ1 := Lib.hid (show w.heap.size < (w.alloc (.cells (vC v) 23)).heap.size by simp)
  have HD1 : Hid (Below w.heap.size w (w.alloc (.cells (vC v) 23))) := Lib.hid ((Below.refl _ _).alloc (Nat.le_refl _) _)
  clear hT hM hE
  by_cases hs : sizeV v ≤ 1048576
  · have HSZ := Lib.hid (fun W => szV_in v 1048576 W (by omega) (by omega) (by omega))
    have g1 : ¬ (1048576 - (sizeV v : Int) < 0) := by omega
    have HS := Lib.hid (fun W => bpS_any v hf W)
    have HI := Lib.hid (fun W hT hM hE => bpI_any v hf W hT hM hE)
    have HTV := Lib.hid (fun W => toV_any v W)
    unfold PPost at HS HI
    generalize 1048576 - (sizeV v : Int) = l1 at *
    generalize partL v (blkV v) = tx at *
    generalize partC v = tc at *
    clear hf hs
    obtain ⟨d, rf, b, s, di, sm, l, c, re⟩ := v
    simp only [vV, vC] at HSZ HS HI HTV HA1 HZ1 HD1
    go_enter Tryd.func3, Tryd.ntmps3
    go_wp2_with fail
    refine (HSZ.out _).mono ?_
    rintro e w1 ⟨rfl, hb⟩
    have HA2 := Lib.hid (HA1.out.below hb HZ1.out)
    have HZ2 := Lib.hid (Nat.lt_of_lt_of_le HZ1.out hb.size)
    have HD2 := Lib.hid (belI_step HD1.out hb)
    obtain ⟨k0, k1, k2, k3, k4, k5, k6, k7, k8, -⟩ := HA2.out
    clear hb
    go_wp2_with fail
    refine (HTV.out _).mono ?_
    rintro e w2 ⟨rfl, hb⟩
    have HA3 := Lib.hid (HA2.out.below hb HZ2.out)
    have HZ3 := Lib.hid (Nat.lt_of_lt_of_le HZ2.out hb.size)
    have HD3 := Lib.hid (belI_step HD2.out hb)
    clear hb k0 k1 k2 k3 k4 k5 k6 k7 k8
    go_wp2_with fail
    refine (HS.out _).mono ?_
    rintro e w3 ⟨rfl, hb⟩
    have HA4 := Lib.hid (HA3.out.below hb HZ3.out)
    have HZ4 := Lib.hid (Nat.lt_of_lt_of_le HZ3.out hb.size)
    have HD4 := Lib.hid (belI_step HD3.out hb)
    obtain ⟨k0, k1, k2, k3, k4, k5, k6, k7, k8, -⟩ := HA4.out
    clear hb
    go_wp2_with fail
    refine (HTV.out _).mono ?_
    rintro e w4 ⟨rfl, hb⟩
    have HD5 := Lib.hid (belI_step HD4.out hb)
    clear hb k0 k1 k2 k3 k4 k5 k6 k7 k8
    go_wp2_with fail
    refine (HI.out _ (HT.out.below HD5.out) (HM.out.below HD5.out) (HE.out.below HD5.out)).mono ?_
    rintro e w5 ⟨rfl, hb⟩
    have HD6 := Lib.hid (belI_step HD5.out hb)
    clear hb
    go_wp2
    go_ret
    exact ⟨rfl, HD6.out⟩
  · have HSZ := Lib.hid (fun W => szV_out v 1048576 W (by omega) (by omega) (by omega) hf)
    clear hf hs
    obtain ⟨d, rf, b, s, di, sm, l, c, re⟩ := v
    simp only [vV, vC] at HSZ HA1 HZ1 HD1
    go_enter Tryd.func3, Tryd.ntmps3
    go_wp2_with fail
    refine (HSZ.out _).mono ?_
    rintro e w1 ⟨rfl, hb⟩
    have HD2 := Lib.hid (belI_step HD1.out hb)
    clear hb
    go_wp2
    go_ret
    exact ⟨rfl, HD2.out⟩
set_option maxRecDepth 100000 in
theorem spI_any (v : V) (hf : Fits v) (w : World) (hT : Tab w) (hM : MaxL w) (hE : ErrV w) : Calls Tryd.prog 11 #[vV v] w (PPost w v (srcV v)) := by
  have hb0 : Below w.heap.size w (w.alloc (.cells (vC v) 27)) := (Below.refl _ _).alloc (Nat.le_refl _) _
  unfold PPost partL partC
  obtain ⟨q, hq⟩ : ∃ q, vOK v = q := ⟨_, rfl⟩
  cases q with
  | false =>
    have HP := Lib.hid (fun W hE => part_no 22 v hf W hq hE)
    have HE := Lib.hid (hE.below hb0)
    have HB := Lib.hid hb0
    rw [hq]
    clear hq hf hE hb0 hT hM
    obtain ⟨d, rf, b, s, di, sm, l, c, re⟩ := v
    simp only [vV, vC] at HP HE HB
    go_enter Tryd.func11, Tryd.ntmps11
    go_wp2_with fail
    refine (HP.out _ HE.out).mono ?_
    rintro e w1 ⟨rfl, hb⟩
    go_wp2
    go_ret2
    exact ⟨rfl, belI_step HB.out hb⟩
  | true =>
    have hl := ok_lens hq
    have HP := Lib.hid (fun W hW => part_yesS v hf (srcV v) W hq hW)
    have HQ := Lib.hid (fun W hT hM => sourceI_any v W hT hM (by omega) (by omega))
    have HT := Lib.hid hT
    have HM := Lib.hid hM
    have HB := Lib.hid hb0
    rw [hq]
    simp only [↓reduceIte]
    generalize srcV v = o at *
    clear hq hf hE hb0 hT hM hl
    obtain ⟨d, rf, b, s, di, sm, l, c, re⟩ := v
    simp only [vV, vC] at HP HQ HB
    go_enter Tryd.func11, Tryd.ntmps11
    go_wp2_with fail
    refine (HP.out _ (fun W hW => HQ.out W (HT.out.below (belI_step HB.out hW)) (HM.out.below (belI_step HB.out hW)))).mono ?_
    rintro e w1 ⟨rfl, hb⟩
    go_wp2
    go_ret2
    exact ⟨rfl, belI_step HB.out hb⟩
set_option maxRecDepth 100000 in
theorem spS_any (v : V) (hf : Fits v) (w : World) : Calls Tryd.prog 10 #[vV v] w (PPost w v (srcV v)) := by
  have hva := vAt_new2 w v 27
  have HVA := Lib.hid hva
  have HZ0 := Lib.hid (show w.heap.size < (w.alloc (.cells (vC v) 27)).heap.size by simp)
  have HB0 := Lib.hid ((Below.refl w.heap.size w).alloc (Nat.le_refl _) (.cells (vC v) 27))
  have HO := Lib.hid (fun W => okS_any v hf W)
  unfold PPost partL partC
  obtain ⟨q, hq⟩ : ∃ q, vOK v = q := ⟨_, rfl⟩
  rw [hq] at HO ⊢
  cases q with
  | false =>
    clear hq hf hva
    obtain ⟨d, rf, b, s, di, sm, l, c, re⟩ := v
    simp only [vV, vC] at HO HB0
    go_enter Tryd.func10, Tryd.ntmps10
    go_wp2_with fail
    refine (HO.out _).mono ?_
    rintro e w1 ⟨rfl, hb⟩
    go_wp2
    go_ret2
    exact ⟨rfl, belI_step HB0.out hb⟩
  | true =>
    have hl := ok_lens hq
    have HQ := Lib.hid (fun W => sourceS_any v W (by omega) (by omega))
    simp only [↓reduceIte]
    generalize srcV v = o at *
    clear hq hf hva hl
    obtain ⟨d, rf, b, s, di, sm, l, c, re⟩ := v
    simp only [vV, vC] at HO HB0 HQ HVA HZ0
    go_enter Tryd.func10, Tryd.ntmps10
    go_wp2_with fail
    refine (HO.out _).mono ?_
    rintro e w1 ⟨rfl, hb⟩
    have HB1 := Lib.hid (belI_step HB0.out hb)
    obtain ⟨k0, k1, k2, k3, k4, k5, k6, k7, k8, -⟩ := HVA.out.below hb HZ0.out
    clear hb
    go_wp2_with fail
    refine (HQ.out _).mono ?_
    rintro e w2 ⟨rfl, hb⟩
    go_wp2
    go_ret2
    exact ⟨rfl, belI_step HB1.out hb⟩
set_option maxRecDepth 100000 in
set_option maxHeartbeats 2000000 in
theorem source_walk (v : V) (hf : Fits v) (w : World) (hT : Tab w) (hM : MaxL w) (hE : ErrV w) : Calls Tryd.prog 4 #[vV v] w fun e w' => e = .returned (.bool true) ∧ Below w.heap.size w w' := by
  have HT := Lib.hid hT
  have HM := Lib.hid hM
  have HE := Lib.hid hE
  have HA1 := Lib.hid (VAt.newT w v 23)
  have HZ1 := Lib.hid (show w.heap.size < (w.alloc (.cells (vC v) 23)).heap.size by simp)
  have HD1 : Hid (Below w.heap.size w (w.alloc (.cells (vC v) 23))) := Lib.hid ((Below.refl _ _).alloc (Nat.le_refl _) _)
  clear hT hM hE
  by_cases hs : sizeV v ≤ 1048576
  · have HSZ := Lib.hid (fun W => szV_in v 1048576 W (by omega) (by omega) (by omega))
    have g1 : ¬ (1048576 - (sizeV v : Int) < 0) := by omega
    have HS := Lib.hid (fun W => spS_any v hf W)
    have HI := Lib.hid (fun W hT hM hE => spI_any v hf W hT hM hE)
    have HTV := Lib.hid (fun W => toV_any v W)
    unfold PPost at HS HI
    generalize 1048576 - (sizeV v : Int) = l1 at *
    generalize partL v (srcV v) = tx at *
    generalize partC v = tc at *
    clear hf hs
    obtain ⟨d, rf, b, s, di, sm, l, c, re⟩ := v
    simp only [vV, vC] at HSZ HS HI HTV HA1 HZ1 HD1
    go_enter Tryd.func4, Tryd.ntmps4
    go_wp2_with fail
    refine (HSZ.out _).mono ?_
    rintro e w1 ⟨rfl, hb⟩
    have HA2 := Lib.hid (HA1.out.below hb HZ1.out)
    have HZ2 := Lib.hid (Nat.lt_of_lt_of_le HZ1.out hb.size)
    have HD2 := Lib.hid (belI_step HD1.out hb)
    obtain ⟨k0, k1, k2, k3, k4, k5, k6, k7, k8, -⟩ := HA2.out
    clear hb
    go_wp2_with fail
    refine (HTV.out _).mono ?_
    rintro e w2 ⟨rfl, hb⟩
    have HA3 := Lib.hid (HA2.out.below hb HZ2.out)
    have HZ3 := Lib.hid (Nat.lt_of_lt_of_le HZ2.out hb.size)
    have HD3 := Lib.hid (belI_step HD2.out hb)
    clear hb k0 k1 k2 k3 k4 k5 k6 k7 k8
    go_wp2_with fail
    refine (HS.out _).mono ?_
    rintro e w3 ⟨rfl, hb⟩
    have HA4 := Lib.hid (HA3.out.below hb HZ3.out)
    have HZ4 := Lib.hid (Nat.lt_of_lt_of_le HZ3.out hb.size)
    have HD4 := Lib.hid (belI_step HD3.out hb)
    obtain ⟨k0, k1, k2, k3, k4, k5, k6, k7, k8, -⟩ := HA4.out
    clear hb
    go_wp2_with fail
    refine (HTV.out _).mono ?_
    rintro e w4 ⟨rfl, hb⟩
    have HD5 := Lib.hid (belI_step HD4.out hb)
    clear hb k0 k1 k2 k3 k4 k5 k6 k7 k8
    go_wp2_with fail
    refine (HI.out _ (HT.out.below HD5.out) (HM.out.below HD5.out) (HE.out.below HD5.out)).mono ?_
    rintro e w5 ⟨rfl, hb⟩
    have HD6 := Lib.hid (belI_step HD5.out hb)
    clear hb
    go_wp2
    go_ret
    exact ⟨rfl, HD6.out⟩
  · have HSZ := Lib.hid (fun W => szV_out v 1048576 W (by omega) (by omega) (by omega) hf)
    clear hf hs
    obtain ⟨d, rf, b, s, di, sm, l, c, re⟩ := v
    simp only [vV, vC] at HSZ HA1 HZ1 HD1
    go_enter Tryd.func4, Tryd.ntmps4
    go_wp2_with fail
    refine (HSZ.out _).mono ?_
    rintro e w1 ⟨rfl, hb⟩
    have HD2 := Lib.hid (belI_step HD1.out hb)
    clear hb
    go_wp2
    go_ret
    exact ⟨rfl, HD2.out⟩
end Go.Proofs.YtniflfgnelfpbaaDoor.Vi
