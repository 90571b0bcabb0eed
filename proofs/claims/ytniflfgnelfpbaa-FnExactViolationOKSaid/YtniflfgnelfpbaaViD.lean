
/-
  The law FnExactViolationOK, walked.
-/
import Derived.Test.YtniflfgnelfpbaaViC
namespace Go.Proofs.Ytniflfgnelfpbaa.Vi
open Go.RowKit
set_option maxRecDepth 100000 in
theorem okSV_any (v : V) (hf : Fits v) (w : World) : Calls Try.prog 6 #[vV v] w fun e w' => e = .returned (.bool (vOK v)) ∧ Below w.heap.size w w' := by
  have HS := Lib.hid (fun W => okS_any v hf W)
  generalize vOK v = r at *
  clear hf
  obtain ⟨d, rf, b, s, di, sm, l, c, re⟩ := v
  simp only [vV] at HS
  go_enter Try.func6, Try.ntmps6
  go_wp2_with fail
  refine (HS.out _).mono ?_
  rintro e w1 ⟨rfl, hb⟩
  have HD := Lib.hid (belI_step (belI_alloc (Below.refl _ _)) hb)
  clear hb
  go_wp2
  go_ret
  exact ⟨rfl, HD.out⟩
set_option maxRecDepth 100000 in
set_option maxHeartbeats 2000000 in
theorem violationOK_walk (v : V) (hf : Fits v) (w : World) : Calls Try.prog 3 #[vV v] w fun e w' => e = .returned (.bool true) ∧ Below w.heap.size w w' := by
  have A1 := VAt.newT w v 23
  have z1 : w.heap.size < (w.alloc (.cells (vC v) 23)).heap.size := by simp
  have D1 : Below w.heap.size w (w.alloc (.cells (vC v) 23)) := (Below.refl _ _).alloc (Nat.le_refl _) _
  have HA1 := Lib.hid A1
  have HZ1 := Lib.hid z1
  have HD1 := Lib.hid D1
  clear A1 z1 D1
  by_cases hs : sizeV v ≤ 1048576
  · have HSZ := Lib.hid (fun W => szV_in v 1048576 W (by omega) (by omega) (by omega))
    have g1 : ¬ (1048576 - (sizeV v : Int) < 0) := by omega
    have HS := Lib.hid (fun W => okSV_any v hf W)
    have HI := Lib.hid (fun W => okI_any v hf W)
    have HTV := Lib.hid (fun W => toV_any v W)
    generalize 1048576 - (sizeV v : Int) = l1 at *
    generalize vOK v = r at *
    clear hf hs
    obtain ⟨d, rf, b, s, di, sm, l, c, re⟩ := v
    simp only [vV, vC] at HSZ HS HI HTV HA1 HZ1 HD1
    go_enter Try.func3, Try.ntmps3
    go_wp2_with fail
    refine (HSZ.out _).mono ?_
    rintro e w1 ⟨rfl, hb⟩
    have HA2 := Lib.hid (HA1.out.below hb HZ1.out)
    have HZ2 := Lib.hid (Nat.lt_of_lt_of_le HZ1.out hb.size)
    have HD2 := Lib.hid (belI_step HD1.out hb)
    obtain ⟨k0, k1, k2, k3, k4, k5, k6, k7, k8, -⟩ := HA2.out
    clear hb
    go_wp2_with fail
    refine (HTV.out _).mono ?_
    rintro e w2 ⟨rfl, hb⟩
    have HA3 := Lib.hid (HA2.out.below hb HZ2.out)
    have HZ3 := Lib.hid (Nat.lt_of_lt_of_le HZ2.out hb.size)
    have HD3 := Lib.hid (belI_step HD2.out hb)
    clear hb k0 k1 k2 k3 k4 k5 k6 k7 k8
    go_wp2_with fail
    refine (HS.out _).mono ?_
    rintro e w3 ⟨rfl, hb⟩
    have HA4 := Lib.hid (HA3.out.below hb HZ3.out)
    have HZ4 := Lib.hid (Nat.lt_of_lt_of_le HZ3.out hb.size)
    have HD4 := Lib.hid (belI_step HD3.out hb)
    obtain ⟨k0, k1, k2, k3, k4, k5, k6, k7, k8, -⟩ := HA4.out
    clear hb
    go_wp2_with fail
    refine (HTV.out _).mono ?_
    rintro e w4 ⟨rfl, hb⟩
    have HD5 := Lib.hid (belI_step HD4.out hb)
    clear hb k0 k1 k2 k3 k4 k5 k6 k7 k8
    go_wp2_with fail
    refine (HI.out _).mono ?_
    rintro e w5 ⟨rfl, hb⟩
    have HD6 := Lib.hid (belI_step HD5.out hb)
    clear hb
    cases r
    all_goals
      go_wp2
      go_ret
      exact ⟨rfl, HD6.out⟩
  · have HSZ := Lib.hid (fun W => szV_out v 1048576 W (by omega) (by omega) (by omega) hf)
    clear hf hs
    obtain ⟨d, rf, b, s, di, sm, l, c, re⟩ := v
    simp only [vV, vC] at HSZ HA1 HZ1 HD1
    go_enter Try.func3, Try.ntmps3
    go_wp2_with fail
    refine (HSZ.out _).mono ?_
    rintro e w1 ⟨rfl, hb⟩
    have HD2 := Lib.hid (belI_step HD1.out hb)
    clear hb
    go_wp2
    go_ret
    exact ⟨rfl, HD2.out⟩
end Go.Proofs.Ytniflfgnelfpbaa.Vi
