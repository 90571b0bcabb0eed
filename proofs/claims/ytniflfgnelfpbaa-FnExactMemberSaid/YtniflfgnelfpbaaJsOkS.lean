
/-
  The model's l02OK, walked: is a JSON value valid.
-/
import Derived.Test.YtniflfgnelfpbaaJsEqS
namespace Go.Proofs.Ytniflfgnelfpbaa.Js
open Go.RowKit
set_option maxRecDepth 100000 in
theorem in_any (n a b : Int) (w : World) : Calls Try.prog 36 #[.int .i64 n, .int .i64 a, .int .i64 b] w fun e w' => e = .returned (.bool (decide (a ≤ n ∧ n ≤ b))) ∧ w = w' := by
  by_cases h1 : a ≤ n
  · by_cases h2 : n ≤ b
    · go_enter Try.func36, Try.ntmps36
      go_wp2
      go_ret
      exact ⟨ret_b (by simp; omega), rfl⟩
    · go_enter Try.func36, Try.ntmps36
      go_wp2
      go_ret
      exact ⟨ret_b (by simp; omega), rfl⟩
  · go_enter Try.func36, Try.ntmps36
    go_wp2
    go_ret
    exact ⟨ret_b (by simp; omega), rfl⟩
set_option maxRecDepth 100000 in
set_option maxHeartbeats 4000000 in
theorem okS_1 (n d : Int) (t : List UInt8) (a a' : Option Addr) (nl xl c c' : Nat) (W : World) :
    Calls Try.prog 21 #[.agg #[.int .i64 1, .int .i64 n, .string ⟨t.toArray⟩, .slice a nl c, .slice a' xl c'], .int .i64 d] W fun e w' => e = .returned (.bool (n == 0 && t == [] && nl == 0 && xl == 0)) ∧ Below W.heap.size W w' := by
  obtain ⟨b1, e1⟩ : ∃ b, ((nl : Int) == 0) = b := ⟨_, rfl⟩
  obtain ⟨b2, e2⟩ : ∃ b, ((xl : Int) == 0) = b := ⟨_, rfl⟩
  obtain ⟨b3, e3⟩ : ∃ b, (n == 0) = b := ⟨_, rfl⟩
  have f1 : (nl == 0) = b1 := by rw [← e1]; rw [Bool.eq_iff_iff]; simp; 
  have f2 : (xl == 0) = b2 := by rw [← e2]; rw [Bool.eq_iff_iff]; simp; 
  rw [f1, f2, e3]
  clear f1 f2
  cases t with
  | nil =>
    cases b1 <;> cases b2 <;> cases b3
    all_goals
      go_enter Try.func21, Try.ntmps21
      go_wp2
      go_ret
      exact ⟨ret_b (by rfl), (Below.refl _ _).alloc (Nat.le_refl _) _⟩
  | cons x t =>
    cases b1 <;> cases b2 <;> cases b3
    all_goals
      go_enter Try.func21, Try.ntmps21
      go_wp2
      go_ret
      exact ⟨ret_b (by rfl), (Below.refl _ _).alloc (Nat.le_refl _) _⟩
set_option maxRecDepth 100000 in
set_option maxHeartbeats 4000000 in
theorem okS_2 (n d : Int) (t : List UInt8) (a a' : Option Addr) (nl xl c c' : Nat) (W : World) :
    Calls Try.prog 21 #[.agg #[.int .i64 2, .int .i64 n, .string ⟨t.toArray⟩, .slice a nl c, .slice a' xl c'], .int .i64 d] W fun e w' => e = .returned (.bool (decide (0 ≤ n ∧ n ≤ 1) && t == [] && nl == 0 && xl == 0)) ∧ Below W.heap.size W w' := by
  obtain ⟨b1, e1⟩ : ∃ b, ((nl : Int) == 0) = b := ⟨_, rfl⟩
  obtain ⟨b2, e2⟩ : ∃ b, ((xl : Int) == 0) = b := ⟨_, rfl⟩
  obtain ⟨b3, e3⟩ : ∃ b, decide (0 ≤ n ∧ n ≤ 1) = b := ⟨_, rfl⟩
  have HI := Lib.hid (fun W => in_any n 0 1 W)
  have f1 : (nl == 0) = b1 := by rw [← e1]; rw [Bool.eq_iff_iff]; simp
  have f2 : (xl == 0) = b2 := by rw [← e2]; rw [Bool.eq_iff_iff]; simp
  rw [e3] at HI
  rw [f1, f2, e3]
  clear f1 f2 e3
  cases t with
  | nil =>
    cases b1 <;> cases b2 <;> cases b3
    all_goals
      go_enter Try.func21, Try.ntmps21
      go_wp2_with fail
      refine (HI.out _).mono ?_
      rintro e w1 ⟨rfl, rfl⟩
      go_wp2
      go_ret
      exact ⟨ret_b (by rfl), (Below.refl _ _).alloc (Nat.le_refl _) _⟩
  | cons x t =>
    cases b1 <;> cases b2 <;> cases b3
    all_goals
      go_enter Try.func21, Try.ntmps21
      go_wp2_with fail
      refine (HI.out _).mono ?_
      rintro e w1 ⟨rfl, rfl⟩
      go_wp2
      go_ret
      exact ⟨ret_b (by rfl), (Below.refl _ _).alloc (Nat.le_refl _) _⟩
set_option maxRecDepth 100000 in
set_option maxHeartbeats 4000000 in
theorem okS_3 (n d : Int) (t : List UInt8) (a a' : Option Addr) (nl xl c c' : Nat) (W : World) :
    Calls Try.prog 21 #[.agg #[.int .i64 3, .int .i64 n, .string ⟨t.toArray⟩, .slice a nl c, .slice a' xl c'], .int .i64 d] W fun e w' => e = .returned (.bool (decide (-999999999 ≤ n ∧ n ≤ 999999999) && t == [] && nl == 0 && xl == 0)) ∧ Below W.heap.size W w' := by
  obtain ⟨b1, e1⟩ : ∃ b, ((nl : Int) == 0) = b := ⟨_, rfl⟩
  obtain ⟨b2, e2⟩ : ∃ b, ((xl : Int) == 0) = b := ⟨_, rfl⟩
  obtain ⟨b3, e3⟩ : ∃ b, decide (-999999999 ≤ n ∧ n ≤ 999999999) = b := ⟨_, rfl⟩
  have HI := Lib.hid (fun W => in_any n (-999999999) 999999999 W)
  have f1 : (nl == 0) = b1 := by rw [← e1]; rw [Bool.eq_iff_iff]; simp
  have f2 : (xl == 0) = b2 := by rw [← e2]; rw [Bool.eq_iff_iff]; simp
  rw [e3] at HI
  rw [f1, f2, e3]
  clear f1 f2 e3
  cases t with
  | nil =>
    cases b1 <;> cases b2 <;> cases b3
    all_goals
      go_enter Try.func21, Try.ntmps21
      go_wp2_with fail
      refine (HI.out _).mono ?_
      rintro e w1 ⟨rfl, rfl⟩
      go_wp2
      go_ret
      exact ⟨ret_b (by rfl), (Below.refl _ _).alloc (Nat.le_refl _) _⟩
  | cons x t =>
    cases b1 <;> cases b2 <;> cases b3
    all_goals
      go_enter Try.func21, Try.ntmps21
      go_wp2_with fail
      refine (HI.out _).mono ?_
      rintro e w1 ⟨rfl, rfl⟩
      go_wp2
      go_ret
      exact ⟨ret_b (by rfl), (Below.refl _ _).alloc (Nat.le_refl _) _⟩
set_option maxRecDepth 100000 in
set_option maxHeartbeats 4000000 in
theorem okS_4 (n d : Int) (t : List UInt8) (ht : t.length ≤ 9223372036854775807) (a a' : Option Addr) (nl xl c c' : Nat) (W : World) :
    Calls Try.prog 21 #[.agg #[.int .i64 4, .int .i64 n, .string ⟨t.toArray⟩, .slice a nl c, .slice a' xl c'], .int .i64 d] W fun e w' => e = .returned (.bool (n == 0 && decide (t.length ≤ 120) && nl == 0 && xl == 0)) ∧ Below W.heap.size W w' := by
  obtain ⟨b1, e1⟩ : ∃ b, ((nl : Int) == 0) = b := ⟨_, rfl⟩
  obtain ⟨b2, e2⟩ : ∃ b, ((xl : Int) == 0) = b := ⟨_, rfl⟩
  obtain ⟨b3, e3⟩ : ∃ b, (n == 0) = b := ⟨_, rfl⟩
  obtain ⟨b4, e4⟩ : ∃ b, decide ((t.length : Int) ≤ 120) = b := ⟨_, rfl⟩
  have f1 : (nl == 0) = b1 := by rw [← e1]; rw [Bool.eq_iff_iff]; simp
  have f2 : (xl == 0) = b2 := by rw [← e2]; rw [Bool.eq_iff_iff]; simp
  have f4 : decide (t.length ≤ 120) = b4 := by rw [← e4]; rw [Bool.eq_iff_iff]; simp; omega
  rw [f1, f2, e3, f4]
  clear f1 f2 f4
  cases b1 <;> cases b2 <;> cases b3 <;> cases b4
  all_goals
    go_enter Try.func21, Try.ntmps21
    go_wp2
    go_ret
    exact ⟨ret_b (by rfl), (Below.refl _ _).alloc (Nat.le_refl _) _⟩
set_option maxRecDepth 100000 in
set_option maxHeartbeats 4000000 in
theorem okS_none (k n d : Int) (hk : ¬ (1 ≤ k ∧ k ≤ 6)) (t : List UInt8) (a a' : Option Addr) (nl xl c c' : Nat) (W : World) :
    Calls Try.prog 21 #[.agg #[.int .i64 k, .int .i64 n, .string ⟨t.toArray⟩, .slice a nl c, .slice a' xl c'], .int .i64 d] W fun e w' => e = .returned (.bool false) ∧ Below W.heap.size W w' := by
  obtain ⟨b1, e1⟩ : ∃ b, ((nl : Int) == 0) = b := ⟨_, rfl⟩
  obtain ⟨b2, e2⟩ : ∃ b, ((xl : Int) == 0) = b := ⟨_, rfl⟩
  have k1 : (k == 1) = false := by simp; omega
  have k2 : (k == 2) = false := by simp; omega
  have k3 : (k == 3) = false := by simp; omega
  have k4 : (k == 4) = false := by simp; omega
  have k5 : (k != 5) = true := by simp; omega
  have k6 : (k != 6) = true := by simp; omega
  clear hk
  cases b1 <;> cases b2
  all_goals
    go_enter Try.func21, Try.ntmps21
    go_wp2
    go_ret
    exact ⟨ret_b (by rfl), (Below.refl _ _).alloc (Nat.le_refl _) _⟩
end Go.Proofs.Ytniflfgnelfpbaa.Js
