
/-
  The model's EventOK, walked. (Made by eva.py.)
-/
import Derived.Test.YtbkikbhnehjaaaaEvB
namespace Go.Proofs.Ytbkikbhnehjaaaa.Ev
open Go.RowKit
open Go.Proofs.Ytbkikbhnehjaaaa.Vi
open Go.Proofs.Ytbkikbhnehjaaaa.Rn (ret_b)
open Go.Proofs.Ytbkikbhnehjaaaa.Nm (nameB)
open Go.Proofs.Ytbkikbhnehjaaaa.Ul (in_any)
set_option maxRecDepth 100000 in
set_option maxHeartbeats 8000000 in
theorem evSA_any (k dr st ti : Int) (tx nm d r b s di sm : List UInt8) (l c : Int) (re lo : Bool) (htx : tx.length ≤ 9223372036854775807) (hnm : nm.length ≤ 9223372036854775807) (hv : Fits ⟨d, r, b, s, di, sm, l, c, re⟩) (h : k = 1 ∨ k = 2 ∨ k = 3) (w : World) :
    Calls Try.prog 9 #[eV ⟨k, dr, st, ti, tx, nm, ⟨d, r, b, s, di, sm, l, c, re⟩, lo⟩] w fun e w' => e = .returned (.bool (decide (dr = 0 ∧ st = 0 ∧ ti = 0 ∧ nm = [] ∧ zV ⟨d, r, b, s, di, sm, l, c, re⟩ ∧ lo = false ∧ tx.length ≤ 4096))) ∧ Below w.heap.size w w' := by
  have HV := Lib.hid (fun W => okS_any ⟨d, r, b, s, di, sm, l, c, re⟩ hv W)
  have HN := Lib.hid (fun W => Nm.l00Word_any ⟨nm.toArray⟩ W (by simp [ByteArray.size, maxLen]; omega))
  have htx2 := htx
  clear hv
  obtain ⟨R, hR⟩ : ∃ R, decide (dr = 0 ∧ st = 0 ∧ ti = 0 ∧ nm = [] ∧ zV ⟨d, r, b, s, di, sm, l, c, re⟩ ∧ lo = false ∧ tx.length ≤ 4096) = R := ⟨_, rfl⟩
  have EZ := Lib.hid hR.symm
  rw [hR]
  clear hR
  clear HV HN
  rcases h with rfl | rfl | rfl
  all_goals
    go_enter Try.func9, Try.ntmps9
    go_wp2_with (first | (go_at_call 15; refine (in_any _ _ _ _).mono ?_; rintro e wx ⟨rfl, rfl⟩) | fail)
    all_goals (go_ret; refine ⟨ret_b ?_, by first | exact (Below.refl _ _).alloc (Nat.le_refl _) _ | exact HD.out⟩; rw [EZ.out]; first | (simp [zV, *]; done) | (simp [zV, *]; omega) | (simp [zV, *]; intros; omega) | (simp_all [zV]; done) | (simp_all [zV]; omega) | (by_cases q1 : ti = 0 <;> by_cases q2 : tx.length ≤ 4096 <;> by_cases q3 : lo = true <;> simp_all [zV] <;> omega))
set_option maxRecDepth 100000 in
set_option maxHeartbeats 8000000 in
theorem evS4_any (k dr st ti : Int) (tx nm d r b s di sm : List UInt8) (l c : Int) (re lo : Bool) (htx : tx.length ≤ 9223372036854775807) (hnm : nm.length ≤ 9223372036854775807) (hv : Fits ⟨d, r, b, s, di, sm, l, c, re⟩) (h : k = 4) (w : World) :
    Calls Try.prog 9 #[eV ⟨k, dr, st, ti, tx, nm, ⟨d, r, b, s, di, sm, l, c, re⟩, lo⟩] w fun e w' => e = .returned (.bool ((decide (dr = 0 ∧ st = 0 ∧ ti = 0 ∧ tx = [] ∧ nm = [] ∧ lo = false) && vOK ⟨d, r, b, s, di, sm, l, c, re⟩))) ∧ Below w.heap.size w w' := by
  have HV := Lib.hid (fun W => okS_any ⟨d, r, b, s, di, sm, l, c, re⟩ hv W)
  have HN := Lib.hid (fun W => Nm.l00Word_any ⟨nm.toArray⟩ W (by simp [ByteArray.size, maxLen]; omega))
  have htx2 := htx
  clear hv
  obtain ⟨R, hR⟩ : ∃ R, (decide (dr = 0 ∧ st = 0 ∧ ti = 0 ∧ tx = [] ∧ nm = [] ∧ lo = false) && vOK ⟨d, r, b, s, di, sm, l, c, re⟩) = R := ⟨_, rfl⟩
  have EZ := Lib.hid hR.symm
  rw [hR]
  clear hR
  generalize vOK ⟨d, r, b, s, di, sm, l, c, re⟩ = vk at *
  clear HN
  subst h
  ·
    go_enter Try.func9, Try.ntmps9
    go_wp2_with (first | (go_at_call 16; refine (HV.out _).mono ?_; rintro e w1 ⟨rfl, hb1⟩; have HD := Lib.hid (belI_step (belI_alloc (Below.refl _ _)) hb1); have kk := (Hd.new w _).blw hb1; have m0 := cell_of_row w1 w.heap.size 0 _ _ _ kk; have m1 := cell_of_row w1 w.heap.size 1 _ _ _ kk; have m2 := cell_of_row w1 w.heap.size 2 _ _ _ kk; have m3 := cell_of_row w1 w.heap.size 3 _ _ _ kk; have m4 := cell_of_row w1 w.heap.size 4 _ _ _ kk; have m5 := cell_of_row w1 w.heap.size 5 _ _ _ kk; have m6 := cell_of_row w1 w.heap.size 6 _ _ _ kk; have m7 := cell_of_row w1 w.heap.size 7 _ _ _ kk; have m8 := cell_of_row w1 w.heap.size 8 _ _ _ kk; have m9 := cell_of_row w1 w.heap.size 9 _ _ _ kk; have m10 := cell_of_row w1 w.heap.size 10 _ _ _ kk; have m11 := cell_of_row w1 w.heap.size 11 _ _ _ kk; have m12 := cell_of_row w1 w.heap.size 12 _ _ _ kk; have m13 := cell_of_row w1 w.heap.size 13 _ _ _ kk; have m14 := cell_of_row w1 w.heap.size 14 _ _ _ kk; have m15 := cell_of_row w1 w.heap.size 15 _ _ _ kk; clear hb1 kk) | (go_at_call 15; refine (in_any _ _ _ _).mono ?_; rintro e wx ⟨rfl, rfl⟩) | fail)
    all_goals (go_ret; refine ⟨ret_b ?_, by first | exact (Below.refl _ _).alloc (Nat.le_refl _) _ | exact HD.out⟩; rw [EZ.out]; first | (simp [*]; done) | (simp [*]; omega) | (simp [*]; intros; omega) | (simp_all; done) | (simp_all; omega) | (by_cases q1 : ti = 0 <;> by_cases q2 : tx.length ≤ 4096 <;> by_cases q3 : lo = true <;> simp_all <;> omega))
set_option maxRecDepth 100000 in
set_option maxHeartbeats 8000000 in
theorem evS5_any (k dr st ti : Int) (tx nm d r b s di sm : List UInt8) (l c : Int) (re lo : Bool) (htx : tx.length ≤ 9223372036854775807) (hnm : nm.length ≤ 9223372036854775807) (hv : Fits ⟨d, r, b, s, di, sm, l, c, re⟩) (h : k = 5) (w : World) :
    Calls Try.prog 9 #[eV ⟨k, dr, st, ti, tx, nm, ⟨d, r, b, s, di, sm, l, c, re⟩, lo⟩] w fun e w' => e = .returned (.bool (decide (dr = 0 ∧ st = 0 ∧ tx = [] ∧ nm = [] ∧ zV ⟨d, r, b, s, di, sm, l, c, re⟩ ∧ lo = false ∧ 1 ≤ ti ∧ ti ≤ 1000))) ∧ Below w.heap.size w w' := by
  have HV := Lib.hid (fun W => okS_any ⟨d, r, b, s, di, sm, l, c, re⟩ hv W)
  have HN := Lib.hid (fun W => Nm.l00Word_any ⟨nm.toArray⟩ W (by simp [ByteArray.size, maxLen]; omega))
  have htx2 := htx
  clear hv
  obtain ⟨R, hR⟩ : ∃ R, decide (dr = 0 ∧ st = 0 ∧ tx = [] ∧ nm = [] ∧ zV ⟨d, r, b, s, di, sm, l, c, re⟩ ∧ lo = false ∧ 1 ≤ ti ∧ ti ≤ 1000) = R := ⟨_, rfl⟩
  have EZ := Lib.hid hR.symm
  rw [hR]
  clear hR
  clear HV HN
  subst h
  ·
    go_enter Try.func9, Try.ntmps9
    go_wp2_with (first | (go_at_call 15; refine (in_any _ _ _ _).mono ?_; rintro e wx ⟨rfl, rfl⟩) | fail)
    all_goals (go_ret; refine ⟨ret_b ?_, by first | exact (Below.refl _ _).alloc (Nat.le_refl _) _ | exact HD.out⟩; rw [EZ.out]; first | (simp [zV, *]; done) | (simp [zV, *]; omega) | (simp [zV, *]; intros; omega) | (simp_all [zV]; done) | (simp_all [zV]; omega) | (by_cases q1 : ti = 0 <;> by_cases q2 : tx.length ≤ 4096 <;> by_cases q3 : lo = true <;> simp_all [zV] <;> omega))
set_option maxRecDepth 100000 in
set_option maxHeartbeats 8000000 in
theorem evS6_any (k dr st ti : Int) (tx nm d r b s di sm : List UInt8) (l c : Int) (re lo : Bool) (htx : tx.length ≤ 9223372036854775807) (hnm : nm.length ≤ 9223372036854775807) (hv : Fits ⟨d, r, b, s, di, sm, l, c, re⟩) (h : k = 6) (w : World) :
    Calls Try.prog 9 #[eV ⟨k, dr, st, ti, tx, nm, ⟨d, r, b, s, di, sm, l, c, re⟩, lo⟩] w fun e w' => e = .returned (.bool ((decide (ti = 0 ∧ tx = [] ∧ zV ⟨d, r, b, s, di, sm, l, c, re⟩) && (nameB ⟨nm.toArray⟩ && (decide (0 ≤ dr ∧ dr ≤ 1000000) && decide (100 ≤ st ∧ st ≤ 599)))))) ∧ Below w.heap.size w w' := by
  have HV := Lib.hid (fun W => okS_any ⟨d, r, b, s, di, sm, l, c, re⟩ hv W)
  have HN := Lib.hid (fun W => Nm.l00Word_any ⟨nm.toArray⟩ W (by simp [ByteArray.size, maxLen]; omega))
  have htx2 := htx
  clear hv
  obtain ⟨R, hR⟩ : ∃ R, (decide (ti = 0 ∧ tx = [] ∧ zV ⟨d, r, b, s, di, sm, l, c, re⟩) && (nameB ⟨nm.toArray⟩ && (decide (0 ≤ dr ∧ dr ≤ 1000000) && decide (100 ≤ st ∧ st ≤ 599)))) = R := ⟨_, rfl⟩
  have EZ := Lib.hid hR.symm
  rw [hR]
  clear hR
  generalize nameB ⟨nm.toArray⟩ = b1 at *
  clear HV
  subst h
  ·
    go_enter Try.func9, Try.ntmps9
    go_wp2_with (first | (go_at_call 17; refine (HN.out _).mono ?_; rintro e wx ⟨rfl, rfl⟩) | (go_at_call 15; refine (in_any _ _ _ _).mono ?_; rintro e wx ⟨rfl, rfl⟩) | fail)
    all_goals (go_ret; refine ⟨ret_b ?_, by first | exact (Below.refl _ _).alloc (Nat.le_refl _) _ | exact HD.out⟩; rw [EZ.out]; first | (simp [zV, *]; done) | (simp [zV, *]; omega) | (simp [zV, *]; intros; omega) | (simp_all [zV]; done) | (simp_all [zV]; omega) | (by_cases q1 : ti = 0 <;> by_cases q2 : tx.length ≤ 4096 <;> by_cases q3 : lo = true <;> simp_all [zV] <;> omega))
set_option maxRecDepth 100000 in
set_option maxHeartbeats 8000000 in
theorem evSN_any (k dr st ti : Int) (tx nm d r b s di sm : List UInt8) (l c : Int) (re lo : Bool) (htx : tx.length ≤ 9223372036854775807) (hnm : nm.length ≤ 9223372036854775807) (hv : Fits ⟨d, r, b, s, di, sm, l, c, re⟩) (h1 : ¬ (k = 1 ∨ k = 2 ∨ k = 3)) (h4 : ¬ k = 4) (h5 : ¬ k = 5) (h6 : ¬ k = 6) (w : World) :
    Calls Try.prog 9 #[eV ⟨k, dr, st, ti, tx, nm, ⟨d, r, b, s, di, sm, l, c, re⟩, lo⟩] w fun e w' => e = .returned (.bool (false)) ∧ Below w.heap.size w w' := by
  have HV := Lib.hid (fun W => okS_any ⟨d, r, b, s, di, sm, l, c, re⟩ hv W)
  have HN := Lib.hid (fun W => Nm.l00Word_any ⟨nm.toArray⟩ W (by simp [ByteArray.size, maxLen]; omega))
  have htx2 := htx
  clear hv
  obtain ⟨R, hR⟩ : ∃ R, false = R := ⟨_, rfl⟩
  have EZ := Lib.hid hR.symm
  rw [hR]
  clear hR
  have h01 : ¬ k = 1 := fun e => h1 (.inl e)
  have h02 : ¬ k = 2 := fun e => h1 (.inr (.inl e))
  have h03 : ¬ k = 3 := fun e => h1 (.inr (.inr e))
  clear HV HN h1
  ·
    go_enter Try.func9, Try.ntmps9
    go_wp2_with (first | (go_at_call 15; refine (in_any _ _ _ _).mono ?_; rintro e wx ⟨rfl, rfl⟩) | fail)
    all_goals (go_ret; refine ⟨ret_b ?_, (Below.refl _ _).alloc (Nat.le_refl _) _⟩; rw [EZ.out])
theorem evS_any (x : Ev) (hf : FitsE x) (w : World) : Calls Try.prog 9 #[eV x] w fun e w' => e = .returned (.bool (evB x)) ∧ Below w.heap.size w w' := by
  obtain ⟨f1, f2, f3⟩ := hf
  obtain ⟨k, dr, st, ti, tx, nm, ⟨d, r, b, s, di, sm, l, c, re⟩, lo⟩ := x
  by_cases h1 : k = 1 ∨ k = 2 ∨ k = 3
  · have := evSA_any k dr st ti tx nm d r b s di sm l c re lo f1 f2 f3 h1 w
    unfold evB
    rw [if_pos h1]
    exact this
  by_cases h4 : k = 4
  · have := evS4_any k dr st ti tx nm d r b s di sm l c re lo f1 f2 f3 h4 w
    unfold evB
    rw [if_neg h1, if_pos h4]
    exact this
  by_cases h5 : k = 5
  · have := evS5_any k dr st ti tx nm d r b s di sm l c re lo f1 f2 f3 h5 w
    unfold evB
    rw [if_neg h1, if_neg h4, if_pos h5]
    exact this
  by_cases h6 : k = 6
  · have := evS6_any k dr st ti tx nm d r b s di sm l c re lo f1 f2 f3 h6 w
    unfold evB
    rw [if_neg h1, if_neg h4, if_neg h5, if_pos h6]
    exact this
  have := evSN_any k dr st ti tx nm d r b s di sm l c re lo f1 f2 f3 h1 h4 h5 h6 w
  unfold evB
  rw [if_neg h1, if_neg h4, if_neg h5, if_neg h6]
  exact this
end Go.Proofs.Ytbkikbhnehjaaaa.Ev
