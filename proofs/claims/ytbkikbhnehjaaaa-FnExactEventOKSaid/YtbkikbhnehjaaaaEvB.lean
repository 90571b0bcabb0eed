
/-
  EventOK, the program's and the model's, walked. (Made by eva.py.)
-/
import Derived.Test.YtbkikbhnehjaaaaEvA
namespace Go.Proofs.Ytbkikbhnehjaaaa.Ev
open Go.RowKit
open Go.Proofs.Ytbkikbhnehjaaaa.Vi
open Go.Proofs.Ytbkikbhnehjaaaa.Rn (ret_b)
open Go.Proofs.Ytbkikbhnehjaaaa.Nm (nameB)
open Go.Proofs.Ytbkikbhnehjaaaa.Ul (in_any)
def zV (v : V) : Prop := v.doc = [] ∧ v.ref = [] ∧ v.blk = [] ∧ v.src = [] ∧ v.dir = [] ∧ v.smp = [] ∧ v.line = 0 ∧ v.col = 0 ∧ v.red = false
instance (v : V) : Decidable (zV v) := by unfold zV; exact inferInstance
def evB (e : Ev) : Bool :=
  if e.kind = 1 ∨ e.kind = 2 ∨ e.kind = 3 then decide (e.draw = 0 ∧ e.st = 0 ∧ e.ticks = 0 ∧ e.name = [] ∧ zV e.v ∧ e.lost = false ∧ e.text.length ≤ 4096)
  else if e.kind = 4 then decide (e.draw = 0 ∧ e.st = 0 ∧ e.ticks = 0 ∧ e.text = [] ∧ e.name = [] ∧ e.lost = false) && vOK e.v
  else if e.kind = 5 then decide (e.draw = 0 ∧ e.st = 0 ∧ e.text = [] ∧ e.name = [] ∧ zV e.v ∧ e.lost = false ∧ 1 ≤ e.ticks ∧ e.ticks ≤ 1000)
  else if e.kind = 6 then decide (e.ticks = 0 ∧ e.text = [] ∧ zV e.v) && (nameB ⟨e.name.toArray⟩ && (decide (0 ≤ e.draw ∧ e.draw ≤ 1000000) && decide (100 ≤ e.st ∧ e.st ≤ 599)))
  else false
theorem nowE_any (n : Int) (w : World) : Calls Try.prog 13 #[.int .i64 n] w fun e w' => e = .returned (.bool (decide (0 ≤ n ∧ n ≤ 1000000))) ∧ w = w' := by
  by_cases h1 : 0 ≤ n
  · by_cases h2 : n ≤ 1000000
    all_goals
      go_enter Try.func13, Try.ntmps13
      go_wp2
      go_ret
      exact ⟨ret_b (by simp; omega), rfl⟩
  · go_enter Try.func13, Try.ntmps13
    go_wp2
    go_ret
    exact ⟨ret_b (by simp; omega), rfl⟩
theorem statE_any (n : Int) (w : World) : Calls Try.prog 14 #[.int .i64 n] w fun e w' => e = .returned (.bool (decide (100 ≤ n ∧ n ≤ 599))) ∧ w = w' := by
  by_cases h1 : 100 ≤ n
  · by_cases h2 : n ≤ 599
    all_goals
      go_enter Try.func14, Try.ntmps14
      go_wp2
      go_ret
      exact ⟨ret_b (by simp; omega), rfl⟩
  · go_enter Try.func14, Try.ntmps14
    go_wp2
    go_ret
    exact ⟨ret_b (by simp; omega), rfl⟩
set_option maxRecDepth 100000 in
set_option maxHeartbeats 8000000 in
theorem evIA_any (k dr st ti : Int) (tx nm d r b s di sm : List UInt8) (l c : Int) (re lo : Bool) (htx : tx.length ≤ 9223372036854775807) (hnm : nm.length ≤ 9223372036854775807) (hv : Fits ⟨d, r, b, s, di, sm, l, c, re⟩) (h : k = 1 ∨ k = 2 ∨ k = 3) (w : World) :
    Calls Try.prog 7 #[eV ⟨k, dr, st, ti, tx, nm, ⟨d, r, b, s, di, sm, l, c, re⟩, lo⟩] w fun e w' => e = .returned (.bool (decide (dr = 0 ∧ st = 0 ∧ ti = 0 ∧ nm = [] ∧ zV ⟨d, r, b, s, di, sm, l, c, re⟩ ∧ lo = false ∧ tx.length ≤ 4096))) ∧ Below w.heap.size w w' := by
  have HV := Lib.hid (fun W => okI_any ⟨d, r, b, s, di, sm, l, c, re⟩ hv W)
  have HN := Lib.hid (fun W => Nm.NameOK_any ⟨nm.toArray⟩ W (by simp [ByteArray.size, maxLen]; omega))
  have htx2 := htx
  clear hv
  obtain ⟨R, hR⟩ : ∃ R, decide (dr = 0 ∧ st = 0 ∧ ti = 0 ∧ nm = [] ∧ zV ⟨d, r, b, s, di, sm, l, c, re⟩ ∧ lo = false ∧ tx.length ≤ 4096) = R := ⟨_, rfl⟩
  have EZ := Lib.hid hR.symm
  rw [hR]
  clear hR
  have HW := Lib.hid (fun W => nowE_any dr W)
  have HS := Lib.hid (fun W => statE_any st W)
  clear HV HN HW HS
  rcases h with rfl | rfl | rfl
  all_goals
    go_enter Try.func7, Try.ntmps7
    go_wp2
    all_goals (go_ret; refine ⟨ret_b ?_, by first | exact (Below.refl _ _).alloc (Nat.le_refl _) _ | exact HD.out⟩; rw [EZ.out]; first | (simp [zV, *]; done) | (simp [zV, *]; omega) | (simp_all [zV]; done) | (simp_all [zV]; omega))
set_option maxRecDepth 100000 in
set_option maxHeartbeats 8000000 in
theorem evI4_any (k dr st ti : Int) (tx nm d r b s di sm : List UInt8) (l c : Int) (re lo : Bool) (htx : tx.length ≤ 9223372036854775807) (hnm : nm.length ≤ 9223372036854775807) (hv : Fits ⟨d, r, b, s, di, sm, l, c, re⟩) (h : k = 4) (w : World) :
    Calls Try.prog 7 #[eV ⟨k, dr, st, ti, tx, nm, ⟨d, r, b, s, di, sm, l, c, re⟩, lo⟩] w fun e w' => e = .returned (.bool ((decide (dr = 0 ∧ st = 0 ∧ ti = 0 ∧ tx = [] ∧ nm = [] ∧ lo = false) && vOK ⟨d, r, b, s, di, sm, l, c, re⟩))) ∧ Below w.heap.size w w' := by
  have HV := Lib.hid (fun W => okI_any ⟨d, r, b, s, di, sm, l, c, re⟩ hv W)
  have HN := Lib.hid (fun W => Nm.NameOK_any ⟨nm.toArray⟩ W (by simp [ByteArray.size, maxLen]; omega))
  have htx2 := htx
  clear hv
  obtain ⟨R, hR⟩ : ∃ R, (decide (dr = 0 ∧ st = 0 ∧ ti = 0 ∧ tx = [] ∧ nm = [] ∧ lo = false) && vOK ⟨d, r, b, s, di, sm, l, c, re⟩) = R := ⟨_, rfl⟩
  have EZ := Lib.hid hR.symm
  rw [hR]
  clear hR
  have HW := Lib.hid (fun W => nowE_any dr W)
  have HS := Lib.hid (fun W => statE_any st W)
  generalize vOK ⟨d, r, b, s, di, sm, l, c, re⟩ = vk at *
  clear HN HW HS
  subst h
  ·
    go_enter Try.func7, Try.ntmps7
    go_wp2_with (first | (go_at_call 11; refine (HV.out _).mono ?_; rintro e w1 ⟨rfl, hb1⟩; have HD := Lib.hid (belI_step (belI_alloc (Below.refl _ _)) hb1); have kk := (Hd.new w _).blw hb1; have m0 := cell_of_row w1 w.heap.size 0 _ _ _ kk; have m1 := cell_of_row w1 w.heap.size 1 _ _ _ kk; have m2 := cell_of_row w1 w.heap.size 2 _ _ _ kk; have m3 := cell_of_row w1 w.heap.size 3 _ _ _ kk; have m4 := cell_of_row w1 w.heap.size 4 _ _ _ kk; have m5 := cell_of_row w1 w.heap.size 5 _ _ _ kk; have m6 := cell_of_row w1 w.heap.size 6 _ _ _ kk; have m7 := cell_of_row w1 w.heap.size 7 _ _ _ kk; have m8 := cell_of_row w1 w.heap.size 8 _ _ _ kk; have m9 := cell_of_row w1 w.heap.size 9 _ _ _ kk; have m10 := cell_of_row w1 w.heap.size 10 _ _ _ kk; have m11 := cell_of_row w1 w.heap.size 11 _ _ _ kk; have m12 := cell_of_row w1 w.heap.size 12 _ _ _ kk; have m13 := cell_of_row w1 w.heap.size 13 _ _ _ kk; have m14 := cell_of_row w1 w.heap.size 14 _ _ _ kk; have m15 := cell_of_row w1 w.heap.size 15 _ _ _ kk; clear hb1 kk) | fail)
    all_goals (go_ret; refine ⟨ret_b ?_, by first | exact (Below.refl _ _).alloc (Nat.le_refl _) _ | exact HD.out⟩; rw [EZ.out]; first | (simp [*]; done) | (simp [*]; omega) | (simp_all; done) | (simp_all; omega))
set_option maxRecDepth 100000 in
set_option maxHeartbeats 8000000 in
theorem evI5_any (k dr st ti : Int) (tx nm d r b s di sm : List UInt8) (l c : Int) (re lo : Bool) (htx : tx.length ≤ 9223372036854775807) (hnm : nm.length ≤ 9223372036854775807) (hv : Fits ⟨d, r, b, s, di, sm, l, c, re⟩) (h : k = 5) (w : World) :
    Calls Try.prog 7 #[eV ⟨k, dr, st, ti, tx, nm, ⟨d, r, b, s, di, sm, l, c, re⟩, lo⟩] w fun e w' => e = .returned (.bool (decide (dr = 0 ∧ st = 0 ∧ tx = [] ∧ nm = [] ∧ zV ⟨d, r, b, s, di, sm, l, c, re⟩ ∧ lo = false ∧ 1 ≤ ti ∧ ti ≤ 1000))) ∧ Below w.heap.size w w' := by
  have HV := Lib.hid (fun W => okI_any ⟨d, r, b, s, di, sm, l, c, re⟩ hv W)
  have HN := Lib.hid (fun W => Nm.NameOK_any ⟨nm.toArray⟩ W (by simp [ByteArray.size, maxLen]; omega))
  have htx2 := htx
  clear hv
  obtain ⟨R, hR⟩ : ∃ R, decide (dr = 0 ∧ st = 0 ∧ tx = [] ∧ nm = [] ∧ zV ⟨d, r, b, s, di, sm, l, c, re⟩ ∧ lo = false ∧ 1 ≤ ti ∧ ti ≤ 1000) = R := ⟨_, rfl⟩
  have EZ := Lib.hid hR.symm
  rw [hR]
  clear hR
  have HW := Lib.hid (fun W => nowE_any dr W)
  have HS := Lib.hid (fun W => statE_any st W)
  clear HV HN HW HS
  subst h
  ·
    go_enter Try.func7, Try.ntmps7
    go_wp2
    all_goals (go_ret; refine ⟨ret_b ?_, by first | exact (Below.refl _ _).alloc (Nat.le_refl _) _ | exact HD.out⟩; rw [EZ.out]; first | (simp [zV, *]; done) | (simp [zV, *]; omega) | (simp_all [zV]; done) | (simp_all [zV]; omega))
set_option maxRecDepth 100000 in
set_option maxHeartbeats 8000000 in
theorem evI6_any (k dr st ti : Int) (tx nm d r b s di sm : List UInt8) (l c : Int) (re lo : Bool) (htx : tx.length ≤ 9223372036854775807) (hnm : nm.length ≤ 9223372036854775807) (hv : Fits ⟨d, r, b, s, di, sm, l, c, re⟩) (h : k = 6) (w : World) :
    Calls Try.prog 7 #[eV ⟨k, dr, st, ti, tx, nm, ⟨d, r, b, s, di, sm, l, c, re⟩, lo⟩] w fun e w' => e = .returned (.bool ((decide (ti = 0 ∧ tx = [] ∧ zV ⟨d, r, b, s, di, sm, l, c, re⟩) && (nameB ⟨nm.toArray⟩ && (decide (0 ≤ dr ∧ dr ≤ 1000000) && decide (100 ≤ st ∧ st ≤ 599)))))) ∧ Below w.heap.size w w' := by
  have HV := Lib.hid (fun W => okI_any ⟨d, r, b, s, di, sm, l, c, re⟩ hv W)
  have HN := Lib.hid (fun W => Nm.NameOK_any ⟨nm.toArray⟩ W (by simp [ByteArray.size, maxLen]; omega))
  have htx2 := htx
  clear hv
  obtain ⟨R, hR⟩ : ∃ R, (decide (ti = 0 ∧ tx = [] ∧ zV ⟨d, r, b, s, di, sm, l, c, re⟩) && (nameB ⟨nm.toArray⟩ && (decide (0 ≤ dr ∧ dr ≤ 1000000) && decide (100 ≤ st ∧ st ≤ 599)))) = R := ⟨_, rfl⟩
  have EZ := Lib.hid hR.symm
  rw [hR]
  clear hR
  have HW := Lib.hid (fun W => nowE_any dr W)
  have HS := Lib.hid (fun W => statE_any st W)
  generalize nameB ⟨nm.toArray⟩ = b1 at *
  generalize decide (0 ≤ dr ∧ dr ≤ 1000000) = b2 at *
  generalize decide (100 ≤ st ∧ st ≤ 599) = b3 at *
  clear HV
  subst h
  ·
    go_enter Try.func7, Try.ntmps7
    go_wp2_with (first | (go_at_call 12; refine (HN.out _).mono ?_; rintro e w1 ⟨rfl, hb1⟩; have HD := Lib.hid (belI_step (belI_alloc (Below.refl _ _)) hb1); have kk := (Hd.new w _).blw hb1; have m0 := cell_of_row w1 w.heap.size 0 _ _ _ kk; have m1 := cell_of_row w1 w.heap.size 1 _ _ _ kk; have m2 := cell_of_row w1 w.heap.size 2 _ _ _ kk; have m3 := cell_of_row w1 w.heap.size 3 _ _ _ kk; have m4 := cell_of_row w1 w.heap.size 4 _ _ _ kk; have m5 := cell_of_row w1 w.heap.size 5 _ _ _ kk; have m6 := cell_of_row w1 w.heap.size 6 _ _ _ kk; have m7 := cell_of_row w1 w.heap.size 7 _ _ _ kk; have m8 := cell_of_row w1 w.heap.size 8 _ _ _ kk; have m9 := cell_of_row w1 w.heap.size 9 _ _ _ kk; have m10 := cell_of_row w1 w.heap.size 10 _ _ _ kk; have m11 := cell_of_row w1 w.heap.size 11 _ _ _ kk; have m12 := cell_of_row w1 w.heap.size 12 _ _ _ kk; have m13 := cell_of_row w1 w.heap.size 13 _ _ _ kk; have m14 := cell_of_row w1 w.heap.size 14 _ _ _ kk; have m15 := cell_of_row w1 w.heap.size 15 _ _ _ kk; clear hb1 kk) | (go_at_call 13; refine (HW.out _).mono ?_; rintro e w2 ⟨rfl, rfl⟩) | (go_at_call 14; refine (HS.out _).mono ?_; rintro e w3 ⟨rfl, rfl⟩) | fail)
    all_goals (go_ret; refine ⟨ret_b ?_, by first | exact (Below.refl _ _).alloc (Nat.le_refl _) _ | exact HD.out⟩; rw [EZ.out]; first | (simp [zV, *]; done) | (simp [zV, *]; omega) | (simp_all [zV]; done) | (simp_all [zV]; omega))
set_option maxRecDepth 100000 in
set_option maxHeartbeats 8000000 in
theorem evIN_any (k dr st ti : Int) (tx nm d r b s di sm : List UInt8) (l c : Int) (re lo : Bool) (htx : tx.length ≤ 9223372036854775807) (hnm : nm.length ≤ 9223372036854775807) (hv : Fits ⟨d, r, b, s, di, sm, l, c, re⟩) (h1 : ¬ (k = 1 ∨ k = 2 ∨ k = 3)) (h4 : ¬ k = 4) (h5 : ¬ k = 5) (h6 : ¬ k = 6) (w : World) :
    Calls Try.prog 7 #[eV ⟨k, dr, st, ti, tx, nm, ⟨d, r, b, s, di, sm, l, c, re⟩, lo⟩] w fun e w' => e = .returned (.bool (false)) ∧ Below w.heap.size w w' := by
  have HV := Lib.hid (fun W => okI_any ⟨d, r, b, s, di, sm, l, c, re⟩ hv W)
  have HN := Lib.hid (fun W => Nm.NameOK_any ⟨nm.toArray⟩ W (by simp [ByteArray.size, maxLen]; omega))
  have htx2 := htx
  clear hv
  obtain ⟨R, hR⟩ : ∃ R, false = R := ⟨_, rfl⟩
  have EZ := Lib.hid hR.symm
  rw [hR]
  clear hR
  have HW := Lib.hid (fun W => nowE_any dr W)
  have HS := Lib.hid (fun W => statE_any st W)
  have h01 : ¬ k = 1 := fun e => h1 (.inl e)
  have h02 : ¬ k = 2 := fun e => h1 (.inr (.inl e))
  have h03 : ¬ k = 3 := fun e => h1 (.inr (.inr e))
  clear HV HN h1 HW HS
  ·
    go_enter Try.func7, Try.ntmps7
    go_wp2
    all_goals (go_ret; refine ⟨ret_b ?_, (Below.refl _ _).alloc (Nat.le_refl _) _⟩; rw [EZ.out])
theorem evI_any (x : Ev) (hf : FitsE x) (w : World) : Calls Try.prog 7 #[eV x] w fun e w' => e = .returned (.bool (evB x)) ∧ Below w.heap.size w w' := by
  obtain ⟨f1, f2, f3⟩ := hf
  obtain ⟨k, dr, st, ti, tx, nm, ⟨d, r, b, s, di, sm, l, c, re⟩, lo⟩ := x
  by_cases h1 : k = 1 ∨ k = 2 ∨ k = 3
  · have := evIA_any k dr st ti tx nm d r b s di sm l c re lo f1 f2 f3 h1 w
    unfold evB
    rw [if_pos h1]
    exact this
  by_cases h4 : k = 4
  · have := evI4_any k dr st ti tx nm d r b s di sm l c re lo f1 f2 f3 h4 w
    unfold evB
    rw [if_neg h1, if_pos h4]
    exact this
  by_cases h5 : k = 5
  · have := evI5_any k dr st ti tx nm d r b s di sm l c re lo f1 f2 f3 h5 w
    unfold evB
    rw [if_neg h1, if_neg h4, if_pos h5]
    exact this
  by_cases h6 : k = 6
  · have := evI6_any k dr st ti tx nm d r b s di sm l c re lo f1 f2 f3 h6 w
    unfold evB
    rw [if_neg h1, if_neg h4, if_neg h5, if_pos h6]
    exact this
  have := evIN_any k dr st ti tx nm d r b s di sm l c re lo f1 f2 f3 h1 h4 h5 h6 w
  unfold evB
  rw [if_neg h1, if_neg h4, if_neg h5, if_neg h6]
  exact this
end Go.Proofs.Ytbkikbhnehjaaaa.Ev
