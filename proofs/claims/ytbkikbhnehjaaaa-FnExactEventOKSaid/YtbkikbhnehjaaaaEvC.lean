
/-
  The law FnExactEventOK, walked. (Made by eva.py.)
-/
import Derived.Test.YtbkikbhnehjaaaaEvS
namespace Go.Proofs.Ytbkikbhnehjaaaa.Ev
open Go.RowKit
open Go.Proofs.Ytbkikbhnehjaaaa.Vi
set_option maxRecDepth 100000 in
theorem evSV_any (x : Ev) (hf : FitsE x) (w : World) : Calls Try.prog 5 #[eV x] w fun e w' => e = .returned (.bool (evB x)) ∧ Below w.heap.size w w' := by
  have HS := Lib.hid (fun W => evS_any x hf W)
  generalize evB x = R at *
  clear hf
  obtain ⟨k, dr, st, ti, tx, nm, ⟨d, r, b, s, di, sm, l, c, re⟩, lo⟩ := x
  simp only [eV] at HS
  go_enter Try.func5, Try.ntmps5
  go_wp2_with fail
  refine (HS.out _).mono ?_
  rintro e w1 ⟨rfl, hb⟩
  have HD := Lib.hid (belI_step (belI_alloc (Below.refl _ _)) hb)
  clear hb
  go_wp2
  go_ret
  exact ⟨rfl, HD.out⟩
set_option maxRecDepth 100000 in
set_option maxHeartbeats 4000000 in
theorem eventOK_walk (x : Ev) (hf : FitsE x) (w : World) : Calls Try.prog 3 #[eV x] w fun e w' => e = .returned (.bool true) ∧ Below w.heap.size w w' := by
  have HSZ := Lib.hid (fun W => szE_any x hf W)
  have HS := Lib.hid (fun W => evSV_any x hf W)
  have HI := Lib.hid (fun W => evI_any x hf W)
  have HTV := Lib.hid (fun W => toE_any x W)
  have HN := Lib.hid (show szN 1048576 (sizeE x) = -1 ∨ 0 ≤ szN 1048576 (sizeE x) by unfold szN; split <;> omega)
  generalize szN 1048576 (sizeE x) = z at *
  generalize evB x = R at *
  clear hf
  obtain ⟨k, dr, st, ti, tx, nm, ⟨d, r, b, s, di, sm, l, c, re⟩, lo⟩ := x
  simp only [eV] at HSZ HS HI HTV
  have K := Lib.hid (Hd.new w (.cells #[.int .i64 k, .int .i64 dr, .int .i64 st, .int .i64 ti, .string ⟨tx.toArray⟩, .string ⟨nm.toArray⟩, .string ⟨d.toArray⟩, .string ⟨r.toArray⟩, .string ⟨b.toArray⟩, .string ⟨s.toArray⟩, .string ⟨di.toArray⟩, .string ⟨sm.toArray⟩, .int .i64 l, .int .i64 c, .bool re, .bool lo] 25))
  rcases HN.out with rfl | hz
  · clear HS HI HTV K HN
    go_enter Try.func3, Try.ntmps3
    go_wp2_with fail
    refine (HSZ.out _).mono ?_
    rintro e w1 ⟨rfl, hb⟩
    have HD := Lib.hid (belI_step (belI_alloc (Below.refl _ _)) hb)
    clear hb
    go_wp2
    go_ret
    exact ⟨rfl, HD.out⟩
  · have g1 : ¬ z < 0 := by omega
    clear HN hz
    go_enter Try.func3, Try.ntmps3
    go_wp2_with fail
    refine (HSZ.out _).mono ?_
    rintro e w1 ⟨rfl, hb⟩
    have K := Lib.hid (K.out.blw hb)
    have BA := Lib.hid (belI_step (belI_alloc (Below.refl _ _)) hb)
    clear hb
    have kk := K.out
    have m0 := cell_of_row w1 w.heap.size 0 _ _ _ kk
    have m1 := cell_of_row w1 w.heap.size 1 _ _ _ kk
    have m2 := cell_of_row w1 w.heap.size 2 _ _ _ kk
    have m3 := cell_of_row w1 w.heap.size 3 _ _ _ kk
    have m4 := cell_of_row w1 w.heap.size 4 _ _ _ kk
    have m5 := cell_of_row w1 w.heap.size 5 _ _ _ kk
    have m6 := cell_of_row w1 w.heap.size 6 _ _ _ kk
    have m7 := cell_of_row w1 w.heap.size 7 _ _ _ kk
    have m8 := cell_of_row w1 w.heap.size 8 _ _ _ kk
    have m9 := cell_of_row w1 w.heap.size 9 _ _ _ kk
    have m10 := cell_of_row w1 w.heap.size 10 _ _ _ kk
    have m11 := cell_of_row w1 w.heap.size 11 _ _ _ kk
    have m12 := cell_of_row w1 w.heap.size 12 _ _ _ kk
    have m13 := cell_of_row w1 w.heap.size 13 _ _ _ kk
    have m14 := cell_of_row w1 w.heap.size 14 _ _ _ kk
    have m15 := cell_of_row w1 w.heap.size 15 _ _ _ kk
    clear kk
    go_wp2_with fail
    refine (HTV.out _).mono ?_
    rintro e w2 ⟨rfl, hb⟩
    have K := Lib.hid (K.out.blw hb)
    have BA := Lib.hid (belI_step BA.out hb)
    clear hb m0 m1 m2 m3 m4 m5 m6 m7 m8 m9 m10 m11 m12 m13 m14 m15
    go_wp2_with fail
    refine (HS.out _).mono ?_
    rintro e w3 ⟨rfl, hb⟩
    have K := Lib.hid (K.out.blw hb)
    have BA := Lib.hid (belI_step BA.out hb)
    clear hb
    have kk := K.out
    have m0 := cell_of_row w3 w.heap.size 0 _ _ _ kk
    have m1 := cell_of_row w3 w.heap.size 1 _ _ _ kk
    have m2 := cell_of_row w3 w.heap.size 2 _ _ _ kk
    have m3 := cell_of_row w3 w.heap.size 3 _ _ _ kk
    have m4 := cell_of_row w3 w.heap.size 4 _ _ _ kk
    have m5 := cell_of_row w3 w.heap.size 5 _ _ _ kk
    have m6 := cell_of_row w3 w.heap.size 6 _ _ _ kk
    have m7 := cell_of_row w3 w.heap.size 7 _ _ _ kk
    have m8 := cell_of_row w3 w.heap.size 8 _ _ _ kk
    have m9 := cell_of_row w3 w.heap.size 9 _ _ _ kk
    have m10 := cell_of_row w3 w.heap.size 10 _ _ _ kk
    have m11 := cell_of_row w3 w.heap.size 11 _ _ _ kk
    have m12 := cell_of_row w3 w.heap.size 12 _ _ _ kk
    have m13 := cell_of_row w3 w.heap.size 13 _ _ _ kk
    have m14 := cell_of_row w3 w.heap.size 14 _ _ _ kk
    have m15 := cell_of_row w3 w.heap.size 15 _ _ _ kk
    clear kk
    go_wp2_with fail
    refine (HTV.out _).mono ?_
    rintro e w4 ⟨rfl, hb⟩
    have BA := Lib.hid (belI_step BA.out hb)
    clear hb m0 m1 m2 m3 m4 m5 m6 m7 m8 m9 m10 m11 m12 m13 m14 m15
    go_wp2_with fail
    refine (HI.out _).mono ?_
    rintro e w5 ⟨rfl, hb⟩
    have BA := Lib.hid (belI_step BA.out hb)
    clear hb
    cases R
    all_goals
      go_wp2
      go_ret
      exact ⟨rfl, BA.out⟩
end Go.Proofs.Ytbkikbhnehjaaaa.Ev
