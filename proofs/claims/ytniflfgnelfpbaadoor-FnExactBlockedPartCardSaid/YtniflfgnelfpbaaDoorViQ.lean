
/-
  The parts of a violation, walked: the blocked part, the source part, the program's and the model's.
-/
import Derived.Test.YtniflfgnelfpbaaDoorViP
import Derived.Test.YtniflfgnelfpbaaDoorTx
namespace Go.Proofs.YtniflfgnelfpbaaDoor.Vi
open Go.RowKit
open Go.Proofs.YtniflfgnelfpbaaDoor.Ul
/-- the block of a parameter, behind its allocation -/
theorem vAt_new2 (w : World) (v : V) (T : TypeId) : VAt (w.alloc (.cells #[.string ⟨v.doc.toArray⟩, .string ⟨v.ref.toArray⟩, .string ⟨v.blk.toArray⟩, .string ⟨v.src.toArray⟩, .string ⟨v.dir.toArray⟩, .string ⟨v.smp.toArray⟩, .int .i64 v.line, .int .i64 v.col, .bool v.red] T)) w.heap.size v := VAt.newT w v T
set_option maxRecDepth 100000 in
set_option maxHeartbeats 1000000 in
theorem blockedI_any (v : V) (w : World) (hT : Tab w) (hM : MaxL w) (hl : v.blk.length ≤ 65536) : Calls Tryd.prog 20 #[vV v] w fun e w' => e = .returned (.string ⟨(blkV v).toArray⟩) ∧ Below w.heap.size w w' := by
  have HT := Lib.hid hT
  have HM := Lib.hid hM
  clear hT hM
  obtain ⟨d, rf, b, s, di, sm, l, c, re⟩ := v
  simp only at hl
  by_cases h1 : b = inlL
  · subst h1
    rw [show blkV ⟨d, rf, inlL, s, di, sm, l, c, re⟩ = inlL by simp [blkV, wordB]]
    have HC := Lib.hid (fun W => clone_any inlL W (by decide))
    unfold inlL at *
    go_enter Tryd.func20, Tryd.ntmps20
    go_wp2_with fail
    refine (HC.out _).mono ?_
    rintro e w1 ⟨rfl, hb⟩
    go_wp2
    go_ret
    exact ⟨rfl, (by repeat (first | (with_reducible exact Below.refl _ _) | (with_reducible refine belI_set ?_ (by first | exact Nat.le_refl _ | simp)) | (with_reducible refine belI_alloc ?_) | (with_reducible refine Below.drew ?_) | (with_reducible refine belI_drewN ?_ _) | (with_reducible refine belI_step ?_ (by assumption))))⟩
  by_cases h2 : b = evaL
  · subst h2
    rw [show blkV ⟨d, rf, evaL, s, di, sm, l, c, re⟩ = evaL by simp [blkV, wordB]]
    have HC := Lib.hid (fun W => clone_any evaL W (by decide))
    unfold evaL at *
    clear h1
    go_enter Tryd.func20, Tryd.ntmps20
    go_wp2_with fail
    refine (HC.out _).mono ?_
    rintro e w1 ⟨rfl, hb⟩
    go_wp2
    go_ret
    exact ⟨rfl, (by repeat (first | (with_reducible exact Below.refl _ _) | (with_reducible refine belI_set ?_ (by first | exact Nat.le_refl _ | simp)) | (with_reducible refine belI_alloc ?_) | (with_reducible refine Below.drew ?_) | (with_reducible refine belI_drewN ?_ _) | (with_reducible refine belI_step ?_ (by assumption))))⟩
  by_cases h3 : b = selL
  · subst h3
    rw [show blkV ⟨d, rf, selL, s, di, sm, l, c, re⟩ = selL by simp [blkV, wordB]]
    have HC := Lib.hid (fun W => clone_any selL W (by decide))
    unfold selL at *
    clear h1 h2
    go_enter Tryd.func20, Tryd.ntmps20
    go_wp2_with fail
    refine (HC.out _).mono ?_
    rintro e w1 ⟨rfl, hb⟩
    go_wp2
    go_ret
    exact ⟨rfl, (by repeat (first | (with_reducible exact Below.refl _ _) | (with_reducible refine belI_set ?_ (by first | exact Nat.le_refl _ | simp)) | (with_reducible refine belI_alloc ?_) | (with_reducible refine Below.drew ?_) | (with_reducible refine belI_drewN ?_ _) | (with_reducible refine belI_step ?_ (by assumption))))⟩
  have hw : wordB b = false := by simp [wordB, h1, h2, h3]
  have e1 : (b == [105, 110, 108, 105, 110, 101]) = false := beq_eq_false_iff_ne.2 h1
  have e2 : (b == [101, 118, 97, 108]) = false := beq_eq_false_iff_ne.2 h2
  have e3 : (b == [115, 101, 108, 102]) = false := beq_eq_false_iff_ne.2 h3
  clear h1 h2 h3
  cases re with
  | true =>
    rw [show blkV ⟨d, rf, b, s, di, sm, l, c, true⟩ = siteT b by simp [blkV, hw]]
    have HS := Lib.hid (fun W hT hM => siteI_any b W hT hM hl)
    clear hw
    generalize siteT b = o at *
    go_enter Tryd.func20, Tryd.ntmps20
    go_wp2_with fail
    refine (HS.out _ (HT.out.below (by repeat (first | (with_reducible exact Below.refl _ _) | (with_reducible refine belI_set ?_ (by first | exact Nat.le_refl _ | simp)) | (with_reducible refine belI_alloc ?_) | (with_reducible refine Below.drew ?_) | (with_reducible refine belI_drewN ?_ _) | (with_reducible refine belI_step ?_ (by assumption))))) (HM.out.below (by repeat (first | (with_reducible exact Below.refl _ _) | (with_reducible refine belI_set ?_ (by first | exact Nat.le_refl _ | simp)) | (with_reducible refine belI_alloc ?_) | (with_reducible refine Below.drew ?_) | (with_reducible refine belI_drewN ?_ _) | (with_reducible refine belI_step ?_ (by assumption)))))).mono ?_
    rintro e w1 ⟨rfl, hb⟩
    go_wp2
    go_ret
    exact ⟨rfl, (by repeat (first | (with_reducible exact Below.refl _ _) | (with_reducible refine belI_set ?_ (by first | exact Nat.le_refl _ | simp)) | (with_reducible refine belI_alloc ?_) | (with_reducible refine Below.drew ?_) | (with_reducible refine belI_drewN ?_ _) | (with_reducible refine belI_step ?_ (by assumption))))⟩
  | false =>
    rw [show blkV ⟨d, rf, b, s, di, sm, l, c, false⟩ = Ul.ST b by simp [blkV, hw]]
    have HS := Lib.hid (fun W hT hM => iST_any b W hT hM (by omega))
    clear hw
    generalize Ul.ST b = o at *
    go_enter Tryd.func20, Tryd.ntmps20
    go_wp2_with fail
    refine (HS.out _ (HT.out.below (by repeat (first | (with_reducible exact Below.refl _ _) | (with_reducible refine belI_set ?_ (by first | exact Nat.le_refl _ | simp)) | (with_reducible refine belI_alloc ?_) | (with_reducible refine Below.drew ?_) | (with_reducible refine belI_drewN ?_ _) | (with_reducible refine belI_step ?_ (by assumption))))) (HM.out.below (by repeat (first | (with_reducible exact Below.refl _ _) | (with_reducible refine belI_set ?_ (by first | exact Nat.le_refl _ | simp)) | (with_reducible refine belI_alloc ?_) | (with_reducible refine Below.drew ?_) | (with_reducible refine belI_drewN ?_ _) | (with_reducible refine belI_step ?_ (by assumption)))))).mono ?_
    rintro e w1 ⟨rfl, hb⟩
    go_wp2
    go_ret
    exact ⟨rfl, (by repeat (first | (with_reducible exact Below.refl _ _) | (with_reducible refine belI_set ?_ (by first | exact Nat.le_refl _ | simp)) | (with_reducible refine belI_alloc ?_) | (with_reducible refine Below.drew ?_) | (with_reducible refine belI_drewN ?_ _) | (with_reducible refine belI_step ?_ (by assumption))))⟩
abbrev uC (u : U) : Array Value := #[.string ⟨u.sch.toArray⟩, .string ⟨u.usr.toArray⟩, .string ⟨u.hst.toArray⟩, .int .i64 u.prt, .string ⟨u.pth.toArray⟩, .string ⟨u.qry.toArray⟩, .string ⟨u.frg.toArray⟩, .bool u.hq, .bool u.hf]
set_option maxRecDepth 100000 in
set_option maxHeartbeats 2000000 in
theorem sourceI_any (v : V) (w : World) (hT : Tab w) (hM : MaxL w) (hl : v.src.length ≤ 65536) (hl2 : v.doc.length ≤ 65536) : Calls Tryd.prog 22 #[vV v] w fun e w' => e = .returned (.string ⟨(srcV v).toArray⟩) ∧ Below w.heap.size w w' := by
  have HT := Lib.hid hT
  have HM := Lib.hid hM
  have HP1 := Lib.hid (fun W hT hM => pI_any v.src W hT hM (by omega))
  have HP2 := Lib.hid (fun W hT hM => pI_any v.doc W hT hM (by omega))
  have HSO := Lib.hid (fun W hT => iSameU_any (PU v.src) (PU v.doc) W hT (by have := PU_size v.src; omega) (by have := PU_size v.doc; omega))
  have HST := Lib.hid (fun W hT hM => iST_any v.src W hT hM (by omega))
  have HSI := Lib.hid (fun W hT hM => siteI_any v.src W hT hM hl)
  have hva := vAt_new2 w v 48
  have HVA := Lib.hid hva
  have HZ0 := Lib.hid (show w.heap.size < (w.alloc (.cells (vC v) 48)).heap.size by simp)
  have HB0 := Lib.hid ((Below.refl w.heap.size w).alloc (Nat.le_refl _) (.cells (vC v) 48))
  unfold srcV
  generalize PU v.src = u1 at *
  generalize PU v.doc = u2 at *
  generalize PC v.src = c1 at *
  generalize PC v.doc = c2 at *
  generalize Ul.ST v.src = t1 at *
  generalize siteT v.src = t2 at *
  generalize sameO u1 u2 = so at *
  clear hT hM hl hl2 hva
  obtain ⟨d, rf, b, s, di, sm, l, c, re⟩ := v
  obtain ⟨a0, a1, a2, a3, a4, a5, a6, a7, a8⟩ := u1
  obtain ⟨b0, b1, b2, b3, b4, b5, b6, b7, b8⟩ := u2
  simp only [vC] at HVA HZ0 HB0
  simp only [uV] at HP1 HP2 HSO
  go_enter Tryd.func22, Tryd.ntmps22
  go_wp2_with fail
  refine (HP1.out _ (HT.out.below HB0.out) (HM.out.below HB0.out)).mono ?_
  rintro e w1 ⟨rfl, hb⟩
  have HV1 := Lib.hid ((HVA.out.below hb HZ0.out).alloc (.cells (uC ⟨a0, a1, a2, a3, a4, a5, a6, a7, a8⟩) 67) (Nat.lt_of_lt_of_le HZ0.out hb.size))
  have HU1 := Lib.hid (UAt.new w1 ⟨a0, a1, a2, a3, a4, a5, a6, a7, a8⟩)
  have HB1 := Lib.hid (belI_alloc (o := .cells (uC ⟨a0, a1, a2, a3, a4, a5, a6, a7, a8⟩) 67) (belI_step HB0.out hb))
  have HZ1 := Lib.hid (Nat.lt_of_lt_of_le HZ0.out hb.size)
  obtain ⟨k0, -, -, k3, -, -, -, -, -, -⟩ := HV1.out
  simp only [uC] at k0 k3 HV1 HB1
  clear hb
  go_wp2_with fail
  refine (HP2.out _ (HT.out.below HB1.out) (HM.out.below HB1.out)).mono ?_
  rintro e w2 ⟨rfl, hb⟩
  have hw2 : w1.heap.size < w2.heap.size := by have := hb.size; simp at this; omega
  have HV2 := Lib.hid ((HV1.out.below hb (by have := HZ1.out; simp; omega)).alloc (.cells (uC ⟨b0, b1, b2, b3, b4, b5, b6, b7, b8⟩) 67) (Nat.lt_trans HZ1.out hw2))
  have HU1' := Lib.hid ((HU1.out.below hb (by simp)).alloc (.cells (uC ⟨b0, b1, b2, b3, b4, b5, b6, b7, b8⟩) 67) hw2)
  have HU2 := Lib.hid (UAt.new w2 ⟨b0, b1, b2, b3, b4, b5, b6, b7, b8⟩)
  have HB2 := Lib.hid (belI_alloc (o := .cells (uC ⟨b0, b1, b2, b3, b4, b5, b6, b7, b8⟩) 67) (belI_step HB1.out hb))
  have HZ2 := Lib.hid (show w.heap.size < (w2.alloc (.cells (uC ⟨b0, b1, b2, b3, b4, b5, b6, b7, b8⟩) 67)).heap.size by have := HZ1.out; simp; omega)
  obtain ⟨p0, p1, p2, p3, p4, p5, p6, p7, p8, -⟩ := HU1'.out
  obtain ⟨q0, q1, q2, q3, q4, q5, q6, q7, q8, -⟩ := HU2.out
  simp only [uC] at p0 p1 p2 p3 p4 p5 p6 p7 p8 HV2 HB2 HZ2
  clear hb hw2 k0 k3
  cases so with
  | true =>
    go_wp2_with fail
    refine (HSO.out _ (HT.out.below HB2.out)).mono ?_
    rintro e w3 ⟨rfl, hb⟩
    obtain ⟨-, -, -, k3, -, -, -, -, -, -⟩ := HV2.out.below hb HZ2.out
    have HB3 := Lib.hid (belI_step HB2.out hb)
    clear hb p0 p1 p2 p3 p4 p5 p6 p7 p8 q0 q1 q2 q3 q4 q5 q6 q7 q8
    go_wp2_with fail
    refine (HST.out _ (HT.out.below HB3.out) (HM.out.below HB3.out)).mono ?_
    rintro e w4 ⟨rfl, hb⟩
    have HB4 := Lib.hid (belI_step HB3.out hb)
    go_wp2
    go_ret
    exact ⟨rfl, HB4.out⟩
  | false =>
    go_wp2_with fail
    refine (HSO.out _ (HT.out.below HB2.out)).mono ?_
    rintro e w3 ⟨rfl, hb⟩
    obtain ⟨-, -, -, k3, -, -, -, -, -, -⟩ := HV2.out.below hb HZ2.out
    have HB3 := Lib.hid (belI_step HB2.out hb)
    clear hb p0 p1 p2 p3 p4 p5 p6 p7 p8 q0 q1 q2 q3 q4 q5 q6 q7 q8
    go_wp2_with fail
    refine (HSI.out _ (HT.out.below HB3.out) (HM.out.below HB3.out)).mono ?_
    rintro e w4 ⟨rfl, hb⟩
    have HB4 := Lib.hid (belI_step HB3.out hb)
    go_wp2
    go_ret
    exact ⟨rfl, HB4.out⟩
end Go.Proofs.YtniflfgnelfpbaaDoor.Vi
