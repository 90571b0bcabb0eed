
/-
  The walks of the program's functions of chapter 2 that split a text.
-/
import Derived.Test.YtniflfgnelfpbaaDoorUrlImplG
import Derived.Test.YtniflfgnelfpbaaDoorUrlImplE
import Derived.Test.YtniflfgnelfpbaaDoorUrlAt
import Derived.Deep.DeepCutAuto
namespace Go.Proofs.YtniflfgnelfpbaaDoor.Ul
open Go.RowKit
attribute [local go_sem] bappI
@[local go_sem] theorem alloc_drewN (w : World) (n : Nat) (o : Obj) : (w.drewN n).alloc o = (w.alloc o).drewN n := rfl
@[local go_sem] theorem setCell_drewN (w : World) (n : Nat) (a : Addr) (v : Value) : (w.drewN n).setCell a v = (w.setCell a v).drewN n := by
  simp only [World.setCell, World.drewN]
theorem belI_set {w Y : World} {p : Addr} {v : Value} (h : Below w.heap.size w Y) (hp : w.heap.size ≤ p.block) : Below w.heap.size w (Y.setCell p v) := h.setCell hp v
theorem cut2_yes (r : List UInt8) (w : World) : Calls Tryd.prog 105 #[.string ⟨(47 :: 47 :: r).toArray⟩, .string ⟨#[47, 47]⟩] w fun e w' => e = .returned (.tuple #[.string ⟨r.toArray⟩, .bool true]) ∧ w = w' := by
  refine (Tryd.strings_CutPrefix ⟨(47 :: 47 :: r).toArray⟩ ⟨#[47, 47]⟩ w).mono ?_
  rintro e w' ⟨rfl, rfl⟩
  refine ⟨?_, rfl⟩
  simp [Lib.trimPrefix, Lib.hasPrefix]
theorem cut2_no (l : List UInt8) (w : World) (h : slash2 l = false) : Calls Tryd.prog 105 #[.string ⟨l.toArray⟩, .string ⟨#[47, 47]⟩] w fun e w' => e = .returned (.tuple #[.string ⟨l.toArray⟩, .bool false]) ∧ w = w' := by
  refine (Tryd.strings_CutPrefix ⟨l.toArray⟩ ⟨#[47, 47]⟩ w).mono ?_
  rintro e w' ⟨rfl, rfl⟩
  refine ⟨?_, rfl⟩
  have e : Lib.hasPrefix l [47, 47] = false := by
    match l, h with
    | [], _ => rfl
    | [a], _ => simp [Lib.hasPrefix, List.isPrefixOf]
    | a :: b :: l, h =>
      simp [slash2] at h
      simp [Lib.hasPrefix, List.isPrefixOf]
      intro h1 h2
      exact h h1.symm h2.symm
  simp only [Lib.trimPrefix, e]
  rfl
theorem siteI_len (r : List UInt8) : (siteOf r).length ≤ r.length := by
  have a := bef_len r 35
  have b := bef_len (befL r 35) 63
  have c := bef_len (beforeQ r) 47
  have d := aft_len (befL (beforeQ r) 47) 64
  unfold siteOf behindUser
  unfold beforeQ at *
  split <;> omega
set_option maxRecDepth 100000 in
set_option maxHeartbeats 4000000 in
theorem splitWeb_any (s r : List UInt8) (w : World) (hM : MaxL w) (hw : webB s = true) (hl : r.length ≤ 4294967280) : Calls Tryd.prog 96 #[.string ⟨s.toArray⟩, .string ⟨(47 :: 47 :: r).toArray⟩] w fun e w' => e = .returned (.tuple #[uV (webU s r), .bool (webSplitB r)]) ∧ Below w.heap.size w w' := by
  have HM := Lib.hid hM
  clear hM
  have hr1 := bef_len r 35
  have hr2 := bef_len (befL r 35) 63
  have ha := aft_len (beforeQ r) 47
  have HC : Hid (∀ W, Calls Tryd.prog 105 #[.string ⟨(47 :: 47 :: r).toArray⟩, .string ⟨#[47, 47]⟩] W fun e w' => e = .returned (.tuple #[.string ⟨r.toArray⟩, .bool true]) ∧ W = w') := Lib.hid fun W => cut2_yes r W
  go_enter Tryd.func96, Tryd.ntmps96
  go_wp2_with (go_at_call 105; refine (HC.out _).mono ?_; rintro e w' ⟨rfl, rfl⟩)
  refine (cut_any r 35 35 rfl _ (HM.out.below (by repeat (first | (with_reducible exact Below.refl _ _) | (with_reducible refine belI_set ?_ (by first | exact Nat.le_refl _ | simp)) | (with_reducible refine belI_alloc ?_) | (with_reducible refine Below.drew ?_) | (with_reducible refine belI_drewN ?_ _) | (with_reducible refine belI_step ?_ (by assumption))))) (by omega)).mono ?_
  rintro e w1 ⟨rfl, n1, rfl⟩
  go_wp2_with fail
  refine (cut_any (befL r 35) 63 63 rfl _ (HM.out.below (by repeat (first | (with_reducible exact Below.refl _ _) | (with_reducible refine belI_set ?_ (by first | exact Nat.le_refl _ | simp)) | (with_reducible refine belI_alloc ?_) | (with_reducible refine Below.drew ?_) | (with_reducible refine belI_drewN ?_ _) | (with_reducible refine belI_step ?_ (by assumption))))) (by omega)).mono ?_
  rintro e w1 ⟨rfl, n2, rfl⟩
  go_wp2_with fail
  have hq3 : (beforeQ r).length ≤ (befL r 35).length := bef_len _ 63
  have b47 : ¬ 9223372036854775807 < 1 + (aftL (beforeQ r) 47).length := by omega
  refine (cut_any (beforeQ r) 47 47 rfl _ (HM.out.below (by repeat (first | (with_reducible exact Below.refl _ _) | (with_reducible refine belI_set ?_ (by first | exact Nat.le_refl _ | simp)) | (with_reducible refine belI_alloc ?_) | (with_reducible refine Below.drew ?_) | (with_reducible refine belI_drewN ?_ _) | (with_reducible refine belI_step ?_ (by assumption))))) (by omega)).mono ?_
  rintro e w1 ⟨rfl, n3, rfl⟩
  have hr4 := bef_len (beforeQ r) 47
  have hr5 := siteI_len r
  have hr6 := bef_len (siteOf r) 58
  have hr7 := aft_len (siteOf r) 58
  go_wp2_with fail
  refine (cut_any (befL (beforeQ r) 47) 64 64 rfl _ (HM.out.below (by repeat (first | (with_reducible exact Below.refl _ _) | (with_reducible refine belI_set ?_ (by first | exact Nat.le_refl _ | simp)) | (with_reducible refine belI_alloc ?_) | (with_reducible refine Below.drew ?_) | (with_reducible refine belI_drewN ?_ _) | (with_reducible refine belI_step ?_ (by assumption))))) (by omega)).mono ?_
  rintro e w1 ⟨rfl, n4, rfl⟩
  go_upto_if 57 with fail
  go_cut [1, 12] (fun s1 _ wx => s1 = .string ⟨(siteOf r).toArray⟩ ∧ wx = ((w.alloc (.cells #[.string ⟨#[]⟩, .string ⟨#[]⟩, .string ⟨#[]⟩, .int .i64 0, .string ⟨#[]⟩, .string ⟨#[]⟩, .string ⟨#[]⟩, .bool false, .bool false] 67)).alloc (.cells #[.string ⟨s.toArray⟩, .string ⟨(userOf (befL (beforeQ r) 47)).toArray⟩, .string ⟨#[]⟩, .int .i64 0, .string ⟨(47 :: aftL (beforeQ r) 47).toArray⟩, .string ⟨(aftL (befL r 35) 63).toArray⟩, .string ⟨(aftL r 35).toArray⟩, .bool (hasB (befL r 35) 63), .bool (hasB r 35)] 67)).drewN (n1 + n2 + n3 + n4))
  case first =>
    cases hh : hasB (befL (beforeQ r) 47) 64
    · have HH := Lib.hid hh
      have hd := hh
      clear hh
      go_wp2_with fail
      go_meet
      exact ⟨by simp [siteOf, behindUser, HH.out], by simp [userOf, HH.out]⟩
    · have HH := Lib.hid hh
      have hd := hh
      clear hh
      go_wp2_with fail
      go_meet
      exact ⟨by simp [siteOf, behindUser, HH.out], by simp [userOf, HH.out]⟩
  case rest =>
    obtain ⟨rfl, rfl⟩ := hcut
    go_wp2_with fail
    refine (cut_any (siteOf r) 58 58 rfl _ (HM.out.below (by repeat (first | (with_reducible exact Below.refl _ _) | (with_reducible refine belI_set ?_ (by first | exact Nat.le_refl _ | simp)) | (with_reducible refine belI_alloc ?_) | (with_reducible refine Below.drew ?_) | (with_reducible refine belI_drewN ?_ _) | (with_reducible refine belI_step ?_ (by assumption))))) (by omega)).mono ?_
    rintro e w1 ⟨rfl, n5, rfl⟩
    go_wp2_with fail
    refine (lowerI_any (befL (siteOf r) 58) _ (by omega)).mono ?_
    rintro e w2 ⟨rfl, hb2⟩
    have V0 := (UAt.new (w.alloc (.cells #[.string ⟨#[]⟩, .string ⟨#[]⟩, .string ⟨#[]⟩, .int .i64 0, .string ⟨#[]⟩, .string ⟨#[]⟩, .string ⟨#[]⟩, .bool false, .bool false] 67)) ⟨s, userOf (befL (beforeQ r) 47), [], 0, 47 :: aftL (beforeQ r) 47, aftL (befL r 35) 63, aftL r 35, hasB (befL r 35) 63, hasB r 35⟩).drewN (n1 + n2 + n3 + n4 + n5)
    rw [show (w.alloc (.cells #[.string ⟨#[]⟩, .string ⟨#[]⟩, .string ⟨#[]⟩, .int .i64 0, .string ⟨#[]⟩, .string ⟨#[]⟩, .string ⟨#[]⟩, .bool false, .bool false] 67)).heap.size = w.heap.size + 1 from by simp] at V0
    have V := V0.below hb2 (by simp)
    have Q0 := ((UAt.new w U.none).alloc (.cells #[.string ⟨s.toArray⟩, .string ⟨(userOf (befL (beforeQ r) 47)).toArray⟩, .string ⟨#[]⟩, .int .i64 0, .string ⟨(47 :: aftL (beforeQ r) 47).toArray⟩, .string ⟨(aftL (befL r 35) 63).toArray⟩, .string ⟨(aftL r 35).toArray⟩, .bool (hasB (befL r 35) 63), .bool (hasB r 35)] 67) (by simp)).drewN (n1 + n2 + n3 + n4 + n5)
    have Q := Q0.below hb2 (by simp; omega)
    have hbw : Below w.heap.size w w2 := belI_step (belI_drewN (belI_alloc (belI_alloc (Below.refl _ _))) _) hb2
    have hz2 : w.heap.size + 1 < w2.heap.size := by have := hb2.size; simp at this; omega
    clear V0 Q0 hb2
    have V2 := V.host (lowL (befL (siteOf r) 58))
    have Q2 := Q.far ⟨w.heap.size + 1, 2, none⟩ (.string ⟨(lowL (befL (siteOf r) 58)).toArray⟩) (by show w.heap.size + 1 ≠ w.heap.size; omega)
    have hb3 := hbw.setCell (p := ⟨w.heap.size + 1, 2, none⟩) (by show w.heap.size ≤ w.heap.size + 1; omega) (.string ⟨(lowL (befL (siteOf r) 58)).toArray⟩)
    have v2 := V.k2
    have vf := V.kf
    cases hp : hasB (siteOf r) 58
    · have EW : webU s r = ⟨s, userOf (befL (beforeQ r) 47), lowL (befL (siteOf r) 58), 0, 47 :: aftL (beforeQ r) 47, aftL (befL r 35) 63, aftL r 35, hasB (befL r 35) 63, hasB r 35⟩ := by simp [webU, hp]
      have HS : Hid (webSplitB r = true) := Lib.hid (by simp [webSplitB, hp])
      rw [← EW] at V2
      clear EW
      go_upto_region 14 with fail
      generalize w2.setCell ⟨w.heap.size + 1, 2, none⟩ (.string ⟨(lowL (befL (siteOf r) 58)).toArray⟩) = X at *
      clear V Q v2 vf hbw
      generalize hu : webU s r = u at *
      have HU := Lib.hid hu
      clear hu
      obtain ⟨x0, x1, x2, x3, x4, x5, x6, x7, x8, xf⟩ := V2
      obtain ⟨q0, q1, q2, q3, q4, q5, q6, q7, q8, qf⟩ := Q2
      go_wp2
      refine bodyPost_ret (ret_url2 (u := u) (a := 4) (s := 5) (B := w.heap.size) (c := .bool true) Tryd.results96 rfl rfl ?_ ?_ ?_ ?_ ?_ ?_ ?_ ?_ ?_) rfl ⟨by rw [HU.out, HS.out], ?_⟩
      rotate_left 9
      · exact (by repeat (first | (with_reducible exact Below.refl _ _) | (with_reducible refine belI_set ?_ (by first | exact Nat.le_refl _ | simp)) | (with_reducible refine belI_alloc ?_) | (with_reducible refine Below.drew ?_) | (with_reducible refine belI_drewN ?_ _) | (with_reducible refine belI_step ?_ (by assumption))))
      all_goals (simp [go_sem, *]; done)
    · have EW : webU s r = ⟨s, userOf (befL (beforeQ r) 47), lowL (befL (siteOf r) 58), portV s (aftL (siteOf r) 58), 47 :: aftL (beforeQ r) 47, aftL (befL r 35) 63, aftL r 35, hasB (befL r 35) 63, hasB r 35⟩ := by simp [webU, hp]
      have HS : Hid (webSplitB r = portOKB (aftL (siteOf r) 58)) := Lib.hid (by simp [webSplitB, hp])
      go_wp2_with fail
      refine (readPort_any s (aftL (siteOf r) 58) _ hw (by omega)).mono ?_
      rintro e w3 ⟨rfl, hb4⟩
      have V3 := V2.below hb4 (by simp; omega)
      have Q3 := Q2.below hb4 (by simp; omega)
      have hb5 := belI_step hb3 hb4
      have hz3 : w.heap.size + 1 < w3.heap.size := by have := hb4.size; simp at this; omega
      have v3 := V3.k3
      have vf3 := V3.kf
      have V4 := V3.port (portV s (aftL (siteOf r) 58))
      have Q4 := Q3.far ⟨w.heap.size + 1, 3, none⟩ (.int .i64 (portV s (aftL (siteOf r) 58))) (by show w.heap.size + 1 ≠ w.heap.size; omega)
      have hb6 := hb5.setCell (p := ⟨w.heap.size + 1, 3, none⟩) (by show w.heap.size ≤ w.heap.size + 1; omega) (.int .i64 (portV s (aftL (siteOf r) 58)))
      rw [show (⟨s, userOf (befL (beforeQ r) 47), lowL (befL (siteOf r) 58), portV s (aftL (siteOf r) 58), 47 :: aftL (beforeQ r) 47, aftL (befL r 35) 63, aftL r 35, hasB (befL r 35) 63, hasB r 35⟩ : U) = webU s r from EW.symm] at V4
      clear EW V Q V2 Q2 v2 vf hbw hb3 hb4 hb5 hz2 V3 Q3
      go_upto_region 16 with fail
      generalize w3.setCell ⟨w.heap.size + 1, 3, none⟩ (.int .i64 (portV s (aftL (siteOf r) 58))) = X at *
      clear v3 vf3
      generalize hu : webU s r = u at *
      have HU := Lib.hid hu
      clear hu
      obtain ⟨x0, x1, x2, x3, x4, x5, x6, x7, x8, xf⟩ := V4
      obtain ⟨q0, q1, q2, q3, q4, q5, q6, q7, q8, qf⟩ := Q4
      go_wp2
      refine bodyPost_ret (ret_url2 (u := u) (a := 4) (s := 5) (B := w.heap.size) (c := .bool (portOKB (aftL (siteOf r) 58))) Tryd.results96 rfl rfl ?_ ?_ ?_ ?_ ?_ ?_ ?_ ?_ ?_) rfl ⟨by rw [HU.out, HS.out], ?_⟩
      rotate_left 9
      · exact (by repeat (first | (with_reducible exact Below.refl _ _) | (with_reducible refine belI_set ?_ (by first | exact Nat.le_refl _ | simp)) | (with_reducible refine belI_alloc ?_) | (with_reducible refine Below.drew ?_) | (with_reducible refine belI_drewN ?_ _) | (with_reducible refine belI_step ?_ (by assumption))))
      all_goals (simp [go_sem, *]; done)
theorem splitWeb_no (s rest : List UInt8) (w : World) (h : slash2 rest = false) : Calls Tryd.prog 96 #[.string ⟨s.toArray⟩, .string ⟨rest.toArray⟩] w fun e w' => e = .returned (.tuple #[uV U.none, .bool false]) ∧ Below w.heap.size w w' := by
  have HC := Lib.hid (fun W => cut2_no rest W h)
  go_enter Tryd.func96, Tryd.ntmps96
  go_wp2_with (go_at_call 105; refine (HC.out _).mono ?_; rintro e w' ⟨rfl, rfl⟩)
  exact bodyPost_ret (v := .tuple #[uV U.none, .bool false]) (by simp [results, Tryd.results96, go_sem, U.none]) rfl ⟨rfl, (by repeat (first | (with_reducible exact Below.refl _ _) | (with_reducible refine belI_set ?_ (by first | exact Nat.le_refl _ | simp)) | (with_reducible refine belI_alloc ?_) | (with_reducible refine Below.drew ?_) | (with_reducible refine belI_drewN ?_ _) | (with_reducible refine belI_step ?_ (by assumption))))⟩
end Go.Proofs.YtniflfgnelfpbaaDoor.Ul
