
/-
  The walks of the program's functions of chapter 2 that read a URL, the end: splitUrl and ParseUrl.
-/
import Derived.Test.YtniflfgnelfpbaaDoorUrlImplI
namespace Go.Proofs.YtniflfgnelfpbaaDoor.Ul
open Go.RowKit
attribute [local go_sem] alloc_drewN setCell_drewN
def spU (s rest : List UInt8) : U := if webB s then (if slash2 rest then webU s (rest.drop 2) else U.none) else otherU s rest
def spB (s rest : List UInt8) : Bool := if webB s then slash2 rest && webSplitB (rest.drop 2) else true
theorem slash2_eq {l : List UInt8} (h : slash2 l = true) : l = 47 :: 47 :: l.drop 2 := by
  match l, h with
  | a :: b :: r, h =>
    simp [slash2] at h
    obtain ⟨rfl, rfl⟩ := h
    rfl
theorem split_sp (t : List UInt8) : splitB t = (hasB t 58 && spB (lowL (befL t 58)) (aftL t 58)) := by
  unfold splitB spB
  cases webB (lowL (befL t 58)) <;> simp
theorem split_spU (t : List UInt8) (h : spB (lowL (befL t 58)) (aftL t 58) = true) : splitU t = spU (lowL (befL t 58)) (aftL t 58) := by
  unfold splitU spU
  unfold spB at h
  cases hw : webB (lowL (befL t 58)) with
  | false => rfl
  | true =>
    rw [hw] at h
    simp only [if_true, Bool.and_eq_true] at h
    simp [h.1]
set_option maxRecDepth 100000 in
set_option maxHeartbeats 4000000 in
theorem splitUrl_any (s rest : List UInt8) (w : World) (hM : MaxL w) (hl : rest.length ≤ 4294967280) : Calls Tryd.prog 73 #[.string ⟨s.toArray⟩, .string ⟨rest.toArray⟩] w fun e w' => e = .returned (.tuple #[uV (spU s rest), .bool (spB s rest)]) ∧ Below w.heap.size w w' := by
  have HM := Lib.hid hM
  clear hM
  cases hw : webB s with
  | true =>
    have HW : Hid (∀ W, MaxL W → Calls Tryd.prog 96 #[.string ⟨s.toArray⟩, .string ⟨rest.toArray⟩] W fun e w' => e = .returned (.tuple #[uV (spU s rest), .bool (spB s rest)]) ∧ Below W.heap.size W w') := Lib.hid (by
      intro W hM
      cases hs : slash2 rest with
      | true =>
        have hlr : (rest.drop 2).length ≤ 4294967280 := by simp; omega
        have e1 : spU s rest = webU s (rest.drop 2) := by simp [spU, hw, hs]
        have e2 : spB s rest = webSplitB (rest.drop 2) := by simp [spB, hw, hs]
        rw [e1, e2]
        have e3 := slash2_eq hs
        generalize rest.drop 2 = r at *
        subst e3
        exact splitWeb_any s r W hM hw hlr
      | false =>
        have e1 : spU s rest = U.none := by simp [spU, hw, hs]
        have e2 : spB s rest = false := by simp [spB, hw, hs]
        rw [e1, e2]
        exact splitWeb_no s rest W hs)
    generalize spU s rest = u at *
    generalize spB s rest = b at *
    go_enter Tryd.func73, Tryd.ntmps73
    go_wp2_with (go_at_call 77; refine (isWeb_any _ _).mono ?_; rintro e w' ⟨rfl, rfl⟩)
    refine (HW.out _ (HM.out.below (by repeat (first | (with_reducible exact Below.refl _ _) | (with_reducible refine belI_set ?_ (by first | exact Nat.le_refl _ | simp)) | (with_reducible refine belI_alloc ?_) | (with_reducible refine Below.drew ?_) | (with_reducible refine belI_drewN ?_ _) | (with_reducible refine belI_step ?_ (by assumption)))))).mono ?_
    rintro e w1 ⟨rfl, hb⟩
    have Q := (UAt.new w U.none).below hb (by simp)
    have hz : w.heap.size < w1.heap.size := by have := hb.size; simp at this; omega
    have hbw : Below w.heap.size w w1 := belI_step (belI_alloc (Below.refl _ _)) hb
    clear hb
    obtain ⟨q0, q1, q2, q3, q4, q5, q6, q7, q8, qf⟩ := Q
    go_wp2
    refine bodyPost_ret (ret_url2 (u := u) (a := 4) (s := 5) (B := w.heap.size) (c := .bool b) Tryd.results73 rfl rfl ?_ ?_ ?_ ?_ ?_ ?_ ?_ ?_ ?_) rfl ⟨rfl, ?_⟩
    rotate_left 9
    · exact (by repeat (first | (with_reducible exact Below.refl _ _) | (with_reducible refine belI_set ?_ (by first | exact Nat.le_refl _ | simp)) | (with_reducible refine belI_alloc ?_) | (with_reducible refine Below.drew ?_) | (with_reducible refine belI_drewN ?_ _) | (with_reducible refine belI_step ?_ (by assumption))))
    all_goals (simp [go_sem, *]; done)
  | false =>
    have e1 : spU s rest = ⟨s, [], [], 0, beforeQ rest, [], [], false, false⟩ := by simp [spU, hw, otherU, U.none]
    have e2 : spB s rest = true := by simp [spB, hw]
    have hb1 := bef_len rest 35
    rw [e1, e2]
    clear e1 e2
    go_enter Tryd.func73, Tryd.ntmps73
    go_wp2_with (go_at_call 77; refine (isWeb_any _ _).mono ?_; rintro e w' ⟨rfl, rfl⟩)
    refine (cut_any rest 35 35 rfl _ (HM.out.below (by repeat (first | (with_reducible exact Below.refl _ _) | (with_reducible refine belI_set ?_ (by first | exact Nat.le_refl _ | simp)) | (with_reducible refine belI_alloc ?_) | (with_reducible refine Below.drew ?_) | (with_reducible refine belI_drewN ?_ _) | (with_reducible refine belI_step ?_ (by assumption))))) (by omega)).mono ?_
    rintro e w1 ⟨rfl, n1, rfl⟩
    go_wp2_with fail
    refine (cut_any (befL rest 35) 63 63 rfl _ (HM.out.below (by repeat (first | (with_reducible exact Below.refl _ _) | (with_reducible refine belI_set ?_ (by first | exact Nat.le_refl _ | simp)) | (with_reducible refine belI_alloc ?_) | (with_reducible refine Below.drew ?_) | (with_reducible refine belI_drewN ?_ _) | (with_reducible refine belI_step ?_ (by assumption))))) (by omega)).mono ?_
    rintro e w1 ⟨rfl, n2, rfl⟩
    go_wp2
    refine bodyPost_ret (v := .tuple #[uV ⟨s, [], [], 0, beforeQ rest, [], [], false, false⟩, .bool true]) (by simp [results, Tryd.results73, go_sem, beforeQ]) rfl ⟨rfl, ?_⟩
    exact (by repeat (first | (with_reducible exact Below.refl _ _) | (with_reducible refine belI_set ?_ (by first | exact Nat.le_refl _ | simp)) | (with_reducible refine belI_alloc ?_) | (with_reducible refine Below.drew ?_) | (with_reducible refine belI_drewN ?_ _) | (with_reducible refine belI_step ?_ (by assumption))))
end Go.Proofs.YtniflfgnelfpbaaDoor.Ul
