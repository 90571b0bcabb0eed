
/-
  The walks of the model's functions of chapter 2 that read a URL, the end: no strokes; all of l01Parse; ParseUrl.
-/
import Derived.Test.YtniflfgnelfpbaaDoorUrlSpecH
namespace Go.Proofs.YtniflfgnelfpbaaDoor.Ul
open Go.RowKit
attribute [local go_sem] ext_bef ext_aft ext_tail ext_two ext_past2
set_option maxRecDepth 100000 in
set_option maxHeartbeats 2000000 in
theorem parseS_short (t r : List UInt8) (w : World) (hl : t.length ≤ 140737488351232) (h : hasB t 58 = true) (hw : webB (lowL (befL t 58)) = true) (hrest : aftL t 58 = r) (hs : r.length < 2) : Calls Tryd.prog 43 #[.string ⟨t.toArray⟩] w fun e w' => e = .returned (.tuple #[uV U.none, .bool false]) ∧ Below w.heap.size w w' := by
  have hk := findB_le t 58
  obtain ⟨d0, d1⟩ := has_yes h
  have hl1 := bef_len t 58
  have HLOW := Lib.hid (fun W => lowerS_any (befL t 58) W (by omega))
  clear h
  generalize lowL (befL t 58) = s at *
  go_enter Tryd.func43, Tryd.ntmps43
  go_wp2_with (first
    | (go_at_call 66; refine (find_any _ _ _ (by omega)).mono ?_; rintro e w' ⟨rfl, rfl⟩)
    | (go_at_call 67; refine (HLOW.out _).mono ?_; rintro e w1 ⟨rfl, hb⟩; obtain ⟨q0, q1, q2, q3, q4, q5, q6, q7, q8, qf⟩ := cells9 (bcell hb); have hz : w.heap.size < w1.heap.size := (by have := hb.size; (try simp at this); omega))
    | (go_at_call 60; refine (web_any _ _).mono ?_; rintro e w' ⟨rfl, rfl⟩))
  refine bodyPost_ret (ret_url2 (u := U.none) (a := 2) (s := 3) (B := w.heap.size) (c := .bool false) Tryd.results43 rfl rfl ?_ ?_ ?_ ?_ ?_ ?_ ?_ ?_ ?_) rfl ⟨rfl, ?_⟩
  rotate_left 9
  · exact (by repeat (first | (with_reducible exact Below.refl _ _) | (with_reducible refine bel_set ?_ (Nat.le_refl _)) | (with_reducible refine bel_alloc ?_) | (with_reducible refine Below.drew ?_) | (with_reducible refine bel_step ?_ (by assumption))))
  all_goals (simp [go_sem, U.none, *]; done)
set_option maxRecDepth 100000 in
set_option maxHeartbeats 2000000 in
theorem parseS_other2 (t r : List UInt8) (a b : UInt8) (w : World) (hl : t.length ≤ 140737488351232) (h : hasB t 58 = true) (hw : webB (lowL (befL t 58)) = true) (hrest : aftL t 58 = a :: b :: r) (hs : (a == 47 && b == 47) = false) : Calls Tryd.prog 43 #[.string ⟨t.toArray⟩] w fun e w' => e = .returned (.tuple #[uV U.none, .bool false]) ∧ Below w.heap.size w w' := by
  have hk := findB_le t 58
  obtain ⟨d0, d1⟩ := has_yes h
  have hl1 := bef_len t 58
  have HLOW := Lib.hid (fun W => lowerS_any (befL t 58) W (by omega))
  clear h
  generalize lowL (befL t 58) = s at *
  have hl2 : r.length + 2 ≤ t.length := by have := aft_len t 58; rw [hrest] at this; simpa using this
  have hab : (a == 47) = false ∨ ((a == 47) = true ∧ (b == 47) = false) := by
    cases ha : (a == 47) with
    | false => exact .inl rfl
    | true => rw [ha] at hs; exact .inr ⟨rfl, by simpa using hs⟩
  clear hs
  rcases hab with ha | ⟨ha, hb2⟩
  all_goals
    go_enter Tryd.func43, Tryd.ntmps43
    go_wp2_with (first
      | (go_at_call 66; refine (find_any _ _ _ (by omega)).mono ?_; rintro e w' ⟨rfl, rfl⟩)
      | (go_at_call 67; refine (HLOW.out _).mono ?_; rintro e w1 ⟨rfl, hb⟩; obtain ⟨q0, q1, q2, q3, q4, q5, q6, q7, q8, qf⟩ := cells9 (bcell hb); have hz : w.heap.size < w1.heap.size := (by have := hb.size; (try simp at this); omega))
      | (go_at_call 60; refine (web_any _ _).mono ?_; rintro e w' ⟨rfl, rfl⟩))
    refine bodyPost_ret (ret_url2 (u := U.none) (a := 2) (s := 3) (B := w.heap.size) (c := .bool false) Tryd.results43 rfl rfl ?_ ?_ ?_ ?_ ?_ ?_ ?_ ?_ ?_) rfl ⟨rfl, ?_⟩
    rotate_left 9
    · exact (by repeat (first | (with_reducible exact Below.refl _ _) | (with_reducible refine bel_set ?_ (Nat.le_refl _)) | (with_reducible refine bel_alloc ?_) | (with_reducible refine Below.drew ?_) | (with_reducible refine bel_step ?_ (by assumption))))
    all_goals (simp [go_sem, U.none, *]; done)
theorem parseS_any (t : List UInt8) (w : World) (hl : t.length ≤ 140737488351232) : Calls Tryd.prog 43 #[.string ⟨t.toArray⟩] w fun e w' => e = .returned (.tuple #[uV (parseX t), .bool (parseB t)]) ∧ Below w.heap.size w w' := by
  unfold parseX parseB
  cases h : hasB t 58 with
  | false =>
    have e : splitB t = false := by simp [splitB, h]
    rw [e]
    exact parseS_none t w hl h
  | true =>
    cases hw : webB (lowL (befL t 58)) with
    | false =>
      have e : splitB t = true := by simp [splitB, h, hw]
      have e2 : splitU t = otherU (lowL (befL t 58)) (aftL t 58) := by simp [splitU, hw]
      rw [e, e2]
      exact parseS_other t w hl h hw
    | true =>
      have e2 : splitU t = webU (lowL (befL t 58)) ((aftL t 58).drop 2) := by simp [splitU, hw]
      have e3 : splitB t = (slash2 (aftL t 58) && webSplitB ((aftL t 58).drop 2)) := by simp [splitB, h, hw]
      rw [e2, e3]
      match hr : aftL t 58 with
      | [] => exact parseS_short t [] w hl h hw hr (by simp)
      | [a] => exact parseS_short t [a] w hl h hw hr (by simp)
      | a :: b :: r =>
        cases hab : (a == 47 && b == 47) with
        | false =>
          have e : slash2 (a :: b :: r) = false := hab
          rw [e]
          exact parseS_other2 t r a b w hl h hw hr hab
        | true =>
          have e : slash2 (a :: b :: r) = true := hab
          rw [e]
          simp only [Bool.and_eq_true, beq_iff_eq] at hab
          obtain ⟨rfl, rfl⟩ := hab
          have := parseS_web t r w hl h hw hr
          simpa [wX, wB] using this
end Go.Proofs.YtniflfgnelfpbaaDoor.Ul
