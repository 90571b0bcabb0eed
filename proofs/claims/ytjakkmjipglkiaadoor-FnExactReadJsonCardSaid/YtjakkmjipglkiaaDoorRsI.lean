
/-
  The model's list and value, walked.
-/
import Derived.Test.YtjakkmjipglkiaaDoorRsH
import Derived.Test.YtjakkmjipglkiaaDoorRdW
namespace Go.Proofs.YtjakkmjipglkiaaDoor.Rd
open Go.RowKit
open Go.Proofs.YtjakkmjipglkiaaDoor.Rm
open Go.Proofs.YtjakkmjipglkiaaDoor.Js (J OJ FitJ jV cellJ strV set5 set5_far set5_size heap_set5)
def lb5 (rd : Option (B → Int × J × B)) (us : B) : Int × (List B × List J) × B := match rd with | none => (12, ([], []), []) | some rd => bodyR rd false 93 us
def lb6 (rd : Option (B → Int × J × B)) (us : B) : Int × (List B × List J) × B := match rd with | none => (12, ([], []), []) | some rd => bodyR rd true 125 us
set_option maxRecDepth 100000 in
set_option maxHeartbeats 1000000 in
theorem listS_deep (R Jb : Nat) (t : B) (kd : Int) (W0 : World) (hR : R < W0.heap.size) (hJ : W0.heap.size ≤ Jb) (cl : Int) (p : Nat) (us : B) (w : World) (h : JS R Jb t kd W0 0 [] [] p us w) :
    Calls Tryd.prog 33 #[ptr R, ptr Jb, .int .u8 cl, .int .i64 1] w (IsP R Jb t kd W0 (12, ([], []), [])) := by
  have HF := Lib.hid (fail_any R t p 0 12 w h.rd)
  have H := Lib.hid h
  clear h
  go_enter Tryd.func33, Tryd.ntmps33
  go_wp2_with fail
  refine HF.out.mono ?_
  rintro e w1 ⟨rfl, h1, k1⟩
  have HE := Lib.hid (show IsP R Jb t kd W0 (12, ([], []), []) (.returned (.tuple #[])) w1 from ⟨rfl, (fun h => by cases h), H.out.je.step hR hJ k1 h1 H.out.at_⟩)
  clear h1 k1
  go_wp2
  exact bodyPost_ret (results_none Tryd.results33 _ _ _) rfl HE.out
set_option maxRecDepth 100000 in
set_option maxHeartbeats 1000000 in
theorem listS_go (R Jb : Nat) (t : B) (kd : Int) (W0 : World) (cl D : Int) (hD : 2 ≤ D) (w : World) (res : Int × (List B × List J) × B)
    (hi : Calls Tryd.prog 52 #[ptr R, ptr Jb, .int .u8 cl, .int .i64 D] w (IsP R Jb t kd W0 res)) :
    Calls Tryd.prog 33 #[ptr R, ptr Jb, .int .u8 cl, .int .i64 D] w (IsP R Jb t kd W0 res) := by
  have HI := Lib.hid hi
  have g1 : (D == 1) = false := by rw [beq_eq_false_iff_ne]; omega
  clear hi
  go_enter Tryd.func33, Tryd.ntmps33
  go_wp2_with fail
  refine HI.out.mono ?_
  rintro e w1 ⟨rfl, h1, h2⟩
  have HE := Lib.hid (show IsP R Jb t kd W0 res (.returned (.tuple #[])) w1 from ⟨rfl, h1, h2⟩)
  clear h1 h2
  go_wp2
  go_end0
  exact HE.out
theorem numR_bad {c : UInt8} {rs : B} (h : ¬ (48 ≤ c.toNat ∧ c.toNat ≤ 57)) (h2 : c ≠ 45) : (numR (c :: rs)).1 = 3 := by
  have e1 : behindN (c :: rs) = c :: rs := by
    unfold behindN Lib.trimPrefix
    rw [if_neg (by simp [Lib.hasPrefix]; exact fun h => h2 h.symm), digs_no h]
  have e2 : numT (c :: rs) = [] := by unfold numT; rw [e1]; simp
  unfold numR
  rw [e2, if_neg (by decide)]
theorem pre_ne {c y : UInt8} {rs q : B} (h : y ≠ c) : Lib.hasPrefix (c :: rs) (y :: q) = false := by
  simp [Lib.hasPrefix, List.isPrefixOf, h]
theorem valS_nil (rd : Option (B → Int × J × B)) : (valS rd []).1 = 3 := by
  unfold valS; rfl
theorem valS_n (rd : Option (B → Int × J × B)) (rs : B) : valS rd (110 :: rs) = if Lib.hasPrefix (110 :: rs) nullT then (0, .mk 1 0 [] [] [], (110 :: rs).drop 4) else ((numR (110 :: rs)).1, .mk 3 (numR (110 :: rs)).2.1 [] [] [], (numR (110 :: rs)).2.2) := by
  rw [valS_eq, show Lib.hasPrefix (110 :: rs) falseT = false from pre_ne (by decide), show Lib.hasPrefix (110 :: rs) trueT = false from pre_ne (by decide), show Lib.hasPrefix (110 :: rs) [34] = false from pre_ne (by decide), show Lib.hasPrefix (110 :: rs) [91] = false from pre_ne (by decide), show Lib.hasPrefix (110 :: rs) [123] = false from pre_ne (by decide)]
  rfl
theorem valS_f (rd : Option (B → Int × J × B)) (rs : B) : valS rd (102 :: rs) = if Lib.hasPrefix (102 :: rs) falseT then (0, .mk 2 0 [] [] [], (102 :: rs).drop 5) else ((numR (102 :: rs)).1, .mk 3 (numR (102 :: rs)).2.1 [] [] [], (numR (102 :: rs)).2.2) := by
  rw [valS_eq, show Lib.hasPrefix (102 :: rs) nullT = false from pre_ne (by decide), show Lib.hasPrefix (102 :: rs) trueT = false from pre_ne (by decide), show Lib.hasPrefix (102 :: rs) [34] = false from pre_ne (by decide), show Lib.hasPrefix (102 :: rs) [91] = false from pre_ne (by decide), show Lib.hasPrefix (102 :: rs) [123] = false from pre_ne (by decide)]
  rfl
theorem valS_t (rd : Option (B → Int × J × B)) (rs : B) : valS rd (116 :: rs) = if Lib.hasPrefix (116 :: rs) trueT then (0, .mk 2 1 [] [] [], (116 :: rs).drop 4) else ((numR (116 :: rs)).1, .mk 3 (numR (116 :: rs)).2.1 [] [] [], (numR (116 :: rs)).2.2) := by
  rw [valS_eq, show Lib.hasPrefix (116 :: rs) nullT = false from pre_ne (by decide), show Lib.hasPrefix (116 :: rs) falseT = false from pre_ne (by decide), show Lib.hasPrefix (116 :: rs) [34] = false from pre_ne (by decide), show Lib.hasPrefix (116 :: rs) [91] = false from pre_ne (by decide), show Lib.hasPrefix (116 :: rs) [123] = false from pre_ne (by decide)]
  rfl
theorem valS_q (rd : Option (B → Int × J × B)) (rs : B) : valS rd (34 :: rs) = ((strR rs []).1, .mk 4 0 (strR rs []).2.1 [] [], (strR rs []).2.2) := by
  rw [valS_eq, show Lib.hasPrefix (34 :: rs) nullT = false from pre_ne (by decide), show Lib.hasPrefix (34 :: rs) falseT = false from pre_ne (by decide), show Lib.hasPrefix (34 :: rs) trueT = false from pre_ne (by decide), show Lib.hasPrefix (34 :: rs) [34] = true by simp [Lib.hasPrefix]]
  rfl
theorem valS_l (rd : Option (B → Int × J × B)) (rs : B) : valS rd (91 :: rs) = lstR rd rs := by
  rw [valS_eq, show Lib.hasPrefix (91 :: rs) nullT = false from pre_ne (by decide), show Lib.hasPrefix (91 :: rs) falseT = false from pre_ne (by decide), show Lib.hasPrefix (91 :: rs) trueT = false from pre_ne (by decide), show Lib.hasPrefix (91 :: rs) [34] = false from pre_ne (by decide), show Lib.hasPrefix (91 :: rs) [91] = true by simp [Lib.hasPrefix]]
  rfl
theorem valS_o (rd : Option (B → Int × J × B)) (rs : B) : valS rd (123 :: rs) = objR rd rs := by
  rw [valS_eq, show Lib.hasPrefix (123 :: rs) nullT = false from pre_ne (by decide), show Lib.hasPrefix (123 :: rs) falseT = false from pre_ne (by decide), show Lib.hasPrefix (123 :: rs) trueT = false from pre_ne (by decide), show Lib.hasPrefix (123 :: rs) [34] = false from pre_ne (by decide), show Lib.hasPrefix (123 :: rs) [91] = false from pre_ne (by decide), show Lib.hasPrefix (123 :: rs) [123] = true by simp [Lib.hasPrefix]]
  rfl
theorem valS_num (rd : Option (B → Int × J × B)) (c : UInt8) (rs : B) (h1 : c ≠ 110) (h2 : c ≠ 116) (h3 : c ≠ 102) (h4 : c ≠ 34) (h5 : c ≠ 91) (h6 : c ≠ 123) : valS rd (c :: rs) = ((numR (c :: rs)).1, .mk 3 (numR (c :: rs)).2.1 [] [] [], (numR (c :: rs)).2.2) := by
  rw [valS_eq, show Lib.hasPrefix (c :: rs) nullT = false from pre_ne (Ne.symm h1), show Lib.hasPrefix (c :: rs) falseT = false from pre_ne (Ne.symm h3), show Lib.hasPrefix (c :: rs) trueT = false from pre_ne (Ne.symm h2), show Lib.hasPrefix (c :: rs) [34] = false from pre_ne (Ne.symm h4), show Lib.hasPrefix (c :: rs) [91] = false from pre_ne (Ne.symm h5), show Lib.hasPrefix (c :: rs) [123] = false from pre_ne (Ne.symm h6)]
  rfl
/-- the answer: what the value's block holds, in the answer's block -/
theorem sv_fin {R : Nat} {t : B} {W0 w : World} {c : Int} {res : Int × J × B} {x : J} {an ai : Option Addr} {ln cn li ci p : Nat} {us : B} (hr : Hd w R (rsO t p res.1)) (hR : R < W0.heap.size) (ha : At t p us) (hc : Ch (· = R) (W0.alloc (.cells z5J 25)) w)
    (hok : res.1 = 0 → x = res.2.1 ∧ us = res.2.2 ∧ FitJ x ∧ ∃ S, OJ w (W0.heap.size + 1) S x (.slice an ln cn) (.slice ai li ci)) (_h : c = res.1) (a0 a1 a2 a3 a4 : Value) :
    SvP R t W0 res (.returned (jV x (.slice an ln cn) (.slice ai li ci))) (set5 w W0.heap.size 0 a0 a1 a2 a3 a4) := by
  have hsz := hc.size
  simp at hsz
  refine ⟨x, an, ln, cn, ai, li, ci, p, us, rfl, set5_hd hr (by omega) _ _ _ _ _, ha, ?_, fun h0 => ?_⟩
  · have h1 := ((Ch.refl (· = R) W0).alloc (.cells z5J 25)).trans hc
    exact ((((h1.newer (Nat.le_refl _)).newer (Nat.le_refl _)).newer (Nat.le_refl _)).newer (Nat.le_refl _)).newer (Nat.le_refl _)
  · obtain ⟨e1, e2, e3, S, e4⟩ := hok h0
    exact ⟨e1, e2, e3, S, (e4.base (Nat.le_succ _)).same fun b hS => set5_far _ _ _ _ _ _ _ _ _ (by have := (e4.lt b hS).1; omega)⟩
theorem JS.oj {R Jb : Nat} {t : B} {kd c : Int} {W0 w : World} {ns : List B} {xs : List J} {p : Nat} {us : B} (h : JS R Jb t kd W0 c ns xs p us w) (hnl : ns.length ≤ 9223372036854775807) {a b d nv iv : Value} (hb : Hd w Jb (.cells #[a, b, d, nv, iv] 25)) (k n : Int) (tx : B) : ∃ S, OJ w W0.heap.size S (.mk k n tx ns xs) nv iv := by
  obtain ⟨nv', iv', vals, vn, vi, Sc, h1, h2, h3, h4, _⟩ := h.ob
  have e : nv' = nv ∧ iv' = iv := by
    unfold Hd at h1 hb
    rw [h1] at hb
    simp only [Option.some.injEq, Obj.cells.injEq] at hb
    have := hb.1
    simp at this
    exact ⟨this.2.2.2.1, this.2.2.2.2⟩
  obtain ⟨rfl, rfl⟩ := e
  exact es_oj k n tx h2 h.short hnl h3 h4 (fun b hb => .inl hb) (fun b hb => .inr (.inl hb))
end Go.Proofs.YtjakkmjipglkiaaDoor.Rd
