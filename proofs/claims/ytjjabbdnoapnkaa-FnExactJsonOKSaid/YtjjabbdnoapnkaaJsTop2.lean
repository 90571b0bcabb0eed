
/-
  JsonOK and SameJson of the program, SameJson of the model, walked.
-/
import Derived.Test.YtjjabbdnoapnkaaJsTop
namespace Go.Proofs.Ytjjabbdnoapnkaa.Js
open Go.RowKit
set_option maxRecDepth 100000 in
set_option maxHeartbeats 4000000 in
theorem jsonOKI (B : Nat) (w0 : World) (j : J) (nv iv : Value) (h : JIn (· < B) w0 j nv iv) (hs : szJ j ≤ 1048576) (W : World) (hb : Below B w0 W) (hB : B ≤ W.heap.size) :
    Calls Try.prog 14 #[jV j nv iv] W fun e w' => e = .returned (.bool (okJ j 5)) ∧ Below W.heap.size W w' := by
  have HV := Lib.hid (valueOf_any B w0 j nv iv h hs)
  have HB := Lib.hid hb
  clear h hb
  obtain ⟨r, hr⟩ : ∃ r, okJ j 5 = r := ⟨_, rfl⟩
  rw [hr] at HV ⊢
  clear hr
  have hb1 : ∀ o : Array Value, Below W.heap.size W (W.alloc (.cells o 29)) := fun o => (Below.refl _ _).alloc (Nat.le_refl _) _
  have HB1 := Lib.hid hb1
  clear hb1
  go_enter Try.func14, Try.ntmps14
  go_wp2_with fail
  refine (HV.out _ (HB.out.trans ((HB1.out _).mono hB)) (by simp; omega)).mono ?_
  rintro e w2 ⟨v, rfl, _, hb2⟩
  have HB2 := Lib.hid ((HB1.out _).trans (hb2.mono (by simp)))
  clear hb2
  go_wp2
  go_ret
  exact ⟨rfl, HB2.out⟩
set_option maxRecDepth 100000 in
set_option maxHeartbeats 4000000 in
theorem sameI (B : Nat) (w0 : World) (j y : J) (nv iv nv' iv' : Value) (h1 : JIn (· < B) w0 j nv iv) (h2 : JIn (· < B) w0 y nv' iv') (hs : szJ j ≤ 1048576) (W : World) (hb : Below B w0 W) (hB : B ≤ W.heap.size) :
    Calls Try.prog 16 #[jV j nv iv, jV y nv' iv'] W fun e w' => e = .returned (.bool (sameV j y)) ∧ Below W.heap.size W w' := by
  have HO := Lib.hid (jsonOKI B w0 j nv iv h1 hs)
  have HE := Lib.hid (equalJ_go B w0 j y nv iv nv' iv' h1 h2)
  have HB := Lib.hid hb
  rw [sameV_first]
  clear h1 h2 hb
  obtain ⟨r, hr⟩ : ∃ r, okJ j 5 = r := ⟨_, rfl⟩
  obtain ⟨q, hq⟩ : ∃ q, sameJ j y = q := ⟨_, rfl⟩
  rw [hr] at HO ⊢
  rw [hq] at HE ⊢
  clear hr hq
  have hb1 : ∀ o p : Array Value, Below W.heap.size W ((W.alloc (.cells o 29)).alloc (.cells p 29)) := fun o p => ((Below.refl _ _).alloc (Nat.le_refl _) _).alloc (by simp) _
  have HB1 := Lib.hid hb1
  clear hb1
  cases r with
  | false =>
    go_enter Try.func16, Try.ntmps16
    go_wp2_with fail
    refine (HO.out _ (HB.out.trans ((HB1.out _ _).mono hB)) (by simp; omega)).mono ?_
    rintro e w2 ⟨rfl, hb2⟩
    have HB2 := Lib.hid ((HB1.out _ _).trans (hb2.mono (by simp; omega)))
    clear hb2
    go_wp2
    go_ret
    exact ⟨rfl, HB2.out⟩
  | true =>
    go_enter Try.func16, Try.ntmps16
    go_wp2_with fail
    refine (HO.out _ (HB.out.trans ((HB1.out _ _).mono hB)) (by simp; omega)).mono ?_
    rintro e w2 ⟨rfl, hb2⟩
    obtain ⟨m00, m01, m02, m03, m04, -⟩ := five_cells ((hb2.block _ (by simp; omega)).trans (alloc2_0 W _ _))
    obtain ⟨m10, m11, m12, m13, m14, -⟩ := five_cells ((hb2.block _ (by simp)).trans (alloc2_1 W _ _))
    have hz := hb2.size
    have HB2 := Lib.hid ((HB1.out _ _).trans (hb2.mono (by simp; omega)))
    clear hb2
    go_wp2_with fail
    refine (HE.out _ (HB.out.trans (HB2.out.mono hB)) (by simp at hz; omega)).mono ?_
    rintro e w3 ⟨rfl, hb3⟩
    have HB3 := Lib.hid (HB2.out.trans (hb3.mono HB2.out.size))
    clear hb3
    go_wp2
    go_ret
    exact ⟨rfl, HB3.out⟩
set_option maxRecDepth 100000 in
set_option maxHeartbeats 4000000 in
theorem sameS (B : Nat) (w0 : World) (j y : J) (nv iv nv' iv' : Value) (h1 : JIn (· < B) w0 j nv iv) (h2 : JIn (· < B) w0 y nv' iv') (W : World) (hb : Below B w0 W) (hB : B ≤ W.heap.size) :
    Calls Try.prog 15 #[jV j nv iv, jV y nv' iv'] W fun e w' => e = .returned (.bool (sameV j y)) ∧ Below W.heap.size W w' := by
  have HO := Lib.hid (fun W => okS_at j nv iv W B w0 h1)
  have HO2 := Lib.hid (fun W => okS_at y nv' iv' W B w0 h2)
  have HE := Lib.hid (l02S_go B w0 j y nv iv nv' iv' h1 h2)
  have HB := Lib.hid hb
  unfold sameV
  clear h1 h2 hb
  obtain ⟨r, hr⟩ : ∃ r, okJ j 5 = r := ⟨_, rfl⟩
  obtain ⟨r2, hr2⟩ : ∃ r, okJ y 5 = r := ⟨_, rfl⟩
  obtain ⟨q, hq⟩ : ∃ q, sameJ j y = q := ⟨_, rfl⟩
  rw [hr] at HO
  rw [hr2] at HO2
  rw [hq] at HE
  rw [hr, hr2, hq]
  clear hr hq hr2
  have hb1 : ∀ o p : Array Value, Below W.heap.size W ((W.alloc (.cells o 29)).alloc (.cells p 29)) := fun o p => ((Below.refl _ _).alloc (Nat.le_refl _) _).alloc (by simp) _
  have HB1 := Lib.hid hb1
  clear hb1
  cases r with
  | false =>
    go_enter Try.func15, Try.ntmps15
    go_wp2_with fail
    refine (HO.out _ (HB.out.trans ((HB1.out _ _).mono hB)) (by simp; omega)).mono ?_
    rintro e w2 ⟨rfl, hb2⟩
    have HB2 := Lib.hid ((HB1.out _ _).trans (hb2.mono (by simp; omega)))
    clear hb2
    go_wp2
    go_ret
    exact ⟨rfl, HB2.out⟩
  | true =>
    cases r2 with
    | false =>
      go_enter Try.func15, Try.ntmps15
      go_wp2_with fail
      refine (HO.out _ (HB.out.trans ((HB1.out _ _).mono hB)) (by simp; omega)).mono ?_
      rintro e w2 ⟨rfl, hb2⟩
      obtain ⟨m00, m01, m02, m03, m04, -⟩ := five_cells ((hb2.block _ (by simp; omega)).trans (alloc2_0 W _ _))
      obtain ⟨m10, m11, m12, m13, m14, -⟩ := five_cells ((hb2.block _ (by simp)).trans (alloc2_1 W _ _))
      have hz := hb2.size
      have HB2 := Lib.hid ((HB1.out _ _).trans (hb2.mono (by simp; omega)))
      clear hb2
      go_wp2_with fail
      refine (HO2.out _ (HB.out.trans (HB2.out.mono hB)) (by simp at hz; omega)).mono ?_
      rintro e w3 ⟨rfl, hb3⟩
      have HB3 := Lib.hid (HB2.out.trans (hb3.mono HB2.out.size))
      clear hb3
      go_wp2
      go_ret
      exact ⟨rfl, HB3.out⟩
    | true =>
      go_enter Try.func15, Try.ntmps15
      go_wp2_with fail
      refine (HO.out _ (HB.out.trans ((HB1.out _ _).mono hB)) (by simp; omega)).mono ?_
      rintro e w2 ⟨rfl, hb2⟩
      have k0 := (hb2.block _ (by simp; omega)).trans (alloc2_0 W _ _)
      have k1 := (hb2.block _ (by simp)).trans (alloc2_1 W _ _)
      obtain ⟨m00, m01, m02, m03, m04, -⟩ := five_cells k0
      obtain ⟨m10, m11, m12, m13, m14, -⟩ := five_cells k1
      have K0 := Lib.hid k0
      have K1 := Lib.hid k1
      have hz : W.heap.size + 2 ≤ w2.heap.size := by have := hb2.size; simp at this; omega
      have HB2 := Lib.hid ((HB1.out _ _).trans (hb2.mono (by simp; omega)))
      clear hb2 k0 k1
      go_wp2_with fail
      refine (HO2.out _ (HB.out.trans (HB2.out.mono hB)) (by omega)).mono ?_
      rintro e w3 ⟨rfl, hb3⟩
      clear m00 m01 m02 m03 m04 m10 m11 m12 m13 m14
      obtain ⟨m00, m01, m02, m03, m04, -⟩ := five_cells ((hb3.block _ (by omega)).trans K0.out)
      obtain ⟨m10, m11, m12, m13, m14, -⟩ := five_cells ((hb3.block _ (by omega)).trans K1.out)
      have HB3 := Lib.hid (HB2.out.trans (hb3.mono HB2.out.size))
      have hz3 := hb3.size
      clear hb3
      go_wp2_with fail
      refine (HE.out _ (HB.out.trans (HB3.out.mono hB)) (by omega)).mono ?_
      rintro e w4 ⟨rfl, hb4⟩
      have HB4 := Lib.hid (HB3.out.trans (hb4.mono HB3.out.size))
      clear hb4
      go_wp2
      go_ret
      exact ⟨rfl, HB4.out⟩
end Go.Proofs.Ytjjabbdnoapnkaa.Js
