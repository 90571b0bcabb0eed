
/-
  The model's ReadJson, walked, with what its answer owns.
-/
import Derived.Test.YtjakkmjipglkiaaDoorRsJ
namespace Go.Proofs.YtjakkmjipglkiaaDoor.Rd
open Go.RowKit
open Go.Proofs.YtjakkmjipglkiaaDoor.Rm
open Go.Proofs.YtjakkmjipglkiaaDoor.Js (J OJ FitJ jV cellJ strV set5 set5_far set5_size heap_set5)
theorem Hd.drw {w : World} {b : Nat} {o : Obj} (h : Hd w b o) : Hd w.drew b o := h
theorem drew_hd {w : World} {A : Nat} {T : TypeId} {a0 b0 c0 d0 e0 : Value} (h : Hd w A (.cells #[a0, b0, c0, d0, e0] T)) (a b c d e : Value) : Hd (set5 w A 0 a b c d e).drew A (.cells #[a, b, c, d, e] T) := Hd.drw (w := set5 w A 0 a b c d e) (show Hd (set5 w A 0 a b c d e) A _ from heap_set5 h a b c d e)
set_option maxRecDepth 100000 in
set_option maxHeartbeats 8000000 in
theorem l02_any (t : B) (hl : t.length ≤ 65536) (W : World) : Calls Tryd.prog 9 #[.string ⟨t.toArray⟩] W (JsP W (readR t).1 (readR t).2) := by
  have HB1 := Lib.hid ((Below.refl W.heap.size W).alloc (Nat.le_refl _) (.cells z5J 25))
  have HK1 := Lib.hid (Hd.new W (.cells z5J 25))
  have e1 : (W.alloc (.cells z5J 25)).heap.size = W.heap.size + 1 := by simp
  have HK2 := Lib.hid (HK1.out.al (rsO t 0 0))
  have hR2 : Hd ((W.alloc (.cells z5J 25)).alloc (rsO t 0 0)) (W.heap.size + 1) (rsO t 0 0) := by
    have := Hd.new (W.alloc (.cells z5J 25)) (rsO t 0 0)
    rw [e1] at this
    exact this
  have HV := Lib.hid (show Calls Tryd.prog 19 #[ptr (W.heap.size + 1), .int .i64 5] _ (SvP (W.heap.size + 1) t _ (valR 4 t)) from valueS_any (W.heap.size + 1) t hl 4 (Nat.le_refl _) t 0 _ hR2 ⟨Nat.zero_le _, rfl⟩)
  have HBB := Lib.hid (fun (w : World) (hc : Ch (· = W.heap.size + 1) ((W.alloc (.cells z5J 25)).alloc (rsO t 0 0)) w) => show Below W.heap.size W w from hc.below (HB1.out.alloc (by simp) (rsO t 0 0)) (by simp; omega) (fun b hb => by omega))
  have HBAD := Lib.hid (show (valR 4 t).1 ≠ 0 → readR t = ((valR 4 t).1, default) from fun h0 => by unfold readR; rw [if_neg h0])
  have HMORE := Lib.hid (show (valR 4 t).1 = 0 → trim (valR 4 t).2.2 ≠ [] → readR t = (3, default) from fun h0 h1 => by unfold readR; rw [if_pos h0, if_neg h1])
  have HYES := Lib.hid (show (valR 4 t).1 = 0 → trim (valR 4 t).2.2 = [] → readR t = (0, (valR 4 t).2.1) from fun h0 h1 => by unfold readR; rw [if_pos h0, if_pos h1])
  clear hR2
  generalize valR 4 t = vr at *
  generalize readR t = res at *
  go_enter Tryd.func9, Tryd.ntmps9
  go_wp2_with fail
  refine HV.out.mono ?_
  rintro e w3 ⟨x, an, ln, cn, ai, li, ci, p3, us3, rfl, h3, a3, c3, hok⟩
  have hs3 := c3.size
  simp at hs3
  have HJ4 := Lib.hid (Hd.new w3 (.cells #[.int .i64 x.kind, .int .i64 x.num, .string ⟨x.text.toArray⟩, .slice an ln cn, .slice ai li ci] 25))
  have HC4 := Lib.hid (c3.alloc (.cells #[.int .i64 x.kind, .int .i64 x.num, .string ⟨x.text.toArray⟩, .slice an ln cn, .slice ai li ci] 25))
  have HB := Lib.hid (blanks_any (W.heap.size + 1) t us3 p3 vr.1 (w3.alloc (.cells #[.int .i64 x.kind, .int .i64 x.num, .string ⟨x.text.toArray⟩, .slice an ln cn, .slice ai li ci] 25)) (h3.al _) a3 hl)
  have HOK := Lib.hid hok
  clear h3 a3 c3 hok
  go_wp2_with fail
  refine HB.out.mono ?_
  rintro e w5 ⟨rfl, p5, h5, a5, k5⟩
  have HC5 := Lib.hid (HC4.out.trans k5)
  have hJ5 := k5.hd HJ4.out (by omega)
  have hA5 := HC5.out.hd HK2.out (by omega)
  have HJ5 := Lib.hid hJ5
  have HA5 := Lib.hid hA5
  have HR5 := Lib.hid h5
  have HP5 := Lib.hid a5
  have K5 := Lib.hid k5
  have hAl := hA5.lt
  have hJl := hJ5.lt
  have hRl := h5.lt
  obtain ⟨c0, c1, c2, cf⟩ := h5.three
  obtain ⟨d0, d1, d2, d3, d4, df⟩ := Js.five_cells hJ5
  obtain ⟨m0, m1, m2, m3, m4, mf⟩ := Js.five_cells hA5
  have hple := a5.le
  clear h5 a5 k5 hJ5 hA5
  by_cases h0 : vr.1 = 0
  · obtain ⟨rfl, rfl, hft, S, hoj⟩ := HOK.out h0
    rw [h0] at c2 HR5
    cases hts : trim vr.2.2 with
    | cons y ys =>
      have HE := Lib.hid (HMORE.out h0 (by rw [hts]; simp))
      rw [hts] at HP5
      have hlt5 := HP5.out.lt
      have hne : ((p5 : Int) != (t.length : Int)) = true := by simp; omega
      have HBL := Lib.hid (HBB.out _ (HC5.out.set (g := W.heap.size + 1) (o := 2) (x := .int .i64 3) rfl))
      clear hts hft hoj
      go_wp2
      go_region
      have HA6 := Lib.hid (Hd.far (g := W.heap.size + 1) (o := 2) (x := .int .i64 3) HA5.out (by omega))
      have HD := Lib.hid (drew_hd HA6.out (.int .i64 0) (.int .i64 0) (.string ⟨#[]⟩) (.slice none 0 0) (.slice none 0 0))
      have HP := Lib.hid (show JsP W res.1 res.2 (.returned (.tuple #[.agg #[.int .i64 0, .int .i64 0, .string ⟨#[]⟩, .slice none 0 0, .slice none 0 0], .int .i64 3])) (set5 (w5.setCell ⟨W.heap.size + 1, 2, none⟩ (.int .i64 3)) W.heap.size 0 (.int .i64 0) (.int .i64 0) (.string ⟨#[]⟩) (.slice none 0 0) (.slice none 0 0)).drew from by
        rw [HE.out]; exact jsP_zero (Js.set5_below HBL.out _ _ _ _ _ _).drew)
      all_goals
        go_wp2
        exact bodyPost_ret (ret_JC0 Tryd.results9 rfl rfl HD.out) rfl HP.out
    | nil =>
      have HE := Lib.hid (HYES.out h0 hts)
      rw [hts] at HP5
      have hpe := HP5.out.nil
      have hne : ((p5 : Int) != (t.length : Int)) = false := by simp; omega
      have HBL := Lib.hid (HBB.out _ HC5.out)
      have HF := Lib.hid (show ∀ a b c d e, JsP W res.1 res.2 (.returned (.tuple #[jV vr.2.1 (.slice an ln cn) (.slice ai li ci), .int .i64 0])) (set5 w5 W.heap.size 0 a b c d e) from fun a b c d e => by
        rw [HE.out]
        have hj := hoj.base (C := W.heap.size) (by simp; omega)
        refine ⟨_, _, S, rfl, hj.same fun b hS => ?_, hft, Js.set5_below HBL.out _ _ _ _ _ _⟩
        have h1 := hoj.lt b hS
        simp at h1
        have h2 : (w3.alloc (.cells #[.int .i64 vr.2.1.kind, .int .i64 vr.2.1.num, .string ⟨vr.2.1.text.toArray⟩, .slice an ln cn, .slice ai li ci] 25)).heap[b]? = w3.heap[b]? := heap_alloc_old _ _ h1.2
        rw [← h2]
        rw [← K5.out.block b (by simp; omega) (by omega)]
        exact Js.set5_far _ _ _ _ _ _ _ _ _ (by omega))
      clear hts hft hoj hpe
      go_wp2
      exact bodyPost_ret (ret_JC0 Tryd.results9 rfl rfl (heap_set5 HA5.out _ _ _ _ _)) rfl (HF.out _ _ _ _ _)
  · have HE := Lib.hid (HBAD.out h0)
    have g0 : (vr.1 == 0) = false := by simpa using h0
    have g1 : (vr.1 != 0) = true := by simpa using h0
    have HBL := Lib.hid (HBB.out _ HC5.out)
    clear h0
    generalize vr.1 = cc at *
    go_wp2
    go_region
    have HD := Lib.hid (drew_hd HA5.out (.int .i64 0) (.int .i64 0) (.string ⟨#[]⟩) (.slice none 0 0) (.slice none 0 0))
    have HP := Lib.hid (show JsP W res.1 res.2 (.returned (.tuple #[.agg #[.int .i64 0, .int .i64 0, .string ⟨#[]⟩, .slice none 0 0, .slice none 0 0], .int .i64 cc])) (set5 w5 W.heap.size 0 (.int .i64 0) (.int .i64 0) (.string ⟨#[]⟩) (.slice none 0 0) (.slice none 0 0)).drew from by
      rw [HE.out]; exact jsP_zero (Js.set5_below HBL.out _ _ _ _ _ _).drew)
    all_goals
      go_wp2
      exact bodyPost_ret (ret_JC0 Tryd.results9 rfl rfl HD.out) rfl HP.out
end Go.Proofs.YtjakkmjipglkiaaDoor.Rd
