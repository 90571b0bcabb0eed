
/-
  The program's ReadJson, walked, with what its answer owns.
-/
import Derived.Test.YtjakkmjipglkiaaDoorRdV
import Derived.Test.YtjakkmjipglkiaaDoorJoF
namespace Go.Proofs.YtjakkmjipglkiaaDoor.Rd
open Go.RowKit
open Go.Proofs.YtjakkmjipglkiaaDoor.Rm
open Go.Proofs.YtjakkmjipglkiaaDoor.Js (J VIn OJ FitJ jV NewJO set5 heap_set5 szJ)
abbrev z5J : Array Value := #[.int .i64 0, .int .i64 0, .string ⟨#[]⟩, .slice none 0 0, .slice none 0 0]
/-- an answer of a value that owns its memory, and a code -/
def JsP (W : World) (c : Int) (j : J) (e : Ending) (w' : World) : Prop := ∃ nv iv S, e = .returned (.tuple #[jV j nv iv, .int .i64 c]) ∧ OJ w' W.heap.size S j nv iv ∧ FitJ j ∧ Below W.heap.size W w'
theorem o1_nil0 (w : World) (base : Nat) : Js.O1 w base (.slice none 0 0) [] := World.ownsRow_nil w _ _ _
theorem jsP_zero {W w' : World} {c : Int} (hb : Below W.heap.size W w') : JsP W c default (.returned (.tuple #[.agg #[.int .i64 0, .int .i64 0, .string ⟨#[]⟩, .slice none 0 0, .slice none 0 0], .int .i64 c])) w' := by
  refine ⟨.slice none 0 0, .slice none 0 0, fun _ => False, rfl, ?_, ⟨by decide, by decide, by decide⟩, hb⟩
  exact .mk (fun _ _ => False) (fun _ => undef) (fun _ => undef) (o1_nil0 _ _) (by simp) (by simp) (.inl ⟨rfl, rfl⟩) (fun b hb => by simp [Value.ownBlock] at hb) (fun i hi => by simp at hi) (fun i hi => by simp at hi) (fun b => by simp [Value.ownBlock]) (fun i hi => by simp at hi) (fun i j hi => by simp at hi)
theorem ret_JC0 {fn : Func} {a s B : Nat} {tmps : Array Value} {X : World} {c0 c1 c2 c3 c4 c : Value} {T : TypeId} (hres : fn.results = #[.cell a 25, .tmp s]) (ha : tmps[a]?.getD undef = .pointer (some ⟨B, 0, none⟩)) (hs : tmps[s]?.getD undef = c) (h : X.heap[B]? = some (.cells #[c0, c1, c2, c3, c4] T (0, 0))) :
    (results fn tmps).run Tryd.prog X = .ok (.tuple #[.agg #[c0, c1, c2, c3, c4], c]) X := by
  obtain ⟨k0, k1, k2, k3, k4, _⟩ := Js.five_cells h
  simp [results, hres, ha, hs, go_sem, k0, k1, k2, k3, k4]
theorem readP_long {t : B} (h : 65536 < t.length) : readP t = (2, default) := by unfold readP; rw [if_pos h]
theorem readP_bad {t : B} (h : ¬ 65536 < t.length) (h0 : (valR 4 t).1 ≠ 0) : readP t = ((valR 4 t).1, default) := by unfold readP readR; rw [if_neg h, if_neg h0]
theorem readP_more {t : B} (h : ¬ 65536 < t.length) (h0 : (valR 4 t).1 = 0) (h1 : trim (valR 4 t).2.2 ≠ []) : readP t = (3, default) := by unfold readP readR; rw [if_neg h, if_pos h0, if_neg h1]
theorem readP_yes {t : B} (h : ¬ 65536 < t.length) (h0 : (valR 4 t).1 = 0) (h1 : trim (valR 4 t).2.2 = []) : readP t = (0, (valR 4 t).2.1) := by unfold readP readR; rw [if_neg h, if_pos h0, if_pos h1]
set_option maxRecDepth 100000 in
set_option maxHeartbeats 4000000 in
theorem readI_any (t : B) (W : World) (hs : SynV W) : Calls Tryd.prog 5 #[.string ⟨t.toArray⟩] W (JsP W (readP t).1 (readP t).2) := by
  have hgW := hs.lt
  have HB1 := Lib.hid ((Below.refl W.heap.size W).alloc (Nat.le_refl _) (.cells z5J 25))
  have HK1 := Lib.hid (Hd.new W (.cells z5J 25))
  by_cases hl : 65536 < t.length
  · rw [readP_long hl]
    clear hs
    go_enter Tryd.func5, Tryd.ntmps5
    go_wp2
    exact bodyPost_ret (ret_JC0 Tryd.results5 rfl rfl HK1.out) rfl (jsP_zero HB1.out)
  have e1 : (W.alloc (.cells z5J 25)).heap.size = W.heap.size + 1 := by simp
  have HK2 := Lib.hid (HK1.out.al (rdO t))
  have hR2 : Hd ((W.alloc (.cells z5J 25)).alloc (rdO t)) (W.heap.size + 1) (rdO t) := by
    have := Hd.new (W.alloc (.cells z5J 25)) (rdO t)
    rw [e1] at this
    exact this
  have HR2 := Lib.hid hR2
  have hs2 : SynV ((W.alloc (.cells z5J 25)).alloc (rdO t)) := hs.below (((Below.refl _ _).alloc (Nat.le_refl _) _).alloc (by simp) _)
  have HV := Lib.hid (show Calls Tryd.prog 10 #[ptI (W.heap.size + 1), .int .i64 0] _ (ValP (W.heap.size + 1) _ (valR 4 t)) from valI_go (W.heap.size + 1) (by omega) 4 (Nat.le_refl _) t _ hR2 (by omega) hs2)
  have HBB := Lib.hid (fun (w : World) (hc : Ch (· = W.heap.size + 1) ((W.alloc (.cells z5J 25)).alloc (rdO t)) w) => show Below W.heap.size W w from hc.below (HB1.out.alloc (by simp) (rdO t)) (by simp; omega) (fun b hb => by omega))
  have HBAD := Lib.hid (fun h0 => readP_bad (t := t) hl h0)
  have HMORE := Lib.hid (fun h0 h1 => readP_more (t := t) hl h0 h1)
  have HYES := Lib.hid (fun h0 h1 => readP_yes (t := t) hl h0 h1)
  have HSZ := Lib.hid (fun h0 => show szJ (valR 4 t).2.1 ≤ 1048576 from by have := valR_sz 4 t h0; omega)
  clear hs hR2 hs2
  generalize valR 4 t = vr at *
  generalize readP t = res at *
  go_enter Tryd.func5, Tryd.ntmps5
  go_wp2_with fail
  refine HV.out.mono ?_
  rintro e w3 ⟨v, r, rfl, hv, hvf, h3, c3⟩
  have k3 := c3.hd HK2.out (by omega)
  have HK3 := Lib.hid k3
  have hA3 := k3.lt
  obtain ⟨m0, m1, m2, m3, m4, mf⟩ := Js.five_cells k3
  by_cases h0 : vr.1 = 0
  · obtain ⟨rfl, hvi⟩ := hv h0
    have HSK := Lib.hid (skipI_any (W.heap.size + 1) vr.2.2 w3 h3)
    have HC3 := Lib.hid c3
    have HVV := Lib.hid hvi
    rw [h0]
    clear h3 c3 hv hvi k3 m0 m1 m2 m3 m4 mf
    go_wp2_with fail
    refine HSK.out.mono ?_
    rintro e w4 ⟨rfl, h4, c4⟩
    have HC4 := Lib.hid (HC3.out.trans c4)
    have k4 := c4.hd HK3.out (by omega)
    have HK4 := Lib.hid k4
    have hA4 := k4.lt
    obtain ⟨m0, m1, m2, m3, m4, mf⟩ := Js.five_cells k4
    obtain ⟨d0, -⟩ := h4.one
    have hR4 := h4.lt
    have HV4 := Lib.hid (show VIn (· < w4.heap.size) w4 v vr.2.1 from HVV.out.same fun b hb => ⟨Nat.lt_of_lt_of_le hb.2 c4.size, c4.block b hb.2 (by have := hb.1; simp at this; omega)⟩)
    clear c4 k4
    cases hts : trim vr.2.2 with
    | cons x us =>
      have HE := Lib.hid (HMORE.out h0 (by rw [hts]; simp))
      rw [hts] at d0
      clear hts h4
      go_wp2
      exact bodyPost_ret (ret_JC0 Tryd.results5 rfl rfl (heap_set5 HK4.out _ _ _ _ _)) rfl (by rw [HE.out]; exact jsP_zero (Js.set5_below (HBB.out _ HC4.out) _ _ _ _ _ _))
    | nil =>
      have HE := Lib.hid (HYES.out h0 hts)
      rw [hts] at d0
      have HOF := Lib.hid (Js.ofO_go w4.heap.size w4 vr.2.1 v HV4.out (HSZ.out h0) w4 (Below.refl _ _) (Nat.le_refl _))
      clear hts h4
      go_wp2_with fail
      refine HOF.out.mono ?_
      rintro e w5 ⟨nv, iv, S, rfl, hj, hf, hb⟩
      obtain ⟨⟨an, ln, cn, rfl⟩, ⟨ai, li, ci, rfl⟩⟩ := hj.slices
      have k5 := HK4.out.blw hb
      have HK5 := Lib.hid k5
      have hA5 := k5.lt
      have HF := Lib.hid (show ∀ a b c d e, JsP W res.1 res.2 (.returned (.tuple #[jV vr.2.1 (.slice an ln cn) (.slice ai li ci), .int .i64 0])) (set5 w5 W.heap.size 0 a b c d e) from fun a b c d e => by
        rw [HE.out]
        have hz4 : W.heap.size + 1 + 1 ≤ w4.heap.size := by have := HC4.out.size; simp at this; omega
        exact ⟨_, _, S, rfl, (hj.base (by omega)).same fun b hS => Js.set5_far _ _ _ _ _ _ _ _ _ (by have := hj.lt b hS; omega), hf, Js.set5_below ((HBB.out _ HC4.out).trans (hb.mono (by omega))) _ _ _ _ _ _⟩)
      clear m0 m1 m2 m3 m4 mf hj hf hb
      obtain ⟨m0, m1, m2, m3, m4, mf⟩ := Js.five_cells k5
      clear k5
      go_wp2
      exact bodyPost_ret (ret_JC0 Tryd.results5 rfl rfl (heap_set5 HK5.out _ _ _ _ _)) rfl (HF.out _ _ _ _ _)
  · have HE := Lib.hid (HBAD.out h0)
    have g0 : (vr.1 != 0) = true := by simpa using h0
    have HBL := Lib.hid (HBB.out _ c3)
    clear h0 hv h3 c3 k3
    generalize vr.1 = cc at *
    rcases hvf with rfl | ⟨T, x, rfl⟩
    all_goals
      go_wp2
      exact bodyPost_ret (ret_JC0 Tryd.results5 rfl rfl (heap_set5 HK3.out _ _ _ _ _)) rfl (by rw [HE.out]; exact jsP_zero (Js.set5_below HBL.out _ _ _ _ _ _))
end Go.Proofs.YtjakkmjipglkiaaDoor.Rd
