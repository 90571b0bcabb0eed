
/-
  The model's ReadJson, walked: the whole.
-/
import Derived.Test.YtjakkmjipglkiaaDoorRsK
namespace Go.Proofs.YtjakkmjipglkiaaDoor.Rd
open Go.RowKit
open Go.Proofs.YtjakkmjipglkiaaDoor.Rm
open Go.Proofs.YtjakkmjipglkiaaDoor.Js (J OJ FitJ jV cellJ strV set5 set5_far set5_size heap_set5)
set_option maxRecDepth 100000 in
set_option maxHeartbeats 8000000 in
theorem readS_any (t : B) (W : World) : Calls Tryd.prog 4 #[.string ⟨t.toArray⟩] W (JsP W (readP t).1 (readP t).2) := by
  have HB1 := Lib.hid ((Below.refl W.heap.size W).alloc (Nat.le_refl _) (.cells z5J 25))
  have HK1 := Lib.hid (Hd.new W (.cells z5J 25))
  by_cases hl : 65536 < t.length
  · rw [readP_long hl]
    go_enter Tryd.func4, Tryd.ntmps4
    go_wp2
    exact bodyPost_ret (ret_JC0 Tryd.results4 rfl rfl HK1.out) rfl (jsP_zero HB1.out)
  rw [show readP t = readR t from if_neg hl]
  have e1 : (W.alloc (.cells z5J 25)).heap.size = W.heap.size + 1 := by simp
  have HV := Lib.hid (l02_any t (by omega) (W.alloc (.cells z5J 25)))
  generalize readR t = res at *
  go_enter Tryd.func4, Tryd.ntmps4
  go_wp2_with fail
  refine HV.out.mono ?_
  rintro e w3 ⟨nv, iv, S, rfl, hj, hf, hb⟩
  have k3 := HK1.out.blw hb
  have HK3 := Lib.hid k3
  have hA3 := k3.lt
  obtain ⟨m0, m1, m2, m3, m4, mf⟩ := Js.five_cells k3
  obtain ⟨⟨an, ln, cn, rfl⟩, ⟨ai, li, ci, rfl⟩⟩ := hj.slices
  have HF := Lib.hid (show ∀ a b c d e, JsP W res.1 res.2 (.returned (.tuple #[jV res.2 (.slice an ln cn) (.slice ai li ci), .int .i64 res.1])) (set5 w3 W.heap.size 0 a b c d e) from fun a b c d e =>
    ⟨_, _, S, rfl, (hj.base (by simp)).same fun b hS => Js.set5_far _ _ _ _ _ _ _ _ _ (by have := hj.lt b hS; simp at this; omega), hf, Js.set5_below (HB1.out.trans (hb.mono (by simp))) _ _ _ _ _ _⟩)
  clear hj hf hb k3
  go_wp2
  exact bodyPost_ret (ret_JC0 Tryd.results4 rfl rfl (heap_set5 HK3.out _ _ _ _ _)) rfl (HF.out _ _ _ _ _)
end Go.Proofs.YtjakkmjipglkiaaDoor.Rd
