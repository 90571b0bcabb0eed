
/-
  The walks of SameOrigin, of the program and of the model.
-/
import Derived.Test.YtniflfgnelfpbaaDoorUrlLawB
namespace Go.Proofs.YtniflfgnelfpbaaDoor.Ul
open Go.RowKit
theorem same_parts (s us h pa q f s2 us2 h2 pa2 q2 f2 : List UInt8) (p p2 : Int) (hq hf hq2 hf2 : Bool) (w : World) :
    Calls Tryd.prog 44 #[.agg #[.string ⟨s.toArray⟩, .string ⟨us.toArray⟩, .string ⟨h.toArray⟩, .int .i64 p, .string ⟨pa.toArray⟩, .string ⟨q.toArray⟩, .string ⟨f.toArray⟩, .bool hq, .bool hf], .agg #[.string ⟨s2.toArray⟩, .string ⟨us2.toArray⟩, .string ⟨h2.toArray⟩, .int .i64 p2, .string ⟨pa2.toArray⟩, .string ⟨q2.toArray⟩, .string ⟨f2.toArray⟩, .bool hq2, .bool hf2]] w fun e w' => e = .returned (.bool (webB s && (s == s2) && (h == h2) && (p == p2))) ∧ Below w.heap.size w w' := by
  go_enter Tryd.func44, Tryd.ntmps44
  go_wp2_with (go_at_call 60; refine (web_any _ _).mono ?_; rintro e w' ⟨rfl, rfl⟩)
  all_goals
    go_ret
    exact ⟨ret_bool (by simp_all), (by repeat (first | exact Below.refl _ _ | refine belI_alloc ?_ | refine Below.drew ?_ | refine belI_step ?_ (by assumption)))⟩
theorem iSame_any (s us h pa q f s2 us2 h2 pa2 q2 f2 : List UInt8) (p p2 : Int) (hq hf hq2 hf2 : Bool) (w : World) (hT : Tab w) (hl : s.length + us.length + h.length + pa.length + q.length + f.length ≤ 4611686018427387904) (hl2 : s2.length + us2.length + h2.length + pa2.length + q2.length + f2.length ≤ 4611686018427387904) :
    Calls Tryd.prog 47 #[.agg #[.string ⟨s.toArray⟩, .string ⟨us.toArray⟩, .string ⟨h.toArray⟩, .int .i64 p, .string ⟨pa.toArray⟩, .string ⟨q.toArray⟩, .string ⟨f.toArray⟩, .bool hq, .bool hf], .agg #[.string ⟨s2.toArray⟩, .string ⟨us2.toArray⟩, .string ⟨h2.toArray⟩, .int .i64 p2, .string ⟨pa2.toArray⟩, .string ⟨q2.toArray⟩, .string ⟨f2.toArray⟩, .bool hq2, .bool hf2]] w fun e w' => e = .returned (.bool (okB ⟨s, us, h, p, pa, q, f, hq, hf⟩ && okB ⟨s2, us2, h2, p2, pa2, q2, f2, hq2, hf2⟩ && (webB s && (s == s2) && (h == h2) && (p == p2)))) ∧ Below w.heap.size w w' := by
  have HA := Lib.hid (fun W hT => UrlOK_any s us h pa q f p hq hf W hT hl)
  have HB := Lib.hid (fun W hT => UrlOK_any s2 us2 h2 pa2 q2 f2 p2 hq2 hf2 W hT hl2)
  have HT := Lib.hid hT
  clear hT
  generalize okB ⟨s, us, h, p, pa, q, f, hq, hf⟩ = oa at *
  generalize okB ⟨s2, us2, h2, p2, pa2, q2, f2, hq2, hf2⟩ = ob at *
  go_enter Tryd.func47, Tryd.ntmps47
  go_wp2_with fail
  refine (HA.out _ (HT.out.below (by repeat (first | exact Below.refl _ _ | refine belI_alloc ?_ | refine Below.drew ?_ | refine belI_step ?_ (by assumption))))).mono ?_
  rintro e w1 ⟨rfl, hb⟩
  have hc := bcellI hb
  have hz : w.heap.size + 1 < w1.heap.size := (by have := hb.size; (try simp at this); omega)
  have hy : w.heap.size < w1.heap.size := by omega
  cases oa
  · go_wp2_with fail
    go_ret
    exact ⟨rfl, (by repeat (first | exact Below.refl _ _ | refine belI_alloc ?_ | refine Below.drew ?_ | refine belI_step ?_ (by assumption)))⟩
  go_wp2_with fail
  refine (HB.out _ (HT.out.below (by repeat (first | exact Below.refl _ _ | refine belI_alloc ?_ | refine Below.drew ?_ | refine belI_step ?_ (by assumption))))).mono ?_
  rintro e w2 ⟨rfl, hb2⟩
  have hc2 := bcellI hb2
  have hz2 : w.heap.size + 1 < w2.heap.size := (by have := hb2.size; omega)
  have hy2 : w.heap.size < w2.heap.size := by omega
  cases ob
  · go_wp2_with fail
    go_ret
    exact ⟨rfl, (by repeat (first | exact Below.refl _ _ | refine belI_alloc ?_ | refine Below.drew ?_ | refine belI_step ?_ (by assumption)))⟩
  go_wp2_with (go_at_call 77; refine (isWeb_any _ _).mono ?_; rintro e w' ⟨rfl, rfl⟩)
  all_goals
    go_ret
    exact ⟨ret_bool (by simp_all), (by repeat (first | exact Below.refl _ _ | refine belI_alloc ?_ | refine Below.drew ?_ | refine belI_step ?_ (by assumption)))⟩
end Go.Proofs.YtniflfgnelfpbaaDoor.Ul
