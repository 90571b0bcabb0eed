/-
  The walks of the laws on URLs that take a value: the size, the copy, and the law on UrlOK.
-/
import Derived.Test.YtieclljkfdghaaaDoorUrlImplE
import Derived.Test.YtieclljkfdghaaaDoorUrlSpecD
namespace Go.Proofs.YtieclljkfdghaaaDoor.Ul
open Go.RowKit
theorem sz_in (s us h pa q f : List UInt8) (p : Int) (hq hf : Bool) (w : World) (hl : s.length + us.length + h.length + pa.length + q.length + f.length ≤ 1048576) :
    Calls Tryd.prog 35 #[.agg #[.string ⟨s.toArray⟩, .string ⟨us.toArray⟩, .string ⟨h.toArray⟩, .int .i64 p, .string ⟨pa.toArray⟩, .string ⟨q.toArray⟩, .string ⟨f.toArray⟩, .bool hq, .bool hf], .int .i64 1048576] w fun e w' => e = .returned (.int .i64 ((1048576 - (s.length + us.length + h.length + pa.length + q.length + f.length) : Nat) : Int)) ∧ Below w.heap.size w w' := by
  go_enter Tryd.func35, Tryd.ntmps35
  go_wp2
  go_ret
  exact ⟨ret_int (by omega), (by repeat (first | exact Below.refl _ _ | refine belI_alloc ?_ | refine Below.drew ?_ | refine belI_step ?_ (by assumption)))⟩
theorem sz_out (s us h pa q f : List UInt8) (p : Int) (hq hf : Bool) (w : World) (hl : 1048576 < s.length + us.length + h.length + pa.length + q.length + f.length)
    (m0 : s.length ≤ 9223372036854775807) (m1 : us.length ≤ 9223372036854775807) (m2 : h.length ≤ 9223372036854775807) (m4 : pa.length ≤ 9223372036854775807) (m5 : q.length ≤ 9223372036854775807) (m6 : f.length ≤ 9223372036854775807) :
    Calls Tryd.prog 35 #[.agg #[.string ⟨s.toArray⟩, .string ⟨us.toArray⟩, .string ⟨h.toArray⟩, .int .i64 p, .string ⟨pa.toArray⟩, .string ⟨q.toArray⟩, .string ⟨f.toArray⟩, .bool hq, .bool hf], .int .i64 1048576] w fun e w' => e = .returned (.int .i64 (-1)) ∧ Below w.heap.size w w' := by
  go_enter Tryd.func35, Tryd.ntmps35
  go_wp2
  all_goals
    go_ret
    exact ⟨rfl, (by repeat (first | exact Below.refl _ _ | refine belI_alloc ?_ | refine Below.drew ?_ | refine belI_step ?_ (by assumption)))⟩
theorem to_any (s us h pa q f : List UInt8) (p : Int) (hq hf : Bool) (w : World) :
    Calls Tryd.prog 37 #[.agg #[.string ⟨s.toArray⟩, .string ⟨us.toArray⟩, .string ⟨h.toArray⟩, .int .i64 p, .string ⟨pa.toArray⟩, .string ⟨q.toArray⟩, .string ⟨f.toArray⟩, .bool hq, .bool hf]] w fun e w' => e = .returned (.agg #[.string ⟨s.toArray⟩, .string ⟨us.toArray⟩, .string ⟨h.toArray⟩, .int .i64 p, .string ⟨pa.toArray⟩, .string ⟨q.toArray⟩, .string ⟨f.toArray⟩, .bool hq, .bool hf]) ∧ Below w.heap.size w w' := by
  go_enter Tryd.func37, Tryd.ntmps37
  go_wp2
  exact bodyPost_ret (v := .agg #[.string ⟨s.toArray⟩, .string ⟨us.toArray⟩, .string ⟨h.toArray⟩, .int .i64 p, .string ⟨pa.toArray⟩, .string ⟨q.toArray⟩, .string ⟨f.toArray⟩, .bool hq, .bool hf]) (by simp [results, Tryd.results37, go_sem]) rfl ⟨rfl, (by repeat (first | exact Below.refl _ _ | refine belI_alloc ?_ | refine Below.drew ?_ | refine belI_step ?_ (by assumption)))⟩
theorem specOK_any (s us h pa q f : List UInt8) (p : Int) (hq hf : Bool) (w : World) (hp1 : p ≤ 9223372036854775807) (hl : s.length + us.length + h.length + pa.length + q.length + f.length ≤ 4611686018427387904) :
    Calls Tryd.prog 36 #[.agg #[.string ⟨s.toArray⟩, .string ⟨us.toArray⟩, .string ⟨h.toArray⟩, .int .i64 p, .string ⟨pa.toArray⟩, .string ⟨q.toArray⟩, .string ⟨f.toArray⟩, .bool hq, .bool hf]] w fun e w' => e = .returned (.bool (okB ⟨s, us, h, p, pa, q, f, hq, hf⟩)) ∧ Below w.heap.size w w' := by
  go_enter Tryd.func36, Tryd.ntmps36
  go_wp2_with fail
  refine (ok_any s us h pa q f p hq hf _ hp1 hl).mono ?_
  rintro e w1 ⟨rfl, hb⟩
  go_wp2
  go_ret
  exact ⟨rfl, (by repeat (first | exact Below.refl _ _ | refine belI_alloc ?_ | refine Below.drew ?_ | refine belI_step ?_ (by assumption)))⟩
theorem urlOK_walk (s us h pa q f : List UInt8) (p : Int) (hq hf : Bool) (m0 : s.length ≤ maxLen) (m1 : us.length ≤ maxLen) (m2 : h.length ≤ maxLen) (m4 : pa.length ≤ maxLen) (m5 : q.length ≤ maxLen) (m6 : f.length ≤ maxLen) (hp1 : p ≤ 9223372036854775807) (w : World) (hT : Tab w) :
    Calls Tryd.prog 8 #[.agg #[.string ⟨s.toArray⟩, .string ⟨us.toArray⟩, .string ⟨h.toArray⟩, .int .i64 p, .string ⟨pa.toArray⟩, .string ⟨q.toArray⟩, .string ⟨f.toArray⟩, .bool hq, .bool hf]] w fun e w' => e = .returned (.bool true) ∧ Below w.heap.size w w' := by
  unfold maxLen at m0 m1 m2 m4 m5 m6
  have HT := Lib.hid hT
  clear hT
  by_cases hs : s.length + us.length + h.length + pa.length + q.length + f.length ≤ 1048576
  · have g1 : ¬ (((1048576 - (s.length + us.length + h.length + pa.length + q.length + f.length) : Nat) : Int) < 0) := by omega
    have HSZ := Lib.hid (fun W => sz_in s us h pa q f p hq hf W hs)
    have HSP := Lib.hid (fun W => specOK_any s us h pa q f p hq hf W hp1 (by omega))
    have HIM := Lib.hid (fun W hT => UrlOK_any s us h pa q f p hq hf W hT (by omega))
    generalize okB ⟨s, us, h, p, pa, q, f, hq, hf⟩ = okv at *
    generalize ((1048576 - (s.length + us.length + h.length + pa.length + q.length + f.length) : Nat) : Int) = lft at *
    go_enter Tryd.func8, Tryd.ntmps8
    go_wp2_with (first
      | (go_at_call 35; refine (HSZ.out _).mono ?_; rintro e w1 ⟨rfl, hb⟩; have hc := bcellI hb; have hz : w.heap.size < w1.heap.size := (by have := hb.size; (try simp at this); omega))
      | (go_at_call 37; refine (to_any _ _ _ _ _ _ _ _ _ _).mono ?_; rintro e w1 ⟨rfl, hb⟩; have hc := bcellI hb; have hz : w.heap.size < w1.heap.size := (by have := hb.size; (try simp at this); omega))
      | (go_at_call 36; refine (HSP.out _).mono ?_; rintro e w1 ⟨rfl, hb⟩; have hc := bcellI hb; have hz : w.heap.size < w1.heap.size := (by have := hb.size; (try simp at this); omega))
      | (go_at_call 18; refine (HIM.out _ (HT.out.below (by repeat (first | exact Below.refl _ _ | refine belI_alloc ?_ | refine Below.drew ?_ | refine belI_step ?_ (by assumption))))).mono ?_; rintro e w1 ⟨rfl, hb⟩))
    go_ret
    exact ⟨rfl, (by repeat (first | exact Below.refl _ _ | refine belI_alloc ?_ | refine Below.drew ?_ | refine belI_step ?_ (by assumption)))⟩
  · have HSZ := Lib.hid (fun W => sz_out s us h pa q f p hq hf W (by omega) m0 m1 m2 m4 m5 m6)
    go_enter Tryd.func8, Tryd.ntmps8
    go_wp2_with (go_at_call 35; refine (HSZ.out _).mono ?_; rintro e w1 ⟨rfl, hb⟩; have hc := bcellI hb; have hz : w.heap.size < w1.heap.size := (by have := hb.size; (try simp at this); omega))
    go_ret
    exact ⟨rfl, (by repeat (first | exact Below.refl _ _ | refine belI_alloc ?_ | refine Below.drew ?_ | refine belI_step ?_ (by assumption)))⟩
end Go.Proofs.YtieclljkfdghaaaDoor.Ul
