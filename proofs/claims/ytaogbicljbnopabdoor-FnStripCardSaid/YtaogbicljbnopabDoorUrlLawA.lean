
/-
  The walks of the laws on URLs that take a value: the size, the copy, and the law on UrlOK.
-/
import Derived.Test.YtaogbicljbnopabDoorUrlImplE
import Derived.Test.YtaogbicljbnopabDoorUrlSpecD
namespace Go.Proofs.YtaogbicljbnopabDoor.Ul
open Go.RowKit
theorem sz_in (s us h pa q f : List UInt8) (p : Int) (hq hf : Bool) (w : World) (hl : s.length + us.length + h.length + pa.length + q.length + f.length ≤ 1048576) :
    Calls Tryd.prog 8 #[.agg #[.string ⟨s.toArray⟩, .string ⟨us.toArray⟩, .string ⟨h.toArray⟩, .int .i64 p, .string ⟨pa.toArray⟩, .string ⟨q.toArray⟩, .string ⟨f.toArray⟩, .bool hq, .bool hf], .int .i64 1048576] w fun e w' => e = .returned (.int .i64 ((1048576 - (s.length + us.length + h.length + pa.length + q.length + f.length) : Nat) : Int)) ∧ Below w.heap.size w w' := by
  go_enter Tryd.func8, Tryd.ntmps8
  go_wp2
  go_ret
  exact ⟨ret_int (by omega), (by repeat (first | exact Below.refl _ _ | refine belI_alloc ?_ | refine Below.drew ?_ | refine belI_step ?_ (by assumption)))⟩
theorem sz_out (s us h pa q f : List UInt8) (p : Int) (hq hf : Bool) (w : World) (hl : 1048576 < s.length + us.length + h.length + pa.length + q.length + f.length)
    (m0 : s.length ≤ 9223372036854775807) (m1 : us.length ≤ 9223372036854775807) (m2 : h.length ≤ 9223372036854775807) (m4 : pa.length ≤ 9223372036854775807) (m5 : q.length ≤ 9223372036854775807) (m6 : f.length ≤ 9223372036854775807) :
    Calls Tryd.prog 8 #[.agg #[.string ⟨s.toArray⟩, .string ⟨us.toArray⟩, .string ⟨h.toArray⟩, .int .i64 p, .string ⟨pa.toArray⟩, .string ⟨q.toArray⟩, .string ⟨f.toArray⟩, .bool hq, .bool hf], .int .i64 1048576] w fun e w' => e = .returned (.int .i64 (-1)) ∧ Below w.heap.size w w' := by
  go_enter Tryd.func8, Tryd.ntmps8
  go_wp2
  all_goals
    go_ret
    exact ⟨rfl, (by repeat (first | exact Below.refl _ _ | refine belI_alloc ?_ | refine Below.drew ?_ | refine belI_step ?_ (by assumption)))⟩
theorem to_any (s us h pa q f : List UInt8) (p : Int) (hq hf : Bool) (w : World) :
    Calls Tryd.prog 10 #[.agg #[.string ⟨s.toArray⟩, .string ⟨us.toArray⟩, .string ⟨h.toArray⟩, .int .i64 p, .string ⟨pa.toArray⟩, .string ⟨q.toArray⟩, .string ⟨f.toArray⟩, .bool hq, .bool hf]] w fun e w' => e = .returned (.agg #[.string ⟨s.toArray⟩, .string ⟨us.toArray⟩, .string ⟨h.toArray⟩, .int .i64 p, .string ⟨pa.toArray⟩, .string ⟨q.toArray⟩, .string ⟨f.toArray⟩, .bool hq, .bool hf]) ∧ Below w.heap.size w w' := by
  go_enter Tryd.func10, Tryd.ntmps10
  go_wp2
  exact bodyPost_ret (v := .agg #[.string ⟨s.toArray⟩, .string ⟨us.toArray⟩, .string ⟨h.toArray⟩, .int .i64 p, .string ⟨pa.toArray⟩, .string ⟨q.toArray⟩, .string ⟨f.toArray⟩, .bool hq, .bool hf]) (by simp [results, Tryd.results10, go_sem]) rfl ⟨rfl, (by repeat (first | exact Below.refl _ _ | refine belI_alloc ?_ | refine Below.drew ?_ | refine belI_step ?_ (by assumption)))⟩
end Go.Proofs.YtaogbicljbnopabDoor.Ul
