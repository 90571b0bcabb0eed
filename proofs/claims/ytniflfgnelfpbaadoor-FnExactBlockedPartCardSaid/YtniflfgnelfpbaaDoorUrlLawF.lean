
/-
  The law on ParseUrl, walked.
-/
import Derived.Test.YtniflfgnelfpbaaDoorUrlSpecI
import Derived.Test.YtniflfgnelfpbaaDoorUrlImplK
namespace Go.Proofs.YtniflfgnelfpbaaDoor.Ul
open Go.RowKit
def PU (t : List UInt8) : U := if 65536 < t.length then U.none else parseU t
def PC (t : List UInt8) : Int := if 65536 < t.length then 2 else parseC t
theorem pI_any (t : List UInt8) (w : World) (hT : Tab w) (hM : MaxL w) (hl : t.length ≤ 9223372036854775807) : Calls Tryd.prog 46 #[.string ⟨t.toArray⟩] w fun e w' => e = .returned (.tuple #[uV (PU t), .int .i64 (PC t)]) ∧ Below w.heap.size w w' := by
  by_cases h : 65536 < t.length
  · have e1 : PU t = U.none := by simp [PU, h]
    have e2 : PC t = 2 := by simp [PC, h]
    rw [e1, e2]
    clear e1 e2
    go_enter Tryd.func46, Tryd.ntmps46
    go_wp2
    exact bodyPost_ret (v := .tuple #[uV U.none, .int .i64 2]) (by simp [results, Tryd.results46, go_sem, U.none]) rfl ⟨rfl, (by repeat (first | (with_reducible exact Below.refl _ _) | (with_reducible refine belI_set ?_ (by first | exact Nat.le_refl _ | simp)) | (with_reducible refine belI_alloc ?_) | (with_reducible refine Below.drew ?_) | (with_reducible refine belI_drewN ?_ _) | (with_reducible refine belI_step ?_ (by assumption))))⟩
  · have e1 : PU t = parseU t := by simp [PU, h]
    have e2 : PC t = parseC t := by simp [PC, h]
    rw [e1, e2]
    exact parseI_any t w hT hM (by omega)
end Go.Proofs.YtniflfgnelfpbaaDoor.Ul
