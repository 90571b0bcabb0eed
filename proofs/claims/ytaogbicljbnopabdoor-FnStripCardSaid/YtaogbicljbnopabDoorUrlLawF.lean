
/-
  The law on ParseUrl, walked.
-/
import Derived.Test.YtaogbicljbnopabDoorUrlSpecI
import Derived.Test.YtaogbicljbnopabDoorUrlImplK
namespace Go.Proofs.YtaogbicljbnopabDoor.Ul
open Go.RowKit
def PU (t : List UInt8) : U := if 65536 < t.length then U.none else parseU t
def PC (t : List UInt8) : Int := if 65536 < t.length then 2 else parseC t
theorem pI_any (t : List UInt8) (w : World) (hT : Tab w) (hM : MaxL w) (hl : t.length ≤ 9223372036854775807) : Calls Tryd.prog 13 #[.string ⟨t.toArray⟩] w fun e w' => e = .returned (.tuple #[uV (PU t), .int .i64 (PC t)]) ∧ Below w.heap.size w w' := by
  by_cases h : 65536 < t.length
  · have e1 : PU t = U.none := by simp [PU, h]
    have e2 : PC t = 2 := by simp [PC, h]
    rw [e1, e2]
    clear e1 e2
    go_enter Tryd.func13, Tryd.ntmps13
    go_wp2
    exact bodyPost_ret (v := .tuple #[uV U.none, .int .i64 2]) (by simp [results, Tryd.results13, go_sem, U.none]) rfl ⟨rfl, (by repeat (first | (with_reducible exact Below.refl _ _) | (with_reducible refine belI_set ?_ (by first | exact Nat.le_refl _ | simp)) | (with_reducible refine belI_alloc ?_) | (with_reducible refine Below.drew ?_) | (with_reducible refine belI_drewN ?_ _) | (with_reducible refine belI_step ?_ (by assumption))))⟩
  · have e1 : PU t = parseU t := by simp [PU, h]
    have e2 : PC t = parseC t := by simp [PC, h]
    rw [e1, e2]
    exact parseI_any t w hT hM (by omega)
theorem pS_any (t : List UInt8) (w : World) (hl : t.length ≤ 9223372036854775807) : Calls Tryd.prog 12 #[.string ⟨t.toArray⟩] w fun e w' => e = .returned (.tuple #[uV (PU t), .int .i64 (PC t)]) ∧ Below w.heap.size w w' := by
  by_cases h : 65536 < t.length
  · have e1 : PU t = U.none := by simp [PU, h]
    have e2 : PC t = 2 := by simp [PC, h]
    rw [e1, e2]
    clear e1 e2
    go_enter Tryd.func12, Tryd.ntmps12
    go_wp2
    exact bodyPost_ret (v := .tuple #[uV U.none, .int .i64 2]) (by simp [results, Tryd.results12, go_sem, U.none]) rfl ⟨rfl, (by repeat (first | (with_reducible exact Below.refl _ _) | (with_reducible refine belI_set ?_ (by first | exact Nat.le_refl _ | simp)) | (with_reducible refine belI_alloc ?_) | (with_reducible refine Below.drew ?_) | (with_reducible refine belI_drewN ?_ _) | (with_reducible refine belI_step ?_ (by assumption))))⟩
  · have e1 : PU t = parseU t := by simp [PU, h]
    have e2 : PC t = if parseB t then 0 else 3 := by simp [PC, h, parseC]
    rw [e1, e2]
    exact parseSp_any t w (by omega)
set_option maxRecDepth 100000 in
theorem eqUrl_any (u : U) (w : World) : Calls Tryd.prog 14 #[uV u, uV u] w fun e w' => e = .returned (.bool true) ∧ Below w.heap.size w w' := by
  go_enter Tryd.func14, Tryd.ntmps14
  go_wp2
  go_ret
  exact ⟨rfl, (by repeat (first | (with_reducible exact Below.refl _ _) | (with_reducible refine belI_set ?_ (by first | exact Nat.le_refl _ | simp)) | (with_reducible refine belI_alloc ?_) | (with_reducible refine Below.drew ?_) | (with_reducible refine belI_drewN ?_ _) | (with_reducible refine belI_step ?_ (by assumption))))⟩
set_option maxRecDepth 100000 in
theorem parseUrl_walk (t : List UInt8) (hl : t.length ≤ maxLen) (w : World) (hT : Tab w) (hM : MaxL w) : Calls Tryd.prog 4 #[.string ⟨t.toArray⟩] w fun e w' => e = .returned (.bool true) ∧ Below w.heap.size w w' := by
  unfold maxLen at hl
  have HM := Lib.hid hM
  have HT := Lib.hid hT
  clear hM hT
  by_cases hlong : 1048576 < t.length
  · go_enter Tryd.func4, Tryd.ntmps4
    go_wp2
    go_ret
    exact ⟨rfl, (by repeat (first | (with_reducible exact Below.refl _ _) | (with_reducible refine belI_set ?_ (by first | exact Nat.le_refl _ | simp)) | (with_reducible refine belI_alloc ?_) | (with_reducible refine Below.drew ?_) | (with_reducible refine belI_drewN ?_ _) | (with_reducible refine belI_step ?_ (by assumption))))⟩
  have HS := Lib.hid (fun W => pS_any t W hl)
  have HI := Lib.hid (fun W hT hM => pI_any t W hT hM hl)
  generalize PU t = u at *
  generalize PC t = c at *
  have HE := Lib.hid (fun W => eqUrl_any u W)
  go_enter Tryd.func4, Tryd.ntmps4
  go_wp2_with fail
  refine (HS.out _).mono ?_
  rintro e w1 ⟨rfl, hb1⟩
  have V1 := UAt.new w1 u
  go_wp2_with fail
  refine (HI.out _ (HT.out.below (by repeat (first | (with_reducible exact Below.refl _ _) | (with_reducible refine belI_set ?_ (by first | exact Nat.le_refl _ | simp)) | (with_reducible refine belI_alloc ?_) | (with_reducible refine Below.drew ?_) | (with_reducible refine belI_drewN ?_ _) | (with_reducible refine belI_step ?_ (by assumption))))) (HM.out.below (by repeat (first | (with_reducible exact Below.refl _ _) | (with_reducible refine belI_set ?_ (by first | exact Nat.le_refl _ | simp)) | (with_reducible refine belI_alloc ?_) | (with_reducible refine Below.drew ?_) | (with_reducible refine belI_drewN ?_ _) | (with_reducible refine belI_step ?_ (by assumption)))))).mono ?_
  rintro e w2 ⟨rfl, hb2⟩
  have V2 := V1.below hb2 (by simp)
  have hz : w1.heap.size < w2.heap.size := by have := hb2.size; simp at this; omega
  obtain ⟨x0, x1, x2, x3, x4, x5, x6, x7, x8, xf⟩ := V2
  go_wp2_with fail
  refine (HE.out _).mono ?_
  rintro e w3 ⟨rfl, hb3⟩
  go_wp2
  go_ret
  exact ⟨rfl, (by repeat (first | (with_reducible exact Below.refl _ _) | (with_reducible refine belI_set ?_ (by first | exact Nat.le_refl _ | simp)) | (with_reducible refine belI_alloc ?_) | (with_reducible refine Below.drew ?_) | (with_reducible refine belI_drewN ?_ _) | (with_reducible refine belI_step ?_ (by assumption))))⟩
end Go.Proofs.YtaogbicljbnopabDoor.Ul
