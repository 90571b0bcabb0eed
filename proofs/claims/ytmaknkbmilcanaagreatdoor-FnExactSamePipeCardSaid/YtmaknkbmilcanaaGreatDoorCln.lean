
/-
  The clean URL of a text, plainly, and the program's cleanUrl, walked.
-/
import Derived.Test.YtmaknkbmilcanaaGreatDoorUrlLaw
import Derived.Test.YtmaknkbmilcanaaGreatDoorNameWalks
import Derived.Test.YtmaknkbmilcanaaGreatDoorExt
namespace Go.Proofs.YtmaknkbmilcanaaGreatDoor.Cl
open Go.RowKit
open Go.Proofs.YtmaknkbmilcanaaGreatDoor.Ul
theorem PC_okG (t : List UInt8) (h : PC t = 0) : okB (PU t) = true := by
  unfold PC at h
  unfold PU
  by_cases hl : 65536 < t.length
  · simp [hl] at h
  · simp only [hl, if_false] at h ⊢
    unfold parseC at h
    cases hb : parseB t with
    | false => simp [hb] at h
    | true =>
      have hb' := hb
      unfold parseB at hb'
      simp only [Bool.and_eq_true] at hb'
      simp [parseU, hb, hb'.2]
def nofrag (u : U) : U := ⟨u.sch, u.usr, u.hst, u.prt, u.pth, u.qry, [], u.hq, false⟩
theorem nofrag_ok (u : U) (hok : okB u = true) (hw : webB u.sch = true) : okB (nofrag u) = true := by
  obtain ⟨s, us, h, p, pa, q, f, hq, hf⟩ := u
  have hw' : webB s = true := hw
  simp only [okB, headB, flagsB, hw', if_true, Bool.and_eq_true, Bool.or_eq_true, decide_eq_true_eq, webPartsB] at hok
  obtain ⟨⟨⟨⟨⟨⟨hs, hq1, hf1⟩, hpa⟩, hqr⟩, hfr⟩, hlen⟩, ⟨⟨⟨⟨hus, hh⟩, hp1, hp2⟩, hpu⟩, hsl⟩⟩ := hok
  have hl2 : (textL (nofrag ⟨s, us, h, p, pa, q, f, hq, hf⟩)).length ≤ 100 := by
    refine Nat.le_trans ?_ hlen
    simp only [textL, nofrag, hw', if_true, fragL, List.length_append]
    simp
  have e2 : onlyB [] [] = true := rfl
  show (headB _ && decide _ && (if webB s then webPartsB _ else otherPartsB _)) = true
  rw [hw', if_pos rfl, decide_eq_true hl2]
  simp only [headB, flagsB, nofrag, webPartsB, hs, hpa, hqr, e2, hh, hsl, hpu, hus]
  rcases hq1 with h1 | h1 <;> simp [h1, hp1, hp2]
theorem parseX_split (t : List UInt8) (hb : parseB t = true) : parseX t = splitU t ∧ okB (splitU t) = true := by
  unfold parseB at hb
  simp only [Bool.and_eq_true] at hb
  exact ⟨by simp [parseX, hb.1], hb.2⟩
def cleanC (t : List UInt8) : Bool := (PC t == 0) && webB (PU t).sch
def cleanL (t : List UInt8) : List UInt8 := if cleanC t then textL (nofrag (PU t)) else []
set_option maxRecDepth 100000 in
set_option maxHeartbeats 2000000 in
theorem clean_web (t : List UInt8) (w : World) (hT : Tab w) (hM : MaxL w) (hl : t.length ≤ 9223372036854775807) (hc : PC t = 0) (hw : webB (PU t).sch = true) :
    Calls Tryz.prog 326 #[.string ⟨t.toArray⟩] w fun e w' => e = .returned (.tuple #[.string ⟨(cleanL t).toArray⟩, .bool (cleanC t)]) ∧ Below w.heap.size w w' := by
  have e1 : cleanC t = true := by simp [cleanC, hc, hw]
  have e2 : cleanL t = textL (nofrag (PU t)) := by simp [cleanL, e1]
  have hok := PC_okG t hc
  have hz := PU_size t
  have hp := ok_fields (PU t) hok hw
  rw [e1, e2]
  clear e1 e2
  have HT := Lib.hid hT
  have HM := Lib.hid hM
  clear hT hM
  have HP0 := fun W hT hM => pI_any t W hT hM hl
  rw [hc] at HP0
  have HP := Lib.hid HP0
  clear HP0 hc hok
  generalize PU t = u at *
  obtain ⟨s, us, h, p, pa, q, f, hq, hf⟩ := u
  simp only [nofrag, sizeU] at *
  have HJ := Lib.hid (fun W hT => join_any s us h pa q [] p hq false W hT (fun _ => hp) (by simp; omega))
  have HW0 := fun (W : World) => isWeb_any s W
  rw [hw] at HW0
  have HW := Lib.hid HW0
  clear HW0 hw hz hp
  generalize textL ⟨s, us, h, p, pa, q, [], hq, false⟩ = tx at *
  go_enter Tryz.func326, Tryz.ntmps326
  go_wp2_with fail
  refine (HP.out _ (HT.out.below (by repeat (first | (with_reducible exact Below.refl _ _) | (with_reducible refine belI_set ?_ (by first | exact Nat.le_refl _ | simp)) | (with_reducible refine belI_alloc ?_) | (with_reducible refine Below.drew ?_) | (with_reducible refine belI_drewN ?_ _) | (with_reducible refine belI_step ?_ (by assumption))))) (HM.out.below (by repeat (first | (with_reducible exact Below.refl _ _) | (with_reducible refine belI_set ?_ (by first | exact Nat.le_refl _ | simp)) | (with_reducible refine belI_alloc ?_) | (with_reducible refine Below.drew ?_) | (with_reducible refine belI_drewN ?_ _) | (with_reducible refine belI_step ?_ (by assumption)))))).mono ?_
  rintro e w1 ⟨rfl, hb1⟩
  go_wp2_with (go_at_call 323; refine (HW.out _).mono ?_; rintro e w' ⟨rfl, rfl⟩)
  refine (HJ.out _ (HT.out.below (by repeat (first | (with_reducible exact Below.refl _ _) | (with_reducible refine belI_set ?_ (by first | exact Nat.le_refl _ | simp)) | (with_reducible refine belI_alloc ?_) | (with_reducible refine Below.drew ?_) | (with_reducible refine belI_drewN ?_ _) | (with_reducible refine belI_step ?_ (by assumption)))))).mono ?_
  rintro e w2 ⟨rfl, hb2⟩
  go_wp2
  exact bodyPost_ret (v := .tuple #[.string ⟨tx.toArray⟩, .bool true]) (by simp [results, Tryz.results326, go_sem]) rfl ⟨rfl, (by repeat (first | (with_reducible exact Below.refl _ _) | (with_reducible refine belI_set ?_ (by first | exact Nat.le_refl _ | simp)) | (with_reducible refine belI_alloc ?_) | (with_reducible refine Below.drew ?_) | (with_reducible refine belI_drewN ?_ _) | (with_reducible refine belI_step ?_ (by assumption))))⟩
set_option maxRecDepth 100000 in
theorem clean_not (t : List UInt8) (w : World) (hT : Tab w) (hM : MaxL w) (hl : t.length ≤ 9223372036854775807) (hc : cleanC t = false) :
    Calls Tryz.prog 326 #[.string ⟨t.toArray⟩] w fun e w' => e = .returned (.tuple #[.string ⟨(cleanL t).toArray⟩, .bool (cleanC t)]) ∧ Below w.heap.size w w' := by
  have e2 : cleanL t = [] := by simp [cleanL, hc]
  rw [hc, e2]
  clear e2
  have HP := Lib.hid (fun W hT hM => pI_any t W hT hM hl)
  have HT := Lib.hid hT
  have HM := Lib.hid hM
  clear hT hM hl
  unfold cleanC at hc
  generalize PU t = u at *
  by_cases h0 : PC t = 0
  · have hw : webB u.sch = false := by simpa [h0] using hc
    have HW0 := fun (W : World) => isWeb_any u.sch W
    rw [hw] at HW0
    rw [h0] at HP
    have HW := Lib.hid HW0
    clear HW0 hw hc h0
    go_enter Tryz.func326, Tryz.ntmps326
    go_wp2_with fail
    refine (HP.out _ (HT.out.below (by repeat (first | (with_reducible exact Below.refl _ _) | (with_reducible refine belI_set ?_ (by first | exact Nat.le_refl _ | simp)) | (with_reducible refine belI_alloc ?_) | (with_reducible refine Below.drew ?_) | (with_reducible refine belI_drewN ?_ _) | (with_reducible refine belI_step ?_ (by assumption))))) (HM.out.below (by repeat (first | (with_reducible exact Below.refl _ _) | (with_reducible refine belI_set ?_ (by first | exact Nat.le_refl _ | simp)) | (with_reducible refine belI_alloc ?_) | (with_reducible refine Below.drew ?_) | (with_reducible refine belI_drewN ?_ _) | (with_reducible refine belI_step ?_ (by assumption)))))).mono ?_
    rintro e w1 ⟨rfl, hb1⟩
    go_wp2_with (go_at_call 323; refine (HW.out _).mono ?_; rintro e w' ⟨rfl, rfl⟩)
    exact bodyPost_ret (v := .tuple #[.string ⟨#[]⟩, .bool false]) (by simp [results, Tryz.results326, go_sem]) rfl ⟨rfl, (by repeat (first | (with_reducible exact Below.refl _ _) | (with_reducible refine belI_set ?_ (by first | exact Nat.le_refl _ | simp)) | (with_reducible refine belI_alloc ?_) | (with_reducible refine Below.drew ?_) | (with_reducible refine belI_drewN ?_ _) | (with_reducible refine belI_step ?_ (by assumption))))⟩
  · have d1 : (PC t != 0) = true := by simpa using h0
    have d2 : (PC t == 0) = false := by simpa using h0
    clear hc h0
    generalize PC t = c at *
    go_enter Tryz.func326, Tryz.ntmps326
    go_wp2_with fail
    refine (HP.out _ (HT.out.below (by repeat (first | (with_reducible exact Below.refl _ _) | (with_reducible refine belI_set ?_ (by first | exact Nat.le_refl _ | simp)) | (with_reducible refine belI_alloc ?_) | (with_reducible refine Below.drew ?_) | (with_reducible refine belI_drewN ?_ _) | (with_reducible refine belI_step ?_ (by assumption))))) (HM.out.below (by repeat (first | (with_reducible exact Below.refl _ _) | (with_reducible refine belI_set ?_ (by first | exact Nat.le_refl _ | simp)) | (with_reducible refine belI_alloc ?_) | (with_reducible refine Below.drew ?_) | (with_reducible refine belI_drewN ?_ _) | (with_reducible refine belI_step ?_ (by assumption)))))).mono ?_
    rintro e w1 ⟨rfl, hb1⟩
    go_wp2
    exact bodyPost_ret (v := .tuple #[.string ⟨#[]⟩, .bool false]) (by simp [results, Tryz.results326, go_sem]) rfl ⟨rfl, (by repeat (first | (with_reducible exact Below.refl _ _) | (with_reducible refine belI_set ?_ (by first | exact Nat.le_refl _ | simp)) | (with_reducible refine belI_alloc ?_) | (with_reducible refine Below.drew ?_) | (with_reducible refine belI_drewN ?_ _) | (with_reducible refine belI_step ?_ (by assumption))))⟩
theorem clean_any (t : List UInt8) (w : World) (hT : Tab w) (hM : MaxL w) (hl : t.length ≤ 9223372036854775807) :
    Calls Tryz.prog 326 #[.string ⟨t.toArray⟩] w fun e w' => e = .returned (.tuple #[.string ⟨(cleanL t).toArray⟩, .bool (cleanC t)]) ∧ Below w.heap.size w w' := by
  cases hc : cleanC t with
  | false => rw [← hc]; exact clean_not t w hT hM hl hc
  | true =>
    rw [← hc]
    simp only [cleanC, Bool.and_eq_true, beq_iff_eq] at hc
    exact clean_web t w hT hM hl hc.1 hc.2
theorem parseX_size (t : List UInt8) (hl : t.length ≤ 4294967280) : sizeU (parseX t) ≤ 4611686018427387904 := by
  exact Nat.le_trans (split_size t hl) (by omega)
end Go.Proofs.YtmaknkbmilcanaaGreatDoor.Cl
