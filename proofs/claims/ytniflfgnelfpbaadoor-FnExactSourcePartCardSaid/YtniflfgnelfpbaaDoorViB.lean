
/-
  The parts of a violation that its report tells, plainly; and the walks of the model's and the program's functions on them: the site, the blocked part, the source part.
-/
import Derived.Test.YtniflfgnelfpbaaDoorViA
import Derived.Test.YtniflfgnelfpbaaDoorStripIn
import Derived.Test.YtniflfgnelfpbaaDoorUrlLawE
import Derived.Test.YtniflfgnelfpbaaDoorUrlLawG
namespace Go.Proofs.YtniflfgnelfpbaaDoor.Vi
open Go.RowKit
open Go.Proofs.YtniflfgnelfpbaaDoor.Ul
/-- the site of a text, as the program reads it -/
def siteT (t : List UInt8) : List UInt8 := if orgC (PU t) = 11 then (PU t).sch else orgO (PU t)
/-- and as the model does -/
def siteX (t : List UInt8) : List UInt8 := if parseB t then (if webB (parseX t).sch then siteL (parseX t).sch (parseX t).hst (parseX t).prt else (parseX t).sch) else []
theorem pu_yes {t : List UInt8} (hl : t.length ≤ 65536) (hb : parseB t = true) : PU t = parseX t ∧ okB (parseX t) = true := by
  have hb' := hb
  unfold parseB at hb'
  simp only [Bool.and_eq_true] at hb'
  have e : parseX t = splitU t := by simp [parseX, hb'.1]
  rw [e]
  exact ⟨by simp [PU, parseU, hb, show ¬ 65536 < t.length by omega], hb'.2⟩
theorem pu_no {t : List UInt8} (hl : t.length ≤ 65536) (hb : parseB t = false) : PU t = U.none := by
  simp [PU, parseU, hb, show ¬ 65536 < t.length by omega]
theorem site_same {t : List UInt8} (hl : t.length ≤ 65536) : siteX t = siteT t := by
  unfold siteX siteT
  cases hb : parseB t with
  | false =>
    rw [pu_no hl hb]
    simp [orgC, orgO, ok_none]
  | true =>
    obtain ⟨e, hok⟩ := pu_yes hl hb
    rw [e]
    cases hw : webB (parseX t).sch <;> simp [orgC, orgO, hok, hw]
theorem st_same {t : List UInt8} (hl : t.length ≤ 65536) : (if parseB t then stripL (parseU t) else []) = ST t := by unfold Ul.ST; rw [if_neg (show ¬ 65536 < t.length by omega)]
def inlL : List UInt8 := [105, 110, 108, 105, 110, 101]
def evaL : List UInt8 := [101, 118, 97, 108]
def selL : List UInt8 := [115, 101, 108, 102]
def wordB (t : List UInt8) : Bool := t == inlL || (t == evaL || t == selL)
def blkV (v : V) : List UInt8 := if wordB v.blk then v.blk else if v.red then siteT v.blk else ST v.blk
def srcV (v : V) : List UInt8 := if sameO (PU v.src) (PU v.doc) then ST v.src else siteT v.src
theorem orgO_len (t : List UInt8) : (siteT t).length ≤ 200 := by
  unfold siteT
  by_cases hok : okB (PU t) = true
  · have hl := text_len (PU t) hok
    by_cases hw : webB (PU t).sch = true
    · have : (orgO (PU t)).length ≤ (textL (PU t)).length := by
        simp only [orgO, hok, hw, if_true, siteL, textL, List.length_append]
        omega
      simp only [orgC, hok, hw, if_true]
      split <;> omega
    · simp only [Bool.not_eq_true] at hw
      have : (PU t).sch.length ≤ (textL (PU t)).length := by
        simp [hw, textL]
      simp [orgC, hok, hw]
      omega
  · simp only [Bool.not_eq_true] at hok
    simp [orgC, orgO, hok]
/-! ### the model's side -/
set_option maxRecDepth 100000 in
theorem siteS_any (t : List UInt8) (w : World) (hl : t.length ≤ 65536) : Calls Tryd.prog 36 #[.string ⟨t.toArray⟩] w fun e w' => e = .returned (.string ⟨(siteT t).toArray⟩) ∧ Below w.heap.size w w' := by
  rw [← site_same hl]
  have HP := Lib.hid (fun W => parseS_any t W (by omega))
  have hz := split_size t (by omega)
  have hp := parseX_port t
  unfold siteX
  obtain ⟨q, hq⟩ : ∃ q, parseB t = q := ⟨_, rfl⟩
  rw [hq] at HP ⊢
  clear hq
  generalize parseX t = u at *
  obtain ⟨s, us, h, p, pa, qr, f, hqq, hf⟩ := u
  simp only [sizeU] at hz hp ⊢
  cases q with
  | false =>
    go_enter Tryd.func36, Tryd.ntmps36
    go_wp2_with fail
    refine (HP.out _).mono ?_
    rintro e w1 ⟨rfl, hb1⟩
    go_wp2
    go_ret
    exact ⟨rfl, (by repeat (first | (with_reducible exact Below.refl _ _) | (with_reducible refine belI_set ?_ (by first | exact Nat.le_refl _ | simp)) | (with_reducible refine belI_alloc ?_) | (with_reducible refine Below.drew ?_) | (with_reducible refine belI_drewN ?_ _) | (with_reducible refine belI_step ?_ (by assumption))))⟩
  | true =>
    have HW := Lib.hid (fun W => web_any s W)
    have HS := Lib.hid (fun W => site_any s us h pa qr f p hqq hf W hp (by omega))
    obtain ⟨r, hr⟩ : ∃ r, webB s = r := ⟨_, rfl⟩
    rw [hr] at HW ⊢
    clear hr
    generalize siteL s h p = o at *
    cases r with
    | false =>
      go_enter Tryd.func36, Tryd.ntmps36
      go_wp2_with fail
      refine (HP.out _).mono ?_
      rintro e w1 ⟨rfl, hb1⟩
      go_wp2_with (go_at_call 60; refine (HW.out _).mono ?_; rintro e w' ⟨rfl, rfl⟩)
      go_ret
      exact ⟨rfl, (by repeat (first | (with_reducible exact Below.refl _ _) | (with_reducible refine belI_set ?_ (by first | exact Nat.le_refl _ | simp)) | (with_reducible refine belI_alloc ?_) | (with_reducible refine Below.drew ?_) | (with_reducible refine belI_drewN ?_ _) | (with_reducible refine belI_step ?_ (by assumption))))⟩
    | true =>
      go_enter Tryd.func36, Tryd.ntmps36
      go_wp2_with fail
      refine (HP.out _).mono ?_
      rintro e w1 ⟨rfl, hb1⟩
      go_wp2_with (go_at_call 60; refine (HW.out _).mono ?_; rintro e w' ⟨rfl, rfl⟩)
      refine (HS.out _).mono ?_
      rintro e w2 ⟨rfl, hb2⟩
      go_wp2
      go_ret
      exact ⟨rfl, (by repeat (first | (with_reducible exact Below.refl _ _) | (with_reducible refine belI_set ?_ (by first | exact Nat.le_refl _ | simp)) | (with_reducible refine belI_alloc ?_) | (with_reducible refine Below.drew ?_) | (with_reducible refine belI_drewN ?_ _) | (with_reducible refine belI_step ?_ (by assumption))))⟩
/-! ### the program's side -/
set_option maxRecDepth 100000 in
theorem siteI_any (t : List UInt8) (w : World) (hT : Tab w) (hM : MaxL w) (hl : t.length ≤ 65536) : Calls Tryd.prog 41 #[.string ⟨t.toArray⟩] w fun e w' => e = .returned (.string ⟨(siteT t).toArray⟩) ∧ Below w.heap.size w w' := by
  have HP := Lib.hid (fun W hT hM => pI_any t W hT hM (by omega))
  have HT := Lib.hid hT
  have HM := Lib.hid hM
  have HO := Lib.hid (fun W hT => iOrigin_any (PU t) W hT (by have := PU_size t; omega))
  clear hT hM
  unfold siteT
  generalize PU t = u at *
  generalize orgO u = o at *
  generalize orgC u = c at *
  generalize PC t = pc at *
  obtain ⟨s, us, h, p, pa, qr, f, hqq, hf⟩ := u
  simp only
  by_cases hc : c = 11
  · subst hc
    rw [if_pos rfl]
    go_enter Tryd.func41, Tryd.ntmps41
    go_wp2_with fail
    refine (HP.out _ (HT.out.below (by repeat (first | (with_reducible exact Below.refl _ _) | (with_reducible refine belI_set ?_ (by first | exact Nat.le_refl _ | simp)) | (with_reducible refine belI_alloc ?_) | (with_reducible refine Below.drew ?_) | (with_reducible refine belI_drewN ?_ _) | (with_reducible refine belI_step ?_ (by assumption))))) (HM.out.below (by repeat (first | (with_reducible exact Below.refl _ _) | (with_reducible refine belI_set ?_ (by first | exact Nat.le_refl _ | simp)) | (with_reducible refine belI_alloc ?_) | (with_reducible refine Below.drew ?_) | (with_reducible refine belI_drewN ?_ _) | (with_reducible refine belI_step ?_ (by assumption)))))).mono ?_
    rintro e w1 ⟨rfl, hb1⟩
    go_wp2_with fail
    refine (HO.out _ (HT.out.below (by repeat (first | (with_reducible exact Below.refl _ _) | (with_reducible refine belI_set ?_ (by first | exact Nat.le_refl _ | simp)) | (with_reducible refine belI_alloc ?_) | (with_reducible refine Below.drew ?_) | (with_reducible refine belI_drewN ?_ _) | (with_reducible refine belI_step ?_ (by assumption)))))).mono ?_
    rintro e w2 ⟨rfl, hb2⟩
    have hc := bcellI hb2
    go_wp2
    go_ret
    exact ⟨rfl, (by repeat (first | (with_reducible exact Below.refl _ _) | (with_reducible refine belI_set ?_ (by first | exact Nat.le_refl _ | simp)) | (with_reducible refine belI_alloc ?_) | (with_reducible refine Below.drew ?_) | (with_reducible refine belI_drewN ?_ _) | (with_reducible refine belI_step ?_ (by assumption))))⟩
  · rw [if_neg hc]
    have d1 : (c == 11) = false := by simpa using hc
    go_enter Tryd.func41, Tryd.ntmps41
    go_wp2_with fail
    refine (HP.out _ (HT.out.below (by repeat (first | (with_reducible exact Below.refl _ _) | (with_reducible refine belI_set ?_ (by first | exact Nat.le_refl _ | simp)) | (with_reducible refine belI_alloc ?_) | (with_reducible refine Below.drew ?_) | (with_reducible refine belI_drewN ?_ _) | (with_reducible refine belI_step ?_ (by assumption))))) (HM.out.below (by repeat (first | (with_reducible exact Below.refl _ _) | (with_reducible refine belI_set ?_ (by first | exact Nat.le_refl _ | simp)) | (with_reducible refine belI_alloc ?_) | (with_reducible refine Below.drew ?_) | (with_reducible refine belI_drewN ?_ _) | (with_reducible refine belI_step ?_ (by assumption)))))).mono ?_
    rintro e w1 ⟨rfl, hb1⟩
    go_wp2_with fail
    refine (HO.out _ (HT.out.below (by repeat (first | (with_reducible exact Below.refl _ _) | (with_reducible refine belI_set ?_ (by first | exact Nat.le_refl _ | simp)) | (with_reducible refine belI_alloc ?_) | (with_reducible refine Below.drew ?_) | (with_reducible refine belI_drewN ?_ _) | (with_reducible refine belI_step ?_ (by assumption)))))).mono ?_
    rintro e w2 ⟨rfl, hb2⟩
    go_wp2
    go_ret
    exact ⟨rfl, (by repeat (first | (with_reducible exact Below.refl _ _) | (with_reducible refine belI_set ?_ (by first | exact Nat.le_refl _ | simp)) | (with_reducible refine belI_alloc ?_) | (with_reducible refine Below.drew ?_) | (with_reducible refine belI_drewN ?_ _) | (with_reducible refine belI_step ?_ (by assumption))))⟩
end Go.Proofs.YtniflfgnelfpbaaDoor.Vi
