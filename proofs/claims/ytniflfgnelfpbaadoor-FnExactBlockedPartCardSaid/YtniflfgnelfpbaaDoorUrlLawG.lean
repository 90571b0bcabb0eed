
/-
  The law on StripText, walked.
-/
import Derived.Test.YtniflfgnelfpbaaDoorUrlLawF
import Derived.Test.YtniflfgnelfpbaaDoorUrlLawC
namespace Go.Proofs.YtniflfgnelfpbaaDoor.Ul
open Go.RowKit
def stripL (u : U) : List UInt8 := if webB u.sch then textL ⟨u.sch, [], u.hst, u.prt, u.pth, u.qry, [], u.hq, false⟩ else u.sch
theorem lStrip_any (u : U) (w : World) (hp1 : u.prt ≤ 9223372036854775807) (hl : sizeU u ≤ 4611686018427387904) : Calls Tryd.prog 45 #[uV u] w fun e w' => e = .returned (.string ⟨(stripL u).toArray⟩) ∧ Below w.heap.size w w' := by
  cases hw : webB u.sch with
  | true =>
    have e : stripL u = textL ⟨u.sch, [], u.hst, u.prt, u.pth, u.qry, [], u.hq, false⟩ := by simp [stripL, hw]
    rw [e]
    exact strip_web u.sch u.usr u.hst u.pth u.qry u.frg u.prt u.hq u.hf w hp1 hl hw
  | false =>
    have e : stripL u = u.sch := by simp [stripL, hw]
    rw [e]
    exact strip_other u.sch u.usr u.hst u.pth u.qry u.frg u.prt u.hq u.hf w hw
def stripO (u : U) : List UInt8 := if okB u then stripL u else []
def stripC (u : U) : Int := if okB u then 0 else 1
theorem iStrip_any (u : U) (w : World) (hT : Tab w) (hl : sizeU u ≤ 281474976710656) : Calls Tryd.prog 65 #[uV u] w fun e w' => e = .returned (.tuple #[.string ⟨(stripO u).toArray⟩, .int .i64 (stripC u)]) ∧ Below w.heap.size w w' := by
  cases hok : okB u with
  | false =>
    have e1 : stripO u = [] := by simp [stripO, hok]
    have e2 : stripC u = 1 := by simp [stripC, hok]
    rw [e1, e2]
    exact iStrip_no u.sch u.usr u.hst u.pth u.qry u.frg u.prt u.hq u.hf w hT (by unfold sizeU at hl; omega) hok
  | true =>
    have e2 : stripC u = 0 := by simp [stripC, hok]
    cases hw : webB u.sch with
    | true =>
      have e1 : stripO u = textL ⟨u.sch, [], u.hst, u.prt, u.pth, u.qry, [], u.hq, false⟩ := by simp [stripO, hok, stripL, hw]
      rw [e1, e2]
      exact iStrip_web u.sch u.usr u.hst u.pth u.qry u.frg u.prt u.hq u.hf w hT (by unfold sizeU at hl; omega) hok hw
    | false =>
      have e1 : stripO u = u.sch := by simp [stripO, hok, stripL, hw]
      rw [e1, e2]
      exact iStrip_other u.sch u.usr u.hst u.pth u.qry u.frg u.prt u.hq u.hf w hT (by unfold sizeU at hl; omega) (by unfold sizeU at hl; omega) hok hw
def ST (t : List UInt8) : List UInt8 := if 65536 < t.length then [] else if parseB t then stripL (parseU t) else []
theorem ok_none : okB U.none = false := by decide
theorem st_pu (t : List UInt8) : ST t = stripO (PU t) := by
  unfold ST PU stripO
  by_cases h : 65536 < t.length
  · simp [h, ok_none]
  · simp only [h, if_false]
    cases hb : parseB t with
    | false => simp [parseU, hb, ok_none]
    | true =>
      have hb' := hb
      unfold parseB at hb'
      simp only [Bool.and_eq_true] at hb'
      have e : parseU t = splitU t := by simp [parseU, hb]
      simp [e, hb'.2]
theorem split_size (t : List UInt8) (hl : t.length ≤ 4294967280) : sizeU (parseX t) ≤ 140737488351232 := by
  unfold parseX
  have h1 := bef_len t 58
  have h2 := low_len (befL t 58)
  have h3 := aft_len t 58
  cases hs : splitB t with
  | false => simp [sizeU, U.none]
  | true =>
    have hsp := hs
    rw [split_sp] at hsp
    simp only [Bool.and_eq_true] at hsp
    simp only [if_true]
    rw [split_spU t hsp.2]
    exact spU_size _ _ (by omega) (by omega)
theorem PU_size (t : List UInt8) : sizeU (PU t) ≤ 140737488351232 := by
  unfold PU
  split
  · simp [sizeU, U.none]
  · unfold parseU
    cases hb : parseB t with
    | false => simp [sizeU, U.none]
    | true =>
      have hb' := hb
      unfold parseB at hb'
      simp only [Bool.and_eq_true] at hb'
      have := split_size t (by omega)
      simpa [parseX, hb'.1] using this
theorem parseX_port (t : List UInt8) : (parseX t).prt ≤ 9223372036854775807 := by
  unfold parseX
  split
  · unfold splitU
    split
    · exact webU_port _ _
    · simp [otherU, U.none]
  · simp [U.none]
set_option maxRecDepth 100000 in
theorem lST_any (t : List UInt8) (w : World) (hl : t.length ≤ 65536) : Calls Tryd.prog 37 #[.string ⟨t.toArray⟩] w fun e w' => e = .returned (.string ⟨(if parseB t then stripL (parseU t) else []).toArray⟩) ∧ Below w.heap.size w w' := by
  have HP := Lib.hid (fun W => parseS_any t W (by omega))
  have HL := Lib.hid (fun W => lStrip_any (parseX t) W (parseX_port t) (by have := split_size t (by omega); omega))
  cases hb : parseB t with
  | false =>
    rw [hb] at HP
    generalize parseX t = x at *
    clear hb
    go_enter Tryd.func37, Tryd.ntmps37
    go_wp2_with fail
    refine (HP.out _).mono ?_
    rintro e w1 ⟨rfl, hb1⟩
    go_wp2
    go_ret
    exact ⟨rfl, (by repeat (first | (with_reducible exact Below.refl _ _) | (with_reducible refine belI_set ?_ (by first | exact Nat.le_refl _ | simp)) | (with_reducible refine belI_alloc ?_) | (with_reducible refine Below.drew ?_) | (with_reducible refine belI_drewN ?_ _) | (with_reducible refine belI_step ?_ (by assumption))))⟩
  | true =>
    have F : parseU t = parseX t := by
      have hb' := hb
      unfold parseB at hb'
      simp only [Bool.and_eq_true] at hb'
      simp [parseU, parseX, hb, hb'.1]
    rw [F, if_pos rfl]
    rw [hb] at HP
    generalize parseX t = x at *
    generalize stripL x = y at *
    clear hb F
    go_enter Tryd.func37, Tryd.ntmps37
    go_wp2_with fail
    refine (HP.out _).mono ?_
    rintro e w1 ⟨rfl, hb1⟩
    go_wp2_with fail
    refine (HL.out _).mono ?_
    rintro e w2 ⟨rfl, hb2⟩
    go_wp2
    go_ret
    exact ⟨rfl, (by repeat (first | (with_reducible exact Below.refl _ _) | (with_reducible refine belI_set ?_ (by first | exact Nat.le_refl _ | simp)) | (with_reducible refine belI_alloc ?_) | (with_reducible refine Below.drew ?_) | (with_reducible refine belI_drewN ?_ _) | (with_reducible refine belI_step ?_ (by assumption))))⟩
set_option maxRecDepth 100000 in
theorem iST_any (t : List UInt8) (w : World) (hT : Tab w) (hM : MaxL w) (hl : t.length ≤ 9223372036854775807) : Calls Tryd.prog 42 #[.string ⟨t.toArray⟩] w fun e w' => e = .returned (.string ⟨(ST t).toArray⟩) ∧ Below w.heap.size w w' := by
  have HM := Lib.hid hM
  have HT := Lib.hid hT
  clear hM hT
  have HI := Lib.hid (fun W hT hM => pI_any t W hT hM hl)
  have HS := Lib.hid (fun W hT => iStrip_any (PU t) W hT (by have := PU_size t; omega))
  rw [st_pu t]
  generalize PU t = u at *
  generalize PC t = c at *
  generalize stripO u = y at *
  generalize stripC u = c2 at *
  go_enter Tryd.func42, Tryd.ntmps42
  go_wp2_with fail
  refine (HI.out _ (HT.out.below (by repeat (first | (with_reducible exact Below.refl _ _) | (with_reducible refine belI_set ?_ (by first | exact Nat.le_refl _ | simp)) | (with_reducible refine belI_alloc ?_) | (with_reducible refine Below.drew ?_) | (with_reducible refine belI_drewN ?_ _) | (with_reducible refine belI_step ?_ (by assumption))))) (HM.out.below (by repeat (first | (with_reducible exact Below.refl _ _) | (with_reducible refine belI_set ?_ (by first | exact Nat.le_refl _ | simp)) | (with_reducible refine belI_alloc ?_) | (with_reducible refine Below.drew ?_) | (with_reducible refine belI_drewN ?_ _) | (with_reducible refine belI_step ?_ (by assumption)))))).mono ?_
  rintro e w1 ⟨rfl, hb1⟩
  have V1 := UAt.new w1 u
  go_wp2_with fail
  refine (HS.out _ (HT.out.below (by repeat (first | (with_reducible exact Below.refl _ _) | (with_reducible refine belI_set ?_ (by first | exact Nat.le_refl _ | simp)) | (with_reducible refine belI_alloc ?_) | (with_reducible refine Below.drew ?_) | (with_reducible refine belI_drewN ?_ _) | (with_reducible refine belI_step ?_ (by assumption)))))).mono ?_
  rintro e w2 ⟨rfl, hb2⟩
  go_wp2
  go_ret
  exact ⟨rfl, (by repeat (first | (with_reducible exact Below.refl _ _) | (with_reducible refine belI_set ?_ (by first | exact Nat.le_refl _ | simp)) | (with_reducible refine belI_alloc ?_) | (with_reducible refine Below.drew ?_) | (with_reducible refine belI_drewN ?_ _) | (with_reducible refine belI_step ?_ (by assumption))))⟩
end Go.Proofs.YtniflfgnelfpbaaDoor.Ul
