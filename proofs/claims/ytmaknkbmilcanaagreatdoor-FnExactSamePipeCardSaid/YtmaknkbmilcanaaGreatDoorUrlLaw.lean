
/-
  The walks of the laws on URLs that take a value: the size, the copy, and the law on UrlOK. The walks of UrlText, OriginOf and StripUrl, of the program and of the model. The walks of the program's functions of chapter 2 that read a URL: the parts copied, the split, the reading itself. The walks of the program's functions of chapter 2 that read a URL, the end: splitUrl and ParseUrl. The walk of the program's function of chapter 2 that reads a URL. The walks of StripUrl, of the program and of the model, and of the laws on it. The walks of SameOrigin, of the program and of the model. The law on SameOrigin, walked. The law on ParseUrl, walked. The law on StripText, walked. StripUrl and OriginOf in one, of the program and of the model; what the stripped URL is, plainly.
-/
import Derived.Test.YtmaknkbmilcanaaGreatDoorUrlImplA
import Derived.Test.YtmaknkbmilcanaaGreatDoorUrlSpecD
import Derived.Test.YtmaknkbmilcanaaGreatDoorUrlAt
import Derived.Deep.DeepCutAuto
import Derived.Test.YtmaknkbmilcanaaGreatDoorUrlSpecE
import Derived.Test.YtmaknkbmilcanaaGreatDoorUrlPlain
namespace Go.Proofs.YtmaknkbmilcanaaGreatDoor.Ul
open Go.RowKit
end Go.Proofs.YtmaknkbmilcanaaGreatDoor.Ul
namespace Go.Proofs.YtmaknkbmilcanaaGreatDoor.Ul
open Go.RowKit
attribute [local go_sem] bappI
theorem ok_port (s us h pa q f : List UInt8) (p : Int) (hq hf : Bool) (hok : okB ⟨s, us, h, p, pa, q, f, hq, hf⟩ = true) (hw : webB s = true) : 0 ≤ p ∧ p ≤ 65535 := by
  rw [okB_fields, Bool.and_eq_true] at hok
  exact fields_port s us h pa q f p hq hf hok.1 hw
theorem clone_any (l : List UInt8) (w : World) (hl : l.length ≤ 281474976710656) : Calls Tryz.prog 176 #[.string ⟨l.toArray⟩] w fun e w' => e = .returned (.string ⟨l.toArray⟩) ∧ Below w.heap.size w w' := by
  go_enter Tryz.func176, Tryz.ntmps176
  go_wp2_with fail
  refine (Tryz.stringslite_Clone ⟨l.toArray⟩ _ hl).mono ?_
  rintro e w1 ⟨rfl, hb⟩
  go_wp2
  go_ret
  exact ⟨rfl, hb⟩
end Go.Proofs.YtmaknkbmilcanaaGreatDoor.Ul
namespace Go.Proofs.YtmaknkbmilcanaaGreatDoor.Ul
open Go.RowKit
attribute [local go_sem] alloc_drewN setCell_drewN
theorem ret_one {fn : Func} {a B : Nat} {tmps : Array Value} {X : World} {u : U} (hres : fn.results = #[.cell a 264]) (ha : tmps[a]?.getD undef = .pointer (some ⟨B, 0, none⟩)) (h : UAt X B u) : (results fn tmps).run Tryz.prog X = .ok (uV u) X := by
  simp [results, hres, ha, go_sem, h.k0, h.k1, h.k2, h.k3, h.k4, h.k5, h.k6, h.k7, h.k8]
set_option maxRecDepth 100000 in
set_option maxHeartbeats 4000000 in
theorem ownParts_any (u : U) (w : World) (hl : sizeU u ≤ 140737488351232) : Calls Tryz.prog 322 #[uV u] w fun e w' => e = .returned (uV u) ∧ Below w.heap.size w w' := by
  unfold sizeU at hl
  have V0' := (UAt.new w u).alloc (.cells #[.string ⟨#[]⟩, .string ⟨#[]⟩, .string ⟨#[]⟩, .int .i64 0, .string ⟨#[]⟩, .string ⟨#[]⟩, .string ⟨#[]⟩, .bool false, .bool false] 264) (by simp)
  have Q0' := UAt.new (w.alloc (.cells #[.string ⟨u.sch.toArray⟩, .string ⟨u.usr.toArray⟩, .string ⟨u.hst.toArray⟩, .int .i64 u.prt, .string ⟨u.pth.toArray⟩, .string ⟨u.qry.toArray⟩, .string ⟨u.frg.toArray⟩, .bool u.hq, .bool u.hf] 264)) U.none
  rw [show (w.alloc (.cells #[.string ⟨u.sch.toArray⟩, .string ⟨u.usr.toArray⟩, .string ⟨u.hst.toArray⟩, .int .i64 u.prt, .string ⟨u.pth.toArray⟩, .string ⟨u.qry.toArray⟩, .string ⟨u.frg.toArray⟩, .bool u.hq, .bool u.hf] 264)).heap.size = w.heap.size + 1 from by simp] at Q0'
  have B0' : Below w.heap.size w ((w.alloc (.cells #[.string ⟨u.sch.toArray⟩, .string ⟨u.usr.toArray⟩, .string ⟨u.hst.toArray⟩, .int .i64 u.prt, .string ⟨u.pth.toArray⟩, .string ⟨u.qry.toArray⟩, .string ⟨u.frg.toArray⟩, .bool u.hq, .bool u.hf] 264)).alloc (.cells #[.string ⟨#[]⟩, .string ⟨#[]⟩, .string ⟨#[]⟩, .int .i64 0, .string ⟨#[]⟩, .string ⟨#[]⟩, .string ⟨#[]⟩, .bool false, .bool false] 264)) := belI_alloc (belI_alloc (Below.refl _ _))
  have z0 : w.heap.size + 1 < ((w.alloc (.cells #[.string ⟨u.sch.toArray⟩, .string ⟨u.usr.toArray⟩, .string ⟨u.hst.toArray⟩, .int .i64 u.prt, .string ⟨u.pth.toArray⟩, .string ⟨u.qry.toArray⟩, .string ⟨u.frg.toArray⟩, .bool u.hq, .bool u.hf] 264)).alloc (.cells #[.string ⟨#[]⟩, .string ⟨#[]⟩, .string ⟨#[]⟩, .int .i64 0, .string ⟨#[]⟩, .string ⟨#[]⟩, .string ⟨#[]⟩, .bool false, .bool false] 264)).heap.size := by simp
  go_enter Tryz.func322, Tryz.ntmps322
  go_wp2_with fail
  refine (clone_any u.usr _ (by omega)).mono ?_
  rintro e w1 ⟨rfl, hb1⟩
  have V1 := V0'.below hb1 (by simp; try omega)
  have Q1 := Q0'.below hb1 (by simp; try omega)
  have B1 := belI_step B0' hb1
  have z1 : w.heap.size + 1 < w1.heap.size := (by have := hb1.size; simp at this; omega)
  have V1' : UAt (w1.setCell ⟨w.heap.size, 1, none⟩ (.string ⟨u.usr.toArray⟩)) w.heap.size u := V1.user u.usr
  have Q1' := Q1.far ⟨w.heap.size, 1, none⟩ (.string ⟨u.usr.toArray⟩) (by show w.heap.size ≠ w.heap.size + 1; omega)
  have B1' := B1.setCell (p := ⟨w.heap.size, 1, none⟩) (Nat.le_refl _) (.string ⟨u.usr.toArray⟩)
  clear hb1 V0' Q0' B0' Q1 B1 z0
  obtain ⟨x0, x1, x2, x3, x4, x5, x6, x7, x8, xf⟩ := V1
  go_wp2_with fail
  refine (clone_any u.pth _ (by omega)).mono ?_
  rintro e w2 ⟨rfl, hb2⟩
  have V2 := V1'.below hb2 (by simp; try omega)
  have Q2 := Q1'.below hb2 (by simp; try omega)
  have B2 := belI_step B1' hb2
  have z2 : w.heap.size + 1 < w2.heap.size := (by have := hb2.size; simp at this; omega)
  have V2' : UAt (w2.setCell ⟨w.heap.size, 4, none⟩ (.string ⟨u.pth.toArray⟩)) w.heap.size u := V2.path u.pth
  have Q2' := Q2.far ⟨w.heap.size, 4, none⟩ (.string ⟨u.pth.toArray⟩) (by show w.heap.size ≠ w.heap.size + 1; omega)
  have B2' := B2.setCell (p := ⟨w.heap.size, 4, none⟩) (Nat.le_refl _) (.string ⟨u.pth.toArray⟩)
  clear hb2 V1' Q1' B1' Q2 B2 z1 x0 x1 x2 x3 x4 x5 x6 x7 x8 xf
  obtain ⟨x0, x1, x2, x3, x4, x5, x6, x7, x8, xf⟩ := V2
  go_wp2_with fail
  refine (clone_any u.qry _ (by omega)).mono ?_
  rintro e w3 ⟨rfl, hb3⟩
  have V3 := V2'.below hb3 (by simp; try omega)
  have Q3 := Q2'.below hb3 (by simp; try omega)
  have B3 := belI_step B2' hb3
  have z3 : w.heap.size + 1 < w3.heap.size := (by have := hb3.size; simp at this; omega)
  have V3' : UAt (w3.setCell ⟨w.heap.size, 5, none⟩ (.string ⟨u.qry.toArray⟩)) w.heap.size u := V3.query u.qry
  have Q3' := Q3.far ⟨w.heap.size, 5, none⟩ (.string ⟨u.qry.toArray⟩) (by show w.heap.size ≠ w.heap.size + 1; omega)
  have B3' := B3.setCell (p := ⟨w.heap.size, 5, none⟩) (Nat.le_refl _) (.string ⟨u.qry.toArray⟩)
  clear hb3 V2' Q2' B2' Q3 B3 z2 x0 x1 x2 x3 x4 x5 x6 x7 x8 xf
  obtain ⟨x0, x1, x2, x3, x4, x5, x6, x7, x8, xf⟩ := V3
  go_wp2_with fail
  refine (clone_any u.frg _ (by omega)).mono ?_
  rintro e w4 ⟨rfl, hb4⟩
  have V4 := V3'.below hb4 (by simp; try omega)
  have Q4 := Q3'.below hb4 (by simp; try omega)
  have B4 := belI_step B3' hb4
  have z4 : w.heap.size + 1 < w4.heap.size := (by have := hb4.size; simp at this; omega)
  have V4' : UAt (w4.setCell ⟨w.heap.size, 6, none⟩ (.string ⟨u.frg.toArray⟩)) w.heap.size u := V4.frag u.frg
  have Q4' := Q4.far ⟨w.heap.size, 6, none⟩ (.string ⟨u.frg.toArray⟩) (by show w.heap.size ≠ w.heap.size + 1; omega)
  have B4' := B4.setCell (p := ⟨w.heap.size, 6, none⟩) (Nat.le_refl _) (.string ⟨u.frg.toArray⟩)
  clear hb4 V3' Q3' B3' Q4 B4 z3 x0 x1 x2 x3 x4 x5 x6 x7 x8 xf
  obtain ⟨x0, x1, x2, x3, x4, x5, x6, x7, x8, xf⟩ := V4
  go_upto_region 5 with fail
  generalize w4.setCell ⟨w.heap.size, 6, none⟩ (.string ⟨u.frg.toArray⟩) = X at *
  clear x0 x1 x2 x3 x4 x5 x6 x7 x8 xf
  obtain ⟨x0, x1, x2, x3, x4, x5, x6, x7, x8, xf⟩ := V4'
  obtain ⟨q0, q1, q2, q3, q4, q5, q6, q7, q8, qf⟩ := Q4'
  go_wp2
  refine bodyPost_ret (ret_one (u := u) (a := 2) (B := w.heap.size + 1) Tryz.results322 rfl ?_) rfl ⟨rfl, ?_⟩
  · refine ⟨?_, ?_, ?_, ?_, ?_, ?_, ?_, ?_, ?_, ?_⟩
    all_goals (simp [go_sem, *]; done)
  · exact (by repeat (first | (with_reducible exact Below.refl _ _) | (with_reducible refine belI_set ?_ (by first | exact Nat.le_refl _ | simp)) | (with_reducible refine belI_alloc ?_) | (with_reducible refine Below.drew ?_) | (with_reducible refine belI_drewN ?_ _) | (with_reducible refine belI_step ?_ (by assumption))))
end Go.Proofs.YtmaknkbmilcanaaGreatDoor.Ul
namespace Go.Proofs.YtmaknkbmilcanaaGreatDoor.Ul
open Go.RowKit
attribute [local go_sem] alloc_drewN setCell_drewN
def spU (s rest : List UInt8) : U := if webB s then (if slash2 rest then webU s (rest.drop 2) else U.none) else otherU s rest
def spB (s rest : List UInt8) : Bool := if webB s then slash2 rest && webSplitB (rest.drop 2) else true
theorem slash2_eq {l : List UInt8} (h : slash2 l = true) : l = 47 :: 47 :: l.drop 2 := by
  match l, h with
  | a :: b :: r, h =>
    simp [slash2] at h
    obtain ⟨rfl, rfl⟩ := h
    rfl
theorem split_sp (t : List UInt8) : splitB t = (hasB t 58 && spB (lowL (befL t 58)) (aftL t 58)) := by
  unfold splitB spB
  cases webB (lowL (befL t 58)) <;> simp
theorem split_spU (t : List UInt8) (h : spB (lowL (befL t 58)) (aftL t 58) = true) : splitU t = spU (lowL (befL t 58)) (aftL t 58) := by
  unfold splitU spU
  unfold spB at h
  cases hw : webB (lowL (befL t 58)) with
  | false => rfl
  | true =>
    rw [hw] at h
    simp only [if_true, Bool.and_eq_true] at h
    simp [h.1]
set_option maxRecDepth 100000 in
set_option maxHeartbeats 4000000 in
theorem splitUrl_any (s rest : List UInt8) (w : World) (hM : MaxL w) (hl : rest.length ≤ 4294967280) : Calls Tryz.prog 319 #[.string ⟨s.toArray⟩, .string ⟨rest.toArray⟩] w fun e w' => e = .returned (.tuple #[uV (spU s rest), .bool (spB s rest)]) ∧ Below w.heap.size w w' := by
  have HM := Lib.hid hM
  clear hM
  cases hw : webB s with
  | true =>
    have HW : Hid (∀ W, MaxL W → Calls Tryz.prog 349 #[.string ⟨s.toArray⟩, .string ⟨rest.toArray⟩] W fun e w' => e = .returned (.tuple #[uV (spU s rest), .bool (spB s rest)]) ∧ Below W.heap.size W w') := Lib.hid (by
      intro W hM
      cases hs : slash2 rest with
      | true =>
        have hlr : (rest.drop 2).length ≤ 4294967280 := by simp; omega
        have e1 : spU s rest = webU s (rest.drop 2) := by simp [spU, hw, hs]
        have e2 : spB s rest = webSplitB (rest.drop 2) := by simp [spB, hw, hs]
        rw [e1, e2]
        have e3 := slash2_eq hs
        generalize rest.drop 2 = r at *
        subst e3
        exact splitWeb_any s r W hM hw hlr
      | false =>
        have e1 : spU s rest = U.none := by simp [spU, hw, hs]
        have e2 : spB s rest = false := by simp [spB, hw, hs]
        rw [e1, e2]
        exact splitWeb_no s rest W hs)
    generalize spU s rest = u at *
    generalize spB s rest = b at *
    go_enter Tryz.func319, Tryz.ntmps319
    go_wp2_with (go_at_call 323; refine (isWeb_any _ _).mono ?_; rintro e w' ⟨rfl, rfl⟩)
    refine (HW.out _ (HM.out.below (by repeat (first | (with_reducible exact Below.refl _ _) | (with_reducible refine belI_set ?_ (by first | exact Nat.le_refl _ | simp)) | (with_reducible refine belI_alloc ?_) | (with_reducible refine Below.drew ?_) | (with_reducible refine belI_drewN ?_ _) | (with_reducible refine belI_step ?_ (by assumption)))))).mono ?_
    rintro e w1 ⟨rfl, hb⟩
    have Q := (UAt.new w U.none).below hb (by simp)
    have hz : w.heap.size < w1.heap.size := by have := hb.size; simp at this; omega
    have hbw : Below w.heap.size w w1 := belI_step (belI_alloc (Below.refl _ _)) hb
    clear hb
    obtain ⟨q0, q1, q2, q3, q4, q5, q6, q7, q8, qf⟩ := Q
    go_wp2
    refine bodyPost_ret (ret_url2 (u := u) (a := 4) (s := 5) (B := w.heap.size) (c := .bool b) Tryz.results319 rfl rfl ?_ ?_ ?_ ?_ ?_ ?_ ?_ ?_ ?_) rfl ⟨rfl, ?_⟩
    rotate_left 9
    · exact (by repeat (first | (with_reducible exact Below.refl _ _) | (with_reducible refine belI_set ?_ (by first | exact Nat.le_refl _ | simp)) | (with_reducible refine belI_alloc ?_) | (with_reducible refine Below.drew ?_) | (with_reducible refine belI_drewN ?_ _) | (with_reducible refine belI_step ?_ (by assumption))))
    all_goals (simp [go_sem, *]; done)
  | false =>
    have e1 : spU s rest = ⟨s, [], [], 0, beforeQ rest, [], [], false, false⟩ := by simp [spU, hw, otherU, U.none]
    have e2 : spB s rest = true := by simp [spB, hw]
    have hb1 := bef_len rest 35
    rw [e1, e2]
    clear e1 e2
    go_enter Tryz.func319, Tryz.ntmps319
    go_wp2_with (go_at_call 323; refine (isWeb_any _ _).mono ?_; rintro e w' ⟨rfl, rfl⟩)
    refine (cut_any rest 35 35 rfl _ (HM.out.below (by repeat (first | (with_reducible exact Below.refl _ _) | (with_reducible refine belI_set ?_ (by first | exact Nat.le_refl _ | simp)) | (with_reducible refine belI_alloc ?_) | (with_reducible refine Below.drew ?_) | (with_reducible refine belI_drewN ?_ _) | (with_reducible refine belI_step ?_ (by assumption))))) (by omega)).mono ?_
    rintro e w1 ⟨rfl, n1, rfl⟩
    go_wp2_with fail
    refine (cut_any (befL rest 35) 63 63 rfl _ (HM.out.below (by repeat (first | (with_reducible exact Below.refl _ _) | (with_reducible refine belI_set ?_ (by first | exact Nat.le_refl _ | simp)) | (with_reducible refine belI_alloc ?_) | (with_reducible refine Below.drew ?_) | (with_reducible refine belI_drewN ?_ _) | (with_reducible refine belI_step ?_ (by assumption))))) (by omega)).mono ?_
    rintro e w1 ⟨rfl, n2, rfl⟩
    go_wp2
    refine bodyPost_ret (v := .tuple #[uV ⟨s, [], [], 0, beforeQ rest, [], [], false, false⟩, .bool true]) (by simp [results, Tryz.results319, go_sem, beforeQ]) rfl ⟨rfl, ?_⟩
    exact (by repeat (first | (with_reducible exact Below.refl _ _) | (with_reducible refine belI_set ?_ (by first | exact Nat.le_refl _ | simp)) | (with_reducible refine belI_alloc ?_) | (with_reducible refine Below.drew ?_) | (with_reducible refine belI_drewN ?_ _) | (with_reducible refine belI_step ?_ (by assumption))))
end Go.Proofs.YtmaknkbmilcanaaGreatDoor.Ul
namespace Go.Proofs.YtmaknkbmilcanaaGreatDoor.Ul
open Go.RowKit
attribute [local go_sem] alloc_drewN setCell_drewN
def parseC (t : List UInt8) : Int := if parseB t then 0 else 3
theorem parse_sp (t : List UInt8) : parseB t = (hasB t 58 && (spB (lowL (befL t 58)) (aftL t 58) && okB (spU (lowL (befL t 58)) (aftL t 58)))) := by
  unfold parseB
  rw [split_sp]
  cases hs : spB (lowL (befL t 58)) (aftL t 58) with
  | false => simp
  | true => rw [split_spU t hs]; simp
theorem parse_no {t : List UInt8} (h : parseB t = false) : parseU t = U.none ∧ parseC t = 3 := by simp [parseU, parseC, h]
theorem parse_yes {t : List UInt8} (h : parseB t = true) : parseU t = spU (lowL (befL t 58)) (aftL t 58) ∧ parseC t = 0 := by
  have h' := h
  rw [parse_sp] at h'
  simp only [Bool.and_eq_true] at h'
  refine ⟨?_, by simp [parseC, h]⟩
  simp only [parseU, h, if_true]
  exact split_spU t h'.2.1
theorem UrlOKu_any (u : U) (w : World) (hT : Tab w) (hl : sizeU u ≤ 4611686018427387904) : Calls Tryz.prog 321 #[uV u] w fun e w' => e = .returned (.bool (okB u)) ∧ Below w.heap.size w w' :=
  UrlOK_any u.sch u.usr u.hst u.pth u.qry u.frg u.prt u.hq u.hf w hT hl
theorem webI_size (s r : List UInt8) (hs : s.length ≤ 4294967280) (hr : r.length ≤ 4294967280) : sizeU (webU s r) ≤ 140737488351232 := by
  have a := bef_len r 35
  have a2 := aft_len r 35
  have b := bef_len (befL r 35) 63
  have b2 := aft_len (befL r 35) 63
  have c := bef_len (beforeQ r) 47
  have c2 := aft_len (beforeQ r) 47
  have d := siteI_len r
  have e := bef_len (siteOf r) 58
  have f := low_len (befL (siteOf r) 58)
  have g := bef_len (befL (beforeQ r) 47) 64
  have h : (userOf (befL (beforeQ r) 47)).length ≤ (befL (beforeQ r) 47).length := by unfold userOf; split; exact g; simp
  have i : (beforeQ r).length ≤ r.length := Nat.le_trans b a
  simp only [sizeU, webU, List.length_cons]
  omega
theorem spU_size (s rest : List UInt8) (hs : s.length ≤ 4294967280) (hr : rest.length ≤ 4294967280) : sizeU (spU s rest) ≤ 140737488351232 := by
  unfold spU
  split
  · split
    · exact webI_size s _ hs (by simp; omega)
    · simp [sizeU, U.none]
  · have a := bef_len rest 35
    have b := bef_len (befL rest 35) 63
    simp only [sizeU, otherU, U.none, beforeQ, List.length_nil]
    omega
set_option maxRecDepth 100000 in
set_option maxHeartbeats 4000000 in
theorem parseI_any (t : List UInt8) (w : World) (hT : Tab w) (hM : MaxL w) (hl : t.length ≤ 65536) : Calls Tryz.prog 252 #[.string ⟨t.toArray⟩] w fun e w' => e = .returned (.tuple #[uV (parseU t), .int .i64 (parseC t)]) ∧ Below w.heap.size w w' := by
  have HM := Lib.hid hM
  have HT := Lib.hid hT
  clear hM hT
  have hl1 := bef_len t 58
  have hl2 := aft_len t 58
  have hl3 := low_len (befL t 58)
  have HZ := Lib.hid (spU_size (lowL (befL t 58)) (aftL t 58) (by omega) (by omega))
  have HS := Lib.hid (fun W hM => splitUrl_any (lowL (befL t 58)) (aftL t 58) W hM (by omega))
  have HP := Lib.hid (parse_sp t)
  have HN := Lib.hid (@parse_no t)
  have HY := Lib.hid (@parse_yes t)
  have HL := Lib.hid (fun W => lowerI_any (befL t 58) W (by omega))
  clear hl3
  generalize lowL (befL t 58) = s at *
  cases hh : hasB t 58 with
  | false =>
    have F := Lib.hid (HN.out (by rw [HP.out, hh]; rfl))
    clear HP HN HY HZ HS HL
    go_enter Tryz.func252, Tryz.ntmps252
    go_wp2_with fail
    refine (cut_any t 58 58 rfl _ (HM.out.below (by repeat (first | (with_reducible exact Below.refl _ _) | (with_reducible refine belI_set ?_ (by first | exact Nat.le_refl _ | simp)) | (with_reducible refine belI_alloc ?_) | (with_reducible refine Below.drew ?_) | (with_reducible refine belI_drewN ?_ _) | (with_reducible refine belI_step ?_ (by assumption))))) (by omega)).mono ?_
    rintro e w1 ⟨rfl, n1, rfl⟩
    go_wp2
    refine bodyPost_ret (v := .tuple #[uV U.none, .int .i64 3]) (by simp [results, Tryz.results252, go_sem, U.none]) rfl ⟨by rw [F.out.1, F.out.2], (by repeat (first | (with_reducible exact Below.refl _ _) | (with_reducible refine belI_set ?_ (by first | exact Nat.le_refl _ | simp)) | (with_reducible refine belI_alloc ?_) | (with_reducible refine Below.drew ?_) | (with_reducible refine belI_drewN ?_ _) | (with_reducible refine belI_step ?_ (by assumption))))⟩
  | true =>
    rw [hh] at HP
    generalize hrr : aftL t 58 = rest at *
    have HOK := Lib.hid (fun W hT => UrlOKu_any (spU s rest) W hT (by have := HZ.out; omega))
    have HOW := Lib.hid (fun W => ownParts_any (spU s rest) W HZ.out)
    generalize spU s rest = u at *
    cases hb : spB s rest with
    | false =>
      rw [hb] at HS
      have F := Lib.hid (HN.out (by rw [HP.out, hb]; rfl))
      clear HP HN HY HZ hb HOK HOW
      go_enter Tryz.func252, Tryz.ntmps252
      go_wp2_with fail
      refine (cut_any t 58 58 rfl _ (HM.out.below (by repeat (first | (with_reducible exact Below.refl _ _) | (with_reducible refine belI_set ?_ (by first | exact Nat.le_refl _ | simp)) | (with_reducible refine belI_alloc ?_) | (with_reducible refine Below.drew ?_) | (with_reducible refine belI_drewN ?_ _) | (with_reducible refine belI_step ?_ (by assumption))))) (by omega)).mono ?_
      rintro e w1 ⟨rfl, n1, rfl⟩
      rw [hrr]
      go_wp2_with fail
      refine (HL.out _).mono ?_
      rintro e w1 ⟨rfl, hb1⟩
      have Q1 := ((UAt.new w U.none).drewN n1).below hb1 (by simp)
      have B1 : Below w.heap.size w w1 := belI_step (belI_drewN (belI_alloc (Below.refl _ _)) _) hb1
      have z1 : w.heap.size < w1.heap.size := by have := hb1.size; simp at this; omega
      clear hb1
      go_wp2_with fail
      refine (HS.out _ (HM.out.below B1)).mono ?_
      rintro e w2 ⟨rfl, hb2⟩
      have Q2 := Q1.below hb2 (by omega)
      have B2 := belI_step B1 hb2
      have z2 : w.heap.size < w2.heap.size := by have := hb2.size; omega
      clear hb2 Q1 B1 z1
      obtain ⟨q0, q1, q2, q3, q4, q5, q6, q7, q8, qf⟩ := Q2
      go_wp2
      refine bodyPost_ret (ret_url2 (u := U.none) (a := 2) (s := 3) (B := w.heap.size) (c := .int .i64 3) Tryz.results252 rfl rfl ?_ ?_ ?_ ?_ ?_ ?_ ?_ ?_ ?_) rfl ⟨by rw [F.out.1, F.out.2], ?_⟩
      rotate_left 9
      · exact (by repeat (first | (with_reducible exact Below.refl _ _) | (with_reducible refine belI_set ?_ (by first | exact Nat.le_refl _ | simp)) | (with_reducible refine belI_alloc ?_) | (with_reducible refine Below.drew ?_) | (with_reducible refine belI_drewN ?_ _) | (with_reducible refine belI_step ?_ (by assumption))))
      all_goals (simp [go_sem, U.none, *]; done)
    | true =>
      rw [hb] at HS HP
      cases ho : okB u with
      | false =>
        rw [ho] at HOK HP
        have F := Lib.hid (HN.out (by rw [HP.out]; rfl))
        go_enter Tryz.func252, Tryz.ntmps252
        go_wp2_with fail
        refine (cut_any t 58 58 rfl _ (HM.out.below (by repeat (first | (with_reducible exact Below.refl _ _) | (with_reducible refine belI_set ?_ (by first | exact Nat.le_refl _ | simp)) | (with_reducible refine belI_alloc ?_) | (with_reducible refine Below.drew ?_) | (with_reducible refine belI_drewN ?_ _) | (with_reducible refine belI_step ?_ (by assumption))))) (by omega)).mono ?_
        rintro e w1 ⟨rfl, n1, rfl⟩
        rw [hrr]
        go_wp2_with fail
        refine (HL.out _).mono ?_
        rintro e w1 ⟨rfl, hb1⟩
        have Q1 := ((UAt.new w U.none).drewN n1).below hb1 (by simp)
        have B1 : Below w.heap.size w w1 := belI_step (belI_drewN (belI_alloc (Below.refl _ _)) _) hb1
        have z1 : w.heap.size < w1.heap.size := by have := hb1.size; simp at this; omega
        clear hb1
        go_wp2_with fail
        refine (HS.out _ (HM.out.below B1)).mono ?_
        rintro e w2 ⟨rfl, hb2⟩
        have Q2 := Q1.below hb2 (by omega)
        have B2 := belI_step B1 hb2
        have z2 : w.heap.size < w2.heap.size := by have := hb2.size; omega
        clear hb2 Q1 B1 z1
        have Q2' := Q2
        have V2 := UAt.new w2 u
        obtain ⟨x0, x1, x2, x3, x4, x5, x6, x7, x8, xf⟩ := V2
        go_wp2_with fail
        refine (HOK.out _ (HT.out.below (by repeat (first | (with_reducible exact Below.refl _ _) | (with_reducible refine belI_set ?_ (by first | exact Nat.le_refl _ | simp)) | (with_reducible refine belI_alloc ?_) | (with_reducible refine Below.drew ?_) | (with_reducible refine belI_drewN ?_ _) | (with_reducible refine belI_step ?_ (by assumption)))))).mono ?_
        rintro e w3 ⟨rfl, hb3⟩
        have Q3 := (Q2'.alloc _ z2).below hb3 (by simp; omega)
        have z3 : w.heap.size < w3.heap.size := by have := hb3.size; simp at this; omega
        obtain ⟨q0, q1, q2, q3, q4, q5, q6, q7, q8, qf⟩ := Q3
        clear x0 x1 x2 x3 x4 x5 x6 x7 x8 xf Q2 Q2'
        go_wp2
        refine bodyPost_ret (ret_url2 (u := U.none) (a := 2) (s := 3) (B := w.heap.size) (c := .int .i64 3) Tryz.results252 rfl rfl ?_ ?_ ?_ ?_ ?_ ?_ ?_ ?_ ?_) rfl ⟨by rw [F.out.1, F.out.2], ?_⟩
        rotate_left 9
        · exact (by repeat (first | (with_reducible exact Below.refl _ _) | (with_reducible refine belI_set ?_ (by first | exact Nat.le_refl _ | simp)) | (with_reducible refine belI_alloc ?_) | (with_reducible refine Below.drew ?_) | (with_reducible refine belI_drewN ?_ _) | (with_reducible refine belI_step ?_ (by assumption))))
        all_goals (simp [go_sem, U.none, *]; done)
      | true =>
        rw [ho] at HOK HP
        have F := Lib.hid (HY.out (by rw [HP.out]; rfl))
        go_enter Tryz.func252, Tryz.ntmps252
        go_wp2_with fail
        refine (cut_any t 58 58 rfl _ (HM.out.below (by repeat (first | (with_reducible exact Below.refl _ _) | (with_reducible refine belI_set ?_ (by first | exact Nat.le_refl _ | simp)) | (with_reducible refine belI_alloc ?_) | (with_reducible refine Below.drew ?_) | (with_reducible refine belI_drewN ?_ _) | (with_reducible refine belI_step ?_ (by assumption))))) (by omega)).mono ?_
        rintro e w1 ⟨rfl, n1, rfl⟩
        rw [hrr]
        go_wp2_with fail
        refine (HL.out _).mono ?_
        rintro e w1 ⟨rfl, hb1⟩
        have Q1 := ((UAt.new w U.none).drewN n1).below hb1 (by simp)
        have B1 : Below w.heap.size w w1 := belI_step (belI_drewN (belI_alloc (Below.refl _ _)) _) hb1
        have z1 : w.heap.size < w1.heap.size := by have := hb1.size; simp at this; omega
        clear hb1
        go_wp2_with fail
        refine (HS.out _ (HM.out.below B1)).mono ?_
        rintro e w2 ⟨rfl, hb2⟩
        have Q2 := Q1.below hb2 (by omega)
        have B2 := belI_step B1 hb2
        have z2 : w.heap.size < w2.heap.size := by have := hb2.size; omega
        clear hb2 Q1 B1 z1
        have V2 := UAt.new w2 u
        go_wp2_with fail
        refine (HOK.out _ (HT.out.below (by repeat (first | (with_reducible exact Below.refl _ _) | (with_reducible refine belI_set ?_ (by first | exact Nat.le_refl _ | simp)) | (with_reducible refine belI_alloc ?_) | (with_reducible refine Below.drew ?_) | (with_reducible refine belI_drewN ?_ _) | (with_reducible refine belI_step ?_ (by assumption)))))).mono ?_
        rintro e w3 ⟨rfl, hb3⟩
        have Q3 := (Q2.alloc _ z2).below hb3 (by simp; omega)
        have V3 := V2.below hb3 (by simp)
        have z3 : w.heap.size < w3.heap.size := by have := hb3.size; simp at this; omega
        have B3 : Below w.heap.size w w3 := belI_step (belI_alloc B2) hb3
        clear V2 Q2 hb3 B2
        obtain ⟨x0, x1, x2, x3, x4, x5, x6, x7, x8, xf⟩ := V3
        go_wp2_with fail
        refine (HOW.out _).mono ?_
        rintro e w4 ⟨rfl, hb4⟩
        have Q4 := Q3.below hb4 z3
        have z4 : w.heap.size < w4.heap.size := by have := hb4.size; omega
        obtain ⟨q0, q1, q2, q3, q4, q5, q6, q7, q8, qf⟩ := Q4
        clear x0 x1 x2 x3 x4 x5 x6 x7 x8 xf Q3
        go_wp2
        refine bodyPost_ret (ret_url2 (u := u) (a := 2) (s := 3) (B := w.heap.size) (c := .int .i64 0) Tryz.results252 rfl rfl ?_ ?_ ?_ ?_ ?_ ?_ ?_ ?_ ?_) rfl ⟨by rw [F.out.1, F.out.2], ?_⟩
        rotate_left 9
        · exact (by repeat (first | (with_reducible exact Below.refl _ _) | (with_reducible refine belI_set ?_ (by first | exact Nat.le_refl _ | simp)) | (with_reducible refine belI_alloc ?_) | (with_reducible refine Below.drew ?_) | (with_reducible refine belI_drewN ?_ _) | (with_reducible refine belI_step ?_ (by assumption))))
        all_goals (simp [go_sem, *]; done)
end Go.Proofs.YtmaknkbmilcanaaGreatDoor.Ul
namespace Go.Proofs.YtmaknkbmilcanaaGreatDoor.Ul
open Go.RowKit
attribute [local go_sem] bappI
end Go.Proofs.YtmaknkbmilcanaaGreatDoor.Ul
namespace Go.Proofs.YtmaknkbmilcanaaGreatDoor.Ul
open Go.RowKit
end Go.Proofs.YtmaknkbmilcanaaGreatDoor.Ul
namespace Go.Proofs.YtmaknkbmilcanaaGreatDoor.Ul
open Go.RowKit
end Go.Proofs.YtmaknkbmilcanaaGreatDoor.Ul
namespace Go.Proofs.YtmaknkbmilcanaaGreatDoor.Ul
open Go.RowKit
def PU (t : List UInt8) : U := if 65536 < t.length then U.none else parseU t
def PC (t : List UInt8) : Int := if 65536 < t.length then 2 else parseC t
theorem pI_any (t : List UInt8) (w : World) (hT : Tab w) (hM : MaxL w) (hl : t.length ≤ 9223372036854775807) : Calls Tryz.prog 252 #[.string ⟨t.toArray⟩] w fun e w' => e = .returned (.tuple #[uV (PU t), .int .i64 (PC t)]) ∧ Below w.heap.size w w' := by
  by_cases h : 65536 < t.length
  · have e1 : PU t = U.none := by simp [PU, h]
    have e2 : PC t = 2 := by simp [PC, h]
    rw [e1, e2]
    clear e1 e2
    go_enter Tryz.func252, Tryz.ntmps252
    go_wp2
    exact bodyPost_ret (v := .tuple #[uV U.none, .int .i64 2]) (by simp [results, Tryz.results252, go_sem, U.none]) rfl ⟨rfl, (by repeat (first | (with_reducible exact Below.refl _ _) | (with_reducible refine belI_set ?_ (by first | exact Nat.le_refl _ | simp)) | (with_reducible refine belI_alloc ?_) | (with_reducible refine Below.drew ?_) | (with_reducible refine belI_drewN ?_ _) | (with_reducible refine belI_step ?_ (by assumption))))⟩
  · have e1 : PU t = parseU t := by simp [PU, h]
    have e2 : PC t = parseC t := by simp [PC, h]
    rw [e1, e2]
    exact parseI_any t w hT hM (by omega)
end Go.Proofs.YtmaknkbmilcanaaGreatDoor.Ul
namespace Go.Proofs.YtmaknkbmilcanaaGreatDoor.Ul
open Go.RowKit
theorem split_size (t : List UInt8) (hl : t.length ≤ 4294967280) : sizeU (parseX t) ≤ 140737488351232 := by
  unfold parseX
  have h1 := bef_len t 58
  have h2 := low_len (befL t 58)
  have h3 := aft_len t 58
  cases hs : splitB t with
  | false => simp [sizeU, U.none]
  | true =>
    have hsp := hs
    rw [split_sp] at hsp
    simp only [Bool.and_eq_true] at hsp
    simp only [if_true]
    rw [split_spU t hsp.2]
    exact spU_size _ _ (by omega) (by omega)
theorem PU_size (t : List UInt8) : sizeU (PU t) ≤ 140737488351232 := by
  unfold PU
  split
  · simp [sizeU, U.none]
  · unfold parseU
    cases hb : parseB t with
    | false => simp [sizeU, U.none]
    | true =>
      have hb' := hb
      unfold parseB at hb'
      simp only [Bool.and_eq_true] at hb'
      have := split_size t (by omega)
      simpa [parseX, hb'.1] using this
theorem parseX_port (t : List UInt8) : (parseX t).prt ≤ 9223372036854775807 := by
  unfold parseX
  split
  · unfold splitU
    split
    · exact webU_port _ _
    · simp [otherU, U.none]
  · simp [U.none]
end Go.Proofs.YtmaknkbmilcanaaGreatDoor.Ul
namespace Go.Proofs.YtmaknkbmilcanaaGreatDoor.Ul
open Go.RowKit
/-! ### Plainly: the stripped URL -/
def bare (u : U) : U := ⟨u.sch, [], u.hst, u.prt, u.pth, u.qry, [], u.hq, false⟩
theorem PU_back (u : U) (hok : okB u = true) : PU (textL u) = u ∧ PC (textL u) = 0 ∧ ¬ 65536 < (textL u).length := by
  obtain ⟨h1, h2⟩ := parse_back u hok
  have hl := text_len u hok
  have h : ¬ 65536 < (textL u).length := by omega
  exact ⟨by simp [PU, h, h2], by simp [PC, h, parseC, h1], h⟩
theorem ok_fields (u : U) (hok : okB u = true) (hw : webB u.sch = true) : 0 ≤ u.prt ∧ u.prt ≤ 65535 := ok_port u.sch u.usr u.hst u.pth u.qry u.frg u.prt u.hq u.hf hok hw
end Go.Proofs.YtmaknkbmilcanaaGreatDoor.Ul
