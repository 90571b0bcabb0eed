
/-
  The walk of the program's function of chapter 2 that reads a URL.
-/
import Derived.Test.YtniflfgnelfpbaaDoorUrlImplJ
namespace Go.Proofs.YtniflfgnelfpbaaDoor.Ul
open Go.RowKit
attribute [local go_sem] alloc_drewN setCell_drewN
def parseC (t : List UInt8) : Int := if parseB t then 0 else 3
theorem parse_sp (t : List UInt8) : parseB t = (hasB t 58 && (spB (lowL (befL t 58)) (aftL t 58) && okB (spU (lowL (befL t 58)) (aftL t 58)))) := by
  unfold parseB
  rw [split_sp]
  cases hs : spB (lowL (befL t 58)) (aftL t 58) with
  | false => simp
  | true => rw [split_spU t hs]; simp
theorem parse_no {t : List UInt8} (h : parseB t = false) : parseU t = U.none ∧ parseC t = 3 := by simp [parseU, parseC, h]
theorem parse_yes {t : List UInt8} (h : parseB t = true) : parseU t = spU (lowL (befL t 58)) (aftL t 58) ∧ parseC t = 0 := by
  have h' := h
  rw [parse_sp] at h'
  simp only [Bool.and_eq_true] at h'
  refine ⟨?_, by simp [parseC, h]⟩
  simp only [parseU, h, if_true]
  exact split_spU t h'.2.1
theorem UrlOKu_any (u : U) (w : World) (hT : Tab w) (hl : sizeU u ≤ 4611686018427387904) : Calls Tryd.prog 75 #[uV u] w fun e w' => e = .returned (.bool (okB u)) ∧ Below w.heap.size w w' :=
  UrlOK_any u.sch u.usr u.hst u.pth u.qry u.frg u.prt u.hq u.hf w hT hl
theorem webI_size (s r : List UInt8) (hs : s.length ≤ 4294967280) (hr : r.length ≤ 4294967280) : sizeU (webU s r) ≤ 140737488351232 := by
  have a := bef_len r 35
  have a2 := aft_len r 35
  have b := bef_len (befL r 35) 63
  have b2 := aft_len (befL r 35) 63
  have c := bef_len (beforeQ r) 47
  have c2 := aft_len (beforeQ r) 47
  have d := siteI_len r
  have e := bef_len (siteOf r) 58
  have f := low_len (befL (siteOf r) 58)
  have g := bef_len (befL (beforeQ r) 47) 64
  have h : (userOf (befL (beforeQ r) 47)).length ≤ (befL (beforeQ r) 47).length := by unfold userOf; split; exact g; simp
  have i : (beforeQ r).length ≤ r.length := Nat.le_trans b a
  simp only [sizeU, webU, List.length_cons]
  omega
theorem spU_size (s rest : List UInt8) (hs : s.length ≤ 4294967280) (hr : rest.length ≤ 4294967280) : sizeU (spU s rest) ≤ 140737488351232 := by
  unfold spU
  split
  · split
    · exact webI_size s _ hs (by simp; omega)
    · simp [sizeU, U.none]
  · have a := bef_len rest 35
    have b := bef_len (befL rest 35) 63
    simp only [sizeU, otherU, U.none, beforeQ, List.length_nil]
    omega
set_option maxRecDepth 100000 in
set_option maxHeartbeats 4000000 in
theorem parseI_any (t : List UInt8) (w : World) (hT : Tab w) (hM : MaxL w) (hl : t.length ≤ 65536) : Calls Tryd.prog 46 #[.string ⟨t.toArray⟩] w fun e w' => e = .returned (.tuple #[uV (parseU t), .int .i64 (parseC t)]) ∧ Below w.heap.size w w' := by
  have HM := Lib.hid hM
  have HT := Lib.hid hT
  clear hM hT
  have hl1 := bef_len t 58
  have hl2 := aft_len t 58
  have hl3 := low_len (befL t 58)
  have HZ := Lib.hid (spU_size (lowL (befL t 58)) (aftL t 58) (by omega) (by omega))
  have HS := Lib.hid (fun W hM => splitUrl_any (lowL (befL t 58)) (aftL t 58) W hM (by omega))
  have HP := Lib.hid (parse_sp t)
  have HN := Lib.hid (@parse_no t)
  have HY := Lib.hid (@parse_yes t)
  have HL := Lib.hid (fun W => lowerI_any (befL t 58) W (by omega))
  clear hl3
  generalize lowL (befL t 58) = s at *
  cases hh : hasB t 58 with
  | false =>
    have F := Lib.hid (HN.out (by rw [HP.out, hh]; rfl))
    clear HP HN HY HZ HS HL
    go_enter Tryd.func46, Tryd.ntmps46
    go_wp2_with fail
    refine (cut_any t 58 58 rfl _ (HM.out.below (by repeat (first | (with_reducible exact Below.refl _ _) | (with_reducible refine belI_set ?_ (by first | exact Nat.le_refl _ | simp)) | (with_reducible refine belI_alloc ?_) | (with_reducible refine Below.drew ?_) | (with_reducible refine belI_drewN ?_ _) | (with_reducible refine belI_step ?_ (by assumption))))) (by omega)).mono ?_
    rintro e w1 ⟨rfl, n1, rfl⟩
    go_wp2
    refine bodyPost_ret (v := .tuple #[uV U.none, .int .i64 3]) (by simp [results, Tryd.results46, go_sem, U.none]) rfl ⟨by rw [F.out.1, F.out.2], (by repeat (first | (with_reducible exact Below.refl _ _) | (with_reducible refine belI_set ?_ (by first | exact Nat.le_refl _ | simp)) | (with_reducible refine belI_alloc ?_) | (with_reducible refine Below.drew ?_) | (with_reducible refine belI_drewN ?_ _) | (with_reducible refine belI_step ?_ (by assumption))))⟩
  | true =>
    rw [hh] at HP
    generalize hrr : aftL t 58 = rest at *
    have HOK := Lib.hid (fun W hT => UrlOKu_any (spU s rest) W hT (by have := HZ.out; omega))
    have HOW := Lib.hid (fun W => ownParts_any (spU s rest) W HZ.out)
    generalize spU s rest = u at *
    cases hb : spB s rest with
    | false =>
      rw [hb] at HS
      have F := Lib.hid (HN.out (by rw [HP.out, hb]; rfl))
      clear HP HN HY HZ hb HOK HOW
      go_enter Tryd.func46, Tryd.ntmps46
      go_wp2_with fail
      refine (cut_any t 58 58 rfl _ (HM.out.below (by repeat (first | (with_reducible exact Below.refl _ _) | (with_reducible refine belI_set ?_ (by first | exact Nat.le_refl _ | simp)) | (with_reducible refine belI_alloc ?_) | (with_reducible refine Below.drew ?_) | (with_reducible refine belI_drewN ?_ _) | (with_reducible refine belI_step ?_ (by assumption))))) (by omega)).mono ?_
      rintro e w1 ⟨rfl, n1, rfl⟩
      rw [hrr]
      go_wp2_with fail
      refine (HL.out _).mono ?_
      rintro e w1 ⟨rfl, hb1⟩
      have Q1 := ((UAt.new w U.none).drewN n1).below hb1 (by simp)
      have B1 : Below w.heap.size w w1 := belI_step (belI_drewN (belI_alloc (Below.refl _ _)) _) hb1
      have z1 : w.heap.size < w1.heap.size := by have := hb1.size; simp at this; omega
      clear hb1
      go_wp2_with fail
      refine (HS.out _ (HM.out.below B1)).mono ?_
      rintro e w2 ⟨rfl, hb2⟩
      have Q2 := Q1.below hb2 (by omega)
      have B2 := belI_step B1 hb2
      have z2 : w.heap.size < w2.heap.size := by have := hb2.size; omega
      clear hb2 Q1 B1 z1
      obtain ⟨q0, q1, q2, q3, q4, q5, q6, q7, q8, qf⟩ := Q2
      go_wp2
      refine bodyPost_ret (ret_url2 (u := U.none) (a := 2) (s := 3) (B := w.heap.size) (c := .int .i64 3) Tryd.results46 rfl rfl ?_ ?_ ?_ ?_ ?_ ?_ ?_ ?_ ?_) rfl ⟨by rw [F.out.1, F.out.2], ?_⟩
      rotate_left 9
      · exact (by repeat (first | (with_reducible exact Below.refl _ _) | (with_reducible refine belI_set ?_ (by first | exact Nat.le_refl _ | simp)) | (with_reducible refine belI_alloc ?_) | (with_reducible refine Below.drew ?_) | (with_reducible refine belI_drewN ?_ _) | (with_reducible refine belI_step ?_ (by assumption))))
      all_goals (simp [go_sem, U.none, *]; done)
    | true =>
      rw [hb] at HS HP
      cases ho : okB u with
      | false =>
        rw [ho] at HOK HP
        have F := Lib.hid (HN.out (by rw [HP.out]; rfl))
        go_enter Tryd.func46, Tryd.ntmps46
        go_wp2_with fail
        refine (cut_any t 58 58 rfl _ (HM.out.below (by repeat (first | (with_reducible exact Below.refl _ _) | (with_reducible refine belI_set ?_ (by first | exact Nat.le_refl _ | simp)) | (with_reducible refine belI_alloc ?_) | (with_reducible refine Below.drew ?_) | (with_reducible refine belI_drewN ?_ _) | (with_reducible refine belI_step ?_ (by assumption))))) (by omega)).mono ?_
        rintro e w1 ⟨rfl, n1, rfl⟩
        rw [hrr]
        go_wp2_with fail
        refine (HL.out _).mono ?_
        rintro e w1 ⟨rfl, hb1⟩
        have Q1 := ((UAt.new w U.none).drewN n1).below hb1 (by simp)
        have B1 : Below w.heap.size w w1 := belI_step (belI_drewN (belI_alloc (Below.refl _ _)) _) hb1
        have z1 : w.heap.size < w1.heap.size := by have := hb1.size; simp at this; omega
        clear hb1
        go_wp2_with fail
        refine (HS.out _ (HM.out.below B1)).mono ?_
        rintro e w2 ⟨rfl, hb2⟩
        have Q2 := Q1.below hb2 (by omega)
        have B2 := belI_step B1 hb2
        have z2 : w.heap.size < w2.heap.size := by have := hb2.size; omega
        clear hb2 Q1 B1 z1
        have Q2' := Q2
        have V2 := UAt.new w2 u
        obtain ⟨x0, x1, x2, x3, x4, x5, x6, x7, x8, xf⟩ := V2
        go_wp2_with fail
        refine (HOK.out _ (HT.out.below (by repeat (first | (with_reducible exact Below.refl _ _) | (with_reducible refine belI_set ?_ (by first | exact Nat.le_refl _ | simp)) | (with_reducible refine belI_alloc ?_) | (with_reducible refine Below.drew ?_) | (with_reducible refine belI_drewN ?_ _) | (with_reducible refine belI_step ?_ (by assumption)))))).mono ?_
        rintro e w3 ⟨rfl, hb3⟩
        have Q3 := (Q2'.alloc _ z2).below hb3 (by simp; omega)
        have z3 : w.heap.size < w3.heap.size := by have := hb3.size; simp at this; omega
        obtain ⟨q0, q1, q2, q3, q4, q5, q6, q7, q8, qf⟩ := Q3
        clear x0 x1 x2 x3 x4 x5 x6 x7 x8 xf Q2 Q2'
        go_wp2
        refine bodyPost_ret (ret_url2 (u := U.none) (a := 2) (s := 3) (B := w.heap.size) (c := .int .i64 3) Tryd.results46 rfl rfl ?_ ?_ ?_ ?_ ?_ ?_ ?_ ?_ ?_) rfl ⟨by rw [F.out.1, F.out.2], ?_⟩
        rotate_left 9
        · exact (by repeat (first | (with_reducible exact Below.refl _ _) | (with_reducible refine belI_set ?_ (by first | exact Nat.le_refl _ | simp)) | (with_reducible refine belI_alloc ?_) | (with_reducible refine Below.drew ?_) | (with_reducible refine belI_drewN ?_ _) | (with_reducible refine belI_step ?_ (by assumption))))
        all_goals (simp [go_sem, U.none, *]; done)
      | true =>
        rw [ho] at HOK HP
        have F := Lib.hid (HY.out (by rw [HP.out]; rfl))
        go_enter Tryd.func46, Tryd.ntmps46
        go_wp2_with fail
        refine (cut_any t 58 58 rfl _ (HM.out.below (by repeat (first | (with_reducible exact Below.refl _ _) | (with_reducible refine belI_set ?_ (by first | exact Nat.le_refl _ | simp)) | (with_reducible refine belI_alloc ?_) | (with_reducible refine Below.drew ?_) | (with_reducible refine belI_drewN ?_ _) | (with_reducible refine belI_step ?_ (by assumption))))) (by omega)).mono ?_
        rintro e w1 ⟨rfl, n1, rfl⟩
        rw [hrr]
        go_wp2_with fail
        refine (HL.out _).mono ?_
        rintro e w1 ⟨rfl, hb1⟩
        have Q1 := ((UAt.new w U.none).drewN n1).below hb1 (by simp)
        have B1 : Below w.heap.size w w1 := belI_step (belI_drewN (belI_alloc (Below.refl _ _)) _) hb1
        have z1 : w.heap.size < w1.heap.size := by have := hb1.size; simp at this; omega
        clear hb1
        go_wp2_with fail
        refine (HS.out _ (HM.out.below B1)).mono ?_
        rintro e w2 ⟨rfl, hb2⟩
        have Q2 := Q1.below hb2 (by omega)
        have B2 := belI_step B1 hb2
        have z2 : w.heap.size < w2.heap.size := by have := hb2.size; omega
        clear hb2 Q1 B1 z1
        have V2 := UAt.new w2 u
        go_wp2_with fail
        refine (HOK.out _ (HT.out.below (by repeat (first | (with_reducible exact Below.refl _ _) | (with_reducible refine belI_set ?_ (by first | exact Nat.le_refl _ | simp)) | (with_reducible refine belI_alloc ?_) | (with_reducible refine Below.drew ?_) | (with_reducible refine belI_drewN ?_ _) | (with_reducible refine belI_step ?_ (by assumption)))))).mono ?_
        rintro e w3 ⟨rfl, hb3⟩
        have Q3 := (Q2.alloc _ z2).below hb3 (by simp; omega)
        have V3 := V2.below hb3 (by simp)
        have z3 : w.heap.size < w3.heap.size := by have := hb3.size; simp at this; omega
        have B3 : Below w.heap.size w w3 := belI_step (belI_alloc B2) hb3
        clear V2 Q2 hb3 B2
        obtain ⟨x0, x1, x2, x3, x4, x5, x6, x7, x8, xf⟩ := V3
        go_wp2_with fail
        refine (HOW.out _).mono ?_
        rintro e w4 ⟨rfl, hb4⟩
        have Q4 := Q3.below hb4 z3
        have z4 : w.heap.size < w4.heap.size := by have := hb4.size; omega
        obtain ⟨q0, q1, q2, q3, q4, q5, q6, q7, q8, qf⟩ := Q4
        clear x0 x1 x2 x3 x4 x5 x6 x7 x8 xf Q3
        go_wp2
        refine bodyPost_ret (ret_url2 (u := u) (a := 2) (s := 3) (B := w.heap.size) (c := .int .i64 0) Tryd.results46 rfl rfl ?_ ?_ ?_ ?_ ?_ ?_ ?_ ?_ ?_) rfl ⟨by rw [F.out.1, F.out.2], ?_⟩
        rotate_left 9
        · exact (by repeat (first | (with_reducible exact Below.refl _ _) | (with_reducible refine belI_set ?_ (by first | exact Nat.le_refl _ | simp)) | (with_reducible refine belI_alloc ?_) | (with_reducible refine Below.drew ?_) | (with_reducible refine belI_drewN ?_ _) | (with_reducible refine belI_step ?_ (by assumption))))
        all_goals (simp [go_sem, *]; done)
end Go.Proofs.YtniflfgnelfpbaaDoor.Ul
