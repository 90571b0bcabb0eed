
/-
  The program's functions on targets, walked: rankOK, cleanUrl, targetOK. The model's functions on targets, walked: l03Target, l03At. The model's l03At, l03OK, walked. The program's hasUrl, walked: slices.ContainsFunc, slices.IndexFunc, and the function that it is given; then targetsOK, GroupOK. The program's targetsOK and GroupOK, walked. GroupOK, the model's and the program's.
-/
import Derived.Test.YtmaknkbmilcanaaGreatDoorGrPlain
namespace Go.Proofs.YtmaknkbmilcanaaGreatDoor.Gr
open Go.RowKit
open Go.Proofs.YtmaknkbmilcanaaGreatDoor.Ul
theorem rank_any (n : Int) (W : World) : Calls Tryz.prog 327 #[.int .i64 n] W fun e w' => e = .returned (.bool (rk n)) ∧ W = w' := by
  unfold rk
  by_cases h1 : 1 ≤ n
  · by_cases h2 : n ≤ 9
    · have d1 : decide ((1 : Int) ≤ n) = true := by simpa using h1
      have d2 : decide (n ≤ (9 : Int)) = true := by simpa using h2
      have e : decide (1 ≤ n ∧ n ≤ 9) = true := by simp [h1, h2]
      rw [e]
      clear e
      go_enter Tryz.func327, Tryz.ntmps327
      go_wp2
      go_ret
      exact ⟨rfl, rfl⟩
    · have d1 : decide ((1 : Int) ≤ n) = true := by simpa using h1
      have d2 : decide (n ≤ (9 : Int)) = false := by simpa using h2
      have e : decide (1 ≤ n ∧ n ≤ 9) = false := by simp; omega
      rw [e]
      clear e
      go_enter Tryz.func327, Tryz.ntmps327
      go_wp2
      go_ret
      exact ⟨rfl, rfl⟩
  · have d1 : decide ((1 : Int) ≤ n) = false := by simpa using h1
    have e : decide (1 ≤ n ∧ n ≤ 9) = false := by simp; omega
    rw [e]
    clear e
    go_enter Tryz.func327, Tryz.ntmps327
    go_wp2
    go_ret
    exact ⟨rfl, rfl⟩
def cleanC (t : List UInt8) : Bool := (PC t == 0) && webB (PU t).sch
def cleanL (t : List UInt8) : List UInt8 := if cleanC t then textL (nofrag (PU t)) else []
set_option maxRecDepth 100000 in
set_option maxHeartbeats 2000000 in
theorem clean_web (t : List UInt8) (w : World) (hT : Tab w) (hM : MaxL w) (hl : t.length ≤ 9223372036854775807) (hc : PC t = 0) (hw : webB (PU t).sch = true) :
    Calls Tryz.prog 326 #[.string ⟨t.toArray⟩] w fun e w' => e = .returned (.tuple #[.string ⟨(cleanL t).toArray⟩, .bool (cleanC t)]) ∧ Below w.heap.size w w' := by
  have e1 : cleanC t = true := by simp [cleanC, hc, hw]
  have e2 : cleanL t = textL (nofrag (PU t)) := by simp [cleanL, e1]
  have hok := PC_okG t hc
  have hz := PU_size t
  have hp := ok_fields (PU t) hok hw
  rw [e1, e2]
  clear e1 e2
  have HT := Lib.hid hT
  have HM := Lib.hid hM
  clear hT hM
  have HP0 := fun W hT hM => pI_any t W hT hM hl
  rw [hc] at HP0
  have HP := Lib.hid HP0
  clear HP0 hc hok
  generalize PU t = u at *
  obtain ⟨s, us, h, p, pa, q, f, hq, hf⟩ := u
  simp only [nofrag, sizeU] at *
  have HJ := Lib.hid (fun W hT => join_any s us h pa q [] p hq false W hT (fun _ => hp) (by simp; omega))
  have HW0 := fun (W : World) => isWeb_any s W
  rw [hw] at HW0
  have HW := Lib.hid HW0
  clear HW0 hw hz hp
  generalize textL ⟨s, us, h, p, pa, q, [], hq, false⟩ = tx at *
  go_enter Tryz.func326, Tryz.ntmps326
  go_wp2_with fail
  refine (HP.out _ (HT.out.below (by repeat (first | (with_reducible exact Below.refl _ _) | (with_reducible refine belI_set ?_ (by first | exact Nat.le_refl _ | simp)) | (with_reducible refine belI_alloc ?_) | (with_reducible refine Below.drew ?_) | (with_reducible refine belI_drewN ?_ _) | (with_reducible refine belI_step ?_ (by assumption))))) (HM.out.below (by repeat (first | (with_reducible exact Below.refl _ _) | (with_reducible refine belI_set ?_ (by first | exact Nat.le_refl _ | simp)) | (with_reducible refine belI_alloc ?_) | (with_reducible refine Below.drew ?_) | (with_reducible refine belI_drewN ?_ _) | (with_reducible refine belI_step ?_ (by assumption)))))).mono ?_
  rintro e w1 ⟨rfl, hb1⟩
  go_wp2_with (go_at_call 323; refine (HW.out _).mono ?_; rintro e w' ⟨rfl, rfl⟩)
  refine (HJ.out _ (HT.out.below (by repeat (first | (with_reducible exact Below.refl _ _) | (with_reducible refine belI_set ?_ (by first | exact Nat.le_refl _ | simp)) | (with_reducible refine belI_alloc ?_) | (with_reducible refine Below.drew ?_) | (with_reducible refine belI_drewN ?_ _) | (with_reducible refine belI_step ?_ (by assumption)))))).mono ?_
  rintro e w2 ⟨rfl, hb2⟩
  go_wp2
  exact bodyPost_ret (v := .tuple #[.string ⟨tx.toArray⟩, .bool true]) (by simp [results, Tryz.results326, go_sem]) rfl ⟨rfl, (by repeat (first | (with_reducible exact Below.refl _ _) | (with_reducible refine belI_set ?_ (by first | exact Nat.le_refl _ | simp)) | (with_reducible refine belI_alloc ?_) | (with_reducible refine Below.drew ?_) | (with_reducible refine belI_drewN ?_ _) | (with_reducible refine belI_step ?_ (by assumption))))⟩
set_option maxRecDepth 100000 in
theorem clean_not (t : List UInt8) (w : World) (hT : Tab w) (hM : MaxL w) (hl : t.length ≤ 9223372036854775807) (hc : cleanC t = false) :
    Calls Tryz.prog 326 #[.string ⟨t.toArray⟩] w fun e w' => e = .returned (.tuple #[.string ⟨(cleanL t).toArray⟩, .bool (cleanC t)]) ∧ Below w.heap.size w w' := by
  have e2 : cleanL t = [] := by simp [cleanL, hc]
  rw [hc, e2]
  clear e2
  have HP := Lib.hid (fun W hT hM => pI_any t W hT hM hl)
  have HT := Lib.hid hT
  have HM := Lib.hid hM
  clear hT hM hl
  unfold cleanC at hc
  generalize PU t = u at *
  by_cases h0 : PC t = 0
  · have hw : webB u.sch = false := by simpa [h0] using hc
    have HW0 := fun (W : World) => isWeb_any u.sch W
    rw [hw] at HW0
    rw [h0] at HP
    have HW := Lib.hid HW0
    clear HW0 hw hc h0
    go_enter Tryz.func326, Tryz.ntmps326
    go_wp2_with fail
    refine (HP.out _ (HT.out.below (by repeat (first | (with_reducible exact Below.refl _ _) | (with_reducible refine belI_set ?_ (by first | exact Nat.le_refl _ | simp)) | (with_reducible refine belI_alloc ?_) | (with_reducible refine Below.drew ?_) | (with_reducible refine belI_drewN ?_ _) | (with_reducible refine belI_step ?_ (by assumption))))) (HM.out.below (by repeat (first | (with_reducible exact Below.refl _ _) | (with_reducible refine belI_set ?_ (by first | exact Nat.le_refl _ | simp)) | (with_reducible refine belI_alloc ?_) | (with_reducible refine Below.drew ?_) | (with_reducible refine belI_drewN ?_ _) | (with_reducible refine belI_step ?_ (by assumption)))))).mono ?_
    rintro e w1 ⟨rfl, hb1⟩
    go_wp2_with (go_at_call 323; refine (HW.out _).mono ?_; rintro e w' ⟨rfl, rfl⟩)
    exact bodyPost_ret (v := .tuple #[.string ⟨#[]⟩, .bool false]) (by simp [results, Tryz.results326, go_sem]) rfl ⟨rfl, (by repeat (first | (with_reducible exact Below.refl _ _) | (with_reducible refine belI_set ?_ (by first | exact Nat.le_refl _ | simp)) | (with_reducible refine belI_alloc ?_) | (with_reducible refine Below.drew ?_) | (with_reducible refine belI_drewN ?_ _) | (with_reducible refine belI_step ?_ (by assumption))))⟩
  · have d1 : (PC t != 0) = true := by simpa using h0
    have d2 : (PC t == 0) = false := by simpa using h0
    clear hc h0
    generalize PC t = c at *
    go_enter Tryz.func326, Tryz.ntmps326
    go_wp2_with fail
    refine (HP.out _ (HT.out.below (by repeat (first | (with_reducible exact Below.refl _ _) | (with_reducible refine belI_set ?_ (by first | exact Nat.le_refl _ | simp)) | (with_reducible refine belI_alloc ?_) | (with_reducible refine Below.drew ?_) | (with_reducible refine belI_drewN ?_ _) | (with_reducible refine belI_step ?_ (by assumption))))) (HM.out.below (by repeat (first | (with_reducible exact Below.refl _ _) | (with_reducible refine belI_set ?_ (by first | exact Nat.le_refl _ | simp)) | (with_reducible refine belI_alloc ?_) | (with_reducible refine Below.drew ?_) | (with_reducible refine belI_drewN ?_ _) | (with_reducible refine belI_step ?_ (by assumption)))))).mono ?_
    rintro e w1 ⟨rfl, hb1⟩
    go_wp2
    exact bodyPost_ret (v := .tuple #[.string ⟨#[]⟩, .bool false]) (by simp [results, Tryz.results326, go_sem]) rfl ⟨rfl, (by repeat (first | (with_reducible exact Below.refl _ _) | (with_reducible refine belI_set ?_ (by first | exact Nat.le_refl _ | simp)) | (with_reducible refine belI_alloc ?_) | (with_reducible refine Below.drew ?_) | (with_reducible refine belI_drewN ?_ _) | (with_reducible refine belI_step ?_ (by assumption))))⟩
theorem clean_any (t : List UInt8) (w : World) (hT : Tab w) (hM : MaxL w) (hl : t.length ≤ 9223372036854775807) :
    Calls Tryz.prog 326 #[.string ⟨t.toArray⟩] w fun e w' => e = .returned (.tuple #[.string ⟨(cleanL t).toArray⟩, .bool (cleanC t)]) ∧ Below w.heap.size w w' := by
  cases hc : cleanC t with
  | false => rw [← hc]; exact clean_not t w hT hM hl hc
  | true =>
    rw [← hc]
    simp only [cleanC, Bool.and_eq_true, beq_iff_eq] at hc
    exact clean_web t w hT hM hl hc.1 hc.2
theorem urlI_clean (t : List UInt8) : urlI t = (cleanC t && (cleanL t == t)) := by
  unfold urlI cleanL
  show (cleanC t && _) = _
  cases h : cleanC t <;> simp
set_option maxRecDepth 100000 in
set_option maxHeartbeats 4000000 in
theorem tgOK_any (t : Tg) (w : World) (hT : Tab w) (hM : MaxL w) (hl : t.url.length ≤ 9223372036854775807) :
    Calls Tryz.prog 267 #[tV t] w fun e w' => e = .returned (.bool (tgB t)) ∧ Below w.heap.size w w' := by
  obtain ⟨u, p, q⟩ := t
  have e : tgB ⟨u, p, q⟩ = (((cleanC u && (cleanL u == u)) && rk p) && rk q) := by simp [tgB, ← url_same, urlI_clean]
  rw [e]
  clear e
  have HC := Lib.hid (fun W hT hM => clean_any u W hT hM hl)
  have HP := Lib.hid (fun W => rank_any p W)
  have HQ := Lib.hid (fun W => rank_any q W)
  have HT := Lib.hid hT
  have HM := Lib.hid hM
  clear hT hM hl
  obtain ⟨c, hc⟩ : ∃ c, (cleanL u == u) = c := ⟨_, rfl⟩
  have hc' : (cleanL u != u) = !c := by rw [← hc]; rfl
  rw [hc]
  generalize cleanL u = cl at *
  generalize cleanC u = k at *
  generalize rk p = rp at *
  generalize rk q = rq at *
  go_enter Tryz.func267, Tryz.ntmps267
  go_wp2_with fail
  refine (HC.out _ (HT.out.below (by repeat (first | (with_reducible exact Below.refl _ _) | (with_reducible refine belI_set ?_ (by first | exact Nat.le_refl _ | simp)) | (with_reducible refine belI_alloc ?_) | (with_reducible refine Below.drew ?_) | (with_reducible refine belI_drewN ?_ _) | (with_reducible refine belI_step ?_ (by assumption))))) (HM.out.below (by repeat (first | (with_reducible exact Below.refl _ _) | (with_reducible refine belI_set ?_ (by first | exact Nat.le_refl _ | simp)) | (with_reducible refine belI_alloc ?_) | (with_reducible refine Below.drew ?_) | (with_reducible refine belI_drewN ?_ _) | (with_reducible refine belI_step ?_ (by assumption)))))).mono ?_
  rintro e w1 ⟨rfl, hb1⟩
  obtain ⟨m0, m1, m2, mf⟩ := three_cells ((hb1.block w.heap.size (by simp)).trans (heap_alloc_new w (.cells #[.string ⟨u.toArray⟩, .int .i64 p, .int .i64 q] 85)))
  have hB : Below w.heap.size w w1 := (by repeat (first | (with_reducible exact Below.refl _ _) | (with_reducible refine belI_set ?_ (by first | exact Nat.le_refl _ | simp)) | (with_reducible refine belI_alloc ?_) | (with_reducible refine Below.drew ?_) | (with_reducible refine belI_drewN ?_ _) | (with_reducible refine belI_step ?_ (by assumption))))
  clear HC HT HM hb1
  cases k
  · go_wp2_with fail
    go_ret
    exact ⟨rfl, hB⟩
  cases c
  · go_wp2_with fail
    go_ret
    exact ⟨rfl, hB⟩
  cases rp
  · go_wp2_with (go_at_call 327; refine (HP.out _).mono ?_; rintro e w' ⟨rfl, rfl⟩)
    go_ret
    exact ⟨rfl, hB⟩
  · go_wp2_with (first
      | (go_at_call 327; refine (HP.out _).mono ?_; rintro e w' ⟨rfl, rfl⟩)
      | (go_at_call 327; refine (HQ.out _).mono ?_; rintro e w' ⟨rfl, rfl⟩))
    go_ret
    exact ⟨rfl, hB⟩
end Go.Proofs.YtmaknkbmilcanaaGreatDoor.Gr
namespace Go.Proofs.YtmaknkbmilcanaaGreatDoor.Gr
open Go.RowKit
open Go.Proofs.YtmaknkbmilcanaaGreatDoor.Ul
open Go.Proofs.YtmaknkbmilcanaaGreatDoor.Ext (up up_below up_mk wp_region_ext call_ext call_ext_same)
@[local go_sem] theorem up_cellS (w : World) (y : Ext.Ext w) (b o : Nat) (h : b < w.heap.size) : (up w y).cell? ⟨b, o, none⟩ = w.cell? ⟨b, o, none⟩ := Ext.up_cell w y b o h
theorem parseX_size (t : List UInt8) (hl : t.length ≤ 4294967280) : sizeU (parseX t) ≤ 4611686018427387904 := by
  exact Nat.le_trans (split_size t hl) (by omega)
set_option maxRecDepth 100000 in
set_option maxHeartbeats 4000000 in
theorem tgS_any (t : Tg) (W : World) (hl : t.url.length ≤ 4294967280) :
    Calls Tryz.prog 192 #[tV t] W fun e w' => e = .returned (.bool (tgB t)) ∧ Below W.heap.size W w' := by
  obtain ⟨u, p, q⟩ := t
  have e : tgB ⟨u, p, q⟩ = (((((parseB u && webB (parseX u).sch) && !(parseX u).hf) && (textL (parseX u) == u)) && rk p) && rk q) := rfl
  rw [e]
  clear e
  have HP := Lib.hid (fun W => parseS_any u W (Nat.le_trans hl (by omega)))
  have px := parseX_port u
  have sx := parseX_size u hl
  have HIp := Lib.hid (fun W => in_any p 1 9 W)
  have HIq := Lib.hid (fun W => in_any q 1 9 W)
  rw [show decide (1 ≤ p ∧ p ≤ 9) = rk p from rfl] at HIp
  rw [show decide (1 ≤ q ∧ q ≤ 9) = rk q from rfl] at HIq
  generalize parseB u = pb at *
  generalize parseX u = x at *
  obtain ⟨s, us, h, pr, pa, qu, f, hq, hf⟩ := x
  have HT := Lib.hid (fun W => text_any ⟨s, us, h, pr, pa, qu, f, hq, hf⟩ W px sx)
  have HW := Lib.hid (fun W => web_any s W)
  clear px sx hl
  simp only
  generalize textL ⟨s, us, h, pr, pa, qu, f, hq, hf⟩ = tx at *
  generalize rk p = rp at *
  generalize rk q = rq at *
  generalize webB s = wb at *
  obtain ⟨c, hc⟩ : ∃ c, (tx == u) = c := ⟨_, rfl⟩
  rw [hc]
  go_enter Tryz.func192, Tryz.ntmps192
  go_wp2_with fail
  refine (HP.out _).mono ?_
  rintro e w1 ⟨rfl, hb1⟩
  have k1 := (hb1.block W.heap.size (by simp)).trans (heap_alloc_new W (.cells #[.string ⟨u.toArray⟩, .int .i64 p, .int .i64 q] 85))
  have z1 : W.heap.size < w1.heap.size := by have := hb1.size; simp at this; omega
  have hB : Below W.heap.size W w1 := (by repeat (first | (with_reducible exact Below.refl _ _) | (with_reducible refine belI_set ?_ (by first | exact Nat.le_refl _ | simp)) | (with_reducible refine belI_alloc ?_) | (with_reducible refine Below.drew ?_) | (with_reducible refine belI_drewN ?_ _) | (with_reducible refine belI_step ?_ (by assumption))))
  have U1 := UAt.new w1 ⟨s, us, h, pr, pa, qu, f, hq, hf⟩
  obtain ⟨m0, m1, m2, mf⟩ := three_cells ((heap_alloc_old _ (.cells #[.string ⟨s.toArray⟩, .string ⟨us.toArray⟩, .string ⟨h.toArray⟩, .int .i64 pr, .string ⟨pa.toArray⟩, .string ⟨qu.toArray⟩, .string ⟨f.toArray⟩, .bool hq, .bool hf] 264) z1).trans k1)
  obtain ⟨q0, q1, q2, q3, q4, q5, q6, q7, q8, -⟩ := U1
  have hB2 := hB.alloc (Nat.le_of_lt z1) (.cells #[.string ⟨s.toArray⟩, .string ⟨us.toArray⟩, .string ⟨h.toArray⟩, .int .i64 pr, .string ⟨pa.toArray⟩, .string ⟨qu.toArray⟩, .string ⟨f.toArray⟩, .bool hq, .bool hf] 264)
  have z2 : w1.heap.size < (w1.alloc (.cells #[.string ⟨s.toArray⟩, .string ⟨us.toArray⟩, .string ⟨h.toArray⟩, .int .i64 pr, .string ⟨pa.toArray⟩, .string ⟨qu.toArray⟩, .string ⟨f.toArray⟩, .bool hq, .bool hf] 264)).heap.size := by simp
  clear hb1 HP k1 hB
  go_wp2_with fail
  generalize w1.alloc (.cells #[.string ⟨s.toArray⟩, .string ⟨us.toArray⟩, .string ⟨h.toArray⟩, .int .i64 pr, .string ⟨pa.toArray⟩, .string ⟨qu.toArray⟩, .string ⟨f.toArray⟩, .bool hq, .bool hf] 264) = w2 at *
  have z3 : W.heap.size < w2.heap.size := by omega
  have D := Lib.hid hB2
  clear hB2 mf
  cases pb
  · refine wp_region_ext (by kernel_rfl) (by kernel_rfl) ?_
    repeat (go_big_quiet_step ((first
      | (go_at_call 260; exact call_ext_same (HW.out _))
      | (go_at_call 261; exact call_ext (HT.out _))
      | (go_at_call 78; refine call_ext_same (v := .bool true) ?_; with_reducible exact HIp.out _)
      | (go_at_call 78; refine call_ext_same (v := .bool false) ?_; with_reducible exact HIp.out _)
      | (go_at_call 78; refine call_ext_same (v := .bool rq) ?_; with_reducible exact HIq.out _))))
    refine wpQuiet_nil ?_
    intro _ hw'
    obtain ⟨y8, rfl⟩ := hw'
    have hv8 := up_below _ y8
    generalize up _ y8 = v8 at *
    have D8 := Lib.hid (belI_step D.out hv8)
    clear hv8 D
    go_wp2
    go_ret
    exact ⟨rfl, D8.out⟩
  cases wb
  · refine wp_region_ext (by kernel_rfl) (by kernel_rfl) ?_
    repeat (go_big_quiet_step ((first
      | (go_at_call 260; exact call_ext_same (HW.out _))
      | (go_at_call 261; exact call_ext (HT.out _))
      | (go_at_call 78; refine call_ext_same (v := .bool true) ?_; with_reducible exact HIp.out _)
      | (go_at_call 78; refine call_ext_same (v := .bool false) ?_; with_reducible exact HIp.out _)
      | (go_at_call 78; refine call_ext_same (v := .bool rq) ?_; with_reducible exact HIq.out _))))
    refine wpQuiet_nil ?_
    intro _ hw'
    obtain ⟨y8, rfl⟩ := hw'
    have hv8 := up_below _ y8
    generalize up _ y8 = v8 at *
    have D8 := Lib.hid (belI_step D.out hv8)
    clear hv8 D
    go_wp2
    go_ret
    exact ⟨rfl, D8.out⟩
  cases hf
  rotate_left
  · refine wp_region_ext (by kernel_rfl) (by kernel_rfl) ?_
    repeat (go_big_quiet_step ((first
      | (go_at_call 260; exact call_ext_same (HW.out _))
      | (go_at_call 261; exact call_ext (HT.out _))
      | (go_at_call 78; refine call_ext_same (v := .bool true) ?_; with_reducible exact HIp.out _)
      | (go_at_call 78; refine call_ext_same (v := .bool false) ?_; with_reducible exact HIp.out _)
      | (go_at_call 78; refine call_ext_same (v := .bool rq) ?_; with_reducible exact HIq.out _))))
    refine wpQuiet_nil ?_
    intro _ hw'
    obtain ⟨y8, rfl⟩ := hw'
    have hv8 := up_below _ y8
    generalize up _ y8 = v8 at *
    have D8 := Lib.hid (belI_step D.out hv8)
    clear hv8 D
    go_wp2
    go_ret
    exact ⟨rfl, D8.out⟩
  cases c
  · refine wp_region_ext (by kernel_rfl) (by kernel_rfl) ?_
    repeat (go_big_quiet_step ((first
      | (go_at_call 260; exact call_ext_same (HW.out _))
      | (go_at_call 261; exact call_ext (HT.out _))
      | (go_at_call 78; refine call_ext_same (v := .bool true) ?_; with_reducible exact HIp.out _)
      | (go_at_call 78; refine call_ext_same (v := .bool false) ?_; with_reducible exact HIp.out _)
      | (go_at_call 78; refine call_ext_same (v := .bool rq) ?_; with_reducible exact HIq.out _))))
    refine wpQuiet_nil ?_
    intro _ hw'
    obtain ⟨y8, rfl⟩ := hw'
    have hv8 := up_below _ y8
    generalize up _ y8 = v8 at *
    have D8 := Lib.hid (belI_step D.out hv8)
    clear hv8 D
    go_wp2
    go_ret
    exact ⟨rfl, D8.out⟩
  cases rp
  · refine wp_region_ext (by kernel_rfl) (by kernel_rfl) ?_
    repeat (go_big_quiet_step ((first
      | (go_at_call 260; exact call_ext_same (HW.out _))
      | (go_at_call 261; exact call_ext (HT.out _))
      | (go_at_call 78; refine call_ext_same (v := .bool true) ?_; with_reducible exact HIp.out _)
      | (go_at_call 78; refine call_ext_same (v := .bool false) ?_; with_reducible exact HIp.out _)
      | (go_at_call 78; refine call_ext_same (v := .bool rq) ?_; with_reducible exact HIq.out _))))
    refine wpQuiet_nil ?_
    intro _ hw'
    obtain ⟨y8, rfl⟩ := hw'
    have hv8 := up_below _ y8
    generalize up _ y8 = v8 at *
    have D8 := Lib.hid (belI_step D.out hv8)
    clear hv8 D
    go_wp2
    go_ret
    exact ⟨rfl, D8.out⟩
  · refine wp_region_ext (by kernel_rfl) (by kernel_rfl) ?_
    repeat (go_big_quiet_step ((first
      | (go_at_call 260; exact call_ext_same (HW.out _))
      | (go_at_call 261; exact call_ext (HT.out _))
      | (go_at_call 78; refine call_ext_same (v := .bool true) ?_; with_reducible exact HIp.out _)
      | (go_at_call 78; refine call_ext_same (v := .bool false) ?_; with_reducible exact HIp.out _)
      | (go_at_call 78; refine call_ext_same (v := .bool rq) ?_; with_reducible exact HIq.out _))))
    refine wpQuiet_nil ?_
    intro _ hw'
    obtain ⟨y8, rfl⟩ := hw'
    have hv8 := up_below _ y8
    generalize up _ y8 = v8 at *
    have D8 := Lib.hid (belI_step D.out hv8)
    clear hv8 D
    go_wp2
    go_ret
    exact ⟨rfl, D8.out⟩
end Go.Proofs.YtmaknkbmilcanaaGreatDoor.Gr
namespace Go.Proofs.YtmaknkbmilcanaaGreatDoor.Gr
open Go.RowKit
open Go.Proofs.YtmaknkbmilcanaaGreatDoor.Ul
open Go.Proofs.YtmaknkbmilcanaaGreatDoor.Ext (up up_below up_mk wp_region_ext call_ext call_ext_same)
def atF (u : List UInt8) : Nat → List Tg → Int
  | _, [] => -1
  | k, x :: r => if (x.url == u) = true then (k : Int) else atF u (k + 1) r
theorem atF_drop (u : List UInt8) {xs : List Tg} (k : Nat) (hx : k < xs.length) : atF u k (xs.drop k) = if ((xs.getD k default).url == u) = true then (k : Int) else atF u (k + 1) (xs.drop (k + 1)) := by
  rw [List.drop_eq_getElem_cons hx, atF]; simp [hx]
@[local go_sem] theorem up_cellT (w : World) (y : Ext.Ext w) (b o : Nat) (h : b < w.heap.size) : (up w y).cell? ⟨b, o, none⟩ = w.cell? ⟨b, o, none⟩ := Ext.up_cell w y b o h
set_option maxRecDepth 100000 in
set_option maxHeartbeats 1000000 in
theorem at_any (S : Nat → Prop) (xs : List Tg) (v : Value) (u : List UInt8) (w : World) (h : TgIn S w v xs) :
    Calls Tryz.prog 186 #[v, .string ⟨u.toArray⟩] w fun e w' => e = .returned (.int .i64 (atF u 0 xs)) ∧ w = w' := by
  obtain ⟨a, cap, b, off, rfl, hcap, hm, hlen, ha, hc⟩ := h
  have hn : xs.length ≤ 9223372036854775807 := by omega
  have HC := Lib.hid hc
  have HA := Lib.hid ha
  clear hc ha hlen
  go_enter Tryz.func186, Tryz.ntmps186
  go_wp2
  go_loopw [5] (fun i wr => ∃ k : Nat, k ≤ xs.length ∧ i = .int .i64 k ∧ atF u 0 xs = atF u k (xs.drop k) ∧ w = wr) (fun i _ => xs.length - (intOf i).toNat)
  case atStart => exact ⟨0, by omega, rfl, rfl, rfl⟩
  case round =>
    obtain ⟨k, hk, rfl, hE, rfl⟩ := hrel
    have HE := Lib.hid hE
    clear hE
    by_cases hlt : k < xs.length
    · obtain ⟨ea, _⟩ := HA.out (by omega)
      subst ea
      have q0 := (HC.out k hlt).1
      have D := Lib.hid (atF_drop u k hlt)
      generalize (xs.getD k default).url = t at *
      obtain ⟨c, hcc⟩ : ∃ c, (t == u) = c := ⟨_, rfl⟩
      rw [hcc] at D
      cases c with
      | true =>
        go_wp2
        go_ret
        exact ⟨ret_i (by rw [HE.out, D.out]; rfl), rfl⟩
      | false =>
        go_wp2
        go_roundw
        case rel => exact ⟨k + 1, by omega, by go_num, by rw [HE.out, D.out]; simp, trivial⟩
        case measure => simp [intOf]; omega
    · go_wp2
      go_ret
      obtain rfl : k = xs.length := by omega
      exact ⟨ret_i (by rw [HE.out, List.drop_length]; rfl), rfl⟩
theorem at_spec (u : List UInt8) : ∀ (xs : List Tg) (k j : Nat), k < xs.length → (xs.getD k default).url = u → (hasU (xs.take k) u = false → atF u j xs = ((j + k : Nat) : Int)) ∧ (hasU (xs.take k) u = true → atF u j xs < ((j + k : Nat) : Int))
  | [], k, j, h, _ => by simp at h
  | x :: r, 0, j, _, he => by
    have e : x.url = u := by simpa using he
    refine ⟨fun _ => by simp [atF, e], fun h => by simp [hasU] at h⟩
  | x :: r, k + 1, j, h, he => by
    have ih := at_spec u r k (j + 1) (by simpa using h) (by simpa using he)
    cases hx : (x.url == u) with
    | true =>
      have hh : hasU ((x :: r).take (k + 1)) u = true := by simp [hasU, hx]
      refine ⟨fun h2 => by rw [hh] at h2; simp at h2, fun _ => ?_⟩
      simp only [atF, hx, if_true]
      omega
    | false =>
      have hh : hasU ((x :: r).take (k + 1)) u = hasU (r.take k) u := by simp [hasU, hx]
      rw [hh]
      simp only [atF, hx]
      refine ⟨fun h2 => ?_, fun h2 => ?_⟩
      · have := ih.1 h2; simp only [Bool.false_eq_true, if_false]; omega
      · have := ih.2 h2; simp only [Bool.false_eq_true, if_false]; omega
theorem at_has (xs : List Tg) (k : Nat) (hk : k < xs.length) : (atF (xs.getD k default).url 0 xs != (k : Int)) = hasU (xs.take k) (xs.getD k default).url := by
  have h := at_spec (xs.getD k default).url xs k 0 hk rfl
  generalize (xs.getD k default).url = u at *
  generalize atF u 0 xs = ai at *
  cases hh : hasU (xs.take k) u with
  | false => have := h.1 hh; simp; omega
  | true => have := h.2 hh; simp; omega
set_option maxRecDepth 100000 in
set_option maxHeartbeats 4000000 in
theorem gpS_any (B : Nat) (w0 : World) (g : Gp) (v : Value) (h : TgIn (· < B) w0 v g.tgs) (hl : ∀ i, i < g.tgs.length → (g.tgs.getD i default).url.length ≤ 1048576) (hn : g.name.length ≤ 1048576) (W : World) (hb : Below B w0 W) (hB : B ≤ W.heap.size) :
    Calls Tryz.prog 116 #[gV g v] W fun e w' => e = .returned (.bool (gpB g)) ∧ Below W.heap.size W w' := by
  obtain ⟨n, ag, xs⟩ := g
  simp only at h hl hn
  have h1 := h
  obtain ⟨a, cap, b, off, rfl, hcap, hm, hlen, ha, hc⟩ := h
  have HC := Lib.hid hc
  have HA := Lib.hid ha
  have HL := Lib.hid hl
  have HB := Lib.hid hb
  have HN := Lib.hid (fun W => Nm.l00Word_any ⟨n.toArray⟩ W (by simp [ByteArray.size, maxLen]; omega))
  have HI1 := Lib.hid (fun W => in_any ag 1 100 W)
  have HI2 := Lib.hid (fun W => in_any (xs.length : Int) 1 4 W)
  have HAt := Lib.hid (fun (W' : World) (u : List UInt8) (hb' : Below B w0 W') => at_any (· < B) xs _ u W' (h1.blw hb'))
  clear hc ha hl hb hlen hn h1
  unfold gpB
  simp only
  obtain ⟨b1, e1⟩ : ∃ b1, Nm.nameB ⟨n.toArray⟩ = b1 := ⟨_, rfl⟩
  obtain ⟨b2, e2⟩ : ∃ b2, decide (1 ≤ ag ∧ ag ≤ 100) = b2 := ⟨_, rfl⟩
  obtain ⟨b3, e3⟩ : ∃ b3, decide (1 ≤ xs.length ∧ xs.length ≤ 4) = b3 := ⟨_, rfl⟩
  have e3' : decide ((1 : Int) ≤ (xs.length : Int) ∧ (xs.length : Int) ≤ 4) = b3 := by rw [← e3]; congr 1; simp; omega
  rw [e1] at HN
  rw [e2] at HI1
  rw [e3'] at HI2
  rw [e1, e2, e3]
  go_enter Tryz.func116, Tryz.ntmps116
  have K0 := heap_alloc_new W (.cells #[.string ⟨n.toArray⟩, .int .i64 ag, .slice a xs.length cap] 82)
  have B0 := (Below.refl W.heap.size W).alloc (Nat.le_refl _) (.cells #[.string ⟨n.toArray⟩, .int .i64 ag, .slice a xs.length cap] 82)
  have Z0 : (W.alloc (.cells #[.string ⟨n.toArray⟩, .int .i64 ag, .slice a xs.length cap] 82)).heap.size = W.heap.size + 1 := by simp
  have BF := Lib.hid B0
  cases b1
  · clear K0 B0 Z0
    go_wp2_with (first
      | (go_at_call 193; refine (HN.out _).mono ?_; rintro e w' ⟨rfl, rfl⟩)
      | (go_at_call 78; refine Calls.mono (by with_reducible exact HI1.out _) ?_; rintro e w' ⟨rfl, rfl⟩)
      | (go_at_call 78; refine Calls.mono (by with_reducible exact HI2.out _) ?_; rintro e w' ⟨rfl, rfl⟩))
    go_ret
    exact ⟨rfl, BF.out⟩
  cases b2
  · clear K0 B0 Z0
    go_wp2_with (first
      | (go_at_call 193; refine (HN.out _).mono ?_; rintro e w' ⟨rfl, rfl⟩)
      | (go_at_call 78; refine Calls.mono (by with_reducible exact HI1.out _) ?_; rintro e w' ⟨rfl, rfl⟩)
      | (go_at_call 78; refine Calls.mono (by with_reducible exact HI2.out _) ?_; rintro e w' ⟨rfl, rfl⟩))
    go_ret
    exact ⟨rfl, BF.out⟩
  cases b3
  · clear K0 B0 Z0
    go_wp2_with (first
      | (go_at_call 193; refine (HN.out _).mono ?_; rintro e w' ⟨rfl, rfl⟩)
      | (go_at_call 78; refine Calls.mono (by with_reducible exact HI1.out _) ?_; rintro e w' ⟨rfl, rfl⟩)
      | (go_at_call 78; refine Calls.mono (by with_reducible exact HI2.out _) ?_; rintro e w' ⟨rfl, rfl⟩))
    go_ret
    exact ⟨rfl, BF.out⟩
  clear BF
  have K := Lib.hid K0
  have BW := Lib.hid B0
  clear K0 B0
  have RF := Below.refl (W.alloc (.cells #[.string ⟨n.toArray⟩, .int .i64 ag, .slice a xs.length cap] 82)).heap.size (W.alloc (.cells #[.string ⟨n.toArray⟩, .int .i64 ag, .slice a xs.length cap] 82))
  go_wp2_with (first
      | (go_at_call 193; refine (HN.out _).mono ?_; rintro e w' ⟨rfl, rfl⟩)
      | (go_at_call 78; refine Calls.mono (by with_reducible exact HI1.out _) ?_; rintro e w' ⟨rfl, rfl⟩)
      | (go_at_call 78; refine Calls.mono (by with_reducible exact HI2.out _) ?_; rintro e w' ⟨rfl, rfl⟩))
  generalize (W.alloc (.cells #[.string ⟨n.toArray⟩, .int .i64 ag, .slice a xs.length cap] 82)) = w1 at *
  go_loopw [3] (fun i wr => ∃ k : Nat, k ≤ xs.length ∧ i = .int .i64 k ∧ tgsB [] xs = tgsB (xs.take k) (xs.drop k) ∧ Below w1.heap.size w1 wr) (fun i _ => xs.length - (intOf i).toNat)
  case atStart => exact ⟨0, by omega, rfl, rfl, RF⟩
  case round =>
    obtain ⟨k, hk, rfl, hE, hR⟩ := hrel
    obtain ⟨m0, m1, m2, mf⟩ := three_cells ((hR.block W.heap.size (by omega)).trans K.out)
    have HE := Lib.hid hE
    clear hE RF
    by_cases hlt : k < xs.length
    · obtain ⟨ea, hlb⟩ := HA.out (by omega)
      subst ea
      have hW := HB.out.trans ((BW.out.trans (hR.mono (by omega))).mono hB)
      have z1 : w1.heap.size ≤ wr.heap.size := hR.size
      have z2 : W.heap.size < wr.heap.size := by omega
      have z3 : b < wr.heap.size := by omega
      obtain ⟨c0, c1, c2⟩ := HC.out k hlt
      have q0 := (hW.cell (p := ⟨b, off + k * 3, none⟩) hlb).trans c0
      have q1 := (hW.cell (p := ⟨b, off + k * 3 + 1, none⟩) hlb).trans c1
      have q2 := (hW.cell (p := ⟨b, off + k * 3 + 2, none⟩) hlb).trans c2
      have TD := Lib.hid (tgsB_drop k hlt)
      have AH := at_has xs k hlt
      have HT := Lib.hid (fun W => tgS_any (xs.getD k default) W (Nat.le_trans (HL.out k hlt) (by omega)))
      have HA2 := Lib.hid (fun (W' : World) (hb' : Below wr.heap.size wr W') => HAt.out W' (xs.getD k default).url (hW.trans (hb'.mono (by omega))))
      have HR := Lib.hid hR
      clear c0 c1 c2 hW hR HAt
      generalize xs.getD k default = x at *
      generalize atF x.url 0 xs = ai at *
      generalize hasU (xs.take k) x.url = c at *
      generalize tgB x = tb at *
      have hd : b < wr.heap.size := z3
      go_wp2_with fail
      cases tb <;> cases c
      all_goals
        refine wp_region_ext (by kernel_rfl) (by kernel_rfl) ?_
        repeat (go_big_quiet_step ((first
          | (go_at_call 192; refine call_ext (v := .bool true) ?_; with_reducible exact HT.out _)
          | (go_at_call 192; refine call_ext (v := .bool false) ?_; with_reducible exact HT.out _)
          | (go_at_call 186; refine call_ext_same (v := .int .i64 ai) ?_; with_reducible exact HA2.out _ (up_below _ _)))))
        refine wpQuiet_nil ?_
        intro _ hw'
        obtain ⟨y8, rfl⟩ := hw'
        have hv8 := up_below _ y8
        generalize up _ y8 = v8 at *
        have D8 := Lib.hid (belI_step HR.out hv8)
        clear hv8 m0 m1 m2 mf q0 q1 q2
      · go_wp2
        go_ret
        exact ⟨ret_b (by rw [HE.out, TD.out]; rfl), BW.out.trans (D8.out.mono (by omega))⟩
      · go_wp2
        go_ret
        exact ⟨ret_b (by rw [HE.out, TD.out]; rfl), BW.out.trans (D8.out.mono (by omega))⟩
      · go_wp2
        go_roundw
        case rel => exact ⟨k + 1, by omega, by go_num, by rw [HE.out, TD.out]; rfl, D8.out⟩
        case measure => simp [intOf]; omega
      · go_wp2
        go_ret
        exact ⟨ret_b (by rw [HE.out, TD.out]; rfl), BW.out.trans (D8.out.mono (by omega))⟩
    · go_wp2
      go_ret
      obtain rfl : k = xs.length := by omega
      exact ⟨ret_b (by rw [HE.out, List.drop_length]; rfl), BW.out.trans (hR.mono (by omega))⟩
end Go.Proofs.YtmaknkbmilcanaaGreatDoor.Gr
namespace Go.Proofs.YtmaknkbmilcanaaGreatDoor.Gr
open Go.RowKit
open Go.Proofs.YtmaknkbmilcanaaGreatDoor.Ul
set_option maxRecDepth 100000 in
theorem clo_any (x : Tg) (g : Nat) (u : List UInt8) (w : World) (hg : w.cell? ⟨g, 0, none⟩ = some (.string ⟨u.toArray⟩)) (hlt : g < w.heap.size) :
    Calls Tryz.prog 329 #[tV x, .pointer (some ⟨g, 0, none⟩)] w fun e w' => e = .returned (.bool (x.url == u)) ∧ Below w.heap.size w w' := by
  obtain ⟨t, p, q⟩ := x
  simp only
  have hg2 : (w.alloc (.cells #[.string ⟨t.toArray⟩, .int .i64 p, .int .i64 q] 85)).cell? ⟨g, 0, none⟩ = some (.string ⟨u.toArray⟩) := by rw [World.cell?_alloc_past _ _ _ hlt]; exact hg
  go_enter Tryz.func329, Tryz.ntmps329
  go_wp2
  go_ret
  exact ⟨ret_b (by first | rfl | simp), (Below.refl _ _).alloc (Nat.le_refl _) _⟩
abbrev cloV (g : Nat) : Value := .func (.func 329) #[] #[.pointer (some ⟨g, 0, none⟩)]
set_option maxRecDepth 100000 in
set_option maxHeartbeats 1000000 in
theorem idx_any (B : Nat) (w0 : World) (xs : List Tg) (v : Value) (u : List UInt8) (g : Nat) (h : TgIn (· < B) w0 v xs) (w : World) (hb : Below B w0 w) (hB : B ≤ w.heap.size) (hg : w.cell? ⟨g, 0, none⟩ = some (.string ⟨u.toArray⟩)) (hlt : g < w.heap.size) :
    Calls Tryz.prog 352 #[v, cloV g] w fun e w' => e = .returned (.int .i64 (atF u 0 xs)) ∧ Below w.heap.size w w' := by
  obtain ⟨a, cap, b, off, rfl, hcap, hm, hlen, ha, hc⟩ := h
  have hn : xs.length ≤ 9223372036854775807 := by omega
  have HC := Lib.hid hc
  have HA := Lib.hid ha
  have HB := Lib.hid hb
  have HG := Lib.hid hg
  clear hc ha hlen hb hg
  go_enter Tryz.func352, Tryz.ntmps352
  go_wp2
  go_loopw [8] (fun i wr => ∃ k : Nat, k ≤ xs.length ∧ i = .int .i64 k ∧ atF u 0 xs = atF u k (xs.drop k) ∧ Below w.heap.size w wr) (fun i _ => xs.length - (intOf i).toNat)
  case atStart => exact ⟨0, by omega, rfl, rfl, Below.refl _ _⟩
  case round =>
    obtain ⟨k, hk, rfl, hE, hR⟩ := hrel
    have HE := Lib.hid hE
    clear hE
    by_cases hl : k < xs.length
    · obtain ⟨ea, hlb⟩ := HA.out (by omega)
      subst ea
      have hW := HB.out.trans (hR.mono hB)
      obtain ⟨c0, c1, c2⟩ := HC.out k hl
      have q0 := (hW.cell (p := ⟨b, off + k * 3, none⟩) hlb).trans c0
      have q1 := (hW.cell (p := ⟨b, off + k * 3 + 1, none⟩) hlb).trans c1
      have q2 := (hW.cell (p := ⟨b, off + k * 3 + 2, none⟩) hlb).trans c2
      have D := Lib.hid (atF_drop u k hl)
      have HK := Lib.hid (clo_any (xs.getD k default) g u wr ((hR.cell (p := ⟨g, 0, none⟩) hlt).trans HG.out) (Nat.lt_of_lt_of_le hlt hR.size))
      have HR := Lib.hid hR
      clear c0 c1 c2 hW hR
      generalize xs.getD k default = x at *
      obtain ⟨c, hcc⟩ : ∃ c, (x.url == u) = c := ⟨_, rfl⟩
      rw [hcc] at D HK
      clear hcc
      go_wp2_with fail
      refine HK.out.mono ?_
      rintro e w1 ⟨rfl, hb1⟩
      have D1 := Lib.hid (belI_step HR.out hb1)
      clear hb1 q0 q1 q2
      cases c with
      | true =>
        go_wp2
        go_ret
        exact ⟨ret_i (by rw [HE.out, D.out]; rfl), D1.out⟩
      | false =>
        go_wp2
        go_roundw
        case rel => exact ⟨k + 1, by omega, by go_num, by rw [HE.out, D.out]; simp, D1.out⟩
        case measure => simp [intOf]; omega
    · go_wp2
      go_ret
      obtain rfl : k = xs.length := by omega
      exact ⟨ret_i (by rw [HE.out, List.drop_length]; rfl), hR⟩
theorem atF_has (u : List UInt8) : ∀ (xs : List Tg) (j : Nat), decide (0 ≤ atF u j xs) = hasU xs u
  | [], _ => by simp [atF, hasU]
  | x :: r, j => by
    have ih := atF_has u r (j + 1)
    cases hx : (x.url == u) with
    | true => simp [atF, hasU, hx]
    | false =>
      simp only [atF, hx, Bool.false_eq_true, if_false]
      rw [ih]
      simp [hasU, hx]
set_option maxRecDepth 100000 in
theorem cont_any (B : Nat) (w0 : World) (xs : List Tg) (v : Value) (u : List UInt8) (g : Nat) (h : TgIn (· < B) w0 v xs) (w : World) (hb : Below B w0 w) (hB : B ≤ w.heap.size) (hg : w.cell? ⟨g, 0, none⟩ = some (.string ⟨u.toArray⟩)) (hlt : g < w.heap.size) :
    Calls Tryz.prog 328 #[v, cloV g] w fun e w' => e = .returned (.bool (hasU xs u)) ∧ Below w.heap.size w w' := by
  have HI := Lib.hid (idx_any B w0 xs v u g h w hb hB hg hlt)
  have E := Lib.hid (atF_has u xs 0)
  obtain ⟨a1, l1, cc1, rfl⟩ := h.slice
  clear h hb hg
  generalize atF u 0 xs = ai at *
  go_enter Tryz.func328, Tryz.ntmps328
  go_wp2_with fail
  refine HI.out.mono ?_
  rintro e w1 ⟨rfl, hb1⟩
  have hE := E.out
  go_wp2
  go_ret
  exact ⟨ret_b (by rw [← hE]), hb1⟩
set_option maxRecDepth 100000 in
theorem has_any (B : Nat) (w0 : World) (xs : List Tg) (v : Value) (u : List UInt8) (h : TgIn (· < B) w0 v xs) (w : World) (hb : Below B w0 w) (hB : B ≤ w.heap.size) :
    Calls Tryz.prog 268 #[v, .string ⟨u.toArray⟩] w fun e w' => e = .returned (.bool (hasU xs u)) ∧ Below w.heap.size w w' := by
  have HI := Lib.hid (cont_any B w0 xs v u w.heap.size h (w.alloc (.cells #[.string ⟨u.toArray⟩] 9)) (hb.alloc hB _) (by simp; omega) (cell_of_row _ _ 0 _ _ _ (heap_alloc_new _ _)) (by simp))
  obtain ⟨a1, l1, cc1, rfl⟩ := h.slice
  clear h hb
  go_enter Tryz.func268, Tryz.ntmps268
  go_wp2_with fail
  refine HI.out.mono ?_
  rintro e w1 ⟨rfl, hb1⟩
  go_wp2
  go_ret
  exact ⟨rfl, ((Below.refl w.heap.size w).alloc (Nat.le_refl _) _).trans (hb1.mono (by simp))⟩
end Go.Proofs.YtmaknkbmilcanaaGreatDoor.Gr
namespace Go.Proofs.YtmaknkbmilcanaaGreatDoor.Gr
open Go.RowKit
open Go.Proofs.YtmaknkbmilcanaaGreatDoor.Ul
open Go.Proofs.YtmaknkbmilcanaaGreatDoor.Ext (up up_below up_mk wp_region_ext call_ext call_ext_same)
@[local go_sem] theorem up_cellK (w : World) (y : Ext.Ext w) (b o : Nat) (h : b < w.heap.size) : (up w y).cell? ⟨b, o, none⟩ = w.cell? ⟨b, o, none⟩ := Ext.up_cell w y b o h
theorem TgIn.take {S : Nat → Prop} {w : World} {xs : List Tg} {b off cap : Nat} (hn : xs.length ≤ cap) (hm : cap ≤ 9223372036854775807) (hl : ∀ i, i < xs.length → (xs.getD i default).url.length ≤ 9223372036854775807) (hS : S b)
    (hc : ∀ i, i < xs.length → w.cell? ⟨b, off + i * 3, none⟩ = some (.string ⟨(xs.getD i default).url.toArray⟩) ∧ w.cell? ⟨b, off + i * 3 + 1, none⟩ = some (.int .i64 (xs.getD i default).pri) ∧ w.cell? ⟨b, off + i * 3 + 2, none⟩ = some (.int .i64 (xs.getD i default).wt)) (k : Nat) (hk : k ≤ xs.length) :
    TgIn S w (.slice (some ⟨b, off, none⟩) k cap) (xs.take k) := by
  have hlen : (xs.take k).length = k := by simp; omega
  have hg : ∀ i, i < k → (xs.take k).getD i default = xs.getD i default := fun i hi => by simp [List.getD, hi]
  refine ⟨some ⟨b, off, none⟩, cap, b, off, by rw [hlen], by rw [hlen]; omega, hm, ?_, fun _ => ⟨rfl, hS⟩, ?_⟩
  · intro i hi; rw [hlen] at hi; rw [hg i hi]; exact hl i (by omega)
  · intro i hi; rw [hlen] at hi; rw [hg i hi]; exact hc i (by omega)
set_option maxRecDepth 100000 in
set_option maxHeartbeats 4000000 in
theorem tgsI_any (B : Nat) (w0 : World) (xs : List Tg) (v : Value) (h : TgIn (· < B) w0 v xs) (w : World) (hb : Below B w0 w) (hB : B ≤ w.heap.size) (hT : Tab w) (hM : MaxL w) :
    Calls Tryz.prog 191 #[v] w fun e w' => e = .returned (.bool (tgsB [] xs)) ∧ Below w.heap.size w w' := by
  obtain ⟨a, cap, b, off, rfl, hcap, hm, hlen, ha, hc⟩ := h
  have hn : xs.length ≤ 9223372036854775807 := by omega
  have HC := Lib.hid hc
  have HA := Lib.hid ha
  have HB := Lib.hid hb
  have HL := Lib.hid hlen
  have HT := Lib.hid hT
  have HM := Lib.hid hM
  clear hc ha hlen hb hT hM
  go_enter Tryz.func191, Tryz.ntmps191
  go_wp2
  go_loopw [7] (fun i wr => ∃ k : Nat, k ≤ xs.length ∧ i = .int .i64 k ∧ tgsB [] xs = tgsB (xs.take k) (xs.drop k) ∧ Below w.heap.size w wr) (fun i _ => xs.length - (intOf i).toNat)
  case atStart => exact ⟨0, by omega, rfl, rfl, Below.refl _ _⟩
  case round =>
    obtain ⟨k, hk, rfl, hE, hR⟩ := hrel
    have HE := Lib.hid hE
    clear hE
    by_cases hlt : k < xs.length
    · obtain ⟨ea, hlb⟩ := HA.out (by omega)
      subst ea
      have hW := HB.out.trans (hR.mono hB)
      have z1 : w.heap.size ≤ wr.heap.size := hR.size
      obtain ⟨c0, c1, c2⟩ := HC.out k hlt
      have q0 := (hW.cell (p := ⟨b, off + k * 3, none⟩) hlb).trans c0
      have q1 := (hW.cell (p := ⟨b, off + k * 3 + 1, none⟩) hlb).trans c1
      have q2 := (hW.cell (p := ⟨b, off + k * 3 + 2, none⟩) hlb).trans c2
      have TD := Lib.hid (tgsB_drop k hlt)
      have TK := Lib.hid (TgIn.take (S := (· < B)) (w := w0) (b := b) (off := off) hcap hm HL.out hlb HC.out k hk)
      have HO := Lib.hid (fun W hT hM => tgOK_any (xs.getD k default) W hT hM (HL.out k hlt))
      have HR := Lib.hid hR
      have hk2 : (k : Int) ≤ (cap : Int) := by omega
      clear c0 c1 c2 hW hR
      generalize xs.getD k default = x at *
      have HH := Lib.hid (fun (W : World) (h1 : Below B w0 W) (h2 : B ≤ W.heap.size) => has_any B w0 (xs.take k) _ x.url TK.out W h1 h2)
      generalize hasU (xs.take k) x.url = c at *
      generalize tgB x = tb at *
      go_wp2_with fail
      have D0 := Lib.hid (HR.out.alloc z1 (.cells #[.string ⟨x.url.toArray⟩, .int .i64 x.pri, .int .i64 x.wt] 85))
      obtain ⟨m0, m1, m2, mf⟩ := three_cells (heap_alloc_new wr (.cells #[.string ⟨x.url.toArray⟩, .int .i64 x.pri, .int .i64 x.wt] 85))
      have hz : wr.heap.size < (wr.alloc (.cells #[.string ⟨x.url.toArray⟩, .int .i64 x.pri, .int .i64 x.wt] 85)).heap.size := by simp
      clear q0 q1 q2 HR
      generalize wr.alloc (.cells #[.string ⟨x.url.toArray⟩, .int .i64 x.pri, .int .i64 x.wt] 85) = w1 at *
      have zB : B ≤ w1.heap.size := by omega
      have DB := Lib.hid (HB.out.trans (D0.out.mono hB))
      clear mf
      cases tb <;> cases c
      all_goals
        refine wp_region_ext (by kernel_rfl) (by kernel_rfl) ?_
        repeat (go_big_quiet_step ((first
          | (go_at_call 267; refine call_ext (v := .bool true) ?_; with_reducible exact HO.out _ (HT.out.below (belI_step D0.out (up_below _ _))) (HM.out.below (belI_step D0.out (up_below _ _))))
          | (go_at_call 267; refine call_ext (v := .bool false) ?_; with_reducible exact HO.out _ (HT.out.below (belI_step D0.out (up_below _ _))) (HM.out.below (belI_step D0.out (up_below _ _))))
          | (go_at_call 268; refine call_ext (v := .bool true) ?_; with_reducible exact HH.out _ (DB.out.trans ((up_below _ _).mono zB)) (Nat.le_trans zB (up_below _ _).size))
          | (go_at_call 268; refine call_ext (v := .bool false) ?_; with_reducible exact HH.out _ (DB.out.trans ((up_below _ _).mono zB)) (Nat.le_trans zB (up_below _ _).size)))))
        refine wpQuiet_nil ?_
        intro _ hw'
        obtain ⟨y8, rfl⟩ := hw'
        have hv8 := up_below _ y8
        generalize up _ y8 = v8 at *
        have D8 := Lib.hid (belI_step D0.out hv8)
        clear hv8 m0 m1 m2
      · go_wp2
        go_ret
        exact ⟨ret_b (by rw [HE.out, TD.out]; rfl), D8.out⟩
      · go_wp2
        go_ret
        exact ⟨ret_b (by rw [HE.out, TD.out]; rfl), D8.out⟩
      · go_wp2
        go_roundw
        case rel => exact ⟨k + 1, by omega, by go_num, by rw [HE.out, TD.out]; rfl, D8.out⟩
        case measure => simp [intOf]; omega
      · go_wp2
        go_ret
        exact ⟨ret_b (by rw [HE.out, TD.out]; rfl), D8.out⟩
    · go_wp2
      go_ret
      obtain rfl : k = xs.length := by omega
      exact ⟨ret_b (by rw [HE.out, List.drop_length]; rfl), hR⟩
end Go.Proofs.YtmaknkbmilcanaaGreatDoor.Gr
namespace Go.Proofs.YtmaknkbmilcanaaGreatDoor.Gr
open Go.RowKit
open Go.Proofs.YtmaknkbmilcanaaGreatDoor.Ul
open Go.Proofs.YtmaknkbmilcanaaGreatDoor.Ext (up up_below up_mk wp_region_ext call_ext call_ext_same)
@[local go_sem] theorem up_cellO (w : World) (y : Ext.Ext w) (b o : Nat) (h : b < w.heap.size) : (up w y).cell? ⟨b, o, none⟩ = w.cell? ⟨b, o, none⟩ := Ext.up_cell w y b o h
theorem ageG_any (n : Int) (w : World) : Calls Tryz.prog 190 #[.int .i64 n] w fun e w' => e = .returned (.bool (decide (1 ≤ n ∧ n ≤ 100))) ∧ w = w' := by
  by_cases h1 : 1 ≤ n
  · by_cases h2 : n ≤ 100
    all_goals
      go_enter Tryz.func190, Tryz.ntmps190
      go_wp2
      go_ret
      exact ⟨ret_b (by simp; omega), rfl⟩
  · go_enter Tryz.func190, Tryz.ntmps190
    go_wp2
    go_ret
    exact ⟨ret_b (by simp; omega), rfl⟩
set_option maxRecDepth 100000 in
set_option maxHeartbeats 4000000 in
theorem groupI (B : Nat) (w0 : World) (g : Gp) (v : Value) (h : TgIn (· < B) w0 v g.tgs) (hn : g.name.length ≤ 1048576) (W : World) (hb : Below B w0 W) (hB : B ≤ W.heap.size) (hT : Tab W) (hM : MaxL W) :
    Calls Tryz.prog 113 #[gV g v] W fun e w' => e = .returned (.bool (gpB g)) ∧ Below W.heap.size W w' := by
  obtain ⟨n, ag, xs⟩ := g
  simp only at h hn
  have HS := Lib.hid (fun (W' : World) h1 h2 h3 h4 => tgsI_any B w0 xs v h W' h1 h2 h3 h4)
  obtain ⟨a, cap, b, off, rfl, hcap, hm, -, -, -⟩ := h
  have HN := Lib.hid (fun W => Nm.NameOK_any ⟨n.toArray⟩ W (by simp [ByteArray.size, maxLen]; omega))
  have HB := Lib.hid hb
  have HT := Lib.hid hT
  have HM := Lib.hid hM
  clear hb hT hM hn
  unfold gpB
  simp only
  generalize Nm.nameB ⟨n.toArray⟩ = b1 at *
  generalize tgsB [] xs = b4 at *
  go_enter Tryz.func113, Tryz.ntmps113
  go_wp2_with fail
  refine (HN.out _).mono ?_
  rintro e w1 ⟨rfl, hb1⟩
  obtain ⟨m0, m1, m2, mf⟩ := three_cells ((hb1.block W.heap.size (by simp)).trans (heap_alloc_new W (.cells #[.string ⟨n.toArray⟩, .int .i64 ag, .slice a xs.length cap] 82)))
  have z1 : W.heap.size ≤ w1.heap.size := by have := hb1.size; simp at this; omega
  have HF := Lib.hid (((Below.refl W.heap.size W).alloc (Nat.le_refl _) (.cells #[.string ⟨n.toArray⟩, .int .i64 ag, .slice a xs.length cap] 82)).trans (hb1.mono (by simp)))
  clear hb1
  cases b1
  · go_wp2
    go_ret
    exact ⟨rfl, HF.out⟩
  have HAG := Lib.hid (ageG_any ag w1)
  obtain ⟨b2, hb2⟩ : ∃ b, decide (1 ≤ ag ∧ ag ≤ 100) = b := ⟨_, rfl⟩
  rw [hb2] at HAG
  have E1 := Lib.hid hb2
  clear hb2
  go_wp2_with fail
  refine HAG.out.mono ?_
  rintro e _ ⟨rfl, rfl⟩
  cases b2
  · go_wp2
    go_ret
    exact ⟨ret_b (by rw [E1.out]; rfl), HF.out⟩
  by_cases a3 : 1 ≤ xs.length
  · have d3 : decide ((1 : Int) ≤ (xs.length : Int)) = true := by simp; omega
    by_cases a4 : xs.length ≤ 4
    · have d4 : decide ((xs.length : Int) ≤ 4) = true := by simp; omega
      have e2 := Lib.hid (show decide (1 ≤ xs.length ∧ xs.length ≤ 4) = true by simp; omega)
      go_wp2_with fail
      refine (HS.out w1 (HB.out.trans (HF.out.mono hB)) (by omega) (HT.out.below HF.out) (HM.out.below HF.out)).mono ?_
      rintro e w2 ⟨rfl, hb2⟩
      have HF2 := Lib.hid (HF.out.trans (hb2.mono z1))
      clear hb2 m0 m1 m2 mf
      go_wp2
      go_ret
      exact ⟨ret_b (by rw [E1.out, e2.out]; rfl), HF2.out⟩
    · have d4 : decide ((xs.length : Int) ≤ 4) = false := by simp; omega
      have e2 := Lib.hid (show decide (1 ≤ xs.length ∧ xs.length ≤ 4) = false by simp; omega)
      go_wp2
      go_ret
      exact ⟨ret_b (by rw [E1.out, e2.out]; rfl), HF.out⟩
  · have d3 : decide ((1 : Int) ≤ (xs.length : Int)) = false := by simp; omega
    have e2 := Lib.hid (show decide (1 ≤ xs.length ∧ xs.length ≤ 4) = false by simp; omega)
    go_wp2
    go_ret
    exact ⟨ret_b (by rw [E1.out, e2.out]; rfl), HF.out⟩
end Go.Proofs.YtmaknkbmilcanaaGreatDoor.Gr
