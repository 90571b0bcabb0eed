
/-
  The program's functions on targets, walked: rankOK, cleanUrl, targetOK.
-/
import Derived.Test.YtakiigddbdapaaaGreatDoorGrPlain
namespace Go.Proofs.YtakiigddbdapaaaGreatDoor.Gr
open Go.RowKit
open Go.Proofs.YtakiigddbdapaaaGreatDoor.Ul
theorem rank_any (n : Int) (W : World) : Calls Tryz.prog 94 #[.int .i64 n] W fun e w' => e = .returned (.bool (rk n)) ∧ W = w' := by
  unfold rk
  by_cases h1 : 1 ≤ n
  · by_cases h2 : n ≤ 9
    · have d1 : decide ((1 : Int) ≤ n) = true := by simpa using h1
      have d2 : decide (n ≤ (9 : Int)) = true := by simpa using h2
      have e : decide (1 ≤ n ∧ n ≤ 9) = true := by simp [h1, h2]
      rw [e]
      clear e
      go_enter Tryz.func94, Tryz.ntmps94
      go_wp2
      go_ret
      exact ⟨rfl, rfl⟩
    · have d1 : decide ((1 : Int) ≤ n) = true := by simpa using h1
      have d2 : decide (n ≤ (9 : Int)) = false := by simpa using h2
      have e : decide (1 ≤ n ∧ n ≤ 9) = false := by simp; omega
      rw [e]
      clear e
      go_enter Tryz.func94, Tryz.ntmps94
      go_wp2
      go_ret
      exact ⟨rfl, rfl⟩
  · have d1 : decide ((1 : Int) ≤ n) = false := by simpa using h1
    have e : decide (1 ≤ n ∧ n ≤ 9) = false := by simp; omega
    rw [e]
    clear e
    go_enter Tryz.func94, Tryz.ntmps94
    go_wp2
    go_ret
    exact ⟨rfl, rfl⟩
def cleanC (t : List UInt8) : Bool := (PC t == 0) && webB (PU t).sch
def cleanL (t : List UInt8) : List UInt8 := if cleanC t then textL (nofrag (PU t)) else []
set_option maxRecDepth 100000 in
set_option maxHeartbeats 2000000 in
theorem clean_web (t : List UInt8) (w : World) (hT : Tab w) (hM : MaxL w) (hl : t.length ≤ 9223372036854775807) (hc : PC t = 0) (hw : webB (PU t).sch = true) :
    Calls Tryz.prog 93 #[.string ⟨t.toArray⟩] w fun e w' => e = .returned (.tuple #[.string ⟨(cleanL t).toArray⟩, .bool (cleanC t)]) ∧ Below w.heap.size w w' := by
  have e1 : cleanC t = true := by simp [cleanC, hc, hw]
  have e2 : cleanL t = textL (nofrag (PU t)) := by simp [cleanL, e1]
  have hok := PC_okG t hc
  have hz := PU_size t
  have hp := ok_fields (PU t) hok hw
  rw [e1, e2]
  clear e1 e2
  have HT := Lib.hid hT
  have HM := Lib.hid hM
  clear hT hM
  have HP0 := fun W hT hM => pI_any t W hT hM hl
  rw [hc] at HP0
  have HP := Lib.hid HP0
  clear HP0 hc hok
  generalize PU t = u at *
  obtain ⟨s, us, h, p, pa, q, f, hq, hf⟩ := u
  simp only [nofrag, sizeU] at *
  have HJ := Lib.hid (fun W hT => join_any s us h pa q [] p hq false W hT (fun _ => hp) (by simp; omega))
  have HW0 := fun (W : World) => isWeb_any s W
  rw [hw] at HW0
  have HW := Lib.hid HW0
  clear HW0 hw hz hp
  generalize textL ⟨s, us, h, p, pa, q, [], hq, false⟩ = tx at *
  go_enter Tryz.func93, Tryz.ntmps93
  go_wp2_with fail
  refine (HP.out _ (HT.out.below (by repeat (first | (with_reducible exact Below.refl _ _) | (with_reducible refine belI_set ?_ (by first | exact Nat.le_refl _ | simp)) | (with_reducible refine belI_alloc ?_) | (with_reducible refine Below.drew ?_) | (with_reducible refine belI_drewN ?_ _) | (with_reducible refine belI_step ?_ (by assumption))))) (HM.out.below (by repeat (first | (with_reducible exact Below.refl _ _) | (with_reducible refine belI_set ?_ (by first | exact Nat.le_refl _ | simp)) | (with_reducible refine belI_alloc ?_) | (with_reducible refine Below.drew ?_) | (with_reducible refine belI_drewN ?_ _) | (with_reducible refine belI_step ?_ (by assumption)))))).mono ?_
  rintro e w1 ⟨rfl, hb1⟩
  go_wp2_with (go_at_call 102; refine (HW.out _).mono ?_; rintro e w' ⟨rfl, rfl⟩)
  refine (HJ.out _ (HT.out.below (by repeat (first | (with_reducible exact Below.refl _ _) | (with_reducible refine belI_set ?_ (by first | exact Nat.le_refl _ | simp)) | (with_reducible refine belI_alloc ?_) | (with_reducible refine Below.drew ?_) | (with_reducible refine belI_drewN ?_ _) | (with_reducible refine belI_step ?_ (by assumption)))))).mono ?_
  rintro e w2 ⟨rfl, hb2⟩
  go_wp2
  exact bodyPost_ret (v := .tuple #[.string ⟨tx.toArray⟩, .bool true]) (by simp [results, Tryz.results93, go_sem]) rfl ⟨rfl, (by repeat (first | (with_reducible exact Below.refl _ _) | (with_reducible refine belI_set ?_ (by first | exact Nat.le_refl _ | simp)) | (with_reducible refine belI_alloc ?_) | (with_reducible refine Below.drew ?_) | (with_reducible refine belI_drewN ?_ _) | (with_reducible refine belI_step ?_ (by assumption))))⟩
set_option maxRecDepth 100000 in
theorem clean_not (t : List UInt8) (w : World) (hT : Tab w) (hM : MaxL w) (hl : t.length ≤ 9223372036854775807) (hc : cleanC t = false) :
    Calls Tryz.prog 93 #[.string ⟨t.toArray⟩] w fun e w' => e = .returned (.tuple #[.string ⟨(cleanL t).toArray⟩, .bool (cleanC t)]) ∧ Below w.heap.size w w' := by
  have e2 : cleanL t = [] := by simp [cleanL, hc]
  rw [hc, e2]
  clear e2
  have HP := Lib.hid (fun W hT hM => pI_any t W hT hM hl)
  have HT := Lib.hid hT
  have HM := Lib.hid hM
  clear hT hM hl
  unfold cleanC at hc
  generalize PU t = u at *
  by_cases h0 : PC t = 0
  · have hw : webB u.sch = false := by simpa [h0] using hc
    have HW0 := fun (W : World) => isWeb_any u.sch W
    rw [hw] at HW0
    rw [h0] at HP
    have HW := Lib.hid HW0
    clear HW0 hw hc h0
    go_enter Tryz.func93, Tryz.ntmps93
    go_wp2_with fail
    refine (HP.out _ (HT.out.below (by repeat (first | (with_reducible exact Below.refl _ _) | (with_reducible refine belI_set ?_ (by first | exact Nat.le_refl _ | simp)) | (with_reducible refine belI_alloc ?_) | (with_reducible refine Below.drew ?_) | (with_reducible refine belI_drewN ?_ _) | (with_reducible refine belI_step ?_ (by assumption))))) (HM.out.below (by repeat (first | (with_reducible exact Below.refl _ _) | (with_reducible refine belI_set ?_ (by first | exact Nat.le_refl _ | simp)) | (with_reducible refine belI_alloc ?_) | (with_reducible refine Below.drew ?_) | (with_reducible refine belI_drewN ?_ _) | (with_reducible refine belI_step ?_ (by assumption)))))).mono ?_
    rintro e w1 ⟨rfl, hb1⟩
    go_wp2_with (go_at_call 102; refine (HW.out _).mono ?_; rintro e w' ⟨rfl, rfl⟩)
    exact bodyPost_ret (v := .tuple #[.string ⟨#[]⟩, .bool false]) (by simp [results, Tryz.results93, go_sem]) rfl ⟨rfl, (by repeat (first | (with_reducible exact Below.refl _ _) | (with_reducible refine belI_set ?_ (by first | exact Nat.le_refl _ | simp)) | (with_reducible refine belI_alloc ?_) | (with_reducible refine Below.drew ?_) | (with_reducible refine belI_drewN ?_ _) | (with_reducible refine belI_step ?_ (by assumption))))⟩
  · have d1 : (PC t != 0) = true := by simpa using h0
    have d2 : (PC t == 0) = false := by simpa using h0
    clear hc h0
    generalize PC t = c at *
    go_enter Tryz.func93, Tryz.ntmps93
    go_wp2_with fail
    refine (HP.out _ (HT.out.below (by repeat (first | (with_reducible exact Below.refl _ _) | (with_reducible refine belI_set ?_ (by first | exact Nat.le_refl _ | simp)) | (with_reducible refine belI_alloc ?_) | (with_reducible refine Below.drew ?_) | (with_reducible refine belI_drewN ?_ _) | (with_reducible refine belI_step ?_ (by assumption))))) (HM.out.below (by repeat (first | (with_reducible exact Below.refl _ _) | (with_reducible refine belI_set ?_ (by first | exact Nat.le_refl _ | simp)) | (with_reducible refine belI_alloc ?_) | (with_reducible refine Below.drew ?_) | (with_reducible refine belI_drewN ?_ _) | (with_reducible refine belI_step ?_ (by assumption)))))).mono ?_
    rintro e w1 ⟨rfl, hb1⟩
    go_wp2
    exact bodyPost_ret (v := .tuple #[.string ⟨#[]⟩, .bool false]) (by simp [results, Tryz.results93, go_sem]) rfl ⟨rfl, (by repeat (first | (with_reducible exact Below.refl _ _) | (with_reducible refine belI_set ?_ (by first | exact Nat.le_refl _ | simp)) | (with_reducible refine belI_alloc ?_) | (with_reducible refine Below.drew ?_) | (with_reducible refine belI_drewN ?_ _) | (with_reducible refine belI_step ?_ (by assumption))))⟩
theorem clean_any (t : List UInt8) (w : World) (hT : Tab w) (hM : MaxL w) (hl : t.length ≤ 9223372036854775807) :
    Calls Tryz.prog 93 #[.string ⟨t.toArray⟩] w fun e w' => e = .returned (.tuple #[.string ⟨(cleanL t).toArray⟩, .bool (cleanC t)]) ∧ Below w.heap.size w w' := by
  cases hc : cleanC t with
  | false => rw [← hc]; exact clean_not t w hT hM hl hc
  | true =>
    rw [← hc]
    simp only [cleanC, Bool.and_eq_true, beq_iff_eq] at hc
    exact clean_web t w hT hM hl hc.1 hc.2
theorem urlI_clean (t : List UInt8) : urlI t = (cleanC t && (cleanL t == t)) := by
  unfold urlI cleanL
  show (cleanC t && _) = _
  cases h : cleanC t <;> simp
set_option maxRecDepth 100000 in
set_option maxHeartbeats 4000000 in
theorem tgOK_any (t : Tg) (w : World) (hT : Tab w) (hM : MaxL w) (hl : t.url.length ≤ 9223372036854775807) :
    Calls Tryz.prog 83 #[tV t] w fun e w' => e = .returned (.bool (tgB t)) ∧ Below w.heap.size w w' := by
  obtain ⟨u, p, q⟩ := t
  have e : tgB ⟨u, p, q⟩ = (((cleanC u && (cleanL u == u)) && rk p) && rk q) := by simp [tgB, ← url_same, urlI_clean]
  rw [e]
  clear e
  have HC := Lib.hid (fun W hT hM => clean_any u W hT hM hl)
  have HP := Lib.hid (fun W => rank_any p W)
  have HQ := Lib.hid (fun W => rank_any q W)
  have HT := Lib.hid hT
  have HM := Lib.hid hM
  clear hT hM hl
  obtain ⟨c, hc⟩ : ∃ c, (cleanL u == u) = c := ⟨_, rfl⟩
  have hc' : (cleanL u != u) = !c := by rw [← hc]; rfl
  rw [hc]
  generalize cleanL u = cl at *
  generalize cleanC u = k at *
  generalize rk p = rp at *
  generalize rk q = rq at *
  go_enter Tryz.func83, Tryz.ntmps83
  go_wp2_with fail
  refine (HC.out _ (HT.out.below (by repeat (first | (with_reducible exact Below.refl _ _) | (with_reducible refine belI_set ?_ (by first | exact Nat.le_refl _ | simp)) | (with_reducible refine belI_alloc ?_) | (with_reducible refine Below.drew ?_) | (with_reducible refine belI_drewN ?_ _) | (with_reducible refine belI_step ?_ (by assumption))))) (HM.out.below (by repeat (first | (with_reducible exact Below.refl _ _) | (with_reducible refine belI_set ?_ (by first | exact Nat.le_refl _ | simp)) | (with_reducible refine belI_alloc ?_) | (with_reducible refine Below.drew ?_) | (with_reducible refine belI_drewN ?_ _) | (with_reducible refine belI_step ?_ (by assumption)))))).mono ?_
  rintro e w1 ⟨rfl, hb1⟩
  obtain ⟨m0, m1, m2, mf⟩ := three_cells ((hb1.block w.heap.size (by simp)).trans (heap_alloc_new w (.cells #[.string ⟨u.toArray⟩, .int .i64 p, .int .i64 q] 55)))
  have hB : Below w.heap.size w w1 := (by repeat (first | (with_reducible exact Below.refl _ _) | (with_reducible refine belI_set ?_ (by first | exact Nat.le_refl _ | simp)) | (with_reducible refine belI_alloc ?_) | (with_reducible refine Below.drew ?_) | (with_reducible refine belI_drewN ?_ _) | (with_reducible refine belI_step ?_ (by assumption))))
  clear HC HT HM hb1
  cases k
  · go_wp2_with fail
    go_ret
    exact ⟨rfl, hB⟩
  cases c
  · go_wp2_with fail
    go_ret
    exact ⟨rfl, hB⟩
  cases rp
  · go_wp2_with (go_at_call 94; refine (HP.out _).mono ?_; rintro e w' ⟨rfl, rfl⟩)
    go_ret
    exact ⟨rfl, hB⟩
  · go_wp2_with (first
      | (go_at_call 94; refine (HP.out _).mono ?_; rintro e w' ⟨rfl, rfl⟩)
      | (go_at_call 94; refine (HQ.out _).mono ?_; rintro e w' ⟨rfl, rfl⟩))
    go_ret
    exact ⟨rfl, hB⟩
end Go.Proofs.YtakiigddbdapaaaGreatDoor.Gr
