
/-
  The walks of the model's function of chapter 2 that reads a URL.
-/
import Derived.Test.YtniflfgnelfpbaaDoorUrlSpecF
import Derived.Test.YtniflfgnelfpbaaDoorUrlSpecD
import Derived.Test.YtniflfgnelfpbaaDoorUrlAt
import Derived.Deep.DeepCutAuto
import Derived.Deep.RegionWith
import Derived.Outline
namespace Go.Proofs.YtniflfgnelfpbaaDoor.Ul
open Go.RowKit
def parseX (t : List UInt8) : U := if splitB t then splitU t else U.none
@[local go_sem] theorem ext_bef (l : List UInt8) (c : Nat) : (⟨l.toArray⟩ : ByteArray).extract 0 (findB l c) = ⟨(befL l c).toArray⟩ := by
  apply ByteArray.ext; simp [befL, List.extract_toArray]
@[local go_sem] theorem ext_aft (l : List UInt8) (c : Nat) : (⟨l.toArray⟩ : ByteArray).extract (findB l c + 1) l.length = ⟨(aftL l c).toArray⟩ := by
  apply ByteArray.ext; simp [aftL, List.extract_toArray]; exact List.take_of_length_le (by simp)
theorem cells9 {w w1 : World} {v0 v1 v2 v3 v4 v5 v6 v7 v8 : Value} {T : TypeId} (hc : (∀ b o, b < (w.alloc (.cells #[v0, v1, v2, v3, v4, v5, v6, v7, v8] T)).heap.size → w1.cell? ⟨b, o, none⟩ = (w.alloc (.cells #[v0, v1, v2, v3, v4, v5, v6, v7, v8] T)).cell? ⟨b, o, none⟩) ∧ (∀ b o, b < (w.alloc (.cells #[v0, v1, v2, v3, v4, v5, v6, v7, v8] T)).heap.size → w1.frozen? ⟨b, o, none⟩ = (w.alloc (.cells #[v0, v1, v2, v3, v4, v5, v6, v7, v8] T)).frozen? ⟨b, o, none⟩)) :
    w1.cell? ⟨w.heap.size, 0, none⟩ = some v0 ∧ w1.cell? ⟨w.heap.size, 1, none⟩ = some v1 ∧ w1.cell? ⟨w.heap.size, 2, none⟩ = some v2 ∧ w1.cell? ⟨w.heap.size, 3, none⟩ = some v3 ∧ w1.cell? ⟨w.heap.size, 4, none⟩ = some v4 ∧ w1.cell? ⟨w.heap.size, 5, none⟩ = some v5 ∧ w1.cell? ⟨w.heap.size, 6, none⟩ = some v6 ∧ w1.cell? ⟨w.heap.size, 7, none⟩ = some v7 ∧ w1.cell? ⟨w.heap.size, 8, none⟩ = some v8 ∧ ∀ o, w1.frozen? ⟨w.heap.size, o, none⟩ = false := by
  have h := fun o => hc.1 w.heap.size o (by simp)
  refine ⟨?_, ?_, ?_, ?_, ?_, ?_, ?_, ?_, ?_, fun o => (hc.2 w.heap.size o (by simp)).trans (World.frozen?_alloc_at _ _ _ _ rfl)⟩ <;> (rw [h, World.cell?_alloc_at _ _ _ _ rfl]; rfl)
theorem has_no {l : List UInt8} {c : Nat} (h : hasB l c = false) : ((findB l c : Int) == (l.length : Int)) = true ∧ ¬ findB l c < l.length := by
  have := findB_le l c
  simp only [hasB, decide_eq_false_iff_not] at h
  exact ⟨beq_iff_eq.2 (by omega), h⟩
theorem has_yes {l : List UInt8} {c : Nat} (h : hasB l c = true) : ((findB l c : Int) == (l.length : Int)) = false ∧ findB l c < l.length := by
  simp only [hasB, decide_eq_true_eq] at h
  exact ⟨beq_eq_false_iff_ne.2 (by omega), h⟩
theorem parseS_none (t : List UInt8) (w : World) (hl : t.length ≤ 140737488351232) (h : hasB t 58 = false) : Calls Tryd.prog 43 #[.string ⟨t.toArray⟩] w fun e w' => e = .returned (.tuple #[uV U.none, .bool false]) ∧ Below w.heap.size w w' := by
  have hk := findB_le t 58
  obtain ⟨d0, d1⟩ := has_no h
  clear h
  go_enter Tryd.func43, Tryd.ntmps43
  go_wp2_with (go_at_call 66; refine (find_any _ _ _ (by omega)).mono ?_; rintro e w' ⟨rfl, rfl⟩)
  exact bodyPost_ret (v := .tuple #[uV U.none, .bool false]) (by simp [results, Tryd.results43, go_sem, U.none]) rfl ⟨rfl, (by repeat (first | exact Below.refl _ _ | refine bel_alloc ?_ | refine Below.drew ?_ | refine bel_step ?_ (by assumption)))⟩
set_option maxRecDepth 100000 in
set_option maxHeartbeats 4000000 in
theorem parseS_other (t : List UInt8) (w : World) (hl : t.length ≤ 140737488351232) (h : hasB t 58 = true) (hw : webB (lowL (befL t 58)) = false) : Calls Tryd.prog 43 #[.string ⟨t.toArray⟩] w fun e w' => e = .returned (.tuple #[uV (otherU (lowL (befL t 58)) (aftL t 58)), .bool (okB (otherU (lowL (befL t 58)) (aftL t 58)))]) ∧ Below w.heap.size w w' := by
  have hk := findB_le t 58
  obtain ⟨d0, d1⟩ := has_yes h
  have hl1 := bef_len t 58
  have hl2 := aft_len t 58
  have hl3 := low_len (befL t 58)
  have HLOW := Lib.hid (fun W => lowerS_any (befL t 58) W (by omega))
  have hsl : (lowL (befL t 58)).length ≤ 140737488351232 := by omega
  clear h hl3
  generalize lowL (befL t 58) = s at *
  generalize hrr : aftL t 58 = r at *
  have hf1 := findB_le r 35
  have hr1 := bef_len r 35
  have HO := Lib.hid (fun W => ok_any s [] [] (beforeQ r) [] [] 0 false false W (by omega) (by have := bef_len (befL r 35) 63; simp [beforeQ]; omega))
  have hf2 := findB_le (befL r 35) 63
  have EQ : Hid (beforeQ r = befL (befL r 35) 63) := Lib.hid rfl
  go_enter Tryd.func43, Tryd.ntmps43
  go_wp2_with (first
    | (go_at_call 66; refine (find_any _ _ _ (by omega)).mono ?_; rintro e w' ⟨rfl, rfl⟩)
    | (go_at_call 67; refine (HLOW.out _).mono ?_; rintro e w1 ⟨rfl, hb⟩; have hc := bcell hb; have hz : w.heap.size < w1.heap.size := (by have := hb.size; (try simp at this); omega))
    | (go_at_call 60; refine (web_any _ _).mono ?_; rintro e w' ⟨rfl, rfl⟩))
  clear HLOW
  rw [← EQ.out]
  obtain ⟨q0, q1, q2, q3, q4, q5, q6, q7, q8, qf⟩ := cells9 hc
  have hz' : w.heap.size < w1.heap.size + 1 := by omega
  have HB := Lib.hid hb
  clear hb hc
  go_region_with (first | (go_at_call 68; refine (HO.out _).mono ?_; rintro e w2 ⟨rfl, hb2⟩; have hc2 := fun o => hb2.cell (p := ⟨w.heap.size, o, none⟩) (by simp; omega); have hf2 := fun o => hb2.frozen (p := ⟨w.heap.size, o, none⟩) (by simp; omega); have hu2 := fun o => hb2.cell (p := ⟨w1.heap.size, o, none⟩) (by simp)) | fail)
  all_goals
    go_wp2
    refine bodyPost_ret (ret_url2 (u := otherU s r) (a := 2) (s := 3) (B := w.heap.size) Tryd.results43 rfl rfl ?_ ?_ ?_ ?_ ?_ ?_ ?_ ?_ ?_) rfl ⟨rfl, ?_⟩
    rotate_left 9
    · have hb := HB.out
      exact (by repeat (first | (with_reducible exact Below.refl _ _) | (with_reducible refine bel_set ?_ (Nat.le_refl _)) | (with_reducible refine bel_alloc ?_) | (with_reducible refine Below.drew ?_) | (with_reducible refine bel_step ?_ (by assumption))))
    all_goals (simp [go_sem, otherU, U.none, *]; done)
end Go.Proofs.YtniflfgnelfpbaaDoor.Ul
