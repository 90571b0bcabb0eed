
/-
  The walks of the program's functions of chapter 2, the end: the text of a URL, whether it is well formed, its origin, what is left when it is stripped.
-/
import Derived.Test.YtniflfgnelfpbaaDoorUrlImplC
namespace Go.Proofs.YtniflfgnelfpbaaDoor.Ul
open Go.RowKit
attribute [local go_sem] bappI
theorem userI_no : userL [] = [] := rfl
theorem userI_yes {l : List UInt8} (h : ¬ l = []) : userL l = l ++ [64] := by simp [userL, h]
set_option maxRecDepth 100000 in
theorem join_web (s us h pa q f : List UInt8) (p : Int) (hq hf : Bool) (w : World) (hT : Tab w) (hp : 0 ≤ p ∧ p ≤ 65535) (hl : s.length + us.length + h.length + pa.length + q.length + f.length ≤ 4611686018427387904) (hw : webB s = true) :
    Calls Tryd.prog 91 #[.agg #[.string ⟨s.toArray⟩, .string ⟨us.toArray⟩, .string ⟨h.toArray⟩, .int .i64 p, .string ⟨pa.toArray⟩, .string ⟨q.toArray⟩, .string ⟨f.toArray⟩, .bool hq, .bool hf]] w fun e w' => e = .returned (.string ⟨(textL ⟨s, us, h, p, pa, q, f, hq, hf⟩).toArray⟩) ∧ Below w.heap.size w w' := by
  have e : textL ⟨s, us, h, p, pa, q, f, hq, hf⟩ = s ++ [58, 47, 47] ++ userL us ++ (h ++ portL p ++ pa) ++ queryL hq q ++ fragL hf f := by simp [textL, hw]
  rw [e]
  clear e
  have hd := portL_len p (by omega)
  have HS0 := fun (us' : List UInt8) W hT => hostText_any s us' h pa q f p hq hf W hT hp (by omega)
  have HT := Lib.hid hT
  clear hT
  generalize portL p = po at *
  have b2 : ¬ 9223372036854775807 < h.length + po.length + pa.length := by omega
  by_cases hu : us = []
  · subst hu
    have b3 : ¬ 9223372036854775807 < s.length + 3 + (h.length + po.length + pa.length) := by omega
    have b4 : ¬ 9223372036854775807 < s.length + 3 + (h.length + (po.length + pa.length)) := by omega
    have HS := Lib.hid (HS0 [])
    clear HS0
    rw [userI_no]
    go_enter Tryd.func91, Tryd.ntmps91
    go_wp2_with fail
    refine (isWeb_any _ _).mono ?_
    rintro e w' ⟨rfl, rfl⟩
    go_wp2_with fail
    go_region_held3 (fun wx => w.heap.size < wx.heap.size ∧ wx.cell? ⟨w.heap.size, 0, none⟩ = some (.string ⟨s.toArray⟩) ∧ wx.cell? ⟨w.heap.size, 1, none⟩ = some (.string ⟨#[]⟩) ∧ wx.cell? ⟨w.heap.size, 2, none⟩ = some (.string ⟨h.toArray⟩) ∧ wx.cell? ⟨w.heap.size, 3, none⟩ = some (.int .i64 p) ∧ wx.cell? ⟨w.heap.size, 4, none⟩ = some (.string ⟨pa.toArray⟩) ∧ wx.cell? ⟨w.heap.size, 5, none⟩ = some (.string ⟨q.toArray⟩) ∧ wx.cell? ⟨w.heap.size, 6, none⟩ = some (.string ⟨f.toArray⟩) ∧ wx.cell? ⟨w.heap.size, 7, none⟩ = some (.bool hq) ∧ wx.cell? ⟨w.heap.size, 8, none⟩ = some (.bool hf) ∧ Below w.heap.size w wx)
      (first
          | (simp [*, Below.refl, belI_alloc, Below.drew]; done)
          | (go_split_ands
             have hz := hb.size
             refine ⟨by omega, ?_, ?_, ?_, ?_, ?_, ?_, ?_, ?_, ?_, belI_step (by assumption) hb⟩
             · (rw [hb.cell (p := ⟨w.heap.size, 0, none⟩) (by assumption)]; assumption)
             · (rw [hb.cell (p := ⟨w.heap.size, 1, none⟩) (by assumption)]; assumption)
             · (rw [hb.cell (p := ⟨w.heap.size, 2, none⟩) (by assumption)]; assumption)
             · (rw [hb.cell (p := ⟨w.heap.size, 3, none⟩) (by assumption)]; assumption)
             · (rw [hb.cell (p := ⟨w.heap.size, 4, none⟩) (by assumption)]; assumption)
             · (rw [hb.cell (p := ⟨w.heap.size, 5, none⟩) (by assumption)]; assumption)
             · (rw [hb.cell (p := ⟨w.heap.size, 6, none⟩) (by assumption)]; assumption)
             · (rw [hb.cell (p := ⟨w.heap.size, 7, none⟩) (by assumption)]; assumption)
             · (rw [hb.cell (p := ⟨w.heap.size, 8, none⟩) (by assumption)]; assumption)))
      (first | (go_split_ands; go_at_call 90; refine (HS.out _ (HT.out.below (by assumption))).mono ?_; rintro e w1 ⟨rfl, hb⟩))
    cases hq <;> cases hf
    all_goals
      go_wp2
      go_ret
      exact ⟨ret_str (by simp [queryL, fragL]), by simp [*]⟩
  · rw [userI_yes hu]
    have b3 : ¬ 9223372036854775807 < s.length + (us.length + 1 + 1 + 1 + 1) + (h.length + po.length + pa.length) := by omega
    have hu' : us.isEmpty = false := by simpa using hu
    have b4 : ¬ 9223372036854775807 < s.length + (us.length + 1 + 1 + 1 + 1) + (h.length + (po.length + pa.length)) := by omega
    have HS := Lib.hid (HS0 us)
    clear HS0
    go_enter Tryd.func91, Tryd.ntmps91
    go_wp2_with fail
    refine (isWeb_any _ _).mono ?_
    rintro e w' ⟨rfl, rfl⟩
    go_wp2_with fail
    go_region_held3 (fun wx => w.heap.size < wx.heap.size ∧ wx.cell? ⟨w.heap.size, 0, none⟩ = some (.string ⟨s.toArray⟩) ∧ wx.cell? ⟨w.heap.size, 1, none⟩ = some (.string ⟨us.toArray⟩) ∧ wx.cell? ⟨w.heap.size, 2, none⟩ = some (.string ⟨h.toArray⟩) ∧ wx.cell? ⟨w.heap.size, 3, none⟩ = some (.int .i64 p) ∧ wx.cell? ⟨w.heap.size, 4, none⟩ = some (.string ⟨pa.toArray⟩) ∧ wx.cell? ⟨w.heap.size, 5, none⟩ = some (.string ⟨q.toArray⟩) ∧ wx.cell? ⟨w.heap.size, 6, none⟩ = some (.string ⟨f.toArray⟩) ∧ wx.cell? ⟨w.heap.size, 7, none⟩ = some (.bool hq) ∧ wx.cell? ⟨w.heap.size, 8, none⟩ = some (.bool hf) ∧ Below w.heap.size w wx)
      (first
          | (simp [*, Below.refl, belI_alloc, Below.drew]; done)
          | (go_split_ands
             have hz := hb.size
             refine ⟨by omega, ?_, ?_, ?_, ?_, ?_, ?_, ?_, ?_, ?_, belI_step (by assumption) hb⟩
             · (rw [hb.cell (p := ⟨w.heap.size, 0, none⟩) (by assumption)]; assumption)
             · (rw [hb.cell (p := ⟨w.heap.size, 1, none⟩) (by assumption)]; assumption)
             · (rw [hb.cell (p := ⟨w.heap.size, 2, none⟩) (by assumption)]; assumption)
             · (rw [hb.cell (p := ⟨w.heap.size, 3, none⟩) (by assumption)]; assumption)
             · (rw [hb.cell (p := ⟨w.heap.size, 4, none⟩) (by assumption)]; assumption)
             · (rw [hb.cell (p := ⟨w.heap.size, 5, none⟩) (by assumption)]; assumption)
             · (rw [hb.cell (p := ⟨w.heap.size, 6, none⟩) (by assumption)]; assumption)
             · (rw [hb.cell (p := ⟨w.heap.size, 7, none⟩) (by assumption)]; assumption)
             · (rw [hb.cell (p := ⟨w.heap.size, 8, none⟩) (by assumption)]; assumption)))
      (first | (go_split_ands; go_at_call 90; refine (HS.out _ (HT.out.below (by assumption))).mono ?_; rintro e w1 ⟨rfl, hb⟩))
    cases hq <;> cases hf
    all_goals
      go_wp2
      go_ret
      exact ⟨ret_str (by simp [queryL, fragL]), by simp [*]⟩
theorem join_other (s us h pa q f : List UInt8) (p : Int) (hq hf : Bool) (w : World) (hl : s.length + us.length + h.length + pa.length + q.length + f.length ≤ 4611686018427387904) (hw : webB s = false) :
    Calls Tryd.prog 91 #[.agg #[.string ⟨s.toArray⟩, .string ⟨us.toArray⟩, .string ⟨h.toArray⟩, .int .i64 p, .string ⟨pa.toArray⟩, .string ⟨q.toArray⟩, .string ⟨f.toArray⟩, .bool hq, .bool hf]] w fun e w' => e = .returned (.string ⟨(textL ⟨s, us, h, p, pa, q, f, hq, hf⟩).toArray⟩) ∧ Below w.heap.size w w' := by
  have e : textL ⟨s, us, h, p, pa, q, f, hq, hf⟩ = s ++ [58] ++ pa := by simp [textL, hw]
  rw [e]
  clear e
  go_enter Tryd.func91, Tryd.ntmps91
  go_wp2_with (go_at_call 77; refine (isWeb_any _ _).mono ?_; rintro e w' ⟨rfl, rfl⟩)
  go_ret
  exact ⟨ret_str (by simp), (by repeat (first | exact Below.refl _ _ | refine belI_alloc ?_ | refine Below.drew ?_ | refine belI_step ?_ (by assumption)))⟩
theorem join_any (s us h pa q f : List UInt8) (p : Int) (hq hf : Bool) (w : World) (hT : Tab w) (hp : webB s = true → 0 ≤ p ∧ p ≤ 65535) (hl : s.length + us.length + h.length + pa.length + q.length + f.length ≤ 4611686018427387904) :
    Calls Tryd.prog 91 #[.agg #[.string ⟨s.toArray⟩, .string ⟨us.toArray⟩, .string ⟨h.toArray⟩, .int .i64 p, .string ⟨pa.toArray⟩, .string ⟨q.toArray⟩, .string ⟨f.toArray⟩, .bool hq, .bool hf]] w fun e w' => e = .returned (.string ⟨(textL ⟨s, us, h, p, pa, q, f, hq, hf⟩).toArray⟩) ∧ Below w.heap.size w w' := by
  by_cases hw : webB s = true
  · exact join_web s us h pa q f p hq hf w hT (hp hw) hl hw
  · exact join_other s us h pa q f p hq hf w hl (by simpa using hw)
end Go.Proofs.YtniflfgnelfpbaaDoor.Ul
