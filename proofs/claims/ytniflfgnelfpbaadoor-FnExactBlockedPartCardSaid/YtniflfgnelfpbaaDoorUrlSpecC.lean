
/-
  The walks of the model's functions of chapter 2: the text of a URL; what is asked of it; its origin; what is stripped.
-/
import Derived.Test.YtniflfgnelfpbaaDoorUrlSpecB
namespace Go.Proofs.YtniflfgnelfpbaaDoor.Ul
open Go.RowKit
attribute [local go_sem] bapp
theorem text_web (s us h pa q f : List UInt8) (p : Int) (hq hf : Bool) (w : World) (hp1 : p ≤ 9223372036854775807) (hl : s.length + us.length + h.length + pa.length + q.length + f.length ≤ 4611686018427387904) (hw : webB s = true) :
    Calls Tryd.prog 71 #[.agg #[.string ⟨s.toArray⟩, .string ⟨us.toArray⟩, .string ⟨h.toArray⟩, .int .i64 p, .string ⟨pa.toArray⟩, .string ⟨q.toArray⟩, .string ⟨f.toArray⟩, .bool hq, .bool hf]] w fun e w' => e = .returned (.string ⟨(textL ⟨s, us, h, p, pa, q, f, hq, hf⟩).toArray⟩) ∧ Below w.heap.size w w' := by
  have e : textL ⟨s, us, h, p, pa, q, f, hq, hf⟩ = s ++ [58, 47, 47] ++ userL us ++ (h ++ portL p ++ pa) ++ queryL hq q ++ fragL hf f := by simp [textL, hw]
  rw [e]
  clear e
  have hd := portL_len p hp1
  have HS := Lib.hid (fun W => site_bare h p W hp1 (by omega))
  generalize portL p = po at *
  have b1 : (3 : Int) ≤ ↑h.length + ↑po.length + 1 + 1 + 1 := by omega
  have b2 : ¬ 9223372036854775807 < h.length + po.length + pa.length := by omega
  by_cases hu : us = []
  · subst hu
    have b3 : ¬ 9223372036854775807 < s.length + 3 + (h.length + po.length + pa.length) := by omega
    rw [userL_no]
    go_enter Tryd.func71, Tryd.ntmps71
    go_wp2_with fail
    refine (web_any _ _).mono ?_
    rintro e w' ⟨rfl, rfl⟩
    go_wp2_with fail
    go_region_held3 (fun wx => w.heap.size < wx.heap.size ∧ wx.cell? ⟨w.heap.size, 2, none⟩ = some (.string ⟨h.toArray⟩) ∧ wx.cell? ⟨w.heap.size, 3, none⟩ = some (.int .i64 p) ∧ wx.cell? ⟨w.heap.size, 4, none⟩ = some (.string ⟨pa.toArray⟩) ∧ wx.cell? ⟨w.heap.size, 5, none⟩ = some (.string ⟨q.toArray⟩) ∧ wx.cell? ⟨w.heap.size, 6, none⟩ = some (.string ⟨f.toArray⟩) ∧ wx.cell? ⟨w.heap.size, 7, none⟩ = some (.bool hq) ∧ wx.cell? ⟨w.heap.size, 8, none⟩ = some (.bool hf) ∧ Below w.heap.size w wx)
      (first
          | (simp [*, Below.refl, bel_alloc, Below.drew]; done)
          | (go_split_ands
             have hz := hb.size
             refine ⟨by omega, ?_, ?_, ?_, ?_, ?_, ?_, ?_, bel_step (by assumption) hb⟩
             · (rw [hb.cell (p := ⟨w.heap.size, 2, none⟩) (by assumption)]; assumption)
             · (rw [hb.cell (p := ⟨w.heap.size, 3, none⟩) (by assumption)]; assumption)
             · (rw [hb.cell (p := ⟨w.heap.size, 4, none⟩) (by assumption)]; assumption)
             · (rw [hb.cell (p := ⟨w.heap.size, 5, none⟩) (by assumption)]; assumption)
             · (rw [hb.cell (p := ⟨w.heap.size, 6, none⟩) (by assumption)]; assumption)
             · (rw [hb.cell (p := ⟨w.heap.size, 7, none⟩) (by assumption)]; assumption)
             · (rw [hb.cell (p := ⟨w.heap.size, 8, none⟩) (by assumption)]; assumption)))
      (first | (go_at_call 61; refine (HS.out _).mono ?_; rintro e w1 ⟨rfl, hb⟩))
    cases hq <;> cases hf
    all_goals
      go_wp2
      go_ret
      exact ⟨ret_str (by simp [queryL, fragL, List.take_of_length_le]), by simp [*]⟩
  · rw [userL_yes hu]
    have b3 : ¬ 9223372036854775807 < s.length + (us.length + 1 + 1 + 1 + 1) + (h.length + po.length + pa.length) := by omega
    have hu' : us.isEmpty = false := by simpa using hu
    go_enter Tryd.func71, Tryd.ntmps71
    go_wp2_with fail
    refine (web_any _ _).mono ?_
    rintro e w' ⟨rfl, rfl⟩
    go_wp2_with fail
    go_region_held3 (fun wx => w.heap.size < wx.heap.size ∧ wx.cell? ⟨w.heap.size, 2, none⟩ = some (.string ⟨h.toArray⟩) ∧ wx.cell? ⟨w.heap.size, 3, none⟩ = some (.int .i64 p) ∧ wx.cell? ⟨w.heap.size, 4, none⟩ = some (.string ⟨pa.toArray⟩) ∧ wx.cell? ⟨w.heap.size, 5, none⟩ = some (.string ⟨q.toArray⟩) ∧ wx.cell? ⟨w.heap.size, 6, none⟩ = some (.string ⟨f.toArray⟩) ∧ wx.cell? ⟨w.heap.size, 7, none⟩ = some (.bool hq) ∧ wx.cell? ⟨w.heap.size, 8, none⟩ = some (.bool hf) ∧ Below w.heap.size w wx)
      (first
          | (simp [*, Below.refl, bel_alloc, Below.drew]; done)
          | (go_split_ands
             have hz := hb.size
             refine ⟨by omega, ?_, ?_, ?_, ?_, ?_, ?_, ?_, bel_step (by assumption) hb⟩
             · (rw [hb.cell (p := ⟨w.heap.size, 2, none⟩) (by assumption)]; assumption)
             · (rw [hb.cell (p := ⟨w.heap.size, 3, none⟩) (by assumption)]; assumption)
             · (rw [hb.cell (p := ⟨w.heap.size, 4, none⟩) (by assumption)]; assumption)
             · (rw [hb.cell (p := ⟨w.heap.size, 5, none⟩) (by assumption)]; assumption)
             · (rw [hb.cell (p := ⟨w.heap.size, 6, none⟩) (by assumption)]; assumption)
             · (rw [hb.cell (p := ⟨w.heap.size, 7, none⟩) (by assumption)]; assumption)
             · (rw [hb.cell (p := ⟨w.heap.size, 8, none⟩) (by assumption)]; assumption)))
      (first | (go_at_call 61; refine (HS.out _).mono ?_; rintro e w1 ⟨rfl, hb⟩))
    cases hq <;> cases hf
    all_goals
      go_wp2
      go_ret
      exact ⟨ret_str (by simp [queryL, fragL, List.take_of_length_le]), by simp [*]⟩
theorem text_any (u : U) (w : World) (hp1 : u.prt ≤ 9223372036854775807) (hl : sizeU u ≤ 4611686018427387904) :
    Calls Tryd.prog 71 #[.agg #[.string ⟨u.sch.toArray⟩, .string ⟨u.usr.toArray⟩, .string ⟨u.hst.toArray⟩, .int .i64 u.prt, .string ⟨u.pth.toArray⟩, .string ⟨u.qry.toArray⟩, .string ⟨u.frg.toArray⟩, .bool u.hq, .bool u.hf]] w fun e w' => e = .returned (.string ⟨(textL u).toArray⟩) ∧ Below w.heap.size w w' := by
  obtain ⟨s, us, h, p, pa, q, f, hq, hf⟩ := u
  simp only at hp1 hl ⊢
  unfold sizeU at hl
  simp only at hl
  by_cases hw : webB s = true
  · exact text_web s us h pa q f p hq hf w hp1 hl hw
  · have hw : webB s = false := by simpa using hw
    have e : textL ⟨s, us, h, p, pa, q, f, hq, hf⟩ = s ++ [58] ++ pa := by simp [textL, hw]
    rw [e]
    clear e
    go_enter Tryd.func71, Tryd.ntmps71
    go_wp2_with (go_at_call 60; refine (web_any _ _).mono ?_; rintro e w' ⟨rfl, rfl⟩)
    go_ret
    exact ⟨ret_str (by simp), (by repeat (first | exact Below.refl _ _ | refine bel_alloc ?_ | refine Below.drew ?_ | refine bel_step ?_ (by assumption)))⟩
end Go.Proofs.YtniflfgnelfpbaaDoor.Ul
