
/-
  ReportOK and QueueOK, plainly; the parts of the model's and the program's, walked; the law FnExactReportOK.
-/
import Derived.Test.YtmaknkbmilcanaaGreatDoorQuT
import Derived.Test.YtmaknkbmilcanaaGreatDoorUrlSpecA
import Derived.BigQuiet
namespace Go.Proofs.YtmaknkbmilcanaaGreatDoor.Qu
open Go.RowKit
open Go.Proofs.YtmaknkbmilcanaaGreatDoor.Tx
open Go.Proofs.YtmaknkbmilcanaaGreatDoor.Ext (up up_below up_mk wp_region_ext call_ext call_ext_same)
@[local go_sem] theorem up_cellB (w : World) (y : Ext.Ext w) (b o : Nat) (h : b < w.heap.size) : (up w y).cell? ⟨b, o, none⟩ = w.cell? ⟨b, o, none⟩ := Ext.up_cell w y b o h
def repB (r : Rep) : Bool := decide (1 ≤ r.id ∧ r.id ≤ 1000000) && (decide (0 ≤ r.born ∧ r.born ≤ 1000000) && (decide (0 ≤ r.tries ∧ r.tries ≤ 3) && decide ((1 : Int) ≤ r.body.length ∧ (r.body.length : Int) ≤ 8000)))
theorem idI_any (n : Int) (w : World) : Calls Tryz.prog 133 #[.int .i64 n] w fun e w' => e = .returned (.bool (decide (1 ≤ n ∧ n ≤ 1000000))) ∧ w = w' := by
  by_cases h1 : 1 ≤ n
  · by_cases h2 : n ≤ 1000000
    all_goals
      go_enter Tryz.func133, Tryz.ntmps133
      go_wp2
      go_ret
      exact ⟨ret_b (by simp; omega), rfl⟩
  · go_enter Tryz.func133, Tryz.ntmps133
    go_wp2
    go_ret
    exact ⟨ret_b (by simp; omega), rfl⟩
theorem nowI_any (n : Int) (w : World) : Calls Tryz.prog 132 #[.int .i64 n] w fun e w' => e = .returned (.bool (decide (0 ≤ n ∧ n ≤ 1000000))) ∧ w = w' := by
  by_cases h1 : 0 ≤ n
  · by_cases h2 : n ≤ 1000000
    all_goals
      go_enter Tryz.func132, Tryz.ntmps132
      go_wp2
      go_ret
      exact ⟨ret_b (by simp; omega), rfl⟩
  · go_enter Tryz.func132, Tryz.ntmps132
    go_wp2
    go_ret
    exact ⟨ret_b (by simp; omega), rfl⟩
theorem bodyI_any (t : List UInt8) (w : World) (hm : t.length ≤ 9223372036854775807) : Calls Tryz.prog 340 #[.string ⟨t.toArray⟩] w fun e w' => e = .returned (.bool (decide ((1 : Int) ≤ t.length ∧ (t.length : Int) ≤ 8000))) ∧ w = w' := by
  by_cases h1 : t = []
  · subst h1
    go_enter Tryz.func340, Tryz.ntmps340
    go_wp2
    go_ret
    exact ⟨ret_b (by simp), rfl⟩
  · have hp : 0 < t.length := List.length_pos_iff.2 h1
    have hE : t.isEmpty = false := by simpa using h1
    by_cases h2 : (t.length : Int) ≤ 8000
    · rw [decide_eq_true (show (1 : Int) ≤ t.length ∧ (t.length : Int) ≤ 8000 by omega)]
      clear h1
      go_enter Tryz.func340, Tryz.ntmps340
      go_wp2
      go_ret
      exact ⟨rfl, rfl⟩
    · rw [decide_eq_false (show ¬ ((1 : Int) ≤ t.length ∧ (t.length : Int) ≤ 8000) by omega)]
      clear h1
      go_enter Tryz.func340, Tryz.ntmps340
      go_wp2
      go_ret
      exact ⟨rfl, rfl⟩
set_option maxRecDepth 100000 in
set_option maxHeartbeats 1000000 in
theorem repI_any (r : Rep) (hf : Fit r) (w : World) : Calls Tryz.prog 339 #[rV r] w fun e w' => e = .returned (.bool (repB r)) ∧ Below w.heap.size w w' := by
  have H1 := Lib.hid (fun W => idI_any r.id W)
  have H2 := Lib.hid (fun W => nowI_any r.born W)
  have H4 := Lib.hid (fun W => bodyI_any r.body W hf.m)
  obtain ⟨i, b, n, t⟩ := r
  have HB := Lib.hid ((Below.refl w.heap.size w).alloc (Nat.le_refl _) (.cells (rC ⟨i, b, n, t⟩) 134))
  have E1 : repB ⟨i, b, n, t⟩ = (decide (1 ≤ i ∧ i ≤ 1000000) && (decide (0 ≤ b ∧ b ≤ 1000000) && (decide (0 ≤ n ∧ n ≤ 3) && decide ((1 : Int) ≤ t.length ∧ (t.length : Int) ≤ 8000)))) := rfl
  rw [E1]
  simp only at H1 H2 H4
  clear E1 hf
  generalize decide (1 ≤ i ∧ i ≤ 1000000) = r1 at *
  generalize decide (0 ≤ b ∧ b ≤ 1000000) = r2 at *
  generalize decide ((1 : Int) ≤ t.length ∧ (t.length : Int) ≤ 8000) = r4 at *
  cases r1 with
  | false =>
    go_enter Tryz.func339, Tryz.ntmps339
    go_wp2_with fail
    refine (H1.out _).mono ?_
    rintro e w' ⟨rfl, rfl⟩
    go_wp2
    go_ret
    exact ⟨ret_b rfl, HB.out⟩
  | true =>
    cases r2 with
    | false =>
      go_enter Tryz.func339, Tryz.ntmps339
      go_wp2_with fail
      refine (H1.out _).mono ?_
      rintro e w' ⟨rfl, rfl⟩
      go_wp2_with fail
      refine (H2.out _).mono ?_
      rintro e w' ⟨rfl, rfl⟩
      go_wp2
      go_ret
      exact ⟨ret_b rfl, HB.out⟩
    | true =>
      by_cases h0 : 0 ≤ n
      · by_cases h3 : n < 4
        · have E := Lib.hid (show decide (0 ≤ n ∧ n ≤ 3) = true by simp; omega)
          go_enter Tryz.func339, Tryz.ntmps339
          go_wp2_with fail
          refine (H1.out _).mono ?_
          rintro e w' ⟨rfl, rfl⟩
          go_wp2_with fail
          refine (H2.out _).mono ?_
          rintro e w' ⟨rfl, rfl⟩
          go_wp2_with fail
          refine (H4.out _).mono ?_
          rintro e w' ⟨rfl, rfl⟩
          go_wp2
          go_ret
          exact ⟨ret_b (by rw [E.out]; rfl), HB.out⟩
        · have h5 : ¬ n ≤ 3 := by omega
          go_enter Tryz.func339, Tryz.ntmps339
          go_wp2_with fail
          refine (H1.out _).mono ?_
          rintro e w' ⟨rfl, rfl⟩
          go_wp2_with fail
          refine (H2.out _).mono ?_
          rintro e w' ⟨rfl, rfl⟩
          go_wp2
          go_ret
          exact ⟨ret_b (by cases r4 <;> simp <;> intros <;> omega), HB.out⟩
      · have h5 : ¬ 0 ≤ n := h0
        go_enter Tryz.func339, Tryz.ntmps339
        go_wp2_with fail
        refine (H1.out _).mono ?_
        rintro e w' ⟨rfl, rfl⟩
        go_wp2_with fail
        refine (H2.out _).mono ?_
        rintro e w' ⟨rfl, rfl⟩
        go_wp2
        go_ret
        exact ⟨ret_b (by cases r4 <;> simp <;> intros <;> omega), HB.out⟩
set_option maxRecDepth 100000 in
set_option maxHeartbeats 1000000 in
theorem repS_any (r : Rep) (hf : Fit r) (w : World) : Calls Tryz.prog 275 #[rV r] w fun e w' => e = .returned (.bool (repB r)) ∧ Below w.heap.size w w' := by
  have hm := hf.m
  obtain ⟨i, b, n, t⟩ := r
  have H1 := Lib.hid (fun W => Ul.in_any i 1 1000000 W)
  have H2 := Lib.hid (fun W => Ul.in_any b 0 1000000 W)
  have H3 := Lib.hid (fun W => Ul.in_any n 0 3 W)
  have H4 := Lib.hid (fun W => Ul.in_any t.length 1 8000 W)
  have HB := Lib.hid ((Below.refl w.heap.size w).alloc (Nat.le_refl _) (.cells (rC ⟨i, b, n, t⟩) 134))
  have E1 : repB ⟨i, b, n, t⟩ = (decide (1 ≤ i ∧ i ≤ 1000000) && (decide (0 ≤ b ∧ b ≤ 1000000) && (decide (0 ≤ n ∧ n ≤ 3) && decide ((1 : Int) ≤ t.length ∧ (t.length : Int) ≤ 8000)))) := rfl
  rw [E1]
  simp only at hm
  clear E1 hf
  generalize decide (1 ≤ i ∧ i ≤ 1000000) = r1 at *
  generalize decide (0 ≤ b ∧ b ≤ 1000000) = r2 at *
  generalize decide (0 ≤ n ∧ n ≤ 3) = r3 at *
  generalize decide ((1 : Int) ≤ t.length ∧ (t.length : Int) ≤ 8000) = r4 at *
  cases r1 with
  | false =>
    go_enter Tryz.func275, Tryz.ntmps275
    go_wp2_with fail
    refine (H1.out _).mono ?_
    rintro e w' ⟨rfl, rfl⟩
    go_wp2
    go_ret
    exact ⟨ret_b rfl, HB.out⟩
  | true =>
    cases r2 with
    | false =>
      go_enter Tryz.func275, Tryz.ntmps275
      go_wp2_with fail
      refine (H1.out _).mono ?_
      rintro e w' ⟨rfl, rfl⟩
      go_wp2_with fail
      refine (H2.out _).mono ?_
      rintro e w' ⟨rfl, rfl⟩
      go_wp2
      go_ret
      exact ⟨ret_b rfl, HB.out⟩
    | true =>
      cases r3 with
      | false =>
        go_enter Tryz.func275, Tryz.ntmps275
        go_wp2_with fail
        refine (H1.out _).mono ?_
        rintro e w' ⟨rfl, rfl⟩
        go_wp2_with fail
        refine (H2.out _).mono ?_
        rintro e w' ⟨rfl, rfl⟩
        go_wp2_with fail
        refine (H3.out _).mono ?_
        rintro e w' ⟨rfl, rfl⟩
        go_wp2
        go_ret
        exact ⟨ret_b rfl, HB.out⟩
      | true =>
        go_enter Tryz.func275, Tryz.ntmps275
        go_wp2_with fail
        refine (H1.out _).mono ?_
        rintro e w' ⟨rfl, rfl⟩
        go_wp2_with fail
        refine (H2.out _).mono ?_
        rintro e w' ⟨rfl, rfl⟩
        go_wp2_with fail
        refine (H3.out _).mono ?_
        rintro e w' ⟨rfl, rfl⟩
        go_wp2_with fail
        refine (H4.out _).mono ?_
        rintro e w' ⟨rfl, rfl⟩
        go_wp2
        go_ret
        exact ⟨ret_b rfl, HB.out⟩
end Go.Proofs.YtmaknkbmilcanaaGreatDoor.Qu
