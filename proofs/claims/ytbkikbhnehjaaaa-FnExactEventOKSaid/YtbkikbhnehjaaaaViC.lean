
/-
  ViolationOK, the model's and the program's, walked.
-/
import Derived.Test.YtbkikbhnehjaaaaViA
import Derived.Test.YtbkikbhnehjaaaaRn
namespace Go.Proofs.Ytbkikbhnehjaaaa.Vi
open Go.RowKit
open Go.Proofs.Ytbkikbhnehjaaaa.Rn
abbrev four (v : V) : List (List UInt8) := [v.doc, v.ref, v.blk, v.src]
theorem four_yes {v : V} (h : ∀ j, j < 4 → ((four v).getD j []).length ≤ 100) : fourB v = true := by
  have h0 := h 0 (by omega)
  have h1 := h 1 (by omega)
  have h2 := h 2 (by omega)
  have h3 := h 3 (by omega)
  simp [four] at h0 h1 h2 h3
  simp [fourB, h0, h1, h2, h3]
theorem four_no {v : V} {j : Nat} (hj : j < 4) (h : 100 < ((four v).getD j []).length) : fourB v = false := by
  match j, hj with
  | 0, _ => simp [four] at h; simp [fourB, show ¬ v.doc.length ≤ 100 by omega]
  | 1, _ => simp [four] at h; simp [fourB, show ¬ v.ref.length ≤ 100 by omega]
  | 2, _ => simp [four] at h; simp [fourB, show ¬ v.blk.length ≤ 100 by omega]
  | 3, _ => simp [four] at h; simp [fourB, show ¬ v.src.length ≤ 100 by omega]
theorem four_cells (w : World) (v : V) (T : TypeId) : ∀ j, j < 4 → (w.alloc (.cells #[.string ⟨v.doc.toArray⟩, .string ⟨v.ref.toArray⟩, .string ⟨v.blk.toArray⟩, .string ⟨v.src.toArray⟩] T)).cell? ⟨w.heap.size, j, none⟩ = some (.string ⟨((four v).getD j []).toArray⟩) := by
  intro j hj
  rw [cell_of_row _ _ j _ _ _ (heap_alloc_new w _)]
  match j, hj with
  | 0, _ => rfl
  | 1, _ => rfl
  | 2, _ => rfl
  | 3, _ => rfl
theorem four_len {v : V} (hf : Fits v) : ∀ j, j < 4 → ((four v).getD j []).length ≤ 9223372036854775807 := by
  intro j hj
  match j, hj with
  | 0, _ => exact hf.m0
  | 1, _ => exact hf.m1
  | 2, _ => exact hf.m2
  | 3, _ => exact hf.m3
theorem where_any (n : Int) (w : World) : Calls Try.prog 19 #[.int .i64 n] w fun e w' => e = .returned (.bool (decide (0 ≤ n ∧ n ≤ 9999))) ∧ w = w' := by
  by_cases h1 : 0 ≤ n
  · by_cases h2 : n ≤ 9999
    all_goals
      go_enter Try.func19, Try.ntmps19
      go_wp2
      go_ret
      exact ⟨ret_b (by simp; omega), rfl⟩
  · go_enter Try.func19, Try.ntmps19
    go_wp2
    go_ret
    exact ⟨ret_b (by simp; omega), rfl⟩
set_option maxRecDepth 100000 in
set_option maxHeartbeats 1000000 in
theorem okS_any (v : V) (hf : Fits v) (w : World) : Calls Try.prog 16 #[vV v] w fun e w' => e = .returned (.bool (vOK v)) ∧ Below w.heap.size w w' := by
  have HN := Lib.hid (fun W => nameS_any v.dir W hf.m4)
  have HL := Lib.hid (fun W => Ul.in_any v.line 0 9999 W)
  have HC := Lib.hid (fun W => Ul.in_any v.col 0 9999 W)
  have hm5 := hf.m5
  have HFL := Lib.hid (four_len hf)
  have hva := (VAt.newT w v 28).alloc (.cells #[.string ⟨v.doc.toArray⟩, .string ⟨v.ref.toArray⟩, .string ⟨v.blk.toArray⟩, .string ⟨v.src.toArray⟩] 9) (by simp)
  have hcs := four_cells (w.alloc (.cells (vC v) 28)) v 9
  have hB : Below w.heap.size w ((w.alloc (.cells (vC v) 28)).alloc (.cells #[.string ⟨v.doc.toArray⟩, .string ⟨v.ref.toArray⟩, .string ⟨v.blk.toArray⟩, .string ⟨v.src.toArray⟩] 9)) := ((Below.refl _ _).alloc (Nat.le_refl _) _).alloc (by simp) _
  have HNO := Lib.hid (fun j hj h => four_no (v := v) (j := j) hj h)
  have HYES := Lib.hid (fun h => four_yes (v := v) h)
  rw [show (w.alloc (.cells (vC v) 28)).heap.size = w.heap.size + 1 from by simp] at hcs
  have HVA := Lib.hid hva
  have HCS := Lib.hid hcs
  have HB := Lib.hid hB
  have E1 : vOK v = (fourB v && (rnameB v.dir && (decide (v.smp.length ≤ 200) && (decide (0 ≤ v.line ∧ v.line ≤ 9999) && decide (0 ≤ v.col ∧ v.col ≤ 9999))))) := rfl
  rw [E1]
  clear hva hcs hB hf E1
  generalize hr1 : rnameB v.dir = r1 at *
  generalize hr2 : decide (0 ≤ v.line ∧ v.line ≤ 9999) = r2 at *
  generalize hr3 : decide (0 ≤ v.col ∧ v.col ≤ 9999) = r3 at *
  generalize hr0 : fourB v = r0 at *
  clear hr1 hr2 hr3 hr0
  generalize hL : four v = L at *
  clear hL
  go_enter Try.func16, Try.ntmps16
  go_wp2
  generalize (w.alloc (.cells #[.string ⟨v.doc.toArray⟩, .string ⟨v.ref.toArray⟩, .string ⟨v.blk.toArray⟩, .string ⟨v.src.toArray⟩, .string ⟨v.dir.toArray⟩, .string ⟨v.smp.toArray⟩, .int .i64 v.line, .int .i64 v.col, .bool v.red] 28)).alloc (.cells #[.string ⟨v.doc.toArray⟩, .string ⟨v.ref.toArray⟩, .string ⟨v.blk.toArray⟩, .string ⟨v.src.toArray⟩] 9) = w2 at *
  go_loopw [4] (fun i wr => ∃ k : Nat, k ≤ 4 ∧ i = .int .i64 k ∧ wr = w2 ∧ ∀ j, j < k → (L.getD j []).length ≤ 100) (fun i _ => 4 - (intOf i).toNat)
  case atStart => exact ⟨0, by omega, rfl, rfl, fun j hj => by omega⟩
  case round =>
    obtain ⟨k, hk, rfl, rfl, hall⟩ := hrel
    have HALL := Lib.hid hall
    clear hall
    by_cases hlt : k < 4
    · have q0 := HCS.out k hlt
      have hml := HFL.out k hlt
      have HN0 := Lib.hid (HNO.out k hlt)
      generalize hx : L.getD k [] = x at *
      have HX := Lib.hid hx
      clear hx
      by_cases h100 : 100 < x.length
      · have F := Lib.hid (HN0.out h100)
        go_wp2
        go_ret
        exact ⟨ret_b (by rw [F.out]; rfl), HB.out⟩
      · go_wp2
        go_roundw
        case rel => exact ⟨k + 1, by omega, by go_num, by first | trivial | rfl, fun j hj => by
          by_cases e : j = k
          · subst e; rw [HX.out]; omega
          · exact HALL.out j (by omega)⟩
        case measure => simp [intOf]; omega
    · obtain rfl : k = 4 := by omega
      have F := Lib.hid (HYES.out HALL.out)
      obtain ⟨k0, k1, k2, k3, k4, k5, k6, k7, k8, -⟩ := HVA.out
      clear HNO HYES HFL HCS
      have e0 : r0 = true := F.out
      subst e0
      by_cases h200 : v.smp.length ≤ 200
      · have e2 := Lib.hid (show decide (v.smp.length ≤ 200) = true by simp [h200])
        cases r1 with
        | false =>
          go_wp2_with fail
          refine (HN.out _).mono ?_
          rintro e w' ⟨rfl, rfl⟩
          go_wp2
          go_ret
          exact ⟨ret_b (by first | rfl | (rw [e2.out]; rfl)), HB.out⟩
        | true =>
          cases r2 with
          | false =>
            go_wp2_with fail
            refine (HN.out _).mono ?_
            rintro e w' ⟨rfl, rfl⟩
            go_wp2_with fail
            refine (HL.out _).mono ?_
            rintro e w' ⟨rfl, rfl⟩
            go_wp2
            go_ret
            exact ⟨ret_b (by rw [e2.out]; rfl), HB.out⟩
          | true =>
            go_wp2_with fail
            refine (HN.out _).mono ?_
            rintro e w' ⟨rfl, rfl⟩
            go_wp2_with fail
            refine (HL.out _).mono ?_
            rintro e w' ⟨rfl, rfl⟩
            go_wp2_with fail
            refine (HC.out _).mono ?_
            rintro e w' ⟨rfl, rfl⟩
            go_wp2
            go_ret
            exact ⟨ret_b (by rw [e2.out]; simp), HB.out⟩
      · have e2 := Lib.hid (show decide (v.smp.length ≤ 200) = false by simp [h200])
        have h201 : 200 < v.smp.length := by omega
        cases r1
        all_goals
          go_wp2_with fail
          refine (HN.out _).mono ?_
          rintro e w' ⟨rfl, rfl⟩
          go_wp2
          go_ret
          exact ⟨ret_b (by first | rfl | (rw [e2.out]; rfl)), HB.out⟩
set_option maxRecDepth 100000 in
set_option maxHeartbeats 1000000 in
theorem okI_any (v : V) (hf : Fits v) (w : World) : Calls Try.prog 11 #[vV v] w fun e w' => e = .returned (.bool (vOK v)) ∧ Below w.heap.size w w' := by
  have HN := Lib.hid (fun W => nameI_any v.dir W hf.m4)
  have HL := Lib.hid (fun W => where_any v.line W)
  have HC := Lib.hid (fun W => where_any v.col W)
  have hm5 := hf.m5
  have HFL := Lib.hid (four_len hf)
  have hva := (VAt.newT w v 28).alloc (.cells #[.string ⟨v.doc.toArray⟩, .string ⟨v.ref.toArray⟩, .string ⟨v.blk.toArray⟩, .string ⟨v.src.toArray⟩] 9) (by simp)
  have hcs := four_cells (w.alloc (.cells (vC v) 28)) v 9
  have hB : Below w.heap.size w ((w.alloc (.cells (vC v) 28)).alloc (.cells #[.string ⟨v.doc.toArray⟩, .string ⟨v.ref.toArray⟩, .string ⟨v.blk.toArray⟩, .string ⟨v.src.toArray⟩] 9)) := ((Below.refl _ _).alloc (Nat.le_refl _) _).alloc (by simp) _
  have HNO := Lib.hid (fun j hj h => four_no (v := v) (j := j) hj h)
  have HYES := Lib.hid (fun h => four_yes (v := v) h)
  rw [show (w.alloc (.cells (vC v) 28)).heap.size = w.heap.size + 1 from by simp] at hcs
  have HVA := Lib.hid hva
  have HCS := Lib.hid hcs
  have HLT := Lib.hid (show w.heap.size < ((w.alloc (.cells (vC v) 28)).alloc (.cells #[.string ⟨v.doc.toArray⟩, .string ⟨v.ref.toArray⟩, .string ⟨v.blk.toArray⟩, .string ⟨v.src.toArray⟩] 9)).heap.size by simp; omega)
  have HB := Lib.hid hB
  have E1 : vOK v = (fourB v && (rnameB v.dir && (decide (v.smp.length ≤ 200) && (decide (0 ≤ v.line ∧ v.line ≤ 9999) && decide (0 ≤ v.col ∧ v.col ≤ 9999))))) := rfl
  rw [E1]
  clear hva hcs hB hf E1
  generalize hr1 : rnameB v.dir = r1 at *
  generalize hr2 : decide (0 ≤ v.line ∧ v.line ≤ 9999) = r2 at *
  generalize hr3 : decide (0 ≤ v.col ∧ v.col ≤ 9999) = r3 at *
  generalize hr0 : fourB v = r0 at *
  clear hr1 hr2 hr3 hr0
  generalize hL : four v = L at *
  clear hL
  go_enter Try.func11, Try.ntmps11
  go_wp2
  generalize (w.alloc (.cells #[.string ⟨v.doc.toArray⟩, .string ⟨v.ref.toArray⟩, .string ⟨v.blk.toArray⟩, .string ⟨v.src.toArray⟩, .string ⟨v.dir.toArray⟩, .string ⟨v.smp.toArray⟩, .int .i64 v.line, .int .i64 v.col, .bool v.red] 28)).alloc (.cells #[.string ⟨v.doc.toArray⟩, .string ⟨v.ref.toArray⟩, .string ⟨v.blk.toArray⟩, .string ⟨v.src.toArray⟩] 9) = w2 at *
  go_loopw [15] (fun i wr => ∃ k : Nat, k ≤ 4 ∧ i = .int .i64 k ∧ wr = w2 ∧ ∀ j, j < k → (L.getD j []).length ≤ 100) (fun i _ => 4 - (intOf i).toNat)
  case atStart => exact ⟨0, by omega, rfl, rfl, fun j hj => by omega⟩
  case round =>
    obtain ⟨k, hk, rfl, rfl, hall⟩ := hrel
    have HALL := Lib.hid hall
    clear hall
    by_cases hlt : k < 4
    · have q0 := HCS.out k hlt
      have hml := HFL.out k hlt
      have HN0 := Lib.hid (HNO.out k hlt)
      generalize hx : L.getD k [] = x at *
      have HX := Lib.hid hx
      clear hx
      by_cases h100 : 100 < x.length
      · have F := Lib.hid (HN0.out h100)
        go_wp2
        go_ret
        exact ⟨ret_b (by rw [F.out]; rfl), HB.out⟩
      · go_wp2
        go_roundw
        case rel => exact ⟨k + 1, by omega, by go_num, by first | trivial | rfl, fun j hj => by
          by_cases e : j = k
          · subst e; rw [HX.out]; omega
          · exact HALL.out j (by omega)⟩
        case measure => simp [intOf]; omega
    · obtain rfl : k = 4 := by omega
      have F := Lib.hid (HYES.out HALL.out)
      obtain ⟨k0, k1, k2, k3, k4, k5, k6, k7, k8, -⟩ := HVA.out
      clear HNO HYES HFL HCS
      have e0 : r0 = true := F.out
      subst e0
      by_cases h200 : v.smp.length ≤ 200
      · have e2 := Lib.hid (show decide (v.smp.length ≤ 200) = true by simp [h200])
        cases r1 with
        | false =>
          go_wp2_with fail
          refine (HN.out _).mono ?_
          rintro e w' ⟨rfl, hb3⟩
          have HB3 := Lib.hid (belI_step HB.out hb3)
          obtain ⟨k0, k1, k2, k3, k4, k5, k6, k7, k8, -⟩ := HVA.out.below hb3 HLT.out
          go_wp2
          go_ret
          exact ⟨ret_b (by first | rfl | (rw [e2.out]; rfl)), HB3.out⟩
        | true =>
          cases r2 with
          | false =>
            go_wp2_with fail
            refine (HN.out _).mono ?_
            rintro e w' ⟨rfl, hb3⟩
            have HB3 := Lib.hid (belI_step HB.out hb3)
            obtain ⟨k0, k1, k2, k3, k4, k5, k6, k7, k8, -⟩ := HVA.out.below hb3 HLT.out
            go_wp2_with fail
            refine (HL.out _).mono ?_
            rintro e w' ⟨rfl, rfl⟩
            go_wp2
            go_ret
            exact ⟨ret_b (by rw [e2.out]; rfl), HB3.out⟩
          | true =>
            go_wp2_with fail
            refine (HN.out _).mono ?_
            rintro e w' ⟨rfl, hb3⟩
            have HB3 := Lib.hid (belI_step HB.out hb3)
            obtain ⟨k0, k1, k2, k3, k4, k5, k6, k7, k8, -⟩ := HVA.out.below hb3 HLT.out
            go_wp2_with fail
            refine (HL.out _).mono ?_
            rintro e w' ⟨rfl, rfl⟩
            go_wp2_with fail
            refine (HC.out _).mono ?_
            rintro e w' ⟨rfl, rfl⟩
            go_wp2
            go_ret
            exact ⟨ret_b (by rw [e2.out]; simp), HB3.out⟩
      · have e2 := Lib.hid (show decide (v.smp.length ≤ 200) = false by simp [h200])
        have h201 : 200 < v.smp.length := by omega
        cases r1
        all_goals
          go_wp2_with fail
          refine (HN.out _).mono ?_
          rintro e w' ⟨rfl, hb3⟩
          have HB3 := Lib.hid (belI_step HB.out hb3)
          obtain ⟨k0, k1, k2, k3, k4, k5, k6, k7, k8, -⟩ := HVA.out.below hb3 HLT.out
          go_wp2
          go_ret
          exact ⟨ret_b (by first | rfl | (rw [e2.out]; rfl)), HB3.out⟩
end Go.Proofs.Ytbkikbhnehjaaaa.Vi
