
/-
  The ring of reports, listed.
-/
import Derived.Test.YtakiigddbdapaaaQuR
namespace Go.Proofs.Ytakiigddbdapaaa.Qu
open Go.RowKit
open Go.Proofs.Ytakiigddbdapaaa.Tx
open Go.Proofs.Ytakiigddbdapaaa.Cpy (Ring)
theorem row_src {w : World} {cb : Nat} {L : List Value} {T : TypeId} (h : Hd w cb (.cells L.toArray T)) (off m : Nat) : ∀ j v, ((L.drop off).take m)[j]? = some v → w.cell? (({ block := cb, off := off } : Addr).add j) = some v := by
  intro j v hj
  have hjm : j < m := by
    have := (List.getElem?_eq_some_iff.1 hj).1
    simp at this; omega
  rw [List.getElem?_take_of_lt hjm, List.getElem?_drop] at hj
  unfold Hd at h
  rw [add_at]
  simp [World.cell?, h, hj]
theorem O4_full {w : World} {g base : Nat} {xs : List Rep} (h : Hd w g (.cells (rpC xs).toArray 38)) (hb : base ≤ g) (hn : xs.length ≤ 1048576) : O4 w base (.slice (some ⟨g, 0, none⟩) xs.length xs.length) xs :=
  ⟨rpC_len xs, .inr ⟨g, xs.length, (rpC xs).toArray, rfl, hb, h, Nat.le_refl _, by unfold maxLen; omega, by simp [rpC_len], by simp [← rpC_len]⟩⟩
theorem splice_full {α : Type} (L A : List α) (h : A.length = L.length) : splice L 0 A = A := by
  unfold splice
  rw [List.take_zero, List.nil_append, Nat.zero_add, h, List.drop_length, List.append_nil]
theorem splice_two {α : Type} (L A C : List α) (k : Nat) (hk : A.length = k) (h : A.length + C.length = L.length) : splice (splice L 0 A) k C = A ++ C := by
  subst hk
  unfold splice
  rw [List.take_zero, List.nil_append, Nat.zero_add, List.take_left' rfl, List.drop_append, List.drop_eq_nil_of_le (show A.length ≤ A.length + C.length by omega), List.nil_append, List.drop_drop, List.drop_eq_nil_of_le (by omega), List.append_nil]
set_option maxRecDepth 100000 in
set_option maxHeartbeats 4000000 in
theorem listR_any (rb cb : Nat) (xs : List Rep) (w : World) (h : RgR w rb cb xs) :
    Calls Try.prog 49 #[.pointer (some ⟨rb, 0, none⟩)] w (NewRps w xs) := by
  obtain ⟨cs, f, hr, h1, h2⟩ := h
  have hrb := h1.lt
  have hcb := h2.lt
  have hl := hr.l
  have hf := hr.fl
  have hcn := hr.n
  have hmk := fun w => run_makeR xs.length (by omega) w
  have BA := (Below.refl w.heap.size w).alloc (Nat.le_refl _) (.cells (madeCells #[.int .i64 0, .int .i64 0, .int .i64 0, .string ByteArray.empty] (xs.length * 4)) 38)
  have K1 := h1.blw BA
  have K2 := h2.blw BA
  have KG : Hd (w.alloc (.cells (madeCells #[.int .i64 0, .int .i64 0, .int .i64 0, .string ByteArray.empty] (xs.length * 4)) 38)) w.heap.size (.cells (madeCells #[.int .i64 0, .int .i64 0, .int .i64 0, .string ByteArray.empty] (xs.length * 4)).toList.toArray 38) := by
    rw [Array.toArray_toList]; exact Hd.new w _
  have hL : (madeCells #[.int .i64 0, .int .i64 0, .int .i64 0, .string ByteArray.empty] (xs.length * 4)).toList.length = xs.length * 4 := by rw [Array.length_toList, size_madeCells]
  generalize hL0 : (madeCells #[.int .i64 0, .int .i64 0, .int .i64 0, .string ByteArray.empty] (xs.length * 4)).toList = L at *
  clear hL0
  obtain ⟨r0, r1, r2, rf⟩ := h1.three
  have HK1 := Lib.hid K1.drew
  have HK2 := Lib.hid K2.drew
  have HKG := Lib.hid KG.drew
  have HBA := Lib.hid (Below.drew BA)
  have HLS := Lib.hid hr.list
  clear KG K2 h1 h2
  obtain ⟨k, hk⟩ : ∃ k, k = min (5 - f) xs.length := ⟨_, rfl⟩
  have hAl : (((rpC cs).drop (f * 4)).take (k * 4)).length = k * 4 := by rw [List.length_take, List.length_drop, rpC_len, hcn]; omega
  obtain ⟨w4, hcp, hg4, hb4, hgr⟩ := Cpy.run_copyN (P := Try.prog) _ 32 32 3 38 4 Try.underlying32 Try.sizeRp (by omega) (some ⟨w.heap.size, 0, none⟩) (some ⟨cb, f * 4, none⟩) xs.length xs.length (5 - f) (5 - f) w.heap.size 0 L 38 HKG.out (((rpC cs).drop (f * 4)).take (k * 4)) (by rw [hAl]; show _ = min _ _ * 4; rw [← hk]) (fun _ => ⟨rfl, _, rfl, row_src HK2.out (f * 4) (k * 4)⟩) (by rw [hAl, hL]; omega) (fun v hv => rpC_one cs v (List.mem_of_mem_drop (List.mem_of_mem_take hv))) w.heap.size w HBA.out (Nat.le_refl _)
  rw [show Nat.min (5 - f) xs.length = k from hk.symm] at hcp
  simp only [goInt] at hcp
  have HK14 := Lib.hid (HK1.out.grown hgr (fun e => by injection e with e; omega))
  have HK24 := Lib.hid (HK2.out.grown hgr (fun e => by injection e with e; omega))
  have HG4 := Lib.hid (show Hd w4 w.heap.size _ from hg4)
  have HB4 := Lib.hid hb4
  obtain ⟨s0, s1, s2, sf⟩ := HK14.out.three
  clear hg4 hb4 hgr
  by_cases hA : xs.length ≤ 5 - f
  · obtain rfl : k = xs.length := by omega
    have HO := Lib.hid (show NewRps w xs (.returned (.slice (some ⟨w.heap.size, 0, none⟩) xs.length xs.length)) w4.drew from by
      have h5 := HG4.out.drew
      have e : ((rpC cs).drop (f * 4)).take (xs.length * 4) = rpC xs := by
        have := HLS.out
        rw [← hk, Nat.sub_self, List.take_zero, List.append_nil] at this
        rw [rpC_drop, rpC_take, this]
      rw [splice_full _ _ (by rw [hAl, hL]), e] at h5
      exact ⟨_, rfl, O4_full h5 (Nat.le_refl _) (by omega), Below.drew HB4.out⟩)
    have hcp2 := Cpy.run_copy_noneN (P := Try.prog) w4.drew 32 32 3 38 4 (some ⟨w.heap.size, 0, none⟩) (some ⟨cb, 0, none⟩) 0 0 5 5 Try.underlying32 Try.sizeRp (by rfl)
    simp only [goInt] at hcp2
    clear hk HLS hAl hL
    go_enter Try.func49, Try.ntmps49
    go_wp2_with fail
    replace r0 := (BA.cell (p := ⟨rb, 0, none⟩) hrb).trans r0
    replace r1 := (BA.cell (p := ⟨rb, 1, none⟩) hrb).trans r1
    replace r2 := (BA.cell (p := ⟨rb, 2, none⟩) hrb).trans r2
    clear BA K1
    generalize w.alloc (.cells (madeCells #[.int .i64 0, .int .i64 0, .int .i64 0, .string ByteArray.empty] (xs.length * 4)) 38) = w1 at *
    go_region
    clear r0 r1 r2
    go_wp2_with fail
    go_region
    go_wp2
    go_ret
    exact HO.out
  · have hkf : k = 5 - f := by omega
    have hkn : k < xs.length := by omega
    have hCl : ((rpC cs).take ((xs.length - k) * 4)).length = (xs.length - k) * 4 := by rw [List.length_take, rpC_len, hcn]; omega
    have h0 : ((rpC cs).drop 0).take ((xs.length - k) * 4) = (rpC cs).take ((xs.length - k) * 4) := by simp
    obtain ⟨w5, hcp2, hg5, hb5, hgr5⟩ := Cpy.run_copyN (P := Try.prog) w4.drew 32 32 3 38 4 Try.underlying32 Try.sizeRp (by omega) (some ⟨w.heap.size, k * 4, none⟩) (some ⟨cb, 0, none⟩) (xs.length - k) (xs.length - k) 5 5 w.heap.size (k * 4) (splice L 0 (((rpC cs).drop (f * 4)).take (k * 4))) 38 HG4.out.drew ((rpC cs).take ((xs.length - k) * 4)) (by rw [hCl, show Nat.min 5 (xs.length - k) = xs.length - k from Nat.min_eq_right (by omega)]) (fun _ => ⟨rfl, _, rfl, by have := row_src HK24.out.drew 0 ((xs.length - k) * 4); rw [h0] at this; exact this⟩) (by rw [length_splice _ _ _ (by rw [hAl, hL]; omega), hL, hCl]; omega) (fun v hv => rpC_one cs v (List.mem_of_mem_take hv)) w.heap.size w (Below.drew HB4.out) (Nat.le_refl _)
    simp only [goInt] at hcp2
    have HO := Lib.hid (show NewRps w xs (.returned (.slice (some ⟨w.heap.size, 0, none⟩) xs.length xs.length)) w5 from by
      have e : ((rpC cs).drop (f * 4)).take (k * 4) ++ (rpC cs).take ((xs.length - k) * 4) = rpC xs := by
        have := HLS.out
        rw [← hk] at this
        rw [rpC_drop, rpC_take, rpC_take, ← rpC_app, this]
      rw [splice_two _ _ _ _ hAl (by rw [hAl, hCl, hL]; omega), e] at hg5
      exact ⟨_, rfl, O4_full hg5 (Nat.le_refl _) (by omega), hb5⟩)
    have hne : ¬ xs.length = k := by omega
    have hi : (k : Int) ≤ (xs.length : Int) := by omega
    have hk5 : k ≤ 5 := by omega
    clear hk HLS hAl hL hg5 hb5 hgr5 hCl h0 hkf hA
    go_enter Try.func49, Try.ntmps49
    go_wp2_with fail
    replace r0 := (BA.cell (p := ⟨rb, 0, none⟩) hrb).trans r0
    replace r1 := (BA.cell (p := ⟨rb, 1, none⟩) hrb).trans r1
    replace r2 := (BA.cell (p := ⟨rb, 2, none⟩) hrb).trans r2
    clear BA K1
    generalize w.alloc (.cells (madeCells #[.int .i64 0, .int .i64 0, .int .i64 0, .string ByteArray.empty] (xs.length * 4)) 38) = w1 at *
    go_region
    clear r0 r1 r2
    go_wp2_with fail
    go_region
    go_wp2
    go_ret
    exact HO.out
end Go.Proofs.Ytakiigddbdapaaa.Qu
