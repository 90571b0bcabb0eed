
/-
  slices.Repeat of one int, walked.
-/
import Derived.Test.YtakiigddbdapaaaGreatDoorChD
import Derived.Test.YtakiigddbdapaaaGreatDoorCpy
import Derived.Test.YtakiigddbdapaaaGreatDoorShelf
import Derived.Deep.RegionHeld3
namespace Go.Proofs.YtakiigddbdapaaaGreatDoor.Pe
open Go.RowKit
open Go.Proofs.YtakiigddbdapaaaGreatDoor.Mk
theorem Tryz.infoI : (Tryz.prog.info? 3).map (fun i => (i.zero, i.size, i.bytes)) = some (some (.int .i64 0), 1, 8) := by kernel_rfl
theorem made_int (n : Nat) : madeCells #[Value.int .i64 0] n = (List.replicate n (Value.int .i64 0)).toArray := by
  apply Array.ext
  · simp [size_madeCells]
  · intro i h1 h2; simp [madeCells, Nat.mod_one]
theorem run_makeI (n : Nat) (hn : n ≤ 1048576) (w : World) : (Instr.makeSlice 71 (.int .i64 (n : Int)) (.int .i64 (n : Int))).run Tryz.prog w = .ok (.slice (some ⟨w.heap.size, 0, none⟩) n n) (w.alloc (.cells (List.replicate n (Value.int .i64 0)).toArray 3)) := by
  obtain ⟨i0, hi, hz0, hz1, hz2⟩ := info_parts Tryz.infoI
  have h := run_make (P := Tryz.prog) w 71 3 i0 _ Tryz.underlying71 hi hz0 .i64 .i64 n n (by omega) (by omega) (by rw [hz2]; omega) (by omega)
  rw [hz1, Nat.mul_one] at h
  rw [← made_int]
  simpa [Value.cells] using h
theorem mul_one_n (n : Nat) (h : n ≤ 9) (w : World) : Calls Tryz.prog 65 #[.int .u64 1, .int .u64 (n : Int)] w fun e w' => e = .returned (.tuple #[.int .u64 0, .int .u64 (n : Int)]) ∧ w' = w := by
  have key := Tryz.bits_Mul 1 n (by omega) (by omega) w
  rw [show 1 * n / 18446744073709551616 = 0 by omega, show 1 * n % 18446744073709551616 = n by omega] at key
  exact key
theorem Tryz.sizeI : (Tryz.prog.info? 3).map (·.size) = some 1 := by kernel_rfl
def rwI (i : Int) (n m : Nat) : List Value := List.replicate m (Value.int .i64 i) ++ List.replicate (n - m) (Value.int .i64 0)
theorem rwI_splice (i : Int) (n m k : Nat) (_ : m + k ≤ n) : splice (rwI i n m) m (List.replicate k (Value.int .i64 i)) = rwI i n (m + k) := by
  unfold splice rwI
  rw [List.take_left' (by simp), List.length_replicate, ← List.drop_drop, List.drop_left' (by simp), List.drop_replicate, ← List.append_assoc, List.replicate_append_replicate, Nat.sub_sub]
theorem rwI_len (i : Int) (n m : Nat) (h : m ≤ n) : (rwI i n m).length = n := by unfold rwI; simp; omega
theorem rwI_src {w : World} {cb n m : Nat} {i : Int} {T : TypeId} (h : Hd w cb (.cells (rwI i n m).toArray T)) (k : Nat) (hk : k ≤ m) : ∀ j v, (List.replicate k (Value.int .i64 i))[j]? = some v → w.drew.cell? (({ block := cb, off := 0 } : Addr).add j) = some v := by
  intro j v hv
  have hj : j < k := by have := (List.getElem?_eq_some_iff.1 hv).1; simpa using this
  have hv2 : v = .int .i64 i := by simpa [hj] using hv.symm
  subst hv2
  have e : (rwI i n m)[j]? = some (.int .i64 i) := by
    unfold rwI
    rw [List.getElem?_append_left (by rw [List.length_replicate]; omega), List.getElem?_replicate, if_pos (by omega)]
  have h' : w.drew.heap[cb]? = some (.cells (rwI i n m).toArray T) := h
  rw [add_at, Nat.zero_add]
  simp [World.cell?, h', e]
theorem one_rowH {w : World} {g : Nat} {a : Value} {T : TypeId} (h : Hd w g (.cells #[a] T)) : ∀ (j : Nat) (u : Value), [a][j]? = some u → w.cell? ((⟨g, 0, none⟩ : Addr).add j) = some u := by
  intro j u hu
  have hj : j = 0 := by have := (List.getElem?_eq_some_iff.1 hu).1; simpa using this
  subst hj
  simp at hu
  subst hu
  exact cell_of_row w g 0 _ _ _ h
set_option maxRecDepth 100000 in
set_option maxHeartbeats 4000000 in
theorem repI_any (i : Int) (n : Nat) (h1 : 1 ≤ n) (h9 : n ≤ 9) (g0 : Nat) (W : World) (hg : Hd W g0 (.cells #[.int .i64 i] 3)) :
    Calls Tryz.prog 47 #[.slice (some ⟨g0, 0, none⟩) 1 1, .int .i64 (n : Int)] W fun e w' => e = .returned (.slice (some ⟨W.heap.size, 0, none⟩) n n) ∧ Hd w' W.heap.size (.cells (List.replicate n (Value.int .i64 i)).toArray 3) ∧ Below W.heap.size W w' := by
  have HMU := Lib.hid (fun w => mul_one_n n h9 w)
  have HMK := run_makeI n (by omega) W
  obtain ⟨w1, hw1⟩ : ∃ w1, w1 = W.alloc (.cells (List.replicate n (Value.int .i64 0)).toArray 3) := ⟨_, rfl⟩
  rw [← hw1] at HMK
  have HG := Lib.hid (show Hd w1 g0 (.cells #[.int .i64 i] 3) by rw [hw1]; exact hg.al _)
  have HN := Lib.hid (show Hd w1 W.heap.size (.cells (List.replicate n (Value.int .i64 0)).toArray 3) by rw [hw1]; exact Hd.new _ _)
  have B1 := Lib.hid (show Below W.heap.size W w1 by rw [hw1]; exact (Below.refl _ _).alloc (Nat.le_refl _) _)
  have hn0 : ¬ ((n : Int) < 0) := by omega
  have hnw : IntKind.u64.wrap (n : Int) = (n : Int) := by
    have := IntWalk.u64_in (n : Int) (by omega)
    exact this
  have HR0 := Lib.hid (show Hd w1 W.heap.size (.cells (rwI i n 0).toArray 3) by unfold rwI; simpa using HN.out)
  obtain ⟨w2, hcp, hg2, hb2, -⟩ := Cpy.run_copyN (P := Tryz.prog) w1 71 71 3 3 1 Tryz.underlying71 Tryz.sizeI (by omega) (some ⟨W.heap.size, 0, none⟩) (some ⟨g0, 0, none⟩) n n 1 1 W.heap.size 0 (rwI i n 0) 3 HR0.out (List.replicate 1 (Value.int .i64 i)) (by rw [show Nat.min 1 n = 1 from Nat.min_eq_left h1]; rfl) (fun _ => ⟨rfl, _, rfl, one_rowH HG.out⟩) (by rw [rwI_len i n 0 (by omega)]; simp; omega) (by intro v hv; simp at hv; subst hv; rfl) W.heap.size W B1.out (Nat.le_refl _)
  rw [show Nat.min 1 n = 1 from Nat.min_eq_left h1] at hcp
  simp only [goInt] at hcp
  rw [rwI_splice i n 0 1 (by omega)] at hg2
  have HG2 := Lib.hid hg2
  have HB2 := Lib.hid hb2
  have HU := Lib.hid h1
  clear hg hw1 hg2 hb2 HR0 HG HN B1
  go_enter Tryz.func47, Tryz.ntmps47
  go_wp2_with fail
  refine (HMU.out _).mono ?_
  rintro e w' ⟨rfl, hw'⟩
  obtain rfl : W = w' := hw'.symm
  clear hw'
  go_wp2
  clear hcp HMK
  go_loopw [8] (fun mv wr => ∃ m : Nat, 1 ≤ m ∧ m ≤ n ∧ mv = .int .i64 m ∧ Hd wr W.heap.size (.cells (rwI i n m).toArray 3) ∧ Below W.heap.size W wr) (fun mv _ => n - (intOf mv).toNat)
  case atStart => exact ⟨1, by omega, HU.out, rfl, HG2.out, HB2.out⟩
  case round =>
    obtain ⟨m, hm1, hmn, rfl, hH, hB⟩ := hrel
    have HH := Lib.hid hH
    have HB := Lib.hid hB
    clear hH hB
    by_cases hlt : m < n
    · obtain ⟨k, hk⟩ : ∃ k, Nat.min m (n - m) = k := ⟨_, rfl⟩
      have hk1 : 1 ≤ k ∧ k ≤ m ∧ m + k ≤ n := by rw [← hk]; simp only [Nat.min_def]; split <;> omega
      obtain ⟨w5, hcp, hg5, hb5, -⟩ := Cpy.run_copyN (P := Tryz.prog) wr.drew 71 71 3 3 1 Tryz.underlying71 Tryz.sizeI (by omega) (some ⟨W.heap.size, m, none⟩) (some ⟨W.heap.size, 0, none⟩) (n - m) (n - m) m n W.heap.size m (rwI i n m) 3 HH.out (List.replicate k (Value.int .i64 i)) (by rw [hk]; simp) (fun _ => ⟨rfl, _, rfl, rwI_src HH.out k hk1.2.1⟩) (by rw [rwI_len i n m hmn]; simp; omega) (by intro v hv; rw [List.eq_of_mem_replicate hv]; rfl) W.heap.size W HB.out.drew (Nat.le_refl _)
      rw [hk] at hcp
      simp only [goInt] at hcp
      rw [rwI_splice i n m k hk1.2.2] at hg5
      have HG5 := Lib.hid hg5
      have HB5 := Lib.hid hb5
      clear hg5 hb5 HH HB hk
      go_wp2_with fail
      go_region
      go_wp2
      go_roundw
      case rel => exact ⟨m + k, by omega, hk1.2.2, by go_num, HG5.out, HB5.out⟩
      case measure => simp [intOf]; omega
    · obtain rfl : m = n := by omega
      have HF := Lib.hid (show Hd wr W.heap.size (.cells (List.replicate m (Value.int .i64 i)).toArray 3) by have := HH.out; unfold rwI at this; simpa using this)
      go_wp2
      go_ret
      exact ⟨rfl, HF.out, HB.out⟩
end Go.Proofs.YtakiigddbdapaaaGreatDoor.Pe
