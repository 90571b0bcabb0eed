/-
  The walks of CodeWord and CodeOf, of the program (which reads a table of the package) and of the model.
-/
import Derived.Test.YtieclljkfdghaaaDoorRows
import Derived.Test.YtieclljkfdghaaaDoorCodesPlain
import Derived.WalkKit
import Derived.Lib.Hide
import Derived.WalkSmall
import Derived.MakeChecks
namespace Go.Proofs.YtieclljkfdghaaaDoor.Cd
open Go.RowKit
def tabCells : Array Value := (words.map fun z => Value.string ⟨z.toArray⟩).toArray
/-- The table of the package holds the words. -/
def Table (w : World) : Prop := ∃ t fr, w.heap[0]? = some (.cells tabCells t fr)
theorem Table.size {w : World} (h : Table w) : 0 < w.heap.size := by
  obtain ⟨t, fr, h⟩ := h
  exact (Array.getElem?_eq_some_iff.1 h).1
theorem Table.below {w w' : World} (h : Table w) (hb : Below w.heap.size w w') : Table w' := by
  have h0 := h.size
  obtain ⟨t, fr, h⟩ := h
  exact ⟨t, fr, by rw [hb.block _ h0]; exact h⟩
theorem tabCells_at (i : Nat) (hi : i < 19) : tabCells[i]? = some (.string ⟨(wordL i).toArray⟩) := by
  have hc : i = 0 ∨ i = 1 ∨ i = 2 ∨ i = 3 ∨ i = 4 ∨ i = 5 ∨ i = 6 ∨ i = 7 ∨ i = 8 ∨ i = 9 ∨ i = 10 ∨ i = 11 ∨ i = 12 ∨ i = 13 ∨ i = 14 ∨ i = 15 ∨ i = 16 ∨ i = 17 ∨ i = 18 := by omega
  rcases hc with rfl | rfl | rfl | rfl | rfl | rfl | rfl | rfl | rfl | rfl | rfl | rfl | rfl | rfl | rfl | rfl | rfl | rfl | rfl <;> rfl
theorem Table.cell {w : World} (h : Table w) (i : Nat) (hi : i < 19) : w.cell? ⟨0, i, none⟩ = some (.string ⟨(wordL i).toArray⟩) := by
  obtain ⟨t, fr, h⟩ := h
  unfold World.cell?
  simp only [h]
  exact tabCells_at i hi
theorem tab_index (i : Nat) (hi : i < 19) (w : World) : (Instr.index 57 (.agg tabCells) (.int .i64 (i : Int))).run Tryd.prog w = .ok (.string ⟨(wordL i).toArray⟩) w := by
  have hc : i = 0 ∨ i = 1 ∨ i = 2 ∨ i = 3 ∨ i = 4 ∨ i = 5 ∨ i = 6 ∨ i = 7 ∨ i = 8 ∨ i = 9 ∨ i = 10 ∨ i = 11 ∨ i = 12 ∨ i = 13 ∨ i = 14 ∨ i = 15 ∨ i = 16 ∨ i = 17 ∨ i = 18 := by omega
  clear hi
  rcases hc with rfl | rfl | rfl | rfl | rfl | rfl | rfl | rfl | rfl | rfl | rfl | rfl | rfl | rfl | rfl | rfl | rfl | rfl | rfl
  all_goals exact (show _ = _ from by kernel_rfl)
theorem spec_get (n : Nat) (hi : n < (words.map fun z => Value.string ⟨z.toArray⟩).length) : Ending.returned ((words.map fun z => Value.string ⟨z.toArray⟩)[n]) = .returned (.string ⟨(wordL n).toArray⟩) := by
  have h := tabCells_at n hi
  unfold tabCells at h
  rw [List.getElem?_toArray, List.getElem?_eq_getElem hi] at h
  rw [Option.some.inj h]
theorem spec_in (n : Nat) (hi : n < 19) (w : World) : Calls Tryd.prog 30 #[.int .i64 (n : Int)] w fun e w' => e = .returned (.string ⟨(wordL n).toArray⟩) ∧ Below w.heap.size w w' := by
  have d1 : decide ((n : Int) < 0) = false := by simp
  have d2 : decide ((19 : Int) ≤ n) = false := by simp; omega
  go_enter Tryd.func30, Tryd.ntmps30
  go_wp2
  go_ret
  exact ⟨spec_get n hi, (Below.refl _ _).alloc (Nat.le_refl _) _⟩
theorem spec_out (c : Int) (hc : c < 0 ∨ 19 ≤ c) (w : World) : Calls Tryd.prog 30 #[.int .i64 c] w fun e w' => e = .returned (.string ⟨(wordOf c).toArray⟩) ∧ Below w.heap.size w w' := by
  rw [wordOf_out c hc]
  rcases hc with h | h
  · go_enter Tryd.func30, Tryd.ntmps30
    go_wp2
    go_ret
    exact ⟨rfl, (Below.refl _ _).alloc (Nat.le_refl _) _⟩
  · have h2 : decide (c < 0) = false := by simp; omega
    go_enter Tryd.func30, Tryd.ntmps30
    go_wp2
    go_ret
    exact ⟨rfl, (Below.refl _ _).alloc (Nat.le_refl _) _⟩
theorem spec_word (c : Int) (w : World) : Calls Tryd.prog 30 #[.int .i64 c] w fun e w' => e = .returned (.string ⟨(wordOf c).toArray⟩) ∧ Below w.heap.size w w' := by
  by_cases h : 0 ≤ c ∧ c < 19
  · obtain ⟨n, rfl⟩ := Int.eq_ofNat_of_zero_le h.1
    have hn : n < 19 := by omega
    rw [wordOf_in n hn]
    exact spec_in n hn w
  · exact spec_out c (by omega) w
theorem impl_word (c : Int) (w : World) (hT : Table w) : Calls Tryd.prog 31 #[.int .i64 c] w fun e w' => e = .returned (.string ⟨(wordOf c).toArray⟩) ∧ w = w' := by
  by_cases h : 0 ≤ c ∧ c < 19
  · obtain ⟨n, rfl⟩ := Int.eq_ofNat_of_zero_le h.1
    have hn : n < 19 := by omega
    have hc := hT.cell n hn
    clear hT h
    rw [wordOf_in n hn]
    generalize wordL n = wl at *
    have d1 : decide ((n : Int) < 0) = false := by simp
    have d2 : decide ((19 : Int) ≤ n) = false := by simp; omega
    go_enter Tryd.func31, Tryd.ntmps31
    go_wp2
    go_ret
    exact ⟨rfl, rfl⟩
  · rw [wordOf_out c (by omega)]
    clear hT
    by_cases h1 : c < 0
    · go_enter Tryd.func31, Tryd.ntmps31
      go_wp2
      go_ret
      exact ⟨rfl, rfl⟩
    · have d1 : decide (c < 0) = false := by simp; omega
      have h2 : 19 ≤ c := by omega
      go_enter Tryd.func31, Tryd.ntmps31
      go_wp2
      go_ret
      exact ⟨rfl, rfl⟩
theorem word_walk (c : Int) (w : World) (hT : Table w) : Calls Tryd.prog 5 #[.int .i64 c] w fun e w' => e = .returned (.bool true) ∧ Below w.heap.size w w' := by
  have HT := Lib.hid hT
  clear hT
  go_enter Tryd.func5, Tryd.ntmps5
  go_wp2_with fail
  refine (spec_word c w).mono ?_
  rintro e w1 ⟨rfl, hb⟩
  have HT1 := Lib.hid (Table.below HT.out hb)
  have HB := Lib.hid hb
  clear hb HT
  go_wp2_with fail
  refine (impl_word c w1 HT1.out).mono ?_
  rintro e w2 ⟨rfl, rfl⟩
  go_wp2
  go_ret
  exact ⟨rfl, HB.out⟩

theorem ret_int {a b : Int} (h : a = b) : Ending.returned (.int .i64 a) = .returned (.int .i64 b) := by rw [h]
theorem spec_code (l : List UInt8) (w : World) : Calls Tryd.prog 32 #[.string ⟨l.toArray⟩] w fun e w' => e = .returned (.int .i64 (codeOf l)) ∧ Below w.heap.size w w' := by
  go_enter Tryd.func32, Tryd.ntmps32
  go_wp2
  go_loopw [3] (fun i wr => ∃ k : Nat, k ≤ 19 ∧ i = .int .i64 k ∧ noneTo l k = true ∧ Below w.heap.size w wr) (fun i _ => 19 - (intOf i).toNat)
  case atStart => exact ⟨0, by omega, rfl, none_zero l, Below.refl _ _⟩
  case round =>
    obtain ⟨k, hk, rfl, hn, hb⟩ := hrel
    by_cases hlt : k < 19
    · have NS := Lib.hid (none_succ l k hlt hn)
      have FO := Lib.hid (found l k hlt hn)
      have HB := Lib.hid hb
      clear hn hb
      have hle : (k : Int) ≤ 18 := by omega
      go_wp2_with fail
      refine (spec_in k hlt _).mono ?_
      rintro e w1 ⟨rfl, hb1⟩
      have HB1 := Lib.hid (HB.out.trans (hb1.mono HB.out.size))
      clear hb1 HB
      by_cases hc : (wordL k == l) = true
      · have F := Lib.hid (FO.out hc)
        clear NS FO
        go_wp2
        go_ret
        exact ⟨ret_int F.out.symm, HB1.out⟩
      · have hc : (wordL k == l) = false := by simpa using hc
        have F := Lib.hid (NS.out hc)
        clear NS FO
        go_wp2
        go_roundw
        case rel => exact ⟨k + 1, by omega, by go_num, F.out, HB1.out⟩
        case measure => simp [intOf]; omega
    · obtain rfl : k = 19 := by omega
      have F := Lib.hid (not_found l hn)
      have HB := Lib.hid hb
      clear hn hb
      go_wp2
      go_ret
      exact ⟨ret_int F.out.symm, HB.out⟩
theorem impl_code (l : List UInt8) (w : World) (hT : Table w) : Calls Tryd.prog 33 #[.string ⟨l.toArray⟩] w fun e w' => e = .returned (.int .i64 (codeOf l)) ∧ w = w' := by
  have hi := fun (k : Nat) (hk : k < 19) => tab_index k hk
  obtain ⟨t, fr, hg⟩ := hT
  have hsz : (Tryd.prog.info? 57).map (·.size) = some tabCells.size := by kernel_rfl
  have HG := Lib.hid hg
  have HI := Lib.hid hi
  have HSZ := Lib.hid hsz
  clear hg hi hsz
  generalize tabCells = cs at *
  go_enter Tryd.func33, Tryd.ntmps33
  go_wp2_with (refine wpList_load_row rfl 57 _ rfl 0 rfl t cs fr _ HG.out Tryd.underlying57 rfl HSZ.out ?_)
  go_loop [6] (fun i => ∃ k : Nat, k ≤ 19 ∧ i = .int .i64 k ∧ noneTo l k = true) (fun i => 19 - (intOf i).toNat)
  case atStart => exact ⟨0, by omega, rfl, none_zero l⟩
  case round =>
    obtain ⟨k, hk, rfl, hn⟩ := hrel
    by_cases hlt : k < 19
    · have NS := Lib.hid (none_succ l k hlt hn)
      have FO := Lib.hid (found l k hlt hn)
      have hix := HI.out k hlt
      clear hn
      by_cases hc : (wordL k == l) = true
      · have F := Lib.hid (FO.out hc)
        clear NS FO
        go_wp2
        go_ret
        exact ⟨ret_int F.out.symm, rfl⟩
      · have hc : (wordL k == l) = false := by simpa using hc
        have F := Lib.hid (NS.out hc)
        clear NS FO
        go_wp2
        go_round
        case rel => exact ⟨k + 1, by omega, by go_num, F.out⟩
        case measure => simp [intOf]; omega
    · obtain rfl : k = 19 := by omega
      have F := Lib.hid (not_found l hn)
      clear hn
      go_wp2
      go_ret
      exact ⟨ret_int F.out.symm, rfl⟩
theorem code_walk (l : List UInt8) (hl : l.length ≤ maxLen) (w : World) (hT : Table w) : Calls Tryd.prog 6 #[.string ⟨l.toArray⟩] w fun e w' => e = .returned (.bool true) ∧ Below w.heap.size w w' := by
  unfold maxLen at hl
  have HT := Lib.hid hT
  clear hT
  by_cases hb : 1048576 < l.length
  · go_enter Tryd.func6, Tryd.ntmps6
    go_wp2
    go_ret
    exact ⟨rfl, Below.refl _ _⟩
  go_enter Tryd.func6, Tryd.ntmps6
  go_wp2_with fail
  refine (spec_code l w).mono ?_
  rintro e w1 ⟨rfl, hb⟩
  have HT1 := Lib.hid (Table.below HT.out hb)
  have HB := Lib.hid hb
  clear hb HT
  go_wp2_with fail
  refine (impl_code l w1 HT1.out).mono ?_
  rintro e w2 ⟨rfl, rfl⟩
  go_wp2
  go_ret
  exact ⟨rfl, HB.out⟩
/-- What the row's list gives: the table. -/
theorem table_of (W : World) (h : laidMetH Tryd.prog Rows.fnExactCodeWordRow.laid W) : Table W := by
  rw [MakeChecks.laidMetH_plain _ _ _ (by kernel_rfl)] at h
  obtain ⟨ps, ⟨g', t', cs, fuel, p, q, hg', ht', hvar, hd, _, _⟩, _⟩ := h
  have gi : Tryd.prog.globalNamed "loop.example/g00779/impl.codeWords" = some 0 := by kernel_rfl
  have gt : (Tryd.prog.globals[0]?).map (·.type) = some 57 := by kernel_rfl
  obtain rfl := Option.some.inj (gi.symm.trans hg')
  obtain rfl := Option.some.inj (gt.symm.trans ht')
  have e := cells_of_texts (zs := words) Tryd.underlying57 Tryd.underlying9 (by kernel_rfl) (by kernel_rfl) hd
  simp only [World.var?, gi, Option.bind_some] at hvar
  split at hvar
  · rename_i c t fr hh
    obtain rfl := Option.some.inj hvar
    refine ⟨t, fr, ?_⟩
    rw [hh, show c = c.toList.toArray from Array.toArray_toList.symm, e]
    rfl
  · cases hvar
end Go.Proofs.YtieclljkfdghaaaDoor.Cd
