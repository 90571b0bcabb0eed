
/-
  Entries and numbers compared by the program: slices.Equal. (Made by spa.py.)
-/
import Derived.Test.YtmaknkbmilcanaaGreatDoorPiA
namespace Go.Proofs.YtmaknkbmilcanaaGreatDoor.Pi
open Go.RowKit
open Go.Proofs.YtmaknkbmilcanaaGreatDoor.Qu (IntsIn)
open Go.Proofs.YtmaknkbmilcanaaGreatDoor.Pe (Pr PrIn)
theorem sp_drop {α : Type} [BEq α] [LawfulBEq α] [Inhabited α] {xs ys : List α} (k : Nat) (hx : k < xs.length) (hy : k < ys.length) : (xs.drop k == ys.drop k) = ((xs.getD k default == ys.getD k default) && (xs.drop (k + 1) == ys.drop (k + 1))) := by
  rw [List.drop_eq_getElem_cons hx, List.drop_eq_getElem_cons hy, List.cons_beq_cons]
  simp [hx, hy]
theorem sp_len {α : Type} [BEq α] [LawfulBEq α] {xs ys : List α} (h : xs.length ≠ ys.length) : (xs == ys) = false := by
  simp only [beq_eq_false_iff_ne, ne_eq]; intro e; exact h (by rw [e])
theorem spI_drop {xs ys : List Int} (k : Nat) (hx : k < xs.length) (hy : k < ys.length) : (xs.drop k == ys.drop k) = ((xs.getD k 0 == ys.getD k 0) && (xs.drop (k + 1) == ys.drop (k + 1))) := by
  rw [List.drop_eq_getElem_cons hx, List.drop_eq_getElem_cons hy, List.cons_beq_cons]
  simp [hx, hy]
set_option maxRecDepth 100000 in
set_option maxHeartbeats 2000000 in
theorem slEqI_any (S1 S2 : Nat → Prop) (xs ys : List Int) (v u : Value) (w : World) (h1 : IntsIn S1 w v xs) (h2 : IntsIn S2 w u ys) :
    Calls Tryz.prog 89 #[v, u] w fun e w' => e = .returned (.bool (xs == ys)) ∧ ∃ n, w' = w.drewN n := by
  obtain ⟨a, cap, b, off, rfl, hcap, hm, ha, hc⟩ := h1
  obtain ⟨a', cap', b', off', rfl, hcap', hm', ha', hc'⟩ := h2
  have hn : xs.length ≤ 9223372036854775807 := by omega
  have hn' : ys.length ≤ 9223372036854775807 := by omega
  have HC := Lib.hid hc
  have HA := Lib.hid ha
  have HC' := Lib.hid hc'
  have HA' := Lib.hid ha'
  clear hc ha hc' ha'
  by_cases hl : xs.length = ys.length
  · have HL := Lib.hid hl
    have g1 : ((xs.length : Int) != (ys.length : Int)) = false := by simp [hl]
    clear hl
    go_enter Tryz.func89, Tryz.ntmps89
    go_wp2
    go_loopw [13] (fun i wr => ∃ k n : Nat, k ≤ xs.length ∧ i = .int .i64 k ∧ (xs == ys) = (xs.drop k == ys.drop k) ∧ wr = w.drewN n) (fun i _ => xs.length - (intOf i).toNat)
    case atStart => exact ⟨0, 0, by omega, rfl, rfl, rfl⟩
    case round =>
      obtain ⟨k, n, hk, rfl, hE, rfl⟩ := hrel
      have HE := Lib.hid hE
      clear hE
      by_cases hlt : k < xs.length
      · have hlt' : k < ys.length := by have := HL.out; omega
        obtain ⟨ea, _⟩ := HA.out (by omega)
        obtain ⟨ea', _⟩ := HA'.out (by omega)
        subst ea ea'
        have q0 := HC.out k hlt
        have r0 := HC'.out k hlt'
        have D := Lib.hid (spI_drop k hlt hlt')
        generalize xs.getD k 0 = x at *
        generalize ys.getD k 0 = y at *
        by_cases hxy : x = y
        · subst hxy
          have D2 := Lib.hid (D.out.trans (by rw [beq_self_eq_true, Bool.true_and]))
          go_wp2
          go_quiet (fail)
          go_wp2
          go_roundw
          case rel => exact ⟨k + 1, n + nq, by omega, by go_num, by rw [HE.out, D2.out], by first | rfl | exact World.drewN_drewN _ _ _⟩
          case measure => simp [intOf]; omega
        · have e1 : (x == y) = false := by simpa using hxy
          have D2 := Lib.hid (D.out.trans (by rw [e1, Bool.false_and]))
          have f6 : decide (x = y) = false := by simpa using hxy
          clear hxy
          go_wp2
          go_quiet (fail)
          go_wp2
          go_ret
          exact ⟨Tx.ret_b (by rw [HE.out, D2.out]), n + nq, World.drewN_drewN _ _ _⟩
      · go_wp2
        go_ret
        obtain rfl : k = xs.length := by omega
        exact ⟨Tx.ret_b (by rw [HE.out, List.drop_length, HL.out, List.drop_length]; rfl), n, rfl⟩
  · have E := Lib.hid (sp_len hl)
    have g1 : ((xs.length : Int) != (ys.length : Int)) = true := by simp only [bne_iff_ne, ne_eq]; omega
    clear hl
    go_enter Tryz.func89, Tryz.ntmps89
    go_wp2
    go_ret
    exact ⟨Tx.ret_b E.out.symm, 0, rfl⟩
set_option maxRecDepth 100000 in
set_option maxHeartbeats 2000000 in
theorem slEqEn_any (S1 S2 : Nat → Prop) (xs ys : List En) (v u : Value) (w : World) (h1 : EnIn S1 w v xs) (h2 : EnIn S2 w u ys) :
    Calls Tryz.prog 94 #[v, u] w fun e w' => e = .returned (.bool (xs == ys)) ∧ ∃ n, w' = w.drewN n := by
  obtain ⟨a, cap, b, off, rfl, hcap, hm, -, ha, hc⟩ := h1
  obtain ⟨a', cap', b', off', rfl, hcap', hm', -, ha', hc'⟩ := h2
  have hn : xs.length ≤ 9223372036854775807 := by omega
  have hn' : ys.length ≤ 9223372036854775807 := by omega
  have HC := Lib.hid hc
  have HA := Lib.hid ha
  have HC' := Lib.hid hc'
  have HA' := Lib.hid ha'
  clear hc ha hc' ha'
  by_cases hl : xs.length = ys.length
  · have HL := Lib.hid hl
    have g1 : ((xs.length : Int) != (ys.length : Int)) = false := by simp [hl]
    clear hl
    go_enter Tryz.func94, Tryz.ntmps94
    go_wp2
    go_loopw [13] (fun i wr => ∃ k n : Nat, k ≤ xs.length ∧ i = .int .i64 k ∧ (xs == ys) = (xs.drop k == ys.drop k) ∧ wr = w.drewN n) (fun i _ => xs.length - (intOf i).toNat)
    case atStart => exact ⟨0, 0, by omega, rfl, rfl, rfl⟩
    case round =>
      obtain ⟨k, n, hk, rfl, hE, rfl⟩ := hrel
      have HE := Lib.hid hE
      clear hE
      by_cases hlt : k < xs.length
      · have hlt' : k < ys.length := by have := HL.out; omega
        obtain ⟨ea, _⟩ := HA.out (by omega)
        obtain ⟨ea', _⟩ := HA'.out (by omega)
        subst ea ea'
        obtain ⟨q0, q1, q2⟩ := HC.out k hlt
        obtain ⟨r0, r1, r2⟩ := HC'.out k hlt'
        have D := Lib.hid (sp_drop k hlt hlt')
        generalize xs.getD k default = x at *
        generalize ys.getD k default = y at *
        by_cases hxy : x = y
        · subst hxy
          have D2 := Lib.hid (D.out.trans (by rw [beq_self_eq_true, Bool.true_and]))
          go_wp2
          go_quiet (fail)
          go_wp2
          go_roundw
          case rel => exact ⟨k + 1, n + nq, by omega, by go_num, by rw [HE.out, D2.out], by first | rfl | exact World.drewN_drewN _ _ _⟩
          case measure => simp [intOf]; omega
        · have e1 : (x == y) = false := by simpa using hxy
          have D2 := Lib.hid (D.out.trans (by rw [e1, Bool.false_and]))
          clear e1
          obtain ⟨x0, x1, x2⟩ := x
          obtain ⟨y0, y1, y2⟩ := y
          simp only at q0 r0 q1 r1 q2 r2
          have hne : ¬ (x0 = y0 ∧ x1 = y1 ∧ x2 = y2) := by simpa using hxy
          clear hxy
          by_cases h0 : x0 = y0
          · subst h0
            by_cases h1 : x1 = y1
            · subst h1
              have h2 : ¬ x2 = y2 := by simpa using hne
              have f5 : (x2 == y2) = false := by simpa using h2
              have f6 : decide (x2 = y2) = false := by simpa using h2
              clear hne
              go_wp2
              go_quiet (fail)
              go_wp2
              go_ret
              exact ⟨Tx.ret_b (by rw [HE.out, D2.out]), n + nq, World.drewN_drewN _ _ _⟩
            · have f5 : (x1 == y1) = false := by simpa using h1
              have f6 : decide (x1 = y1) = false := by simpa using h1
              clear hne
              go_wp2
              go_quiet (fail)
              go_wp2
              go_ret
              exact ⟨Tx.ret_b (by rw [HE.out, D2.out]), n + nq, World.drewN_drewN _ _ _⟩
          · have f5 : (x0 == y0) = false := by simpa using h0
            have f6 : decide (x0 = y0) = false := by simpa using h0
            clear hne
            go_wp2
            go_quiet (fail)
            go_wp2
            go_ret
            exact ⟨Tx.ret_b (by rw [HE.out, D2.out]), n + nq, World.drewN_drewN _ _ _⟩
      · go_wp2
        go_ret
        obtain rfl : k = xs.length := by omega
        exact ⟨Tx.ret_b (by rw [HE.out, List.drop_length, HL.out, List.drop_length]; rfl), n, rfl⟩
  · have E := Lib.hid (sp_len hl)
    have g1 : ((xs.length : Int) != (ys.length : Int)) = true := by simp only [bne_iff_ne, ne_eq]; omega
    clear hl
    go_enter Tryz.func94, Tryz.ntmps94
    go_wp2
    go_ret
    exact ⟨Tx.ret_b E.out.symm, 0, rfl⟩
set_option maxRecDepth 100000 in
set_option maxHeartbeats 2000000 in
theorem slEqPr_any (S1 S2 : Nat → Prop) (xs ys : List Pr) (v u : Value) (w : World) (h1 : PrIn S1 w v xs) (h2 : PrIn S2 w u ys) :
    Calls Tryz.prog 157 #[v, u] w fun e w' => e = .returned (.bool (xs == ys)) ∧ ∃ n, w' = w.drewN n := by
  obtain ⟨a, cap, b, off, rfl, hcap, hm, -, ha, hc⟩ := h1
  obtain ⟨a', cap', b', off', rfl, hcap', hm', -, ha', hc'⟩ := h2
  have hn : xs.length ≤ 9223372036854775807 := by omega
  have hn' : ys.length ≤ 9223372036854775807 := by omega
  have HC := Lib.hid hc
  have HA := Lib.hid ha
  have HC' := Lib.hid hc'
  have HA' := Lib.hid ha'
  clear hc ha hc' ha'
  by_cases hl : xs.length = ys.length
  · have HL := Lib.hid hl
    have g1 : ((xs.length : Int) != (ys.length : Int)) = false := by simp [hl]
    clear hl
    go_enter Tryz.func157, Tryz.ntmps157
    go_wp2
    go_loopw [13] (fun i wr => ∃ k n : Nat, k ≤ xs.length ∧ i = .int .i64 k ∧ (xs == ys) = (xs.drop k == ys.drop k) ∧ wr = w.drewN n) (fun i _ => xs.length - (intOf i).toNat)
    case atStart => exact ⟨0, 0, by omega, rfl, rfl, rfl⟩
    case round =>
      obtain ⟨k, n, hk, rfl, hE, rfl⟩ := hrel
      have HE := Lib.hid hE
      clear hE
      by_cases hlt : k < xs.length
      · have hlt' : k < ys.length := by have := HL.out; omega
        obtain ⟨ea, _⟩ := HA.out (by omega)
        obtain ⟨ea', _⟩ := HA'.out (by omega)
        subst ea ea'
        obtain ⟨q0, q1, q2, q3, q4, q5⟩ := HC.out k hlt
        obtain ⟨r0, r1, r2, r3, r4, r5⟩ := HC'.out k hlt'
        have D := Lib.hid (sp_drop k hlt hlt')
        generalize xs.getD k default = x at *
        generalize ys.getD k default = y at *
        by_cases hxy : x = y
        · subst hxy
          have D2 := Lib.hid (D.out.trans (by rw [beq_self_eq_true, Bool.true_and]))
          go_wp2
          go_quiet (fail)
          go_wp2
          go_roundw
          case rel => exact ⟨k + 1, n + nq, by omega, by go_num, by rw [HE.out, D2.out], by first | rfl | exact World.drewN_drewN _ _ _⟩
          case measure => simp [intOf]; omega
        · have e1 : (x == y) = false := by simpa using hxy
          have D2 := Lib.hid (D.out.trans (by rw [e1, Bool.false_and]))
          clear e1
          obtain ⟨x0, x1, x2, x3, x4, x5⟩ := x
          obtain ⟨y0, y1, y2, y3, y4, y5⟩ := y
          simp only at q0 r0 q1 r1 q2 r2 q3 r3 q4 r4 q5 r5
          have hne : ¬ (x0 = y0 ∧ x1 = y1 ∧ x2 = y2 ∧ x3 = y3 ∧ x4 = y4 ∧ x5 = y5) := by simpa using hxy
          clear hxy
          by_cases h0 : x0 = y0
          · subst h0
            by_cases h1 : x1 = y1
            · subst h1
              by_cases h2 : x2 = y2
              · subst h2
                by_cases h3 : x3 = y3
                · subst h3
                  by_cases h4 : x4 = y4
                  · subst h4
                    have h5 : ¬ x5 = y5 := by simpa using hne
                    have f5 : (x5 == y5) = false := by simpa using h5
                    have f6 : decide (x5 = y5) = false := by simpa using h5
                    clear hne
                    go_wp2
                    go_quiet (fail)
                    go_wp2
                    go_ret
                    exact ⟨Tx.ret_b (by rw [HE.out, D2.out]), n + nq, World.drewN_drewN _ _ _⟩
                  · have f5 : (x4 == y4) = false := by simpa using h4
                    have f6 : decide (x4 = y4) = false := by simpa using h4
                    clear hne
                    go_wp2
                    go_quiet (fail)
                    go_wp2
                    go_ret
                    exact ⟨Tx.ret_b (by rw [HE.out, D2.out]), n + nq, World.drewN_drewN _ _ _⟩
                · have f5 : (x3 == y3) = false := by simpa using h3
                  have f6 : decide (x3 = y3) = false := by simpa using h3
                  clear hne
                  go_wp2
                  go_quiet (fail)
                  go_wp2
                  go_ret
                  exact ⟨Tx.ret_b (by rw [HE.out, D2.out]), n + nq, World.drewN_drewN _ _ _⟩
              · have f5 : (x2 == y2) = false := by simpa using h2
                have f6 : decide (x2 = y2) = false := by simpa using h2
                clear hne
                go_wp2
                go_quiet (fail)
                go_wp2
                go_ret
                exact ⟨Tx.ret_b (by rw [HE.out, D2.out]), n + nq, World.drewN_drewN _ _ _⟩
            · have f5 : (x1 == y1) = false := by simpa using h1
              have f6 : decide (x1 = y1) = false := by simpa using h1
              clear hne
              go_wp2
              go_quiet (fail)
              go_wp2
              go_ret
              exact ⟨Tx.ret_b (by rw [HE.out, D2.out]), n + nq, World.drewN_drewN _ _ _⟩
          · have f5 : (x0 == y0) = false := by simpa using h0
            have f6 : decide (x0 = y0) = false := by simpa using h0
            clear hne
            go_wp2
            go_quiet (fail)
            go_wp2
            go_ret
            exact ⟨Tx.ret_b (by rw [HE.out, D2.out]), n + nq, World.drewN_drewN _ _ _⟩
      · go_wp2
        go_ret
        obtain rfl : k = xs.length := by omega
        exact ⟨Tx.ret_b (by rw [HE.out, List.drop_length, HL.out, List.drop_length]; rfl), n, rfl⟩
  · have E := Lib.hid (sp_len hl)
    have g1 : ((xs.length : Int) != (ys.length : Int)) = true := by simp only [bne_iff_ne, ne_eq]; omega
    clear hl
    go_enter Tryz.func157, Tryz.ntmps157
    go_wp2
    go_ret
    exact ⟨Tx.ret_b E.out.symm, 0, rfl⟩
end Go.Proofs.YtmaknkbmilcanaaGreatDoor.Pi
