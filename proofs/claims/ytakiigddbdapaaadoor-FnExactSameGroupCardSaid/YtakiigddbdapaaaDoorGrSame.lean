
/-
  SameGroup: the model's comparison of two groups, the program's.
-/
import Derived.Test.YtakiigddbdapaaaDoorGrLaw
namespace Go.Proofs.YtakiigddbdapaaaDoor.Gr
open Go.RowKit
open Go.Proofs.YtakiigddbdapaaaDoor.Ul
theorem eqTs_drop {xs ys : List Tg} (k : Nat) (hx : k < xs.length) (hy : k < ys.length) : (xs.drop k == ys.drop k) = ((xs.getD k default == ys.getD k default) && (xs.drop (k + 1) == ys.drop (k + 1))) := by
  rw [List.drop_eq_getElem_cons hx, List.drop_eq_getElem_cons hy, List.cons_beq_cons]
  simp [hx, hy]
theorem eqTs_len {xs ys : List Tg} (h : xs.length ≠ ys.length) : (xs == ys) = false := by
  simp only [beq_eq_false_iff_ne, ne_eq]; intro e; exact h (by rw [e])
set_option maxRecDepth 100000 in
set_option maxHeartbeats 1000000 in
theorem slEq_any (S1 S2 : Nat → Prop) (xs ys : List Tg) (v u : Value) (w : World) (h1 : TgIn S1 w v xs) (h2 : TgIn S2 w u ys) :
    Calls Tryd.prog 38 #[v, u] w fun e w' => e = .returned (.bool (xs == ys)) ∧ ∃ n, w' = w.drewN n := by
  obtain ⟨a, cap, b, off, rfl, hcap, hm, hlen, ha, hc⟩ := h1
  obtain ⟨a', cap', b', off', rfl, hcap', hm', hlen', ha', hc'⟩ := h2
  have hn : xs.length ≤ 9223372036854775807 := by omega
  have hn' : ys.length ≤ 9223372036854775807 := by omega
  have HC := Lib.hid hc
  have HA := Lib.hid ha
  have HC' := Lib.hid hc'
  have HA' := Lib.hid ha'
  clear hc ha hc' ha' hlen hlen'
  by_cases hl : xs.length = ys.length
  · have HL := Lib.hid hl
    have g1 : ((xs.length : Int) != (ys.length : Int)) = false := by simp [hl]
    clear hl
    go_enter Tryd.func38, Tryd.ntmps38
    go_wp2
    go_loopw [13] (fun i wr => ∃ k n : Nat, k ≤ xs.length ∧ i = .int .i64 k ∧ (xs == ys) = (xs.drop k == ys.drop k) ∧ wr = w.drewN n) (fun i _ => xs.length - (intOf i).toNat)
    case atStart => exact ⟨0, 0, by omega, rfl, rfl, rfl⟩
    case round =>
      obtain ⟨k, n, hk, rfl, hE, rfl⟩ := hrel
      have HE := Lib.hid hE
      clear hE
      by_cases hlt : k < xs.length
      · have hlt' : k < ys.length := by have := HL.out; omega
        obtain ⟨ea, _⟩ := HA.out (by omega)
        obtain ⟨ea', _⟩ := HA'.out (by omega)
        subst ea ea'
        obtain ⟨q0, q1, q2⟩ := HC.out k hlt
        obtain ⟨r0, r1, r2⟩ := HC'.out k hlt'
        have D := Lib.hid (eqTs_drop k hlt hlt')
        generalize xs.getD k default = x at *
        generalize ys.getD k default = y at *
        obtain ⟨u1, p1, s1⟩ := x
        obtain ⟨u2, p2, s2⟩ := y
        simp only at q0 q1 q2 r0 r1 r2
        by_cases hxy : (⟨u1, p1, s1⟩ : Tg) = ⟨u2, p2, s2⟩
        · obtain ⟨rfl, rfl, rfl⟩ : u1 = u2 ∧ p1 = p2 ∧ s1 = s2 := by simpa using hxy
          clear hxy
          have D2 := Lib.hid (D.out.trans (by rw [beq_self_eq_true, Bool.true_and]))
          go_wp2
          go_quiet (fail)
          go_wp2
          go_roundw
          case rel => exact ⟨k + 1, n + nq, by omega, by go_num, by rw [HE.out, D2.out], by first | rfl | exact World.drewN_drewN _ _ _⟩
          case measure => simp [intOf]; omega
        · have e1 : ((⟨u1, p1, s1⟩ : Tg) == ⟨u2, p2, s2⟩) = false := by simpa using hxy
          have D2 := Lib.hid (D.out.trans (by rw [e1, Bool.false_and]))
          clear e1
          have hne : ¬ (u1 = u2 ∧ p1 = p2 ∧ s1 = s2) := by simpa using hxy
          clear hxy
          by_cases h1 : u1 = u2
          · subst h1
            by_cases h2 : p1 = p2
            · subst h2
              have h3 : ¬ s1 = s2 := by simpa using hne
              have f3 : (s1 == s2) = false := by simpa using h3
              have f4 : decide (s1 = s2) = false := by simpa using h3
              clear hne
              go_wp2
              go_quiet (fail)
              go_wp2
              go_ret
              exact ⟨ret_b (by rw [HE.out, D2.out]), n + nq, World.drewN_drewN _ _ _⟩
            · have f3 : (p1 == p2) = false := by simpa using h2
              have f4 : decide (p1 = p2) = false := by simpa using h2
              clear hne
              go_wp2
              go_quiet (fail)
              go_wp2
              go_ret
              exact ⟨ret_b (by rw [HE.out, D2.out]), n + nq, World.drewN_drewN _ _ _⟩
          · have f3 : (u1 == u2) = false := by simpa using h1
            have f4 : decide (u1 = u2) = false := by simpa using h1
            clear hne
            go_wp2
            go_quiet (fail)
            go_wp2
            go_ret
            exact ⟨ret_b (by rw [HE.out, D2.out]), n + nq, World.drewN_drewN _ _ _⟩
      · go_wp2
        go_ret
        obtain rfl : k = xs.length := by omega
        exact ⟨ret_b (by rw [HE.out, List.drop_length, HL.out, List.drop_length]; rfl), n, rfl⟩
  · have E := Lib.hid (eqTs_len hl)
    have g1 : ((xs.length : Int) != (ys.length : Int)) = true := by simp only [bne_iff_ne, ne_eq]; omega
    clear hl
    go_enter Tryd.func38, Tryd.ntmps38
    go_wp2
    go_ret
    exact ⟨ret_b E.out.symm, 0, rfl⟩
end Go.Proofs.YtakiigddbdapaaaDoor.Gr
