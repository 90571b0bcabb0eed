
/-
  SameQueue, the model's and the program's, walked.
-/
import Derived.Test.YtkdmlpclioeniaaQuL
namespace Go.Proofs.Ytkdmlpclioeniaa.Qu
open Go.RowKit
open Go.Proofs.Ytkdmlpclioeniaa.Tx
theorem eqR_drop {xs ys : List Rep} (k : Nat) (hx : k < xs.length) (hy : k < ys.length) : (xs.drop k == ys.drop k) = ((xs.getD k default == ys.getD k default) && (xs.drop (k + 1) == ys.drop (k + 1))) := by
  rw [List.drop_eq_getElem_cons hx, List.drop_eq_getElem_cons hy, List.cons_beq_cons]
  simp [hx, hy]
theorem eqR_len {xs ys : List Rep} (h : xs.length ≠ ys.length) : (xs == ys) = false := by
  simp only [beq_eq_false_iff_ne, ne_eq]; intro e; exact h (by rw [e])
def samB (a b : Q) : Bool := (a.items == b.items) && (a.recent == b.recent)
theorem samB_eq {a b : Q} (h : samB a b = true) : a = b := by
  obtain ⟨xs, us⟩ := a
  obtain ⟨ys, vs⟩ := b
  simp only [samB, Bool.and_eq_true, beq_iff_eq] at h
  obtain ⟨rfl, rfl⟩ := h
  rfl
def saQ (a b : Q) : Bool := quB a && samB a b
theorem saQ_both (a b : Q) : (quB a && (quB b && samB a b)) = saQ a b := by
  unfold saQ
  cases h : samB a b with
  | false => simp
  | true => obtain rfl := samB_eq h; simp
set_option maxRecDepth 100000 in
set_option maxHeartbeats 2000000 in
theorem slEqR_any (S1 S2 : Nat → Prop) (xs ys : List Rep) (v u : Value) (w : World) (h1 : RpIn S1 w v xs) (h2 : RpIn S2 w u ys) :
    Calls Try.prog 53 #[v, u] w fun e w' => e = .returned (.bool (xs == ys)) ∧ ∃ n, w' = w.drewN n := by
  obtain ⟨a, cap, b, off, rfl, hcap, hm, -, ha, hc⟩ := h1
  obtain ⟨a', cap', b', off', rfl, hcap', hm', -, ha', hc'⟩ := h2
  have hn : xs.length ≤ 9223372036854775807 := by omega
  have hn' : ys.length ≤ 9223372036854775807 := by omega
  have HC := Lib.hid hc
  have HA := Lib.hid ha
  have HC' := Lib.hid hc'
  have HA' := Lib.hid ha'
  clear hc ha hc' ha'
  by_cases hl : xs.length = ys.length
  · have HL := Lib.hid hl
    have g1 : ((xs.length : Int) != (ys.length : Int)) = false := by simp [hl]
    clear hl
    go_enter Try.func53, Try.ntmps53
    go_wp2
    go_loopw [13] (fun i wr => ∃ k n : Nat, k ≤ xs.length ∧ i = .int .i64 k ∧ (xs == ys) = (xs.drop k == ys.drop k) ∧ wr = w.drewN n) (fun i _ => xs.length - (intOf i).toNat)
    case atStart => exact ⟨0, 0, by omega, rfl, rfl, rfl⟩
    case round =>
      obtain ⟨k, n, hk, rfl, hE, rfl⟩ := hrel
      have HE := Lib.hid hE
      clear hE
      by_cases hlt : k < xs.length
      · have hlt' : k < ys.length := by have := HL.out; omega
        obtain ⟨ea, _⟩ := HA.out (by omega)
        obtain ⟨ea', _⟩ := HA'.out (by omega)
        subst ea ea'
        obtain ⟨q0, q1, q2, q3⟩ := HC.out k hlt
        obtain ⟨r0, r1, r2, r3⟩ := HC'.out k hlt'
        have D := Lib.hid (eqR_drop k hlt hlt')
        generalize xs.getD k default = x at *
        generalize ys.getD k default = y at *
        obtain ⟨i1, b1, n1, t1⟩ := x
        obtain ⟨i2, b2, n2, t2⟩ := y
        simp only at q0 q1 q2 q3 r0 r1 r2 r3
        by_cases hxy : (⟨i1, b1, n1, t1⟩ : Rep) = ⟨i2, b2, n2, t2⟩
        · obtain ⟨rfl, rfl, rfl, rfl⟩ : i1 = i2 ∧ b1 = b2 ∧ n1 = n2 ∧ t1 = t2 := by simpa using hxy
          clear hxy
          have D2 := Lib.hid (D.out.trans (by rw [beq_self_eq_true, Bool.true_and]))
          go_wp2
          go_quiet (fail)
          go_wp2
          go_roundw
          case rel => exact ⟨k + 1, n + nq, by omega, by go_num, by rw [HE.out, D2.out], by first | rfl | exact World.drewN_drewN _ _ _⟩
          case measure => simp [intOf]; omega
        · have e1 : ((⟨i1, b1, n1, t1⟩ : Rep) == ⟨i2, b2, n2, t2⟩) = false := by simpa using hxy
          have D2 := Lib.hid (D.out.trans (by rw [e1, Bool.false_and]))
          clear e1
          have hne : ¬ (i1 = i2 ∧ b1 = b2 ∧ n1 = n2 ∧ t1 = t2) := by simpa using hxy
          clear hxy
          by_cases h1 : i1 = i2
          · subst h1
            by_cases h2 : b1 = b2
            · subst h2
              by_cases h3 : n1 = n2
              · subst h3
                have h4 : ¬ t1 = t2 := by simpa using hne
                have f5 : (t1 == t2) = false := by simpa using h4
                have f6 : decide (t1 = t2) = false := by simpa using h4
                clear hne
                go_wp2
                go_quiet (fail)
                go_wp2
                go_ret
                exact ⟨ret_b (by rw [HE.out, D2.out]), n + nq, World.drewN_drewN _ _ _⟩
              · have f5 : (n1 == n2) = false := by simpa using h3
                have f6 : decide (n1 = n2) = false := by simpa using h3
                clear hne
                go_wp2
                go_quiet (fail)
                go_wp2
                go_ret
                exact ⟨ret_b (by rw [HE.out, D2.out]), n + nq, World.drewN_drewN _ _ _⟩
            · have f5 : (b1 == b2) = false := by simpa using h2
              have f6 : decide (b1 = b2) = false := by simpa using h2
              clear hne
              go_wp2
              go_quiet (fail)
              go_wp2
              go_ret
              exact ⟨ret_b (by rw [HE.out, D2.out]), n + nq, World.drewN_drewN _ _ _⟩
          · have f5 : (i1 == i2) = false := by simpa using h1
            have f6 : decide (i1 = i2) = false := by simpa using h1
            clear hne
            go_wp2
            go_quiet (fail)
            go_wp2
            go_ret
            exact ⟨ret_b (by rw [HE.out, D2.out]), n + nq, World.drewN_drewN _ _ _⟩
      · go_wp2
        go_ret
        obtain rfl : k = xs.length := by omega
        exact ⟨ret_b (by rw [HE.out, List.drop_length, HL.out, List.drop_length]; rfl), n, rfl⟩
  · have E := Lib.hid (eqR_len hl)
    have g1 : ((xs.length : Int) != (ys.length : Int)) = true := by simp only [bne_iff_ne, ne_eq]; omega
    clear hl
    go_enter Try.func53, Try.ntmps53
    go_wp2
    go_ret
    exact ⟨ret_b E.out.symm, 0, rfl⟩
set_option maxRecDepth 100000 in
set_option maxHeartbeats 4000000 in
theorem l06Same_any (B : Nat) (w0 : World) (p q : Q) (iv rv iv' rv' : Value) (hi : RpIn (· < B) w0 iv p.items) (hr : TxtsIn (· < B) w0 rv p.recent) (hi' : RpIn (· < B) w0 iv' q.items) (hr' : TxtsIn (· < B) w0 rv' q.recent) (W : World) (hb : Below B w0 W) (hB : B ≤ W.heap.size) :
    Calls Try.prog 52 #[qV iv rv, qV iv' rv'] W fun e w' => e = .returned (.bool (samB p q)) ∧ Below W.heap.size W w' := by
  obtain ⟨xs, us⟩ := p
  obtain ⟨ys, vs⟩ := q
  simp only at hi hr hi' hr'
  have HE := Lib.hid (fun (W' : World) (hb' : Below B w0 W') => sameT_any (· < B) (· < B) us vs rv rv' W' (hr.blw hb') (hr'.blw hb'))
  obtain ⟨a, cap, b, off, rfl, hcap, hm, -, ha, hc⟩ := hi
  obtain ⟨a', cap', b', off', rfl, hcap', hm', -, ha', hc'⟩ := hi'
  obtain ⟨a2, l2, c2, rfl⟩ := hr.slice
  obtain ⟨a3, l3, c3, rfl⟩ := hr'.slice
  have hn : xs.length ≤ 9223372036854775807 := by omega
  have hn' : ys.length ≤ 9223372036854775807 := by omega
  have HC := Lib.hid hc
  have HA := Lib.hid ha
  have HC' := Lib.hid hc'
  have HA' := Lib.hid ha'
  have HB := Lib.hid hb
  have A0 := Lib.hid ((Hd.new W (iqO (.slice a xs.length cap) (.slice a2 l2 c2))).al (iqO (.slice a' ys.length cap') (.slice a3 l3 c3)))
  have A1 := Lib.hid (show Hd ((W.alloc (iqO (.slice a xs.length cap) (.slice a2 l2 c2))).alloc (iqO (.slice a' ys.length cap') (.slice a3 l3 c3))) (W.heap.size + 1) (iqO (.slice a' ys.length cap') (.slice a3 l3 c3)) by
    have := Hd.new (W.alloc (iqO (.slice a xs.length cap) (.slice a2 l2 c2))) (iqO (.slice a' ys.length cap') (.slice a3 l3 c3))
    simpa using this)
  have B0 := Lib.hid (((Below.refl W.heap.size W).alloc (Nat.le_refl _) (iqO (.slice a xs.length cap) (.slice a2 l2 c2))).alloc (by simp) (iqO (.slice a' ys.length cap') (.slice a3 l3 c3)))
  clear hc ha hc' ha' hb hr hr'
  unfold samB
  simp only
  by_cases hl : xs.length = ys.length
  · have HL := Lib.hid hl
    have g1 : ((xs.length : Int) != (ys.length : Int)) = false := by simp [hl]
    clear hl
    obtain ⟨r, hr0⟩ : ∃ r, (us == vs) = r := ⟨_, rfl⟩
    rw [hr0] at HE ⊢
    clear hr0
    go_enter Try.func52, Try.ntmps52
    go_wp2_with fail
    simp only [iqO] at A0 A1 B0
    refine (HE.out _ (HB.out.trans (B0.out.mono hB))).mono ?_
    rintro e w1 ⟨rfl, nn, rfl⟩
    generalize ((W.alloc (.cells #[.slice a xs.length cap, .slice a2 l2 c2] 37)).alloc (.cells #[.slice a' ys.length cap', .slice a3 l3 c3] 37)) = w at *
    cases r with
    | false =>
      have BF := Lib.hid (belDrew B0.out nn)
      go_wp2
      go_ret
      exact ⟨ret_b (by rw [Bool.and_false]), BF.out⟩
    | true =>
      go_wp2
      go_loopw [5] (fun i wr => ∃ j m : Nat, j ≤ xs.length ∧ i = .int .i64 j ∧ (xs == ys) = (xs.drop j == ys.drop j) ∧ wr = w.drewN m) (fun i _ => xs.length - (intOf i).toNat)
      case atStart => exact ⟨0, nn, by omega, rfl, rfl, rfl⟩
      case round =>
        obtain ⟨k, m, hk, rfl, hE, rfl⟩ := hrel
        have HE2 := Lib.hid hE
        clear hE
        obtain ⟨m0, m1, -⟩ := A0.out.two
        obtain ⟨p0, p1, -⟩ := A1.out.two
        have DF := Lib.hid (belDrew B0.out m)
        by_cases hlt : k < xs.length
        · have hlt' : k < ys.length := by have := HL.out; omega
          obtain ⟨ea, hlb⟩ := HA.out (by omega)
          obtain ⟨ea', hlb'⟩ := HA'.out (by omega)
          subst ea ea'
          have hW := HB.out.trans (B0.out.mono hB)
          obtain ⟨c0, c1, c2, c3⟩ := HC.out k hlt
          obtain ⟨d0, d1, d2, d3⟩ := HC'.out k hlt'
          have q0 := (hW.cell (p := ⟨b, off + k * 4, none⟩) hlb).trans c0
          have q1 := (hW.cell (p := ⟨b, off + k * 4 + 1, none⟩) hlb).trans c1
          have q2 := (hW.cell (p := ⟨b, off + k * 4 + 2, none⟩) hlb).trans c2
          have q3 := (hW.cell (p := ⟨b, off + k * 4 + 3, none⟩) hlb).trans c3
          have r0 := (hW.cell (p := ⟨b', off' + k * 4, none⟩) hlb').trans d0
          have r1 := (hW.cell (p := ⟨b', off' + k * 4 + 1, none⟩) hlb').trans d1
          have r2 := (hW.cell (p := ⟨b', off' + k * 4 + 2, none⟩) hlb').trans d2
          have r3 := (hW.cell (p := ⟨b', off' + k * 4 + 3, none⟩) hlb').trans d3
          clear c0 c1 c2 c3 d0 d1 d2 d3 hW
          have D := Lib.hid (eqR_drop k hlt hlt')
          generalize xs.getD k default = x at *
          generalize ys.getD k default = y at *
          obtain ⟨i1, b1, n1, t1⟩ := x
          obtain ⟨i2, b2, n2, t2⟩ := y
          simp only at q0 q1 q2 q3 r0 r1 r2 r3
          by_cases hxy : (⟨i1, b1, n1, t1⟩ : Rep) = ⟨i2, b2, n2, t2⟩
          · obtain ⟨rfl, rfl, rfl, rfl⟩ : i1 = i2 ∧ b1 = b2 ∧ n1 = n2 ∧ t1 = t2 := by simpa using hxy
            clear hxy
            have D2 := Lib.hid (D.out.trans (by rw [beq_self_eq_true, Bool.true_and]))
            go_wp2
            go_quiet (fail)
            go_wp2
            go_roundw
            case rel => exact ⟨k + 1, m + nq, by omega, by go_num, by rw [HE2.out, D2.out], by first | rfl | exact World.drewN_drewN _ _ _⟩
            case measure => simp [intOf]; omega
          · have e1 : ((⟨i1, b1, n1, t1⟩ : Rep) == ⟨i2, b2, n2, t2⟩) = false := by simpa using hxy
            have D2 := Lib.hid (D.out.trans (by rw [e1, Bool.false_and]))
            clear e1
            have hne : ¬ (i1 = i2 ∧ b1 = b2 ∧ n1 = n2 ∧ t1 = t2) := by simpa using hxy
            clear hxy
            by_cases h1 : i1 = i2
            · subst h1
              by_cases h2 : b1 = b2
              · subst h2
                by_cases h3 : n1 = n2
                · subst h3
                  have h4 : ¬ t1 = t2 := by simpa using hne
                  have f5 : (t1 == t2) = false := by simpa using h4
                  have f6 : decide (t1 = t2) = false := by simpa using h4
                  clear hne
                  go_wp2
                  go_quiet (fail)
                  go_wp2
                  go_ret
                  exact ⟨ret_b (by rw [Bool.and_true, HE2.out, D2.out]), by rw [World.drewN_drewN]; exact belDrew B0.out _⟩
                · have f5 : (n1 == n2) = false := by simpa using h3
                  have f6 : decide (n1 = n2) = false := by simpa using h3
                  clear hne
                  go_wp2
                  go_quiet (fail)
                  go_wp2
                  go_ret
                  exact ⟨ret_b (by rw [Bool.and_true, HE2.out, D2.out]), by rw [World.drewN_drewN]; exact belDrew B0.out _⟩
              · have f5 : (b1 == b2) = false := by simpa using h2
                have f6 : decide (b1 = b2) = false := by simpa using h2
                clear hne
                go_wp2
                go_quiet (fail)
                go_wp2
                go_ret
                exact ⟨ret_b (by rw [Bool.and_true, HE2.out, D2.out]), by rw [World.drewN_drewN]; exact belDrew B0.out _⟩
            · have f5 : (i1 == i2) = false := by simpa using h1
              have f6 : decide (i1 = i2) = false := by simpa using h1
              clear hne
              go_wp2
              go_quiet (fail)
              go_wp2
              go_ret
              exact ⟨ret_b (by rw [Bool.and_true, HE2.out, D2.out]), by rw [World.drewN_drewN]; exact belDrew B0.out _⟩
        · go_wp2
          go_ret
          obtain rfl : k = xs.length := by omega
          exact ⟨ret_b (by rw [Bool.and_true, HE2.out, List.drop_length, HL.out, List.drop_length]; rfl), DF.out⟩
  · have E := Lib.hid (show ((xs == ys) && (us == vs)) = false by rw [eqR_len hl, Bool.false_and])
    have g1 : ((xs.length : Int) != (ys.length : Int)) = true := by simp only [bne_iff_ne, ne_eq]; omega
    clear hl HE
    go_enter Try.func52, Try.ntmps52
    go_wp2
    go_ret
    exact ⟨ret_b E.out.symm, B0.out⟩
set_option maxRecDepth 100000 in
set_option maxHeartbeats 2000000 in
theorem sameI_any (B : Nat) (w0 : World) (p q : Q) (iv rv iv' rv' : Value) (hi : RpIn (· < B) w0 iv p.items) (hr : TxtsIn (· < B) w0 rv p.recent) (hi' : RpIn (· < B) w0 iv' q.items) (hr' : TxtsIn (· < B) w0 rv' q.recent) (W : World) (hb : Below B w0 W) (hB : B ≤ W.heap.size) :
    Calls Try.prog 21 #[qV iv rv, qV iv' rv'] W fun e w' => e = .returned (.bool (saQ p q)) ∧ Below W.heap.size W w' := by
  have HO := Lib.hid (fun (W' : World) h1 h2 => quI_any B w0 p iv rv hi hr W' h1 h2)
  have HE1 := Lib.hid (fun (W' : World) (hb' : Below B w0 W') => slEqR_any (· < B) (· < B) p.items q.items iv iv' W' (hi.blw hb') (hi'.blw hb'))
  have HE2 := Lib.hid (fun (W' : World) (hb' : Below B w0 W') => sEqual_any (· < B) (· < B) p.recent q.recent rv rv' W' (hr.blw hb') (hr'.blw hb'))
  obtain ⟨a1, l1, c1, rfl⟩ := hi.slice
  obtain ⟨a2, l2, c2, rfl⟩ := hr.slice
  obtain ⟨a3, l3, c3, rfl⟩ := hi'.slice
  obtain ⟨a4, l4, c4, rfl⟩ := hr'.slice
  have HB := Lib.hid hb
  clear hb hi hr hi' hr'
  unfold saQ samB
  generalize quB p = r at *
  generalize (p.items == q.items) = r1 at *
  generalize (p.recent == q.recent) = r2 at *
  have A0 := Lib.hid ((Hd.new W (iqO (.slice a1 l1 c1) (.slice a2 l2 c2))).al (iqO (.slice a3 l3 c3) (.slice a4 l4 c4)))
  have A1 := Lib.hid (show Hd ((W.alloc (iqO (.slice a1 l1 c1) (.slice a2 l2 c2))).alloc (iqO (.slice a3 l3 c3) (.slice a4 l4 c4))) (W.heap.size + 1) (iqO (.slice a3 l3 c3) (.slice a4 l4 c4)) by
    have := Hd.new (W.alloc (iqO (.slice a1 l1 c1) (.slice a2 l2 c2))) (iqO (.slice a3 l3 c3) (.slice a4 l4 c4))
    simpa using this)
  have B0 := Lib.hid (((Below.refl W.heap.size W).alloc (Nat.le_refl _) (iqO (.slice a1 l1 c1) (.slice a2 l2 c2))).alloc (by simp) (iqO (.slice a3 l3 c3) (.slice a4 l4 c4)))
  go_enter Try.func21, Try.ntmps21
  go_wp2_with fail
  refine (HO.out _ (HB.out.trans (B0.out.mono hB)) (by simp; omega)).mono ?_
  rintro e w1 ⟨rfl, hb1⟩
  obtain ⟨m0, m1, -⟩ := (A0.out.blw hb1).two
  obtain ⟨p0, p1, -⟩ := (A1.out.blw hb1).two
  have D1 := Lib.hid (B0.out.trans (hb1.mono (by simp; omega)))
  clear hb1
  cases r with
  | false =>
    go_wp2
    go_ret
    exact ⟨rfl, D1.out⟩
  | true =>
    go_wp2_with fail
    refine (HE1.out w1 (HB.out.trans (D1.out.mono hB))).mono ?_
    rintro e w2 ⟨rfl, nn, rfl⟩
    have D2 := Lib.hid (belDrew D1.out nn)
    cases r1 with
    | false =>
      go_wp2
      go_ret
      exact ⟨rfl, D2.out⟩
    | true =>
      go_wp2_with fail
      refine (HE2.out _ (HB.out.trans (D2.out.mono hB))).mono ?_
      rintro e w3 ⟨rfl, n2, rfl⟩
      have D3 := Lib.hid (belDrew D2.out n2)
      go_wp2
      go_ret
      exact ⟨rfl, by rw [← World.drewN_drewN]; exact D3.out⟩
set_option maxRecDepth 100000 in
set_option maxHeartbeats 2000000 in
theorem sameS_any (B : Nat) (w0 : World) (p q : Q) (iv rv iv' rv' : Value) (hi : RpIn (· < B) w0 iv p.items) (hr : TxtsIn (· < B) w0 rv p.recent) (hi' : RpIn (· < B) w0 iv' q.items) (hr' : TxtsIn (· < B) w0 rv' q.recent) (W : World) (hb : Below B w0 W) (hB : B ≤ W.heap.size) :
    Calls Try.prog 20 #[qV iv rv, qV iv' rv'] W fun e w' => e = .returned (.bool (saQ p q)) ∧ Below W.heap.size W w' := by
  have HO := Lib.hid (fun (W' : World) h1 h2 => quS_any B w0 p iv rv hi hr W' h1 h2)
  have HO2 := Lib.hid (fun (W' : World) h1 h2 => quS_any B w0 q iv' rv' hi' hr' W' h1 h2)
  have HE := Lib.hid (fun (W' : World) h1 h2 => l06Same_any B w0 p q iv rv iv' rv' hi hr hi' hr' W' h1 h2)
  obtain ⟨a1, l1, c1, rfl⟩ := hi.slice
  obtain ⟨a2, l2, c2, rfl⟩ := hr.slice
  obtain ⟨a3, l3, c3, rfl⟩ := hi'.slice
  obtain ⟨a4, l4, c4, rfl⟩ := hr'.slice
  have HB := Lib.hid hb
  clear hb hi hr hi' hr'
  rw [← saQ_both]
  generalize quB p = r at *
  generalize quB q = r1 at *
  generalize samB p q = r2 at *
  have A0 := Lib.hid ((Hd.new W (iqO (.slice a1 l1 c1) (.slice a2 l2 c2))).al (iqO (.slice a3 l3 c3) (.slice a4 l4 c4)))
  have A1 := Lib.hid (show Hd ((W.alloc (iqO (.slice a1 l1 c1) (.slice a2 l2 c2))).alloc (iqO (.slice a3 l3 c3) (.slice a4 l4 c4))) (W.heap.size + 1) (iqO (.slice a3 l3 c3) (.slice a4 l4 c4)) by
    have := Hd.new (W.alloc (iqO (.slice a1 l1 c1) (.slice a2 l2 c2))) (iqO (.slice a3 l3 c3) (.slice a4 l4 c4))
    simpa using this)
  have B0 := Lib.hid (((Below.refl W.heap.size W).alloc (Nat.le_refl _) (iqO (.slice a1 l1 c1) (.slice a2 l2 c2))).alloc (by simp) (iqO (.slice a3 l3 c3) (.slice a4 l4 c4)))
  go_enter Try.func20, Try.ntmps20
  go_wp2_with fail
  refine (HO.out _ (HB.out.trans (B0.out.mono hB)) (by simp; omega)).mono ?_
  rintro e w1 ⟨rfl, hb1⟩
  have K0 := Lib.hid (A0.out.blw hb1)
  have K1 := Lib.hid (A1.out.blw hb1)
  obtain ⟨m0, m1, -⟩ := K0.out.two
  obtain ⟨p0, p1, -⟩ := K1.out.two
  have D1 := Lib.hid (B0.out.trans (hb1.mono (by simp; omega)))
  clear hb1
  cases r with
  | false =>
    go_wp2
    go_ret
    exact ⟨rfl, D1.out⟩
  | true =>
    go_wp2_with fail
    refine (HO2.out w1 (HB.out.trans (D1.out.mono hB)) (Nat.le_trans hB D1.out.size)).mono ?_
    rintro e w2 ⟨rfl, hb2⟩
    have D2 := Lib.hid (below_chain D1.out hb2)
    clear m0 m1 p0 p1
    obtain ⟨m0, m1, -⟩ := (K0.out.blw hb2).two
    obtain ⟨p0, p1, -⟩ := (K1.out.blw hb2).two
    clear hb2
    cases r1 with
    | false =>
      go_wp2
      go_ret
      exact ⟨rfl, D2.out⟩
    | true =>
      go_wp2_with fail
      refine (HE.out w2 (HB.out.trans (D2.out.mono hB)) (Nat.le_trans hB D2.out.size)).mono ?_
      rintro e w3 ⟨rfl, hb3⟩
      have D3 := Lib.hid (below_chain D2.out hb3)
      clear hb3 m0 m1 p0 p1
      go_wp2
      go_ret
      exact ⟨rfl, D3.out⟩
end Go.Proofs.Ytkdmlpclioeniaa.Qu
