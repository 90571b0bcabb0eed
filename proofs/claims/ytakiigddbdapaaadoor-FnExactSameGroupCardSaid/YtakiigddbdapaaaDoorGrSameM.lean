
/-
  SameGroup on both sides, walked: the program's, then the model's.
-/
import Derived.Test.YtakiigddbdapaaaDoorGrSame
namespace Go.Proofs.YtakiigddbdapaaaDoor.Gr
open Go.RowKit
open Go.Proofs.YtakiigddbdapaaaDoor.Ul
def same3 (a b : Gp) : Bool := (a.name == b.name) && (a.age == b.age) && (a.tgs == b.tgs)
theorem same3_eq {a b : Gp} (h : same3 a b = true) : a = b := by
  obtain ⟨n, k, xs⟩ := a
  obtain ⟨n', k', xs'⟩ := b
  simp only [same3, Bool.and_eq_true, beq_iff_eq] at h
  obtain ⟨⟨rfl, rfl⟩, rfl⟩ := h
  rfl
def sameG (a b : Gp) : Bool := gpB a && same3 a b
theorem sameG_both (a b : Gp) : (gpB a && gpB b && same3 a b) = sameG a b := by
  unfold sameG
  cases h : same3 a b with
  | false => simp
  | true => obtain rfl := same3_eq h; simp
set_option maxRecDepth 100000 in
set_option maxHeartbeats 4000000 in
theorem sameGI (B : Nat) (w0 : World) (g g' : Gp) (v v' : Value) (h : TgIn (· < B) w0 v g.tgs) (h' : TgIn (· < B) w0 v' g'.tgs) (hn : g.name.length ≤ 1048576) (W : World) (hb : Below B w0 W) (hB : B ≤ W.heap.size) (hT : Tab W) (hM : MaxL W) :
    Calls Tryd.prog 20 #[gV g v, gV g' v'] W fun e w' => e = .returned (.bool (sameG g g')) ∧ Below W.heap.size W w' := by
  have HO := Lib.hid (fun (W' : World) h1 h2 h3 h4 => groupI B w0 g v h hn W' h1 h2 h3 h4)
  have HE := Lib.hid (fun (W' : World) (hb' : Below B w0 W') => slEq_any (· < B) (· < B) g.tgs g'.tgs v v' W' (h.blw hb') (h'.blw hb'))
  obtain ⟨a1, l1, c1, rfl⟩ := h.slice
  obtain ⟨a2, l2, c2, rfl⟩ := h'.slice
  have HB := Lib.hid hb
  have HT := Lib.hid hT
  have HM := Lib.hid hM
  clear hb hT hM hn h h'
  unfold sameG same3
  generalize gpB g = r at *
  obtain ⟨n, k, xs⟩ := g
  obtain ⟨n', k', xs'⟩ := g'
  simp only at *
  generalize (xs == xs') = q at *
  have A0 := Lib.hid (alloc2_0 W (.cells #[.string ⟨n.toArray⟩, .int .i64 k, .slice a1 l1 c1] 39) (.cells #[.string ⟨n'.toArray⟩, .int .i64 k', .slice a2 l2 c2] 39))
  have A1 := Lib.hid (alloc2_1 W (.cells #[.string ⟨n.toArray⟩, .int .i64 k, .slice a1 l1 c1] 39) (.cells #[.string ⟨n'.toArray⟩, .int .i64 k', .slice a2 l2 c2] 39))
  have B0 := Lib.hid (((Below.refl W.heap.size W).alloc (Nat.le_refl _) (.cells #[.string ⟨n.toArray⟩, .int .i64 k, .slice a1 l1 c1] 39)).alloc (by simp) (.cells #[.string ⟨n'.toArray⟩, .int .i64 k', .slice a2 l2 c2] 39))
  go_enter Tryd.func20, Tryd.ntmps20
  go_wp2_with fail
  refine (HO.out _ (HB.out.trans (B0.out.mono hB)) (by simp; omega) (HT.out.below B0.out) (HM.out.below B0.out)).mono ?_
  rintro e w1 ⟨rfl, hb1⟩
  obtain ⟨m0, m1, m2, mf⟩ := three_cells ((hb1.block _ (by simp; omega)).trans A0.out)
  obtain ⟨p0, p1, p2, pf⟩ := three_cells ((hb1.block _ (by simp)).trans A1.out)
  have D1 := Lib.hid (B0.out.trans (hb1.mono (by simp; omega)))
  clear hb1
  cases r
  · go_wp2
    go_ret
    exact ⟨rfl, D1.out⟩
  by_cases e1 : n = n'
  · subst e1
    have f1 : (n == n) = true := by simp
    by_cases e2 : k = k'
    · subst e2
      have f2 : (k == k) = true := by simp
      go_wp2_with fail
      refine (HE.out w1 (HB.out.trans (D1.out.mono hB))).mono ?_
      rintro e w2 ⟨rfl, nn, rfl⟩
      have D2 := Lib.hid (belDrew D1.out nn)
      clear m0 m1 m2 mf p0 p1 p2 pf
      go_wp2
      go_ret
      exact ⟨ret_b (by rw [f1, f2]; rfl), D2.out⟩
    · have f2 : (k == k') = false := by simpa using e2
      go_wp2
      go_ret
      exact ⟨ret_b (by rw [f2]; simp), D1.out⟩
  · have f1 : (n == n') = false := by simpa using e1
    go_wp2
    go_ret
    exact ⟨ret_b (by rw [f1]; simp), D1.out⟩
set_option maxRecDepth 100000 in
set_option maxHeartbeats 4000000 in
theorem same3_no (g g' : Gp) (v v' : Value) (S : Nat → Prop) (w : World) (h : TgIn S w v g.tgs) (h' : TgIn S w v' g'.tgs) (W : World) (hne : ¬ (g.name = g'.name ∧ g.age = g'.age ∧ g.tgs.length = g'.tgs.length)) :
    Calls Tryd.prog 37 #[gV g v, gV g' v'] W fun e w' => e = .returned (.bool (same3 g g')) ∧ Below W.heap.size W w' := by
  obtain ⟨a1, cap, b, off, rfl, hcap, hm, -⟩ := h
  obtain ⟨a2, cap', b', off', rfl, hcap', hm', -⟩ := h'
  have E : same3 g g' = false := by
    cases hs : same3 g g' with
    | false => rfl
    | true => exact absurd (by rw [same3_eq hs]; simp) hne
  rw [E]
  clear E
  obtain ⟨n, k, xs⟩ := g
  obtain ⟨n', k', xs'⟩ := g'
  simp only at *
  have B0 := Lib.hid (((Below.refl W.heap.size W).alloc (Nat.le_refl _) (.cells #[.string ⟨n.toArray⟩, .int .i64 k, .slice a1 xs.length cap] 39)).alloc (by simp) (.cells #[.string ⟨n'.toArray⟩, .int .i64 k', .slice a2 xs'.length cap'] 39))
  by_cases e1 : n = n'
  · subst e1
    have f1 : (n != n) = false := by simp
    by_cases e2 : k = k'
    · subst e2
      have f2 : (k != k) = false := by simp
      have f3 : ((xs.length : Int) != (xs'.length : Int)) = true := by simp only [bne_iff_ne, ne_eq]; simp at hne; omega
      clear hne
      go_enter Tryd.func37, Tryd.ntmps37
      go_wp2
      go_ret
      exact ⟨rfl, B0.out⟩
    · have f2 : (k != k') = true := by simpa using e2
      clear hne
      go_enter Tryd.func37, Tryd.ntmps37
      go_wp2
      go_ret
      exact ⟨rfl, B0.out⟩
  · have f1 : (n != n') = true := by simpa using e1
    clear hne
    go_enter Tryd.func37, Tryd.ntmps37
    go_wp2
    go_ret
    exact ⟨rfl, B0.out⟩
set_option maxRecDepth 100000 in
set_option maxHeartbeats 4000000 in
theorem same3_yes (B : Nat) (w0 : World) (n : List UInt8) (ag : Int) (xs ys : List Tg) (v v' : Value) (h : TgIn (· < B) w0 v xs) (h' : TgIn (· < B) w0 v' ys) (hl : xs.length = ys.length) (W : World) (hb : Below B w0 W) (hB : B ≤ W.heap.size) :
    Calls Tryd.prog 37 #[gV ⟨n, ag, xs⟩ v, gV ⟨n, ag, ys⟩ v'] W fun e w' => e = .returned (.bool (xs == ys)) ∧ Below W.heap.size W w' := by
  obtain ⟨a, cap, b, off, rfl, hcap, hm, hlen, ha, hc⟩ := h
  obtain ⟨a', cap', b', off', rfl, hcap', hm', hlen', ha', hc'⟩ := h'
  have hn : xs.length ≤ 9223372036854775807 := by omega
  have hn' : ys.length ≤ 9223372036854775807 := by omega
  have HC := Lib.hid hc
  have HA := Lib.hid ha
  have HC' := Lib.hid hc'
  have HA' := Lib.hid ha'
  have HL := Lib.hid hl
  have HB := Lib.hid hb
  have f1 : (n != n) = false := by simp
  have f2 : (ag != ag) = false := by simp
  have f3 : ((xs.length : Int) != (ys.length : Int)) = false := by simp [hl]
  clear hc ha hc' ha' hlen hlen' hl hb
  have A0 := Lib.hid (alloc2_0 W (.cells #[.string ⟨n.toArray⟩, .int .i64 ag, .slice a xs.length cap] 39) (.cells #[.string ⟨n.toArray⟩, .int .i64 ag, .slice a' ys.length cap'] 39))
  have A1 := Lib.hid (alloc2_1 W (.cells #[.string ⟨n.toArray⟩, .int .i64 ag, .slice a xs.length cap] 39) (.cells #[.string ⟨n.toArray⟩, .int .i64 ag, .slice a' ys.length cap'] 39))
  have B0 := Lib.hid (((Below.refl W.heap.size W).alloc (Nat.le_refl _) (.cells #[.string ⟨n.toArray⟩, .int .i64 ag, .slice a xs.length cap] 39)).alloc (by simp) (.cells #[.string ⟨n.toArray⟩, .int .i64 ag, .slice a' ys.length cap'] 39))
  go_enter Tryd.func37, Tryd.ntmps37
  go_wp2
  generalize ((W.alloc (.cells #[.string ⟨n.toArray⟩, .int .i64 ag, .slice a xs.length cap] 39)).alloc (.cells #[.string ⟨n.toArray⟩, .int .i64 ag, .slice a' ys.length cap'] 39)) = w at *
  go_loopw [5] (fun i wr => ∃ j m : Nat, j ≤ xs.length ∧ i = .int .i64 j ∧ (xs == ys) = (xs.drop j == ys.drop j) ∧ wr = w.drewN m) (fun i _ => xs.length - (intOf i).toNat)
  case atStart => exact ⟨0, 0, by omega, rfl, rfl, rfl⟩
  case round =>
    obtain ⟨k, m, hk, rfl, hE, rfl⟩ := hrel
    have HE := Lib.hid hE
    clear hE
    obtain ⟨m0, m1, m2, mf⟩ := three_cells A0.out
    obtain ⟨p0, p1, p2, pf⟩ := three_cells A1.out
    have DF := Lib.hid (belDrew B0.out m)
    by_cases hlt : k < xs.length
    · have hlt' : k < ys.length := by have := HL.out; omega
      obtain ⟨ea, hlb⟩ := HA.out (by omega)
      obtain ⟨ea', hlb'⟩ := HA'.out (by omega)
      subst ea ea'
      have hW := HB.out.trans (B0.out.mono hB)
      obtain ⟨c0, c1, c2⟩ := HC.out k hlt
      obtain ⟨d0, d1, d2⟩ := HC'.out k hlt'
      have q0 := (hW.cell (p := ⟨b, off + k * 3, none⟩) hlb).trans c0
      have q1 := (hW.cell (p := ⟨b, off + k * 3 + 1, none⟩) hlb).trans c1
      have q2 := (hW.cell (p := ⟨b, off + k * 3 + 2, none⟩) hlb).trans c2
      have r0 := (hW.cell (p := ⟨b', off' + k * 3, none⟩) hlb').trans d0
      have r1 := (hW.cell (p := ⟨b', off' + k * 3 + 1, none⟩) hlb').trans d1
      have r2 := (hW.cell (p := ⟨b', off' + k * 3 + 2, none⟩) hlb').trans d2
      clear c0 c1 c2 d0 d1 d2 hW
      have D := Lib.hid (eqTs_drop k hlt hlt')
      generalize xs.getD k default = x at *
      generalize ys.getD k default = y at *
      obtain ⟨u1, p1', s1⟩ := x
      obtain ⟨u2, p2', s2⟩ := y
      simp only at q0 q1 q2 r0 r1 r2
      by_cases hxy : (⟨u1, p1', s1⟩ : Tg) = ⟨u2, p2', s2⟩
      · obtain ⟨rfl, rfl, rfl⟩ : u1 = u2 ∧ p1' = p2' ∧ s1 = s2 := by simpa using hxy
        clear hxy
        have D2 := Lib.hid (D.out.trans (by rw [beq_self_eq_true, Bool.true_and]))
        go_wp2
        go_quiet (fail)
        go_wp2
        go_roundw
        case rel => exact ⟨k + 1, m + nq, by omega, by go_num, by rw [HE.out, D2.out], by first | rfl | exact World.drewN_drewN _ _ _⟩
        case measure => simp [intOf]; omega
      · have e1 : ((⟨u1, p1', s1⟩ : Tg) == ⟨u2, p2', s2⟩) = false := by simpa using hxy
        have D2 := Lib.hid (D.out.trans (by rw [e1, Bool.false_and]))
        clear e1
        have hne : ¬ (u1 = u2 ∧ p1' = p2' ∧ s1 = s2) := by simpa using hxy
        clear hxy
        by_cases h1 : u1 = u2
        · subst h1
          by_cases h2 : p1' = p2'
          · subst h2
            have h3 : ¬ s1 = s2 := by simpa using hne
            have f5 : (s1 == s2) = false := by simpa using h3
            have f6 : decide (s1 = s2) = false := by simpa using h3
            clear hne
            go_wp2
            go_quiet (fail)
            go_wp2
            go_ret
            exact ⟨ret_b (by rw [HE.out, D2.out]), by rw [World.drewN_drewN]; exact belDrew B0.out _⟩
          · have f5 : (p1' == p2') = false := by simpa using h2
            have f6 : decide (p1' = p2') = false := by simpa using h2
            clear hne
            go_wp2
            go_quiet (fail)
            go_wp2
            go_ret
            exact ⟨ret_b (by rw [HE.out, D2.out]), by rw [World.drewN_drewN]; exact belDrew B0.out _⟩
        · have f5 : (u1 == u2) = false := by simpa using h1
          have f6 : decide (u1 = u2) = false := by simpa using h1
          clear hne
          go_wp2
          go_quiet (fail)
          go_wp2
          go_ret
          exact ⟨ret_b (by rw [HE.out, D2.out]), by rw [World.drewN_drewN]; exact belDrew B0.out _⟩
    · go_wp2
      go_ret
      obtain rfl : k = xs.length := by omega
      exact ⟨ret_b (by rw [HE.out, List.drop_length, HL.out, List.drop_length]; rfl), DF.out⟩
theorem same3_any (B : Nat) (w0 : World) (g g' : Gp) (v v' : Value) (h : TgIn (· < B) w0 v g.tgs) (h' : TgIn (· < B) w0 v' g'.tgs) (W : World) (hb : Below B w0 W) (hB : B ≤ W.heap.size) :
    Calls Tryd.prog 37 #[gV g v, gV g' v'] W fun e w' => e = .returned (.bool (same3 g g')) ∧ Below W.heap.size W w' := by
  by_cases hne : g.name = g'.name ∧ g.age = g'.age ∧ g.tgs.length = g'.tgs.length
  · obtain ⟨n, k, xs⟩ := g
    obtain ⟨n', k', xs'⟩ := g'
    simp only at *
    obtain ⟨rfl, rfl, hl⟩ := hne
    have e : same3 ⟨n, k, xs⟩ ⟨n, k, xs'⟩ = (xs == xs') := by simp [same3]
    rw [e]
    exact same3_yes B w0 n k xs xs' v v' h h' hl W hb hB
  · exact same3_no g g' v v' _ w0 h h' W hne
set_option maxRecDepth 100000 in
set_option maxHeartbeats 4000000 in
theorem sameGS (B : Nat) (w0 : World) (g g' : Gp) (v v' : Value) (h : TgIn (· < B) w0 v g.tgs) (h' : TgIn (· < B) w0 v' g'.tgs) (hl : ∀ i, i < g.tgs.length → (g.tgs.getD i default).url.length ≤ 1048576) (hn : g.name.length ≤ 1048576) (hl' : ∀ i, i < g'.tgs.length → (g'.tgs.getD i default).url.length ≤ 1048576) (hn' : g'.name.length ≤ 1048576) (W : World) (hb : Below B w0 W) (hB : B ≤ W.heap.size) :
    Calls Tryd.prog 19 #[gV g v, gV g' v'] W fun e w' => e = .returned (.bool (sameG g g')) ∧ Below W.heap.size W w' := by
  have HO := Lib.hid (fun (W' : World) h1 h2 => gpS_any B w0 g v h hl hn W' h1 h2)
  have HO' := Lib.hid (fun (W' : World) h1 h2 => gpS_any B w0 g' v' h' hl' hn' W' h1 h2)
  have HE := Lib.hid (fun (W' : World) h1 h2 => same3_any B w0 g g' v v' h h' W' h1 h2)
  obtain ⟨a1, l1, c1, rfl⟩ := h.slice
  obtain ⟨a2, l2, c2, rfl⟩ := h'.slice
  have HB := Lib.hid hb
  clear hb hn hn' hl hl' h h'
  rw [← sameG_both]
  generalize gpB g = r at *
  generalize gpB g' = r' at *
  generalize same3 g g' = q at *
  obtain ⟨n, k, xs⟩ := g
  obtain ⟨n', k', xs'⟩ := g'
  have A0 := Lib.hid (alloc2_0 W (.cells #[.string ⟨n.toArray⟩, .int .i64 k, .slice a1 l1 c1] 39) (.cells #[.string ⟨n'.toArray⟩, .int .i64 k', .slice a2 l2 c2] 39))
  have A1 := Lib.hid (alloc2_1 W (.cells #[.string ⟨n.toArray⟩, .int .i64 k, .slice a1 l1 c1] 39) (.cells #[.string ⟨n'.toArray⟩, .int .i64 k', .slice a2 l2 c2] 39))
  have B0 := Lib.hid (((Below.refl W.heap.size W).alloc (Nat.le_refl _) (.cells #[.string ⟨n.toArray⟩, .int .i64 k, .slice a1 l1 c1] 39)).alloc (by simp) (.cells #[.string ⟨n'.toArray⟩, .int .i64 k', .slice a2 l2 c2] 39))
  go_enter Tryd.func19, Tryd.ntmps19
  go_wp2_with fail
  refine (HO.out _ (HB.out.trans (B0.out.mono hB)) (by simp; omega)).mono ?_
  rintro e w1 ⟨rfl, hb1⟩
  have K0 := Lib.hid ((hb1.block _ (by simp; omega)).trans A0.out)
  have K1 := Lib.hid ((hb1.block _ (by simp)).trans A1.out)
  have D1 := Lib.hid (B0.out.trans (hb1.mono (by simp; omega)))
  have z1 : W.heap.size + 1 < w1.heap.size := by have := hb1.size; simp at this; omega
  obtain ⟨m0, m1, m2, mf⟩ := three_cells K0.out
  obtain ⟨p0, p1, p2, pf⟩ := three_cells K1.out
  clear hb1
  cases r
  · go_wp2
    go_ret
    exact ⟨rfl, D1.out⟩
  go_wp2_with fail
  refine (HO'.out w1 (HB.out.trans (D1.out.mono hB)) (by omega)).mono ?_
  rintro e w2 ⟨rfl, hb2⟩
  have D2 := Lib.hid (D1.out.trans (hb2.mono (by omega)))
  clear m0 m1 m2 mf p0 p1 p2 pf
  obtain ⟨m0, m1, m2, mf⟩ := three_cells ((hb2.block _ (by omega)).trans K0.out)
  obtain ⟨p0, p1, p2, pf⟩ := three_cells ((hb2.block _ (by omega)).trans K1.out)
  have z2 : W.heap.size + 1 < w2.heap.size := by have := hb2.size; omega
  clear hb2
  cases r'
  · go_wp2
    go_ret
    exact ⟨rfl, D2.out⟩
  go_wp2_with fail
  refine (HE.out w2 (HB.out.trans (D2.out.mono hB)) (by omega)).mono ?_
  rintro e w3 ⟨rfl, hb3⟩
  have D3 := Lib.hid (D2.out.trans (hb3.mono (by omega)))
  clear m0 m1 m2 mf p0 p1 p2 pf hb3
  go_wp2
  go_ret
  exact ⟨rfl, D3.out⟩
end Go.Proofs.YtakiigddbdapaaaDoor.Gr
