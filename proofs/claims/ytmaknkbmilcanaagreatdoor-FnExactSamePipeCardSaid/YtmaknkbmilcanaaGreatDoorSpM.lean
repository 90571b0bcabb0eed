import Derived.Test.YtmaknkbmilcanaaGreatDoorGrO
import Derived.Test.YtmaknkbmilcanaaGreatDoorQuS
import Derived.Deep.RegionHeld3
import Derived.Test.YtmaknkbmilcanaaGreatDoorPiA
import Derived.Test.YtmaknkbmilcanaaGreatDoorPiI
import Derived.BigQuiet
namespace Go.Proofs.YtmaknkbmilcanaaGreatDoor.Gr
open Go.RowKit
theorem belDrew {B : Nat} {a w : World} (h : Below B a w) (n : Nat) : Below B a (w.drewN n) := ⟨h.os, h.tape, h.output, h.size, h.block⟩
theorem alloc2_0 (W : World) (a b : Obj) : ((W.alloc a).alloc b).heap[W.heap.size]? = some a := by
  rw [heap_alloc_old _ _ (by simp), heap_alloc_new]
theorem alloc2_1 (W : World) (a b : Obj) : ((W.alloc a).alloc b).heap[W.heap.size + 1]? = some b := heap_alloc2_new W a b
end Go.Proofs.YtmaknkbmilcanaaGreatDoor.Gr
namespace Go.Proofs.YtmaknkbmilcanaaGreatDoor.Qu
open Go.RowKit
theorem belDrew {B : Nat} {a w : World} (h : Below B a w) (n : Nat) : Below B a (w.drewN n) := ⟨h.os, h.tape, h.output, h.size, h.block⟩
end Go.Proofs.YtmaknkbmilcanaaGreatDoor.Qu
namespace Go.Proofs.YtmaknkbmilcanaaGreatDoor.Gr
open Go.RowKit
open Go.Proofs.YtmaknkbmilcanaaGreatDoor.Ul
theorem below_chain {W w w' : World} (h : Below W.heap.size W w) (h2 : Below w.heap.size w w') : Below W.heap.size W w' := h.trans (h2.mono h.size)
end Go.Proofs.YtmaknkbmilcanaaGreatDoor.Gr
namespace Go.Proofs.YtmaknkbmilcanaaGreatDoor.Gr
open Go.RowKit
open Go.Proofs.YtmaknkbmilcanaaGreatDoor.Ul
theorem eqTs_drop {xs ys : List Tg} (k : Nat) (hx : k < xs.length) (hy : k < ys.length) : (xs.drop k == ys.drop k) = ((xs.getD k default == ys.getD k default) && (xs.drop (k + 1) == ys.drop (k + 1))) := by
  rw [List.drop_eq_getElem_cons hx, List.drop_eq_getElem_cons hy, List.cons_beq_cons]
  simp [hx, hy]
theorem eqTs_len {xs ys : List Tg} (h : xs.length ≠ ys.length) : (xs == ys) = false := by
  simp only [beq_eq_false_iff_ne, ne_eq]; intro e; exact h (by rw [e])
set_option maxRecDepth 100000 in
set_option maxHeartbeats 1000000 in
theorem slEq_any (S1 S2 : Nat → Prop) (xs ys : List Tg) (v u : Value) (w : World) (h1 : TgIn S1 w v xs) (h2 : TgIn S2 w u ys) :
    Calls Tryz.prog 232 #[v, u] w fun e w' => e = .returned (.bool (xs == ys)) ∧ ∃ n, w' = w.drewN n := by
  obtain ⟨a, cap, b, off, rfl, hcap, hm, hlen, ha, hc⟩ := h1
  obtain ⟨a', cap', b', off', rfl, hcap', hm', hlen', ha', hc'⟩ := h2
  have hn : xs.length ≤ 9223372036854775807 := by omega
  have hn' : ys.length ≤ 9223372036854775807 := by omega
  have HC := Lib.hid hc
  have HA := Lib.hid ha
  have HC' := Lib.hid hc'
  have HA' := Lib.hid ha'
  clear hc ha hc' ha' hlen hlen'
  by_cases hl : xs.length = ys.length
  · have HL := Lib.hid hl
    have g1 : ((xs.length : Int) != (ys.length : Int)) = false := by simp [hl]
    clear hl
    go_enter Tryz.func232, Tryz.ntmps232
    go_wp2
    go_loopw [13] (fun i wr => ∃ k n : Nat, k ≤ xs.length ∧ i = .int .i64 k ∧ (xs == ys) = (xs.drop k == ys.drop k) ∧ wr = w.drewN n) (fun i _ => xs.length - (intOf i).toNat)
    case atStart => exact ⟨0, 0, by omega, rfl, rfl, rfl⟩
    case round =>
      obtain ⟨k, n, hk, rfl, hE, rfl⟩ := hrel
      have HE := Lib.hid hE
      clear hE
      by_cases hlt : k < xs.length
      · have hlt' : k < ys.length := by have := HL.out; omega
        obtain ⟨ea, _⟩ := HA.out (by omega)
        obtain ⟨ea', _⟩ := HA'.out (by omega)
        subst ea ea'
        obtain ⟨q0, q1, q2⟩ := HC.out k hlt
        obtain ⟨r0, r1, r2⟩ := HC'.out k hlt'
        have D := Lib.hid (eqTs_drop k hlt hlt')
        generalize xs.getD k default = x at *
        generalize ys.getD k default = y at *
        obtain ⟨u1, p1, s1⟩ := x
        obtain ⟨u2, p2, s2⟩ := y
        simp only at q0 q1 q2 r0 r1 r2
        by_cases hxy : (⟨u1, p1, s1⟩ : Tg) = ⟨u2, p2, s2⟩
        · obtain ⟨rfl, rfl, rfl⟩ : u1 = u2 ∧ p1 = p2 ∧ s1 = s2 := by simpa using hxy
          clear hxy
          have D2 := Lib.hid (D.out.trans (by rw [beq_self_eq_true, Bool.true_and]))
          go_wp2
          go_quiet (fail)
          go_wp2
          go_roundw
          case rel => exact ⟨k + 1, n + nq, by omega, by go_num, by rw [HE.out, D2.out], by first | rfl | exact World.drewN_drewN _ _ _⟩
          case measure => simp [intOf]; omega
        · have e1 : ((⟨u1, p1, s1⟩ : Tg) == ⟨u2, p2, s2⟩) = false := by simpa using hxy
          have D2 := Lib.hid (D.out.trans (by rw [e1, Bool.false_and]))
          clear e1
          have hne : ¬ (u1 = u2 ∧ p1 = p2 ∧ s1 = s2) := by simpa using hxy
          clear hxy
          by_cases h1 : u1 = u2
          · subst h1
            by_cases h2 : p1 = p2
            · subst h2
              have h3 : ¬ s1 = s2 := by simpa using hne
              have f3 : (s1 == s2) = false := by simpa using h3
              have f4 : decide (s1 = s2) = false := by simpa using h3
              clear hne
              go_wp2
              go_quiet (fail)
              go_wp2
              go_ret
              exact ⟨ret_b (by rw [HE.out, D2.out]), n + nq, World.drewN_drewN _ _ _⟩
            · have f3 : (p1 == p2) = false := by simpa using h2
              have f4 : decide (p1 = p2) = false := by simpa using h2
              clear hne
              go_wp2
              go_quiet (fail)
              go_wp2
              go_ret
              exact ⟨ret_b (by rw [HE.out, D2.out]), n + nq, World.drewN_drewN _ _ _⟩
          · have f3 : (u1 == u2) = false := by simpa using h1
            have f4 : decide (u1 = u2) = false := by simpa using h1
            clear hne
            go_wp2
            go_quiet (fail)
            go_wp2
            go_ret
            exact ⟨ret_b (by rw [HE.out, D2.out]), n + nq, World.drewN_drewN _ _ _⟩
      · go_wp2
        go_ret
        obtain rfl : k = xs.length := by omega
        exact ⟨ret_b (by rw [HE.out, List.drop_length, HL.out, List.drop_length]; rfl), n, rfl⟩
  · have E := Lib.hid (eqTs_len hl)
    have g1 : ((xs.length : Int) != (ys.length : Int)) = true := by simp only [bne_iff_ne, ne_eq]; omega
    clear hl
    go_enter Tryz.func232, Tryz.ntmps232
    go_wp2
    go_ret
    exact ⟨ret_b E.out.symm, 0, rfl⟩
end Go.Proofs.YtmaknkbmilcanaaGreatDoor.Gr
namespace Go.Proofs.YtmaknkbmilcanaaGreatDoor.Gr
open Go.RowKit
open Go.Proofs.YtmaknkbmilcanaaGreatDoor.Ul
def same3 (a b : Gp) : Bool := (a.name == b.name) && (a.age == b.age) && (a.tgs == b.tgs)
theorem same3_eq {a b : Gp} (h : same3 a b = true) : a = b := by
  obtain ⟨n, k, xs⟩ := a
  obtain ⟨n', k', xs'⟩ := b
  simp only [same3, Bool.and_eq_true, beq_iff_eq] at h
  obtain ⟨⟨rfl, rfl⟩, rfl⟩ := h
  rfl
def sameG (a b : Gp) : Bool := gpB a && same3 a b
set_option maxRecDepth 100000 in
set_option maxHeartbeats 4000000 in
theorem sameGI (B : Nat) (w0 : World) (g g' : Gp) (v v' : Value) (h : TgIn (· < B) w0 v g.tgs) (h' : TgIn (· < B) w0 v' g'.tgs) (hn : g.name.length ≤ 1048576) (W : World) (hb : Below B w0 W) (hB : B ≤ W.heap.size) (hT : Tab W) (hM : MaxL W) :
    Calls Tryz.prog 156 #[gV g v, gV g' v'] W fun e w' => e = .returned (.bool (sameG g g')) ∧ Below W.heap.size W w' := by
  have HO := Lib.hid (fun (W' : World) h1 h2 h3 h4 => groupI B w0 g v h hn W' h1 h2 h3 h4)
  have HE := Lib.hid (fun (W' : World) (hb' : Below B w0 W') => slEq_any (· < B) (· < B) g.tgs g'.tgs v v' W' (h.blw hb') (h'.blw hb'))
  obtain ⟨a1, l1, c1, rfl⟩ := h.slice
  obtain ⟨a2, l2, c2, rfl⟩ := h'.slice
  have HB := Lib.hid hb
  have HT := Lib.hid hT
  have HM := Lib.hid hM
  clear hb hT hM hn h h'
  unfold sameG same3
  generalize gpB g = r at *
  obtain ⟨n, k, xs⟩ := g
  obtain ⟨n', k', xs'⟩ := g'
  simp only at *
  generalize (xs == xs') = q at *
  have A0 := Lib.hid (alloc2_0 W (.cells #[.string ⟨n.toArray⟩, .int .i64 k, .slice a1 l1 c1] 82) (.cells #[.string ⟨n'.toArray⟩, .int .i64 k', .slice a2 l2 c2] 82))
  have A1 := Lib.hid (alloc2_1 W (.cells #[.string ⟨n.toArray⟩, .int .i64 k, .slice a1 l1 c1] 82) (.cells #[.string ⟨n'.toArray⟩, .int .i64 k', .slice a2 l2 c2] 82))
  have B0 := Lib.hid (((Below.refl W.heap.size W).alloc (Nat.le_refl _) (.cells #[.string ⟨n.toArray⟩, .int .i64 k, .slice a1 l1 c1] 82)).alloc (by simp) (.cells #[.string ⟨n'.toArray⟩, .int .i64 k', .slice a2 l2 c2] 82))
  go_enter Tryz.func156, Tryz.ntmps156
  go_wp2_with fail
  refine (HO.out _ (HB.out.trans (B0.out.mono hB)) (by simp; omega) (HT.out.below B0.out) (HM.out.below B0.out)).mono ?_
  rintro e w1 ⟨rfl, hb1⟩
  obtain ⟨m0, m1, m2, mf⟩ := three_cells ((hb1.block _ (by simp; omega)).trans A0.out)
  obtain ⟨p0, p1, p2, pf⟩ := three_cells ((hb1.block _ (by simp)).trans A1.out)
  have D1 := Lib.hid (B0.out.trans (hb1.mono (by simp; omega)))
  clear hb1
  cases r
  · go_wp2
    go_ret
    exact ⟨rfl, D1.out⟩
  by_cases e1 : n = n'
  · subst e1
    have f1 : (n == n) = true := by simp
    by_cases e2 : k = k'
    · subst e2
      have f2 : (k == k) = true := by simp
      go_wp2_with fail
      refine (HE.out w1 (HB.out.trans (D1.out.mono hB))).mono ?_
      rintro e w2 ⟨rfl, nn, rfl⟩
      have D2 := Lib.hid (belDrew D1.out nn)
      clear m0 m1 m2 mf p0 p1 p2 pf
      go_wp2
      go_ret
      exact ⟨ret_b (by rw [f1, f2]; rfl), D2.out⟩
    · have f2 : (k == k') = false := by simpa using e2
      go_wp2
      go_ret
      exact ⟨ret_b (by rw [f2]; simp), D1.out⟩
  · have f1 : (n == n') = false := by simpa using e1
    go_wp2
    go_ret
    exact ⟨ret_b (by rw [f1]; simp), D1.out⟩
set_option maxRecDepth 100000 in
set_option maxHeartbeats 4000000 in
theorem same3_no (g g' : Gp) (v v' : Value) (S : Nat → Prop) (w : World) (h : TgIn S w v g.tgs) (h' : TgIn S w v' g'.tgs) (W : World) (hne : ¬ (g.name = g'.name ∧ g.age = g'.age ∧ g.tgs.length = g'.tgs.length)) :
    Calls Tryz.prog 230 #[gV g v, gV g' v'] W fun e w' => e = .returned (.bool (same3 g g')) ∧ Below W.heap.size W w' := by
  obtain ⟨a1, cap, b, off, rfl, hcap, hm, -⟩ := h
  obtain ⟨a2, cap', b', off', rfl, hcap', hm', -⟩ := h'
  have E : same3 g g' = false := by
    cases hs : same3 g g' with
    | false => rfl
    | true => exact absurd (by rw [same3_eq hs]; simp) hne
  rw [E]
  clear E
  obtain ⟨n, k, xs⟩ := g
  obtain ⟨n', k', xs'⟩ := g'
  simp only at *
  have B0 := Lib.hid (((Below.refl W.heap.size W).alloc (Nat.le_refl _) (.cells #[.string ⟨n.toArray⟩, .int .i64 k, .slice a1 xs.length cap] 82)).alloc (by simp) (.cells #[.string ⟨n'.toArray⟩, .int .i64 k', .slice a2 xs'.length cap'] 82))
  by_cases e1 : n = n'
  · subst e1
    have f1 : (n != n) = false := by simp
    by_cases e2 : k = k'
    · subst e2
      have f2 : (k != k) = false := by simp
      have f3 : ((xs.length : Int) != (xs'.length : Int)) = true := by simp only [bne_iff_ne, ne_eq]; simp at hne; omega
      clear hne
      go_enter Tryz.func230, Tryz.ntmps230
      go_wp2
      go_ret
      exact ⟨rfl, B0.out⟩
    · have f2 : (k != k') = true := by simpa using e2
      clear hne
      go_enter Tryz.func230, Tryz.ntmps230
      go_wp2
      go_ret
      exact ⟨rfl, B0.out⟩
  · have f1 : (n != n') = true := by simpa using e1
    clear hne
    go_enter Tryz.func230, Tryz.ntmps230
    go_wp2
    go_ret
    exact ⟨rfl, B0.out⟩
set_option maxRecDepth 100000 in
set_option maxHeartbeats 4000000 in
theorem same3_yes (B : Nat) (w0 : World) (n : List UInt8) (ag : Int) (xs ys : List Tg) (v v' : Value) (h : TgIn (· < B) w0 v xs) (h' : TgIn (· < B) w0 v' ys) (hl : xs.length = ys.length) (W : World) (hb : Below B w0 W) (hB : B ≤ W.heap.size) :
    Calls Tryz.prog 230 #[gV ⟨n, ag, xs⟩ v, gV ⟨n, ag, ys⟩ v'] W fun e w' => e = .returned (.bool (xs == ys)) ∧ Below W.heap.size W w' := by
  obtain ⟨a, cap, b, off, rfl, hcap, hm, hlen, ha, hc⟩ := h
  obtain ⟨a', cap', b', off', rfl, hcap', hm', hlen', ha', hc'⟩ := h'
  have hn : xs.length ≤ 9223372036854775807 := by omega
  have hn' : ys.length ≤ 9223372036854775807 := by omega
  have HC := Lib.hid hc
  have HA := Lib.hid ha
  have HC' := Lib.hid hc'
  have HA' := Lib.hid ha'
  have HL := Lib.hid hl
  have HB := Lib.hid hb
  have f1 : (n != n) = false := by simp
  have f2 : (ag != ag) = false := by simp
  have f3 : ((xs.length : Int) != (ys.length : Int)) = false := by simp [hl]
  clear hc ha hc' ha' hlen hlen' hl hb
  have A0 := Lib.hid (alloc2_0 W (.cells #[.string ⟨n.toArray⟩, .int .i64 ag, .slice a xs.length cap] 82) (.cells #[.string ⟨n.toArray⟩, .int .i64 ag, .slice a' ys.length cap'] 82))
  have A1 := Lib.hid (alloc2_1 W (.cells #[.string ⟨n.toArray⟩, .int .i64 ag, .slice a xs.length cap] 82) (.cells #[.string ⟨n.toArray⟩, .int .i64 ag, .slice a' ys.length cap'] 82))
  have B0 := Lib.hid (((Below.refl W.heap.size W).alloc (Nat.le_refl _) (.cells #[.string ⟨n.toArray⟩, .int .i64 ag, .slice a xs.length cap] 82)).alloc (by simp) (.cells #[.string ⟨n.toArray⟩, .int .i64 ag, .slice a' ys.length cap'] 82))
  go_enter Tryz.func230, Tryz.ntmps230
  go_wp2
  generalize ((W.alloc (.cells #[.string ⟨n.toArray⟩, .int .i64 ag, .slice a xs.length cap] 82)).alloc (.cells #[.string ⟨n.toArray⟩, .int .i64 ag, .slice a' ys.length cap'] 82)) = w at *
  go_loopw [5] (fun i wr => ∃ j m : Nat, j ≤ xs.length ∧ i = .int .i64 j ∧ (xs == ys) = (xs.drop j == ys.drop j) ∧ wr = w.drewN m) (fun i _ => xs.length - (intOf i).toNat)
  case atStart => exact ⟨0, 0, by omega, rfl, rfl, rfl⟩
  case round =>
    obtain ⟨k, m, hk, rfl, hE, rfl⟩ := hrel
    have HE := Lib.hid hE
    clear hE
    obtain ⟨m0, m1, m2, mf⟩ := three_cells A0.out
    obtain ⟨p0, p1, p2, pf⟩ := three_cells A1.out
    have DF := Lib.hid (belDrew B0.out m)
    by_cases hlt : k < xs.length
    · have hlt' : k < ys.length := by have := HL.out; omega
      obtain ⟨ea, hlb⟩ := HA.out (by omega)
      obtain ⟨ea', hlb'⟩ := HA'.out (by omega)
      subst ea ea'
      have hW := HB.out.trans (B0.out.mono hB)
      obtain ⟨c0, c1, c2⟩ := HC.out k hlt
      obtain ⟨d0, d1, d2⟩ := HC'.out k hlt'
      have q0 := (hW.cell (p := ⟨b, off + k * 3, none⟩) hlb).trans c0
      have q1 := (hW.cell (p := ⟨b, off + k * 3 + 1, none⟩) hlb).trans c1
      have q2 := (hW.cell (p := ⟨b, off + k * 3 + 2, none⟩) hlb).trans c2
      have r0 := (hW.cell (p := ⟨b', off' + k * 3, none⟩) hlb').trans d0
      have r1 := (hW.cell (p := ⟨b', off' + k * 3 + 1, none⟩) hlb').trans d1
      have r2 := (hW.cell (p := ⟨b', off' + k * 3 + 2, none⟩) hlb').trans d2
      clear c0 c1 c2 d0 d1 d2 hW
      have D := Lib.hid (eqTs_drop k hlt hlt')
      generalize xs.getD k default = x at *
      generalize ys.getD k default = y at *
      obtain ⟨u1, p1', s1⟩ := x
      obtain ⟨u2, p2', s2⟩ := y
      simp only at q0 q1 q2 r0 r1 r2
      by_cases hxy : (⟨u1, p1', s1⟩ : Tg) = ⟨u2, p2', s2⟩
      · obtain ⟨rfl, rfl, rfl⟩ : u1 = u2 ∧ p1' = p2' ∧ s1 = s2 := by simpa using hxy
        clear hxy
        have D2 := Lib.hid (D.out.trans (by rw [beq_self_eq_true, Bool.true_and]))
        go_wp2
        go_quiet (fail)
        go_wp2
        go_roundw
        case rel => exact ⟨k + 1, m + nq, by omega, by go_num, by rw [HE.out, D2.out], by first | rfl | exact World.drewN_drewN _ _ _⟩
        case measure => simp [intOf]; omega
      · have e1 : ((⟨u1, p1', s1⟩ : Tg) == ⟨u2, p2', s2⟩) = false := by simpa using hxy
        have D2 := Lib.hid (D.out.trans (by rw [e1, Bool.false_and]))
        clear e1
        have hne : ¬ (u1 = u2 ∧ p1' = p2' ∧ s1 = s2) := by simpa using hxy
        clear hxy
        by_cases h1 : u1 = u2
        · subst h1
          by_cases h2 : p1' = p2'
          · subst h2
            have h3 : ¬ s1 = s2 := by simpa using hne
            have f5 : (s1 == s2) = false := by simpa using h3
            have f6 : decide (s1 = s2) = false := by simpa using h3
            clear hne
            go_wp2
            go_quiet (fail)
            go_wp2
            go_ret
            exact ⟨ret_b (by rw [HE.out, D2.out]), by rw [World.drewN_drewN]; exact belDrew B0.out _⟩
          · have f5 : (p1' == p2') = false := by simpa using h2
            have f6 : decide (p1' = p2') = false := by simpa using h2
            clear hne
            go_wp2
            go_quiet (fail)
            go_wp2
            go_ret
            exact ⟨ret_b (by rw [HE.out, D2.out]), by rw [World.drewN_drewN]; exact belDrew B0.out _⟩
        · have f5 : (u1 == u2) = false := by simpa using h1
          have f6 : decide (u1 = u2) = false := by simpa using h1
          clear hne
          go_wp2
          go_quiet (fail)
          go_wp2
          go_ret
          exact ⟨ret_b (by rw [HE.out, D2.out]), by rw [World.drewN_drewN]; exact belDrew B0.out _⟩
    · go_wp2
      go_ret
      obtain rfl : k = xs.length := by omega
      exact ⟨ret_b (by rw [HE.out, List.drop_length, HL.out, List.drop_length]; rfl), DF.out⟩
theorem same3_any (B : Nat) (w0 : World) (g g' : Gp) (v v' : Value) (h : TgIn (· < B) w0 v g.tgs) (h' : TgIn (· < B) w0 v' g'.tgs) (W : World) (hb : Below B w0 W) (hB : B ≤ W.heap.size) :
    Calls Tryz.prog 230 #[gV g v, gV g' v'] W fun e w' => e = .returned (.bool (same3 g g')) ∧ Below W.heap.size W w' := by
  by_cases hne : g.name = g'.name ∧ g.age = g'.age ∧ g.tgs.length = g'.tgs.length
  · obtain ⟨n, k, xs⟩ := g
    obtain ⟨n', k', xs'⟩ := g'
    simp only at *
    obtain ⟨rfl, rfl, hl⟩ := hne
    have e : same3 ⟨n, k, xs⟩ ⟨n, k, xs'⟩ = (xs == xs') := by simp [same3]
    rw [e]
    exact same3_yes B w0 n k xs xs' v v' h h' hl W hb hB
  · exact same3_no g g' v v' _ w0 h h' W hne
end Go.Proofs.YtmaknkbmilcanaaGreatDoor.Gr
namespace Go.Proofs.YtmaknkbmilcanaaGreatDoor.Qu
open Go.RowKit
open Go.Proofs.YtmaknkbmilcanaaGreatDoor.Tx
theorem RpIn.fit {S : Nat → Prop} {w : World} {v : Value} {xs : List Rep} (h : RpIn S w v xs) : ∀ i, i < xs.length → Fit (xs.getD i default) := by
  obtain ⟨_, _, _, _, _, _, _, h, _⟩ := h; exact h
abbrev iqO (iv rv : Value) : Obj := .cells #[iv, rv] 130
end Go.Proofs.YtmaknkbmilcanaaGreatDoor.Qu
namespace Go.Proofs.YtmaknkbmilcanaaGreatDoor.Qu
open Go.RowKit
open Go.Proofs.YtmaknkbmilcanaaGreatDoor.Tx
theorem eqR_drop {xs ys : List Rep} (k : Nat) (hx : k < xs.length) (hy : k < ys.length) : (xs.drop k == ys.drop k) = ((xs.getD k default == ys.getD k default) && (xs.drop (k + 1) == ys.drop (k + 1))) := by
  rw [List.drop_eq_getElem_cons hx, List.drop_eq_getElem_cons hy, List.cons_beq_cons]
  simp [hx, hy]
theorem eqR_len {xs ys : List Rep} (h : xs.length ≠ ys.length) : (xs == ys) = false := by
  simp only [beq_eq_false_iff_ne, ne_eq]; intro e; exact h (by rw [e])
def samB (a b : Q) : Bool := (a.items == b.items) && (a.recent == b.recent)
theorem samB_eq {a b : Q} (h : samB a b = true) : a = b := by
  obtain ⟨xs, us⟩ := a
  obtain ⟨ys, vs⟩ := b
  simp only [samB, Bool.and_eq_true, beq_iff_eq] at h
  obtain ⟨rfl, rfl⟩ := h
  rfl
def saQ (a b : Q) : Bool := quB a && samB a b
set_option maxRecDepth 100000 in
set_option maxHeartbeats 2000000 in
theorem slEqR_any (S1 S2 : Nat → Prop) (xs ys : List Rep) (v u : Value) (w : World) (h1 : RpIn S1 w v xs) (h2 : RpIn S2 w u ys) :
    Calls Tryz.prog 234 #[v, u] w fun e w' => e = .returned (.bool (xs == ys)) ∧ ∃ n, w' = w.drewN n := by
  obtain ⟨a, cap, b, off, rfl, hcap, hm, -, ha, hc⟩ := h1
  obtain ⟨a', cap', b', off', rfl, hcap', hm', -, ha', hc'⟩ := h2
  have hn : xs.length ≤ 9223372036854775807 := by omega
  have hn' : ys.length ≤ 9223372036854775807 := by omega
  have HC := Lib.hid hc
  have HA := Lib.hid ha
  have HC' := Lib.hid hc'
  have HA' := Lib.hid ha'
  clear hc ha hc' ha'
  by_cases hl : xs.length = ys.length
  · have HL := Lib.hid hl
    have g1 : ((xs.length : Int) != (ys.length : Int)) = false := by simp [hl]
    clear hl
    go_enter Tryz.func234, Tryz.ntmps234
    go_wp2
    go_loopw [13] (fun i wr => ∃ k n : Nat, k ≤ xs.length ∧ i = .int .i64 k ∧ (xs == ys) = (xs.drop k == ys.drop k) ∧ wr = w.drewN n) (fun i _ => xs.length - (intOf i).toNat)
    case atStart => exact ⟨0, 0, by omega, rfl, rfl, rfl⟩
    case round =>
      obtain ⟨k, n, hk, rfl, hE, rfl⟩ := hrel
      have HE := Lib.hid hE
      clear hE
      by_cases hlt : k < xs.length
      · have hlt' : k < ys.length := by have := HL.out; omega
        obtain ⟨ea, _⟩ := HA.out (by omega)
        obtain ⟨ea', _⟩ := HA'.out (by omega)
        subst ea ea'
        obtain ⟨q0, q1, q2, q3⟩ := HC.out k hlt
        obtain ⟨r0, r1, r2, r3⟩ := HC'.out k hlt'
        have D := Lib.hid (eqR_drop k hlt hlt')
        generalize xs.getD k default = x at *
        generalize ys.getD k default = y at *
        obtain ⟨i1, b1, n1, t1⟩ := x
        obtain ⟨i2, b2, n2, t2⟩ := y
        simp only at q0 q1 q2 q3 r0 r1 r2 r3
        by_cases hxy : (⟨i1, b1, n1, t1⟩ : Rep) = ⟨i2, b2, n2, t2⟩
        · obtain ⟨rfl, rfl, rfl, rfl⟩ : i1 = i2 ∧ b1 = b2 ∧ n1 = n2 ∧ t1 = t2 := by simpa using hxy
          clear hxy
          have D2 := Lib.hid (D.out.trans (by rw [beq_self_eq_true, Bool.true_and]))
          go_wp2
          go_quiet (fail)
          go_wp2
          go_roundw
          case rel => exact ⟨k + 1, n + nq, by omega, by go_num, by rw [HE.out, D2.out], by first | rfl | exact World.drewN_drewN _ _ _⟩
          case measure => simp [intOf]; omega
        · have e1 : ((⟨i1, b1, n1, t1⟩ : Rep) == ⟨i2, b2, n2, t2⟩) = false := by simpa using hxy
          have D2 := Lib.hid (D.out.trans (by rw [e1, Bool.false_and]))
          clear e1
          have hne : ¬ (i1 = i2 ∧ b1 = b2 ∧ n1 = n2 ∧ t1 = t2) := by simpa using hxy
          clear hxy
          by_cases h1 : i1 = i2
          · subst h1
            by_cases h2 : b1 = b2
            · subst h2
              by_cases h3 : n1 = n2
              · subst h3
                have h4 : ¬ t1 = t2 := by simpa using hne
                have f5 : (t1 == t2) = false := by simpa using h4
                have f6 : decide (t1 = t2) = false := by simpa using h4
                clear hne
                go_wp2
                go_quiet (fail)
                go_wp2
                go_ret
                exact ⟨ret_b (by rw [HE.out, D2.out]), n + nq, World.drewN_drewN _ _ _⟩
              · have f5 : (n1 == n2) = false := by simpa using h3
                have f6 : decide (n1 = n2) = false := by simpa using h3
                clear hne
                go_wp2
                go_quiet (fail)
                go_wp2
                go_ret
                exact ⟨ret_b (by rw [HE.out, D2.out]), n + nq, World.drewN_drewN _ _ _⟩
            · have f5 : (b1 == b2) = false := by simpa using h2
              have f6 : decide (b1 = b2) = false := by simpa using h2
              clear hne
              go_wp2
              go_quiet (fail)
              go_wp2
              go_ret
              exact ⟨ret_b (by rw [HE.out, D2.out]), n + nq, World.drewN_drewN _ _ _⟩
          · have f5 : (i1 == i2) = false := by simpa using h1
            have f6 : decide (i1 = i2) = false := by simpa using h1
            clear hne
            go_wp2
            go_quiet (fail)
            go_wp2
            go_ret
            exact ⟨ret_b (by rw [HE.out, D2.out]), n + nq, World.drewN_drewN _ _ _⟩
      · go_wp2
        go_ret
        obtain rfl : k = xs.length := by omega
        exact ⟨ret_b (by rw [HE.out, List.drop_length, HL.out, List.drop_length]; rfl), n, rfl⟩
  · have E := Lib.hid (eqR_len hl)
    have g1 : ((xs.length : Int) != (ys.length : Int)) = true := by simp only [bne_iff_ne, ne_eq]; omega
    clear hl
    go_enter Tryz.func234, Tryz.ntmps234
    go_wp2
    go_ret
    exact ⟨ret_b E.out.symm, 0, rfl⟩
set_option maxRecDepth 100000 in
set_option maxHeartbeats 4000000 in
theorem l06Same_any (B : Nat) (w0 : World) (p q : Q) (iv rv iv' rv' : Value) (hi : RpIn (· < B) w0 iv p.items) (hr : TxtsIn (· < B) w0 rv p.recent) (hi' : RpIn (· < B) w0 iv' q.items) (hr' : TxtsIn (· < B) w0 rv' q.recent) (W : World) (hb : Below B w0 W) (hB : B ≤ W.heap.size) :
    Calls Tryz.prog 231 #[qV iv rv, qV iv' rv'] W fun e w' => e = .returned (.bool (samB p q)) ∧ Below W.heap.size W w' := by
  obtain ⟨xs, us⟩ := p
  obtain ⟨ys, vs⟩ := q
  simp only at hi hr hi' hr'
  have HE := Lib.hid (fun (W' : World) (hb' : Below B w0 W') => sameT_any (· < B) (· < B) us vs rv rv' W' (hr.blw hb') (hr'.blw hb'))
  obtain ⟨a, cap, b, off, rfl, hcap, hm, -, ha, hc⟩ := hi
  obtain ⟨a', cap', b', off', rfl, hcap', hm', -, ha', hc'⟩ := hi'
  obtain ⟨a2, l2, c2, rfl⟩ := hr.slice
  obtain ⟨a3, l3, c3, rfl⟩ := hr'.slice
  have hn : xs.length ≤ 9223372036854775807 := by omega
  have hn' : ys.length ≤ 9223372036854775807 := by omega
  have HC := Lib.hid hc
  have HA := Lib.hid ha
  have HC' := Lib.hid hc'
  have HA' := Lib.hid ha'
  have HB := Lib.hid hb
  have A0 := Lib.hid ((Hd.new W (iqO (.slice a xs.length cap) (.slice a2 l2 c2))).al (iqO (.slice a' ys.length cap') (.slice a3 l3 c3)))
  have A1 := Lib.hid (show Hd ((W.alloc (iqO (.slice a xs.length cap) (.slice a2 l2 c2))).alloc (iqO (.slice a' ys.length cap') (.slice a3 l3 c3))) (W.heap.size + 1) (iqO (.slice a' ys.length cap') (.slice a3 l3 c3)) by
    have := Hd.new (W.alloc (iqO (.slice a xs.length cap) (.slice a2 l2 c2))) (iqO (.slice a' ys.length cap') (.slice a3 l3 c3))
    simpa using this)
  have B0 := Lib.hid (((Below.refl W.heap.size W).alloc (Nat.le_refl _) (iqO (.slice a xs.length cap) (.slice a2 l2 c2))).alloc (by simp) (iqO (.slice a' ys.length cap') (.slice a3 l3 c3)))
  clear hc ha hc' ha' hb hr hr'
  unfold samB
  simp only
  by_cases hl : xs.length = ys.length
  · have HL := Lib.hid hl
    have g1 : ((xs.length : Int) != (ys.length : Int)) = false := by simp [hl]
    clear hl
    obtain ⟨r, hr0⟩ : ∃ r, (us == vs) = r := ⟨_, rfl⟩
    rw [hr0] at HE ⊢
    clear hr0
    go_enter Tryz.func231, Tryz.ntmps231
    go_wp2_with fail
    simp only [iqO] at A0 A1 B0
    refine (HE.out _ (HB.out.trans (B0.out.mono hB))).mono ?_
    rintro e w1 ⟨rfl, nn, rfl⟩
    generalize ((W.alloc (.cells #[.slice a xs.length cap, .slice a2 l2 c2] 130)).alloc (.cells #[.slice a' ys.length cap', .slice a3 l3 c3] 130)) = w at *
    cases r with
    | false =>
      have BF := Lib.hid (belDrew B0.out nn)
      go_wp2
      go_ret
      exact ⟨ret_b (by rw [Bool.and_false]), BF.out⟩
    | true =>
      go_wp2
      go_loopw [5] (fun i wr => ∃ j m : Nat, j ≤ xs.length ∧ i = .int .i64 j ∧ (xs == ys) = (xs.drop j == ys.drop j) ∧ wr = w.drewN m) (fun i _ => xs.length - (intOf i).toNat)
      case atStart => exact ⟨0, nn, by omega, rfl, rfl, rfl⟩
      case round =>
        obtain ⟨k, m, hk, rfl, hE, rfl⟩ := hrel
        have HE2 := Lib.hid hE
        clear hE
        obtain ⟨m0, m1, -⟩ := A0.out.two
        obtain ⟨p0, p1, -⟩ := A1.out.two
        have DF := Lib.hid (belDrew B0.out m)
        by_cases hlt : k < xs.length
        · have hlt' : k < ys.length := by have := HL.out; omega
          obtain ⟨ea, hlb⟩ := HA.out (by omega)
          obtain ⟨ea', hlb'⟩ := HA'.out (by omega)
          subst ea ea'
          have hW := HB.out.trans (B0.out.mono hB)
          obtain ⟨c0, c1, c2, c3⟩ := HC.out k hlt
          obtain ⟨d0, d1, d2, d3⟩ := HC'.out k hlt'
          have q0 := (hW.cell (p := ⟨b, off + k * 4, none⟩) hlb).trans c0
          have q1 := (hW.cell (p := ⟨b, off + k * 4 + 1, none⟩) hlb).trans c1
          have q2 := (hW.cell (p := ⟨b, off + k * 4 + 2, none⟩) hlb).trans c2
          have q3 := (hW.cell (p := ⟨b, off + k * 4 + 3, none⟩) hlb).trans c3
          have r0 := (hW.cell (p := ⟨b', off' + k * 4, none⟩) hlb').trans d0
          have r1 := (hW.cell (p := ⟨b', off' + k * 4 + 1, none⟩) hlb').trans d1
          have r2 := (hW.cell (p := ⟨b', off' + k * 4 + 2, none⟩) hlb').trans d2
          have r3 := (hW.cell (p := ⟨b', off' + k * 4 + 3, none⟩) hlb').trans d3
          clear c0 c1 c2 c3 d0 d1 d2 d3 hW
          have D := Lib.hid (eqR_drop k hlt hlt')
          generalize xs.getD k default = x at *
          generalize ys.getD k default = y at *
          obtain ⟨i1, b1, n1, t1⟩ := x
          obtain ⟨i2, b2, n2, t2⟩ := y
          simp only at q0 q1 q2 q3 r0 r1 r2 r3
          by_cases hxy : (⟨i1, b1, n1, t1⟩ : Rep) = ⟨i2, b2, n2, t2⟩
          · obtain ⟨rfl, rfl, rfl, rfl⟩ : i1 = i2 ∧ b1 = b2 ∧ n1 = n2 ∧ t1 = t2 := by simpa using hxy
            clear hxy
            have D2 := Lib.hid (D.out.trans (by rw [beq_self_eq_true, Bool.true_and]))
            go_wp2
            go_quiet (fail)
            go_wp2
            go_roundw
            case rel => exact ⟨k + 1, m + nq, by omega, by go_num, by rw [HE2.out, D2.out], by first | rfl | exact World.drewN_drewN _ _ _⟩
            case measure => simp [intOf]; omega
          · have e1 : ((⟨i1, b1, n1, t1⟩ : Rep) == ⟨i2, b2, n2, t2⟩) = false := by simpa using hxy
            have D2 := Lib.hid (D.out.trans (by rw [e1, Bool.false_and]))
            clear e1
            have hne : ¬ (i1 = i2 ∧ b1 = b2 ∧ n1 = n2 ∧ t1 = t2) := by simpa using hxy
            clear hxy
            by_cases h1 : i1 = i2
            · subst h1
              by_cases h2 : b1 = b2
              · subst h2
                by_cases h3 : n1 = n2
                · subst h3
                  have h4 : ¬ t1 = t2 := by simpa using hne
                  have f5 : (t1 == t2) = false := by simpa using h4
                  have f6 : decide (t1 = t2) = false := by simpa using h4
                  clear hne
                  go_wp2
                  go_quiet (fail)
                  go_wp2
                  go_ret
                  exact ⟨ret_b (by rw [Bool.and_true, HE2.out, D2.out]), by rw [World.drewN_drewN]; exact belDrew B0.out _⟩
                · have f5 : (n1 == n2) = false := by simpa using h3
                  have f6 : decide (n1 = n2) = false := by simpa using h3
                  clear hne
                  go_wp2
                  go_quiet (fail)
                  go_wp2
                  go_ret
                  exact ⟨ret_b (by rw [Bool.and_true, HE2.out, D2.out]), by rw [World.drewN_drewN]; exact belDrew B0.out _⟩
              · have f5 : (b1 == b2) = false := by simpa using h2
                have f6 : decide (b1 = b2) = false := by simpa using h2
                clear hne
                go_wp2
                go_quiet (fail)
                go_wp2
                go_ret
                exact ⟨ret_b (by rw [Bool.and_true, HE2.out, D2.out]), by rw [World.drewN_drewN]; exact belDrew B0.out _⟩
            · have f5 : (i1 == i2) = false := by simpa using h1
              have f6 : decide (i1 = i2) = false := by simpa using h1
              clear hne
              go_wp2
              go_quiet (fail)
              go_wp2
              go_ret
              exact ⟨ret_b (by rw [Bool.and_true, HE2.out, D2.out]), by rw [World.drewN_drewN]; exact belDrew B0.out _⟩
        · go_wp2
          go_ret
          obtain rfl : k = xs.length := by omega
          exact ⟨ret_b (by rw [Bool.and_true, HE2.out, List.drop_length, HL.out, List.drop_length]; rfl), DF.out⟩
  · have E := Lib.hid (show ((xs == ys) && (us == vs)) = false by rw [eqR_len hl, Bool.false_and])
    have g1 : ((xs.length : Int) != (ys.length : Int)) = true := by simp only [bne_iff_ne, ne_eq]; omega
    clear hl HE
    go_enter Tryz.func231, Tryz.ntmps231
    go_wp2
    go_ret
    exact ⟨ret_b E.out.symm, B0.out⟩
set_option maxRecDepth 100000 in
set_option maxHeartbeats 2000000 in
theorem sameI_any (B : Nat) (w0 : World) (p q : Q) (iv rv iv' rv' : Value) (hi : RpIn (· < B) w0 iv p.items) (hr : TxtsIn (· < B) w0 rv p.recent) (hi' : RpIn (· < B) w0 iv' q.items) (hr' : TxtsIn (· < B) w0 rv' q.recent) (W : World) (hb : Below B w0 W) (hB : B ≤ W.heap.size) :
    Calls Tryz.prog 158 #[qV iv rv, qV iv' rv'] W fun e w' => e = .returned (.bool (saQ p q)) ∧ Below W.heap.size W w' := by
  have HO := Lib.hid (fun (W' : World) h1 h2 => quI_any B w0 p iv rv hi hr W' h1 h2)
  have HE1 := Lib.hid (fun (W' : World) (hb' : Below B w0 W') => slEqR_any (· < B) (· < B) p.items q.items iv iv' W' (hi.blw hb') (hi'.blw hb'))
  have HE2 := Lib.hid (fun (W' : World) (hb' : Below B w0 W') => sEqual_any (· < B) (· < B) p.recent q.recent rv rv' W' (hr.blw hb') (hr'.blw hb'))
  obtain ⟨a1, l1, c1, rfl⟩ := hi.slice
  obtain ⟨a2, l2, c2, rfl⟩ := hr.slice
  obtain ⟨a3, l3, c3, rfl⟩ := hi'.slice
  obtain ⟨a4, l4, c4, rfl⟩ := hr'.slice
  have HB := Lib.hid hb
  clear hb hi hr hi' hr'
  unfold saQ samB
  generalize quB p = r at *
  generalize (p.items == q.items) = r1 at *
  generalize (p.recent == q.recent) = r2 at *
  have A0 := Lib.hid ((Hd.new W (iqO (.slice a1 l1 c1) (.slice a2 l2 c2))).al (iqO (.slice a3 l3 c3) (.slice a4 l4 c4)))
  have A1 := Lib.hid (show Hd ((W.alloc (iqO (.slice a1 l1 c1) (.slice a2 l2 c2))).alloc (iqO (.slice a3 l3 c3) (.slice a4 l4 c4))) (W.heap.size + 1) (iqO (.slice a3 l3 c3) (.slice a4 l4 c4)) by
    have := Hd.new (W.alloc (iqO (.slice a1 l1 c1) (.slice a2 l2 c2))) (iqO (.slice a3 l3 c3) (.slice a4 l4 c4))
    simpa using this)
  have B0 := Lib.hid (((Below.refl W.heap.size W).alloc (Nat.le_refl _) (iqO (.slice a1 l1 c1) (.slice a2 l2 c2))).alloc (by simp) (iqO (.slice a3 l3 c3) (.slice a4 l4 c4)))
  go_enter Tryz.func158, Tryz.ntmps158
  go_wp2_with fail
  refine (HO.out _ (HB.out.trans (B0.out.mono hB)) (by simp; omega)).mono ?_
  rintro e w1 ⟨rfl, hb1⟩
  obtain ⟨m0, m1, -⟩ := (A0.out.blw hb1).two
  obtain ⟨p0, p1, -⟩ := (A1.out.blw hb1).two
  have D1 := Lib.hid (B0.out.trans (hb1.mono (by simp; omega)))
  clear hb1
  cases r with
  | false =>
    go_wp2
    go_ret
    exact ⟨rfl, D1.out⟩
  | true =>
    go_wp2_with fail
    refine (HE1.out w1 (HB.out.trans (D1.out.mono hB))).mono ?_
    rintro e w2 ⟨rfl, nn, rfl⟩
    have D2 := Lib.hid (belDrew D1.out nn)
    cases r1 with
    | false =>
      go_wp2
      go_ret
      exact ⟨rfl, D2.out⟩
    | true =>
      go_wp2_with fail
      refine (HE2.out _ (HB.out.trans (D2.out.mono hB))).mono ?_
      rintro e w3 ⟨rfl, n2, rfl⟩
      have D3 := Lib.hid (belDrew D2.out n2)
      go_wp2
      go_ret
      exact ⟨rfl, by rw [← World.drewN_drewN]; exact D3.out⟩
end Go.Proofs.YtmaknkbmilcanaaGreatDoor.Qu
namespace Go.Proofs.YtmaknkbmilcanaaGreatDoor.Pi
open Go.RowKit
open Go.Proofs.YtmaknkbmilcanaaGreatDoor.Qu (IntsIn)
open Go.Proofs.YtmaknkbmilcanaaGreatDoor.Pe (Pr PrIn)
theorem sp_drop {α : Type} [BEq α] [LawfulBEq α] [Inhabited α] {xs ys : List α} (k : Nat) (hx : k < xs.length) (hy : k < ys.length) : (xs.drop k == ys.drop k) = ((xs.getD k default == ys.getD k default) && (xs.drop (k + 1) == ys.drop (k + 1))) := by
  rw [List.drop_eq_getElem_cons hx, List.drop_eq_getElem_cons hy, List.cons_beq_cons]
  simp [hx, hy]
theorem sp_len {α : Type} [BEq α] [LawfulBEq α] {xs ys : List α} (h : xs.length ≠ ys.length) : (xs == ys) = false := by
  simp only [beq_eq_false_iff_ne, ne_eq]; intro e; exact h (by rw [e])
theorem spI_drop {xs ys : List Int} (k : Nat) (hx : k < xs.length) (hy : k < ys.length) : (xs.drop k == ys.drop k) = ((xs.getD k 0 == ys.getD k 0) && (xs.drop (k + 1) == ys.drop (k + 1))) := by
  rw [List.drop_eq_getElem_cons hx, List.drop_eq_getElem_cons hy, List.cons_beq_cons]
  simp [hx, hy]
set_option maxRecDepth 100000 in
set_option maxHeartbeats 2000000 in
theorem slEqI_any (S1 S2 : Nat → Prop) (xs ys : List Int) (v u : Value) (w : World) (h1 : IntsIn S1 w v xs) (h2 : IntsIn S2 w u ys) :
    Calls Tryz.prog 89 #[v, u] w fun e w' => e = .returned (.bool (xs == ys)) ∧ ∃ n, w' = w.drewN n := by
  obtain ⟨a, cap, b, off, rfl, hcap, hm, ha, hc⟩ := h1
  obtain ⟨a', cap', b', off', rfl, hcap', hm', ha', hc'⟩ := h2
  have hn : xs.length ≤ 9223372036854775807 := by omega
  have hn' : ys.length ≤ 9223372036854775807 := by omega
  have HC := Lib.hid hc
  have HA := Lib.hid ha
  have HC' := Lib.hid hc'
  have HA' := Lib.hid ha'
  clear hc ha hc' ha'
  by_cases hl : xs.length = ys.length
  · have HL := Lib.hid hl
    have g1 : ((xs.length : Int) != (ys.length : Int)) = false := by simp [hl]
    clear hl
    go_enter Tryz.func89, Tryz.ntmps89
    go_wp2
    go_loopw [13] (fun i wr => ∃ k n : Nat, k ≤ xs.length ∧ i = .int .i64 k ∧ (xs == ys) = (xs.drop k == ys.drop k) ∧ wr = w.drewN n) (fun i _ => xs.length - (intOf i).toNat)
    case atStart => exact ⟨0, 0, by omega, rfl, rfl, rfl⟩
    case round =>
      obtain ⟨k, n, hk, rfl, hE, rfl⟩ := hrel
      have HE := Lib.hid hE
      clear hE
      by_cases hlt : k < xs.length
      · have hlt' : k < ys.length := by have := HL.out; omega
        obtain ⟨ea, _⟩ := HA.out (by omega)
        obtain ⟨ea', _⟩ := HA'.out (by omega)
        subst ea ea'
        have q0 := HC.out k hlt
        have r0 := HC'.out k hlt'
        have D := Lib.hid (spI_drop k hlt hlt')
        generalize xs.getD k 0 = x at *
        generalize ys.getD k 0 = y at *
        by_cases hxy : x = y
        · subst hxy
          have D2 := Lib.hid (D.out.trans (by rw [beq_self_eq_true, Bool.true_and]))
          go_wp2
          go_quiet (fail)
          go_wp2
          go_roundw
          case rel => exact ⟨k + 1, n + nq, by omega, by go_num, by rw [HE.out, D2.out], by first | rfl | exact World.drewN_drewN _ _ _⟩
          case measure => simp [intOf]; omega
        · have e1 : (x == y) = false := by simpa using hxy
          have D2 := Lib.hid (D.out.trans (by rw [e1, Bool.false_and]))
          have f6 : decide (x = y) = false := by simpa using hxy
          clear hxy
          go_wp2
          go_quiet (fail)
          go_wp2
          go_ret
          exact ⟨Tx.ret_b (by rw [HE.out, D2.out]), n + nq, World.drewN_drewN _ _ _⟩
      · go_wp2
        go_ret
        obtain rfl : k = xs.length := by omega
        exact ⟨Tx.ret_b (by rw [HE.out, List.drop_length, HL.out, List.drop_length]; rfl), n, rfl⟩
  · have E := Lib.hid (sp_len hl)
    have g1 : ((xs.length : Int) != (ys.length : Int)) = true := by simp only [bne_iff_ne, ne_eq]; omega
    clear hl
    go_enter Tryz.func89, Tryz.ntmps89
    go_wp2
    go_ret
    exact ⟨Tx.ret_b E.out.symm, 0, rfl⟩
set_option maxRecDepth 100000 in
set_option maxHeartbeats 2000000 in
theorem slEqEn_any (S1 S2 : Nat → Prop) (xs ys : List En) (v u : Value) (w : World) (h1 : EnIn S1 w v xs) (h2 : EnIn S2 w u ys) :
    Calls Tryz.prog 94 #[v, u] w fun e w' => e = .returned (.bool (xs == ys)) ∧ ∃ n, w' = w.drewN n := by
  obtain ⟨a, cap, b, off, rfl, hcap, hm, -, ha, hc⟩ := h1
  obtain ⟨a', cap', b', off', rfl, hcap', hm', -, ha', hc'⟩ := h2
  have hn : xs.length ≤ 9223372036854775807 := by omega
  have hn' : ys.length ≤ 9223372036854775807 := by omega
  have HC := Lib.hid hc
  have HA := Lib.hid ha
  have HC' := Lib.hid hc'
  have HA' := Lib.hid ha'
  clear hc ha hc' ha'
  by_cases hl : xs.length = ys.length
  · have HL := Lib.hid hl
    have g1 : ((xs.length : Int) != (ys.length : Int)) = false := by simp [hl]
    clear hl
    go_enter Tryz.func94, Tryz.ntmps94
    go_wp2
    go_loopw [13] (fun i wr => ∃ k n : Nat, k ≤ xs.length ∧ i = .int .i64 k ∧ (xs == ys) = (xs.drop k == ys.drop k) ∧ wr = w.drewN n) (fun i _ => xs.length - (intOf i).toNat)
    case atStart => exact ⟨0, 0, by omega, rfl, rfl, rfl⟩
    case round =>
      obtain ⟨k, n, hk, rfl, hE, rfl⟩ := hrel
      have HE := Lib.hid hE
      clear hE
      by_cases hlt : k < xs.length
      · have hlt' : k < ys.length := by have := HL.out; omega
        obtain ⟨ea, _⟩ := HA.out (by omega)
        obtain ⟨ea', _⟩ := HA'.out (by omega)
        subst ea ea'
        obtain ⟨q0, q1, q2⟩ := HC.out k hlt
        obtain ⟨r0, r1, r2⟩ := HC'.out k hlt'
        have D := Lib.hid (sp_drop k hlt hlt')
        generalize xs.getD k default = x at *
        generalize ys.getD k default = y at *
        by_cases hxy : x = y
        · subst hxy
          have D2 := Lib.hid (D.out.trans (by rw [beq_self_eq_true, Bool.true_and]))
          go_wp2
          go_quiet (fail)
          go_wp2
          go_roundw
          case rel => exact ⟨k + 1, n + nq, by omega, by go_num, by rw [HE.out, D2.out], by first | rfl | exact World.drewN_drewN _ _ _⟩
          case measure => simp [intOf]; omega
        · have e1 : (x == y) = false := by simpa using hxy
          have D2 := Lib.hid (D.out.trans (by rw [e1, Bool.false_and]))
          clear e1
          obtain ⟨x0, x1, x2⟩ := x
          obtain ⟨y0, y1, y2⟩ := y
          simp only at q0 r0 q1 r1 q2 r2
          have hne : ¬ (x0 = y0 ∧ x1 = y1 ∧ x2 = y2) := by simpa using hxy
          clear hxy
          by_cases h0 : x0 = y0
          · subst h0
            by_cases h1 : x1 = y1
            · subst h1
              have h2 : ¬ x2 = y2 := by simpa using hne
              have f5 : (x2 == y2) = false := by simpa using h2
              have f6 : decide (x2 = y2) = false := by simpa using h2
              clear hne
              go_wp2
              go_quiet (fail)
              go_wp2
              go_ret
              exact ⟨Tx.ret_b (by rw [HE.out, D2.out]), n + nq, World.drewN_drewN _ _ _⟩
            · have f5 : (x1 == y1) = false := by simpa using h1
              have f6 : decide (x1 = y1) = false := by simpa using h1
              clear hne
              go_wp2
              go_quiet (fail)
              go_wp2
              go_ret
              exact ⟨Tx.ret_b (by rw [HE.out, D2.out]), n + nq, World.drewN_drewN _ _ _⟩
          · have f5 : (x0 == y0) = false := by simpa using h0
            have f6 : decide (x0 = y0) = false := by simpa using h0
            clear hne
            go_wp2
            go_quiet (fail)
            go_wp2
            go_ret
            exact ⟨Tx.ret_b (by rw [HE.out, D2.out]), n + nq, World.drewN_drewN _ _ _⟩
      · go_wp2
        go_ret
        obtain rfl : k = xs.length := by omega
        exact ⟨Tx.ret_b (by rw [HE.out, List.drop_length, HL.out, List.drop_length]; rfl), n, rfl⟩
  · have E := Lib.hid (sp_len hl)
    have g1 : ((xs.length : Int) != (ys.length : Int)) = true := by simp only [bne_iff_ne, ne_eq]; omega
    clear hl
    go_enter Tryz.func94, Tryz.ntmps94
    go_wp2
    go_ret
    exact ⟨Tx.ret_b E.out.symm, 0, rfl⟩
set_option maxRecDepth 100000 in
set_option maxHeartbeats 2000000 in
theorem slEqPr_any (S1 S2 : Nat → Prop) (xs ys : List Pr) (v u : Value) (w : World) (h1 : PrIn S1 w v xs) (h2 : PrIn S2 w u ys) :
    Calls Tryz.prog 157 #[v, u] w fun e w' => e = .returned (.bool (xs == ys)) ∧ ∃ n, w' = w.drewN n := by
  obtain ⟨a, cap, b, off, rfl, hcap, hm, -, ha, hc⟩ := h1
  obtain ⟨a', cap', b', off', rfl, hcap', hm', -, ha', hc'⟩ := h2
  have hn : xs.length ≤ 9223372036854775807 := by omega
  have hn' : ys.length ≤ 9223372036854775807 := by omega
  have HC := Lib.hid hc
  have HA := Lib.hid ha
  have HC' := Lib.hid hc'
  have HA' := Lib.hid ha'
  clear hc ha hc' ha'
  by_cases hl : xs.length = ys.length
  · have HL := Lib.hid hl
    have g1 : ((xs.length : Int) != (ys.length : Int)) = false := by simp [hl]
    clear hl
    go_enter Tryz.func157, Tryz.ntmps157
    go_wp2
    go_loopw [13] (fun i wr => ∃ k n : Nat, k ≤ xs.length ∧ i = .int .i64 k ∧ (xs == ys) = (xs.drop k == ys.drop k) ∧ wr = w.drewN n) (fun i _ => xs.length - (intOf i).toNat)
    case atStart => exact ⟨0, 0, by omega, rfl, rfl, rfl⟩
    case round =>
      obtain ⟨k, n, hk, rfl, hE, rfl⟩ := hrel
      have HE := Lib.hid hE
      clear hE
      by_cases hlt : k < xs.length
      · have hlt' : k < ys.length := by have := HL.out; omega
        obtain ⟨ea, _⟩ := HA.out (by omega)
        obtain ⟨ea', _⟩ := HA'.out (by omega)
        subst ea ea'
        obtain ⟨q0, q1, q2, q3, q4, q5⟩ := HC.out k hlt
        obtain ⟨r0, r1, r2, r3, r4, r5⟩ := HC'.out k hlt'
        have D := Lib.hid (sp_drop k hlt hlt')
        generalize xs.getD k default = x at *
        generalize ys.getD k default = y at *
        by_cases hxy : x = y
        · subst hxy
          have D2 := Lib.hid (D.out.trans (by rw [beq_self_eq_true, Bool.true_and]))
          go_wp2
          go_quiet (fail)
          go_wp2
          go_roundw
          case rel => exact ⟨k + 1, n + nq, by omega, by go_num, by rw [HE.out, D2.out], by first | rfl | exact World.drewN_drewN _ _ _⟩
          case measure => simp [intOf]; omega
        · have e1 : (x == y) = false := by simpa using hxy
          have D2 := Lib.hid (D.out.trans (by rw [e1, Bool.false_and]))
          clear e1
          obtain ⟨x0, x1, x2, x3, x4, x5⟩ := x
          obtain ⟨y0, y1, y2, y3, y4, y5⟩ := y
          simp only at q0 r0 q1 r1 q2 r2 q3 r3 q4 r4 q5 r5
          have hne : ¬ (x0 = y0 ∧ x1 = y1 ∧ x2 = y2 ∧ x3 = y3 ∧ x4 = y4 ∧ x5 = y5) := by simpa using hxy
          clear hxy
          by_cases h0 : x0 = y0
          · subst h0
            by_cases h1 : x1 = y1
            · subst h1
              by_cases h2 : x2 = y2
              · subst h2
                by_cases h3 : x3 = y3
                · subst h3
                  by_cases h4 : x4 = y4
                  · subst h4
                    have h5 : ¬ x5 = y5 := by simpa using hne
                    have f5 : (x5 == y5) = false := by simpa using h5
                    have f6 : decide (x5 = y5) = false := by simpa using h5
                    clear hne
                    go_wp2
                    go_quiet (fail)
                    go_wp2
                    go_ret
                    exact ⟨Tx.ret_b (by rw [HE.out, D2.out]), n + nq, World.drewN_drewN _ _ _⟩
                  · have f5 : (x4 == y4) = false := by simpa using h4
                    have f6 : decide (x4 = y4) = false := by simpa using h4
                    clear hne
                    go_wp2
                    go_quiet (fail)
                    go_wp2
                    go_ret
                    exact ⟨Tx.ret_b (by rw [HE.out, D2.out]), n + nq, World.drewN_drewN _ _ _⟩
                · have f5 : (x3 == y3) = false := by simpa using h3
                  have f6 : decide (x3 = y3) = false := by simpa using h3
                  clear hne
                  go_wp2
                  go_quiet (fail)
                  go_wp2
                  go_ret
                  exact ⟨Tx.ret_b (by rw [HE.out, D2.out]), n + nq, World.drewN_drewN _ _ _⟩
              · have f5 : (x2 == y2) = false := by simpa using h2
                have f6 : decide (x2 = y2) = false := by simpa using h2
                clear hne
                go_wp2
                go_quiet (fail)
                go_wp2
                go_ret
                exact ⟨Tx.ret_b (by rw [HE.out, D2.out]), n + nq, World.drewN_drewN _ _ _⟩
            · have f5 : (x1 == y1) = false := by simpa using h1
              have f6 : decide (x1 = y1) = false := by simpa using h1
              clear hne
              go_wp2
              go_quiet (fail)
              go_wp2
              go_ret
              exact ⟨Tx.ret_b (by rw [HE.out, D2.out]), n + nq, World.drewN_drewN _ _ _⟩
          · have f5 : (x0 == y0) = false := by simpa using h0
            have f6 : decide (x0 = y0) = false := by simpa using h0
            clear hne
            go_wp2
            go_quiet (fail)
            go_wp2
            go_ret
            exact ⟨Tx.ret_b (by rw [HE.out, D2.out]), n + nq, World.drewN_drewN _ _ _⟩
      · go_wp2
        go_ret
        obtain rfl : k = xs.length := by omega
        exact ⟨Tx.ret_b (by rw [HE.out, List.drop_length, HL.out, List.drop_length]; rfl), n, rfl⟩
  · have E := Lib.hid (sp_len hl)
    have g1 : ((xs.length : Int) != (ys.length : Int)) = true := by simp only [bne_iff_ne, ne_eq]; omega
    clear hl
    go_enter Tryz.func157, Tryz.ntmps157
    go_wp2
    go_ret
    exact ⟨Tx.ret_b E.out.symm, 0, rfl⟩
end Go.Proofs.YtmaknkbmilcanaaGreatDoor.Pi
namespace Go.Proofs.YtmaknkbmilcanaaGreatDoor.Pi
open Go.RowKit
open Go.Proofs.YtmaknkbmilcanaaGreatDoor.Tx (TxtsIn ret_b)
open Go.Proofs.YtmaknkbmilcanaaGreatDoor.Qu (IntsIn Hd)
open Go.Proofs.YtmaknkbmilcanaaGreatDoor.Po (belI_step belI_alloc)
open Go.Proofs.YtmaknkbmilcanaaGreatDoor.Ext (up up_below up_mk wp_region_ext call_ext call_ext_same)
@[local go_sem] theorem up_cellS (w : World) (y : Ext.Ext w) (b o : Nat) (h : b < w.heap.size) : (up w y).cell? ⟨b, o, none⟩ = w.cell? ⟨b, o, none⟩ := Ext.up_cell w y b o h
set_option maxRecDepth 100000 in
set_option maxHeartbeats 4000000 in
theorem wiEq_any (B : Nat) (w0 : World) (x y : Wi) (u u' : WV) (h : WiN (· < B) w0 u x) (h' : WiN (· < B) w0 u' y) (W : World) (hb : Below B w0 W) (hB : B ≤ W.heap.size) :
    Calls Tryz.prog 96 #[wV x u, wV y u'] W fun e w' => e = .returned (.bool (x == y)) ∧ Below W.heap.size W w' := by
  obtain ⟨t1, s1, g1, u1, i1, b1, l1⟩ := x
  obtain ⟨t2, s2, g2, u2, i2, b2, l2⟩ := y
  obtain ⟨v1⟩ := u
  obtain ⟨v2⟩ := u'
  obtain ⟨h1⟩ := h
  obtain ⟨h2⟩ := h'
  simp only at h1 h2
  have HE := Lib.hid (fun (W' : World) (hb' : Below B w0 W') => slEqI_any (· < B) (· < B) i1 i2 v1 v2 W' (h1.blw hb') (h2.blw hb'))
  have ES := Lib.hid (show ((⟨t1, s1, g1, u1, i1, b1, l1⟩ : Wi) == ⟨t2, s2, g2, u2, i2, b2, l2⟩) = (decide (t1 = t2) && (decide (s1 = s2) && (decide (g1 = g2) && (decide (u1 = u2) && ((i1 == i2) && (decide (b1 = b2) && decide (l1 = l2))))))) by
    rw [Bool.eq_iff_iff]; simp)
  have HB := Lib.hid hb
  obtain ⟨a1, n1, c1, rfl⟩ : ∃ a l c, v1 = .slice a l c := by obtain ⟨a, c, e⟩ := h1.slice2; exact ⟨_, _, _, e⟩
  obtain ⟨a2, n2, c2, rfl⟩ : ∃ a l c, v2 = .slice a l c := by obtain ⟨a, c, e⟩ := h2.slice2; exact ⟨_, _, _, e⟩
  rw [ES.out]
  clear h1 h2 hb ES
  generalize (i1 == i2) = bi at *
  have B2 := Lib.hid ((Below.refl W.heap.size W).alloc (Nat.le_refl _) (.cells #[.int .i64 t1, .int .i64 s1, .string ⟨g1.toArray⟩, .string ⟨u1.toArray⟩, .slice a1 n1 c1, .string ⟨b1.toArray⟩, .bool l1] 142) |>.alloc (by simp) (.cells #[.int .i64 t2, .int .i64 s2, .string ⟨g2.toArray⟩, .string ⟨u2.toArray⟩, .slice a2 n2 c2, .string ⟨b2.toArray⟩, .bool l2] 142))
  have K0 := Lib.hid ((Hd.new W (.cells #[.int .i64 t1, .int .i64 s1, .string ⟨g1.toArray⟩, .string ⟨u1.toArray⟩, .slice a1 n1 c1, .string ⟨b1.toArray⟩, .bool l1] 142)).al (.cells #[.int .i64 t2, .int .i64 s2, .string ⟨g2.toArray⟩, .string ⟨u2.toArray⟩, .slice a2 n2 c2, .string ⟨b2.toArray⟩, .bool l2] 142))
  have K1 := Lib.hid (show Hd ((W.alloc (.cells #[.int .i64 t1, .int .i64 s1, .string ⟨g1.toArray⟩, .string ⟨u1.toArray⟩, .slice a1 n1 c1, .string ⟨b1.toArray⟩, .bool l1] 142)).alloc (.cells #[.int .i64 t2, .int .i64 s2, .string ⟨g2.toArray⟩, .string ⟨u2.toArray⟩, .slice a2 n2 c2, .string ⟨b2.toArray⟩, .bool l2] 142)) (W.heap.size + 1) (.cells #[.int .i64 t2, .int .i64 s2, .string ⟨g2.toArray⟩, .string ⟨u2.toArray⟩, .slice a2 n2 c2, .string ⟨b2.toArray⟩, .bool l2] 142) by
    have := Hd.new (W.alloc (.cells #[.int .i64 t1, .int .i64 s1, .string ⟨g1.toArray⟩, .string ⟨u1.toArray⟩, .slice a1 n1 c1, .string ⟨b1.toArray⟩, .bool l1] 142)) (.cells #[.int .i64 t2, .int .i64 s2, .string ⟨g2.toArray⟩, .string ⟨u2.toArray⟩, .slice a2 n2 c2, .string ⟨b2.toArray⟩, .bool l2] 142)
    simpa using this)
  have Z2 := Lib.hid (show W.heap.size + 1 < ((W.alloc (.cells #[.int .i64 t1, .int .i64 s1, .string ⟨g1.toArray⟩, .string ⟨u1.toArray⟩, .slice a1 n1 c1, .string ⟨b1.toArray⟩, .bool l1] 142)).alloc (.cells #[.int .i64 t2, .int .i64 s2, .string ⟨g2.toArray⟩, .string ⟨u2.toArray⟩, .slice a2 n2 c2, .string ⟨b2.toArray⟩, .bool l2] 142)).heap.size by simp)
  go_enter Tryz.func96, Tryz.ntmps96
  go_upto_region 1 with fail
  generalize (W.alloc (.cells #[.int .i64 t1, .int .i64 s1, .string ⟨g1.toArray⟩, .string ⟨u1.toArray⟩, .slice a1 n1 c1, .string ⟨b1.toArray⟩, .bool l1] 142)).alloc (.cells #[.int .i64 t2, .int .i64 s2, .string ⟨g2.toArray⟩, .string ⟨u2.toArray⟩, .slice a2 n2 c2, .string ⟨b2.toArray⟩, .bool l2] 142) = w1 at *
  have z2 := Z2.out
  have z1 : W.heap.size < w1.heap.size := by omega
  have zB : B ≤ w1.heap.size := by omega
  have DB := Lib.hid (HB.out.trans (B2.out.mono hB))
  have kk := K0.out
  have m0 := cell_of_row w1 (W.heap.size) 0 _ _ _ kk
  have m1 := cell_of_row w1 (W.heap.size) 1 _ _ _ kk
  have m2 := cell_of_row w1 (W.heap.size) 2 _ _ _ kk
  have m3 := cell_of_row w1 (W.heap.size) 3 _ _ _ kk
  have m4 := cell_of_row w1 (W.heap.size) 4 _ _ _ kk
  have m5 := cell_of_row w1 (W.heap.size) 5 _ _ _ kk
  have m6 := cell_of_row w1 (W.heap.size) 6 _ _ _ kk
  clear kk
  have kk := K1.out
  have n0_ := cell_of_row w1 (W.heap.size + 1) 0 _ _ _ kk
  have n1_ := cell_of_row w1 (W.heap.size + 1) 1 _ _ _ kk
  have n2_ := cell_of_row w1 (W.heap.size + 1) 2 _ _ _ kk
  have n3_ := cell_of_row w1 (W.heap.size + 1) 3 _ _ _ kk
  have n4_ := cell_of_row w1 (W.heap.size + 1) 4 _ _ _ kk
  have n5_ := cell_of_row w1 (W.heap.size + 1) 5 _ _ _ kk
  have n6_ := cell_of_row w1 (W.heap.size + 1) 6 _ _ _ kk
  clear kk Z2
  by_cases ht : t1 = t2
  rotate_left
  · have f5 : (t1 == t2) = false := by simpa using ht
    have f6 : decide (t1 = t2) = false := by simpa using ht
    clear m4 m5 m6 n4_ n5_ n6_ HE
    go_wp2
    go_ret
    exact ⟨ret_b (by simp [*]), B2.out⟩
  subst ht
  by_cases hs : s1 = s2
  rotate_left
  · have f5 : (s1 == s2) = false := by simpa using hs
    have f6 : decide (s1 = s2) = false := by simpa using hs
    clear m4 m5 m6 n4_ n5_ n6_ HE
    go_wp2
    go_ret
    exact ⟨ret_b (by simp [*]), B2.out⟩
  subst hs
  by_cases hg : g1 = g2
  rotate_left
  · have f5 : (g1 == g2) = false := by simpa using hg
    have f6 : decide (g1 = g2) = false := by simpa using hg
    clear m4 m5 m6 n4_ n5_ n6_ HE
    go_wp2
    go_ret
    exact ⟨ret_b (by simp [*]), B2.out⟩
  subst hg
  by_cases hu : u1 = u2
  rotate_left
  · have f5 : (u1 == u2) = false := by simpa using hu
    have f6 : decide (u1 = u2) = false := by simpa using hu
    clear m4 m5 m6 n4_ n5_ n6_ HE
    go_wp2
    go_ret
    exact ⟨ret_b (by simp [*]), B2.out⟩
  subst hu
  cases bi
  · go_wp2_with fail
    refine (HE.out _ DB.out).mono ?_
    rintro e w2 ⟨rfl, nn, rfl⟩
    have D2 := Lib.hid (Qu.belDrew B2.out nn)
    clear B2 DB HE
    go_wp2
    go_ret
    exact ⟨ret_b (by simp [*]), D2.out⟩
  by_cases hb : b1 = b2
  rotate_left
  · have f5 : (b1 == b2) = false := by simpa using hb
    have f6 : decide (b1 = b2) = false := by simpa using hb
    go_wp2_with fail
    refine (HE.out _ DB.out).mono ?_
    rintro e w2 ⟨rfl, nn, rfl⟩
    have D2 := Lib.hid (Qu.belDrew B2.out nn)
    clear B2 DB HE
    go_wp2
    go_ret
    exact ⟨ret_b (by simp [*]), D2.out⟩
  subst hb
  by_cases hl : l1 = l2
  rotate_left
  · have f5 : (l1 == l2) = false := by simpa using hl
    have f6 : decide (l1 = l2) = false := by simpa using hl
    go_wp2_with fail
    refine (HE.out _ DB.out).mono ?_
    rintro e w2 ⟨rfl, nn, rfl⟩
    have D2 := Lib.hid (Qu.belDrew B2.out nn)
    clear B2 DB HE
    go_wp2
    go_ret
    exact ⟨ret_b (by simp [*]), D2.out⟩
  subst hl
  go_wp2_with fail
  refine (HE.out _ DB.out).mono ?_
  rintro e w2 ⟨rfl, nn, rfl⟩
  have D2 := Lib.hid (Qu.belDrew B2.out nn)
  clear B2 DB HE
  go_wp2
  go_ret
  exact ⟨ret_b (by simp [*]), D2.out⟩
end Go.Proofs.YtmaknkbmilcanaaGreatDoor.Pi
namespace Go.Proofs.YtmaknkbmilcanaaGreatDoor.Pi
open Go.RowKit
open Go.Proofs.YtmaknkbmilcanaaGreatDoor.Tx (TxtsIn ret_b)
open Go.Proofs.YtmaknkbmilcanaaGreatDoor.Qu (IntsIn Hd)
open Go.Proofs.YtmaknkbmilcanaaGreatDoor.Po (Pl Rl RlIn belI_step belI_alloc rV)
set_option maxRecDepth 100000 in
set_option maxHeartbeats 4000000 in
theorem eqfW_any (B : Nat) (w0 : World) (xs ys : List Wi) (v u : Value) (h1 : WiIn (· < B) w0 v xs) (h2 : WiIn (· < B) w0 u ys) (W : World) (hb : Below B w0 W) (hB : B ≤ W.heap.size) :
    Calls Tryz.prog 95 #[v, u, .func (.func 96) #[] #[]] W fun e w' => e = .returned (.bool (xs == ys)) ∧ Below W.heap.size W w' := by
  obtain ⟨a, cap, b, off, us, rfl, hcap, hm, -, ha, hc⟩ := h1
  obtain ⟨a', cap', b', off', us', rfl, hcap', hm', -, ha', hc'⟩ := h2
  have hn : xs.length ≤ 9223372036854775807 := by omega
  have hn' : ys.length ≤ 9223372036854775807 := by omega
  have HC := Lib.hid hc
  have HA := Lib.hid ha
  have HC' := Lib.hid hc'
  have HA' := Lib.hid ha'
  have HB := Lib.hid hb
  clear hc ha hc' ha' hb
  by_cases hl : xs.length = ys.length
  · have HL := Lib.hid hl
    have g1 : ((xs.length : Int) != (ys.length : Int)) = false := by simp [hl]
    clear hl
    go_enter Tryz.func95, Tryz.ntmps95
    go_wp2
    go_loopw [17] (fun i wr => ∃ k : Nat, k ≤ xs.length ∧ i = .int .i64 k ∧ (xs == ys) = (xs.drop k == ys.drop k) ∧ Below W.heap.size W wr) (fun i _ => xs.length - (intOf i).toNat)
    case atStart => exact ⟨0, by omega, rfl, rfl, Below.refl _ _⟩
    case round =>
      obtain ⟨k, hk, rfl, hE, hR⟩ := hrel
      have HE := Lib.hid hE
      have hW := HB.out.trans (hR.mono hB)
      have HR := Lib.hid hR
      clear hE hR
      by_cases hlt : k < xs.length
      · have hlt' : k < ys.length := by have := HL.out; omega
        obtain ⟨ea, hlb⟩ := HA.out (by omega)
        obtain ⟨ea', hlb'⟩ := HA'.out (by omega)
        subst ea ea'
        obtain ⟨c0, c1, c2, c3, c4, c5, c6, cx⟩ := HC.out k hlt
        obtain ⟨d0, d1, d2, d3, d4, d5, d6, dx⟩ := HC'.out k hlt'
        have q0 := (hW.cell (p := ⟨b, off + k * 7, none⟩) hlb).trans c0
        have q1 := (hW.cell (p := ⟨b, off + k * 7 + 1, none⟩) hlb).trans c1
        have q2 := (hW.cell (p := ⟨b, off + k * 7 + 2, none⟩) hlb).trans c2
        have q3 := (hW.cell (p := ⟨b, off + k * 7 + 3, none⟩) hlb).trans c3
        have q4 := (hW.cell (p := ⟨b, off + k * 7 + 4, none⟩) hlb).trans c4
        have q5 := (hW.cell (p := ⟨b, off + k * 7 + 5, none⟩) hlb).trans c5
        have q6 := (hW.cell (p := ⟨b, off + k * 7 + 6, none⟩) hlb).trans c6
        have z1 : B ≤ wr.heap.size := Nat.le_trans hB HR.out.size
        have y0 := (hW.cell (p := ⟨b', off' + k * 7, none⟩) hlb').trans d0
        have y1 := (hW.cell (p := ⟨b', off' + k * 7 + 1, none⟩) hlb').trans d1
        have y2 := (hW.cell (p := ⟨b', off' + k * 7 + 2, none⟩) hlb').trans d2
        have y3 := (hW.cell (p := ⟨b', off' + k * 7 + 3, none⟩) hlb').trans d3
        have y4 := (hW.cell (p := ⟨b', off' + k * 7 + 4, none⟩) hlb').trans d4
        have y5 := (hW.cell (p := ⟨b', off' + k * 7 + 5, none⟩) hlb').trans d5
        have y6 := (hW.cell (p := ⟨b', off' + k * 7 + 6, none⟩) hlb').trans d6
        have z2 : b' < wr.heap.size := Nat.lt_of_lt_of_le hlb' z1
        have D := Lib.hid (sp_drop k hlt hlt')
        have HK := Lib.hid (fun (W' : World) (h1 : Below B w0 W') (h2 : B ≤ W'.heap.size) => wiEq_any B w0 (xs.getD k default) (ys.getD k default) (us k) (us' k) cx dx W' h1 h2)
        have hu1 : ∃ a l c, us k = WV.mk (.slice a l c) := by
          obtain ⟨p, q, e⟩ := cx.id.slice2
          refine ⟨p, (xs.getD k default).ids.length, q, ?_⟩
          cases hz : us k with
          | mk z => rw [hz] at e; simp only at e; rw [e]
        have hu2 : ∃ a l c, us' k = WV.mk (.slice a l c) := by
          obtain ⟨p, q, e⟩ := dx.id.slice2
          refine ⟨p, (ys.getD k default).ids.length, q, ?_⟩
          cases hz : us' k with
          | mk z => rw [hz] at e; simp only at e; rw [e]
        clear c0 c1 c2 c3 c4 c5 c6 cx d0 d1 d2 d3 d4 d5 d6 dx hW
        generalize xs.getD k default = x at *
        generalize ys.getD k default = y at *
        generalize us k = uu at *
        generalize us' k = uu' at *
        obtain ⟨c, hcc⟩ : ∃ c, (x == y) = c := ⟨_, rfl⟩
        rw [hcc] at D HK
        clear hcc
        obtain ⟨t1, s1, g1, u1, i1, b1, l1⟩ := x
        obtain ⟨t2, s2, g2, u2, i2, b2, l2⟩ := y
        obtain ⟨a1, n1, c1, rfl⟩ := hu1
        obtain ⟨a2, n2, c2, rfl⟩ := hu2
        simp only at q0 y0 q1 y1 q2 y2 q3 y3 q4 y4 q5 y5 q6 y6
        have BX := Lib.hid (belI_alloc (o := .cells #[.int .i64 t2, .int .i64 s2, .string ⟨g2.toArray⟩, .string ⟨u2.toArray⟩, .slice a2 n2 c2, .string ⟨b2.toArray⟩, .bool l2] 142) (belI_alloc (o := .cells #[.int .i64 t1, .int .i64 s1, .string ⟨g1.toArray⟩, .string ⟨u1.toArray⟩, .slice a1 n1 c1, .string ⟨b1.toArray⟩, .bool l1] 142) HR.out))
        go_wp2_with fail
        refine (HK.out _ (HB.out.trans (BX.out.mono hB)) (Nat.le_trans hB BX.out.size)).mono ?_
        rintro e w1 ⟨rfl, hb1⟩
        have B1 := Lib.hid (belI_step BX.out hb1)
        clear hb1 BX
        cases c
        · go_wp2
          go_ret
          exact ⟨ret_b (by rw [HE.out, D.out]; rfl), B1.out⟩
        · go_wp2
          go_roundw
          case rel => exact ⟨k + 1, by omega, by go_num, by rw [HE.out, D.out]; rfl, B1.out⟩
          case measure => simp [intOf]; omega
      · obtain rfl : k = xs.length := by omega
        go_wp2
        go_ret
        exact ⟨ret_b (by rw [HE.out, List.drop_length, HL.out, List.drop_length]; rfl), HR.out⟩
  · have D := Lib.hid (sp_len hl)
    have g1 : ((xs.length : Int) != (ys.length : Int)) = true := by simp only [bne_iff_ne, ne_eq]; omega
    clear hl
    go_enter Tryz.func95, Tryz.ntmps95
    go_wp2
    go_ret
    exact ⟨ret_b D.out.symm, Below.refl _ _⟩
set_option maxRecDepth 100000 in
set_option maxHeartbeats 4000000 in
theorem rlEq_any (B : Nat) (w0 : World) (x y : Rl) (v v' : Value) (h1 : TxtsIn (· < B) w0 v x.words) (h2 : TxtsIn (· < B) w0 v' y.words) (W : World) (hb : Below B w0 W) (hB : B ≤ W.heap.size) :
    Calls Tryz.prog 155 #[rV x v, rV y v'] W fun e w' => e = .returned (.bool (x == y)) ∧ Below W.heap.size W w' := by
  obtain ⟨g1, i1⟩ := x
  obtain ⟨g2, i2⟩ := y
  simp only at h1 h2
  have HE := Lib.hid (fun (W' : World) (hb' : Below B w0 W') => Tx.sEqual_any (· < B) (· < B) i1 i2 v v' W' (h1.same fun b hlt => ⟨hlt, hb'.block b hlt⟩) (h2.same fun b hlt => ⟨hlt, hb'.block b hlt⟩))
  have ES := Lib.hid (show ((⟨g1, i1⟩ : Rl) == ⟨g2, i2⟩) = (decide (g1 = g2) && (i1 == i2)) by
    rw [Bool.eq_iff_iff]; simp)
  have HB := Lib.hid hb
  obtain ⟨a1, n1, c1, rfl⟩ := h1.slice
  obtain ⟨a2, n2, c2, rfl⟩ := h2.slice
  rw [ES.out]
  clear h1 h2 hb ES
  generalize (i1 == i2) = bi at *
  have B2 := Lib.hid ((Below.refl W.heap.size W).alloc (Nat.le_refl _) (.cells #[.string ⟨g1.toArray⟩, .slice a1 n1 c1] 205) |>.alloc (by simp) (.cells #[.string ⟨g2.toArray⟩, .slice a2 n2 c2] 205))
  have DB := Lib.hid (HB.out.trans (B2.out.mono hB))
  by_cases hg : g1 = g2
  · subst hg
    go_enter Tryz.func155, Tryz.ntmps155
    go_wp2_with fail
    refine (HE.out _ DB.out).mono ?_
    rintro e w2 ⟨rfl, nn, rfl⟩
    have D2 := Lib.hid (Qu.belDrew B2.out nn)
    clear B2 DB HE
    go_wp2
    go_ret
    exact ⟨ret_b (by simp [*]), D2.out⟩
  · have f5 : (g1 == g2) = false := by simpa using hg
    have f6 : decide (g1 = g2) = false := by simpa using hg
    clear HE
    go_enter Tryz.func155, Tryz.ntmps155
    go_wp2
    go_ret
    exact ⟨ret_b (by simp [*]), B2.out⟩
set_option maxRecDepth 100000 in
set_option maxHeartbeats 4000000 in
theorem eqfR_any (B : Nat) (w0 : World) (xs ys : List Rl) (v u : Value) (h1 : RlIn (· < B) w0 v xs) (h2 : RlIn (· < B) w0 u ys) (W : World) (hb : Below B w0 W) (hB : B ≤ W.heap.size) :
    Calls Tryz.prog 154 #[v, u, .func (.func 155) #[] #[]] W fun e w' => e = .returned (.bool (xs == ys)) ∧ Below W.heap.size W w' := by
  obtain ⟨a, cap, b, off, us, rfl, hcap, hm, -, ha, hc⟩ := h1
  obtain ⟨a', cap', b', off', us', rfl, hcap', hm', -, ha', hc'⟩ := h2
  have hn : xs.length ≤ 9223372036854775807 := by omega
  have hn' : ys.length ≤ 9223372036854775807 := by omega
  have HC := Lib.hid hc
  have HA := Lib.hid ha
  have HC' := Lib.hid hc'
  have HA' := Lib.hid ha'
  have HB := Lib.hid hb
  clear hc ha hc' ha' hb
  by_cases hl : xs.length = ys.length
  · have HL := Lib.hid hl
    have g1 : ((xs.length : Int) != (ys.length : Int)) = false := by simp [hl]
    clear hl
    go_enter Tryz.func154, Tryz.ntmps154
    go_wp2
    go_loopw [17] (fun i wr => ∃ k : Nat, k ≤ xs.length ∧ i = .int .i64 k ∧ (xs == ys) = (xs.drop k == ys.drop k) ∧ Below W.heap.size W wr) (fun i _ => xs.length - (intOf i).toNat)
    case atStart => exact ⟨0, by omega, rfl, rfl, Below.refl _ _⟩
    case round =>
      obtain ⟨k, hk, rfl, hE, hR⟩ := hrel
      have HE := Lib.hid hE
      have hW := HB.out.trans (hR.mono hB)
      have HR := Lib.hid hR
      clear hE hR
      by_cases hlt : k < xs.length
      · have hlt' : k < ys.length := by have := HL.out; omega
        obtain ⟨ea, hlb⟩ := HA.out (by omega)
        obtain ⟨ea', hlb'⟩ := HA'.out (by omega)
        subst ea ea'
        obtain ⟨c0, c1, cx⟩ := HC.out k hlt
        obtain ⟨d0, d1, dx⟩ := HC'.out k hlt'
        have q0 := (hW.cell (p := ⟨b, off + k * 2, none⟩) hlb).trans c0
        have q1 := (hW.cell (p := ⟨b, off + k * 2 + 1, none⟩) hlb).trans c1
        have z1 : B ≤ wr.heap.size := Nat.le_trans hB HR.out.size
        have y0 := (hW.cell (p := ⟨b', off' + k * 2, none⟩) hlb').trans d0
        have y1 := (hW.cell (p := ⟨b', off' + k * 2 + 1, none⟩) hlb').trans d1
        have z2 : b' < wr.heap.size := Nat.lt_of_lt_of_le hlb' z1
        have D := Lib.hid (sp_drop k hlt hlt')
        have HK := Lib.hid (fun (W' : World) (h1 : Below B w0 W') (h2 : B ≤ W'.heap.size) => rlEq_any B w0 (xs.getD k default) (ys.getD k default) (us k) (us' k) cx dx W' h1 h2)
        have hu1 : ∃ a l c, us k = Value.slice a l c := cx.slice
        have hu2 : ∃ a l c, us' k = Value.slice a l c := dx.slice
        clear c0 c1 cx d0 d1 dx hW
        generalize xs.getD k default = x at *
        generalize ys.getD k default = y at *
        generalize us k = uu at *
        generalize us' k = uu' at *
        obtain ⟨c, hcc⟩ : ∃ c, (x == y) = c := ⟨_, rfl⟩
        rw [hcc] at D HK
        clear hcc
        obtain ⟨g1, i1⟩ := x
        obtain ⟨g2, i2⟩ := y
        obtain ⟨a1, n1, c1, rfl⟩ := hu1
        obtain ⟨a2, n2, c2, rfl⟩ := hu2
        simp only at q0 y0 q1 y1
        have BX := Lib.hid (belI_alloc (o := .cells #[.string ⟨g2.toArray⟩, .slice a2 n2 c2] 205) (belI_alloc (o := .cells #[.string ⟨g1.toArray⟩, .slice a1 n1 c1] 205) HR.out))
        go_wp2_with fail
        refine (HK.out _ (HB.out.trans (BX.out.mono hB)) (Nat.le_trans hB BX.out.size)).mono ?_
        rintro e w1 ⟨rfl, hb1⟩
        have B1 := Lib.hid (belI_step BX.out hb1)
        clear hb1 BX
        cases c
        · go_wp2
          go_ret
          exact ⟨ret_b (by rw [HE.out, D.out]; rfl), B1.out⟩
        · go_wp2
          go_roundw
          case rel => exact ⟨k + 1, by omega, by go_num, by rw [HE.out, D.out]; rfl, B1.out⟩
          case measure => simp [intOf]; omega
      · obtain rfl : k = xs.length := by omega
        go_wp2
        go_ret
        exact ⟨ret_b (by rw [HE.out, List.drop_length, HL.out, List.drop_length]; rfl), HR.out⟩
  · have D := Lib.hid (sp_len hl)
    have g1 : ((xs.length : Int) != (ys.length : Int)) = true := by simp only [bne_iff_ne, ne_eq]; omega
    clear hl
    go_enter Tryz.func154, Tryz.ntmps154
    go_wp2
    go_ret
    exact ⟨ret_b D.out.symm, Below.refl _ _⟩
end Go.Proofs.YtmaknkbmilcanaaGreatDoor.Pi
namespace Go.Proofs.YtmaknkbmilcanaaGreatDoor.Pi
open Go.RowKit
open Go.Proofs.YtmaknkbmilcanaaGreatDoor.Tx (TxtsIn ret_b)
open Go.Proofs.YtmaknkbmilcanaaGreatDoor.Qu (Hd)
open Go.Proofs.YtmaknkbmilcanaaGreatDoor.Po (Pl Rl RlIn belI_step belI_alloc rV)
def plE (p q : Pl) : Bool := decide (p.rep = q.rep) && ((p.uris == q.uris) && (p.rules == q.rules))
theorem plE_eq {p q : Pl} : plE p q = true ↔ p = q := by
  obtain ⟨a, b, c⟩ := p
  obtain ⟨d, e, f⟩ := q
  simp [plE]
set_option maxRecDepth 100000 in
set_option maxHeartbeats 4000000 in
theorem plEq_any (B : Nat) (w0 : World) (p q : Pl) (uv rv uv' rv' : Value) (h1 : TxtsIn (· < B) w0 uv p.uris) (h2 : TxtsIn (· < B) w0 uv' q.uris) (h3 : RlIn (· < B) w0 rv p.rules) (h4 : RlIn (· < B) w0 rv' q.rules) (W : World) (hb : Below B w0 W) (hB : B ≤ W.heap.size) :
    Calls Tryz.prog 91 #[Po.pV p uv rv, Po.pV q uv' rv'] W fun e w' => e = .returned (.bool (plE p q)) ∧ Below W.heap.size W w' := by
  obtain ⟨r1, i1, k1⟩ := p
  obtain ⟨r2, i2, k2⟩ := q
  simp only at h1 h2 h3 h4
  have HE := Lib.hid (fun (W' : World) (hb' : Below B w0 W') => Tx.sEqual_any (· < B) (· < B) i1 i2 uv uv' W' (h1.same fun b hlt => ⟨hlt, hb'.block b hlt⟩) (h2.same fun b hlt => ⟨hlt, hb'.block b hlt⟩))
  have HR := Lib.hid (fun (W' : World) h h' => eqfR_any B w0 k1 k2 rv rv' h3 h4 W' h h')
  have ES := Lib.hid (show plE ⟨r1, i1, k1⟩ ⟨r2, i2, k2⟩ = (decide (r1 = r2) && ((i1 == i2) && (k1 == k2))) from rfl)
  have HB := Lib.hid hb
  obtain ⟨a1, n1, c1, rfl⟩ := h1.slice
  obtain ⟨a2, n2, c2, rfl⟩ := h2.slice
  obtain ⟨a3, n3, c3, rfl⟩ := h3.slice
  obtain ⟨a4, n4, c4, rfl⟩ := h4.slice
  rw [ES.out]
  clear h1 h2 h3 h4 hb ES
  generalize (i1 == i2) = bi at *
  generalize (k1 == k2) = bk at *
  have B2 := Lib.hid ((Below.refl W.heap.size W).alloc (Nat.le_refl _) (.cells #[.string ⟨r1.toArray⟩, .slice a1 n1 c1, .slice a3 n3 c3] 37) |>.alloc (by simp) (.cells #[.string ⟨r2.toArray⟩, .slice a2 n2 c2, .slice a4 n4 c4] 37))
  have DB := Lib.hid (HB.out.trans (B2.out.mono hB))
  have zB := Lib.hid (Nat.le_trans hB B2.out.size)
  by_cases hg : r1 = r2
  · subst hg
    have e7 := Lib.hid (show (decide (r1 = r1) && (bi && bk)) = (bi && bk) by simp)
    rw [e7.out]
    clear e7
    go_enter Tryz.func91, Tryz.ntmps91
    go_wp2_with fail
    refine (HE.out _ DB.out).mono ?_
    rintro e w2 ⟨rfl, nn, rfl⟩
    have D2 := Lib.hid (Qu.belDrew B2.out nn)
    have DB2 := Lib.hid (HB.out.trans (D2.out.mono hB))
    clear B2 DB HE
    cases bi
    · clear HR
      go_wp2
      go_ret
      exact ⟨ret_b (by simp), D2.out⟩
    · go_wp2_with fail
      refine (HR.out _ DB2.out (Nat.le_trans hB D2.out.size)).mono ?_
      rintro e w3 ⟨rfl, hb3⟩
      have D3 := Lib.hid (belI_step D2.out hb3)
      clear hb3
      go_wp2
      go_ret
      exact ⟨ret_b (by simp), D3.out⟩
  · have f5 : (r1 == r2) = false := by simpa using hg
    have f6 : decide (r1 = r2) = false := by simpa using hg
    clear HE HR
    go_enter Tryz.func91, Tryz.ntmps91
    go_wp2
    go_ret
    exact ⟨ret_b (by simp [*]), B2.out⟩
end Go.Proofs.YtmaknkbmilcanaaGreatDoor.Pi
namespace Go.Proofs.YtmaknkbmilcanaaGreatDoor.Pi
open Go.RowKit
open Go.Proofs.YtmaknkbmilcanaaGreatDoor.Tx (TxtsIn ret_b)
open Go.Proofs.YtmaknkbmilcanaaGreatDoor.Gr (Tg Gp TgIn gV)
open Go.Proofs.YtmaknkbmilcanaaGreatDoor.Pe (Pr PrIn)
open Go.Proofs.YtmaknkbmilcanaaGreatDoor.Qu (Rep Q RpIn saQ qV Hd)
open Go.Proofs.YtmaknkbmilcanaaGreatDoor.Po (belI_step belI_alloc)
open Go.Proofs.YtmaknkbmilcanaaGreatDoor.Ul (Tab MaxL)
def chE (a b : Cn) : Bool := Gr.sameG a.g b.g && ((a.ps == b.ps) && saQ a.q b.q)
def chEs : List Cn → List Cn → Bool
  | [], [] => true
  | x :: xs, y :: ys => chE x y && chEs xs ys
  | _, _ => false
theorem chEs_drop {xs ys : List Cn} (k : Nat) (hx : k < xs.length) (hy : k < ys.length) : chEs (xs.drop k) (ys.drop k) = (chE (xs.getD k default) (ys.getD k default) && chEs (xs.drop (k + 1)) (ys.drop (k + 1))) := by
  rw [List.drop_eq_getElem_cons hx, List.drop_eq_getElem_cons hy]
  simp [hx, hy, chEs]
theorem chEs_len {xs ys : List Cn} (h : xs.length ≠ ys.length) : chEs xs ys = false := by
  induction xs generalizing ys with
  | nil => cases ys with
    | nil => exact absurd rfl h
    | cons y ys => rfl
  | cons x xs ih => cases ys with
    | nil => rfl
    | cons y ys => rw [chEs, ih (fun e => h (by simp [e])), Bool.and_false]
set_option maxRecDepth 100000 in
set_option maxHeartbeats 4000000 in
theorem chEq_any (B : Nat) (w0 : World) (x y : Cn) (u u' : CV) (h : CnN (· < B) w0 u x) (h' : CnN (· < B) w0 u' y) (hn : x.g.name.length ≤ 1048576) (W : World) (hb : Below B w0 W) (hB : B ≤ W.heap.size) (hT : Tab W) (hM : MaxL W) :
    Calls Tryz.prog 93 #[cV x u, cV y u'] W fun e w' => e = .returned (.bool (chE x y)) ∧ Below W.heap.size W w' := by
  obtain ⟨⟨nm1, ag1, ts1⟩, ps1, ⟨is1, rs1⟩⟩ := x
  obtain ⟨⟨nm2, ag2, ts2⟩, ps2, ⟨is2, rs2⟩⟩ := y
  obtain ⟨tv, pv, iv, rv⟩ := u
  obtain ⟨tv', pv', iv', rv'⟩ := u'
  obtain ⟨h1, h2, h3, h4⟩ := h
  obtain ⟨h5, h6, h7, h8⟩ := h'
  simp only at h1 h2 h3 h4 h5 h6 h7 h8 hn
  have HG := Lib.hid (fun (W' : World) z1 z2 z3 z4 => Gr.sameGI B w0 ⟨nm1, ag1, ts1⟩ ⟨nm2, ag2, ts2⟩ tv tv' h1 h5 hn W' z1 z2 z3 z4)
  have HP := Lib.hid (fun (W' : World) (hb' : Below B w0 W') => slEqPr_any (· < B) (· < B) ps1 ps2 pv pv' W' (h2.same fun b hlt => ⟨hlt, hb'.block b hlt⟩) (h6.same fun b hlt => ⟨hlt, hb'.block b hlt⟩))
  have HQ := Lib.hid (fun (W' : World) z1 z2 => Qu.sameI_any B w0 ⟨is1, rs1⟩ ⟨is2, rs2⟩ iv rv iv' rv' h3 h4 h7 h8 W' z1 z2)
  have ES := Lib.hid (show chE ⟨⟨nm1, ag1, ts1⟩, ps1, ⟨is1, rs1⟩⟩ ⟨⟨nm2, ag2, ts2⟩, ps2, ⟨is2, rs2⟩⟩ = (Gr.sameG ⟨nm1, ag1, ts1⟩ ⟨nm2, ag2, ts2⟩ && ((ps1 == ps2) && saQ ⟨is1, rs1⟩ ⟨is2, rs2⟩)) from rfl)
  have HB := Lib.hid hb
  have HT := Lib.hid hT
  have HM := Lib.hid hM
  obtain ⟨a1, l1, c1, rfl⟩ := h1.slice
  obtain ⟨d1, m1, f1, rfl⟩ := h2.slice
  obtain ⟨o1, p1, q1, rfl⟩ := h3.slice
  obtain ⟨r1, s1, t1, rfl⟩ := h4.slice
  obtain ⟨a2, l2, c2, rfl⟩ := h5.slice
  obtain ⟨d2, m2, f2, rfl⟩ := h6.slice
  obtain ⟨o2, p2, q2, rfl⟩ := h7.slice
  obtain ⟨r2, s2, t2, rfl⟩ := h8.slice
  rw [ES.out]
  clear h1 h2 h3 h4 h5 h6 h7 h8 hb hT hM hn ES
  generalize Gr.sameG ⟨nm1, ag1, ts1⟩ ⟨nm2, ag2, ts2⟩ = bg at *
  generalize (ps1 == ps2) = bp at *
  generalize saQ ⟨is1, rs1⟩ ⟨is2, rs2⟩ = bq at *
  have B2 := Lib.hid ((Below.refl W.heap.size W).alloc (Nat.le_refl _) (.cells #[.string ⟨nm1.toArray⟩, .int .i64 ag1, .slice a1 l1 c1, .slice d1 m1 f1, .slice o1 p1 q1, .slice r1 s1 t1] 132) |>.alloc (by simp) (.cells #[.string ⟨nm2.toArray⟩, .int .i64 ag2, .slice a2 l2 c2, .slice d2 m2 f2, .slice o2 p2 q2, .slice r2 s2 t2] 132))
  have K0 := Lib.hid ((Hd.new W (.cells #[.string ⟨nm1.toArray⟩, .int .i64 ag1, .slice a1 l1 c1, .slice d1 m1 f1, .slice o1 p1 q1, .slice r1 s1 t1] 132)).al (.cells #[.string ⟨nm2.toArray⟩, .int .i64 ag2, .slice a2 l2 c2, .slice d2 m2 f2, .slice o2 p2 q2, .slice r2 s2 t2] 132))
  have K1 := Lib.hid (show Hd ((W.alloc (.cells #[.string ⟨nm1.toArray⟩, .int .i64 ag1, .slice a1 l1 c1, .slice d1 m1 f1, .slice o1 p1 q1, .slice r1 s1 t1] 132)).alloc (.cells #[.string ⟨nm2.toArray⟩, .int .i64 ag2, .slice a2 l2 c2, .slice d2 m2 f2, .slice o2 p2 q2, .slice r2 s2 t2] 132)) (W.heap.size + 1) (.cells #[.string ⟨nm2.toArray⟩, .int .i64 ag2, .slice a2 l2 c2, .slice d2 m2 f2, .slice o2 p2 q2, .slice r2 s2 t2] 132) by
    have := Hd.new (W.alloc (.cells #[.string ⟨nm1.toArray⟩, .int .i64 ag1, .slice a1 l1 c1, .slice d1 m1 f1, .slice o1 p1 q1, .slice r1 s1 t1] 132)) (.cells #[.string ⟨nm2.toArray⟩, .int .i64 ag2, .slice a2 l2 c2, .slice d2 m2 f2, .slice o2 p2 q2, .slice r2 s2 t2] 132)
    simpa using this)
  go_enter Tryz.func93, Tryz.ntmps93
  go_wp2_with fail
  refine (HG.out _ (HB.out.trans (B2.out.mono hB)) (Nat.le_trans hB B2.out.size) (HT.out.below B2.out) (HM.out.below B2.out)).mono ?_
  rintro e w1 ⟨rfl, hb1⟩
  have D1 := Lib.hid (belI_step B2.out hb1)
  have kk := K0.out.blw hb1
  have x0 := cell_of_row w1 (W.heap.size) 0 _ _ _ kk
  have x1 := cell_of_row w1 (W.heap.size) 1 _ _ _ kk
  have x2 := cell_of_row w1 (W.heap.size) 2 _ _ _ kk
  have x3 := cell_of_row w1 (W.heap.size) 3 _ _ _ kk
  have x4 := cell_of_row w1 (W.heap.size) 4 _ _ _ kk
  have x5 := cell_of_row w1 (W.heap.size) 5 _ _ _ kk
  clear kk
  have kk := K1.out.blw hb1
  have y0 := cell_of_row w1 (W.heap.size + 1) 0 _ _ _ kk
  have y1 := cell_of_row w1 (W.heap.size + 1) 1 _ _ _ kk
  have y2 := cell_of_row w1 (W.heap.size + 1) 2 _ _ _ kk
  have y3 := cell_of_row w1 (W.heap.size + 1) 3 _ _ _ kk
  have y4 := cell_of_row w1 (W.heap.size + 1) 4 _ _ _ kk
  have y5 := cell_of_row w1 (W.heap.size + 1) 5 _ _ _ kk
  clear kk hb1 B2 K0 K1 HG HT HM
  cases bg
  · clear HP HQ
    go_wp2
    go_ret
    exact ⟨ret_b (by simp), D1.out⟩
  go_wp2_with fail
  refine (HP.out _ (HB.out.trans (D1.out.mono hB))).mono ?_
  rintro e w2 ⟨rfl, nn, rfl⟩
  have D2 := Lib.hid (Qu.belDrew D1.out nn)
  cases bp
  · clear HP HQ
    go_wp2
    go_ret
    exact ⟨ret_b (by simp), D2.out⟩
  go_wp2_with fail
  refine (HQ.out _ (HB.out.trans (D2.out.mono hB)) (Nat.le_trans hB D2.out.size)).mono ?_
  rintro e w3 ⟨rfl, hb3⟩
  have D3 := Lib.hid (belI_step D2.out hb3)
  clear hb3
  go_wp2
  go_ret
  exact ⟨ret_b (by simp), D3.out⟩
set_option maxRecDepth 100000 in
set_option maxHeartbeats 4000000 in
theorem eqfC_any (B : Nat) (w0 : World) (xs ys : List Cn) (v u : Value) (h1 : CnIn (· < B) w0 v xs) (h2 : CnIn (· < B) w0 u ys) (hnm : ∀ i, i < xs.length → (xs.getD i default).g.name.length ≤ 1048576) (W : World) (hb : Below B w0 W) (hB : B ≤ W.heap.size) (hT : Tab W) (hM : MaxL W) :
    Calls Tryz.prog 92 #[v, u, .func (.func 93) #[] #[]] W fun e w' => e = .returned (.bool (chEs xs ys)) ∧ Below W.heap.size W w' := by
  obtain ⟨a, cap, b, off, us, rfl, hcap, hm, -, ha, hc⟩ := h1
  obtain ⟨a', cap', b', off', us', rfl, hcap', hm', -, ha', hc'⟩ := h2
  have hn : xs.length ≤ 9223372036854775807 := by omega
  have hn' : ys.length ≤ 9223372036854775807 := by omega
  have HC := Lib.hid hc
  have HA := Lib.hid ha
  have HC' := Lib.hid hc'
  have HA' := Lib.hid ha'
  have HB := Lib.hid hb
  have HT := Lib.hid hT
  have HM := Lib.hid hM
  have HN := Lib.hid hnm
  clear hc ha hc' ha' hb hT hM hnm
  by_cases hl : xs.length = ys.length
  · have HL := Lib.hid hl
    have g1 : ((xs.length : Int) != (ys.length : Int)) = false := by simp [hl]
    clear hl
    go_enter Tryz.func92, Tryz.ntmps92
    go_wp2
    go_loopw [17] (fun i wr => ∃ k : Nat, k ≤ xs.length ∧ i = .int .i64 k ∧ chEs xs ys = (chEs (xs.drop k) (ys.drop k)) ∧ Below W.heap.size W wr) (fun i _ => xs.length - (intOf i).toNat)
    case atStart => exact ⟨0, by omega, rfl, rfl, Below.refl _ _⟩
    case round =>
      obtain ⟨k, hk, rfl, hE, hR⟩ := hrel
      have HE := Lib.hid hE
      have hW := HB.out.trans (hR.mono hB)
      have HR := Lib.hid hR
      clear hE hR
      by_cases hlt : k < xs.length
      · have hlt' : k < ys.length := by have := HL.out; omega
        obtain ⟨ea, hlb⟩ := HA.out (by omega)
        obtain ⟨ea', hlb'⟩ := HA'.out (by omega)
        subst ea ea'
        obtain ⟨c0, c1, c2, c3, c4, c5, cx⟩ := HC.out k hlt
        obtain ⟨d0, d1, d2, d3, d4, d5, dx⟩ := HC'.out k hlt'
        have zq0 := (hW.cell (p := ⟨b, off + k * 6, none⟩) hlb).trans c0
        have zq1 := (hW.cell (p := ⟨b, off + k * 6 + 1, none⟩) hlb).trans c1
        have zq2 := (hW.cell (p := ⟨b, off + k * 6 + 2, none⟩) hlb).trans c2
        have zq3 := (hW.cell (p := ⟨b, off + k * 6 + 3, none⟩) hlb).trans c3
        have zq4 := (hW.cell (p := ⟨b, off + k * 6 + 4, none⟩) hlb).trans c4
        have zq5 := (hW.cell (p := ⟨b, off + k * 6 + 5, none⟩) hlb).trans c5
        have z1 : B ≤ wr.heap.size := Nat.le_trans hB HR.out.size
        have y0 := (hW.cell (p := ⟨b', off' + k * 6, none⟩) hlb').trans d0
        have y1 := (hW.cell (p := ⟨b', off' + k * 6 + 1, none⟩) hlb').trans d1
        have y2 := (hW.cell (p := ⟨b', off' + k * 6 + 2, none⟩) hlb').trans d2
        have y3 := (hW.cell (p := ⟨b', off' + k * 6 + 3, none⟩) hlb').trans d3
        have y4 := (hW.cell (p := ⟨b', off' + k * 6 + 4, none⟩) hlb').trans d4
        have y5 := (hW.cell (p := ⟨b', off' + k * 6 + 5, none⟩) hlb').trans d5
        have z2 : b' < wr.heap.size := Nat.lt_of_lt_of_le hlb' z1
        have D := Lib.hid (chEs_drop k hlt hlt')
        have HK := Lib.hid (fun (W' : World) (h1 : Below B w0 W') (h2 : B ≤ W'.heap.size) (h3 : Tab W') (h4 : MaxL W') => chEq_any B w0 (xs.getD k default) (ys.getD k default) (us k) (us' k) cx dx (HN.out k hlt) W' h1 h2 h3 h4)
        have hu1 : ∃ a l c d m f o p q r s t, us k = CV.mk (.slice a l c) (.slice d m f) (.slice o p q) (.slice r s t) := by
          obtain ⟨a, l, c, ea⟩ := cx.tv.slice
          obtain ⟨d, m, f, ed⟩ := cx.pv.slice
          obtain ⟨o, p, q, eo⟩ := cx.iv.slice
          obtain ⟨r, s, t, er⟩ := cx.rv.slice
          refine ⟨a, l, c, d, m, f, o, p, q, r, s, t, ?_⟩
          cases hz : us k with
          | mk z1 z2 z3 z4 => rw [hz] at ea ed eo er; simp only at ea ed eo er; rw [ea, ed, eo, er]
        have hu2 : ∃ a l c d m f o p q r s t, us' k = CV.mk (.slice a l c) (.slice d m f) (.slice o p q) (.slice r s t) := by
          obtain ⟨a, l, c, ea⟩ := dx.tv.slice
          obtain ⟨d, m, f, ed⟩ := dx.pv.slice
          obtain ⟨o, p, q, eo⟩ := dx.iv.slice
          obtain ⟨r, s, t, er⟩ := dx.rv.slice
          refine ⟨a, l, c, d, m, f, o, p, q, r, s, t, ?_⟩
          cases hz : us' k with
          | mk z1 z2 z3 z4 => rw [hz] at ea ed eo er; simp only at ea ed eo er; rw [ea, ed, eo, er]
        clear c0 c1 c2 c3 c4 c5 cx d0 d1 d2 d3 d4 d5 dx hW
        generalize xs.getD k default = x at *
        generalize ys.getD k default = y at *
        generalize us k = uu at *
        generalize us' k = uu' at *
        obtain ⟨c, hcc⟩ : ∃ c, chE x y = c := ⟨_, rfl⟩
        rw [hcc] at D HK
        clear hcc
        obtain ⟨⟨nm1, ag1, ts1⟩, ps1, ⟨is1, rs1⟩⟩ := x
        obtain ⟨⟨nm2, ag2, ts2⟩, ps2, ⟨is2, rs2⟩⟩ := y
        obtain ⟨a1, l1, c1, d1, m1, f1, o1, p1, q1, r1, s1, t1, rfl⟩ := hu1
        obtain ⟨a2, l2, c2, d2, m2, f2, o2, p2, q2, r2, s2, t2, rfl⟩ := hu2
        simp only at zq0 y0 zq1 y1 zq2 y2 zq3 y3 zq4 y4 zq5 y5
        have BX := Lib.hid (belI_alloc (o := .cells #[.string ⟨nm2.toArray⟩, .int .i64 ag2, .slice a2 l2 c2, .slice d2 m2 f2, .slice o2 p2 q2, .slice r2 s2 t2] 132) (belI_alloc (o := .cells #[.string ⟨nm1.toArray⟩, .int .i64 ag1, .slice a1 l1 c1, .slice d1 m1 f1, .slice o1 p1 q1, .slice r1 s1 t1] 132) HR.out))
        go_wp2_with fail
        refine (HK.out _ (HB.out.trans (BX.out.mono hB)) (Nat.le_trans hB BX.out.size) (HT.out.below BX.out) (HM.out.below BX.out)).mono ?_
        rintro e w1 ⟨rfl, hb1⟩
        have B1 := Lib.hid (belI_step BX.out hb1)
        clear hb1
        cases c
        · go_wp2
          go_ret
          exact ⟨ret_b (by rw [HE.out, D.out]; rfl), B1.out⟩
        · go_wp2
          go_roundw
          case rel => exact ⟨k + 1, by omega, by go_num, by rw [HE.out, D.out]; rfl, B1.out⟩
          case measure => simp [intOf]; omega
      · obtain rfl : k = xs.length := by omega
        go_wp2
        go_ret
        exact ⟨ret_b (by rw [HE.out, List.drop_length, HL.out, List.drop_length]; rfl), HR.out⟩
  · have D := Lib.hid (chEs_len hl)
    have g1 : ((xs.length : Int) != (ys.length : Int)) = true := by simp only [bne_iff_ne, ne_eq]; omega
    clear hl
    go_enter Tryz.func92, Tryz.ntmps92
    go_wp2
    go_ret
    exact ⟨ret_b D.out.symm, Below.refl _ _⟩
end Go.Proofs.YtmaknkbmilcanaaGreatDoor.Pi
namespace Go.Proofs.YtmaknkbmilcanaaGreatDoor.Pi
open Go.RowKit
open Go.Proofs.YtmaknkbmilcanaaGreatDoor.Tx (TxtsIn ret_b)
open Go.Proofs.YtmaknkbmilcanaaGreatDoor.Qu (Hd)
open Go.Proofs.YtmaknkbmilcanaaGreatDoor.Po (belI_step belI_alloc)
open Go.Proofs.YtmaknkbmilcanaaGreatDoor.Ul (Tab MaxL)
def spB (p q : Pp) : Bool := ppB p && (decide (p.now = q.now) && (decide (p.next = q.next) && (plE p.pol q.pol && (chEs p.chs q.chs && ((p.log == q.log) && (p.wires == q.wires))))))
set_option maxRecDepth 100000 in
set_option maxHeartbeats 8000000 in
theorem spI_any (B : Nat) (w0 : World) (p q : Pp) (u u' : PV) (h : PpN (· < B) w0 u p) (h' : PpN (· < B) w0 u' q) (sm : Sm p) (W : World) (hb : Below B w0 W) (hB : B ≤ W.heap.size) (hT : Tab W) (hM : MaxL W) :
    Calls Tryz.prog 37 #[pV8 p u, pV8 q u'] W fun e w' => e = .returned (.bool (spB p q)) ∧ Below W.heap.size W w' := by
  have HO := Lib.hid (fun (W' : World) z1 z2 z3 z4 => ppI_any B w0 p u h sm W' z1 z2 z3 z4)
  have ES := Lib.hid (show spB p q = (ppB p && (decide (p.now = q.now) && (decide (p.next = q.next) && (plE p.pol q.pol && (chEs p.chs q.chs && ((p.log == q.log) && (p.wires == q.wires))))))) from rfl)
  have hnm : ∀ i, i < p.chs.length → (p.chs.getD i default).g.name.length ≤ 1048576 := fun i hi => (sm.ch i hi).name
  obtain ⟨ch1, pl1, now1, nx1, lo1, wi1⟩ := p
  obtain ⟨ch2, pl2, now2, nx2, lo2, wi2⟩ := q
  obtain ⟨u1, u2, u3, u4, u5⟩ := u
  obtain ⟨v1, v2, v3, v4, v5⟩ := u'
  obtain ⟨h1, h2, h3, h4, h5⟩ := h
  obtain ⟨k1, k2, k3, k4, k5⟩ := h'
  simp only at h1 h2 h3 h4 h5 k1 k2 k3 k4 k5 hnm ES
  have HP := Lib.hid (fun (W' : World) z1 z2 => plEq_any B w0 pl1 pl2 u2 u3 v2 v3 h2 k2 h3 k3 W' z1 z2)
  have HC := Lib.hid (fun (W' : World) z1 z2 z3 z4 => eqfC_any B w0 ch1 ch2 u1 v1 h1 k1 hnm W' z1 z2 z3 z4)
  have HL := Lib.hid (fun (W' : World) (hb' : Below B w0 W') => slEqEn_any (· < B) (· < B) lo1 lo2 u4 v4 W' (h4.blw hb') (k4.blw hb'))
  have HW := Lib.hid (fun (W' : World) z1 z2 => eqfW_any B w0 wi1 wi2 u5 v5 h5 k5 W' z1 z2)
  have HB := Lib.hid hb
  have HT := Lib.hid hT
  have HM := Lib.hid hM
  obtain ⟨rp1, ur1, rl1⟩ := pl1
  obtain ⟨rp2, ur2, rl2⟩ := pl2
  obtain ⟨a1, l1, c1, rfl⟩ := h1.slice
  obtain ⟨d1, m1, f1, rfl⟩ := h2.slice
  obtain ⟨o1, p1, q1, rfl⟩ := h3.slice
  obtain ⟨r1, s1, t1, rfl⟩ := h4.slice
  obtain ⟨e1, g1, i1, rfl⟩ := h5.slice
  obtain ⟨a2, l2, c2, rfl⟩ := k1.slice
  obtain ⟨d2, m2, f2, rfl⟩ := k2.slice
  obtain ⟨o2, p2, q2, rfl⟩ := k3.slice
  obtain ⟨r2, s2, t2, rfl⟩ := k4.slice
  obtain ⟨e2, g2, i2, rfl⟩ := k5.slice
  rw [ES.out]
  clear h1 h2 h3 h4 h5 k1 k2 k3 k4 k5 hb hT hM hnm ES sm
  generalize ppB ⟨ch1, ⟨rp1, ur1, rl1⟩, now1, nx1, lo1, wi1⟩ = b1 at *
  generalize plE ⟨rp1, ur1, rl1⟩ ⟨rp2, ur2, rl2⟩ = b4 at *
  generalize chEs ch1 ch2 = b5 at *
  generalize (lo1 == lo2) = b6 at *
  generalize (wi1 == wi2) = b7 at *
  obtain ⟨wa, hwa⟩ : ∃ wa, wa = (W.alloc (.cells #[.slice a1 l1 c1, .string ⟨rp1.toArray⟩, .slice d1 m1 f1, .slice o1 p1 q1, .int .i64 now1, .int .i64 nx1, .slice r1 s1 t1, .slice e1 g1 i1] 41)).alloc (.cells #[.slice a2 l2 c2, .string ⟨rp2.toArray⟩, .slice d2 m2 f2, .slice o2 p2 q2, .int .i64 now2, .int .i64 nx2, .slice r2 s2 t2, .slice e2 g2 i2] 41) := ⟨_, rfl⟩
  have B2 := Lib.hid (show Below W.heap.size W wa by rw [hwa]; exact ((Below.refl W.heap.size W).alloc (Nat.le_refl _) (.cells #[.slice a1 l1 c1, .string ⟨rp1.toArray⟩, .slice d1 m1 f1, .slice o1 p1 q1, .int .i64 now1, .int .i64 nx1, .slice r1 s1 t1, .slice e1 g1 i1] 41) |>.alloc (by simp) (.cells #[.slice a2 l2 c2, .string ⟨rp2.toArray⟩, .slice d2 m2 f2, .slice o2 p2 q2, .int .i64 now2, .int .i64 nx2, .slice r2 s2 t2, .slice e2 g2 i2] 41)))
  have K0 := Lib.hid (show Hd wa W.heap.size (.cells #[.slice a1 l1 c1, .string ⟨rp1.toArray⟩, .slice d1 m1 f1, .slice o1 p1 q1, .int .i64 now1, .int .i64 nx1, .slice r1 s1 t1, .slice e1 g1 i1] 41) by rw [hwa]; exact (Hd.new W (.cells #[.slice a1 l1 c1, .string ⟨rp1.toArray⟩, .slice d1 m1 f1, .slice o1 p1 q1, .int .i64 now1, .int .i64 nx1, .slice r1 s1 t1, .slice e1 g1 i1] 41)).al (.cells #[.slice a2 l2 c2, .string ⟨rp2.toArray⟩, .slice d2 m2 f2, .slice o2 p2 q2, .int .i64 now2, .int .i64 nx2, .slice r2 s2 t2, .slice e2 g2 i2] 41))
  have K1 := Lib.hid (show Hd wa (W.heap.size + 1) (.cells #[.slice a2 l2 c2, .string ⟨rp2.toArray⟩, .slice d2 m2 f2, .slice o2 p2 q2, .int .i64 now2, .int .i64 nx2, .slice r2 s2 t2, .slice e2 g2 i2] 41) by
    have := Hd.new (W.alloc (.cells #[.slice a1 l1 c1, .string ⟨rp1.toArray⟩, .slice d1 m1 f1, .slice o1 p1 q1, .int .i64 now1, .int .i64 nx1, .slice r1 s1 t1, .slice e1 g1 i1] 41)) (.cells #[.slice a2 l2 c2, .string ⟨rp2.toArray⟩, .slice d2 m2 f2, .slice o2 p2 q2, .int .i64 now2, .int .i64 nx2, .slice r2 s2 t2, .slice e2 g2 i2] 41)
    rw [hwa]
    simpa using this)
  by_cases hnow : now1 = now2
  rotate_left
  · have f5 : (now1 == now2) = false := by simpa using hnow
    have f6 : decide (now1 = now2) = false := by simpa using hnow
    clear HP HC HL HW
    go_enter Tryz.func37, Tryz.ntmps37
    go_upto_region 1 with fail
    rw [← hwa]
    clear hwa
    have kk := K0.out
    have x0 := cell_of_row wa (W.heap.size) 0 _ _ _ kk
    have x1 := cell_of_row wa (W.heap.size) 1 _ _ _ kk
    have x2 := cell_of_row wa (W.heap.size) 2 _ _ _ kk
    have x3 := cell_of_row wa (W.heap.size) 3 _ _ _ kk
    have x4 := cell_of_row wa (W.heap.size) 4 _ _ _ kk
    have x5 := cell_of_row wa (W.heap.size) 5 _ _ _ kk
    have x6 := cell_of_row wa (W.heap.size) 6 _ _ _ kk
    have x7 := cell_of_row wa (W.heap.size) 7 _ _ _ kk
    clear kk
    have kk := K1.out
    have y0 := cell_of_row wa (W.heap.size + 1) 0 _ _ _ kk
    have y1 := cell_of_row wa (W.heap.size + 1) 1 _ _ _ kk
    have y2 := cell_of_row wa (W.heap.size + 1) 2 _ _ _ kk
    have y3 := cell_of_row wa (W.heap.size + 1) 3 _ _ _ kk
    have y4 := cell_of_row wa (W.heap.size + 1) 4 _ _ _ kk
    have y5 := cell_of_row wa (W.heap.size + 1) 5 _ _ _ kk
    have y6 := cell_of_row wa (W.heap.size + 1) 6 _ _ _ kk
    have y7 := cell_of_row wa (W.heap.size + 1) 7 _ _ _ kk
    clear kk
    go_wp2_with fail
    refine (HO.out _ (HB.out.trans (B2.out.mono hB)) (Nat.le_trans hB B2.out.size) (HT.out.below B2.out) (HM.out.below B2.out)).mono ?_
    rintro e w1 ⟨rfl, hb1⟩
    have D1 := Lib.hid (belI_step B2.out hb1)
    have K0 := Lib.hid (K0.out.blw hb1)
    have K1 := Lib.hid (K1.out.blw hb1)
    clear hb1
    clear x0 y0 x1 y1 x2 y2 x3 y3 x4 y4 x5 y5 x6 y6 x7 y7
    have kk := K0.out
    have x0 := cell_of_row w1 (W.heap.size) 0 _ _ _ kk
    have x1 := cell_of_row w1 (W.heap.size) 1 _ _ _ kk
    have x2 := cell_of_row w1 (W.heap.size) 2 _ _ _ kk
    have x3 := cell_of_row w1 (W.heap.size) 3 _ _ _ kk
    have x4 := cell_of_row w1 (W.heap.size) 4 _ _ _ kk
    have x5 := cell_of_row w1 (W.heap.size) 5 _ _ _ kk
    have x6 := cell_of_row w1 (W.heap.size) 6 _ _ _ kk
    have x7 := cell_of_row w1 (W.heap.size) 7 _ _ _ kk
    clear kk
    have kk := K1.out
    have y0 := cell_of_row w1 (W.heap.size + 1) 0 _ _ _ kk
    have y1 := cell_of_row w1 (W.heap.size + 1) 1 _ _ _ kk
    have y2 := cell_of_row w1 (W.heap.size + 1) 2 _ _ _ kk
    have y3 := cell_of_row w1 (W.heap.size + 1) 3 _ _ _ kk
    have y4 := cell_of_row w1 (W.heap.size + 1) 4 _ _ _ kk
    have y5 := cell_of_row w1 (W.heap.size + 1) 5 _ _ _ kk
    have y6 := cell_of_row w1 (W.heap.size + 1) 6 _ _ _ kk
    have y7 := cell_of_row w1 (W.heap.size + 1) 7 _ _ _ kk
    clear kk
    cases b1 <;> (go_wp2; go_ret; exact ⟨ret_b (by simp [f6]), D1.out⟩)
  by_cases hnx : nx1 = nx2
  rotate_left
  · subst hnow
    have f5 : (nx1 == nx2) = false := by simpa using hnx
    have f6 : decide (nx1 = nx2) = false := by simpa using hnx
    clear HP HC HL HW
    go_enter Tryz.func37, Tryz.ntmps37
    go_upto_region 1 with fail
    rw [← hwa]
    clear hwa
    have kk := K0.out
    have x0 := cell_of_row wa (W.heap.size) 0 _ _ _ kk
    have x1 := cell_of_row wa (W.heap.size) 1 _ _ _ kk
    have x2 := cell_of_row wa (W.heap.size) 2 _ _ _ kk
    have x3 := cell_of_row wa (W.heap.size) 3 _ _ _ kk
    have x4 := cell_of_row wa (W.heap.size) 4 _ _ _ kk
    have x5 := cell_of_row wa (W.heap.size) 5 _ _ _ kk
    have x6 := cell_of_row wa (W.heap.size) 6 _ _ _ kk
    have x7 := cell_of_row wa (W.heap.size) 7 _ _ _ kk
    clear kk
    have kk := K1.out
    have y0 := cell_of_row wa (W.heap.size + 1) 0 _ _ _ kk
    have y1 := cell_of_row wa (W.heap.size + 1) 1 _ _ _ kk
    have y2 := cell_of_row wa (W.heap.size + 1) 2 _ _ _ kk
    have y3 := cell_of_row wa (W.heap.size + 1) 3 _ _ _ kk
    have y4 := cell_of_row wa (W.heap.size + 1) 4 _ _ _ kk
    have y5 := cell_of_row wa (W.heap.size + 1) 5 _ _ _ kk
    have y6 := cell_of_row wa (W.heap.size + 1) 6 _ _ _ kk
    have y7 := cell_of_row wa (W.heap.size + 1) 7 _ _ _ kk
    clear kk
    go_wp2_with fail
    refine (HO.out _ (HB.out.trans (B2.out.mono hB)) (Nat.le_trans hB B2.out.size) (HT.out.below B2.out) (HM.out.below B2.out)).mono ?_
    rintro e w1 ⟨rfl, hb1⟩
    have D1 := Lib.hid (belI_step B2.out hb1)
    have K0 := Lib.hid (K0.out.blw hb1)
    have K1 := Lib.hid (K1.out.blw hb1)
    clear hb1
    clear x0 y0 x1 y1 x2 y2 x3 y3 x4 y4 x5 y5 x6 y6 x7 y7
    have kk := K0.out
    have x0 := cell_of_row w1 (W.heap.size) 0 _ _ _ kk
    have x1 := cell_of_row w1 (W.heap.size) 1 _ _ _ kk
    have x2 := cell_of_row w1 (W.heap.size) 2 _ _ _ kk
    have x3 := cell_of_row w1 (W.heap.size) 3 _ _ _ kk
    have x4 := cell_of_row w1 (W.heap.size) 4 _ _ _ kk
    have x5 := cell_of_row w1 (W.heap.size) 5 _ _ _ kk
    have x6 := cell_of_row w1 (W.heap.size) 6 _ _ _ kk
    have x7 := cell_of_row w1 (W.heap.size) 7 _ _ _ kk
    clear kk
    have kk := K1.out
    have y0 := cell_of_row w1 (W.heap.size + 1) 0 _ _ _ kk
    have y1 := cell_of_row w1 (W.heap.size + 1) 1 _ _ _ kk
    have y2 := cell_of_row w1 (W.heap.size + 1) 2 _ _ _ kk
    have y3 := cell_of_row w1 (W.heap.size + 1) 3 _ _ _ kk
    have y4 := cell_of_row w1 (W.heap.size + 1) 4 _ _ _ kk
    have y5 := cell_of_row w1 (W.heap.size + 1) 5 _ _ _ kk
    have y6 := cell_of_row w1 (W.heap.size + 1) 6 _ _ _ kk
    have y7 := cell_of_row w1 (W.heap.size + 1) 7 _ _ _ kk
    clear kk
    cases b1 <;> (go_wp2; go_ret; exact ⟨ret_b (by simp [f6]), D1.out⟩)
  subst hnow hnx
  have EZ := Lib.hid (show (b1 && (decide (now1 = now1) && (decide (nx1 = nx1) && (b4 && (b5 && (b6 && b7)))))) = (b1 && (b4 && (b5 && (b6 && b7)))) by simp)
  rw [EZ.out]
  clear EZ
  go_enter Tryz.func37, Tryz.ntmps37
  go_upto_region 1 with fail
  rw [← hwa]
  clear hwa
  have kk := K0.out
  have x0 := cell_of_row wa (W.heap.size) 0 _ _ _ kk
  have x1 := cell_of_row wa (W.heap.size) 1 _ _ _ kk
  have x2 := cell_of_row wa (W.heap.size) 2 _ _ _ kk
  have x3 := cell_of_row wa (W.heap.size) 3 _ _ _ kk
  have x4 := cell_of_row wa (W.heap.size) 4 _ _ _ kk
  have x5 := cell_of_row wa (W.heap.size) 5 _ _ _ kk
  have x6 := cell_of_row wa (W.heap.size) 6 _ _ _ kk
  have x7 := cell_of_row wa (W.heap.size) 7 _ _ _ kk
  clear kk
  have kk := K1.out
  have y0 := cell_of_row wa (W.heap.size + 1) 0 _ _ _ kk
  have y1 := cell_of_row wa (W.heap.size + 1) 1 _ _ _ kk
  have y2 := cell_of_row wa (W.heap.size + 1) 2 _ _ _ kk
  have y3 := cell_of_row wa (W.heap.size + 1) 3 _ _ _ kk
  have y4 := cell_of_row wa (W.heap.size + 1) 4 _ _ _ kk
  have y5 := cell_of_row wa (W.heap.size + 1) 5 _ _ _ kk
  have y6 := cell_of_row wa (W.heap.size + 1) 6 _ _ _ kk
  have y7 := cell_of_row wa (W.heap.size + 1) 7 _ _ _ kk
  clear kk
  go_wp2_with fail
  refine (HO.out _ (HB.out.trans (B2.out.mono hB)) (Nat.le_trans hB B2.out.size) (HT.out.below B2.out) (HM.out.below B2.out)).mono ?_
  rintro e w1 ⟨rfl, hb1⟩
  have D1 := Lib.hid (belI_step B2.out hb1)
  have K0 := Lib.hid (K0.out.blw hb1)
  have K1 := Lib.hid (K1.out.blw hb1)
  clear hb1
  clear x0 y0 x1 y1 x2 y2 x3 y3 x4 y4 x5 y5 x6 y6 x7 y7
  have kk := K0.out
  have x0 := cell_of_row w1 (W.heap.size) 0 _ _ _ kk
  have x1 := cell_of_row w1 (W.heap.size) 1 _ _ _ kk
  have x2 := cell_of_row w1 (W.heap.size) 2 _ _ _ kk
  have x3 := cell_of_row w1 (W.heap.size) 3 _ _ _ kk
  have x4 := cell_of_row w1 (W.heap.size) 4 _ _ _ kk
  have x5 := cell_of_row w1 (W.heap.size) 5 _ _ _ kk
  have x6 := cell_of_row w1 (W.heap.size) 6 _ _ _ kk
  have x7 := cell_of_row w1 (W.heap.size) 7 _ _ _ kk
  clear kk
  have kk := K1.out
  have y0 := cell_of_row w1 (W.heap.size + 1) 0 _ _ _ kk
  have y1 := cell_of_row w1 (W.heap.size + 1) 1 _ _ _ kk
  have y2 := cell_of_row w1 (W.heap.size + 1) 2 _ _ _ kk
  have y3 := cell_of_row w1 (W.heap.size + 1) 3 _ _ _ kk
  have y4 := cell_of_row w1 (W.heap.size + 1) 4 _ _ _ kk
  have y5 := cell_of_row w1 (W.heap.size + 1) 5 _ _ _ kk
  have y6 := cell_of_row w1 (W.heap.size + 1) 6 _ _ _ kk
  have y7 := cell_of_row w1 (W.heap.size + 1) 7 _ _ _ kk
  clear kk
  cases b1
  · clear HP HC HL HW
    go_wp2
    go_ret
    exact ⟨ret_b (by simp), D1.out⟩
  go_wp2_with fail
  refine (HP.out _ (HB.out.trans (D1.out.mono hB)) (Nat.le_trans hB D1.out.size)).mono ?_
  rintro e w2 ⟨rfl, hb1⟩
  have D2 := Lib.hid (belI_step D1.out hb1)
  have K0 := Lib.hid (K0.out.blw hb1)
  have K1 := Lib.hid (K1.out.blw hb1)
  clear hb1
  clear x0 y0 x1 y1 x2 y2 x3 y3 x4 y4 x5 y5 x6 y6 x7 y7
  have kk := K0.out
  have x0 := cell_of_row w2 (W.heap.size) 0 _ _ _ kk
  have x1 := cell_of_row w2 (W.heap.size) 1 _ _ _ kk
  have x2 := cell_of_row w2 (W.heap.size) 2 _ _ _ kk
  have x3 := cell_of_row w2 (W.heap.size) 3 _ _ _ kk
  have x4 := cell_of_row w2 (W.heap.size) 4 _ _ _ kk
  have x5 := cell_of_row w2 (W.heap.size) 5 _ _ _ kk
  have x6 := cell_of_row w2 (W.heap.size) 6 _ _ _ kk
  have x7 := cell_of_row w2 (W.heap.size) 7 _ _ _ kk
  clear kk
  have kk := K1.out
  have y0 := cell_of_row w2 (W.heap.size + 1) 0 _ _ _ kk
  have y1 := cell_of_row w2 (W.heap.size + 1) 1 _ _ _ kk
  have y2 := cell_of_row w2 (W.heap.size + 1) 2 _ _ _ kk
  have y3 := cell_of_row w2 (W.heap.size + 1) 3 _ _ _ kk
  have y4 := cell_of_row w2 (W.heap.size + 1) 4 _ _ _ kk
  have y5 := cell_of_row w2 (W.heap.size + 1) 5 _ _ _ kk
  have y6 := cell_of_row w2 (W.heap.size + 1) 6 _ _ _ kk
  have y7 := cell_of_row w2 (W.heap.size + 1) 7 _ _ _ kk
  clear kk
  cases b4
  · clear HC HL HW
    go_wp2
    go_ret
    exact ⟨ret_b (by simp), D2.out⟩
  go_wp2_with fail
  refine (HC.out _ (HB.out.trans (D2.out.mono hB)) (Nat.le_trans hB D2.out.size) (HT.out.below D2.out) (HM.out.below D2.out)).mono ?_
  rintro e w3 ⟨rfl, hb1⟩
  have D3 := Lib.hid (belI_step D2.out hb1)
  have K0 := Lib.hid (K0.out.blw hb1)
  have K1 := Lib.hid (K1.out.blw hb1)
  clear hb1
  clear x0 y0 x1 y1 x2 y2 x3 y3 x4 y4 x5 y5 x6 y6 x7 y7
  have kk := K0.out
  have x0 := cell_of_row w3 (W.heap.size) 0 _ _ _ kk
  have x1 := cell_of_row w3 (W.heap.size) 1 _ _ _ kk
  have x2 := cell_of_row w3 (W.heap.size) 2 _ _ _ kk
  have x3 := cell_of_row w3 (W.heap.size) 3 _ _ _ kk
  have x4 := cell_of_row w3 (W.heap.size) 4 _ _ _ kk
  have x5 := cell_of_row w3 (W.heap.size) 5 _ _ _ kk
  have x6 := cell_of_row w3 (W.heap.size) 6 _ _ _ kk
  have x7 := cell_of_row w3 (W.heap.size) 7 _ _ _ kk
  clear kk
  have kk := K1.out
  have y0 := cell_of_row w3 (W.heap.size + 1) 0 _ _ _ kk
  have y1 := cell_of_row w3 (W.heap.size + 1) 1 _ _ _ kk
  have y2 := cell_of_row w3 (W.heap.size + 1) 2 _ _ _ kk
  have y3 := cell_of_row w3 (W.heap.size + 1) 3 _ _ _ kk
  have y4 := cell_of_row w3 (W.heap.size + 1) 4 _ _ _ kk
  have y5 := cell_of_row w3 (W.heap.size + 1) 5 _ _ _ kk
  have y6 := cell_of_row w3 (W.heap.size + 1) 6 _ _ _ kk
  have y7 := cell_of_row w3 (W.heap.size + 1) 7 _ _ _ kk
  clear kk
  cases b5
  · clear HL HW
    go_wp2
    go_ret
    exact ⟨ret_b (by simp), D3.out⟩
  go_wp2_with fail
  refine (HL.out _ (HB.out.trans (D3.out.mono hB))).mono ?_
  rintro e w4 ⟨rfl, nn, rfl⟩
  have D4 := Lib.hid (Qu.belDrew D3.out nn)
  cases b6
  · clear HW
    go_wp2
    go_ret
    exact ⟨ret_b (by simp), D4.out⟩
  go_wp2_with fail
  refine (HW.out _ (HB.out.trans (D4.out.mono hB)) (Nat.le_trans hB D4.out.size)).mono ?_
  rintro e w5 ⟨rfl, hb1⟩
  have D5 := Lib.hid (belI_step D4.out hb1)
  clear hb1
  go_wp2
  go_ret
  exact ⟨ret_b (by simp), D5.out⟩
end Go.Proofs.YtmaknkbmilcanaaGreatDoor.Pi
namespace Go.Proofs.YtmaknkbmilcanaaGreatDoor.Pi
open Go.RowKit
open Go.Proofs.YtmaknkbmilcanaaGreatDoor.Tx (TxtsIn ret_b)
open Go.Proofs.YtmaknkbmilcanaaGreatDoor.Qu (IntsIn Hd)
open Go.Proofs.YtmaknkbmilcanaaGreatDoor.Po (belI_step belI_alloc)
theorem belI_drewN {B : Nat} {a w : World} (h : Below B a w) (n : Nat) : Below B a (w.drewN n) := ⟨h.os, h.tape, h.output, h.size, h.block⟩
theorem is_drop {xs ys : List Int} (k : Nat) (hx : k < xs.length) (hy : k < ys.length) : (xs.drop k == ys.drop k) = ((xs.getD k 0 == ys.getD k 0) && (xs.drop (k + 1) == ys.drop (k + 1))) := by
  rw [List.drop_eq_getElem_cons hx, List.drop_eq_getElem_cons hy, List.cons_beq_cons]
  simp [hx, hy]
set_option maxRecDepth 100000 in
set_option maxHeartbeats 2000000 in
theorem sameI_any (xs ys : List Int) (v u : Value) (w : World) (h1 : IntsIn (· < w.heap.size) w v xs) (h2 : IntsIn (· < w.heap.size) w u ys) :
    Calls Tryz.prog 87 #[v, u] w fun e w' => e = .returned (.bool (xs == ys)) ∧ Below w.heap.size w w' := by
  obtain ⟨a, cap, b, off, rfl, hcap, hm, ha, hc⟩ := h1
  obtain ⟨a', cap', b', off', rfl, hcap', hm', ha', hc'⟩ := h2
  have hn : xs.length ≤ 9223372036854775807 := by omega
  have hn' : ys.length ≤ 9223372036854775807 := by omega
  have HC := Lib.hid hc
  have HA := Lib.hid ha
  have HC' := Lib.hid hc'
  have HA' := Lib.hid ha'
  clear hc ha hc' ha'
  have B0 := Lib.hid (Below.refl w.heap.size w)
  by_cases hl : xs.length = ys.length
  · have HL := Lib.hid hl
    have g1 : ((xs.length : Int) != (ys.length : Int)) = false := by simp [hl]
    clear hl
    go_enter Tryz.func87, Tryz.ntmps87
    go_wp2
    go_loopw [5] (fun i wr => ∃ k : Nat, k ≤ xs.length ∧ i = .int .i64 k ∧ (xs == ys) = (xs.drop k == ys.drop k) ∧ Below w.heap.size w wr) (fun i _ => xs.length - (intOf i).toNat)
    case atStart => exact ⟨0, by omega, rfl, rfl, B0.out⟩
    case round =>
      obtain ⟨k, hk, rfl, hE, hR⟩ := hrel
      have HE := Lib.hid hE
      have HR := Lib.hid hR
      clear hE hR
      by_cases hlt : k < xs.length
      · have hlt' : k < ys.length := by have := HL.out; omega
        obtain ⟨ea, hlb⟩ := HA.out (by omega)
        obtain ⟨ea', hlb'⟩ := HA'.out (by omega)
        subst ea ea'
        have q0 := (HR.out.cell (p := ⟨b, off + k, none⟩) hlb).trans (HC.out k hlt)
        have q1 := (HR.out.cell (p := ⟨b', off' + k, none⟩) hlb').trans (HC'.out k hlt')
        have D := Lib.hid (is_drop k hlt hlt')
        generalize xs.getD k 0 = x at *
        generalize ys.getD k 0 = y at *
        by_cases hxy : x = y
        · subst hxy
          have e1 : (x != x) = false := by simp
          have D2 := Lib.hid (show (xs == ys) = (xs.drop (k + 1) == ys.drop (k + 1)) by rw [HE.out, D.out]; simp)
          clear D
          go_wp2_with fail
          go_quiet (fail)
          go_wp2
          go_roundw
          case rel => exact ⟨k + 1, by omega, by go_num, D2.out, belI_drewN HR.out _⟩
          case measure => simp [intOf]; omega
        · have e1 : (x != y) = true := by simp [hxy]
          have D2 := Lib.hid (show (xs == ys) = false by rw [HE.out, D.out]; simp [hxy])
          clear D
          go_wp2_with fail
          go_quiet (fail)
          go_wp2
          go_ret
          exact ⟨ret_b D2.out.symm, belI_drewN HR.out _⟩
      · have hkI : ¬ ((k : Int) < (xs.length : Int)) := by omega
        obtain rfl : k = xs.length := by omega
        have D2 := Lib.hid (show (xs == ys) = true by rw [HE.out, List.drop_length, HL.out, List.drop_length]; rfl)
        go_wp2
        go_ret
        exact ⟨ret_b D2.out.symm, HR.out⟩
  · have g1 : ((xs.length : Int) != (ys.length : Int)) = true := by simp; omega
    have D2 := Lib.hid (show (xs == ys) = false by
      have : xs ≠ ys := fun e => hl (by rw [e])
      simpa using this)
    clear hl
    go_enter Tryz.func87, Tryz.ntmps87
    go_wp2
    go_ret
    exact ⟨ret_b D2.out.symm, B0.out⟩
set_option maxRecDepth 100000 in
set_option maxHeartbeats 4000000 in
theorem wiS_any (B : Nat) (w0 : World) (x y : Wi) (u u' : WV) (h : WiN (· < B) w0 u x) (h' : WiN (· < B) w0 u' y) (W : World) (hb : Below B w0 W) (hB : B ≤ W.heap.size) :
    Calls Tryz.prog 152 #[wV x u, wV y u'] W fun e w' => e = .returned (.bool (x == y)) ∧ Below W.heap.size W w' := by
  obtain ⟨t1, s1, g1, u1, i1, b1, l1⟩ := x
  obtain ⟨t2, s2, g2, u2, i2, b2, l2⟩ := y
  obtain ⟨v1⟩ := u
  obtain ⟨v2⟩ := u'
  obtain ⟨h1⟩ := h
  obtain ⟨h2⟩ := h'
  simp only at h1 h2
  have HE := Lib.hid (fun (W' : World) (hb' : Below B w0 W') (hz : B ≤ W'.heap.size) => sameI_any i1 i2 v1 v2 W' ((h1.blw hb').mono fun _ hb => Nat.lt_of_lt_of_le hb hz) ((h2.blw hb').mono fun _ hb => Nat.lt_of_lt_of_le hb hz))
  have ES := Lib.hid (show ((⟨t1, s1, g1, u1, i1, b1, l1⟩ : Wi) == ⟨t2, s2, g2, u2, i2, b2, l2⟩) = (decide (t1 = t2) && (decide (s1 = s2) && (decide (g1 = g2) && (decide (u1 = u2) && ((i1 == i2) && (decide (b1 = b2) && decide (l1 = l2))))))) by
    rw [Bool.eq_iff_iff]; simp)
  have HB := Lib.hid hb
  obtain ⟨a1, n1, c1, rfl⟩ : ∃ a l c, v1 = .slice a l c := by obtain ⟨a, c, e⟩ := h1.slice2; exact ⟨_, _, _, e⟩
  obtain ⟨a2, n2, c2, rfl⟩ : ∃ a l c, v2 = .slice a l c := by obtain ⟨a, c, e⟩ := h2.slice2; exact ⟨_, _, _, e⟩
  rw [ES.out]
  clear h1 h2 hb ES
  generalize (i1 == i2) = bi at *
  have B2 := Lib.hid ((Below.refl W.heap.size W).alloc (Nat.le_refl _) (.cells #[.int .i64 t1, .int .i64 s1, .string ⟨g1.toArray⟩, .string ⟨u1.toArray⟩, .slice a1 n1 c1, .string ⟨b1.toArray⟩, .bool l1] 142) |>.alloc (by simp) (.cells #[.int .i64 t2, .int .i64 s2, .string ⟨g2.toArray⟩, .string ⟨u2.toArray⟩, .slice a2 n2 c2, .string ⟨b2.toArray⟩, .bool l2] 142))
  have K0 := Lib.hid ((Hd.new W (.cells #[.int .i64 t1, .int .i64 s1, .string ⟨g1.toArray⟩, .string ⟨u1.toArray⟩, .slice a1 n1 c1, .string ⟨b1.toArray⟩, .bool l1] 142)).al (.cells #[.int .i64 t2, .int .i64 s2, .string ⟨g2.toArray⟩, .string ⟨u2.toArray⟩, .slice a2 n2 c2, .string ⟨b2.toArray⟩, .bool l2] 142))
  have K1 := Lib.hid (show Hd ((W.alloc (.cells #[.int .i64 t1, .int .i64 s1, .string ⟨g1.toArray⟩, .string ⟨u1.toArray⟩, .slice a1 n1 c1, .string ⟨b1.toArray⟩, .bool l1] 142)).alloc (.cells #[.int .i64 t2, .int .i64 s2, .string ⟨g2.toArray⟩, .string ⟨u2.toArray⟩, .slice a2 n2 c2, .string ⟨b2.toArray⟩, .bool l2] 142)) (W.heap.size + 1) (.cells #[.int .i64 t2, .int .i64 s2, .string ⟨g2.toArray⟩, .string ⟨u2.toArray⟩, .slice a2 n2 c2, .string ⟨b2.toArray⟩, .bool l2] 142) by
    have := Hd.new (W.alloc (.cells #[.int .i64 t1, .int .i64 s1, .string ⟨g1.toArray⟩, .string ⟨u1.toArray⟩, .slice a1 n1 c1, .string ⟨b1.toArray⟩, .bool l1] 142)) (.cells #[.int .i64 t2, .int .i64 s2, .string ⟨g2.toArray⟩, .string ⟨u2.toArray⟩, .slice a2 n2 c2, .string ⟨b2.toArray⟩, .bool l2] 142)
    simpa using this)
  have Z2 := Lib.hid (show W.heap.size + 1 < ((W.alloc (.cells #[.int .i64 t1, .int .i64 s1, .string ⟨g1.toArray⟩, .string ⟨u1.toArray⟩, .slice a1 n1 c1, .string ⟨b1.toArray⟩, .bool l1] 142)).alloc (.cells #[.int .i64 t2, .int .i64 s2, .string ⟨g2.toArray⟩, .string ⟨u2.toArray⟩, .slice a2 n2 c2, .string ⟨b2.toArray⟩, .bool l2] 142)).heap.size by simp)
  go_enter Tryz.func152, Tryz.ntmps152
  go_upto_region 1 with fail
  generalize (W.alloc (.cells #[.int .i64 t1, .int .i64 s1, .string ⟨g1.toArray⟩, .string ⟨u1.toArray⟩, .slice a1 n1 c1, .string ⟨b1.toArray⟩, .bool l1] 142)).alloc (.cells #[.int .i64 t2, .int .i64 s2, .string ⟨g2.toArray⟩, .string ⟨u2.toArray⟩, .slice a2 n2 c2, .string ⟨b2.toArray⟩, .bool l2] 142) = w1 at *
  have z2 := Z2.out
  have z1 : W.heap.size < w1.heap.size := by omega
  have zB : B ≤ w1.heap.size := by omega
  have DB := Lib.hid (HB.out.trans (B2.out.mono hB))
  have kk := K0.out
  have m0 := cell_of_row w1 (W.heap.size) 0 _ _ _ kk
  have m1 := cell_of_row w1 (W.heap.size) 1 _ _ _ kk
  have m2 := cell_of_row w1 (W.heap.size) 2 _ _ _ kk
  have m3 := cell_of_row w1 (W.heap.size) 3 _ _ _ kk
  have m4 := cell_of_row w1 (W.heap.size) 4 _ _ _ kk
  have m5 := cell_of_row w1 (W.heap.size) 5 _ _ _ kk
  have m6 := cell_of_row w1 (W.heap.size) 6 _ _ _ kk
  clear kk
  have kk := K1.out
  have n0_ := cell_of_row w1 (W.heap.size + 1) 0 _ _ _ kk
  have n1_ := cell_of_row w1 (W.heap.size + 1) 1 _ _ _ kk
  have n2_ := cell_of_row w1 (W.heap.size + 1) 2 _ _ _ kk
  have n3_ := cell_of_row w1 (W.heap.size + 1) 3 _ _ _ kk
  have n4_ := cell_of_row w1 (W.heap.size + 1) 4 _ _ _ kk
  have n5_ := cell_of_row w1 (W.heap.size + 1) 5 _ _ _ kk
  have n6_ := cell_of_row w1 (W.heap.size + 1) 6 _ _ _ kk
  clear kk Z2
  by_cases ht : t1 = t2
  rotate_left
  · have f5 : (t1 == t2) = false := by simpa using ht
    have f6 : decide (t1 = t2) = false := by simpa using ht
    clear m4 m5 m6 n4_ n5_ n6_ HE
    go_wp2
    go_ret
    exact ⟨ret_b (by simp [*]), B2.out⟩
  subst ht
  by_cases hs : s1 = s2
  rotate_left
  · have f5 : (s1 == s2) = false := by simpa using hs
    have f6 : decide (s1 = s2) = false := by simpa using hs
    clear m4 m5 m6 n4_ n5_ n6_ HE
    go_wp2
    go_ret
    exact ⟨ret_b (by simp [*]), B2.out⟩
  subst hs
  by_cases hg : g1 = g2
  rotate_left
  · have f5 : (g1 == g2) = false := by simpa using hg
    have f6 : decide (g1 = g2) = false := by simpa using hg
    clear m4 m5 m6 n4_ n5_ n6_ HE
    go_wp2
    go_ret
    exact ⟨ret_b (by simp [*]), B2.out⟩
  subst hg
  by_cases hu : u1 = u2
  rotate_left
  · have f5 : (u1 == u2) = false := by simpa using hu
    have f6 : decide (u1 = u2) = false := by simpa using hu
    clear m4 m5 m6 n4_ n5_ n6_ HE
    go_wp2
    go_ret
    exact ⟨ret_b (by simp [*]), B2.out⟩
  subst hu
  cases bi
  · go_wp2_with fail
    refine (HE.out _ DB.out zB).mono ?_
    rintro e w2 ⟨rfl, hb9⟩
    clear m0 m1 m2 m3 m4 m5 m6 n0_ n1_ n2_ n3_ n4_ n5_ n6_
    have kk := K0.out.blw hb9
    have m5 := cell_of_row w2 (W.heap.size) 5 _ _ _ kk
    have m6 := cell_of_row w2 (W.heap.size) 6 _ _ _ kk
    clear kk
    have kk := K1.out.blw hb9
    have n5_ := cell_of_row w2 (W.heap.size + 1) 5 _ _ _ kk
    have n6_ := cell_of_row w2 (W.heap.size + 1) 6 _ _ _ kk
    clear kk
    have D2 := Lib.hid (belI_step B2.out hb9)
    clear hb9
    clear B2 DB HE
    go_wp2
    go_ret
    exact ⟨ret_b (by simp [*]), D2.out⟩
  by_cases hb : b1 = b2
  rotate_left
  · have f5 : (b1 == b2) = false := by simpa using hb
    have f6 : decide (b1 = b2) = false := by simpa using hb
    go_wp2_with fail
    refine (HE.out _ DB.out zB).mono ?_
    rintro e w2 ⟨rfl, hb9⟩
    clear m0 m1 m2 m3 m4 m5 m6 n0_ n1_ n2_ n3_ n4_ n5_ n6_
    have kk := K0.out.blw hb9
    have m5 := cell_of_row w2 (W.heap.size) 5 _ _ _ kk
    have m6 := cell_of_row w2 (W.heap.size) 6 _ _ _ kk
    clear kk
    have kk := K1.out.blw hb9
    have n5_ := cell_of_row w2 (W.heap.size + 1) 5 _ _ _ kk
    have n6_ := cell_of_row w2 (W.heap.size + 1) 6 _ _ _ kk
    clear kk
    have D2 := Lib.hid (belI_step B2.out hb9)
    clear hb9
    clear B2 DB HE
    go_wp2
    go_ret
    exact ⟨ret_b (by simp [*]), D2.out⟩
  subst hb
  by_cases hl : l1 = l2
  rotate_left
  · have f5 : (l1 == l2) = false := by simpa using hl
    have f6 : decide (l1 = l2) = false := by simpa using hl
    go_wp2_with fail
    refine (HE.out _ DB.out zB).mono ?_
    rintro e w2 ⟨rfl, hb9⟩
    clear m0 m1 m2 m3 m4 m5 m6 n0_ n1_ n2_ n3_ n4_ n5_ n6_
    have kk := K0.out.blw hb9
    have m5 := cell_of_row w2 (W.heap.size) 5 _ _ _ kk
    have m6 := cell_of_row w2 (W.heap.size) 6 _ _ _ kk
    clear kk
    have kk := K1.out.blw hb9
    have n5_ := cell_of_row w2 (W.heap.size + 1) 5 _ _ _ kk
    have n6_ := cell_of_row w2 (W.heap.size + 1) 6 _ _ _ kk
    clear kk
    have D2 := Lib.hid (belI_step B2.out hb9)
    clear hb9
    clear B2 DB HE
    go_wp2
    go_ret
    exact ⟨ret_b (by simp [*]), D2.out⟩
  subst hl
  go_wp2_with fail
  refine (HE.out _ DB.out zB).mono ?_
  rintro e w2 ⟨rfl, hb9⟩
  clear m0 m1 m2 m3 m4 m5 m6 n0_ n1_ n2_ n3_ n4_ n5_ n6_
  have kk := K0.out.blw hb9
  have m5 := cell_of_row w2 (W.heap.size) 5 _ _ _ kk
  have m6 := cell_of_row w2 (W.heap.size) 6 _ _ _ kk
  clear kk
  have kk := K1.out.blw hb9
  have n5_ := cell_of_row w2 (W.heap.size + 1) 5 _ _ _ kk
  have n6_ := cell_of_row w2 (W.heap.size + 1) 6 _ _ _ kk
  clear kk
  have D2 := Lib.hid (belI_step B2.out hb9)
  clear hb9
  clear B2 DB HE
  go_wp2
  go_ret
  exact ⟨ret_b (by simp [*]), D2.out⟩
end Go.Proofs.YtmaknkbmilcanaaGreatDoor.Pi
namespace Go.Proofs.YtmaknkbmilcanaaGreatDoor.Pi
open Go.RowKit
open Go.Proofs.YtmaknkbmilcanaaGreatDoor.Tx (TxtsIn ret_b)
open Go.Proofs.YtmaknkbmilcanaaGreatDoor.Gr (Tg Gp TgIn gV same3)
open Go.Proofs.YtmaknkbmilcanaaGreatDoor.Pe (Pr PrIn pV)
open Go.Proofs.YtmaknkbmilcanaaGreatDoor.Qu (Rep Q RpIn IntsIn qV samB Hd)
open Go.Proofs.YtmaknkbmilcanaaGreatDoor.Po (belI_step belI_alloc)
def chS (a b : Cn) : Bool := same3 a.g b.g && ((a.ps == b.ps) && samB a.q b.q)
theorem pr_drop {xs ys : List Pr} (k : Nat) (hx : k < xs.length) (hy : k < ys.length) : (xs.drop k == ys.drop k) = ((xs.getD k default == ys.getD k default) && (xs.drop (k + 1) == ys.drop (k + 1))) := by
  rw [List.drop_eq_getElem_cons hx, List.drop_eq_getElem_cons hy, List.cons_beq_cons]
  simp [hx, hy]
theorem pr_len {xs ys : List Pr} (h : xs.length ≠ ys.length) : (xs == ys) = false := by
  have : xs ≠ ys := fun e => h (by rw [e])
  simpa using this
set_option maxRecDepth 100000 in
set_option maxHeartbeats 8000000 in
theorem chS_any (B : Nat) (w0 : World) (x y : Cn) (u u' : CV) (h : CnN (· < B) w0 u x) (h' : CnN (· < B) w0 u' y) (W : World) (hb : Below B w0 W) (hB : B ≤ W.heap.size) :
    Calls Tryz.prog 151 #[cV x u, cV y u'] W fun e w' => e = .returned (.bool (chS x y)) ∧ Below W.heap.size W w' := by
  obtain ⟨g1, ps1, q1⟩ := x
  obtain ⟨g2, ps2, q2⟩ := y
  obtain ⟨v1, v2, v3, v4⟩ := u
  obtain ⟨v1', v2', v3', v4'⟩ := u'
  obtain ⟨h1, h2, h3, h4⟩ := h
  obtain ⟨h1', h2', h3', h4'⟩ := h'
  simp only at h1 h2 h3 h4 h1' h2' h3' h4'
  have HG := Lib.hid (fun W' a b => Gr.same3_any B w0 g1 g2 v1 v1' h1 h1' W' a b)
  have HQ := Lib.hid (fun W' a b => Qu.l06Same_any B w0 q1 q2 v3 v4 v3' v4' h3 h4 h3' h4' W' a b)
  have ES := Lib.hid (show chS ⟨g1, ps1, q1⟩ ⟨g2, ps2, q2⟩ = (same3 g1 g2 && ((ps1 == ps2) && samB q1 q2)) from rfl)
  obtain ⟨ta1, tl1, tc1, rfl⟩ : ∃ a l c, v1 = .slice a l c := h1.slice
  obtain ⟨ta2, tl2, tc2, rfl⟩ : ∃ a l c, v1' = .slice a l c := h1'.slice
  obtain ⟨ia1, il1, ic1, rfl⟩ : ∃ a l c, v3 = .slice a l c := h3.slice
  obtain ⟨ia2, il2, ic2, rfl⟩ : ∃ a l c, v3' = .slice a l c := h3'.slice
  obtain ⟨ra1, rl1, rc1, rfl⟩ : ∃ a l c, v4 = .slice a l c := h4.slice
  obtain ⟨ra2, rl2, rc2, rfl⟩ : ∃ a l c, v4' = .slice a l c := h4'.slice
  obtain ⟨pa1, pc1, pb1, po1, rfl, hc1, hm1, -, ha1, hd1⟩ := h2
  obtain ⟨pa2, pc2, pb2, po2, rfl, hc2, hm2, -, ha2, hd2⟩ := h2'
  have HA := Lib.hid ha1
  have HA' := Lib.hid ha2
  have HC := Lib.hid hd1
  have HC' := Lib.hid hd2
  obtain ⟨nm1, ag1, tg1⟩ := g1
  obtain ⟨nm2, ag2, tg2⟩ := g2
  obtain ⟨it1, re1⟩ := q1
  obtain ⟨it2, re2⟩ := q2
  have hn : ps1.length ≤ 9223372036854775807 := by omega
  have hn' : ps2.length ≤ 9223372036854775807 := by omega
  have HB := Lib.hid hb
  rw [ES.out]
  clear h1 h3 h4 h1' h3' h4' ha1 ha2 hd1 hd2 hc1 hm1 hc2 hm2 hb ES
  generalize same3 ⟨nm1, ag1, tg1⟩ ⟨nm2, ag2, tg2⟩ = s3 at *
  generalize samB ⟨it1, re1⟩ ⟨it2, re2⟩ = s6 at *
  obtain ⟨wa, hwa⟩ : ∃ wa, wa = (W.alloc (.cells #[.string ⟨nm1.toArray⟩, .int .i64 ag1, .slice ta1 tl1 tc1, .slice pa1 ps1.length pc1, .slice ia1 il1 ic1, .slice ra1 rl1 rc1] 132)).alloc (.cells #[.string ⟨nm2.toArray⟩, .int .i64 ag2, .slice ta2 tl2 tc2, .slice pa2 ps2.length pc2, .slice ia2 il2 ic2, .slice ra2 rl2 rc2] 132) := ⟨_, rfl⟩
  have BA := Lib.hid (show Below W.heap.size W wa by rw [hwa]; exact ((Below.refl W.heap.size W).alloc (Nat.le_refl _) (.cells #[.string ⟨nm1.toArray⟩, .int .i64 ag1, .slice ta1 tl1 tc1, .slice pa1 ps1.length pc1, .slice ia1 il1 ic1, .slice ra1 rl1 rc1] 132) |>.alloc (by simp) (.cells #[.string ⟨nm2.toArray⟩, .int .i64 ag2, .slice ta2 tl2 tc2, .slice pa2 ps2.length pc2, .slice ia2 il2 ic2, .slice ra2 rl2 rc2] 132)))
  have K0 := Lib.hid (show Hd wa W.heap.size (.cells #[.string ⟨nm1.toArray⟩, .int .i64 ag1, .slice ta1 tl1 tc1, .slice pa1 ps1.length pc1, .slice ia1 il1 ic1, .slice ra1 rl1 rc1] 132) by rw [hwa]; exact (Hd.new W (.cells #[.string ⟨nm1.toArray⟩, .int .i64 ag1, .slice ta1 tl1 tc1, .slice pa1 ps1.length pc1, .slice ia1 il1 ic1, .slice ra1 rl1 rc1] 132)).al (.cells #[.string ⟨nm2.toArray⟩, .int .i64 ag2, .slice ta2 tl2 tc2, .slice pa2 ps2.length pc2, .slice ia2 il2 ic2, .slice ra2 rl2 rc2] 132))
  have K1 := Lib.hid (show Hd wa (W.heap.size + 1) (.cells #[.string ⟨nm2.toArray⟩, .int .i64 ag2, .slice ta2 tl2 tc2, .slice pa2 ps2.length pc2, .slice ia2 il2 ic2, .slice ra2 rl2 rc2] 132) by
    have := Hd.new (W.alloc (.cells #[.string ⟨nm1.toArray⟩, .int .i64 ag1, .slice ta1 tl1 tc1, .slice pa1 ps1.length pc1, .slice ia1 il1 ic1, .slice ra1 rl1 rc1] 132)) (.cells #[.string ⟨nm2.toArray⟩, .int .i64 ag2, .slice ta2 tl2 tc2, .slice pa2 ps2.length pc2, .slice ia2 il2 ic2, .slice ra2 rl2 rc2] 132)
    rw [hwa]
    simpa using this)
  go_enter Tryz.func151, Tryz.ntmps151
  go_upto_region 1 with fail
  rw [← hwa]
  clear hwa
  have kk := K0.out
  have x0 := cell_of_row wa (W.heap.size) 0 _ _ _ kk
  have x1 := cell_of_row wa (W.heap.size) 1 _ _ _ kk
  have x2 := cell_of_row wa (W.heap.size) 2 _ _ _ kk
  have x3 := cell_of_row wa (W.heap.size) 3 _ _ _ kk
  have x4 := cell_of_row wa (W.heap.size) 4 _ _ _ kk
  have x5 := cell_of_row wa (W.heap.size) 5 _ _ _ kk
  clear kk
  have kk := K1.out
  have y0 := cell_of_row wa (W.heap.size + 1) 0 _ _ _ kk
  have y1 := cell_of_row wa (W.heap.size + 1) 1 _ _ _ kk
  have y2 := cell_of_row wa (W.heap.size + 1) 2 _ _ _ kk
  have y3 := cell_of_row wa (W.heap.size + 1) 3 _ _ _ kk
  have y4 := cell_of_row wa (W.heap.size + 1) 4 _ _ _ kk
  have y5 := cell_of_row wa (W.heap.size + 1) 5 _ _ _ kk
  clear kk
  go_wp2_with fail
  refine (HG.out wa (HB.out.trans (BA.out.mono hB)) (Nat.le_trans hB BA.out.size)).mono ?_
  rintro e w2 ⟨rfl, hb2⟩
  have K0 := Lib.hid (K0.out.blw hb2)
  have K1 := Lib.hid (K1.out.blw hb2)
  have BA := Lib.hid (belI_step BA.out hb2)
  clear hb2 x0 x1 x2 x3 x4 x5 y0 y1 y2 y3 y4 y5
  have kk := K0.out
  have x0 := cell_of_row w2 (W.heap.size) 0 _ _ _ kk
  have x1 := cell_of_row w2 (W.heap.size) 1 _ _ _ kk
  have x2 := cell_of_row w2 (W.heap.size) 2 _ _ _ kk
  have x3 := cell_of_row w2 (W.heap.size) 3 _ _ _ kk
  have x4 := cell_of_row w2 (W.heap.size) 4 _ _ _ kk
  have x5 := cell_of_row w2 (W.heap.size) 5 _ _ _ kk
  clear kk
  have kk := K1.out
  have y0 := cell_of_row w2 (W.heap.size + 1) 0 _ _ _ kk
  have y1 := cell_of_row w2 (W.heap.size + 1) 1 _ _ _ kk
  have y2 := cell_of_row w2 (W.heap.size + 1) 2 _ _ _ kk
  have y3 := cell_of_row w2 (W.heap.size + 1) 3 _ _ _ kk
  have y4 := cell_of_row w2 (W.heap.size + 1) 4 _ _ _ kk
  have y5 := cell_of_row w2 (W.heap.size + 1) 5 _ _ _ kk
  clear kk
  cases s3
  · clear HQ
    go_wp2
    go_ret
    exact ⟨ret_b rfl, BA.out⟩
  by_cases hl : ps1.length = ps2.length
  rotate_left
  · have g1 : ((ps1.length : Int) != (ps2.length : Int)) = true := by simp; omega
    have D2 := Lib.hid (pr_len hl)
    clear hl HQ
    go_wp2
    go_ret
    exact ⟨ret_b (by rw [D2.out]; rfl), BA.out⟩
  have HL := Lib.hid hl
  have g1 : ((ps1.length : Int) != (ps2.length : Int)) = false := by simp [hl]
  clear hl
  go_wp2_with fail
  refine (HQ.out w2 (HB.out.trans (BA.out.mono hB)) (Nat.le_trans hB BA.out.size)).mono ?_
  rintro e w3 ⟨rfl, hb3⟩
  have K0 := Lib.hid (K0.out.blw hb3)
  have K1 := Lib.hid (K1.out.blw hb3)
  have BA := Lib.hid (belI_step BA.out hb3)
  clear hb3 x0 x1 x2 x3 x4 x5 y0 y1 y2 y3 y4 y5
  cases s6
  · go_wp2
    go_ret
    exact ⟨ret_b (by simp), BA.out⟩
  clear HG HQ g1
  go_wp2
  go_loopw [5] (fun i wr => ∃ k : Nat, k ≤ ps1.length ∧ i = .int .i64 k ∧ (ps1 == ps2) = (ps1.drop k == ps2.drop k) ∧ Hd wr W.heap.size (.cells #[.string ⟨nm1.toArray⟩, .int .i64 ag1, .slice ta1 tl1 tc1, .slice pa1 ps1.length pc1, .slice ia1 il1 ic1, .slice ra1 rl1 rc1] 132) ∧ Hd wr (W.heap.size + 1) (.cells #[.string ⟨nm2.toArray⟩, .int .i64 ag2, .slice ta2 tl2 tc2, .slice pa2 ps2.length pc2, .slice ia2 il2 ic2, .slice ra2 rl2 rc2] 132) ∧ Below W.heap.size W wr) (fun i _ => ps1.length - (intOf i).toNat)
  case atStart => exact ⟨0, by omega, rfl, rfl, K0.out, K1.out, BA.out⟩
  case round =>
    obtain ⟨k, hk, rfl, hE, hK0, hK1, hR⟩ := hrel
    have HE := Lib.hid hE
    have K0 := Lib.hid hK0
    have K1 := Lib.hid hK1
    have BA := Lib.hid hR
    have x3 := cell_of_row wr (W.heap.size) 3 _ _ _ hK0
    have y3 := cell_of_row wr (W.heap.size + 1) 3 _ _ _ hK1
    have hW := HB.out.trans (hR.mono hB)
    clear hE hK0 hK1 hR
    by_cases hlt : k < ps1.length
    · have hlt' : k < ps2.length := by have := HL.out; omega
      have hkI : (k : Int) < (ps1.length : Int) := by omega
      obtain ⟨ea, hlb⟩ := HA.out (by omega)
      obtain ⟨ea', hlb'⟩ := HA'.out (by omega)
      subst ea ea'
      obtain ⟨c0, c1, c2, c3, c4, c5⟩ := HC.out k hlt
      obtain ⟨d0, d1, d2, d3, d4, d5⟩ := HC'.out k hlt'
      have q0 := (hW.cell (p := ⟨pb1, po1 + k * 6, none⟩) hlb).trans c0
      have r0 := (hW.cell (p := ⟨pb2, po2 + k * 6, none⟩) hlb').trans d0
      have q1 := (hW.cell (p := ⟨pb1, po1 + k * 6 + 1, none⟩) hlb).trans c1
      have r1 := (hW.cell (p := ⟨pb2, po2 + k * 6 + 1, none⟩) hlb').trans d1
      have q2 := (hW.cell (p := ⟨pb1, po1 + k * 6 + 2, none⟩) hlb).trans c2
      have r2 := (hW.cell (p := ⟨pb2, po2 + k * 6 + 2, none⟩) hlb').trans d2
      have q3 := (hW.cell (p := ⟨pb1, po1 + k * 6 + 3, none⟩) hlb).trans c3
      have r3 := (hW.cell (p := ⟨pb2, po2 + k * 6 + 3, none⟩) hlb').trans d3
      have q4 := (hW.cell (p := ⟨pb1, po1 + k * 6 + 4, none⟩) hlb).trans c4
      have r4 := (hW.cell (p := ⟨pb2, po2 + k * 6 + 4, none⟩) hlb').trans d4
      have q5 := (hW.cell (p := ⟨pb1, po1 + k * 6 + 5, none⟩) hlb).trans c5
      have r5 := (hW.cell (p := ⟨pb2, po2 + k * 6 + 5, none⟩) hlb').trans d5
      have D := Lib.hid (pr_drop k hlt hlt')
      clear c0 c1 c2 c3 c4 c5 d0 d1 d2 d3 d4 d5 hW
      generalize ps1.getD k default = x at *
      generalize ps2.getD k default = y at *
      by_cases hxy : x = y
      · subst hxy
        have D2 := Lib.hid (D.out.trans (by rw [beq_self_eq_true, Bool.true_and]))
        go_wp2_with fail
        go_quiet (fail)
        go_wp2
        go_roundw
        case rel => exact ⟨k + 1, by omega, by go_num, by rw [HE.out, D2.out], K0.out, K1.out, belI_drewN BA.out _⟩
        case measure => simp [intOf]; omega
      · have e1 : (x == y) = false := by simpa using hxy
        have D2 := Lib.hid (HE.out.trans (D.out.trans (by rw [e1, Bool.false_and])))
        clear e1
        obtain ⟨a0, a1, a2, a3, a4, a5⟩ := x
        obtain ⟨b0, b1, b2, b3, b4, b5⟩ := y
        simp only at q0 r0 q1 r1 q2 r2 q3 r3 q4 r4 q5 r5
        have hne : ¬ (a0 = b0 ∧ a1 = b1 ∧ a2 = b2 ∧ a3 = b3 ∧ a4 = b4 ∧ a5 = b5) := by simpa using hxy
        clear hxy D
        by_cases h0 : a0 = b0
        rotate_left
        · have f5 : (a0 == b0) = false := by simpa using h0
          have f6 : decide (a0 = b0) = false := by simpa using h0
          clear hne
          go_wp2_with fail
          go_quiet (fail)
          go_wp2
          go_ret
          exact ⟨ret_b (by rw [D2.out]; rfl), belI_drewN BA.out _⟩
        subst h0
        by_cases h1 : a1 = b1
        rotate_left
        · have f5 : (a1 == b1) = false := by simpa using h1
          have f6 : decide (a1 = b1) = false := by simpa using h1
          clear hne
          go_wp2_with fail
          go_quiet (fail)
          go_wp2
          go_ret
          exact ⟨ret_b (by rw [D2.out]; rfl), belI_drewN BA.out _⟩
        subst h1
        by_cases h2 : a2 = b2
        rotate_left
        · have f5 : (a2 == b2) = false := by simpa using h2
          have f6 : decide (a2 = b2) = false := by simpa using h2
          clear hne
          go_wp2_with fail
          go_quiet (fail)
          go_wp2
          go_ret
          exact ⟨ret_b (by rw [D2.out]; rfl), belI_drewN BA.out _⟩
        subst h2
        by_cases h3 : a3 = b3
        rotate_left
        · have f5 : (a3 == b3) = false := by simpa using h3
          have f6 : decide (a3 = b3) = false := by simpa using h3
          clear hne
          go_wp2_with fail
          go_quiet (fail)
          go_wp2
          go_ret
          exact ⟨ret_b (by rw [D2.out]; rfl), belI_drewN BA.out _⟩
        subst h3
        by_cases h4 : a4 = b4
        rotate_left
        · have f5 : (a4 == b4) = false := by simpa using h4
          have f6 : decide (a4 = b4) = false := by simpa using h4
          clear hne
          go_wp2_with fail
          go_quiet (fail)
          go_wp2
          go_ret
          exact ⟨ret_b (by rw [D2.out]; rfl), belI_drewN BA.out _⟩
        subst h4
        have h5 : ¬ a5 = b5 := by simpa using hne
        have f5 : (a5 == b5) = false := by simpa using h5
        have f6 : decide (a5 = b5) = false := by simpa using h5
        clear hne
        go_wp2_with fail
        go_quiet (fail)
        go_wp2
        go_ret
        exact ⟨ret_b (by rw [D2.out]; rfl), belI_drewN BA.out _⟩
    · have hkI : ¬ ((k : Int) < (ps1.length : Int)) := by omega
      obtain rfl : k = ps1.length := by omega
      have D2 := Lib.hid (show (ps1 == ps2) = true by rw [HE.out, List.drop_length, HL.out, List.drop_length]; rfl)
      clear hW
      go_wp2
      go_ret
      exact ⟨ret_b (by rw [D2.out]), BA.out⟩
end Go.Proofs.YtmaknkbmilcanaaGreatDoor.Pi
