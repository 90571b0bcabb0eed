
/-
  JSON values compared by the program: slices.Equal, slices.EqualFunc, equalJson.
-/
import Derived.Test.YtniflfgnelfpbaaJsEq
namespace Go.Proofs.Ytniflfgnelfpbaa.Js
open Go.RowKit
set_option maxRecDepth 100000 in
set_option maxHeartbeats 1000000 in
theorem sEqual_any (S1 S2 : Nat → Prop) (ns ms : List (List UInt8)) (v u : Value) (w : World) (h1 : TxtsIn S1 w v ns) (h2 : TxtsIn S2 w u ms) :
    Calls Try.prog 47 #[v, u] w fun e w' => e = .returned (.bool (ns == ms)) ∧ ∃ n, w' = w.drewN n := by
  obtain ⟨a, cap, b, off, rfl, hcap, hm, hlen, ha, hc⟩ := h1
  obtain ⟨a', cap', b', off', rfl, hcap', hm', hlen', ha', hc'⟩ := h2
  have hn : ns.length ≤ 9223372036854775807 := by omega
  have hn' : ms.length ≤ 9223372036854775807 := by omega
  have HC := Lib.hid hc
  have HA := Lib.hid ha
  have HC' := Lib.hid hc'
  have HA' := Lib.hid ha'
  clear hc ha hc' ha' hlen hlen'
  by_cases hl : ns.length = ms.length
  · have HL := Lib.hid hl
    have g1 : ((ns.length : Int) != (ms.length : Int)) = false := by simp [hl]
    clear hl
    go_enter Try.func47, Try.ntmps47
    go_wp2
    go_loopw [13] (fun i wr => ∃ k n : Nat, k ≤ ns.length ∧ i = .int .i64 k ∧ (ns == ms) = (ns.drop k == ms.drop k) ∧ wr = w.drewN n) (fun i _ => ns.length - (intOf i).toNat)
    case atStart => exact ⟨0, 0, by omega, rfl, rfl, rfl⟩
    case round =>
      obtain ⟨k, n, hk, rfl, hE, rfl⟩ := hrel
      have HE := Lib.hid hE
      clear hE
      by_cases hlt : k < ns.length
      · have hlt' : k < ms.length := by have := HL.out; omega
        obtain ⟨ea, _⟩ := HA.out (by omega)
        obtain ⟨ea', _⟩ := HA'.out (by omega)
        subst ea ea'
        have q0 := HC.out k hlt
        have q1 := HC'.out k hlt'
        have D := Lib.hid (eqT_drop k hlt hlt')
        generalize ns.getD k [] = t at *
        generalize ms.getD k [] = t' at *
        by_cases ht : t = t'
        · subst ht
          have e1 : (t == t) = true := by simp
          have D2 := Lib.hid (D.out.trans (by rw [e1, Bool.true_and]))
          go_wp2
          go_quiet (fail)
          go_wp2
          go_roundw
          case rel => exact ⟨k + 1, n + nq, by omega, by go_num, by rw [HE.out, D2.out], by first | rfl | exact World.drewN_drewN _ _ _⟩
          case measure => simp [intOf]; omega
        · have e1 : (t == t') = false := by simpa using ht
          have D2 := Lib.hid (D.out.trans (by rw [e1, Bool.false_and]))
          go_wp2
          go_quiet (fail)
          go_wp2
          go_ret
          exact ⟨ret_b (by rw [HE.out, D2.out]), n + nq, World.drewN_drewN _ _ _⟩
      · go_wp2
        go_ret
        obtain rfl : k = ns.length := by omega
        exact ⟨ret_b (by rw [HE.out, List.drop_length, HL.out, List.drop_length]; rfl), n, rfl⟩
  · have E := Lib.hid (eqT_len hl)
    have g1 : ((ns.length : Int) != (ms.length : Int)) = true := by simp only [bne_iff_ne, ne_eq]; omega
    clear hl
    go_enter Try.func47, Try.ntmps47
    go_wp2
    go_ret
    exact ⟨ret_b E.out.symm, 0, rfl⟩
set_option maxRecDepth 100000 in
set_option maxHeartbeats 2000000 in
theorem eqF_of (B : Nat) (w0 : World) (xs ys : List J) (v u : Value) (h1 : LIn (· < B) w0 v xs) (h2 : LIn (· < B) w0 u ys)
    (ih : ∀ i, i < xs.length → ∀ (y : J) (nv iv nv' iv' : Value), JIn (· < B) w0 (xs.getD i default) nv iv → JIn (· < B) w0 y nv' iv' → ∀ (W : World), Below B w0 W → B ≤ W.heap.size →
      Calls Try.prog 40 #[jV (xs.getD i default) nv iv, jV y nv' iv'] W fun e w' => e = .returned (.bool (sameJ (xs.getD i default) y)) ∧ Below W.heap.size W w')
    (W : World) (hb : Below B w0 W) (hB : B ≤ W.heap.size) :
    Calls Try.prog 48 #[v, u, .func (.func 40) #[] #[]] W fun e w' => e = .returned (.bool (sameL xs ys)) ∧ Below W.heap.size W w' := by
  obtain ⟨a, cap, b, off, vn, vi, rfl, hcap, hm, ha, hc, hd⟩ := h1
  obtain ⟨a', cap', b', off', vn', vi', rfl, hcap', hm', ha', hc', hd'⟩ := h2
  have hn : xs.length ≤ 9223372036854775807 := by omega
  have hn' : ys.length ≤ 9223372036854775807 := by omega
  have HC := Lib.hid hc
  have HA := Lib.hid ha
  have HD := Lib.hid hd
  have HC' := Lib.hid hc'
  have HA' := Lib.hid ha'
  have HD' := Lib.hid hd'
  have HI := Lib.hid ih
  have HB := Lib.hid hb
  clear hc ha hd hc' ha' hd' ih hb
  by_cases hl : xs.length = ys.length
  · have HL := Lib.hid hl
    have g1 : ((xs.length : Int) != (ys.length : Int)) = false := by simp [hl]
    clear hl
    go_enter Try.func48, Try.ntmps48
    go_wp2
    go_loopw [17] (fun i wr => ∃ k : Nat, k ≤ xs.length ∧ i = .int .i64 k ∧ sameL xs ys = sameL (xs.drop k) (ys.drop k) ∧ Below W.heap.size W wr) (fun i _ => xs.length - (intOf i).toNat)
    case atStart => exact ⟨0, by omega, rfl, rfl, Below.refl _ _⟩
    case round =>
      obtain ⟨k, hk, rfl, hE, hR⟩ := hrel
      have HE := Lib.hid hE
      clear hE
      by_cases hlt : k < xs.length
      · have hlt' : k < ys.length := by have := HL.out; omega
        obtain ⟨ea, hlb⟩ := HA.out (by omega)
        obtain ⟨ea', hlb'⟩ := HA'.out (by omega)
        subst ea ea'
        have hW := HB.out.trans (hR.mono hB)
        have hWB : B ≤ wr.heap.size := Nat.le_trans hB hR.size
        obtain ⟨c0, c1, c2, c3, c4⟩ := HC.out k hlt
        obtain ⟨c0', c1', c2', c3', c4'⟩ := HC'.out k hlt'
        have q0 := (hW.cell (p := ⟨b, off + k * 5, none⟩) hlb).trans c0
        have q1 := (hW.cell (p := ⟨b, off + k * 5 + 1, none⟩) hlb).trans c1
        have q2 := (hW.cell (p := ⟨b, off + k * 5 + 2, none⟩) hlb).trans c2
        have q3 := (hW.cell (p := ⟨b, off + k * 5 + 3, none⟩) hlb).trans c3
        have q4 := (hW.cell (p := ⟨b, off + k * 5 + 4, none⟩) hlb).trans c4
        have r0 := (hW.cell (p := ⟨b', off' + k * 5, none⟩) hlb').trans c0'
        have r1 := (hW.cell (p := ⟨b', off' + k * 5 + 1, none⟩) hlb').trans c1'
        have r2 := (hW.cell (p := ⟨b', off' + k * 5 + 2, none⟩) hlb').trans c2'
        have r3 := (hW.cell (p := ⟨b', off' + k * 5 + 3, none⟩) hlb').trans c3'
        have r4 := (hW.cell (p := ⟨b', off' + k * 5 + 4, none⟩) hlb').trans c4'
        have D := Lib.hid (sameL_get k hlt hlt')
        have HK := Lib.hid (fun (wx : World) (hx : Below W.heap.size W wx) => HI.out k hlt _ _ _ _ _ (HD.out k hlt) (HD'.out k hlt') wx (HB.out.trans (hx.mono hB)) (Nat.le_trans hB hx.size))
        clear c0 c1 c2 c3 c4 c0' c1' c2' c3' c4' hW
        obtain ⟨⟨an, ln, cn, en⟩, ⟨ai, li, ci, ei⟩⟩ := (HD.out k hlt).slices
        obtain ⟨⟨an', ln', cn', en'⟩, ⟨ai', li', ci', ei'⟩⟩ := (HD'.out k hlt').slices
        rw [en] at q3 HK
        rw [ei] at q4 HK
        rw [en'] at r3 HK
        rw [ei'] at r4 HK
        clear en ei en' ei'
        generalize xs.getD k default = x at *
        generalize ys.getD k default = y at *
        have HR := Lib.hid hR
        clear hR
        have hx1 : b < wr.heap.size := Nat.lt_of_lt_of_le hlb hWB
        have hx2 : b' < wr.heap.size := Nat.lt_of_lt_of_le hlb' hWB
        obtain ⟨s, hs⟩ : ∃ s, sameJ x y = s := ⟨_, rfl⟩
        rw [hs] at D HK
        clear hs
        go_wp2_with fail
        refine (HK.out _ ((HR.out.alloc HR.out.size _).alloc (by have := HR.out.size; simp; omega) _)).mono ?_
        rintro e w1 ⟨rfl, hb⟩
        have HN := Lib.hid (((HR.out.alloc HR.out.size _).alloc (by have := HR.out.size; simp; omega) _).trans (hb.mono (by have := HR.out.size; simp; omega)))
        clear hb
        cases s with
        | false =>
          go_wp2
          go_ret
          exact ⟨ret_b (by rw [HE.out, D.out]; rfl), HN.out⟩
        | true =>
          go_wp2
          go_roundw
          case rel => exact ⟨k + 1, by omega, by go_num, by rw [HE.out, D.out, Bool.true_and], HN.out⟩
          case measure => simp [intOf]; omega
      · go_wp2
        go_ret
        obtain rfl : k = xs.length := by omega
        exact ⟨ret_b (by rw [HE.out, List.drop_length, HL.out, List.drop_length]; rfl), hR⟩
  · have E := Lib.hid (sameL_lenF hl)
    have g1 : ((xs.length : Int) != (ys.length : Int)) = true := by simp only [bne_iff_ne, ne_eq]; omega
    clear hl
    go_enter Try.func48, Try.ntmps48
    go_wp2
    go_ret
    exact ⟨ret_b E.out.symm, Below.refl _ _⟩
set_option maxRecDepth 100000 in
set_option maxHeartbeats 2000000 in
theorem equalJ_go (B : Nat) (w0 : World) (j : J) : ∀ (y : J) (nv iv nv' iv' : Value), JIn (· < B) w0 j nv iv → JIn (· < B) w0 y nv' iv' → ∀ (W : World), Below B w0 W → B ≤ W.heap.size →
    Calls Try.prog 40 #[jV j nv iv, jV y nv' iv'] W fun e w' => e = .returned (.bool (sameJ j y)) ∧ Below W.heap.size W w' := by
  induction j using J.ind with
  | h k n t ns xs ih =>
    intro y nv iv nv' iv' h1 h2 W hb hB
    obtain ⟨k', n', t', ns', xs'⟩ := y
    obtain ⟨hL, hN, b1, b2, b3⟩ := h1.inv
    obtain ⟨hL', hN', b1', b2', b3'⟩ := h2.inv
    have EL := Lib.hid (eqF_of B w0 xs xs' iv iv' hL hL' (fun i hi => ih _ (by simp [hi])))
    have ET := Lib.hid (fun (w : World) (h : Below B w0 w) => sEqual_any (· < B) (· < B) ns ns' nv nv' w (hN.blw h) (hN'.blw h))
    have HB := Lib.hid hb
    clear ih hL hN hL' hN' h1 h2 hb
    obtain ⟨q, hq⟩ : ∃ q, (ns == ns') = q := ⟨_, rfl⟩
    obtain ⟨r, hr⟩ : ∃ r, sameL xs xs' = r := ⟨_, rfl⟩
    rw [hq] at ET
    rw [hr] at EL
    unfold sameJ
    rw [hq, hr]
    clear hq hr
    show Calls _ _ #[.agg #[.int .i64 k, .int .i64 n, .string ⟨t.toArray⟩, nv, iv], .agg #[.int .i64 k', .int .i64 n', .string ⟨t'.toArray⟩, nv', iv']] _ _
    by_cases e1 : (k == k') = true
    · by_cases e2 : (n == n') = true
      · by_cases e3 : (t == t') = true
        · rw [e1, e2, e3]
          obtain rfl : k = k' := by simpa using e1
          obtain rfl : n = n' := by simpa using e2
          obtain rfl : t = t' := by simpa using e3
          clear e1 e2 e3
          cases q with
          | false =>
            go_enter Try.func40, Try.ntmps40
            go_wp2_with fail
            refine (ET.out _ ((HB.out.alloc hB _).alloc (by simp; omega) _)).mono ?_
            rintro e w1 ⟨rfl, m, rfl⟩
            go_wp2
            go_ret
            exact ⟨ret_b (by rfl), belI_drewN (((Below.refl _ _).alloc (Nat.le_refl _) _).alloc (by simp) _) m⟩
          | true =>
            go_enter Try.func40, Try.ntmps40
            go_wp2_with fail
            refine (ET.out _ ((HB.out.alloc hB _).alloc (by simp; omega) _)).mono ?_
            rintro e w1 ⟨rfl, m, rfl⟩
            go_wp2_with fail
            have hb1 : ∀ o1 o2, Below W.heap.size W (((W.alloc o1).alloc o2).drewN m) := fun o1 o2 => belI_drewN (((Below.refl _ _).alloc (Nat.le_refl _) _).alloc (by simp) _) m
            refine (EL.out _ (HB.out.trans ((hb1 _ _).mono hB)) (by simp; omega)).mono ?_
            rintro e w2 ⟨rfl, hb2⟩
            have HB3 := Lib.hid ((hb1 _ _).trans (hb2.mono (by simp; omega)))
            clear hb2 hb1
            cases r with
            | false =>
              go_wp2
              go_ret
              exact ⟨ret_b (by rfl), HB3.out⟩
            | true =>
              go_wp2
              go_ret
              exact ⟨ret_b (by rfl), HB3.out⟩
        · have e3 : (t == t') = false := by simpa using e3
          rw [e1, e2, e3]
          obtain rfl : k = k' := by simpa using e1
          obtain rfl : n = n' := by simpa using e2
          clear e1 e2
          go_enter Try.func40, Try.ntmps40
          go_wp2
          go_ret
          exact ⟨ret_b (by rfl), ((Below.refl _ _).alloc (Nat.le_refl _) _).alloc (by simp) _⟩
      · have e2' : (n == n') = false := by simpa using e2
        clear e2
        have e2 := e2'
        rw [e1, e2']
        obtain rfl : k = k' := by simpa using e1
        clear e1 e2'
        go_enter Try.func40, Try.ntmps40
        go_wp2
        go_ret
        exact ⟨ret_b (by rfl), ((Below.refl _ _).alloc (Nat.le_refl _) _).alloc (by simp) _⟩
    · have e1' : (k == k') = false := by simpa using e1
      clear e1
      have e1 := e1'
      rw [e1']
      clear e1'
      go_enter Try.func40, Try.ntmps40
      go_wp2
      go_ret
      exact ⟨ret_b (by rfl), ((Below.refl _ _).alloc (Nat.le_refl _) _).alloc (by simp) _⟩
end Go.Proofs.Ytniflfgnelfpbaa.Js
