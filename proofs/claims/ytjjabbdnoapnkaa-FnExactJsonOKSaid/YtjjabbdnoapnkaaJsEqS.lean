
/-
  JSON values compared by the model: l02Same.
-/
import Derived.Test.YtjjabbdnoapnkaaJsEqI
namespace Go.Proofs.Ytjjabbdnoapnkaa.Js
open Go.RowKit
/-- what holds at the head of the model's loop -/
def SameRel (W : World) (iv iv' : Value) (wr : World) : Prop := wr.cell? ⟨W.heap.size, 4, none⟩ = some iv ∧ wr.cell? ⟨W.heap.size + 1, 4, none⟩ = some iv' ∧ W.heap.size + 1 < wr.heap.size ∧ Below W.heap.size W wr
set_option maxHeartbeats 4000000 in
theorem l02S_go (B : Nat) (w0 : World) (j : J) : ∀ (y : J) (nv iv nv' iv' : Value), JIn (· < B) w0 j nv iv → JIn (· < B) w0 y nv' iv' → ∀ (W : World), Below B w0 W → B ≤ W.heap.size →
    Calls Try.prog 33 #[jV j nv iv, jV y nv' iv'] W fun e w' => e = .returned (.bool (sameJ j y)) ∧ Below W.heap.size W w' := by
  induction j using J.ind with
  | h k n t ns xs ih =>
    intro y nv iv nv' iv' h1 h2 W hb hB
    obtain ⟨k', n', t', ns', ys⟩ := y
    obtain ⟨hL, hN, b1, b2, b3⟩ := h1.inv
    obtain ⟨hL', hN', b1', b2', b3'⟩ := h2.inv
    have ET := Lib.hid (fun (w : World) (h : Below B w0 w) => sameT_any (· < B) (· < B) ns ns' nv nv' w (hN.blw h) (hN'.blw h))
    obtain ⟨a, cap, b, off, vn, vi, rfl, hcap, hm, ha, hc, hd⟩ := hL
    obtain ⟨a', cap', b', off', vn', vi', rfl, hcap', hm', ha', hc', hd'⟩ := hL'
    have hn : xs.length ≤ 9223372036854775807 := by omega
    have hn' : ys.length ≤ 9223372036854775807 := by omega
    have HC := Lib.hid hc
    have HA := Lib.hid ha
    have HD := Lib.hid hd
    have HC' := Lib.hid hc'
    have HA' := Lib.hid ha'
    have HD' := Lib.hid hd'
    have HI := Lib.hid ih
    have HB := Lib.hid hb
    clear hc ha hd hc' ha' hd' ih hb hN hN' h1 h2
    obtain ⟨q, hq⟩ : ∃ q, (ns == ns') = q := ⟨_, rfl⟩
    rw [hq] at ET
    unfold sameJ
    rw [hq]
    clear hq
    show Calls _ _ #[.agg #[.int .i64 k, .int .i64 n, .string ⟨t.toArray⟩, nv, .slice a xs.length cap], .agg #[.int .i64 k', .int .i64 n', .string ⟨t'.toArray⟩, nv', .slice a' ys.length cap']] _ _
    by_cases e1 : (k == k') = true
    · by_cases e2 : (n == n') = true
      · by_cases e3 : (t == t') = true
        · rw [e1, e2, e3]
          obtain rfl : k = k' := by simpa using e1
          obtain rfl : n = n' := by simpa using e2
          obtain rfl : t = t' := by simpa using e3
          clear e1 e2 e3
          cases q with
          | false =>
            go_enter Try.func33, Try.ntmps33
            go_wp2_with fail
            refine (ET.out _ ((HB.out.alloc hB _).alloc (by simp; omega) _)).mono ?_
            rintro e w1 ⟨rfl, m, rfl⟩
            go_wp2
            go_ret
            exact ⟨ret_b (by rfl), belI_drewN (((Below.refl _ _).alloc (Nat.le_refl _) _).alloc (by simp) _) m⟩
          | true =>
            by_cases hl : xs.length = ys.length
            · have HL := Lib.hid hl
              have g1 : ((xs.length : Int) != (ys.length : Int)) = false := by simp [hl]
              clear hl
              go_enter Try.func33, Try.ntmps33
              go_wp2_with fail
              refine (ET.out _ ((HB.out.alloc hB _).alloc (by simp; omega) _)).mono ?_
              rintro e w1 ⟨rfl, m, rfl⟩
              go_wp2_with fail
              go_loopw [5] (fun i wr => ∃ k : Nat, k ≤ xs.length ∧ i = .int .i64 k ∧ sameL xs ys = sameL (xs.drop k) (ys.drop k) ∧ SameRel W (.slice a xs.length cap) (.slice a' ys.length cap') wr) (fun i _ => xs.length - (intOf i).toNat)
              case atStart => exact ⟨0, by omega, rfl, rfl, by simp [go_sem], by simp [go_sem], by simp, belI_drewN (((Below.refl _ _).alloc (Nat.le_refl _) _).alloc (by simp) _) m⟩
              case round =>
                obtain ⟨kk, hk, rfl, hE, s1, s2, s3, hR⟩ := hrel
                have s4 : W.heap.size < wr.heap.size := by omega
                have HE := Lib.hid hE
                clear hE
                by_cases hlt : kk < xs.length
                · have hlt' : kk < ys.length := by have := HL.out; omega
                  obtain ⟨ea, hlb⟩ := HA.out (by omega)
                  obtain ⟨ea', hlb'⟩ := HA'.out (by omega)
                  subst ea ea'
                  have hW := HB.out.trans (hR.mono hB)
                  have hWB : B ≤ wr.heap.size := Nat.le_trans hB hR.size
                  obtain ⟨c0, c1, c2, c3, c4⟩ := HC.out kk hlt
                  obtain ⟨c0', c1', c2', c3', c4'⟩ := HC'.out kk hlt'
                  have q0 := (hW.cell (p := ⟨b, off + kk * 5, none⟩) hlb).trans c0
                  have q1 := (hW.cell (p := ⟨b, off + kk * 5 + 1, none⟩) hlb).trans c1
                  have q2 := (hW.cell (p := ⟨b, off + kk * 5 + 2, none⟩) hlb).trans c2
                  have q3 := (hW.cell (p := ⟨b, off + kk * 5 + 3, none⟩) hlb).trans c3
                  have q4 := (hW.cell (p := ⟨b, off + kk * 5 + 4, none⟩) hlb).trans c4
                  have r0 := (hW.cell (p := ⟨b', off' + kk * 5, none⟩) hlb').trans c0'
                  have r1 := (hW.cell (p := ⟨b', off' + kk * 5 + 1, none⟩) hlb').trans c1'
                  have r2 := (hW.cell (p := ⟨b', off' + kk * 5 + 2, none⟩) hlb').trans c2'
                  have r3 := (hW.cell (p := ⟨b', off' + kk * 5 + 3, none⟩) hlb').trans c3'
                  have r4 := (hW.cell (p := ⟨b', off' + kk * 5 + 4, none⟩) hlb').trans c4'
                  have D := Lib.hid (sameL_get kk hlt hlt')
                  have HK := Lib.hid (fun (wx : World) (hx : Below W.heap.size W wx) => HI.out (xs.getD kk default) (by simp [hlt]) _ _ _ _ _ (HD.out kk hlt) (HD'.out kk hlt') wx (HB.out.trans (hx.mono hB)) (Nat.le_trans hB hx.size))
                  clear c0 c1 c2 c3 c4 c0' c1' c2' c3' c4' hW
                  generalize xs.getD kk default = x at *
                  generalize ys.getD kk default = y at *
                  generalize vn kk = n1 at *
                  generalize vi kk = i1 at *
                  generalize vn' kk = n2 at *
                  generalize vi' kk = i2 at *
                  obtain ⟨s, hs⟩ : ∃ s, sameJ x y = s := ⟨_, rfl⟩
                  rw [hs] at D HK
                  clear hs
                  go_wp2_with fail
                  go_region_held3 (fun wx => wx.cell? ⟨b, off + kk * 5, none⟩ = some (.int .i64 x.kind) ∧ wx.cell? ⟨b, off + kk * 5 + 1, none⟩ = some (.int .i64 x.num) ∧ wx.cell? ⟨b, off + kk * 5 + 2, none⟩ = some (.string ⟨x.text.toArray⟩) ∧ wx.cell? ⟨b, off + kk * 5 + 3, none⟩ = some n1 ∧ wx.cell? ⟨b, off + kk * 5 + 4, none⟩ = some i1 ∧ wx.cell? ⟨b', off' + kk * 5, none⟩ = some (.int .i64 y.kind) ∧ wx.cell? ⟨b', off' + kk * 5 + 1, none⟩ = some (.int .i64 y.num) ∧ wx.cell? ⟨b', off' + kk * 5 + 2, none⟩ = some (.string ⟨y.text.toArray⟩) ∧ wx.cell? ⟨b', off' + kk * 5 + 3, none⟩ = some n2 ∧ wx.cell? ⟨b', off' + kk * 5 + 4, none⟩ = some i2 ∧ wx.cell? ⟨W.heap.size, 4, none⟩ = some (.slice (some ⟨b, off, none⟩) xs.length cap) ∧ wx.cell? ⟨W.heap.size + 1, 4, none⟩ = some (.slice (some ⟨b', off', none⟩) ys.length cap') ∧ W.heap.size + 1 < wx.heap.size ∧ W.heap.size < wx.heap.size ∧ Below W.heap.size W wx)
                    (first
                      | (simp [*, Below.drew]; done)
                      | (go_split_ands
                         have hz : B ≤ _ := Nat.le_trans hB (Below.size (by assumption))
                         refine ⟨?_, ?_, ?_, ?_, ?_, ?_, ?_, ?_, ?_, ?_, ?_, ?_, Nat.lt_of_lt_of_le (by assumption) hb.size, Nat.lt_of_lt_of_le (by assumption) hb.size, belI_step (by assumption) hb⟩
                         · (rw [hb.cell (p := ⟨b, off + kk * 5, none⟩) (Nat.lt_of_lt_of_le hlb hz)]; assumption)
                         · (rw [hb.cell (p := ⟨b, off + kk * 5 + 1, none⟩) (Nat.lt_of_lt_of_le hlb hz)]; assumption)
                         · (rw [hb.cell (p := ⟨b, off + kk * 5 + 2, none⟩) (Nat.lt_of_lt_of_le hlb hz)]; assumption)
                         · (rw [hb.cell (p := ⟨b, off + kk * 5 + 3, none⟩) (Nat.lt_of_lt_of_le hlb hz)]; assumption)
                         · (rw [hb.cell (p := ⟨b, off + kk * 5 + 4, none⟩) (Nat.lt_of_lt_of_le hlb hz)]; assumption)
                         · (rw [hb.cell (p := ⟨b', off' + kk * 5, none⟩) (Nat.lt_of_lt_of_le hlb' hz)]; assumption)
                         · (rw [hb.cell (p := ⟨b', off' + kk * 5 + 1, none⟩) (Nat.lt_of_lt_of_le hlb' hz)]; assumption)
                         · (rw [hb.cell (p := ⟨b', off' + kk * 5 + 2, none⟩) (Nat.lt_of_lt_of_le hlb' hz)]; assumption)
                         · (rw [hb.cell (p := ⟨b', off' + kk * 5 + 3, none⟩) (Nat.lt_of_lt_of_le hlb' hz)]; assumption)
                         · (rw [hb.cell (p := ⟨b', off' + kk * 5 + 4, none⟩) (Nat.lt_of_lt_of_le hlb' hz)]; assumption)
                         · (rw [hb.cell (p := ⟨W.heap.size, 4, none⟩) (by assumption)]; assumption)
                         · (rw [hb.cell (p := ⟨W.heap.size + 1, 4, none⟩) (by assumption)]; assumption)))
                    (first
                      | (go_split_ands; go_at_call 33; refine (HK.out _ (by assumption)).mono ?_; rintro e w1 ⟨rfl, hb⟩))
                  go_split_ands
                  rename_i d1 d2 d3 d4 hNW
                  have HN := Lib.hid (show SameRel W _ _ _ from ⟨d1, d2, d3, hNW⟩)
                  clear hNW d1 d2 d3 d4
                  cases s with
                  | false =>
                    go_wp2
                    go_ret
                    exact ⟨ret_b (by rw [HE.out, D.out]; rfl), HN.out.2.2.2⟩
                  | true =>
                    go_wp2
                    go_roundw
                    case rel => exact ⟨kk + 1, by omega, by go_num, by rw [HE.out, D.out, Bool.true_and], HN.out⟩
                    case measure => simp [intOf]; omega
                · go_wp2
                  go_ret
                  obtain rfl : kk = xs.length := by omega
                  exact ⟨ret_b (by rw [HE.out, List.drop_length, HL.out, List.drop_length]; rfl), hR⟩
            · have E := Lib.hid (sameL_lenF hl)
              have g1 : ((xs.length : Int) != (ys.length : Int)) = true := by simp only [bne_iff_ne, ne_eq]; omega
              rw [E.out]
              clear hl
              go_enter Try.func33, Try.ntmps33
              go_wp2_with fail
              refine (ET.out _ ((HB.out.alloc hB _).alloc (by simp; omega) _)).mono ?_
              rintro e w1 ⟨rfl, m, rfl⟩
              go_wp2
              go_ret
              exact ⟨ret_b (by rfl), belI_drewN (((Below.refl _ _).alloc (Nat.le_refl _) _).alloc (by simp) _) m⟩
        · have e3 : (t == t') = false := by simpa using e3
          rw [e1, e2, e3]
          obtain rfl : k = k' := by simpa using e1
          obtain rfl : n = n' := by simpa using e2
          clear e1 e2
          go_enter Try.func33, Try.ntmps33
          go_wp2
          go_ret
          exact ⟨ret_b (by rfl), ((Below.refl _ _).alloc (Nat.le_refl _) _).alloc (by simp) _⟩
      · have e2' : (n == n') = false := by simpa using e2
        have e2 : (n != n') = true := by simpa using e2
        rw [e1, e2']
        obtain rfl : k = k' := by simpa using e1
        clear e1 e2'
        go_enter Try.func33, Try.ntmps33
        go_wp2
        go_ret
        exact ⟨ret_b (by rfl), ((Below.refl _ _).alloc (Nat.le_refl _) _).alloc (by simp) _⟩
    · have e1' : (k == k') = false := by simpa using e1
      have e1 : (k != k') = true := by simpa using e1
      rw [e1']
      clear e1'
      go_enter Try.func33, Try.ntmps33
      go_wp2
      go_ret
      exact ⟨ret_b (by rfl), ((Below.refl _ _).alloc (Nat.le_refl _) _).alloc (by simp) _⟩
end Go.Proofs.Ytjjabbdnoapnkaa.Js
