
/-
  The model's QueueOK, walked; the law FnExactQueueOK.
-/
import Derived.Test.YtmaknkbmilcanaaGreatDoorQuC
namespace Go.Proofs.YtmaknkbmilcanaaGreatDoor.Qu
open Go.RowKit
open Go.Proofs.YtmaknkbmilcanaaGreatDoor.Tx
open Go.Proofs.YtmaknkbmilcanaaGreatDoor.Ext (up up_below up_mk wp_region_ext call_ext call_ext_same)
@[local go_sem] theorem up_cellS (w : World) (y : Ext.Ext w) (b o : Nat) (h : b < w.heap.size) : (up w y).cell? ⟨b, o, none⟩ = w.cell? ⟨b, o, none⟩ := Ext.up_cell w y b o h
set_option maxRecDepth 100000 in
set_option maxHeartbeats 4000000 in
theorem quS_any (B : Nat) (w0 : World) (q : Q) (iv rv : Value) (hi : RpIn (· < B) w0 iv q.items) (hr : TxtsIn (· < B) w0 rv q.recent) (W : World) (hb : Below B w0 W) (hB : B ≤ W.heap.size) :
    Calls Tryz.prog 203 #[qV iv rv] W fun e w' => e = .returned (.bool (quB q)) ∧ Below W.heap.size W w' := by
  obtain ⟨xs, us⟩ := q
  simp only at hi hr
  have HTU := Lib.hid hr
  obtain ⟨a, cap, b, off, rfl, hcap, hm, hlen, ha, hc⟩ := hi
  obtain ⟨a2, cap2, b2, o2, rfl, hcap2, hm2, hlen2, ha2, hc2⟩ := hr
  have HB := Lib.hid hb
  have BF := Lib.hid ((Below.refl W.heap.size W).alloc (Nat.le_refl _) (.cells #[.slice a xs.length cap, .slice a2 us.length cap2] 130))
  have HK := Lib.hid (Hd.new W (.cells #[.slice a xs.length cap, .slice a2 us.length cap2] 130))
  have E0 : quB ⟨xs, us⟩ = (decide (xs.length ≤ 5) && (decide (us.length ≤ 6) && (itB [] xs && rcB [] us))) := rfl
  have HC := Lib.hid hc
  have HA := Lib.hid ha
  have HL := Lib.hid hlen
  have HC2 := Lib.hid hc2
  have HA2 := Lib.hid ha2
  have HL2 := Lib.hid hlen2
  have hn : xs.length ≤ 9223372036854775807 := by omega
  have hn2 : us.length ≤ 9223372036854775807 := by omega
  clear hb ha hc hlen ha2 hc2 hlen2
  by_cases g1 : xs.length ≤ 5
  · by_cases g2 : us.length ≤ 6
    · have E := Lib.hid (show quB ⟨xs, us⟩ = (itB [] xs && rcB [] us) by rw [E0, decide_eq_true g1, decide_eq_true g2]; rfl)
      clear E0
      go_enter Tryz.func203, Tryz.ntmps203
      go_wp2
      have hz : W.heap.size < (W.alloc (.cells #[.slice a xs.length cap, .slice a2 us.length cap2] 130)).heap.size := by simp
      have BW := Lib.hid BF.out
      clear BF
      generalize W.alloc (.cells #[.slice a xs.length cap, .slice a2 us.length cap2] 130) = w1 at *
      go_loopw [3] (fun i wr => ∃ k : Nat, k ≤ xs.length ∧ i = .int .i64 k ∧ itB [] xs = itB (xs.take k) (xs.drop k) ∧ Below w1.heap.size w1 wr) (fun i _ => xs.length - (intOf i).toNat)
      case atStart => exact ⟨0, by omega, rfl, rfl, Below.refl _ _⟩
      case round =>
        obtain ⟨k, hk, rfl, hE, hR⟩ := hrel
        have HE := Lib.hid hE
        clear hE
        have hK := HK.out.blw hR
        obtain ⟨m0, m1, -⟩ := hK.two
        have z1 : w1.heap.size ≤ wr.heap.size := hR.size
        have z2 : W.heap.size < wr.heap.size := by omega
        have HR := Lib.hid hR
        have hW := HB.out.trans ((BW.out.trans (hR.mono (by omega))).mono hB)
        clear hK
        by_cases hlt : k < xs.length
        · obtain ⟨ea, hlb⟩ := HA.out (by omega)
          subst ea
          have z3 : b < wr.heap.size := by omega
          obtain ⟨c0, c1, c2, c3⟩ := HC.out k hlt
          have q0 := (hW.cell (p := ⟨b, off + k * 4, none⟩) hlb).trans c0
          have q1 := (hW.cell (p := ⟨b, off + k * 4 + 1, none⟩) hlb).trans c1
          have q2 := (hW.cell (p := ⟨b, off + k * 4 + 2, none⟩) hlb).trans c2
          have q3 := (hW.cell (p := ⟨b, off + k * 4 + 3, none⟩) hlb).trans c3
          have TD := Lib.hid (itB_drop k hlt)
          have HO := Lib.hid (fun W => repS_any (xs.getD k default) (HL.out k hlt) W)
          clear c0 c1 c2 c3 hR
          by_cases hk0 : k = 0
          · subst hk0
            rw [List.take_zero, fol_zero] at TD
            simp only [Nat.zero_mul, Nat.add_zero] at q0 q1 q2 q3
            clear hW
            generalize xs.getD 0 default = x at *
            generalize repB x = tb at *
            go_wp2_with fail
            cases tb
            all_goals
              refine wp_region_ext (by kernel_rfl) (by kernel_rfl) ?_
              repeat (go_big_quiet_step ((first
                | (go_at_call 275; refine call_ext (v := .bool true) ?_; with_reducible exact HO.out _)
                | (go_at_call 275; refine call_ext (v := .bool false) ?_; with_reducible exact HO.out _))))
              refine wpQuiet_nil ?_
              intro _ hw'
              obtain ⟨y8, rfl⟩ := hw'
              have hv8 := up_below _ y8
              generalize up _ y8 = v8 at *
              have D8 := Lib.hid (belI_step HR.out hv8)
              clear hv8 m0 m1 q0 q1 q2 q3
            · go_wp2
              go_ret
              exact ⟨ret_b (by rw [E.out, HE.out, List.take_zero, TD.out]; rfl), BW.out.trans (D8.out.mono (by omega))⟩
            · go_wp2
              go_roundw
              case rel => exact ⟨0 + 1, by omega, by go_num, by rw [HE.out, List.take_zero, TD.out]; rfl, D8.out⟩
              case measure => simp [intOf]; omega
          · obtain ⟨p, hp⟩ : ∃ p, k = p + 1 := ⟨k - 1, by omega⟩
            obtain ⟨c0, c1, c2, c3⟩ := HC.out p (by omega)
            have p0 := (hW.cell (p := ⟨b, off + p * 4, none⟩) hlb).trans c0
            have p1 := (hW.cell (p := ⟨b, off + p * 4 + 1, none⟩) hlb).trans c1
            have FT := Lib.hid (fun r => fol_take (xs := xs) hk hp r)
            have hk1 : 0 < k := by omega
            have hp1 : (k : Int) - 1 = (p : Int) := by omega
            have hpl : p < xs.length := by omega
            clear c0 c1 c2 c3 hW hp hk0
            generalize xs.getD p default = y at *
            generalize xs.getD k default = x at *
            rw [FT.out x] at TD
            clear FT
            generalize repB x = tb at *
            go_wp2_with fail
            cases tb with
            | false =>
              refine wp_region_ext (by kernel_rfl) (by kernel_rfl) ?_
              repeat (go_big_quiet_step ((first
                | (go_at_call 275; refine call_ext (v := .bool true) ?_; with_reducible exact HO.out _)
                | (go_at_call 275; refine call_ext (v := .bool false) ?_; with_reducible exact HO.out _))))
              refine wpQuiet_nil ?_
              intro _ hw'
              obtain ⟨y8, rfl⟩ := hw'
              have hv8 := up_below _ y8
              generalize up _ y8 = v8 at *
              have D8 := Lib.hid (belI_step HR.out hv8)
              clear hv8 m0 m1 q0 q1 q2 q3 p0 p1
              go_wp2
              go_ret
              exact ⟨ret_b (by rw [E.out, HE.out, TD.out]; rfl), BW.out.trans (D8.out.mono (by omega))⟩
            | true =>
              by_cases h1 : x.id ≤ y.id
              · have F := Lib.hid (decide_eq_false (show ¬ y.id < x.id by omega))
                refine wp_region_ext (by kernel_rfl) (by kernel_rfl) ?_
                repeat (go_big_quiet_step ((first
                  | (go_at_call 275; refine call_ext (v := .bool true) ?_; with_reducible exact HO.out _)
                  | (go_at_call 275; refine call_ext (v := .bool false) ?_; with_reducible exact HO.out _))))
                refine wpQuiet_nil ?_
                intro _ hw'
                obtain ⟨y8, rfl⟩ := hw'
                have hv8 := up_below _ y8
                generalize up _ y8 = v8 at *
                have D8 := Lib.hid (belI_step HR.out hv8)
                clear hv8 m0 m1 q0 q1 q2 q3 p0 p1
                go_wp2
                go_ret
                exact ⟨ret_b (by rw [E.out, HE.out, TD.out, F.out]; rfl), BW.out.trans (D8.out.mono (by omega))⟩
              · have F := Lib.hid (decide_eq_true (show y.id < x.id by omega))
                by_cases h2 : x.born < y.born
                · have G := Lib.hid (decide_eq_false (show ¬ y.born ≤ x.born by omega))
                  refine wp_region_ext (by kernel_rfl) (by kernel_rfl) ?_
                  repeat (go_big_quiet_step ((first
                    | (go_at_call 275; refine call_ext (v := .bool true) ?_; with_reducible exact HO.out _)
                    | (go_at_call 275; refine call_ext (v := .bool false) ?_; with_reducible exact HO.out _))))
                  refine wpQuiet_nil ?_
                  intro _ hw'
                  obtain ⟨y8, rfl⟩ := hw'
                  have hv8 := up_below _ y8
                  generalize up _ y8 = v8 at *
                  have D8 := Lib.hid (belI_step HR.out hv8)
                  clear hv8 m0 m1 q0 q1 q2 q3 p0 p1
                  go_wp2
                  go_ret
                  exact ⟨ret_b (by rw [E.out, HE.out, TD.out, F.out, G.out]; rfl), BW.out.trans (D8.out.mono (by omega))⟩
                · have G := Lib.hid (decide_eq_true (show y.born ≤ x.born by omega))
                  refine wp_region_ext (by kernel_rfl) (by kernel_rfl) ?_
                  repeat (go_big_quiet_step ((first
                    | (go_at_call 275; refine call_ext (v := .bool true) ?_; with_reducible exact HO.out _)
                    | (go_at_call 275; refine call_ext (v := .bool false) ?_; with_reducible exact HO.out _))))
                  refine wpQuiet_nil ?_
                  intro _ hw'
                  obtain ⟨y8, rfl⟩ := hw'
                  have hv8 := up_below _ y8
                  generalize up _ y8 = v8 at *
                  have D8 := Lib.hid (belI_step HR.out hv8)
                  clear hv8 m0 m1 q0 q1 q2 q3 p0 p1
                  go_wp2
                  go_roundw
                  case rel => exact ⟨k + 1, by omega, by go_num, by rw [HE.out, TD.out, F.out, G.out]; rfl, D8.out⟩
                  case measure => simp [intOf]; omega
        · obtain rfl : k = xs.length := by omega
          have E2 := Lib.hid (show quB ⟨xs, us⟩ = rcB [] us by rw [E.out, HE.out, List.drop_length]; rfl)
          have BW2 := Lib.hid (BW.out.trans (hR.mono (by omega)))
          have HK2 := Lib.hid (HK.out.blw hR)
          clear E HE HC HA HL hW hR HR
          obtain ⟨wA, hwA⟩ : ∃ x, x = wr := ⟨_, rfl⟩
          subst hwA
          go_wp2
          go_loopw [4] (fun i w2 => ∃ j : Nat, j ≤ us.length ∧ i = .int .i64 j ∧ rcB [] us = rcB (us.take j) (us.drop j) ∧ Below wA.heap.size wA w2) (fun i _ => us.length - (intOf i).toNat)
          case atStart => exact ⟨0, by omega, rfl, rfl, Below.refl _ _⟩
          case round =>
            obtain ⟨j, hj, rfl, hE, hR⟩ := hrel
            have HE := Lib.hid hE
            clear hE
            obtain ⟨m0, m1, -⟩ := (HK2.out.blw hR).two
            have z4 : wA.heap.size ≤ wr.heap.size := hR.size
            have z5 : W.heap.size < wr.heap.size := by omega
            have HR := Lib.hid hR
            have hW := HB.out.trans ((BW2.out.trans (hR.mono (by omega))).mono hB)
            by_cases hlt2 : j < us.length
            · obtain ⟨ea, hlb⟩ := HA2.out (by omega)
              subst ea
              have z3 : b2 < wr.heap.size := by omega
              have q0 := (hW.cell (p := ⟨b2, o2 + j, none⟩) hlb).trans (HC2.out j hlt2)
              have hlj := HL2.out j hlt2
              have TD := Lib.hid (rcB_drop j hlt2)
              have TU := Lib.hid (HTU.out.take j hj)
              have HH := Lib.hid (fun (W' : World) (h' : Below wr.heap.size wr W') => hasS_any (· < B) (us.take j) (us.getD j []) _ W' ((TU.out.blw hW).blw (h'.mono (by omega))))
              have HO := Lib.hid (fun W => Ul.in_any (us.getD j []).length 1 8000 W)
              have EB : bodB (us.getD j []) = decide ((1 : Int) ≤ (us.getD j []).length ∧ ((us.getD j []).length : Int) ≤ 8000) := rfl
              rw [EB] at TD
              have hj2 : (j : Int) ≤ (cap2 : Int) := by omega
              clear EB hR hW
              generalize us.getD j [] = x at *
              generalize (us.take j).contains x = c at *
              generalize decide ((1 : Int) ≤ x.length ∧ (x.length : Int) ≤ 8000) = tb at *
              go_wp2_with fail
              cases tb <;> cases c
              all_goals
                refine wp_region_ext (by kernel_rfl) (by kernel_rfl) ?_
                repeat (go_big_quiet_step ((first
                  | (go_at_call 78; refine call_ext_same (v := .bool true) ?_; with_reducible exact HO.out _)
                  | (go_at_call 78; refine call_ext_same (v := .bool false) ?_; with_reducible exact HO.out _)
                  | (go_at_call 235; refine call_ext_same (v := .bool true) ?_; with_reducible exact HH.out _ (up_below _ _))
                  | (go_at_call 235; refine call_ext_same (v := .bool false) ?_; with_reducible exact HH.out _ (up_below _ _)))))
                refine wpQuiet_nil ?_
                intro _ hw'
                obtain ⟨y8, rfl⟩ := hw'
                have hv8 := up_below _ y8
                generalize up _ y8 = v8 at *
                have D8 := Lib.hid (belI_step HR.out hv8)
                clear hv8 m0 m1 q0
              · go_wp2
                go_ret
                exact ⟨ret_b (by rw [E2.out, HE.out, TD.out]; rfl), BW2.out.trans (D8.out.mono (by omega))⟩
              · go_wp2
                go_ret
                exact ⟨ret_b (by rw [E2.out, HE.out, TD.out]; rfl), BW2.out.trans (D8.out.mono (by omega))⟩
              · go_wp2
                go_roundw
                case rel => exact ⟨j + 1, by omega, by go_num, by rw [HE.out, TD.out]; rfl, D8.out⟩
                case measure => simp [intOf]; omega
              · go_wp2
                go_ret
                exact ⟨ret_b (by rw [E2.out, HE.out, TD.out]; rfl), BW2.out.trans (D8.out.mono (by omega))⟩
            · obtain rfl : j = us.length := by omega
              have F := Lib.hid (BW2.out.trans (hR.mono (by omega)))
              clear hW hR
              go_wp2
              go_ret
              exact ⟨ret_b (by rw [E2.out, HE.out, List.drop_length]; rfl), F.out⟩
    · have E := Lib.hid (show quB ⟨xs, us⟩ = false by rw [E0, decide_eq_false g2, Bool.false_and, Bool.and_false])
      clear E0
      go_enter Tryz.func203, Tryz.ntmps203
      go_wp2
      go_ret
      exact ⟨ret_b E.out.symm, BF.out⟩
  · have E := Lib.hid (show quB ⟨xs, us⟩ = false by rw [E0, decide_eq_false g1]; rfl)
    clear E0
    go_enter Tryz.func203, Tryz.ntmps203
    go_wp2
    go_ret
    exact ⟨ret_b E.out.symm, BF.out⟩
end Go.Proofs.YtmaknkbmilcanaaGreatDoor.Qu
