
/-
  The model's l02OK at an object: the loop over the items and the names.
-/
import Derived.Test.YtniflfgnelfpbaaJsOkL
namespace Go.Proofs.Ytniflfgnelfpbaa.Js
open Go.RowKit
open Go.Proofs.Ytniflfgnelfpbaa.Ext (up up_below up_mk wp_region_ext call_ext call_ext_same call_ext_drewN)
@[local go_sem] theorem up_cellM (w : World) (y : Ext.Ext w) (b o : Nat) (h : b < w.heap.size) : (up w y).cell? ⟨b, o, none⟩ = w.cell? ⟨b, o, none⟩ := Ext.up_cell w y b o h
set_option maxRecDepth 100000 in
set_option maxHeartbeats 4000000 in
theorem okS_good6 (B : Nat) (w0 : World) (d : Nat) (hd : 2 ≤ d) (hd5 : d ≤ 5) (xs : List J) (hx12 : xs.length ≤ 12) (ns : List (List UInt8)) (nv iv : Value) (h1 : LIn (· < B) w0 iv xs) (h2 : TxtsIn (· < B) w0 nv ns) (hln : ns.length = xs.length)
    (ih : ∀ i, i < xs.length → ∀ (nv iv : Value), JIn (· < B) w0 (xs.getD i default) nv iv → ∀ (W : World), Below B w0 W → B ≤ W.heap.size →
      Calls Try.prog 21 #[jV (xs.getD i default) nv iv, .int .i64 ((d - 1 : Nat) : Int)] W fun e w' => e = .returned (.bool (okJ (xs.getD i default) (d - 1))) ∧ Below W.heap.size W w')
    (W : World) (hb : Below B w0 W) (hB : B ≤ W.heap.size) :
    Calls Try.prog 21 #[.agg #[.int .i64 6, .int .i64 0, .string ⟨#[]⟩, nv, iv], .int .i64 (d : Int)] W fun e w' => e = .returned (.bool (namesB [] ns && okL xs (d - 1))) ∧ Below W.heap.size W w' := by
  obtain ⟨a, cap, b, off, vn, vi, rfl, hcap, hm, ha, hc, hdp⟩ := h1
  have HTN := Lib.hid h2
  obtain ⟨a', cap', b', off', rfl, hcap', hm', hlen', ha', hc'⟩ := h2
  have hn' : ns.length ≤ 9223372036854775807 := by omega
  have HC' := Lib.hid hc'
  have HA' := Lib.hid ha'
  have HL' := Lib.hid hlen'
  have HLN := Lib.hid hln
  have g7 : ((ns.length : Int) != (xs.length : Int)) = false := by simp [hln]
  clear hc' ha' hlen' hln
  have hn : xs.length ≤ 9223372036854775807 := by omega
  have HC := Lib.hid hc
  have HA := Lib.hid ha
  have HD := Lib.hid hdp
  have HI := Lib.hid ih
  have HB := Lib.hid hb
  have g3 : ((d : Int) == 1) = false := by simp; omega
  have g4 : decide (12 < (xs.length : Int)) = false := by simp; omega
  have ed : ((d - 1 : Nat) : Int) = (d : Int) - 1 := by omega
  rw [ed] at HI
  have g5 : -9223372036854775808 ≤ (d : Int) - 1 := by omega
  have g6 : (d : Int) - 1 ≤ 9223372036854775807 := by omega
  generalize d - 1 = d1 at *
  obtain ⟨b1, e1⟩ : ∃ b, ((xs.length : Int) == 0) = b := ⟨_, rfl⟩
  clear hc ha hdp ih hb ed hd
  have hst : ∀ o : Array Value, Below W.heap.size W (W.alloc (.cells o 36)) := fun o => (Below.refl _ _).alloc (Nat.le_refl _) _
  have HST := Lib.hid hst
  clear hst
  obtain ⟨b2, e2⟩ : ∃ b, ((ns.length : Int) == 0) = b := ⟨_, rfl⟩
  cases b1 <;> cases b2
  all_goals
    go_enter Try.func21, Try.ntmps21
    go_wp2_with fail
    go_loopw [6] (fun i wr => ∃ k : Nat, k ≤ xs.length ∧ i = .int .i64 k ∧ (namesB [] ns && okL xs d1) = (namesB (ns.take k) (ns.drop k) && okL (xs.drop k) d1) ∧ OkRel W (.int .i64 6) (.slice a' ns.length cap') (.slice a xs.length cap) wr) (fun i _ => xs.length - (intOf i).toNat)
    case atStart => exact ⟨0, by omega, rfl, rfl, by simp [go_sem], by simp [go_sem], by simp [go_sem], by simp, HST.out _⟩
    case round =>
      obtain ⟨kk, hk, rfl, hE, s0, s1, s2, s4, hR⟩ := hrel
      have HE := Lib.hid hE
      clear hE
      by_cases hlt : kk < xs.length
      · have hlt' : kk < ns.length := by have := HLN.out; omega
        obtain ⟨ea, hlb⟩ := HA.out (by omega)
        obtain ⟨ea', hlb'⟩ := HA'.out (by omega)
        subst ea ea'
        have hW := HB.out.trans (hR.mono hB)
        have hWB : B ≤ wr.heap.size := Nat.le_trans hB hR.size
        obtain ⟨c0, c1, c2, c3, c4⟩ := HC.out kk hlt
        have q0 := (hW.cell (p := ⟨b, off + kk * 5, none⟩) hlb).trans c0
        have q1 := (hW.cell (p := ⟨b, off + kk * 5 + 1, none⟩) hlb).trans c1
        have q2 := (hW.cell (p := ⟨b, off + kk * 5 + 2, none⟩) hlb).trans c2
        have q3 := (hW.cell (p := ⟨b, off + kk * 5 + 3, none⟩) hlb).trans c3
        have q4 := (hW.cell (p := ⟨b, off + kk * 5 + 4, none⟩) hlb).trans c4
        have p0 := (hW.cell (p := ⟨b', off' + kk, none⟩) hlb').trans (HC'.out kk hlt')
        have D := Lib.hid (okL_get d1 kk hlt)
        have DN := Lib.hid (namesB_get kk hlt')
        have HH := Lib.hid (fun (wx : World) (hx : Below W.heap.size W wx) => hasS_any (· < B) (ns.take kk) (ns.getD kk []) (.slice (some ⟨b', off', none⟩) kk cap') wx ((HTN.out.blw (HB.out.trans (hx.mono hB))).take kk (by omega)))
        have htl := HL'.out kk hlt'
        have hkc : kk ≤ cap' := by omega
        have hx2 : b' < wr.heap.size := Nat.lt_of_lt_of_le hlb' hWB
        generalize ns.getD kk [] = t at *
        obtain ⟨hs1, hh1⟩ : ∃ r, (ns.take kk).contains t = r := ⟨_, rfl⟩
        rw [hh1] at DN HH
        clear hh1
        have HK := Lib.hid (fun (wx : World) (hx : Below W.heap.size W wx) => HI.out kk hlt _ _ (HD.out kk hlt) wx (HB.out.trans (hx.mono hB)) (Nat.le_trans hB hx.size))
        clear c0 c1 c2 c3 c4 hW
        generalize xs.getD kk default = x at *
        generalize vn kk = n1 at *
        generalize vi kk = i1 at *
        have hw1 : IntKind.i64.wrap ((d : Int) - 1) = (d : Int) - 1 := IntWalk.i64_in _ ⟨g5, g6⟩
        obtain ⟨s, hs⟩ : ∃ s, okJ x d1 = s := ⟨_, rfl⟩
        rw [hs] at D HK
        clear hs
        have hx1 : b < wr.heap.size := Nat.lt_of_lt_of_le hlb hWB
        cases s with
        | false =>
          go_wp2_with fail
          refine wp_region_ext (by kernel_rfl) (by kernel_rfl) ?_
          repeat (go_big_quiet_step ((first | (go_at_call 21; exact call_ext (HK.out _ (hR.trans ((up_below _ _).mono hR.size)))) | (go_at_call 38; exact call_ext_same (HH.out _ (hR.trans ((up_below _ _).mono hR.size)))))))
          refine wpQuiet_nil ?_
          intro _ hw'
          obtain ⟨y1, rfl⟩ := hw'
          have hb1 := up_below wr y1
          generalize up wr y1 = w1 at *
          have HN := Lib.hid (okRel_step s0 s1 s2 s4 hR hb1)
          clear hb1 s0 s1 s2 s4 hR
          go_wp2
          go_ret
          exact ⟨ret_b (by rw [HE.out, D.out, DN.out]; simp), HN.out.2.2.2.2⟩
        | true =>
          by_cases h120 : t.length ≤ 120
          · have f1 : decide (120 < (t.length : Int)) = false := by simp; omega
            have F1 := Lib.hid (show decide (t.length ≤ 120) = true by simpa using h120)
            clear h120
            cases hs1 with
            | true =>
              go_wp2_with fail
              refine wp_region_ext (by kernel_rfl) (by kernel_rfl) ?_
              repeat (go_big_quiet_step ((first | (go_at_call 21; exact call_ext (HK.out _ (hR.trans ((up_below _ _).mono hR.size)))) | (go_at_call 38; exact call_ext_same (HH.out _ (hR.trans ((up_below _ _).mono hR.size)))))))
              refine wpQuiet_nil ?_
              intro _ hw'
              obtain ⟨y1, rfl⟩ := hw'
              have hb1 := up_below wr y1
              generalize up wr y1 = w1 at *
              have HN := Lib.hid (okRel_step s0 s1 s2 s4 hR hb1)
              clear hb1 s0 s1 s2 s4 hR
              go_wp2
              go_ret
              exact ⟨ret_b (by rw [HE.out, D.out, DN.out]; simp [F1.out]), HN.out.2.2.2.2⟩
            | false =>
              go_wp2_with fail
              refine wp_region_ext (by kernel_rfl) (by kernel_rfl) ?_
              repeat (go_big_quiet_step ((first | (go_at_call 21; exact call_ext (HK.out _ (hR.trans ((up_below _ _).mono hR.size)))) | (go_at_call 38; exact call_ext_same (HH.out _ (hR.trans ((up_below _ _).mono hR.size)))))))
              refine wpQuiet_nil ?_
              intro _ hw'
              obtain ⟨y1, rfl⟩ := hw'
              have hb1 := up_below wr y1
              generalize up wr y1 = w1 at *
              have HN := Lib.hid (okRel_step s0 s1 s2 s4 hR hb1)
              clear hb1 s0 s1 s2 s4 hR
              go_wp2
              go_roundw
              case rel => exact ⟨kk + 1, by omega, by go_num, by rw [HE.out, D.out, DN.out]; simp [F1.out], HN.out⟩
              case measure => simp [intOf]; omega
          · have f1 : decide (120 < (t.length : Int)) = true := by simp; omega
            have F1 := Lib.hid (show decide (t.length ≤ 120) = false by simpa using h120)
            clear h120
            go_wp2_with fail
            refine wp_region_ext (by kernel_rfl) (by kernel_rfl) ?_
            repeat (go_big_quiet_step ((first | (go_at_call 21; exact call_ext (HK.out _ (hR.trans ((up_below _ _).mono hR.size)))) | (go_at_call 38; exact call_ext_same (HH.out _ (hR.trans ((up_below _ _).mono hR.size)))))))
            refine wpQuiet_nil ?_
            intro _ hw'
            obtain ⟨y1, rfl⟩ := hw'
            have hb1 := up_below wr y1
            generalize up wr y1 = w1 at *
            have HN := Lib.hid (okRel_step s0 s1 s2 s4 hR hb1)
            clear hb1 s0 s1 s2 s4 hR
            go_wp2
            go_ret
            exact ⟨ret_b (by rw [HE.out, D.out, DN.out]; simp [F1.out]), HN.out.2.2.2.2⟩
      · go_wp2
        go_ret
        obtain rfl : kk = xs.length := by omega
        exact ⟨ret_b (by rw [HE.out, List.drop_length, ← HLN.out, List.drop_length]; rfl), hR⟩
end Go.Proofs.Ytniflfgnelfpbaa.Js
