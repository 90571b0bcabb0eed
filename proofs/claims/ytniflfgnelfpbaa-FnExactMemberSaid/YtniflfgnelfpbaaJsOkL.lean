
/-
  The model's l02OK at a list or an object: the loop over the items.
-/
import Derived.Test.YtniflfgnelfpbaaJsHas
import Derived.Test.YtniflfgnelfpbaaExt
namespace Go.Proofs.Ytniflfgnelfpbaa.Js
open Go.RowKit
open Go.Proofs.Ytniflfgnelfpbaa.Ext (up up_below up_mk wp_region_ext call_ext call_ext_same call_ext_drewN)
@[local go_sem] theorem up_cellL (w : World) (y : Ext.Ext w) (b o : Nat) (h : b < w.heap.size) : (up w y).cell? ⟨b, o, none⟩ = w.cell? ⟨b, o, none⟩ := Ext.up_cell w y b o h
theorem okL_get {xs : List J} (d k : Nat) (hx : k < xs.length) : okL (xs.drop k) d = (okJ (xs.getD k default) d && okL (xs.drop (k + 1)) d) := by
  rw [List.drop_eq_getElem_cons hx]; simp [okL, hx]
theorem one_cells {w : World} {a b c d e : Value} {T : TypeId} : (w.alloc (.cells #[a, b, c, d, e] T (0, 0))).heap[w.heap.size]? = some (.cells #[a, b, c, d, e] T (0, 0)) := heap_alloc_new _ _
def OkRel (W : World) (kv nv iv : Value) (wr : World) : Prop := wr.cell? ⟨W.heap.size, 0, none⟩ = some kv ∧ wr.cell? ⟨W.heap.size, 3, none⟩ = some nv ∧ wr.cell? ⟨W.heap.size, 4, none⟩ = some iv ∧ W.heap.size < wr.heap.size ∧ Below W.heap.size W wr
theorem okRel_step {W wr w1 : World} {kv nv iv : Value} (s0 : wr.cell? ⟨W.heap.size, 0, none⟩ = some kv) (s1 : wr.cell? ⟨W.heap.size, 3, none⟩ = some nv) (s2 : wr.cell? ⟨W.heap.size, 4, none⟩ = some iv) (s4 : W.heap.size < wr.heap.size) (hR : Below W.heap.size W wr) (hb : Below wr.heap.size wr w1) : OkRel W kv nv iv w1 :=
  ⟨(hb.cell (p := ⟨W.heap.size, 0, none⟩) s4).trans s0, (hb.cell (p := ⟨W.heap.size, 3, none⟩) s4).trans s1, (hb.cell (p := ⟨W.heap.size, 4, none⟩) s4).trans s2, Nat.lt_of_lt_of_le s4 hb.size, hR.trans (hb.mono hR.size)⟩
set_option maxRecDepth 100000 in
set_option maxHeartbeats 4000000 in
theorem okS_good5 (B : Nat) (w0 : World) (d : Nat) (hd : 2 ≤ d) (hd5 : d ≤ 5) (xs : List J) (hx12 : xs.length ≤ 12) (a0 : Option Addr) (c0 : Nat) (iv : Value) (h1 : LIn (· < B) w0 iv xs)
    (ih : ∀ i, i < xs.length → ∀ (nv iv : Value), JIn (· < B) w0 (xs.getD i default) nv iv → ∀ (W : World), Below B w0 W → B ≤ W.heap.size →
      Calls Try.prog 21 #[jV (xs.getD i default) nv iv, .int .i64 ((d - 1 : Nat) : Int)] W fun e w' => e = .returned (.bool (okJ (xs.getD i default) (d - 1))) ∧ Below W.heap.size W w')
    (W : World) (hb : Below B w0 W) (hB : B ≤ W.heap.size) :
    Calls Try.prog 21 #[.agg #[.int .i64 5, .int .i64 0, .string ⟨#[]⟩, .slice a0 0 c0, iv], .int .i64 (d : Int)] W fun e w' => e = .returned (.bool (okL xs (d - 1))) ∧ Below W.heap.size W w' := by
  obtain ⟨a, cap, b, off, vn, vi, rfl, hcap, hm, ha, hc, hdp⟩ := h1
  have hn : xs.length ≤ 9223372036854775807 := by omega
  have HC := Lib.hid hc
  have HA := Lib.hid ha
  have HD := Lib.hid hdp
  have HI := Lib.hid ih
  have HB := Lib.hid hb
  have g3 : ((d : Int) == 1) = false := by simp; omega
  have g4 : decide (12 < (xs.length : Int)) = false := by simp; omega
  have ed : ((d - 1 : Nat) : Int) = (d : Int) - 1 := by omega
  rw [ed] at HI
  have g5 : -9223372036854775808 ≤ (d : Int) - 1 := by omega
  have g6 : (d : Int) - 1 ≤ 9223372036854775807 := by omega
  generalize d - 1 = d1 at *
  obtain ⟨b1, e1⟩ : ∃ b, ((xs.length : Int) == 0) = b := ⟨_, rfl⟩
  clear hc ha hdp ih hb ed hd
  have hst : ∀ o : Array Value, Below W.heap.size W (W.alloc (.cells o 36)) := fun o => (Below.refl _ _).alloc (Nat.le_refl _) _
  have HST := Lib.hid hst
  clear hst
  cases b1
  all_goals
    go_enter Try.func21, Try.ntmps21
    go_wp2_with fail
    go_loopw [6] (fun i wr => ∃ k : Nat, k ≤ xs.length ∧ i = .int .i64 k ∧ okL xs d1 = okL (xs.drop k) d1 ∧ OkRel W (.int .i64 5) (.slice a0 0 c0) (.slice a xs.length cap) wr) (fun i _ => xs.length - (intOf i).toNat)
    case atStart => exact ⟨0, by omega, rfl, rfl, by simp [go_sem], by simp [go_sem], by simp [go_sem], by simp, HST.out _⟩
    case round =>
      obtain ⟨kk, hk, rfl, hE, s0, s1, s2, s4, hR⟩ := hrel
      have HE := Lib.hid hE
      clear hE
      by_cases hlt : kk < xs.length
      · obtain ⟨ea, hlb⟩ := HA.out (by omega)
        subst ea
        have hW := HB.out.trans (hR.mono hB)
        have hWB : B ≤ wr.heap.size := Nat.le_trans hB hR.size
        obtain ⟨c0, c1, c2, c3, c4⟩ := HC.out kk hlt
        have q0 := (hW.cell (p := ⟨b, off + kk * 5, none⟩) hlb).trans c0
        have q1 := (hW.cell (p := ⟨b, off + kk * 5 + 1, none⟩) hlb).trans c1
        have q2 := (hW.cell (p := ⟨b, off + kk * 5 + 2, none⟩) hlb).trans c2
        have q3 := (hW.cell (p := ⟨b, off + kk * 5 + 3, none⟩) hlb).trans c3
        have q4 := (hW.cell (p := ⟨b, off + kk * 5 + 4, none⟩) hlb).trans c4
        have D := Lib.hid (okL_get d1 kk hlt)
        have HK := Lib.hid (fun (wx : World) (hx : Below W.heap.size W wx) => HI.out kk hlt _ _ (HD.out kk hlt) wx (HB.out.trans (hx.mono hB)) (Nat.le_trans hB hx.size))
        clear c0 c1 c2 c3 c4 hW
        generalize xs.getD kk default = x at *
        generalize vn kk = n1 at *
        generalize vi kk = i1 at *
        have hw1 : IntKind.i64.wrap ((d : Int) - 1) = (d : Int) - 1 := IntWalk.i64_in _ ⟨g5, g6⟩
        obtain ⟨s, hs⟩ : ∃ s, okJ x d1 = s := ⟨_, rfl⟩
        rw [hs] at D HK
        clear hs
        have hx1 : b < wr.heap.size := Nat.lt_of_lt_of_le hlb hWB
        cases s with
        | false =>
          go_wp2_with fail
          refine wp_region_ext (by kernel_rfl) (by kernel_rfl) ?_
          repeat (go_big_quiet_step ((go_at_call 21; exact call_ext (HK.out _ (hR.trans ((up_below _ _).mono hR.size))))))
          refine wpQuiet_nil ?_
          intro _ hw'
          obtain ⟨y1, rfl⟩ := hw'
          have hb1 := up_below wr y1
          generalize up wr y1 = w1 at *
          have HN := Lib.hid (okRel_step s0 s1 s2 s4 hR hb1)
          clear hb1 s0 s1 s2 s4 hR
          go_wp2
          go_ret
          exact ⟨ret_b (by rw [HE.out, D.out]; rfl), HN.out.2.2.2.2⟩
        | true =>
          go_wp2_with fail
          refine wp_region_ext (by kernel_rfl) (by kernel_rfl) ?_
          repeat (go_big_quiet_step ((go_at_call 21; exact call_ext (HK.out _ (hR.trans ((up_below _ _).mono hR.size))))))
          refine wpQuiet_nil ?_
          intro _ hw'
          obtain ⟨y1, rfl⟩ := hw'
          have hb1 := up_below wr y1
          generalize up wr y1 = w1 at *
          have HN := Lib.hid (okRel_step s0 s1 s2 s4 hR hb1)
          clear hb1 s0 s1 s2 s4 hR
          go_wp2
          go_roundw
          case rel => exact ⟨kk + 1, by omega, by go_num, by rw [HE.out, D.out, Bool.true_and], HN.out⟩
          case measure => simp [intOf]; omega
      · go_wp2
        go_ret
        obtain rfl : kk = xs.length := by omega
        exact ⟨ret_b (by rw [HE.out, List.drop_length]; rfl), hR⟩
end Go.Proofs.Ytniflfgnelfpbaa.Js
