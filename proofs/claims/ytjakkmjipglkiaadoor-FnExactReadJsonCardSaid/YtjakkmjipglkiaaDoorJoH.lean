
/-
  The laws' marks on a JSON value looked at again: heldJsonS, heldJson; markJson.
-/
import Derived.Test.YtjakkmjipglkiaaDoorJoM
namespace Go.Proofs.YtjakkmjipglkiaaDoor.Js
open Go.RowKit
open Go.Proofs.YtjakkmjipglkiaaDoor.Ext (up up_below up_mk wp_region_ext call_ext call_ext_same call_ext_drewN)
attribute [local go_sem] up_cellJ
theorem markI_in {S : Nat → Prop} {w : World} {x : J} {q : Nat} {nv iv : Value} (h : JIn S w (markI x q) nv iv) : TxtsIn S w nv (mks x.names.length (q + 3)) ∧ LIn S w iv (markL x.items (q + 3 + x.names.length)) := by
  obtain ⟨k, n, t, ns, xs⟩ := x
  unfold markI at h
  obtain ⟨h1, h2, -⟩ := h.inv
  exact ⟨h2, h1⟩
theorem markI_head (x : J) (q : Nat) : (markI x q).kind = (q : Int) ∧ (markI x q).num = (q : Int) + 1 ∧ (markI x q).text = mkT (q + 2) := by
  obtain ⟨k, n, t, ns, xs⟩ := x
  exact ⟨rfl, rfl, rfl⟩
theorem cntJ_parts (x : J) : cntJ x = x.names.length + cntL x.items := by
  obtain ⟨k, n, t, ns, xs⟩ := x
  rfl
set_option maxRecDepth 100000 in
set_option maxHeartbeats 4000000 in
theorem heldL_go (j : J) : ∀ (S : Nat → Prop) (iv : Value) (w : World) (q : Nat), LIn S w iv (markL j.items q) → (∀ b, S b → b < w.heap.size) → 0 < q → q + cntL j.items ≤ 4611686018427387904 →
    Calls Tryd.prog 18 #[iv, .int .i64 (q : Int)] w fun e w' => e = .returned (.int .i64 ((q + cntL j.items : Nat) : Int)) ∧ Below w.heap.size w w' := by
  induction j using J.ind with
  | h k0 n0 t0 ns0 xs ih =>
    intro S iv w q h hS hq hq2
    show Calls _ _ _ _ fun e w' => e = .returned (.int .i64 ((q + cntL xs : Nat) : Int)) ∧ Below w.heap.size w w'
    replace hq2 : q + cntL xs ≤ 4611686018427387904 := hq2
    replace h : LIn S w iv (markL xs q) := h
    obtain ⟨a, cap, b, off, vn, vi, rfl, hcap, hm, ha, hc, hd⟩ := h
    rw [markL_len] at hcap ha hc hd ⊢
    have HC := Lib.hid hc
    have HA := Lib.hid ha
    have HD := Lib.hid hd
    have HS := Lib.hid hS
    have HIH := Lib.hid ih
    have hcl := cnt_len xs
    have hn : xs.length ≤ 9223372036854775807 := by omega
    clear hc ha hd ih
    go_enter Tryd.func18, Tryd.ntmps18
    go_wp2
    go_loopw [1, 5] (fun kv iv wr => ∃ i qq : Nat, i ≤ xs.length ∧ iv = .int .i64 i ∧ kv = .int .i64 (qq : Int) ∧ qq = q + cntL (xs.take i) ∧ Below w.heap.size w wr) (fun _ iv _ => xs.length - (intOf iv).toNat)
    case atStart => exact ⟨0, q, by omega, rfl, rfl, by simp [cntL], Below.refl _ _⟩
    case round =>
      obtain ⟨i, qq, hi, rfl, rfl, hqq, hR⟩ := hrel
      have HR := Lib.hid hR
      by_cases hlt : i < xs.length
      · obtain ⟨ea, hlb⟩ := HA.out (by omega)
        subst ea
        have ht1 := cnt_take xs i hlt
        have ht2 := cnt_le xs (i + 1)
        obtain ⟨c0, c1, c2, c3, c4⟩ := HC.out i hlt
        have hji := HD.out i hlt
        rw [markL_get xs q i hlt, ← hqq] at c0 c1 c2 hji
        obtain ⟨m0, m1, m2⟩ := markI_head (xs.getD i default) qq
        rw [m0] at c0
        rw [m1] at c1
        rw [m2] at c2
        obtain ⟨hn5, hi5⟩ := markI_in hji
        have hcp := cntJ_parts (xs.getD i default)
        have HI := Lib.hid (HIH.out (xs.getD i default) (by simp [hlt]))
        have HQ2 := Lib.hid (show q + cntL (xs.take (i + 1)) = qq + 3 + (xs.getD i default).names.length + cntL (xs.getD i default).items by omega)
        have hqb : qq + 3 + (xs.getD i default).names.length + cntL (xs.getD i default).items ≤ 4611686018427387904 := by omega
        generalize xs.getD i default = x at *
        obtain ⟨a5, l5, c5, e5⟩ := hn5.slice
        obtain ⟨a6, l6, c6, e6⟩ := hi5.slice
        rw [e5] at c3 hn5
        rw [e6] at c4 hi5
        have hbw := hS b hlb
        have hd : b < wr.heap.size := Nat.lt_of_lt_of_le hbw hR.size
        have q0 := (hR.cell (p := ⟨b, off + i * 5, none⟩) hbw).trans c0
        have q1 := (hR.cell (p := ⟨b, off + i * 5 + 1, none⟩) hbw).trans c1
        have q2 := (hR.cell (p := ⟨b, off + i * 5 + 2, none⟩) hbw).trans c2
        have q3 := (hR.cell (p := ⟨b, off + i * 5 + 3, none⟩) hbw).trans c3
        have q4 := (hR.cell (p := ⟨b, off + i * 5 + 4, none⟩) hbw).trans c4
        have HQ3 := Lib.hid q3
        have HQ4 := Lib.hid q4
        have HT := Lib.hid (fun (z : Int) (hz : z = ((qq + 2 : Nat) : Int)) (W : World) => (hz ▸ markText_any (qq + 2) (by omega) (by omega) W : Calls Tryd.prog 29 #[.int .i64 z] W fun e w' => e = .returned (.string ⟨(mkT (qq + 2)).toArray⟩) ∧ Below W.heap.size W w'))
        have HH := Lib.hid (fun (W : World) (h : Below w.heap.size w W) => heldS_any S (.slice a5 l5 c5) x.names.length (qq + 3) W (hn5.same fun b hb => ⟨hb, h.block b (HS.out b hb)⟩) (fun b hb => Nat.lt_of_lt_of_le (HS.out b hb) h.size) (by omega) (by omega))
        have HHL := Lib.hid (fun (W : World) (h : Below w.heap.size w W) => HI.out S (.slice a6 l6 c6) W (qq + 3 + x.names.length) (hi5.same fun b hb => ⟨hb, h.block b (HS.out b hb)⟩) (fun b hb => Nat.lt_of_lt_of_le (HS.out b hb) h.size) (by omega) (by omega))
        generalize mkT (qq + 2) = tx at *
        clear hqq ht1 ht2 hn5 hi5 e5 e6 c0 c1 c2 c3 c4 hR q3 q4 m0 m1 m2 hji HI hcp
        have e1 : (tx == tx) = true := by simp
        have e2 : (tx != tx) = false := by simp
        go_wp2_with fail
        refine wp_region_ext (by kernel_rfl) (by kernel_rfl) ?_
        repeat (go_big_quiet_step ((go_at_call 29; refine call_ext (v := .string ⟨tx.toArray⟩) ?_; exact HT.out _ (by omega) _)))
        refine wpQuiet_nil ?_
        intro _ hw'
        obtain ⟨y8, rfl⟩ := hw'
        have hv8 := up_below _ y8
        generalize up _ y8 = v8 at *
        have D8 := Lib.hid (belI_step HR.out hv8)
        have r1 := (hv8.cell (p := ⟨b, off + i * 5 + 3, none⟩) hd).trans HQ3.out
        have HQ4' := Lib.hid ((hv8.cell (p := ⟨b, off + i * 5 + 4, none⟩) hd).trans HQ4.out)
        have HD8 := Lib.hid (Nat.lt_of_lt_of_le hd hv8.size)
        clear hv8 q0 q1 q2 HQ3 HQ4
        go_wp2_with fail
        refine (HH.out v8 D8.out).mono ?_
        rintro e w9 ⟨rfl, hb9⟩
        have D9 := Lib.hid (belI_step D8.out hb9)
        have g9 : ¬ (((qq + 3 + x.names.length : Nat) : Int) < 0) := by omega
        have r2 := (hb9.cell (p := ⟨b, off + i * 5 + 4, none⟩) HD8.out).trans HQ4'.out
        clear hb9 r1
        go_wp2_with fail
        refine (HHL.out w9 D9.out).mono ?_
        rintro e w10 ⟨rfl, hb10⟩
        have D10 := Lib.hid (belI_step D9.out hb10)
        have g10 : ¬ (((qq + 3 + x.names.length + cntL x.items : Nat) : Int) < 0) := by omega
        clear hb10 r2
        go_wp2
        go_roundw
        case rel => exact ⟨i + 1, qq + 3 + x.names.length + cntL x.items, by omega, by go_num, by go_num, HQ2.out.symm, D10.out⟩
        case measure => simp [intOf]; omega
      · obtain rfl : i = xs.length := by omega
        rw [List.take_length] at hqq
        go_wp2
        go_ret
        exact ⟨ret_iO (by omega), hR⟩
end Go.Proofs.YtjakkmjipglkiaaDoor.Js
