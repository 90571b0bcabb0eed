
/-
  The model's functions on targets, walked: l03Target, l03At.
-/
import Derived.Test.YtakiigddbdapaaaGreatDoorGrI
namespace Go.Proofs.YtakiigddbdapaaaGreatDoor.Gr
open Go.RowKit
open Go.Proofs.YtakiigddbdapaaaGreatDoor.Ul
open Go.Proofs.YtakiigddbdapaaaGreatDoor.Ext (up up_below up_mk wp_region_ext call_ext call_ext_same call_ext_drewN)
@[local go_sem] theorem up_cellS (w : World) (y : Ext.Ext w) (b o : Nat) (h : b < w.heap.size) : (up w y).cell? ⟨b, o, none⟩ = w.cell? ⟨b, o, none⟩ := Ext.up_cell w y b o h
theorem parseX_size (t : List UInt8) (hl : t.length ≤ 4294967280) : sizeU (parseX t) ≤ 4611686018427387904 := by
  exact Nat.le_trans (split_size t hl) (by omega)
set_option maxRecDepth 100000 in
set_option maxHeartbeats 4000000 in
theorem tgS_any (t : Tg) (W : World) (hl : t.url.length ≤ 4294967280) :
    Calls Tryz.prog 59 #[tV t] W fun e w' => e = .returned (.bool (tgB t)) ∧ Below W.heap.size W w' := by
  obtain ⟨u, p, q⟩ := t
  have e : tgB ⟨u, p, q⟩ = (((((parseB u && webB (parseX u).sch) && !(parseX u).hf) && (textL (parseX u) == u)) && rk p) && rk q) := rfl
  rw [e]
  clear e
  have HP := Lib.hid (fun W => parseS_any u W (Nat.le_trans hl (by omega)))
  have px := parseX_port u
  have sx := parseX_size u hl
  have HIp := Lib.hid (fun W => in_any p 1 9 W)
  have HIq := Lib.hid (fun W => in_any q 1 9 W)
  rw [show decide (1 ≤ p ∧ p ≤ 9) = rk p from rfl] at HIp
  rw [show decide (1 ≤ q ∧ q ≤ 9) = rk q from rfl] at HIq
  generalize parseB u = pb at *
  generalize parseX u = x at *
  obtain ⟨s, us, h, pr, pa, qu, f, hq, hf⟩ := x
  have HT := Lib.hid (fun W => text_any ⟨s, us, h, pr, pa, qu, f, hq, hf⟩ W px sx)
  have HW := Lib.hid (fun W => web_any s W)
  clear px sx hl
  simp only
  generalize textL ⟨s, us, h, pr, pa, qu, f, hq, hf⟩ = tx at *
  generalize rk p = rp at *
  generalize rk q = rq at *
  generalize webB s = wb at *
  obtain ⟨c, hc⟩ : ∃ c, (tx == u) = c := ⟨_, rfl⟩
  rw [hc]
  go_enter Tryz.func59, Tryz.ntmps59
  go_wp2_with fail
  refine (HP.out _).mono ?_
  rintro e w1 ⟨rfl, hb1⟩
  have k1 := (hb1.block W.heap.size (by simp)).trans (heap_alloc_new W (.cells #[.string ⟨u.toArray⟩, .int .i64 p, .int .i64 q] 55))
  have z1 : W.heap.size < w1.heap.size := by have := hb1.size; simp at this; omega
  have hB : Below W.heap.size W w1 := (by repeat (first | (with_reducible exact Below.refl _ _) | (with_reducible refine belI_set ?_ (by first | exact Nat.le_refl _ | simp)) | (with_reducible refine belI_alloc ?_) | (with_reducible refine Below.drew ?_) | (with_reducible refine belI_drewN ?_ _) | (with_reducible refine belI_step ?_ (by assumption))))
  have U1 := UAt.new w1 ⟨s, us, h, pr, pa, qu, f, hq, hf⟩
  obtain ⟨m0, m1, m2, mf⟩ := three_cells ((heap_alloc_old _ (.cells #[.string ⟨s.toArray⟩, .string ⟨us.toArray⟩, .string ⟨h.toArray⟩, .int .i64 pr, .string ⟨pa.toArray⟩, .string ⟨qu.toArray⟩, .string ⟨f.toArray⟩, .bool hq, .bool hf] 98) z1).trans k1)
  obtain ⟨q0, q1, q2, q3, q4, q5, q6, q7, q8, -⟩ := U1
  have hB2 := hB.alloc (Nat.le_of_lt z1) (.cells #[.string ⟨s.toArray⟩, .string ⟨us.toArray⟩, .string ⟨h.toArray⟩, .int .i64 pr, .string ⟨pa.toArray⟩, .string ⟨qu.toArray⟩, .string ⟨f.toArray⟩, .bool hq, .bool hf] 98)
  have z2 : w1.heap.size < (w1.alloc (.cells #[.string ⟨s.toArray⟩, .string ⟨us.toArray⟩, .string ⟨h.toArray⟩, .int .i64 pr, .string ⟨pa.toArray⟩, .string ⟨qu.toArray⟩, .string ⟨f.toArray⟩, .bool hq, .bool hf] 98)).heap.size := by simp
  clear hb1 HP k1 hB
  go_wp2_with fail
  generalize w1.alloc (.cells #[.string ⟨s.toArray⟩, .string ⟨us.toArray⟩, .string ⟨h.toArray⟩, .int .i64 pr, .string ⟨pa.toArray⟩, .string ⟨qu.toArray⟩, .string ⟨f.toArray⟩, .bool hq, .bool hf] 98) = w2 at *
  have z3 : W.heap.size < w2.heap.size := by omega
  have D := Lib.hid hB2
  clear hB2 mf
  cases pb
  · refine wp_region_ext (by kernel_rfl) (by kernel_rfl) ?_
    repeat (go_big_quiet_step ((first
      | (go_at_call 76; exact call_ext_same (HW.out _))
      | (go_at_call 77; exact call_ext (HT.out _))
      | (go_at_call 40; refine call_ext_same (v := .bool true) ?_; with_reducible exact HIp.out _)
      | (go_at_call 40; refine call_ext_same (v := .bool false) ?_; with_reducible exact HIp.out _)
      | (go_at_call 40; refine call_ext_same (v := .bool rq) ?_; with_reducible exact HIq.out _))))
    refine wpQuiet_nil ?_
    intro _ hw'
    obtain ⟨y8, rfl⟩ := hw'
    have hv8 := up_below _ y8
    generalize up _ y8 = v8 at *
    have D8 := Lib.hid (belI_step D.out hv8)
    clear hv8 D
    go_wp2
    go_ret
    exact ⟨rfl, D8.out⟩
  cases wb
  · refine wp_region_ext (by kernel_rfl) (by kernel_rfl) ?_
    repeat (go_big_quiet_step ((first
      | (go_at_call 76; exact call_ext_same (HW.out _))
      | (go_at_call 77; exact call_ext (HT.out _))
      | (go_at_call 40; refine call_ext_same (v := .bool true) ?_; with_reducible exact HIp.out _)
      | (go_at_call 40; refine call_ext_same (v := .bool false) ?_; with_reducible exact HIp.out _)
      | (go_at_call 40; refine call_ext_same (v := .bool rq) ?_; with_reducible exact HIq.out _))))
    refine wpQuiet_nil ?_
    intro _ hw'
    obtain ⟨y8, rfl⟩ := hw'
    have hv8 := up_below _ y8
    generalize up _ y8 = v8 at *
    have D8 := Lib.hid (belI_step D.out hv8)
    clear hv8 D
    go_wp2
    go_ret
    exact ⟨rfl, D8.out⟩
  cases hf
  rotate_left
  · refine wp_region_ext (by kernel_rfl) (by kernel_rfl) ?_
    repeat (go_big_quiet_step ((first
      | (go_at_call 76; exact call_ext_same (HW.out _))
      | (go_at_call 77; exact call_ext (HT.out _))
      | (go_at_call 40; refine call_ext_same (v := .bool true) ?_; with_reducible exact HIp.out _)
      | (go_at_call 40; refine call_ext_same (v := .bool false) ?_; with_reducible exact HIp.out _)
      | (go_at_call 40; refine call_ext_same (v := .bool rq) ?_; with_reducible exact HIq.out _))))
    refine wpQuiet_nil ?_
    intro _ hw'
    obtain ⟨y8, rfl⟩ := hw'
    have hv8 := up_below _ y8
    generalize up _ y8 = v8 at *
    have D8 := Lib.hid (belI_step D.out hv8)
    clear hv8 D
    go_wp2
    go_ret
    exact ⟨rfl, D8.out⟩
  cases c
  · refine wp_region_ext (by kernel_rfl) (by kernel_rfl) ?_
    repeat (go_big_quiet_step ((first
      | (go_at_call 76; exact call_ext_same (HW.out _))
      | (go_at_call 77; exact call_ext (HT.out _))
      | (go_at_call 40; refine call_ext_same (v := .bool true) ?_; with_reducible exact HIp.out _)
      | (go_at_call 40; refine call_ext_same (v := .bool false) ?_; with_reducible exact HIp.out _)
      | (go_at_call 40; refine call_ext_same (v := .bool rq) ?_; with_reducible exact HIq.out _))))
    refine wpQuiet_nil ?_
    intro _ hw'
    obtain ⟨y8, rfl⟩ := hw'
    have hv8 := up_below _ y8
    generalize up _ y8 = v8 at *
    have D8 := Lib.hid (belI_step D.out hv8)
    clear hv8 D
    go_wp2
    go_ret
    exact ⟨rfl, D8.out⟩
  cases rp
  · refine wp_region_ext (by kernel_rfl) (by kernel_rfl) ?_
    repeat (go_big_quiet_step ((first
      | (go_at_call 76; exact call_ext_same (HW.out _))
      | (go_at_call 77; exact call_ext (HT.out _))
      | (go_at_call 40; refine call_ext_same (v := .bool true) ?_; with_reducible exact HIp.out _)
      | (go_at_call 40; refine call_ext_same (v := .bool false) ?_; with_reducible exact HIp.out _)
      | (go_at_call 40; refine call_ext_same (v := .bool rq) ?_; with_reducible exact HIq.out _))))
    refine wpQuiet_nil ?_
    intro _ hw'
    obtain ⟨y8, rfl⟩ := hw'
    have hv8 := up_below _ y8
    generalize up _ y8 = v8 at *
    have D8 := Lib.hid (belI_step D.out hv8)
    clear hv8 D
    go_wp2
    go_ret
    exact ⟨rfl, D8.out⟩
  · refine wp_region_ext (by kernel_rfl) (by kernel_rfl) ?_
    repeat (go_big_quiet_step ((first
      | (go_at_call 76; exact call_ext_same (HW.out _))
      | (go_at_call 77; exact call_ext (HT.out _))
      | (go_at_call 40; refine call_ext_same (v := .bool true) ?_; with_reducible exact HIp.out _)
      | (go_at_call 40; refine call_ext_same (v := .bool false) ?_; with_reducible exact HIp.out _)
      | (go_at_call 40; refine call_ext_same (v := .bool rq) ?_; with_reducible exact HIq.out _))))
    refine wpQuiet_nil ?_
    intro _ hw'
    obtain ⟨y8, rfl⟩ := hw'
    have hv8 := up_below _ y8
    generalize up _ y8 = v8 at *
    have D8 := Lib.hid (belI_step D.out hv8)
    clear hv8 D
    go_wp2
    go_ret
    exact ⟨rfl, D8.out⟩
end Go.Proofs.YtakiigddbdapaaaGreatDoor.Gr
