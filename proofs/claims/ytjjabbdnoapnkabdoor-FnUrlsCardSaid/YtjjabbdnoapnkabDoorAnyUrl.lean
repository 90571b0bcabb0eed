
/-
  The texts that are nearly addresses, drawn: that a text of moderate length comes out, whatever it is.
-/
import Derived.Test.YtjjabbdnoapnkabDoorDrawVal
import Derived.Test.YtjjabbdnoapnkabDoorUrlSpecB
import Derived.Laws.MakeOwn
import Derived.IntWalk
namespace Go.Proofs.YtjjabbdnoapnkabDoor.Dr
open Go.RowKit
open Go.Proofs.YtjjabbdnoapnkabDoor.Ul (digits_any digs_len)
attribute [local go_sem] bappD
@[local go_sem] theorem ext_any (l : List UInt8) (i j : Nat) : (⟨l.toArray⟩ : ByteArray).extract i j = ⟨((l.take j).drop i).toArray⟩ := by
  apply ByteArray.ext; simp [List.extract_toArray, List.extract, List.drop_take]
def odd : List (List UInt8) := [[], [100, 97, 116, 97, 58, 116, 101, 120, 116, 44, 97, 98, 99], [98, 108, 111, 98, 58, 104, 116, 116, 112, 115, 58, 47, 47, 97, 47, 98], [97, 98, 111, 117, 116, 58, 98, 108, 97, 110, 107], [97, 98, 111, 117, 116, 58, 98, 108, 97, 110, 107, 63, 120, 35, 121], [105, 110, 108, 105, 110, 101], [101, 118, 97, 108], [72, 84, 84, 80, 58, 47, 47, 65, 46, 69, 120, 97, 109, 112, 108, 101, 47, 80], [104, 116, 116, 112, 115, 58, 47, 97], [104, 116, 116, 112, 115, 58, 47, 47], [104, 116, 116, 112, 115, 58, 47, 47, 47, 112], [104, 116, 116, 112, 115, 58, 47, 47, 97, 46, 46, 98, 47], [104, 116, 116, 112, 115, 58, 47, 47, 45, 97, 47], [104, 116, 116, 112, 115, 58, 47, 47, 97, 58, 48, 47], [104, 116, 116, 112, 115, 58, 47, 47, 97, 58, 57, 57, 57, 57, 57, 47], [104, 116, 116, 112, 115, 58, 47, 47, 97, 58, 120, 47], [104, 116, 116, 112, 115, 58, 47, 47, 97, 32, 98, 47], [104, 116, 116, 112, 115, 58, 47, 47, 97, 64, 98, 64, 99, 47], [49, 97, 58, 120], [58, 120], [102, 116, 112, 58, 47, 47, 104, 47, 112], [104, 116, 116, 112, 115, 58, 47, 47, 104, 47, 112, 32, 113], [104, 116, 116, 112, 115, 58, 47, 47, 104, 58, 47], [104, 116, 116, 112, 115, 58, 47, 47, 97, 45, 47]]
def bits : List (List UInt8) := [[32], [0], [47], [58], [64], [35], [63], [90], [128]]
theorem pick_len (s : S) (ts : List (List UInt8)) (n : Nat) (h : (ts.all fun t => decide (t.length ≤ n)) = true) : (pickL s ts).length ≤ n := by
  unfold pickL
  rw [List.getD_eq_getElem?_getD]
  cases hg : ts[nextV s ts.length]? with
  | none => simp
  | some t =>
    have := List.mem_of_getElem? hg
    have := List.all_eq_true.1 h t this
    simpa using this
theorem fr_below {b : Nat} {w w' : World} (h : Below w.heap.size w w') : Fr b w w' := ⟨h.os, h.tape, h.output, h.size, fun k hk _ => h.block k hk⟩
theorem SrcAt.below {w w' : World} {b : Nat} {c : Value} {s : S} (h : SrcAt w b c s) (hb : Below w.heap.size w w') : SrcAt w' b c s := ⟨(hb.block b h.lt).trans h.blk, h.code.fr (fr_below hb)⟩
set_option maxRecDepth 100000 in
theorem next_big (b : Nat) (c : Value) (s : S) (n : Nat) (w : World) (hn : 256 < n) (hn2 : n ≤ 4294967296) (h : SrcAt w b c s) (hf : s.fit 900000) :
    Calls Tryd.prog 50 #[.pointer (some ⟨b, 0, none⟩), .int .i64 (n : Int)] w fun e w' => ∃ v s' : _, v < n ∧ v < 16777216 ∧ s'.fit 900003 ∧ e = .returned (.int .i64 ((v : Nat) : Int)) ∧ SrcAt w' b c s' ∧ Fr b w w' := by
  have HB1 := Lib.hid (byte_any b c s w h (hf.le (by omega)))
  have HB2 := Lib.hid (fun W h => byte_any b c (byteS s) W h ((hf.byte).le (by omega)))
  have HB3 := Lib.hid (fun W h => byte_any b c (byteS (byteS s)) W h ((hf.byte.byte).le (by omega)))
  have F3 := hf.byte.byte.byte
  have v1 := byteV_lt s
  have v2 := byteV_lt (byteS s)
  have v3 := byteV_lt (byteS (byteS s))
  clear h
  generalize byteS (byteS (byteS s)) = s3 at *
  generalize byteV (byteS (byteS s)) = x3 at *
  generalize byteS (byteS s) = s2 at *
  generalize byteV (byteS s) = x2 at *
  generalize byteS s = s1 at *
  generalize byteV s = x1 at *
  have d1 : decide ((n : Int) ≤ 1) = false := by simp; omega
  have d2 : decide ((n : Int) ≤ 256) = false := by simp; omega
  go_enter Tryd.func50, Tryd.ntmps50
  go_wp2_with fail
  refine HB1.out.mono ?_
  rintro e w1 ⟨rfl, h1, f1⟩
  go_wp2_with fail
  refine (HB2.out _ h1).mono ?_
  rintro e w2 ⟨rfl, h2, f2⟩
  go_wp2_with fail
  refine (HB3.out _ h2).mono ?_
  rintro e w3 ⟨rfl, h3, f3⟩
  go_wp2
  go_ret
  refine ⟨(x1 * 65536 + x2 * 256 + x3) % n, s3, Nat.mod_lt _ (by omega), Nat.lt_of_le_of_lt (Nat.mod_le _ _) (by omega), F3, ?_, h3, (f1.trans f2).trans f3⟩
  exact ret_i (by rw [Int.natCast_emod, Int.natCast_add, Int.natCast_add, Int.natCast_mul, Int.natCast_mul]; rfl)
theorem urlT_okN (s : S) (N : Nat) (hf : s.fit N) : (urlT s).ok (N + 100) 80 := by
  have h : (TS.mk [] s).ok N 0 := ⟨hf, Nat.le_refl _⟩
  have := ((((((((h.pick schemes (by decide)).may users (by decide)).pick hosts (by decide)).may ports (by decide)).pick paths (by decide)).may queries (by decide)).may frags (by decide)))
  exact ⟨this.fit.le (by omega), by have := this.len; unfold urlT; omega⟩
theorem make_zero : ∃ o : Obj, ∀ W : World, (Instr.makeSlice 22 (.int .i64 0) (.int .i64 0)).run Tryd.prog W = .ok (.slice (some ⟨W.heap.size, 0, none⟩) 0 0) (W.alloc o) := by
  have h : ((Tryd.prog.info? 5).bind (·.zero)).isSome = true := by kernel_rfl
  cases hi : Tryd.prog.info? 5 with
  | none => rw [hi] at h; cases h
  | some i =>
    cases hz : i.zero with
    | none => rw [hi] at h; simp [hz] at h
    | some z => exact ⟨_, fun W => run_make W 22 5 i z Tryd.underlying22 hi hz .i64 .i64 0 0 (by omega) (by omega) (by simp) (by omega)⟩
theorem conv_zero (W : World) (a : Addr) (cap : Nat) : (convert 22 9 (.slice (some a) 0 cap)).run Tryd.prog W = .ok (.string ⟨#[]⟩) W :=
  run_convert_bytes_back (P := Tryd.prog) W 22 9 5 a cap [] Tryd.underlying22 Tryd.underlying5 Tryd.underlying9 (fun j hj => by simp at hj)
set_option maxRecDepth 100000 in
set_option maxHeartbeats 1000000 in
theorem anyUrl_any (b : Nat) (c : Value) (s : S) (w : World) (h : SrcAt w b c s) (hf : s.fit 0) :
    Calls Tryd.prog 29 #[.pointer (some ⟨b, 0, none⟩)] w fun e w' => ∃ t : List UInt8, e = .returned (.string ⟨t.toArray⟩) ∧ t.length ≤ 1000 ∧ Fr b w w' := by
  have HN := Lib.hid (next_any b c s 6 w (by decide) h (hf.le (by omega)))
  have F1 := hf.next 6
  have hv := nextV_lt s 6 (by decide)
  have hlt := h.lt
  clear h
  generalize nextS s 6 = s1 at *
  generalize nextV s 6 = v at *
  go_enter Tryd.func29, Tryd.ntmps29
  go_wp2_with fail
  refine HN.out.mono ?_
  rintro e w1 ⟨rfl, h1, f1⟩
  go_wp2_with fail
  · have HT := texts_new w1 odd 9
    have hl1 := h1.lt
    have hb0 := h1.alloc (.cells (odd.map fun t => Value.string ⟨t.toArray⟩).toArray 9)
    refine (pick_any b w1.heap.size 24 c s1 odd _ (by decide) (by decide) (by omega) (by simp) HT hb0 (F1.le (by omega))).mono ?_
    rintro e w2 ⟨rfl, h2, f2⟩
    go_wp2
    go_ret
    exact ⟨_, rfl, Nat.le_trans (pick_len s1 odd 30 (by decide)) (by omega), f1.trans (((Fr.refl b w1).alloc _).trans f2)⟩
  · have OK := urlT_okN s1 _ F1
    refine (url_any b c s1 _ h1 (F1.le (by omega))).mono ?_
    rintro e w2 ⟨rfl, h2, f2⟩
    have f2 := f1.trans f2
    have F2 := OK.fit
    have L2 := OK.len
    clear OK h1 f1
    generalize (urlT s1).s = s2 at *
    generalize (urlT s1).t = t at *
    have HN2 := next_any b c s2 (t.length + 1) w2 (by omega) h2 (F2.le (by omega))
    have F3 := F2.next (t.length + 1)
    have v3 := nextV_lt s2 (t.length + 1) (by omega)
    rw [show ((t.length + 1 : Nat) : Int) = (t.length : Int) + 1 from by omega] at HN2
    have HN3 := Lib.hid HN2
    clear HN2 h2
    generalize nextS s2 (t.length + 1) = s3 at *
    generalize nextV s2 (t.length + 1) = k at *
    go_wp2_with fail
    refine HN3.out.mono ?_
    rintro e w3 ⟨rfl, h3, f3⟩
    have f3 := f2.trans f3
    go_wp2_with fail
    have HT := texts_new w3.drew bits 9
    have hl3 := h3.lt
    have hb3 := h3.drew.alloc (.cells (bits.map fun t => Value.string ⟨t.toArray⟩).toArray 9)
    have P3 := pick_len s3 bits 1 (by decide)
    have HP := Lib.hid (pick_any b w3.heap.size 9 c s3 bits _ (by decide) (by decide) (by omega) (by simp) HT hb3 (F3.le (by omega)))
    have f3' : Fr b w (w3.drew.alloc (.cells (bits.map fun t => Value.string ⟨t.toArray⟩).toArray 9)) := f3.drew.alloc _
    clear HT hb3 HN3
    generalize pickL s3 bits = pk at *
    have k1 : k ≤ t.length := by omega
    have b1 : ¬ 9223372036854775807 < k + pk.length := by omega
    have b2 : ¬ 9223372036854775807 < k + pk.length + (t.length - k) := by omega
    have b3 : (List.take k t ++ (pk ++ List.drop k t)).length ≤ 1000 := by simp; omega
    go_region_held3 (fun _ => True) (trivial) (first | (go_at_call 51; refine HP.out.mono ?_; rintro e w4 ⟨rfl, h4, f4⟩))
    all_goals
      go_wp2
      go_ret
      exact ⟨_, rfl, b3, f3'.trans f4⟩
  · have OK := urlT_okN s1 _ F1
    have F2 := OK.fit
    have L2 := OK.len
    have HU := Lib.hid (fun W h => url_any b c s1 W h (F1.le (by omega)))
    have HN1 := fun W h => next_big b c (urlT s1).s 100000000 W (by decide) (by decide) h (F2.le (by omega))
    rw [show ((100000000 : Nat) : Int) = 100000000 from rfl] at HN1
    have HN2 := Lib.hid HN1
    obtain ⟨mo, HM⟩ := make_zero
    have HC := conv_zero
    clear OK HN1 F2
    generalize (urlT s1).s = s2 at *
    generalize (urlT s1).t = t at *
    have b1 : ¬ 9223372036854775807 < t.length + 1 := by omega
    go_region_held3 (fun _ => True) (trivial) (first
      | (go_at_call 30; refine (HU.out _ (by first | exact h1.drew | exact h1.drew.alloc _)).mono ?_; rintro e w2 ⟨rfl, h2, f2⟩; have g2 : Fr b w w2 := (by first | exact f1.drew.trans f2 | exact (f1.drew.alloc _).trans f2))
      | (go_at_call 50; have hh4 := h4; refine (next_any b c s3 12 _ (by decide) (by first | exact h4 | exact h4.alloc _) (F3.le (by omega))).mono ?_; rintro e w5 ⟨rfl, h5, f5⟩; have g5 : Fr b w w5 := (by first | exact g4.trans f5 | exact (g4.alloc _).trans f5); have hv5 := nextV_lt s3 12 (by decide); have p5 : (0 : Int) ≤ 50 + (nextV s3 12 : Int) := (by omega); have q5 : 50 + (nextV s3 12 : Int) ≤ 62 := (by omega); have b5 : ¬ 9223372036854775807 < t.length + ((Lib.decDigits x3).length + 1) + min (50 + nextV s3 12) 62 := (by omega); have r5 : (50 + (nextV s3 12 : Int)).toNat = 50 + nextV s3 12 := (by omega); have W5 : IntKind.i64.wrap (50 + (nextV s3 12 : Int)) = 50 + (nextV s3 12 : Int) := IntWalk.i64_in _ (by omega))
      | (go_at_call 50; refine (HN2.out _ (by first | exact h2 | exact h2.alloc _)).mono ?_; rintro e w3 ⟨x3, s3, lv, lv2, F3, rfl, h3, f3⟩; have g3 : Fr b w w3 := (by first | exact g2.trans f3 | exact (g2.alloc _).trans f3); have ld := digs_len 8 x3 (by omega); have b4 : ¬ 9223372036854775807 < t.length + 1 + (Lib.decDigits x3).length := (by omega))
      | (go_at_call 52; refine (digits_any x3 (by omega) _).mono ?_; rintro e w4 ⟨rfl, hb4⟩; have h4 : SrcAt w4 b c s3 := (by first | exact h3.below hb4 | exact (h3.alloc _).below hb4); have g4 : Fr b w w4 := (by first | exact g3.trans (fr_below hb4) | exact (g3.alloc _).trans (fr_below hb4))))
    all_goals
      clear W5
      first
      | (exfalso; omega)
      | (go_wp2; go_ret; exact ⟨_, rfl, by simp; omega, by first | exact g5 | exact g5.alloc _⟩)
  · have OK := urlT_okN s1 _ F1
    refine (url_any b c s1 _ h1 (F1.le (by omega))).mono ?_
    rintro e w2 ⟨rfl, h2, f2⟩
    go_wp2
    go_ret
    exact ⟨_, rfl, Nat.le_trans OK.len (by omega), f1.trans f2⟩
end Go.Proofs.YtjjabbdnoapnkabDoor.Dr
