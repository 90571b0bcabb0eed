
/-
  The model's reader of JSON, walked, go on: word, a digit to the base 16, escape.
-/
import Derived.Test.YtjakkmjipglkiaaDoorRdT
namespace Go.Proofs.YtjakkmjipglkiaaDoor.Rd
open Go.RowKit
open Go.Proofs.YtjakkmjipglkiaaDoor.Rm
theorem slice_at {t bs : B} {p : Nat} (hp : At t p bs) (k : Nat) : (⟨t.toArray⟩ : ByteArray).extract p (p + k) = ⟨(bs.take k).toArray⟩ := by
  apply ByteArray.ext
  simp only [ByteArray.data_extract]
  apply Array.ext'
  simp [List.extract, hp.eq]
set_option maxRecDepth 100000 in
set_option maxHeartbeats 4000000 in
theorem word_no (R : Nat) (t bs q : B) (p : Nat) (W : World) (h : Hd W R (rsO t p 0)) (hp : At t p bs) (hl : t.length ≤ 65536) (hq : q.length ≤ 65536) (hr : Lib.hasPrefix bs q = false) :
    Calls Tryd.prog 31 #[ptr R, .string ⟨q.toArray⟩] W fun e w' => e = .returned (.tuple #[]) ∧ Hd w' R (rsO t p 3) ∧ Ch (· = R) W w' := by
  obtain ⟨c0, c1, c2, cf⟩ := h.three
  have HF := Lib.hid (fun n => fail_any R t p 0 3 (W.drewN n) (h.drewN n))
  have hlt := h.lt
  have hle := hp.le
  have hlen := hp.len
  by_cases hb : t.length < p + q.length
  · have g : decide ((t.length : Int) < (p : Int) + (q.length : Int)) = true := by simp; omega
    clear h hp hr
    go_enter Tryd.func31, Tryd.ntmps31
    go_wp2
    go_quiet (fail)
    go_wp2_with fail
    refine (HF.out nq).mono ?_
    rintro e w1 ⟨rfl, h1, hc⟩
    have H1 := Lib.hid h1
    have HC := Lib.hid (((Ch.refl (· = R) W).drewN nq).trans hc)
    clear h1 hc
    go_wp2
    exact bodyPost_ret (results_none Tryd.results31 _ _ _) rfl ⟨rfl, H1.out, HC.out⟩
  · have g : decide ((t.length : Int) < (p : Int) + (q.length : Int)) = false := by simp; omega
    have hex := slice_at hp q.length
    have hne : bs.take q.length ≠ q := fun e => by
      have : Lib.hasPrefix bs q = true := by
        unfold Lib.hasPrefix
        rw [List.isPrefixOf_iff_prefix, List.prefix_iff_eq_take]
        exact e.symm
      rw [this] at hr; cases hr
    generalize bs.take q.length = u at *
    have hne2 : (u == q) = false := by simpa using hne
    clear h hp hr hne
    go_enter Tryd.func31, Tryd.ntmps31
    go_wp2
    go_quiet (fail)
    go_wp2_with fail
    refine (HF.out nq).mono ?_
    rintro e w1 ⟨rfl, h1, hc⟩
    have H1 := Lib.hid h1
    have HC := Lib.hid (((Ch.refl (· = R) W).drewN nq).trans hc)
    clear h1 hc
    go_wp2
    exact bodyPost_ret (results_none Tryd.results31 _ _ _) rfl ⟨rfl, H1.out, HC.out⟩
theorem word_any (R : Nat) (t bs q : B) (p : Nat) (r : Bool) (W : World) (h : Hd W R (rsO t p 0)) (hp : At t p bs) (hl : t.length ≤ 65536) (hq : q.length ≤ 65536) (hr : Lib.hasPrefix bs q = r) :
    Calls Tryd.prog 31 #[ptr R, .string ⟨q.toArray⟩] W fun e w' => e = .returned (.tuple #[]) ∧ ∃ p', Hd w' R (rsO t p' (if r then 0 else 3)) ∧ At t p' (if r then bs.drop q.length else bs) ∧ Ch (· = R) W w' := by
  cases r with
  | true => exact (word_yes R t bs q p W h hp hl hq hr).mono fun e w' ⟨a, b, c, d⟩ => ⟨a, _, b, c, d⟩
  | false => exact (word_no R t bs q p W h hp hl hq hr).mono fun e w' ⟨a, b, d⟩ => ⟨a, _, b, hp, d⟩
/-- a digit to the base 16, or -1 -/
def hexI (x : UInt8) : Int := match hexV x with | some n => (n : Int) | none => -1
theorem hexI_cases (x : UInt8) : (48 ≤ x.toNat ∧ x.toNat ≤ 57 ∧ hexI x = (x.toNat : Int) - 48) ∨ (57 < x.toNat ∧ 97 ≤ x.toNat ∧ x.toNat ≤ 102 ∧ hexI x = (x.toNat : Int) - 87) ∨ (57 < x.toNat ∧ 65 ≤ x.toNat ∧ x.toNat ≤ 70 ∧ hexI x = (x.toNat : Int) - 55) ∨
    ((x.toNat < 48 ∨ 57 < x.toNat) ∧ (x.toNat < 97 ∨ 102 < x.toNat) ∧ (x.toNat < 65 ∨ 70 < x.toNat) ∧ hexI x = -1) := by
  unfold hexI hexV
  by_cases h1 : 48 ≤ x.toNat ∧ x.toNat ≤ 57
  · rw [if_pos h1]; simp only []; omega
  · rw [if_neg h1]
    by_cases h2 : 97 ≤ x.toNat ∧ x.toNat ≤ 102
    · rw [if_pos h2]; simp only []; omega
    · rw [if_neg h2]
      by_cases h3 : 65 ≤ x.toNat ∧ x.toNat ≤ 70
      · rw [if_pos h3]; simp only []; omega
      · rw [if_neg h3]; simp only [and_true]; omega
set_option maxRecDepth 100000 in
set_option maxHeartbeats 2000000 in
theorem digit_hex (x : UInt8) (w : World) : Calls Tryd.prog 66 #[.int .u8 x.toNat] w fun e w' => e = .returned (.int .i64 (hexI x)) ∧ w = w' := by
  have hx := x.toNat_lt
  rcases hexI_cases x with ⟨h1, h2, h3⟩ | ⟨h0, h1, h2, h3⟩ | ⟨h0, h1, h2, h3⟩ | ⟨h0, h1, h2, h3⟩
  · have HD := Lib.hid (fun w => show Calls Tryd.prog 53 #[.int .u8 (x.toNat : Int)] w fun e w' => e = .returned (.bool true) ∧ w = w' from by have := Ul.digit_any (x.toNat : Int) w; rwa [show decide ((48 : Int) ≤ x.toNat ∧ (x.toNat : Int) ≤ 57) = true by simp; omega] at this)
    rw [h3]
    go_enter Tryd.func66, Tryd.ntmps66
    go_wp2_with fail
    refine (HD.out _).mono ?_
    rintro e w1 ⟨rfl, rfl⟩
    go_wp2
    go_ret
    exact ⟨rfl, rfl⟩
  all_goals
    have HD := Lib.hid (fun w => show Calls Tryd.prog 53 #[.int .u8 (x.toNat : Int)] w fun e w' => e = .returned (.bool false) ∧ w = w' from by have := Ul.digit_any (x.toNat : Int) w; rwa [show decide ((48 : Int) ≤ x.toNat ∧ (x.toNat : Int) ≤ 57) = false by simp; omega] at this)
    rw [h3]
    clear h3
  · go_enter Tryd.func66, Tryd.ntmps66
    go_wp2_with fail
    refine (HD.out _).mono ?_
    rintro e w1 ⟨rfl, rfl⟩
    go_wp2
    go_ret
    exact ⟨rfl, rfl⟩
  · have g97 : decide ((97 : Int) ≤ (x.toNat : Int)) = false := by simp; omega
    go_enter Tryd.func66, Tryd.ntmps66
    go_wp2_with fail
    refine (HD.out _).mono ?_
    rintro e w1 ⟨rfl, rfl⟩
    go_wp2
    go_ret
    exact ⟨rfl, rfl⟩
  · obtain ⟨a, ha⟩ : ∃ a, decide ((97 : Int) ≤ (x.toNat : Int)) = a := ⟨_, rfl⟩
    obtain ⟨b, hb⟩ : ∃ b, decide ((65 : Int) ≤ (x.toNat : Int)) = b := ⟨_, rfl⟩
    have ga : a = true → decide ((x.toNat : Int) ≤ 102) = false := fun e => by subst e; simp at ha ⊢; omega
    have gb : b = true → decide ((x.toNat : Int) ≤ 70) = false := fun e => by subst e; simp at hb ⊢; omega
    clear h0 h1 h2
    cases a <;> cases b
    all_goals
      try have ga := ga rfl
      try have gb := gb rfl
      go_enter Tryd.func66, Tryd.ntmps66
      go_wp2_with fail
      refine (HD.out _).mono ?_
      rintro e w1 ⟨rfl, rfl⟩
      go_wp2
      go_ret
      exact ⟨rfl, rfl⟩
set_option maxRecDepth 100000 in
theorem find_esc : ∀ n : Fin 256, Ul.findB [34, 92, 47, 98, 102, 110, 114, 116] n.val = escI (UInt8.ofNat n.val) := by decide
theorem find_of (x : UInt8) : Ul.findB [34, 92, 47, 98, 102, 110, 114, 116] x.toNat = escI x := by
  have := find_esc ⟨x.toNat, x.toNat_lt⟩
  simpa using this
theorem escI_le (x : UInt8) : escI x ≤ 8 := List.findIdx_le_length
def escN : List Int := [34, 92, 47, 8, 12, 10, 13, 9]
theorem escN_at : ∀ k : Fin 8, escN.getD k.val 0 = ((escV.getD k.val 0).toNat : Int) := by decide
/-- a byte, or -1 -/
def byteI (r : Option (UInt8 × B)) : Int := match r with | some (c, _) => (c.toNat : Int) | none => -1
theorem esc_some {c : UInt8} {bs r : B} {x : UInt8} (h : escR (c :: bs) = some (x, r)) : (escI c < 8 ∧ x = escV.getD (escI c) 0 ∧ r = bs) ∨ (¬ escI c < 8 ∧ c = 117 ∧ hexR bs = some (x, r)) := by
  simp only [escR] at h
  by_cases h1 : escI c < 8
  · rw [if_pos h1] at h
    simp only [Option.some.injEq, Prod.mk.injEq] at h
    exact .inl ⟨h1, h.1.symm, h.2.symm⟩
  · rw [if_neg h1] at h
    by_cases h2 : c = 117
    · rw [if_pos h2] at h; exact .inr ⟨h1, h2, h⟩
    · rw [if_neg h2] at h; cases h
end Go.Proofs.YtjakkmjipglkiaaDoor.Rd
