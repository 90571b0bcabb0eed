
/-
  The model's reader of JSON, walked, go on: blanks, skip, word.
-/
import Derived.Test.YtjakkmjipglkiaaDoorRdS
namespace Go.Proofs.YtjakkmjipglkiaaDoor.Rd
open Go.RowKit
open Go.Proofs.YtjakkmjipglkiaaDoor.Rm
/-- how far the reader is from the end -/
def leftW (R n : Nat) (w : World) : Nat := n - (match w.cell? ⟨R, 1, none⟩ with | some v => (intOf v).toNat | none => 0)
theorem leftW_of {R n p : Nat} {w : World} (h : w.cell? ⟨R, 1, none⟩ = some (.int .i64 (p : Int))) : leftW R n w = n - p := by simp [leftW, h, intOf]
theorem left_lt {R p q : Nat} {t : B} {c c' : Int} {w w' : World} (h : Hd w R (rsO t p c)) (h' : Hd w' R (rsO t q c')) (h1 : p < q) (h2 : p < t.length) : leftW R t.length w' < leftW R t.length w := by
  rw [leftW_of h.three.2.1, leftW_of h'.three.2.1]; omega
theorem trim_ws {x : UInt8} {bs : B} (h : x = 32 ∨ x = 9 ∨ x = 10 ∨ x = 13) : trim (x :: bs) = trim bs := by
  rw [trim_cons]; rcases h with rfl | rfl | rfl | rfl <;> rfl
theorem trim_no {x : UInt8} {bs : B} (h : ¬ (x = 32 ∨ x = 9 ∨ x = 10 ∨ x = 13)) : trim (x :: bs) = x :: bs := by
  rw [trim_cons]
  simp only [not_or] at h
  rw [if_neg]
  simp [wsB, h.1, h.2.1, h.2.2.1, h.2.2.2]
theorem n8 {x : UInt8} {k : Nat} (hk : k < 256) (h : x ≠ UInt8.ofNat k) : ((x.toNat : Int) == (k : Int)) = false := by
  rw [beq_eq_false_iff_ne]
  intro e
  exact h (by rw [← UInt8.toNat_inj]; simp; omega)
set_option maxRecDepth 100000 in
set_option maxHeartbeats 4000000 in
theorem blanks_any (R : Nat) (t bs : B) (p : Nat) (c : Int) (W : World) (h : Hd W R (rsO t p c)) (hp : At t p bs) (hl : t.length ≤ 65536) :
    Calls Tryd.prog 20 #[ptr R] W fun e w' => e = .returned (.tuple #[]) ∧ ∃ p', Hd w' R (rsO t p' c) ∧ At t p' (trim bs) ∧ Ch (· = R) W w' := by
  have H := Lib.hid h
  have HP := Lib.hid hp
  clear h hp
  go_enter Tryd.func20, Tryd.ntmps20
  go_wp2_with fail
  go_loopw [] (fun wr => ∃ (p' : Nat) (rs : B), Hd wr R (rsO t p' c) ∧ At t p' rs ∧ trim rs = trim bs ∧ Ch (· = R) W wr) (fun wr => leftW R t.length wr)
  case atStart => exact ⟨p, bs, H.out, HP.out, rfl, Ch.refl _ _⟩
  case round =>
    obtain ⟨q, rs, hr, hq, hE, hC⟩ := hrel
    obtain ⟨c0, c1, c2, cf⟩ := hr.three
    have HR := Lib.hid hr
    have HE := Lib.hid hE
    have HC := Lib.hid hC
    have HQ := Lib.hid hq
    have hlt := hr.lt
    clear hE hC hr
    cases rs with
    | nil =>
      obtain rfl := hq.nil
      clear hq
      go_wp2
      go_quiet (fail)
      go_wp2
      go_end0
      exact ⟨rfl, t.length, HR.out, ⟨HQ.out.le, by rw [← HE.out]; exact HQ.out.eq⟩, HC.out.drewN _⟩
    | cons x rs =>
      have hb := hq.byte
      have hq1 := hq.lt
      clear hq
      by_cases hw : x = 32 ∨ x = 9 ∨ x = 10 ∨ x = 13
      · have HE2 := Lib.hid ((trim_ws hw).symm.trans HE.out)
        rcases hw with rfl | rfl | rfl | rfl
        all_goals
          go_wp2
          go_quiet (fail)
          go_wp2
          go_roundw
          case rel => exact ⟨q + 1, rs, HR.out.set 1 _, HQ.out.next, HE2.out, (HC.out.drewN _).set rfl⟩
          case measure => exact left_lt HR.out (HR.out.set 1 _) (Nat.lt_succ_self q) hq1
      · have HE2 := Lib.hid ((trim_no hw).symm.trans HE.out)
        simp only [not_or] at hw
        obtain ⟨w1, w2, w3, w4⟩ := hw
        have e1 : ((x.toNat : Int) == 32) = false := n8 (k := 32) (by decide) w1
        have e2 : ((x.toNat : Int) == 9) = false := n8 (k := 9) (by decide) w2
        have e3 : ((x.toNat : Int) == 10) = false := n8 (k := 10) (by decide) w3
        have e4 : ((x.toNat : Int) == 13) = false := n8 (k := 13) (by decide) w4
        clear w1 w2 w3 w4
        go_wp2
        go_quiet (fail)
        go_wp2
        go_end0
        exact ⟨rfl, q, HR.out, by rw [← HE2.out]; exact HQ.out, HC.out.drewN _⟩
set_option maxRecDepth 100000 in
set_option maxHeartbeats 4000000 in
theorem skip_yes (R : Nat) (t rs : B) (p : Nat) (x : UInt8) (W : World) (h : Hd W R (rsO t p 0)) (hp : At t p (x :: rs)) (hl : t.length ≤ 65536) :
    Calls Tryd.prog 50 #[ptr R, .int .u8 x.toNat] W fun e w' => e = .returned (.bool true) ∧ Hd w' R (rsO t (p + 1) 0) ∧ Ch (· = R) W w' := by
  obtain ⟨c0, c1, c2, cf⟩ := h.three
  have H := Lib.hid h
  have hlt := h.lt
  have hb := hp.byte
  have hq1 := hp.lt
  have hne : ((x.toNat : Int) != (x.toNat : Int)) = false := by simp
  have hpl : ((p : Int) == (t.length : Int)) = false := by rw [beq_eq_false_iff_ne]; omega
  clear h hp
  go_enter Tryd.func50, Tryd.ntmps50
  go_wp2
  go_quiet (fail)
  go_wp2
  go_ret
  exact ⟨rfl, H.out.set 1 _, ((Ch.refl _ _).drewN _).set rfl⟩
set_option maxRecDepth 100000 in
set_option maxHeartbeats 4000000 in
theorem skip_no (R : Nat) (t bs : B) (p : Nat) (c : Int) (y : UInt8) (W : World) (h : Hd W R (rsO t p c)) (hp : At t p bs) (_hl : t.length ≤ 65536) (hno : (c == 0 && Lib.hasPrefix bs [y]) = false) :
    Calls Tryd.prog 50 #[ptr R, .int .u8 y.toNat] W fun e w' => e = .returned (.bool false) ∧ Hd w' R (rsO t p c) ∧ Ch (· = R) W w' := by
  obtain ⟨c0, c1, c2, cf⟩ := h.three
  have H := Lib.hid h
  have hlt := h.lt
  clear h
  by_cases hc : c = 0
  · subst hc
    cases bs with
    | nil =>
      obtain rfl := hp.nil
      clear hp hno
      go_enter Tryd.func50, Tryd.ntmps50
      go_wp2
      go_quiet (fail)
      go_wp2
      go_ret
      exact ⟨rfl, H.out, (Ch.refl _ _).drewN _⟩
    | cons x rs =>
      have hb := hp.byte
      have hq1 := hp.lt
      have hx : x ≠ y := fun e => by subst e; simp [Lib.hasPrefix] at hno
      have hne : ((x.toNat : Int) != (y.toNat : Int)) = true := by
        simp only [bne_iff_ne, ne_eq]
        intro e2
        exact hx (by rw [← UInt8.toNat_inj]; omega)
      have hpl : ((p : Int) == (t.length : Int)) = false := by rw [beq_eq_false_iff_ne]; omega
      clear hx hp hno
      go_enter Tryd.func50, Tryd.ntmps50
      go_wp2
      go_quiet (fail)
      go_wp2
      go_ret
      exact ⟨rfl, H.out, (Ch.refl _ _).drewN _⟩
  · have g : (c != 0) = true := by simpa using hc
    clear hp hc hno
    go_enter Tryd.func50, Tryd.ntmps50
    go_wp2
    go_quiet (fail)
    go_wp2
    go_ret
    exact ⟨rfl, H.out, (Ch.refl _ _).drewN _⟩
theorem pre_one {bs : B} {y : UInt8} (h : Lib.hasPrefix bs [y] = true) : bs = y :: bs.tail := by
  cases bs with
  | nil => simp [Lib.hasPrefix] at h
  | cons x rs =>
    have : y = x := by simpa [Lib.hasPrefix] using h
    rw [this]; rfl
/-- one byte; with a code nothing is read -/
theorem skip_any (R : Nat) (t bs : B) (p : Nat) (c : Int) (y : UInt8) (r : Bool) (W : World) (h : Hd W R (rsO t p c)) (hp : At t p bs) (hl : t.length ≤ 65536) (hr : (c == 0 && Lib.hasPrefix bs [y]) = r) :
    Calls Tryd.prog 50 #[ptr R, .int .u8 y.toNat] W fun e w' => e = .returned (.bool r) ∧ ∃ p', Hd w' R (rsO t p' c) ∧ At t p' (if r then bs.tail else bs) ∧ Ch (· = R) W w' := by
  cases r with
  | false => exact (skip_no R t bs p c y W h hp hl hr).mono fun e w' ⟨a, b, d⟩ => ⟨a, p, b, hp, d⟩
  | true =>
    simp only [Bool.and_eq_true, beq_iff_eq] at hr
    obtain ⟨rfl, h2⟩ := hr
    have hp2 : At t p (y :: bs.tail) := pre_one h2 ▸ hp
    exact (skip_yes R t bs.tail p y W h hp2 hl).mono fun e w' ⟨a, b, d⟩ => ⟨a, p + 1, b, hp2.next, d⟩
set_option maxRecDepth 100000 in
set_option maxHeartbeats 4000000 in
theorem word_yes (R : Nat) (t bs q : B) (p : Nat) (W : World) (h : Hd W R (rsO t p 0)) (hp : At t p bs) (hl : t.length ≤ 65536) (hq : q.length ≤ 65536) (hr : Lib.hasPrefix bs q = true) :
    Calls Tryd.prog 31 #[ptr R, .string ⟨q.toArray⟩] W fun e w' => e = .returned (.tuple #[]) ∧ Hd w' R (rsO t (p + q.length) 0) ∧ At t (p + q.length) (bs.drop q.length) ∧ Ch (· = R) W w' := by
  obtain ⟨c0, c1, c2, cf⟩ := h.three
  have H := Lib.hid h
  have hlt := h.lt
  have hle := hp.le
  have hlen := hp.len
  have hpre : q.length ≤ bs.length := List.IsPrefix.length_le (List.isPrefixOf_iff_prefix.1 hr)
  have hex : (⟨t.toArray⟩ : ByteArray).extract p (p + q.length) = ⟨q.toArray⟩ := by
    apply ByteArray.ext
    have e : (t.drop p).take q.length = q := by rw [hp.eq]; exact (List.prefix_iff_eq_take.1 (List.isPrefixOf_iff_prefix.1 hr)).symm
    simp only [ByteArray.data_extract]
    apply Array.ext'
    simp [List.extract, e]
  have HA := Lib.hid (hp.skip q.length hpre)
  have g : decide ((t.length : Int) < (p : Int) + (q.length : Int)) = false := by simp; omega
  clear h hp hr
  go_enter Tryd.func31, Tryd.ntmps31
  go_wp2
  go_quiet (fail)
  go_wp2
  go_end0
  exact ⟨rfl, H.out.set 1 _, HA.out, ((Ch.refl _ _).drewN _).set rfl⟩
end Go.Proofs.YtjakkmjipglkiaaDoor.Rd
