
/-
  The walks of the program's functions of chapter 2 that look at a whole URL: the host, the port, the fields.
-/
import Derived.Test.YtniflfgnelfpbaaDoorUrlImplA
import Derived.Deep.QuietTactic
import Derived.BigQuiet
import Derived.Lib.AppendIntMem
namespace Go.Proofs.YtniflfgnelfpbaaDoor.Ul
open Go.RowKit
theorem bcellI {W w1 : World} (hb : Below W.heap.size W w1) : (∀ b o, b < W.heap.size → w1.cell? ⟨b, o, none⟩ = W.cell? ⟨b, o, none⟩) :=
  fun b o h => hb.cell (p := ⟨b, o, none⟩) h
theorem belI_alloc {w Y : World} {o : Obj} (h : Below w.heap.size w Y) : Below w.heap.size w (Y.alloc o) := h.alloc h.size o
theorem belI_step {w W w1 : World} (h : Below w.heap.size w W) (hb : Below W.heap.size W w1) : Below w.heap.size w w1 := h.trans (hb.mono h.size)
theorem belI_drewN {B : Nat} {a w : World} (h : Below B a w) (n : Nat) : Below B a (w.drewN n) := ⟨h.os, h.tape, h.output, h.size, h.block⟩
theorem quietI {P : Program} {f : FuncId} {args : Array Value} {w : World} {n : Nat} {v : Value}
    (h : Calls P f args (w.drewN n) fun e w' => e = .returned v ∧ w.drewN n = w') : Calls P f args (w.drewN n) fun e w'' => e = .returned v ∧ ∃ m, w'' = w.drewN m :=
  h.mono fun _ _ ⟨he, hm⟩ => ⟨he, n, hm.symm⟩
theorem hostOK_any (l : List UInt8) (w : World) (hl : l.length ≤ 9223372036854775807) : Calls Tryd.prog 123 #[.string ⟨l.toArray⟩] w fun e w' => e = .returned (.bool (hostB l)) ∧ Below w.heap.size w w' := by
  go_enter Tryd.func123, Tryd.ntmps123
  go_wp2
  go_loopw [3, 9] (fun la _ wr => ∃ (k : Nat) (b : Bool), k ≤ l.length ∧ la = .bool b ∧ wr = w.iter ⟨l.toArray⟩ k ∧ hostLeft l k b = true) (fun _ _ wr => l.length - wr.iterPos w.heap.size)
  case atStart => exact ⟨0, true, by omega, rfl, rfl, host_zero l⟩
  case round =>
    obtain ⟨k, b, hk, rfl, rfl, ht⟩ := hrel
    by_cases hlt : k < l.length
    · obtain ⟨x, hx, _⟩ := byte_at l k hlt
      have NO := Lib.hid (host_no l k b x hlt hx ht)
      by_cases ha : x.toNat < 128
      · have hnx := next_low Tryd.prog w l k x hlt hx ha
        by_cases hlow : 97 ≤ x.toNat ∧ x.toNat ≤ 122
        · have F := Lib.hid (host_plain l k b x hlt hx ht (by simp [plainB, lowB, hlow]))
          have n1 : ((x.toNat : Int) == 45) = false := by simp; omega
          have n2 : ((x.toNat : Int) == 46) = false := by simp; omega
          clear ht hx NO
          go_wp2_with (go_at_call 102; refine (isLower_yes _ _ (by omega)).mono ?_; rintro e w' ⟨rfl, rfl⟩)
          go_roundw
          case rel => exact ⟨k + 1, false, by omega, rfl, rfl, F.out⟩
          case measure => simp; omega
        by_cases hdig : 48 ≤ x.toNat ∧ x.toNat ≤ 57
        · have F := Lib.hid (host_plain l k b x hlt hx ht (by simp [plainB, digB, hdig]))
          have n1 : ((x.toNat : Int) == 45) = false := by simp; omega
          have n2 : ((x.toNat : Int) == 46) = false := by simp; omega
          clear ht hx NO
          go_wp2_with (first | (go_at_call 102; refine (isLower_no _ _ (by omega)).mono ?_; rintro e w' ⟨rfl, rfl⟩) | (go_at_call 122; refine (isDigit_yes _ _ (by omega)).mono ?_; rintro e w' ⟨rfl, rfl⟩))
          go_roundw
          case rel => exact ⟨k + 1, false, by omega, rfl, rfl, F.out⟩
          case measure => simp; omega
        have hp : plainB x = false := by simp [plainB, lowB, digB]; omega
        by_cases hsg : x = 45 ∨ x = 46
        · cases b
          · have F := Lib.hid (host_joint l k x hlt hx ht hp (by rcases hsg with rfl | rfl <;> rfl))
            clear ht hx NO hp
            rcases hsg with rfl | rfl
            all_goals
              go_wp2_with fail
              go_roundw
              case rel => exact ⟨k + 1, true, by omega, rfl, rfl, F.out⟩
              case measure => simp; omega
          · have F := Lib.hid (NO.out hp (.inr rfl))
            clear ht hx NO hp
            rcases hsg with rfl | rfl
            all_goals
              go_wp2_with fail
              go_ret
              exact ⟨ret_bool F.out.symm, below_iter _ _ _⟩
        have m1 : ¬ x.toNat = 45 := fun e => hsg (.inl (UInt8.toNat_inj.1 e))
        have m2 : ¬ x.toNat = 46 := fun e => hsg (.inr (UInt8.toNat_inj.1 e))
        have F := Lib.hid (NO.out hp (.inl (by simp [jointB]; omega)))
        have n1 : ((x.toNat : Int) == 45) = false := by simp; omega
        have n2 : ((x.toNat : Int) == 46) = false := by simp; omega
        clear NO hsg ht hx hp
        go_wp2_with (first | (go_at_call 102; refine (isLower_no _ _ (by omega)).mono ?_; rintro e w' ⟨rfl, rfl⟩) | (go_at_call 122; refine (isDigit_no _ _ (by omega)).mono ?_; rintro e w' ⟨rfl, rfl⟩))
        all_goals (go_ret; exact ⟨ret_bool F.out.symm, below_iter _ _ _⟩)
      · obtain ⟨c, n, hc, hnx⟩ := next_high Tryd.prog w l k x hlt hx ha
        have F := Lib.hid (NO.out (by simp [plainB, lowB, digB]; omega) (.inl (by simp [jointB]; omega)))
        have n1 : ((c : Int) == 45) = false := by simp; omega
        have n2 : ((c : Int) == 46) = false := by simp; omega
        clear NO ht hx
        go_wp2_with (first | (go_at_call 102; refine (isLower_no _ _ (by omega)).mono ?_; rintro e w' ⟨rfl, rfl⟩) | (go_at_call 122; refine (isDigit_no _ _ (by omega)).mono ?_; rintro e w' ⟨rfl, rfl⟩))
        all_goals (go_ret; exact ⟨ret_bool F.out.symm, below_iter _ _ _⟩)
    · obtain rfl : k = l.length := by omega
      have F := Lib.hid (host_end l b ht)
      have hnx := next_end Tryd.prog w l
      clear ht
      go_wp2
      go_ret
      exact ⟨ret_bool F.out.symm, below_iter _ _ _⟩
def portB (s : List UInt8) (p : Int) : Bool := decide (0 ≤ p ∧ p ≤ 65535) && !(p == dport s)
theorem portOK_any (s us h pa q f : List UInt8) (p : Int) (hq hf : Bool) (w : World) :
    Calls Tryd.prog 124 #[.agg #[.string ⟨s.toArray⟩, .string ⟨us.toArray⟩, .string ⟨h.toArray⟩, .int .i64 p, .string ⟨pa.toArray⟩, .string ⟨q.toArray⟩, .string ⟨f.toArray⟩, .bool hq, .bool hf]] w fun e w' => e = .returned (.bool (portB s p)) ∧ Below w.heap.size w w' := by
  by_cases h1 : p < 0
  · have F : portB s p = false := by simp [portB]; omega
    have F := Lib.hid F
    have d1 : decide ((0 : Int) ≤ p) = false := by simp; omega
    go_enter Tryd.func124, Tryd.ntmps124
    go_wp2_with fail
    go_quiet (fail)
    go_wp2
    go_ret
    exact ⟨ret_bool (by rw [F.out]), belI_drewN (by repeat (first | exact Below.refl _ _ | refine belI_alloc ?_ | refine Below.drew ?_ | refine belI_step ?_ (by assumption))) _⟩
  have d1 : decide ((0 : Int) ≤ p) = true := by simp; omega
  by_cases h2 : 65535 < p
  · have F : portB s p = false := by simp [portB]; omega
    have F := Lib.hid F
    have d2 : decide (p ≤ 65535) = false := by simp; omega
    go_enter Tryd.func124, Tryd.ntmps124
    go_wp2_with fail
    go_quiet (fail)
    go_wp2
    go_ret
    exact ⟨ret_bool (by rw [F.out]), belI_drewN (by repeat (first | exact Below.refl _ _ | refine belI_alloc ?_ | refine Below.drew ?_ | refine belI_step ?_ (by assumption))) _⟩
  have d2 : decide (p ≤ 65535) = true := by simp; omega
  have F : portB s p = !(p == dport s) := by
    have : decide (0 ≤ p ∧ p ≤ 65535) = true := by simp; omega
    simp [portB, this]
  have F := Lib.hid F
  go_enter Tryd.func124, Tryd.ntmps124
  go_wp2_with fail
  go_quiet ((go_at_call 121; exact quietI (dport_any _ _)))
  go_wp2
  go_ret
  exact ⟨ret_bool (by rw [F.out]; rfl), belI_drewN (by repeat (first | exact Below.refl _ _ | refine belI_alloc ?_ | refine Below.drew ?_ | refine belI_step ?_ (by assumption))) _⟩
def webB2 (s us h pa q f : List UInt8) (p : Int) (hq hf : Bool) : Bool :=
  onlyB us [47, 63, 35, 64] && hostB h && portB s p && Lib.hasPrefix pa [47] && onlyB pa [63, 35] && onlyB q [35] && (hq || q == []) && onlyB f [] && (hf || f == [])
theorem webB2_eq (s us h pa q f : List UInt8) (p : Int) (hq hf : Bool) : webB2 s us h pa q f p hq hf = (onlyB us [47, 63, 35, 64] && hostB h && portB s p && Lib.hasPrefix pa [47] && onlyB pa [63, 35] && onlyB q [35] && (hq || q == []) && onlyB f [] && (hf || f == [])) := rfl
set_option maxRecDepth 100000 in
set_option maxHeartbeats 1000000 in
theorem webOK_any (s us h pa q f : List UInt8) (p : Int) (hq hf : Bool) (w : World) (hl : s.length + us.length + h.length + pa.length + q.length + f.length ≤ 4611686018427387904) :
    Calls Tryd.prog 108 #[.agg #[.string ⟨s.toArray⟩, .string ⟨us.toArray⟩, .string ⟨h.toArray⟩, .int .i64 p, .string ⟨pa.toArray⟩, .string ⟨q.toArray⟩, .string ⟨f.toArray⟩, .bool hq, .bool hf]] w fun e w' => e = .returned (.bool (webB2 s us h pa q f p hq hf)) ∧ Below w.heap.size w w' := by
  have W20 := webB2_eq s us h pa q f p hq hf
  generalize webB2 s us h pa q f p hq hf = wv at *
  have W2 := Lib.hid W20
  clear W20
  go_enter Tryd.func108, Tryd.ntmps108
  go_wp2_with (first
    | (go_at_call 109; refine (partOK_any _ _ _ (by first | omega | simp)).mono ?_; rintro e w1 ⟨rfl, hb⟩; have hc := bcellI hb; have hz : w.heap.size < w1.heap.size := (by have := hb.size; (try simp at this); omega))
    | (go_at_call 123; refine (hostOK_any _ _ (by omega)).mono ?_; rintro e w1 ⟨rfl, hb⟩; have hc := bcellI hb; have hz : w.heap.size < w1.heap.size := (by have := hb.size; (try simp at this); omega))
    | (go_at_call 124; refine (portOK_any _ _ _ _ _ _ _ _ _ _).mono ?_; rintro e w1 ⟨rfl, hb⟩; have hc := bcellI hb; have hz : w.heap.size < w1.heap.size := (by have := hb.size; (try simp at this); omega))
    | (go_at_call 125; refine (Tryd.strings_HasPrefix _ _ _).mono ?_; rintro e w' ⟨rfl, rfl⟩))
  all_goals
    go_ret
    refine ⟨ret_bool ?_, (by repeat (first | exact Below.refl _ _ | refine belI_alloc ?_ | refine Below.drew ?_ | refine belI_step ?_ (by assumption)))⟩
    rw [W2.out]
    first | (simp [*]; done) | (simp_all; done)
end Go.Proofs.YtniflfgnelfpbaaDoor.Ul
