
/-
  URLs, plainly: what each function of chapter 2 comes to, on lists of bytes. No program is named here.
-/
import Derived.Below
import Derived.Lib.Strings
namespace Go.Proofs.Ytniflfgnelfpbaa.Ul
/-! ### Bytes -/
def lowB (c : UInt8) : Bool := decide (97 ≤ c.toNat ∧ c.toNat ≤ 122)
def digB (c : UInt8) : Bool := decide (48 ≤ c.toNat ∧ c.toNat ≤ 57)
def upB (c : UInt8) : Bool := decide (65 ≤ c.toNat ∧ c.toNat ≤ 90)
def plainB (c : UInt8) : Bool := lowB c || digB c
def jointB (c : UInt8) : Bool := decide (c.toNat = 45 ∨ c.toNat = 46)
def lowC (c : UInt8) : UInt8 := if upB c then c + 32 else c
theorem drop_at (l : List UInt8) (k : Nat) (h : k < l.length) : l.drop k = l[k] :: l.drop (k + 1) := List.drop_eq_getElem_cons h
/-! ### Find -/
def findB : List UInt8 → Nat → Nat
  | [], _ => 0
  | x :: l, c => if x.toNat = c then 0 else findB l c + 1
theorem findB_le (l : List UInt8) (c : Nat) : findB l c ≤ l.length := by
  induction l with
  | nil => simp [findB]
  | cons x l ih => simp only [findB]; split <;> simp <;> omega
def findTo (l : List UInt8) (c k : Nat) : Bool := decide (findB l c = k + findB (l.drop k) c)
theorem find_zero (l : List UInt8) (c : Nat) : findTo l c 0 = true := by simp [findTo]
theorem find_hit (l : List UInt8) (c k : Nat) (x : UInt8) (h : k < l.length) (hx : l[k] = x) (ht : findTo l c k = true) (hc : x.toNat = c) : findB l c = k := by
  simp only [findTo, decide_eq_true_eq] at ht
  rw [ht, drop_at l k h, hx]
  simp [findB, hc]
theorem find_miss (l : List UInt8) (c k : Nat) (x : UInt8) (h : k < l.length) (hx : l[k] = x) (ht : findTo l c k = true) (hc : x.toNat ≠ c) : findTo l c (k + 1) = true := by
  simp only [findTo, decide_eq_true_eq] at ht ⊢
  rw [ht, drop_at l k h, hx]
  simp [findB, hc]; omega
theorem find_end (l : List UInt8) (c : Nat) (ht : findTo l c l.length = true) : findB l c = l.length := by
  simp only [findTo, decide_eq_true_eq] at ht
  rw [ht]; simp [findB]
def hasB (l : List UInt8) (c : Nat) : Bool := decide (findB l c < l.length)
/-! ### Only -/
def onlyC (x : UInt8) (wo : List UInt8) : Bool := decide (33 ≤ x.toNat) && decide (x.toNat ≤ 126) && !hasB wo x.toNat
def onlyB (l : List UInt8) (wo : List UInt8) : Bool := l.all fun x => onlyC x wo
/-! ### A scan that is carried from place to place: 'what is left decides' -/
def leftIs (f : List UInt8 → Bool) (l : List UInt8) (k : Nat) : Bool := decide (f (l.drop k) = f l)
theorem left_zero (f : List UInt8 → Bool) (l : List UInt8) : leftIs f l 0 = true := by simp [leftIs]
theorem only_no (l wo : List UInt8) (k : Nat) (x : UInt8) (h : k < l.length) (hx : l[k] = x) (ht : leftIs (onlyB · wo) l k = true) (hc : onlyC x wo = false) : onlyB l wo = false := by
  simp only [leftIs, decide_eq_true_eq] at ht
  rw [← ht, drop_at l k h, hx]
  simp [onlyB, hc]
theorem only_yes (l wo : List UInt8) (k : Nat) (x : UInt8) (h : k < l.length) (hx : l[k] = x) (ht : leftIs (onlyB · wo) l k = true) (hc : onlyC x wo = true) : leftIs (onlyB · wo) l (k + 1) = true := by
  simp only [leftIs, decide_eq_true_eq] at ht ⊢
  rw [← ht, drop_at l k h, hx]
  simp [onlyB, hc]
theorem only_end (l wo : List UInt8) (ht : leftIs (onlyB · wo) l l.length = true) : onlyB l wo = true := by
  simp only [leftIs, decide_eq_true_eq] at ht
  rw [← ht]; simp [onlyB]
/-! ### Scheme -/
def schC (i : Nat) (x : UInt8) : Bool := lowB x || (decide (0 < i) && (digB x || decide (x.toNat = 45) || decide (x.toNat = 43) || decide (x.toNat = 46)))
def schTo : List UInt8 → Nat → Bool
  | [], _ => true
  | x :: l, i => schC i x && schTo l (i + 1)
def schemeB (l : List UInt8) : Bool := decide (1 ≤ l.length) && decide (l.length ≤ 12) && schTo l 0
def schLeft (l : List UInt8) (k : Nat) : Bool := decide (schTo (l.drop k) k = schTo l 0)
theorem sch_zero (l : List UInt8) : schLeft l 0 = true := by simp [schLeft]
theorem sch_short (l : List UInt8) (h : l.length < 1) : schemeB l = false := by
  have : ¬ 1 ≤ l.length := by omega
  simp [schemeB, this]
theorem sch_long (l : List UInt8) (h : 12 < l.length) : schemeB l = false := by
  have : ¬ l.length ≤ 12 := by omega
  simp [schemeB, this]
theorem sch_no (l : List UInt8) (k : Nat) (x : UInt8) (h : k < l.length) (hx : l[k] = x) (ht : schLeft l k = true) (hc : schC k x = false) : schemeB l = false := by
  simp only [schLeft, decide_eq_true_eq] at ht
  unfold schemeB
  rw [← ht, drop_at l k h, hx]
  simp [schTo, hc]
theorem sch_yes (l : List UInt8) (k : Nat) (x : UInt8) (h : k < l.length) (hx : l[k] = x) (ht : schLeft l k = true) (hc : schC k x = true) : schLeft l (k + 1) = true := by
  simp only [schLeft, decide_eq_true_eq] at ht ⊢
  rw [← ht, drop_at l k h, hx]
  simp [schTo, hc]
theorem sch_end (l : List UInt8) (h1 : 1 ≤ l.length) (h2 : l.length ≤ 12) (ht : schLeft l l.length = true) : schemeB l = true := by
  simp only [schLeft, decide_eq_true_eq] at ht
  unfold schemeB
  rw [← ht]; simp [schTo, h1, h2]
/-! ### Host -/
def hostTo : List UInt8 → Bool → Bool
  | [], b => !b
  | x :: l, b => if plainB x then hostTo l false else if jointB x && !b then hostTo l true else false
def hostB (l : List UInt8) : Bool := hostTo l true
def hostLeft (l : List UInt8) (k : Nat) (b : Bool) : Bool := decide (hostTo (l.drop k) b = hostB l)
theorem host_zero (l : List UInt8) : hostLeft l 0 true = true := by simp [hostLeft, hostB]
theorem host_plain (l : List UInt8) (k : Nat) (b : Bool) (x : UInt8) (h : k < l.length) (hx : l[k] = x) (ht : hostLeft l k b = true) (hc : plainB x = true) : hostLeft l (k + 1) false = true := by
  simp only [hostLeft, decide_eq_true_eq] at ht ⊢
  rw [← ht, drop_at l k h, hx]
  simp [hostTo, hc]
theorem host_joint (l : List UInt8) (k : Nat) (x : UInt8) (h : k < l.length) (hx : l[k] = x) (ht : hostLeft l k false = true) (hp : plainB x = false) (hc : jointB x = true) : hostLeft l (k + 1) true = true := by
  simp only [hostLeft, decide_eq_true_eq] at ht ⊢
  rw [← ht, drop_at l k h, hx]
  simp [hostTo, hc, hp]
theorem host_no (l : List UInt8) (k : Nat) (b : Bool) (x : UInt8) (h : k < l.length) (hx : l[k] = x) (ht : hostLeft l k b = true) (hp : plainB x = false) (hc : jointB x = false ∨ b = true) : hostB l = false := by
  simp only [hostLeft, decide_eq_true_eq] at ht
  rw [← ht, drop_at l k h, hx]
  rcases hc with hc | rfl <;> simp [hostTo, *]
theorem host_end (l : List UInt8) (b : Bool) (ht : hostLeft l l.length b = true) : hostB l = !b := by
  simp only [hostLeft, decide_eq_true_eq] at ht
  rw [← ht]; simp [hostTo]
/-! ### Web, the usual port -/
def http : List UInt8 := [104, 116, 116, 112]
def https : List UInt8 := [104, 116, 116, 112, 115]
def webB (l : List UInt8) : Bool := l == http || l == https
def usual (l : List UInt8) : Int := if l == http then 80 else 443
end Go.Proofs.Ytniflfgnelfpbaa.Ul
