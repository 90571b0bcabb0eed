
/-
  Plain facts on bytes, for the law on NameOK: which bytes begin a name, which go on. No program is named here.
-/
import Derived.Below
namespace Go.Proofs.YtniflfgnelfpbaaDoor.Nm
def letB (c : Int) : Bool := decide ((97 ≤ c ∧ c ≤ 122) ∨ (65 ≤ c ∧ c ≤ 90) ∨ c = 95)
def digB (c : Int) : Bool := decide (48 ≤ c ∧ c ≤ 57)
def lowB (c : Int) : Bool := decide (97 ≤ c ∧ c ≤ 122)
/-- Whether the byte at place i may stand there. -/
def goodB (i : Nat) (c : UInt8) : Bool := letB (c.toNat : Int) || (decide (0 < i) && digB (c.toNat : Int))
def goodTo (s : ByteArray) (k : Nat) : Bool := decide (∀ i (_ : i < k) (h : i < s.size), goodB i s[i] = true)
def nameB (s : ByteArray) : Bool := decide (1 ≤ s.size) && decide (s.size ≤ 12) && goodTo s s.size
theorem good_zero (s : ByteArray) : goodTo s 0 = true := by simp [goodTo]
theorem good_succ (s : ByteArray) (k : Nat) (h : k < s.size) (hk : goodTo s k = true) (hc : goodB k s[k] = true) : goodTo s (k + 1) = true := by
  simp only [goodTo, decide_eq_true_eq] at hk ⊢
  intro i hi hs
  by_cases e : i = k
  · subst e; exact hc
  · exact hk i (by omega) hs
theorem bad_at (s : ByteArray) (k : Nat) (h : k < s.size) (hc : goodB k s[k] = false) : nameB s = false := by
  have : goodTo s s.size = false := by
    simp only [goodTo, decide_eq_false_iff_not]
    intro hh
    rw [hh k h h] at hc
    cases hc
  simp [nameB, this]
theorem name_short (s : ByteArray) (h : s.size = 0) : nameB s = false := by simp [nameB, h]
theorem name_long (s : ByteArray) (h : 12 < s.size) : nameB s = false := by
  have : ¬ s.size ≤ 12 := by omega
  simp [nameB, this]
theorem name_good (s : ByteArray) (h1 : 1 ≤ s.size) (h2 : s.size ≤ 12) (h : goodTo s s.size = true) : nameB s = true := by simp [nameB, h1, h2, h]
end Go.Proofs.YtniflfgnelfpbaaDoor.Nm
