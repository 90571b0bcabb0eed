
/-
  The text of a JSON value, plainly. No program is named here.
-/
import Derived.Test.YtniflfgnelfpbaaDoorJsPlain
import Derived.Test.YtniflfgnelfpbaaDoorQuotePlain
import Derived.Lib.ItoaNum
namespace Go.Proofs.YtniflfgnelfpbaaDoor.Js
open Go.Proofs.YtniflfgnelfpbaaDoor.Bl (quoteL quoteTo quote_le)
mutual
def textJ : J → List UInt8
  | .mk k n t ns xs =>
    if k = 1 then [110, 117, 108, 108]
    else if k = 2 then (if n = 1 then [116, 114, 117, 101] else [102, 97, 108, 115, 101])
    else if k = 3 then Lib.itoa n
    else if k = 4 then quoteL t
    else if k = 5 then 91 :: (textL false true ns xs ++ [93])
    else 123 :: (textL true true ns xs ++ [125])
/-- the items, each with its name; a comma ahead of each but the first -/
def textL (obj : Bool) : Bool → List (List UInt8) → List J → List UInt8
  | _, _, [] => []
  | first, ns, x :: xs => (if first then [] else [44]) ++ ((if obj then quoteL (ns.headD []) ++ [58] else []) ++ textJ x) ++ textL obj false ns.tail xs
end
/-- from the k-th item on -/
def restL (obj : Bool) (ns : List (List UInt8)) (xs : List J) (k : Nat) : List UInt8 := textL obj (k == 0) (ns.drop k) (xs.drop k)
def commaL (k : Nat) : List UInt8 := if k = 0 then [] else [44]
def nameL (obj : Bool) (t : List UInt8) : List UInt8 := if obj then quoteL t ++ [58] else []
theorem restL_zero (obj : Bool) (ns : List (List UInt8)) (xs : List J) : restL obj ns xs 0 = textL obj true ns xs := by simp [restL]
theorem restL_end (obj : Bool) (ns : List (List UInt8)) (xs : List J) : restL obj ns xs xs.length = [] := by simp [restL, textL]
theorem restL_step (obj : Bool) (ns : List (List UInt8)) (xs : List J) (k : Nat) (h : k < xs.length) : restL obj ns xs k = commaL k ++ (nameL obj (ns.getD k []) ++ textJ (xs.getD k default)) ++ restL obj ns xs (k + 1) := by
  have e : (ns.drop k).headD [] = ns.getD k [] := by
    rw [List.headD_eq_head?_getD, List.head?_drop]; simp [List.getD]
  unfold restL
  rw [List.drop_eq_getElem_cons h]
  simp only [textL, e, List.tail_drop]
  have e1 : (k + 1 == 0) = false := by simp
  rw [e1]
  congr 1
  congr 1
  · unfold commaL
    by_cases h0 : k = 0
    · simp [h0]
    · simp [h0]
  · unfold nameL
    simp [h]
/-- with the commas read off the place -/
theorem text5 (n : Int) (t : List UInt8) (ns : List (List UInt8)) (xs : List J) : textJ (.mk 5 n t ns xs) = 91 :: (restL false ns xs 0 ++ [93]) := by
  rw [restL_zero]; simp [textJ]
theorem text6 (n : Int) (t : List UInt8) (ns : List (List UInt8)) (xs : List J) : textJ (.mk 6 n t ns xs) = 123 :: (restL true ns xs 0 ++ [125]) := by
  rw [restL_zero]; simp [textJ]
theorem dec_le : ∀ (k n : Nat), n < 10 ^ (k + 1) → (Lib.decDigits n).length ≤ k + 1
  | 0, n, h => by
    rw [Lib.decDigits, dif_pos (by simpa using h)]; simp
  | k + 1, n, h => by
    by_cases h10 : n < 10
    · rw [Lib.decDigits, dif_pos h10]; simp
    · rw [Lib.decDigits, dif_neg h10]
      have := dec_le k (n / 10) (by rw [Nat.pow_succ] at h; omega)
      simp; omega
theorem intL_le (n : Int) (h1 : -999999999 ≤ n) (h2 : n ≤ 999999999) : (Lib.itoa n).length ≤ 10 := by
  have := dec_le 8 n.natAbs (by omega)
  have e := dec_le 8 n.toNat (by omega)
  unfold Lib.itoa
  split <;> simp <;> omega
theorem quoteL_le (l : List UInt8) : (quoteL l).length ≤ 6 * l.length + 2 := by
  have := quote_le l
  simp [quoteL]; omega
theorem namesB_le : ∀ (ns old : List (List UInt8)), namesB old ns = true → ∀ t ∈ ns, t.length ≤ 120
  | [], _, _, _, h => by cases h
  | u :: us, old, hb, t, h => by
    simp only [namesB, Bool.and_eq_true, decide_eq_true_eq] at hb
    rcases List.mem_cons.1 h with rfl | h
    · exact hb.1.1
    · exact namesB_le us _ hb.2 t h
theorem okL_mem : ∀ (xs : List J) (d : Nat), okL xs d = true → ∀ x ∈ xs, okJ x d = true
  | [], _, _, _, h => by cases h
  | y :: ys, d, hb, x, h => by
    simp only [okL, Bool.and_eq_true] at hb
    rcases List.mem_cons.1 h with rfl | h
    · exact hb.1
    · exact okL_mem ys d hb.2 x h
/-- what a valid value is, kind by kind -/
theorem ok_kinds {k n : Int} {t : List UInt8} {ns : List (List UInt8)} {xs : List J} {d : Nat} (h : okJ (.mk k n t ns xs) d = true) :
    (k = 1) ∨ (k = 2 ∧ 0 ≤ n ∧ n ≤ 1) ∨ (k = 3 ∧ -999999999 ≤ n ∧ n ≤ 999999999) ∨ (k = 4 ∧ t.length ≤ 120) ∨ (k = 5 ∧ xs.length ≤ 12 ∧ okL xs (d - 1) = true) ∨
      (k = 6 ∧ xs.length ≤ 12 ∧ ns.length = xs.length ∧ namesB [] ns = true ∧ okL xs (d - 1) = true) := by
  unfold okJ at h
  by_cases h1 : k = 1
  · exact .inl h1
  by_cases h2 : k = 2
  · subst h2; simp at h; exact .inr (.inl ⟨rfl, h.1.1.1⟩)
  by_cases h3 : k = 3
  · subst h3; simp at h; exact .inr (.inr (.inl ⟨rfl, h.1.1.1⟩))
  by_cases h4 : k = 4
  · subst h4; simp at h; exact .inr (.inr (.inr (.inl ⟨rfl, h.1.1.2⟩)))
  by_cases h5 : k = 5
  · subst h5; simp at h; exact .inr (.inr (.inr (.inr (.inl ⟨rfl, h.1.1.2, h.2⟩))))
  by_cases h6 : k = 6
  · subst h6; simp at h; exact .inr (.inr (.inr (.inr (.inr ⟨rfl, h.1.1.1.2, h.1.1.2, h.1.2, h.2⟩))))
  · simp [h1, h2, h3, h4, h5, h6] at h
/-- how long the text of a list or an object is, whose values have short texts -/
theorem textL_le (obj : Bool) (m : Nat) : ∀ (xs : List J) (b : Bool) (ns : List (List UInt8)), (∀ x ∈ xs, (textJ x).length ≤ m) → (∀ t ∈ ns, t.length ≤ 120) → (textL obj b ns xs).length ≤ xs.length * (m + 724)
  | [], _, _, _, _ => by simp [textL]
  | x :: xs, b, ns, hx, hn => by
    have h1 := hx x (by simp)
    have h2 := textL_le obj m xs false ns.tail (fun y hy => hx y (by simp [hy])) (fun t ht => hn t (List.mem_of_mem_tail ht))
    have h3 : (if b then [] else [44] : List UInt8).length ≤ 1 := by split <;> simp
    have h4 : (if obj then quoteL (ns.headD []) ++ [58] else []).length ≤ 723 := by
      split
      · have h5 := quoteL_le (ns.headD [])
        have h6 : (ns.headD []).length ≤ 120 := by
          cases ns with
          | nil => simp
          | cons t ts => exact hn t (by simp)
        simp only [List.length_append, List.length_cons, List.length_nil]; omega
      · simp
    simp only [textL, List.length_append, List.length_cons, Nat.succ_mul]
    omega
/-- how long the text of a valid value is, d levels deep -/
def longest : Nat → Nat
  | 0 => 800
  | d + 1 => 12 * (longest d + 724) + 2
theorem longest_ge : ∀ d, 800 ≤ longest d
  | 0 => Nat.le_refl _
  | d + 1 => by have := longest_ge d; simp only [longest]; omega
theorem longest_mono (d : Nat) : longest d ≤ longest (d + 1) := by simp only [longest]; omega
theorem textJ_le (j : J) : ∀ d, okJ j d = true → (textJ j).length ≤ longest d := by
  induction j using J.ind with
  | h k n t ns xs ih =>
    intro d h
    have hg := longest_ge d
    have deep : ∀ ns' : List (List UInt8), (∀ t ∈ ns', t.length ≤ 120) → 2 ≤ d → xs.length ≤ 12 → okL xs (d - 1) = true → ∀ obj, (textL obj true ns' xs).length + 2 ≤ longest d := fun ns' hns hd hx hok obj => by
      have h1 := textL_le obj (longest (d - 1)) xs true ns' (fun x hx => ih x hx _ (okL_mem xs _ hok x hx)) hns
      have h2 : xs.length * (longest (d - 1) + 724) ≤ 12 * (longest (d - 1) + 724) := Nat.mul_le_mul_right _ hx
      have h3 : longest d = 12 * (longest (d - 1) + 724) + 2 := by
        obtain ⟨e, rfl⟩ : ∃ e, d = e + 1 := ⟨d - 1, by omega⟩
        rfl
      omega
    rcases ok_kinds h with rfl | ⟨rfl, _, _⟩ | ⟨rfl, h1, h2⟩ | ⟨rfl, h1⟩ | ⟨rfl, h1, h2⟩ | ⟨rfl, h1, h2, h3, h4⟩
    · simp [textJ]; omega
    · simp [textJ]; split <;> simp <;> omega
    · have := intL_le n h1 h2
      simp [textJ]; omega
    · have := quoteL_le t
      simp [textJ]; omega
    · have hd : 2 ≤ d := by unfold okJ at h; simp at h; omega
      have e : ns = [] := by unfold okJ at h; simp at h; exact h.1.2
      subst e
      have := deep [] (by simp) hd h1 h2 false
      simp [textJ]; omega
    · have hd : 2 ≤ d := by unfold okJ at h; simp at h; omega
      have := deep ns (namesB_le ns [] h3) hd h1 h4 true
      simp [textJ]; omega
theorem longest_le (d : Nat) (h : d ≤ 5) : longest d ≤ 395642090 := by
  have h5 : longest 5 ≤ 395642090 := by decide
  have : ∀ k, longest (5 - k) ≤ longest 5 := fun k => by
    induction k with
    | zero => exact Nat.le_refl _
    | succ k ih =>
      by_cases hk : k < 5
      · have := longest_mono (5 - (k + 1))
        rw [show 5 - (k + 1) + 1 = 5 - k by omega] at this
        omega
      · rw [show 5 - (k + 1) = 5 - k by omega]; exact ih
  have := this (5 - d)
  rw [show 5 - (5 - d) = d by omega] at this
  omega
end Go.Proofs.YtniflfgnelfpbaaDoor.Js
