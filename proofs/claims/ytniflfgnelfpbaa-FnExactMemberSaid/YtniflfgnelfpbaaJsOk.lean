
/-
  The model's l02OK at every value; its JsonOK and SameJson.
-/
import Derived.Test.YtniflfgnelfpbaaJsOkS
import Derived.Test.YtniflfgnelfpbaaJsOkB
import Derived.Test.YtniflfgnelfpbaaJsOkC
import Derived.Test.YtniflfgnelfpbaaJsOkM
namespace Go.Proofs.Ytniflfgnelfpbaa.Js
open Go.RowKit
theorem okS_go (B : Nat) (w0 : World) (j : J) : ∀ (d : Nat) (nv iv : Value), 1 ≤ d → d ≤ 5 → JIn (· < B) w0 j nv iv → ∀ (W : World), Below B w0 W → B ≤ W.heap.size →
    Calls Try.prog 21 #[jV j nv iv, .int .i64 (d : Int)] W fun e w' => e = .returned (.bool (okJ j d)) ∧ Below W.heap.size W w' := by
  induction j using J.ind with
  | h k n t ns xs ih =>
    intro d nv iv hd1 hd5 h W hb hB
    obtain ⟨hL, hN, b1, b2, b3⟩ := h.inv
    have hL' := hL
    have hN' := hN
    obtain ⟨a, cap, b, off, vn, vi, rfl, hcap, hm, _, _, _⟩ := hL'
    obtain ⟨a', cap', b', off', rfl, hcap', hm', _, _, _⟩ := hN'
    show Calls _ _ #[.agg #[.int .i64 k, .int .i64 n, .string ⟨t.toArray⟩, .slice a' ns.length cap', .slice a xs.length cap], .int .i64 (d : Int)] _ _
    have hnl : (ns.length == 0) = ns.isEmpty := by cases ns <;> rfl
    have hxl : (xs.length == 0) = xs.isEmpty := by cases xs <;> rfl
    by_cases h1 : k = 1
    · subst h1
      rw [show okJ (.mk 1 n t ns xs) d = (n == 0 && t == [] && ns.length == 0 && xs.length == 0) by simp [okJ, hnl, hxl]]
      exact okS_1 n d t a' a ns.length xs.length cap' cap W
    by_cases h2 : k = 2
    · subst h2
      rw [show okJ (.mk 2 n t ns xs) d = (decide (0 ≤ n ∧ n ≤ 1) && t == [] && ns.length == 0 && xs.length == 0) by simp [okJ, hnl, hxl]]
      exact okS_2 n d t a' a ns.length xs.length cap' cap W
    by_cases h3 : k = 3
    · subst h3
      rw [show okJ (.mk 3 n t ns xs) d = (decide (-999999999 ≤ n ∧ n ≤ 999999999) && t == [] && ns.length == 0 && xs.length == 0) by simp [okJ, hnl, hxl]]
      exact okS_3 n d t a' a ns.length xs.length cap' cap W
    by_cases h4 : k = 4
    · subst h4
      rw [show okJ (.mk 4 n t ns xs) d = (n == 0 && decide (t.length ≤ 120) && ns.length == 0 && xs.length == 0) by simp [okJ, hnl, hxl]]
      exact okS_4 n d t b3 a' a ns.length xs.length cap' cap W
    by_cases h5 : k = 5
    · subst h5
      by_cases hbad : n ≠ 0 ∨ t ≠ [] ∨ (d : Int) = 1 ∨ 12 < xs.length ∨ 0 < ns.length
      · rw [show okJ (.mk 5 n t ns xs) d = false by
          simp only [okJ]
          rcases hbad with e | e | e | e | e
          · simp [e]
          · cases t with
            | nil => exact absurd rfl e
            | cons => simp
          · obtain rfl : d = 1 := by omega
            simp
          · have : ¬ xs.length ≤ 12 := by omega
            simp [this]
          · cases ns with
            | nil => simp at e
            | cons => simp]
        exact okS_bad5 n d t a' a ns.length xs.length cap' cap W hbad
      · obtain ⟨rfl, rfl, hd, hx, rfl⟩ : n = 0 ∧ t = [] ∧ 2 ≤ d ∧ xs.length ≤ 12 ∧ ns = [] := by
          simp only [not_or, Decidable.not_not, ne_eq, Nat.not_lt, Nat.le_zero, List.length_eq_zero_iff] at hbad
          obtain ⟨e1, e2, e3, e4, e5⟩ := hbad
          exact ⟨e1, e2, by omega, e4, e5⟩
        rw [show okJ (.mk 5 0 [] [] xs) d = okL xs (d - 1) by simp [okJ, hd, hx]]
        exact okS_good5 B w0 d hd hd5 xs hx a' cap' _ hL (fun i hi nv iv h' W' hb' hB' => ih _ (by simp [hi]) (d - 1) nv iv (by omega) (by omega) h' W' hb' hB') W hb hB
    by_cases h6 : k = 6
    · subst h6
      by_cases hbad : n ≠ 0 ∨ t ≠ [] ∨ (d : Int) = 1 ∨ 12 < xs.length ∨ ns.length ≠ xs.length
      · rw [show okJ (.mk 6 n t ns xs) d = false by
          simp only [okJ]
          rcases hbad with e | e | e | e | e
          · simp [e]
          · cases t with
            | nil => exact absurd rfl e
            | cons => simp
          · obtain rfl : d = 1 := by omega
            simp
          · have : ¬ xs.length ≤ 12 := by omega
            simp [this]
          · simp [e]]
        exact okS_bad6 n d t a' a ns.length xs.length cap' cap W hbad
      · obtain ⟨rfl, rfl, hd, hx, hl⟩ : n = 0 ∧ t = [] ∧ 2 ≤ d ∧ xs.length ≤ 12 ∧ ns.length = xs.length := by
          simp only [not_or, Decidable.not_not, ne_eq, Nat.not_lt] at hbad
          obtain ⟨e1, e2, e3, e4, e5⟩ := hbad
          exact ⟨e1, e2, by omega, e4, e5⟩
        rw [show okJ (.mk 6 0 [] ns xs) d = (namesB [] ns && okL xs (d - 1)) by simp [okJ, hd, hx, hl]]
        exact okS_good6 B w0 d hd hd5 xs hx ns _ _ hL hN hl (fun i hi nv iv h' W' hb' hB' => ih _ (by simp [hi]) (d - 1) nv iv (by omega) (by omega) h' W' hb' hB') W hb hB
    · rw [show okJ (.mk k n t ns xs) d = false by simp [okJ, h1, h2, h3, h4, h5, h6]]
      exact okS_none k n d (by omega) t a' a ns.length xs.length cap' cap W
theorem okS_at (j : J) (nv iv : Value) (W : World) (B : Nat) (w0 : World) (h : JIn (· < B) w0 j nv iv) (hb : Below B w0 W) (hB : B ≤ W.heap.size) :
    Calls Try.prog 21 #[jV j nv iv, .int .i64 5] W fun e w' => e = .returned (.bool (okJ j 5)) ∧ Below W.heap.size W w' :=
  okS_go B w0 j 5 nv iv (by omega) (by omega) h W hb hB
end Go.Proofs.Ytniflfgnelfpbaa.Js
