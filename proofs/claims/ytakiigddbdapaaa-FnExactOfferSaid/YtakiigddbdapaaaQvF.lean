
/-
  Expire: as plain functions; the program's.
-/
import Derived.Test.YtakiigddbdapaaaQvC
namespace Go.Proofs.Ytakiigddbdapaaa.Qu
open Go.RowKit
open Go.Proofs.Ytakiigddbdapaaa.Tx
def exP (now age : Int) (r : Rep) : Bool := decide (age < now - r.born)
def exN (q : Q) (now age : Int) : Nat := (q.items.takeWhile (exP now age)).length
def exG (now age : Int) : Prop := (0 ≤ now ∧ now ≤ 1000000) ∧ (1 ≤ age ∧ age ≤ 100)
instance (now age : Int) : Decidable (exG now age) := by unfold exG; infer_instance
def exC (q : Q) (now age : Int) : Int := if quB q then (if exG now age then 0 else 4) else 1
def exR (q : Q) (now age : Int) : Q := if exC q now age = 0 then ⟨q.items.drop (exN q now age), q.recent⟩ else ⟨[], []⟩
def exD (q : Q) (now age : Int) : List Int := if exC q now age = 0 then idsOf (q.items.take (exN q now age)) else []
theorem newE_no {W w' : World} {q : Q} {now age : Int} {dv : Value} {C : Int} (h : exC q now age = C) (hC : C ≠ 0) (hd : OI w' W.heap.size dv []) (hb : Below W.heap.size W w') : NewS W (exR q now age) (exD q now age) (exC q now age) (.returned (.tuple #[qV (.slice none 0 0) (.slice none 0 0), dv, .int .i64 C])) w' := by
  unfold exR exD
  rw [if_neg (by rw [h]; exact hC), if_neg (by rw [h]; exact hC), h]
  exact ⟨_, _, _, rfl, O4.nil _ _, O1.nil _ _, hd, hb⟩
theorem newE_1 {W w' : World} {q : Q} {now age : Int} {dv : Value} (h : quB q = false) (hd : OI w' W.heap.size dv []) (hb : Below W.heap.size W w') : NewS W (exR q now age) (exD q now age) (exC q now age) (.returned (.tuple #[qV (.slice none 0 0) (.slice none 0 0), dv, .int .i64 1])) w' :=
  newE_no (by unfold exC; rw [h]; rfl) (by decide) hd hb
theorem newE_4 {W w' : World} {q : Q} {now age : Int} {dv : Value} (h : quB q = true) (h2 : ¬ exG now age) (hd : OI w' W.heap.size dv []) (hb : Below W.heap.size W w') : NewS W (exR q now age) (exD q now age) (exC q now age) (.returned (.tuple #[qV (.slice none 0 0) (.slice none 0 0), dv, .int .i64 4])) w' :=
  newE_no (by unfold exC; rw [h, if_pos rfl, if_neg h2]) (by decide) hd hb
theorem newE_0 {W w' : World} {q : Q} {now age : Int} {iv rv dv : Value} {k : Nat} (h : quB q = true) (h2 : exG now age) (hk : exN q now age = k) (h4 : O4 w' W.heap.size iv (q.items.drop k)) (h1 : O1 w' W.heap.size rv q.recent) (hd : OI w' W.heap.size dv (idsOf (q.items.take k))) (hb : Below W.heap.size W w') : NewS W (exR q now age) (exD q now age) (exC q now age) (.returned (.tuple #[qV iv rv, dv, .int .i64 0])) w' := by
  have hC : exC q now age = 0 := by unfold exC; rw [h, if_pos rfl, if_pos h2]
  unfold exR exD
  rw [if_pos hC, if_pos hC, hC, hk]
  exact ⟨_, _, _, rfl, h4, h1, hd, hb⟩
/-- k reports are old, and the next one is not, or there is none -/
theorem exN_at {q : Q} {now age : Int} {k : Nat} (hk : k ≤ q.items.length) (h : ∀ i, i < k → exP now age (q.items.getD i default) = true) (h2 : k < q.items.length → exP now age (q.items.getD k default) = false) : exN q now age = k := by
  unfold exN
  generalize q.items = xs at *
  induction xs generalizing k with
  | nil => simp at hk; simp [hk]
  | cons x xs ih =>
    cases k with
    | zero =>
      have := h2 (by simp)
      simp only [List.getD_cons_zero] at this
      simp [this]
    | succ k =>
      have h0 := h 0 (by omega)
      simp only [List.getD_cons_zero] at h0
      rw [List.takeWhile_cons, h0]
      simp only [if_true, List.length_cons]
      rw [ih (k := k) (by simpa using hk) (fun i hi => by have := h (i + 1) (by omega); simpa using this) (fun hi => by have := h2 (by simpa using hi); simpa using this)]
theorem itB_born : ∀ (xs pre : List Rep), itB pre xs = true → ∀ i, i < xs.length → 0 ≤ (xs.getD i default).born ∧ (xs.getD i default).born ≤ 1000000 := by
  intro xs pre h i hi
  have := itB_mem xs pre h i hi
  unfold repB at this
  simp only [Bool.and_eq_true, decide_eq_true_eq] at this
  exact this.2.1
theorem quB_born {q : Q} (h : quB q = true) : ∀ i, i < q.items.length → 0 ≤ (q.items.getD i default).born ∧ (q.items.getD i default).born ≤ 1000000 := by
  unfold quB at h
  simp only [Bool.and_eq_true, decide_eq_true_eq] at h
  exact itB_born _ _ h.2.2.1
end Go.Proofs.Ytakiigddbdapaaa.Qu
