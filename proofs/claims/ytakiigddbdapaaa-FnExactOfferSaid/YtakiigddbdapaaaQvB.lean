
/-
  Settle, the program's and the model's.
-/
import Derived.Test.YtakiigddbdapaaaQvA
namespace Go.Proofs.Ytakiigddbdapaaa.Qu
open Go.RowKit
open Go.Proofs.Ytakiigddbdapaaa.Tx
theorem run_dropR (w : World) (a : Option Addr) (l c n : Nat) (h1 : n ≤ l) :
    (Instr.slice 32 (.slice a l c) (some (.int .i64 (n : Int))) none none).run Try.prog w = .ok (.slice (if c = n then a else a.map (fun x => x.add (n * 4))) (l - n) (c - n)) w := by
  have hn : (n : Int) ≤ (l : Int) := by omega
  simp [Instr.slice, Instr.sliceBounds, go_sem, hn]
theorem RpIn.drop {S : Nat → Prop} {w : World} {a : Option Addr} {l cap : Nat} {xs : List Rep} (h : RpIn S w (.slice a l cap) xs) (n : Nat) (hn : n ≤ xs.length) :
    RpIn S w (.slice (if cap = n then a else a.map (fun x => x.add (n * 4))) (l - n) (cap - n)) (xs.drop n) := by
  obtain ⟨a', cap', b, off, e, h1, h2, h3, h4, h5⟩ := h
  obtain ⟨rfl, rfl, rfl⟩ := by simpa using e
  have hg : ∀ i, (xs.drop n).getD i default = xs.getD (n + i) default := fun i => by simp [List.getD]
  refine ⟨_, cap - n, b, off + n * 4, by rw [List.length_drop], by rw [List.length_drop]; omega, by omega, ?_, ?_, ?_⟩
  · intro i hi; rw [List.length_drop] at hi; rw [hg i]; exact h3 _ (by omega)
  · intro hp
    rw [List.length_drop] at hp
    obtain ⟨rfl, hS⟩ := h4 (by omega)
    rw [if_neg (by omega), Option.map_some, add_at]
    exact ⟨rfl, hS⟩
  · intro i hi
    rw [List.length_drop] at hi
    rw [hg i]
    have h6 := h5 (n + i) (by omega)
    rw [show off + (n + i) * 4 = off + n * 4 + i * 4 by omega] at h6
    exact h6
theorem itB_mem : ∀ (xs pre : List Rep), itB pre xs = true → ∀ i, i < xs.length → repB (xs.getD i default) = true
  | [], _, _, i, hi => by simp at hi
  | x :: xs, pre, h, 0, _ => by simp only [itB, Bool.and_eq_true] at h; exact h.1.1
  | x :: xs, pre, h, i + 1, hi => by
    simp only [itB, Bool.and_eq_true] at h
    have := itB_mem xs _ h.2 i (by simpa using hi)
    simpa using this
theorem rcB_mem : ∀ (xs pre : List (List UInt8)), rcB pre xs = true → ∀ i, i < xs.length → bodB (xs.getD i []) = true
  | [], _, _, i, hi => by simp at hi
  | x :: xs, pre, h, 0, _ => by simp only [rcB, Bool.and_eq_true] at h; exact h.1.1
  | x :: xs, pre, h, i + 1, hi => by
    simp only [rcB, Bool.and_eq_true] at h
    have := rcB_mem xs _ h.2 i (by simpa using hi)
    simpa using this
/-- how small a valid queue is -/
structure QSm (q : Q) : Prop where
  i : q.items.length ≤ 5
  r : q.recent.length ≤ 6
  bi : ∀ i, i < q.items.length → (q.items.getD i default).body.length ≤ 1048576
  br : ∀ i, i < q.recent.length → (q.recent.getD i []).length ≤ 1048576
theorem quB_small {q : Q} (h : quB q = true) : QSm q := by
  unfold quB at h
  simp only [Bool.and_eq_true, decide_eq_true_eq] at h
  obtain ⟨h1, h2, h3, h4⟩ := h
  refine ⟨h1, h2, fun i hi => ?_, fun i hi => ?_⟩
  · have := itB_mem _ _ h3 i hi
    unfold repB at this
    simp only [Bool.and_eq_true, decide_eq_true_eq] at this
    omega
  · have := rcB_mem _ _ h4 i hi
    unfold bodB at this
    simp only [decide_eq_true_eq] at this
    omega
theorem QSm.drop {q : Q} (h : QSm q) (n : Nat) : QSm ⟨q.items.drop n, q.recent⟩ :=
  ⟨by have := h.i; simp only [List.length_drop]; omega, h.r, fun i hi => by
    simp only [List.length_drop] at hi
    have := h.bi (n + i) (by omega)
    simpa [List.getD] using this, h.br⟩
/-- a new queue, new Ids and a code -/
def NewS (W : World) (R : Q) (D : List Int) (C : Int) (e : Ending) (w' : World) : Prop := ∃ iv rv dv, e = .returned (.tuple #[qV iv rv, dv, .int .i64 C]) ∧ O4 w' W.heap.size iv R.items ∧ O1 w' W.heap.size rv R.recent ∧ OI w' W.heap.size dv D ∧ Below W.heap.size W w'
def stR (q : Q) (n : Int) : Q := if stC q n = 0 then ⟨q.items.drop n.toNat, q.recent⟩ else ⟨[], []⟩
def stD (q : Q) (n : Int) : List Int := if stC q n = 0 then idsOf (q.items.take n.toNat) else []
theorem newS_no {W w' : World} {q : Q} {n : Int} {dv : Value} (h : stC q n ≠ 0) (hd : OI w' W.heap.size dv []) (hb : Below W.heap.size W w') : NewS W (stR q n) (stD q n) (stC q n) (.returned (.tuple #[qV (.slice none 0 0) (.slice none 0 0), dv, .int .i64 (stC q n)])) w' := by
  unfold stR stD
  rw [if_neg h, if_neg h]
  exact ⟨_, _, _, rfl, O4.nil _ _, O1.nil _ _, hd, hb⟩
theorem newS_yes {W w' : World} {q : Q} {n : Int} {iv rv dv : Value} (h : stC q n = 0) (h4 : O4 w' W.heap.size iv (q.items.drop n.toNat)) (h1 : O1 w' W.heap.size rv q.recent) (hd : OI w' W.heap.size dv (idsOf (q.items.take n.toNat))) (hb : Below W.heap.size W w') : NewS W (stR q n) (stD q n) (stC q n) (.returned (.tuple #[qV iv rv, dv, .int .i64 0])) w' := by
  unfold stR stD
  rw [if_pos h, if_pos h, h]
  exact ⟨_, _, _, rfl, h4, h1, hd, hb⟩
theorem stC_zero {q : Q} {n : Int} (h : stC q n = 0) : quB q = true ∧ 0 ≤ n ∧ n ≤ ((min q.items.length 3 : Nat) : Int) := by
  unfold stC at h
  split at h
  · rename_i h1
    split at h
    · rename_i h2; exact ⟨h1, h2⟩
    · cases h
  · cases h
theorem ret_S {fn : Func} {a b c B : Nat} {tmps : Array Value} {X : World} {c0 c1 u v : Value} {T : TypeId} (hres : fn.results = #[.cell a 34, .tmp b, .tmp c]) (ha : tmps[a]?.getD undef = .pointer (some ⟨B, 0, none⟩)) (hb : tmps[b]?.getD undef = u) (hc : tmps[c]?.getD undef = v) (h : Hd X B (.cells #[c0, c1] T)) :
    (results fn tmps).run Try.prog X = .ok (.tuple #[.agg #[c0, c1], u, v]) X := by
  obtain ⟨k0, k1, _⟩ := h.two
  simp [results, hres, ha, hb, hc, go_sem, k0, k1]
theorem OpQ.al {base : Nat} {w : World} {ra ca rb cb : Nat} {q : Q} (h : OpQ base w ra ca rb cb q) (o : Obj) : OpQ base (w.alloc o) ra ca rb cb q :=
  ⟨h.R.blw ((Below.refl w.heap.size w).alloc (Nat.le_refl _) o), h.T.blw ((Below.refl w.heap.size w).alloc (Nat.le_refl _) o), h.b1, h.b2, h.b3, h.b4, h.n1, h.n2, h.n3, h.n4⟩
end Go.Proofs.Ytakiigddbdapaaa.Qu
