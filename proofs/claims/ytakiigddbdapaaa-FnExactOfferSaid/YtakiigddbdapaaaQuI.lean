
/-
  The law FnExactBatch, walked.
-/
import Derived.Test.YtakiigddbdapaaaQuQ
import Derived.Test.YtakiigddbdapaaaQuH
namespace Go.Proofs.Ytakiigddbdapaaa.Qu
open Go.RowKit
open Go.Proofs.Ytakiigddbdapaaa.Tx
def NewB2 (W : World) (R : List Rep) (C : Int) (e : Ending) (w' : World) : Prop := ∃ v, e = .returned (.tuple #[v, .int .i64 C]) ∧ O4 w' W.heap.size v R ∧ Below W.heap.size W w'
theorem batR_fit {q : Q} (h : ∀ i, i < q.items.length → Fit (q.items.getD i default)) : ∀ i, i < (batR q).length → Fit ((batR q).getD i default) := by
  unfold batR
  split
  · intro i hi
    have h3 : i < 3 ∧ i < q.items.length := by simp at hi; omega
    have e : (q.items.take 3).getD i default = q.items.getD i default := by simp [List.getD, h3.1]
    rw [e]; exact h i h3.2
  · intro i hi; simp at hi
theorem batR_len (q : Q) : (batR q).length ≤ 3 := by
  unfold batR
  split
  · simp; omega
  · simp
theorem St0.r0 {W w : World} {a1 a2 : Value} {s pb : Nat} {po : Obj} {pi pr pd : Value} {R : Q} {D : List Int} (h : St0 W a1 a2 s pb po pi pr pd R D w) : RpIn (· < w.heap.size) w pi R.items := h.f1.mono fun _ hb => Nat.lt_of_lt_of_le hb h.z
theorem St0.t0 {W w : World} {a1 a2 : Value} {s pb : Nat} {po : Obj} {pi pr pd : Value} {R : Q} {D : List Int} (h : St0 W a1 a2 s pb po pi pr pd R D w) : TxtsIn (· < w.heap.size) w pr R.recent := h.f2.mono fun _ hb => Nat.lt_of_lt_of_le hb h.z
theorem body_le : ∀ (xs : List Rep) (i : Nat), i < xs.length → (xs.getD i default).body.length ≤ szB xs
  | [], _, h => by simp at h
  | x :: r, 0, _ => by simp [szB]
  | x :: r, i + 1, h => by
    have := body_le r i (by simpa using h)
    simp only [szB, List.getD_cons_succ]
    omega
end Go.Proofs.Ytakiigddbdapaaa.Qu
