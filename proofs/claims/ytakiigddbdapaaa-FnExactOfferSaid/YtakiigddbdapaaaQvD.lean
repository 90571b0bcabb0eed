
/-
  Sizes of the answers of the queues' laws; the laws' state once more.
-/
import Derived.Test.YtakiigddbdapaaaQvC
import Derived.Test.YtakiigddbdapaaaQuI
namespace Go.Proofs.Ytakiigddbdapaaa.Qu
open Go.RowKit
open Go.Proofs.Ytakiigddbdapaaa.Tx
theorem St0.i0 {W w : World} {a1 a2 : Value} {s pb : Nat} {po : Obj} {pi pr pd : Value} {R : Q} {D : List Int} (h : St0 W a1 a2 s pb po pi pr pd R D w) : IntsIn (· < w.heap.size) w pd D := h.f3.mono fun _ hb => Nat.lt_of_lt_of_le hb h.z
/-- the answer fits, and is no greater than a queue may be -/
def Sized (R : Q) (D : List Int) : Prop := (∀ i, i < R.items.length → Fit (R.items.getD i default)) ∧ (∀ i, i < R.recent.length → (R.recent.getD i []).length ≤ 9223372036854775807) ∧ R.items.length ≤ 1048577 ∧ R.recent.length ≤ 1048577 ∧ D.length ≤ 1048577
theorem st_sized {q : Q} {n : Int} (h1 : q.items.length ≤ 1048576) (h2 : q.recent.length ≤ 1048576) (h3 : ∀ i, i < q.items.length → Fit (q.items.getD i default)) (h4 : ∀ i, i < q.recent.length → (q.recent.getD i []).length ≤ 9223372036854775807) : Sized (stR q n) (stD q n) := by
  unfold stR stD Sized
  split
  · refine ⟨fun i hi => ?_, h4, by simp only [List.length_drop]; omega, by show q.recent.length ≤ _; omega, by simp [idsOf]; omega⟩
    simp only [List.length_drop] at hi
    have := h3 (n.toNat + i) (by omega)
    simpa [List.getD] using this
  · refine ⟨fun i hi => ?_, fun i hi => ?_, by simp, by simp, by simp⟩ <;> simp at hi
end Go.Proofs.Ytakiigddbdapaaa.Qu
