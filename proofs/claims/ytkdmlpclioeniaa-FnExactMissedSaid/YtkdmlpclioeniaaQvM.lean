
/-
  Missed: the sizes of its answers.
-/
import Derived.Test.YtkdmlpclioeniaaQvL
import Derived.Test.YtkdmlpclioeniaaQvD
namespace Go.Proofs.Ytkdmlpclioeniaa.Qu
open Go.RowKit
open Go.Proofs.Ytkdmlpclioeniaa.Tx
theorem ms_sized {q : Q} {n : Int} (h1 : q.items.length ≤ 1048576) (h2 : q.recent.length ≤ 1048576) (h3 : ∀ i, i < q.items.length → Fit (q.items.getD i default)) (h4 : ∀ i, i < q.recent.length → (q.recent.getD i []).length ≤ 9223372036854775807) : Sized (msR q n) (msD q n) := by
  unfold msR msD Sized
  by_cases hC : stC q n = 0
  · rw [if_pos hC, if_pos hC]
    have hk := msK_len q.items 0 n.toNat
    have hi := msI_len q.items 0 n.toNat
    exact ⟨ms_fit (stC_zero hC).1 h3 _, h4, by show (msK q.items 0 n.toNat).length ≤ _; omega, by show q.recent.length ≤ _; omega, by omega⟩
  · rw [if_neg hC, if_neg hC]
    refine ⟨fun i hi => ?_, fun i hi => ?_, by simp, by simp, by simp⟩ <;> simp at hi
end Go.Proofs.Ytkdmlpclioeniaa.Qu
