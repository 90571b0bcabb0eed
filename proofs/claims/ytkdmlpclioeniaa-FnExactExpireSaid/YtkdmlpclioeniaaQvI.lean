
/-
  Expire: the sizes of its answers.
-/
import Derived.Test.YtkdmlpclioeniaaQvH
import Derived.Test.YtkdmlpclioeniaaQvD
namespace Go.Proofs.Ytkdmlpclioeniaa.Qu
open Go.RowKit
open Go.Proofs.Ytkdmlpclioeniaa.Tx
theorem ex_sized {q : Q} {now age : Int} (h1 : q.items.length ≤ 1048576) (h2 : q.recent.length ≤ 1048576) (h3 : ∀ i, i < q.items.length → Fit (q.items.getD i default)) (h4 : ∀ i, i < q.recent.length → (q.recent.getD i []).length ≤ 9223372036854775807) : Sized (exR q now age) (exD q now age) := by
  unfold exR exD Sized
  split
  · exact ⟨Fit_drop h3 _, h4, by simp only [List.length_drop]; omega, by show q.recent.length ≤ _; omega, by simp [idsOf]; omega⟩
  · refine ⟨fun i hi => ?_, fun i hi => ?_, by simp, by simp, by simp⟩ <;> simp at hi
theorem expireS_any' (B : Nat) (w0 : World) (q : Q) (now age : Int) (iv rv : Value) (hi : RpIn (· < B) w0 iv q.items) (hr : TxtsIn (· < B) w0 rv q.recent) (_ : q.items.length ≤ 1048576) (W : World) (hb : Below B w0 W) (hB : B ≤ W.heap.size) :
    Calls Try.prog 34 #[qV iv rv, .int .i64 now, .int .i64 age] W (NewS W (exR q now age) (exD q now age) (exC q now age)) := expireS_any B w0 q now age iv rv hi hr W hb hB
theorem expireI_any' (B : Nat) (w0 : World) (q : Q) (now age : Int) (iv rv : Value) (hi : RpIn (· < B) w0 iv q.items) (hr : TxtsIn (· < B) w0 rv q.recent) (_ : q.items.length ≤ 1048576) (W : World) (hb : Below B w0 W) (hB : B ≤ W.heap.size) :
    Calls Try.prog 35 #[qV iv rv, .int .i64 now, .int .i64 age] W (NewS W (exR q now age) (exD q now age) (exC q now age)) := expireI_any B w0 q now age iv rv hi hr W hb hB
end Go.Proofs.Ytkdmlpclioeniaa.Qu
