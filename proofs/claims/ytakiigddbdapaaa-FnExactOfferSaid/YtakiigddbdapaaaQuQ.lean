
/-
  Batch, the model's and the program's, walked.
-/
import Derived.Test.YtakiigddbdapaaaQuP
namespace Go.Proofs.Ytakiigddbdapaaa.Qu
open Go.RowKit
open Go.Proofs.Ytakiigddbdapaaa.Tx
theorem take_news {S : Nat → Prop} {w : World} {a : Option Addr} {n c : Nat} {xs : List Rep} (h : RpIn S w (.slice a n c) xs) (m : Nat) (hm : m ≤ xs.length) : 0 < m → ∃ ad, a = some ad ∧ ∀ j u, (rpC (xs.take m))[j]? = some u → w.cell? (ad.add j) = some u := by
  obtain ⟨a', c', e, h2⟩ := rp_news (h.take m hm)
  injection e with e1 e2 e3
  subst e1
  intro h0
  exact h2 (by simp; omega)
theorem newB_no {W w' : World} {q : Q} {v : Value} (h : quB q = false) (ho : O4 w' W.heap.size v []) (hb : Below W.heap.size W w') : NewB W q (.returned (.tuple #[v, .int .i64 1])) w' := by
  have h1 : batC q = 1 := by unfold batC; rw [h]; rfl
  have h2 : batR q = [] := by unfold batR; rw [h]; rfl
  exact ⟨v, by rw [h1], by rw [h2]; exact ho, hb⟩
theorem newB_yes {W w' : World} {q : Q} {v : Value} {m : Nat} (h : quB q = true) (hm : m = min q.items.length 3) (ho : O4 w' W.heap.size v (q.items.take m)) (hb : Below W.heap.size W w') : NewB W q (.returned (.tuple #[v, .int .i64 0])) w' := by
  have h1 : batC q = 0 := by unfold batC; rw [h]; rfl
  have h2 : batR q = q.items.take m := by unfold batR; rw [h, hm, take_min]; rfl
  exact ⟨v, by rw [h1], by rw [h2]; exact ho, hb⟩
end Go.Proofs.Ytakiigddbdapaaa.Qu
