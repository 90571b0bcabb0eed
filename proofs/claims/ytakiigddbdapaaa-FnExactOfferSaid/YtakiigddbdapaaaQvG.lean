
/-
  Expire, the model's.
-/
import Derived.Test.YtakiigddbdapaaaQvF
namespace Go.Proofs.Ytakiigddbdapaaa.Qu
open Go.RowKit
open Go.Proofs.Ytakiigddbdapaaa.Tx
theorem fol_last {pre : List Rep} {l r : Rep} (h : folB (pre ++ [l]) r = true) : l.born ≤ r.born := by
  unfold folB at h
  simp at h
  exact h.2
theorem ex_none (now age : Int) : ∀ (xs pre : List Rep) (l : Rep), itB (pre ++ [l]) xs = true → exP now age l = false → xs.filter (exP now age) = [] ∧ xs.filter (fun r => !exP now age r) = xs
  | [], _, _, _, _ => ⟨rfl, rfl⟩
  | x :: xs, pre, l, h, hl => by
    simp only [itB, Bool.and_eq_true] at h
    have h1 := fol_last h.1.2
    have hx : exP now age x = false := by
      unfold exP at hl ⊢
      simp only [decide_eq_false_iff_not] at hl ⊢
      omega
    obtain ⟨e1, e2⟩ := ex_none now age xs (pre ++ [l]) x h.2 hx
    rw [List.filter_cons, List.filter_cons, hx, e1, e2]
    exact ⟨rfl, rfl⟩
theorem ex_split (now age : Int) : ∀ (xs pre : List Rep), itB pre xs = true → xs.filter (exP now age) = xs.take (xs.takeWhile (exP now age)).length ∧ xs.filter (fun r => !exP now age r) = xs.drop (xs.takeWhile (exP now age)).length
  | [], _, _ => ⟨rfl, rfl⟩
  | x :: xs, pre, h => by
    simp only [itB, Bool.and_eq_true] at h
    cases hx : exP now age x with
    | true =>
      obtain ⟨e1, e2⟩ := ex_split now age xs _ h.2
      rw [List.filter_cons, List.filter_cons, List.takeWhile_cons, hx, e1, e2]
      exact ⟨rfl, rfl⟩
    | false =>
      obtain ⟨e1, e2⟩ := ex_none now age xs pre x h.2 hx
      rw [List.filter_cons, List.filter_cons, List.takeWhile_cons, hx, e1, e2]
      exact ⟨rfl, rfl⟩
theorem quB_split {q : Q} (h : quB q = true) (now age : Int) : q.items.filter (exP now age) = q.items.take (exN q now age) ∧ q.items.filter (fun r => !exP now age r) = q.items.drop (exN q now age) := by
  unfold quB at h
  simp only [Bool.and_eq_true, decide_eq_true_eq] at h
  exact ex_split now age _ _ h.2.2.1
/-- the two lists being made, with the argument's box and the result's -/
structure ExS (W : World) (o : Obj) (xs : List Rep) (ds : List Int) (vd vi : Value) (w : World) : Prop where
  H : Hd w W.heap.size o
  Z : Hd w (W.heap.size + 1) zqO
  I : OI w (W.heap.size + 2) vd ds
  R : O4 w (W.heap.size + 2) vi xs
  b : Below W.heap.size W w
theorem ExS.blw {W w w' : World} {o : Obj} {xs : List Rep} {ds : List Int} {vd vi : Value} (h : ExS W o xs ds vd vi w) (hb : Below w.heap.size w w') : ExS W o xs ds vd vi w' :=
  ⟨h.H.blw hb, h.Z.blw hb, OI.below h.I hb, O4.below h.R hb, below_chain h.b hb⟩
theorem ExS.al {W w : World} {o : Obj} {xs : List Rep} {ds : List Int} {vd vi : Value} (h : ExS W o xs ds vd vi w) (x : Obj) : ExS W o xs ds vd vi (w.alloc x) :=
  h.blw ((Below.refl w.heap.size w).alloc (Nat.le_refl _) x)
theorem ExS.appI {W w w' : World} {o : Obj} {xs : List Rep} {ds ds' : List Int} {vd vd' vi : Value} (h : ExS W o xs ds vd vi w) (hg : w.grownBy w' vd.ownBlock) (hI : OI w' (W.heap.size + 2) vd' ds') : ExS W o xs ds' vd' vi w' := by
  have hne : ∀ b, b < W.heap.size + 2 → some b ≠ vd.ownBlock := fun b hb e => by have := (World.ownsRow.lt h.I b e.symm).1; omega
  exact ⟨h.H.grown hg (hne _ (by omega)), h.Z.grown hg (hne _ (by omega)), hI, World.ownsRow.kept h.R hg (own_apart h.R h.I (by decide)), h.b.grown hg h.b.size (fun b e => by have := (World.ownsRow.lt h.I b e).1; omega)⟩
theorem ExS.appR {W w w' : World} {o : Obj} {xs xs' : List Rep} {ds : List Int} {vd vi vi' : Value} (h : ExS W o xs ds vd vi w) (hg : w.grownBy w' vi.ownBlock) (hR : O4 w' (W.heap.size + 2) vi' xs') : ExS W o xs' ds vd vi' w' := by
  have hne : ∀ b, b < W.heap.size + 2 → some b ≠ vi.ownBlock := fun b hb e => by have := (World.ownsRow.lt h.R b e.symm).1; omega
  exact ⟨h.H.grown hg (hne _ (by omega)), h.Z.grown hg (hne _ (by omega)), World.ownsRow.kept h.I hg (own_apart h.I h.R (by decide)), hR, h.b.grown hg h.b.size (fun b e => by have := (World.ownsRow.lt h.R b e).1; omega)⟩
theorem O4.snoc {w : World} {base : Nat} {v : Value} {xs : List Rep} {x : Rep} (h : w.ownsRow base 38 4 v (xs.length + 1) (rpC xs ++ [.int .i64 x.id, .int .i64 x.born, .int .i64 x.tries, .string ⟨x.body.toArray⟩])) : O4 w base v (xs ++ [x]) := by
  unfold O4
  rw [rpC_app, List.length_append]
  exact h
theorem one_rep (a b c : Int) (t : ByteArray) : ∀ u ∈ [Value.int .i64 a, .int .i64 b, .int .i64 c, .string t], u.oneCell' = true := by
  intro u hu
  simp only [List.mem_cons, List.not_mem_nil, or_false] at hu
  rcases hu with rfl | rfl | rfl | rfl <;> rfl
theorem ret_X {fn : Func} {a b B : Nat} {tmps : Array Value} {X : World} {c0 c1 u : Value} {T : TypeId} (hres : fn.results = #[.cell a 34, .tmp b]) (ha : tmps[a]?.getD undef = .pointer (some ⟨B, 0, none⟩)) (hb : tmps[b]?.getD undef = u) (h : Hd X B (.cells #[c0, c1] T)) :
    (results fn tmps).run Try.prog X = .ok (.tuple #[.agg #[c0, c1], u]) X := by
  obtain ⟨k0, k1, _⟩ := h.two
  simp [results, hres, ha, hb, go_sem, k0, k1]
def NewX (W : World) (rv : Value) (xs : List Rep) (ds : List Int) (e : Ending) (w' : World) : Prop := ∃ vi vd, e = .returned (.tuple #[qV vi rv, vd]) ∧ O4 w' W.heap.size vi xs ∧ OI w' W.heap.size vd ds ∧ Below W.heap.size W w'
end Go.Proofs.Ytakiigddbdapaaa.Qu
