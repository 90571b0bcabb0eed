
/-
  The model's reader of a list or an object, so far: what it owns, and how an item comes to it.
-/
import Derived.Test.YtjakkmjipglkiaaDoorRsD
import Derived.Test.YtjakkmjipglkiaaDoorJoF
namespace Go.Proofs.YtjakkmjipglkiaaDoor.Rd
open Go.RowKit
open Go.Proofs.YtjakkmjipglkiaaDoor.Rm
open Go.Proofs.YtjakkmjipglkiaaDoor.Js (J OJ FitJ jV cellJ strV set5 set5_far set5_size heap_set5 RowJ)
/-- the items xs as cells of a row, each with what it owns -/
structure Es (D : Nat → Prop) (lo : Nat) (w : World) (vals : List Value) (xs : List J) (vn vi : Nat → Value) (Sc : Nat → Nat → Prop) : Prop where
  cells : ∀ i, i < xs.length → ∀ c, c < 5 → vals[i * 5 + c]? = some (cellJ (xs.getD i default) (vn i) (vi i) c)
  fit : ∀ i, i < xs.length → FitJ (xs.getD i default)
  deep : ∀ i, i < xs.length → OJ w lo (Sc i) (xs.getD i default) (vn i) (vi i)
  out : ∀ i, i < xs.length → ∀ b, Sc i b → ¬ D b
  dis : ∀ i j, i < xs.length → j < xs.length → i ≠ j → ∀ b, Sc i b → ¬ Sc j b
theorem Es.nil (D : Nat → Prop) (lo : Nat) (w : World) : Es D lo w [] [] (fun _ => undef) (fun _ => undef) (fun _ _ => False) :=
  ⟨fun i hi => by simp at hi, fun i hi => by simp at hi, fun i hi => by simp at hi, fun i hi => by simp at hi, fun i j hi => by simp at hi⟩
theorem Es.move {D D' : Nat → Prop} {lo : Nat} {w w' : World} {vals : List Value} {xs : List J} {vn vi : Nat → Value} {Sc : Nat → Nat → Prop} (h : Es D lo w vals xs vn vi Sc) (hk : ∀ b, lo ≤ b → b < w.heap.size → ¬ D b → ¬ D' b ∧ w'.heap[b]? = w.heap[b]?) : Es D' lo w' vals xs vn vi Sc := by
  have key : ∀ i, i < xs.length → ∀ b, Sc i b → ¬ D' b ∧ w'.heap[b]? = w.heap[b]? := fun i hi b hS => hk b ((h.deep i hi).lt b hS).1 ((h.deep i hi).lt b hS).2 (h.out i hi b hS)
  exact ⟨h.cells, h.fit, fun i hi => (h.deep i hi).same fun b hS => (key i hi b hS).2, fun i hi b hS => (key i hi b hS).1, h.dis⟩
theorem Es.snoc {D : Nat → Prop} {lo : Nat} {w : World} {vals : List Value} {xs : List J} {vn vi : Nat → Value} {Sc : Nat → Nat → Prop} {x : J} {nv iv : Value} {S : Nat → Prop} (h : Es D lo w vals xs vn vi Sc) (hl : vals.length = xs.length * 5) (hx : OJ w lo S x nv iv) (hf : FitJ x) (ho : ∀ b, S b → ¬ D b) (hd : ∀ i, i < xs.length → ∀ b, Sc i b → ¬ S b) :
    Es D lo w (vals ++ [.int .i64 x.kind, .int .i64 x.num, .string ⟨x.text.toArray⟩, nv, iv]) (xs ++ [x]) (fun i => if i = xs.length then nv else vn i) (fun i => if i = xs.length then iv else vi i) (fun i => if i = xs.length then S else Sc i) := by
  have hlen : (xs ++ [x]).length = xs.length + 1 := by simp
  have old : ∀ i, i < xs.length → (xs ++ [x]).getD i default = xs.getD i default := fun i hi => by simp [List.getD, List.getElem?_append_left hi]
  have new : (xs ++ [x]).getD xs.length default = x := by simp [List.getD]
  refine ⟨fun i hi c hc => ?_, fun i hi => ?_, fun i hi => ?_, fun i hi b => ?_, fun i j hi hj hij b => ?_⟩
  · by_cases hik : i < xs.length
    · rw [old i hik, if_neg (by omega), if_neg (by omega), List.getElem?_append_left (by omega)]
      exact h.cells i hik c hc
    · have e : i = xs.length := by omega
      subst e
      rw [new, if_pos rfl, if_pos rfl, List.getElem?_append_right (by omega), hl, show xs.length * 5 + c - xs.length * 5 = c by omega]
      match c, hc with
      | 0, _ => rfl
      | 1, _ => rfl
      | 2, _ => rfl
      | 3, _ => rfl
      | 4, _ => rfl
  · by_cases hik : i < xs.length
    · rw [old i hik]; exact h.fit i hik
    · have e : i = xs.length := by omega
      subst e
      rw [new]; exact hf
  · by_cases hik : i < xs.length
    · rw [old i hik]
      simp only [if_neg (show ¬ i = xs.length by omega)]
      exact h.deep i hik
    · have e : i = xs.length := by omega
      subst e
      rw [new]
      simp only [if_true]
      exact hx
  · by_cases hik : i < xs.length
    · simp only [if_neg (show ¬ i = xs.length by omega)]
      exact h.out i hik b
    · simp only [if_pos (show i = xs.length by omega)]
      exact ho b
  · by_cases e1 : i = xs.length
    · simp only [if_pos e1, if_neg (show ¬ j = xs.length by omega)]
      exact fun h1 h2 => hd j (by omega) b h2 h1
    · simp only [if_neg e1]
      by_cases e2 : j = xs.length
      · simp only [if_pos e2]
        exact hd i (by omega) b
      · simp only [if_neg e2]
        exact h.dis i j (by omega) (by omega) hij b
/-- a value out of its parts -/
theorem es_oj {D : Nat → Prop} {lo : Nat} {w : World} {nv iv : Value} {ns : List B} {vals : List Value} {xs : List J} {vn vi : Nat → Value} {Sc : Nat → Nat → Prop} (k n : Int) (t : B) (hn : w.ownsRow lo 9 1 nv ns.length (strV ns)) (hns : ∀ u ∈ ns, u.length ≤ 120) (hnl : ns.length ≤ 9223372036854775807)
    (hi : w.ownsRow lo 25 5 iv xs.length vals) (h : Es D lo w vals xs vn vi Sc) (hD1 : ∀ b, nv.ownBlock = some b → D b) (hD2 : ∀ b, iv.ownBlock = some b → D b) :
    ∃ S, OJ w lo S (.mk k n t ns xs) nv iv := by
  obtain ⟨h1, h2⟩ := Js.row_of_own (D := fun j => xs.getD j default) hi h.cells
  exact ⟨_, .mk Sc vn vi hn (fun u hu => by have := hns u hu; omega) hnl h1 h2 h.fit h.deep (fun b => Iff.rfl) (fun j hj b hb => ⟨fun e => h.out j hj b hb (hD1 b e), fun e => h.out j hj b hb (hD2 b e)⟩) h.dis⟩
/-- the last five cells of an own row written -/
theorem own_set5 {w : World} {base g n c : Nat} {T : TypeId} {xs : List Value} {z0 z1 z2 z3 z4 : Value} (h : w.ownsRow base T 5 (.slice (some ⟨g, 0, none⟩) (n + 1) c) (n + 1) (xs ++ [z0, z1, z2, z3, z4])) (hx : xs.length = n * 5) (a0 a1 a2 a3 a4 : Value) :
    (set5 w g (n * 5) a0 a1 a2 a3 a4).ownsRow base T 5 (.slice (some ⟨g, 0, none⟩) (n + 1) c) (n + 1) (xs ++ [a0, a1, a2, a3, a4]) := by
  obtain ⟨hl, h⟩ := h
  refine ⟨by simp [hx]; omega, .inr ?_⟩
  rcases h with ⟨e, _⟩ | ⟨g', cap, cur, e, hb, hg, hn, hm, hs, ht⟩
  · simp at e
  · simp only [Value.slice.injEq, Option.some.injEq, Addr.mk.injEq, and_true, true_and] at e
    obtain ⟨rfl, rfl⟩ := e
    have h0 := Js.heap_set (Js.heap_set (Js.heap_set (Js.heap_set (Js.heap_set hg (n * 5) a0) (n * 5 + 1) a1) (n * 5 + 2) a2) (n * 5 + 3) a3) (n * 5 + 4) a4
    refine ⟨g, c, _, rfl, hb, h0, hn, hm, by simpa using hs, ?_⟩
    have hsz : n * 5 + 5 ≤ cur.size := by have := Nat.mul_le_mul_right 5 hn; omega
    apply List.ext_getElem?
    intro i
    by_cases hi : i < (n + 1) * 5
    · rw [List.getElem?_take_of_lt hi, Array.getElem?_toList]
      have e2 : cur[i]? = (xs ++ [z0, z1, z2, z3, z4])[i]? := by rw [← ht, List.getElem?_take_of_lt hi, Array.getElem?_toList]
      by_cases hlo : i < n * 5
      · rw [List.getElem?_append_left (by omega)] at e2 ⊢
        rw [← e2]
        simp only [Array.getElem?_setIfInBounds]
        rw [if_neg (by omega), if_neg (by omega), if_neg (by omega), if_neg (by omega), if_neg (by omega)]
      · rw [List.getElem?_append_right (by omega), hx]
        obtain ⟨d, rfl⟩ : ∃ d, i = n * 5 + d := ⟨i - n * 5, by omega⟩
        rw [show n * 5 + d - n * 5 = d by omega]
        have hd : d < 5 := by omega
        simp only [Array.getElem?_setIfInBounds, Array.size_setIfInBounds]
        match d, hd with
        | 0, _ => simp [show n * 5 < cur.size by omega]
        | 1, _ => simp [show n * 5 + 1 < cur.size by omega]
        | 2, _ => simp [show n * 5 + 2 < cur.size by omega]
        | 3, _ => simp [show n * 5 + 3 < cur.size by omega]
        | 4, _ => simp [show n * 5 + 4 < cur.size by omega]
    · rw [List.getElem?_eq_none (by simp; omega), List.getElem?_eq_none (by simp [hx]; omega)]
theorem row_cells5 {w : World} {base g n c : Nat} {T : TypeId} {xs : List Value} {z0 z1 z2 z3 z4 : Value} (h : w.ownsRow base T 5 (.slice (some ⟨g, 0, none⟩) (n + 1) c) (n + 1) (xs ++ [z0, z1, z2, z3, z4])) (hx : xs.length = n * 5) :
    w.cell? ⟨g, n * 5, none⟩ = some z0 ∧ w.cell? ⟨g, n * 5 + 1, none⟩ = some z1 ∧ w.cell? ⟨g, n * 5 + 2, none⟩ = some z2 ∧ w.cell? ⟨g, n * 5 + 3, none⟩ = some z3 ∧ w.cell? ⟨g, n * 5 + 4, none⟩ = some z4 ∧ (∀ o, w.frozen? ⟨g, o, none⟩ = false) ∧ g < w.heap.size := by
  obtain ⟨hl, h⟩ := h
  rcases h with ⟨e, _⟩ | ⟨g', cap, cur, e, hb, hg, hn, hm, hs, ht⟩
  · simp at e
  · simp only [Value.slice.injEq, Option.some.injEq, Addr.mk.injEq, and_true, true_and] at e
    obtain ⟨rfl, rfl⟩ := e
    have hc : ∀ d, d < 5 → w.cell? ⟨g, n * 5 + d, none⟩ = [z0, z1, z2, z3, z4][d]? := fun d hd => by
      rw [cell_of_row w g _ _ _ _ hg]
      have e2 : cur[n * 5 + d]? = (xs ++ [z0, z1, z2, z3, z4])[n * 5 + d]? := by rw [← ht, List.getElem?_take_of_lt (by omega), Array.getElem?_toList]
      rw [e2, List.getElem?_append_right (by omega), hx, show n * 5 + d - n * 5 = d by omega]
    exact ⟨hc 0 (by omega), hc 1 (by omega), hc 2 (by omega), hc 3 (by omega), hc 4 (by omega), fun o => frozen_of_row w g o _ _ hg, (Array.getElem?_eq_some_iff.1 hg).1⟩
end Go.Proofs.YtjakkmjipglkiaaDoor.Rd
