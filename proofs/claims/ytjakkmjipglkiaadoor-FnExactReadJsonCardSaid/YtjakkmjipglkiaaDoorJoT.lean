
/-
  The laws' copies of JSON values, with what they own: toStringS, toJsonS, toJson.
-/
import Derived.Test.YtjakkmjipglkiaaDoorJoA
import Derived.Test.YtjakkmjipglkiaaDoorJsAt
namespace Go.Proofs.YtjakkmjipglkiaaDoor.Js
open Go.RowKit
/-- items that own their memory -/
def OL (w : World) (base : Nat) (S : Nat → Prop) (xs : List J) (iv : Value) : Prop :=
  ∃ (Sc : Nat → Nat → Prop) (vn vi : Nat → Value), RowJ w iv xs.length (fun j => xs.getD j default) vn vi ∧ (∀ b, iv.ownBlock = some b → base ≤ b) ∧ (∀ j, j < xs.length → FitJ (xs.getD j default)) ∧
    (∀ j, j < xs.length → OJ w base (Sc j) (xs.getD j default) (vn j) (vi j)) ∧ (∀ b, S b ↔ (iv.ownBlock = some b ∨ ∃ j, j < xs.length ∧ Sc j b)) ∧
    (∀ j, j < xs.length → ∀ b, Sc j b → iv.ownBlock ≠ some b) ∧ (∀ i j, i < xs.length → j < xs.length → i ≠ j → ∀ b, Sc i b → ¬ Sc j b)
theorem OL.slice {w : World} {base : Nat} {S : Nat → Prop} {xs : List J} {iv : Value} (h : OL w base S xs iv) : ∃ a l c, iv = .slice a l c := by
  obtain ⟨Sc, vn, vi, hr, _⟩ := h
  obtain ⟨a, c, e⟩ := hr.slice
  exact ⟨a, _, c, e⟩
theorem OL.lt {w : World} {base : Nat} {S : Nat → Prop} {xs : List J} {iv : Value} (h : OL w base S xs iv) : ∀ b, S b → base ≤ b ∧ b < w.heap.size := by
  obtain ⟨Sc, vn, vi, hr, hl, _, hd, hS, _⟩ := h
  intro b hb
  rcases (hS b).1 hb with h | ⟨j, hj, h⟩
  · exact ⟨hl b h, (hr.blk h).1⟩
  · exact (hd j hj).lt b h
theorem OL.same {w w' : World} {base : Nat} {S : Nat → Prop} {xs : List J} {iv : Value} (h : OL w base S xs iv) (he : ∀ b, S b → w'.heap[b]? = w.heap[b]?) : OL w' base S xs iv := by
  obtain ⟨Sc, vn, vi, hr, hl, hf, hd, hS, h1, h2⟩ := h
  exact ⟨Sc, vn, vi, hr.same fun b hb => he b ((hS b).2 (.inl hb)), hl, hf, fun j hj => (hd j hj).same fun b hb => he b ((hS b).2 (.inr ⟨j, hj, hb⟩)), hS, h1, h2⟩
theorem OL.base {w : World} {B C : Nat} {S : Nat → Prop} {xs : List J} {iv : Value} (h : OL w B S xs iv) (hC : C ≤ B) : OL w C S xs iv := by
  obtain ⟨Sc, vn, vi, hr, hl, hf, hd, hS, h1, h2⟩ := h
  exact ⟨Sc, vn, vi, hr, fun b hb => Nat.le_trans hC (hl b hb), hf, fun j hj => (hd j hj).base hC, hS, h1, h2⟩
theorem OL.nil (w : World) (base : Nat) : OL w base (fun _ => False) [] (.slice none 0 0) :=
  ⟨fun _ _ => False, fun _ => undef, fun _ => undef, .inl ⟨rfl, rfl⟩, fun b hb => by simp [Value.ownBlock] at hb, fun j hj => by simp at hj, fun j hj => by simp at hj, fun b => by simp [Value.ownBlock], fun j hj => by simp at hj, fun i j hi => by simp at hi⟩
/-- names and items that lie apart make a value -/
theorem OJ.of {w : World} {base : Nat} {S : Nat → Prop} {k n : Int} {t : List UInt8} {ns : List (List UInt8)} {xs : List J} {nv iv : Value} (hn : O1 w base nv ns) (hns : ∀ t ∈ ns, t.length ≤ 9223372036854775807) (hnl : ns.length ≤ 9223372036854775807) (h : OL w base S xs iv) (hd : ∀ b, S b → nv.ownBlock ≠ some b) :
    OJ w base (fun b => nv.ownBlock = some b ∨ S b) (.mk k n t ns xs) nv iv := by
  obtain ⟨Sc, vn, vi, hr, hl, hf, hdp, hS, h1, h2⟩ := h
  exact .mk Sc vn vi hn hns hnl hr hl hf hdp (fun b => by rw [hS b]) (fun j hj b hb => ⟨hd b ((hS b).2 (.inr ⟨j, hj, hb⟩)), h1 j hj b hb⟩) h2
theorem OJ.parts {w : World} {base : Nat} {S : Nat → Prop} {k n : Int} {t : List UInt8} {ns : List (List UInt8)} {xs : List J} {nv iv : Value} (h : OJ w base S (.mk k n t ns xs) nv iv) : O1 w base nv ns ∧ ∃ SL, OL w base SL xs iv ∧ (∀ b, SL b → S b ∧ nv.ownBlock ≠ some b) := by
  cases h with
  | mk Sc vn vi names hns hnl row low fit deep hS d1 d2 =>
    refine ⟨names, fun b => iv.ownBlock = some b ∨ ∃ j, j < xs.length ∧ Sc j b, ⟨Sc, vn, vi, row, low, fit, deep, fun b => Iff.rfl, fun j hj b hb => (d1 j hj b hb).2, d2⟩, fun b hb => ⟨(hS b).2 (.inr hb), fun e => ?_⟩⟩
    rcases hb with hb | ⟨j, hj, hb⟩
    · obtain ⟨_, _, C, hC⟩ := names.blk e
      obtain ⟨_, C', hC'⟩ := row.blk hb
      rw [hC] at hC'
      cases hC'
    · exact (d1 j hj b hb).1 e
/-- a new slice of the texts ns, all its own -/
def NewTO (W : World) (ns : List (List UInt8)) (e : Ending) (w' : World) : Prop := ∃ v, e = .returned v ∧ O1 w' W.heap.size v ns ∧ Below W.heap.size W w'
def NewJO (W : World) (j : J) (e : Ending) (w' : World) : Prop := ∃ nv iv S, e = .returned (jV j nv iv) ∧ OJ w' W.heap.size S j nv iv ∧ FitJ j ∧ Below W.heap.size W w'
def NewLO (W : World) (xs : List J) (e : Ending) (w' : World) : Prop := ∃ v S, e = .returned v ∧ OL w' W.heap.size S xs v ∧ Below W.heap.size W w'
/-- forgetting what is owned -/
theorem NewJO.plain {W : World} {j : J} {e : Ending} {w' : World} (h : NewJO W j e w') : NewJ W j e w' := by
  obtain ⟨nv, iv, S, rfl, ho, hf, hb⟩ := h
  exact ⟨nv, iv, rfl, (ho.jin hf).mono fun b hb' => ho.lt b hb', hb⟩
theorem newTO_of {W w' : World} {ns : List (List UInt8)} {f : Nat → Value} (hr : w'.rowIs W.heap.size 9 ns.length f) (hm : ns.length ≤ 1048576) (hf : ∀ i, i < ns.length → f i = .string ⟨(ns.getD i []).toArray⟩) (hb : Below W.heap.size W w') : NewTO W ns (.returned (.slice (some ⟨W.heap.size, 0, none⟩) ns.length ns.length)) w' := by
  obtain ⟨C, hC, hs, hCf⟩ := hr
  refine ⟨_, rfl, ⟨by simp, .inr ⟨W.heap.size, ns.length, C, rfl, Nat.le_refl _, hC, Nat.le_refl _, by unfold maxLen; omega, by omega, ?_⟩⟩, hb⟩
  apply List.ext_getElem?
  intro j
  by_cases hj : j < ns.length
  · rw [List.getElem?_take_of_lt (by omega)]
    have h1 : C.toList[j]? = some (f j) := by have := hCf j hj; simpa using this
    rw [h1, hf j hj]
    simp [hj]
  · rw [List.getElem?_eq_none (by simp; omega), List.getElem?_eq_none (by simp; omega)]
/-- what has been copied after k rounds -/
def ToRO (W : World) (xs : List J) (k : Nat) (wr : World) : Prop :=
  ∃ (F vn vi : Nat → Value) (Sc : Nat → Nat → Prop), wr.rowIs W.heap.size 25 (xs.length * 5) F ∧
    (∀ i, i < k → ∀ c, c < 5 → F (i * 5 + c) = cellJ (xs.getD i default) (vn i) (vi i) c) ∧ (∀ i, i < k → FitJ (xs.getD i default)) ∧
    (∀ i, i < k → OJ wr (W.heap.size + 1) (Sc i) (xs.getD i default) (vn i) (vi i)) ∧ (∀ i j, i < k → j < k → i ≠ j → ∀ b, Sc i b → ¬ Sc j b) ∧ Below W.heap.size W wr
theorem toRO_start (W : World) (xs : List J) : ToRO W xs 0 (W.alloc (.cells (madeCells #[.int .i64 0, .int .i64 0, .string ByteArray.empty, .slice none 0 0, .slice none 0 0] (xs.length * 5)) 25)) := by
  obtain ⟨F, vn, vi, hr, -, -, hb⟩ := toRel_start W xs
  exact ⟨F, vn, vi, fun _ _ => False, hr, fun i hi => by omega, fun i hi => by omega, fun i hi => by omega, fun i j hi => by omega, hb⟩
theorem toRO_end {W w' : World} {xs : List J} (h : ToRO W xs xs.length w') (hm : xs.length ≤ 1048576) : NewLO W xs (.returned (.slice (some ⟨W.heap.size, 0, none⟩) xs.length xs.length)) w' := by
  obtain ⟨F, vn, vi, Sc, hr, hf, hfit, hj, hd, hb⟩ := h
  refine ⟨_, fun b => (Value.slice (some ⟨W.heap.size, 0, none⟩) xs.length xs.length).ownBlock = some b ∨ ∃ j, j < xs.length ∧ Sc j b, rfl, ⟨Sc, vn, vi, .inr ⟨W.heap.size, xs.length, F, rfl, hr, Nat.le_refl _, by omega, hf⟩, fun b hb => ?_, hfit, fun j hj' => (hj j hj').base (by omega), fun b => Iff.rfl, fun j hj' b hb e => ?_, hd⟩, hb⟩
  · simp [Value.ownBlock] at hb; omega
  · have := (hj j hj').lt b hb
    simp [Value.ownBlock] at e; omega
theorem toRO_step {W wr w2 : World} {xs : List J} {k : Nat} {x : J} {nv iv : Value} {F wn wi : Nat → Value} {Sc : Nat → Nat → Prop} {S : Nat → Prop} (hx : xs.getD k default = x) (hr : w2.rowIs W.heap.size 25 (xs.length * 5) F)
    (hf : ∀ i, i < k → ∀ c, c < 5 → F (i * 5 + c) = cellJ (xs.getD i default) (wn i) (wi i) c) (hfit : ∀ i, i < k → FitJ (xs.getD i default))
    (hj : ∀ i, i < k → OJ wr (W.heap.size + 1) (Sc i) (xs.getD i default) (wn i) (wi i)) (hd : ∀ i j, i < k → j < k → i ≠ j → ∀ b, Sc i b → ¬ Sc j b) (hN : Below W.heap.size W wr) (hlt : W.heap.size < wr.heap.size)
    (hj2 : OJ w2 wr.heap.size S x nv iv) (hft : FitJ x) (hb2 : Below wr.heap.size wr w2) :
    ToRO W xs (k + 1) (set5 w2 W.heap.size (k * 5) (.int .i64 x.kind) (.int .i64 x.num) (.string ⟨x.text.toArray⟩) nv iv) := by
  have hs := hb2.size
  refine ⟨fun j => if j = k * 5 + 4 then iv else if j = k * 5 + 3 then nv else if j = k * 5 + 2 then .string ⟨x.text.toArray⟩ else if j = k * 5 + 1 then .int .i64 x.num else if j = k * 5 then .int .i64 x.kind else F j,
    fun i => if i = k then nv else wn i, fun i => if i = k then iv else wi i, fun i => if i = k then S else Sc i, ((((hr.set _ _).set _ _).set _ _).set _ _).set _ _, fun i hi c hc => ?_, fun i hi => ?_, fun i hi => ?_, fun i j hi hj' hne b => ?_, ?_⟩
  · by_cases e : i = k
    · subst e
      rw [hx]
      simp only [if_true]
      match c, hc with
      | 0, _ => simp [cellJ]
      | 1, _ => simp [cellJ]
      | 2, _ => simp [cellJ]
      | 3, _ => simp [cellJ]
      | 4, _ => simp [cellJ]
    · dsimp only
      rw [if_neg e, if_neg e, ← hf i (by omega) c hc]
      rw [if_neg (by omega), if_neg (by omega), if_neg (by omega), if_neg (by omega), if_neg (by omega)]
  · by_cases e : i = k
    · subst e; rw [hx]; exact hft
    · exact hfit i (by omega)
  · by_cases e : i = k
    · subst e
      rw [hx]
      simp only [if_true]
      exact (hj2.base (by omega)).same fun b hb => set5_far _ _ _ _ _ _ _ _ _ (by have := hj2.lt b hb; omega)
    · simp only [if_neg e]
      refine (hj i (by omega)).same fun b hb => ?_
      have := (hj i (by omega)).lt b hb
      rw [set5_far _ _ _ _ _ _ _ _ _ (by omega)]; exact hb2.block b this.2
  · dsimp only
    by_cases e1 : i = k
    · rw [if_pos e1, if_neg (by omega)]
      intro h1 h2
      have := hj2.lt b h1
      have := (hj j (by omega)).lt b h2
      omega
    · rw [if_neg e1]
      by_cases e2 : j = k
      · rw [if_pos e2]
        intro h1 h2
        have := hj2.lt b h2
        have := (hj i (by omega)).lt b h1
        omega
      · rw [if_neg e2]
        exact hd i j (by omega) (by omega) hne b
  · have hb3 : Below W.heap.size W w2 := hN.trans (hb2.mono (by omega))
    exact ((((hb3.setCell (by simp) _).setCell (by simp) _).setCell (by simp) _).setCell (by simp) _).setCell (by simp) _
theorem names_len {S : Nat → Prop} {w : World} {v : Value} {ns : List (List UInt8)} (h : TxtsIn S w v ns) : (∀ t ∈ ns, t.length ≤ 9223372036854775807) ∧ ns.length ≤ 9223372036854775807 := by
  obtain ⟨a, cap, b, off, rfl, h1, h2, h3, _⟩ := h
  refine ⟨fun t ht => ?_, by omega⟩
  obtain ⟨i, hi, rfl⟩ := List.getElem_of_mem ht
  have := h3 i hi
  simpa [hi] using this
end Go.Proofs.YtjakkmjipglkiaaDoor.Js
