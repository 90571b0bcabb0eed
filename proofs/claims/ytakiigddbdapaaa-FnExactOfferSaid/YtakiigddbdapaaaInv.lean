
/-
  A region that draws, whose orders join: what holds of 'which operations have come up, the frame, the world' and is led on by each operation that may come up next, holds when operation k has come up. No program is named here.
-/
import Derived.RegionTactic
namespace Go.Proofs.Ytakiigddbdapaaa.Inv
open Go
section
variable {P : Program} {ops : Array Oper} {Q : Exit → Act → World → Prop} {md : Region.Mode}
def leftL : List Bool → Nat
  | [] => 0
  | b :: r => (if b = true then 0 else 1) + leftL r
def left (l : Array Bool) : Nat := leftL l.toList
theorem leftL_set : ∀ (l : List Bool) (i : Nat), l[i]? = some false → leftL (l.set i true) + 1 = leftL l
  | [], i, h => by simp at h
  | b :: r, 0, h => by
    simp at h
    subst h
    simp [leftL]; omega
  | b :: r, i + 1, h => by
    have := leftL_set r i (by simpa using h)
    simp only [List.set_cons_succ, leftL]
    omega
theorem leftL_pos : ∀ (l : List Bool) (i : Nat), l[i]? = some false → 0 < leftL l
  | [], i, h => by simp at h
  | b :: r, 0, h => by simp at h; subst h; simp [leftL]; omega
  | b :: r, i + 1, h => by
    have := leftL_pos r i (by simpa using h)
    simp only [leftL]; omega
theorem leftL_some : ∀ (l : List Bool), 0 < leftL l → ∃ i : Nat, l[i]? = some false ∧ ∀ j, j < i → l[j]? = some true
  | [], h => by simp [leftL] at h
  | false :: r, _ => ⟨0, rfl, fun j hj => by omega⟩
  | true :: r, h => by
    obtain ⟨i, h1, h2⟩ := leftL_some r (by simpa [leftL] using h)
    refine ⟨i + 1, by simpa using h1, fun j hj => ?_⟩
    cases j with
    | zero => rfl
    | succ j => simpa using h2 j (by omega)
theorem at_of {l : Array Bool} {i : Nat} (h : l.getD i true = false) : l.toList[i]? = some false := by
  rw [Array.getD_eq_getD_getElem?] at h
  rw [Array.getElem?_toList]
  cases hh : l[i]? with
  | none => rw [hh] at h; simp at h
  | some b => rw [hh] at h; simp at h; rw [h]
theorem left_set {l : Array Bool} {i : Nat} (h : l.getD i true = false) : left (l.setIfInBounds i true) + 1 = left l := by
  unfold left
  rw [Array.toList_setIfInBounds]
  exact leftL_set _ _ (at_of h)
/-- every edge that binds leads back -/
def back (md : Region.Mode) (ops : Array Oper) : Bool := (List.range ops.size).all fun j => match ops[j]? with | some o => o.after.all fun e => !Region.binds md e || decide (e.on < j) | none => true
theorem ready_some (hb : back md ops = true) {l : Array Bool} (hs : l.size = ops.size) (h : 0 < left l) : Region.ready md ops l ≠ [] := by
  obtain ⟨i, h1, h2⟩ := leftL_some _ h
  have hi : i < ops.size := by
    have := (List.getElem?_eq_some_iff.1 h1).1
    rw [← hs]; simpa using this
  have ho : ops[i]? = some ops[i] := Array.getElem?_eq_getElem hi
  have hb' := List.all_eq_true.1 hb i (List.mem_range.2 hi)
  rw [ho] at hb'
  have hall := Array.all_eq_true_iff_forall_mem.1 hb'
  have hm : i ∈ Region.ready md ops l := by
    refine mem_ready.2 ⟨?_, ops[i], ho, fun e he hbd => ?_⟩
    · rw [Array.getElem?_toList] at h1
      rw [Array.getD_eq_getD_getElem?, h1]; rfl
    · have hlt : e.on < i := by simpa [hbd] using hall e he
      have h3 := h2 e.on hlt
      rw [Array.getElem?_toList] at h3
      rw [Array.getD_eq_getD_getElem?, h3]; rfl
  intro e
  rw [e] at hm
  cases hm
theorem wpAny_inv (I : Array Bool → Act → World → Prop) (k : Nat) (hk : k < ops.size) (hb : back md ops = true) (hsize : ∀ l a w, I l a w → l.size = ops.size)
    (hstep : ∀ l a w, I l a w → l.getD k false = false → ∀ i ∈ Region.ready md ops l, wpOp P ops Q i (I (l.setIfInBounds i true)) a w)
    (hfin : ∀ l a w, I l a w → l.getD k false = true → wpAny P md ops Q (left l) l a w) :
    ∀ (fuel : Nat) (l : Array Bool) (a : Act) (w : World), left l = fuel → I l a w → wpAny P md ops Q fuel l a w := by
  intro fuel
  induction fuel with
  | zero =>
    intro l a w hl hI
    cases hD : l.getD k false with
    | true => have := hfin l a w hI hD; rw [hl] at this; exact this
    | false =>
      have hks : k < l.size := by rw [hsize l a w hI]; exact hk
      have : l.toList[k]? = some false := by
        rw [Array.getElem?_toList, Array.getElem?_eq_getElem hks]
        rw [Array.getD_eq_getD_getElem?, Array.getElem?_eq_getElem hks] at hD
        simpa using hD
      have h2 := leftL_pos _ _ this
      unfold left at hl
      omega
  | succ fuel ih =>
    intro l a w hl hI
    cases hD : l.getD k false with
    | true => have := hfin l a w hI hD; rw [hl] at this; exact this
    | false =>
      refine ⟨fun h0 => absurd h0 (ready_some hb (hsize l a w hI) (by omega)), fun i hi => ?_⟩
      refine wpOp_mono (fun a' w' h' => ih _ a' w' ?_ h') (hstep l a w hI hD i hi)
      have := left_set (mem_ready.1 hi).1
      omega
end
end Go.Proofs.Ytakiigddbdapaaa.Inv
