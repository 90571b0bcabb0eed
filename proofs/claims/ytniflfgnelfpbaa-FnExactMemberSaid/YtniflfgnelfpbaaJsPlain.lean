
/-
  JSON values as plain data, and the plain functions that both sides are held against. No program is named here.
-/
import Derived.Below
namespace Go.Proofs.Ytniflfgnelfpbaa.Js
inductive J where
  | mk (k n : Int) (t : List UInt8) (ns : List (List UInt8)) (xs : List J)
instance : Inhabited J := ⟨.mk 0 0 [] [] []⟩
def J.kind : J → Int | .mk k _ _ _ _ => k
def J.num : J → Int | .mk _ n _ _ _ => n
def J.text : J → List UInt8 | .mk _ _ t _ _ => t
def J.names : J → List (List UInt8) | .mk _ _ _ ns _ => ns
def J.items : J → List J | .mk _ _ _ _ xs => xs
theorem J.ind {P : J → Prop} (h : ∀ k n t ns xs, (∀ x ∈ xs, P x) → P (.mk k n t ns xs)) : ∀ j, P j
  | .mk k n t ns xs => h k n t ns xs fun x _ => J.ind h x
/-- the length of all texts of a list, and their number -/
def szT : List (List UInt8) → Nat
  | [] => 0
  | t :: ts => t.length + szT ts
mutual
def szJ : J → Nat
  | .mk _ _ t ns xs => t.length + (ns.length + szT ns) + (xs.length + szL xs)
def szL : List J → Nat
  | [] => 0
  | x :: xs => szJ x + szL xs
end
mutual
def sameJ : J → J → Bool
  | .mk k n t ns xs, .mk k' n' t' ns' xs' => (k == k') && (n == n') && (t == t') && (ns == ns') && sameL xs xs'
def sameL : List J → List J → Bool
  | [], [] => true
  | x :: xs, y :: ys => sameJ x y && sameL xs ys
  | _, _ => false
end
theorem sameL_len : ∀ {xs ys : List J}, sameL xs ys = true → xs.length = ys.length
  | [], [], _ => rfl
  | x :: xs, y :: ys, h => by
    simp only [sameL, Bool.and_eq_true] at h
    simp [sameL_len h.2]
  | [], _ :: _, h => by simp [sameL] at h
  | _ :: _, [], h => by simp [sameL] at h
theorem sameL_refl : ∀ (xs : List J), (∀ x ∈ xs, sameJ x x = true) → sameL xs xs = true
  | [], _ => rfl
  | x :: xs, h => by simp [sameL, h x (by simp), sameL_refl xs (fun y hy => h y (by simp [hy]))]
theorem sameJ_refl (j : J) : sameJ j j = true := by
  induction j using J.ind with
  | h k n t ns xs ih => simp [sameJ, sameL_refl xs ih]
theorem sameL_eq : ∀ (xs ys : List J), (∀ x ∈ xs, ∀ y, sameJ x y = true → x = y) → sameL xs ys = true → xs = ys
  | [], [], _, _ => rfl
  | x :: xs, y :: ys, h, e => by
    simp only [sameL, Bool.and_eq_true] at e
    rw [h x (by simp) y e.1, sameL_eq xs ys (fun z hz => h z (by simp [hz])) e.2]
  | [], _ :: _, _, h => by simp [sameL] at h
  | _ :: _, [], _, h => by simp [sameL] at h
theorem sameJ_eq (j : J) : ∀ y, sameJ j y = true → j = y := by
  induction j using J.ind with
  | h k n t ns xs ih =>
    intro y h
    obtain ⟨k', n', t', ns', xs'⟩ := y
    simp only [sameJ, Bool.and_eq_true, beq_iff_eq] at h
    obtain ⟨⟨⟨⟨rfl, rfl⟩, rfl⟩, rfl⟩, h⟩ := h
    rw [sameL_eq xs xs' ih h]
theorem sameJ_iff {a b : J} : sameJ a b = true ↔ a = b := ⟨sameJ_eq a b, fun h => h ▸ sameJ_refl a⟩
instance : DecidableEq J := fun _ _ => decidable_of_iff _ sameJ_iff
/-- lists, item by item from the k-th on -/
theorem sameL_drop {xs ys : List J} (k : Nat) (hx : k < xs.length) (hy : k < ys.length) : sameL (xs.drop k) (ys.drop k) = (sameJ xs[k] ys[k] && sameL (xs.drop (k + 1)) (ys.drop (k + 1))) := by
  rw [List.drop_eq_getElem_cons hx, List.drop_eq_getElem_cons hy]; simp [sameL]
theorem szL_drop {xs : List J} (k : Nat) (hx : k < xs.length) : szL (xs.drop k) = szJ xs[k] + szL (xs.drop (k + 1)) := by
  rw [List.drop_eq_getElem_cons hx]; simp [szL]
theorem szT_drop {xs : List (List UInt8)} (k : Nat) (hx : k < xs.length) : szT (xs.drop k) = xs[k].length + szT (xs.drop (k + 1)) := by
  rw [List.drop_eq_getElem_cons hx]; simp [szT]
/-- no text is longer than 120, and none stands there before -/
def namesB : List (List UInt8) → List (List UInt8) → Bool
  | _, [] => true
  | old, t :: ts => (decide (t.length ≤ 120) && !(old.contains t)) && namesB (old ++ [t]) ts
mutual
/-- a value, no deeper than so many within one another -/
def okJ : J → Nat → Bool
  | .mk k n t ns xs, d =>
    if k = 1 then n == 0 && t == [] && ns.isEmpty && xs.isEmpty
    else if k = 2 then decide (0 ≤ n ∧ n ≤ 1) && t == [] && ns.isEmpty && xs.isEmpty
    else if k = 3 then decide (-999999999 ≤ n ∧ n ≤ 999999999) && t == [] && ns.isEmpty && xs.isEmpty
    else if k = 4 then n == 0 && decide (t.length ≤ 120) && ns.isEmpty && xs.isEmpty
    else if k = 5 then n == 0 && t == [] && decide (2 ≤ d) && decide (xs.length ≤ 12) && ns.isEmpty && okL xs (d - 1)
    else if k = 6 then n == 0 && t == [] && decide (2 ≤ d) && decide (xs.length ≤ 12) && (ns.length == xs.length) && namesB [] ns && okL xs (d - 1)
    else false
def okL : List J → Nat → Bool
  | [], _ => true
  | x :: xs, d => okJ x d && okL xs d
end
mutual
/-- what the program builds of a value: the fields of its kind -/
def normJ : J → J
  | .mk k n t ns xs =>
    if k = 1 then .mk 1 0 [] [] []
    else if k = 2 then .mk 2 (if n = 1 then 1 else 0) [] [] []
    else if k = 3 then .mk 3 n [] [] []
    else if k = 4 then .mk 4 0 t [] []
    else if k = 5 then .mk 5 0 [] [] (normL xs)
    else if k = 6 then .mk 6 0 [] ns (normL xs)
    else .mk 0 0 [] [] []
def normL : List J → List J
  | [] => []
  | x :: xs => normJ x :: normL xs
end
mutual
/-- can it be built, so many levels deep -/
def bldJ : J → Nat → Bool
  | .mk k n t ns xs, d =>
    if k = 1 then true
    else if k = 2 then true
    else if k = 3 then decide (-999999999 ≤ n ∧ n ≤ 999999999)
    else if k = 4 then decide (t.length ≤ 120)
    else if k = 5 then decide (2 ≤ d) && decide (xs.length ≤ 12) && bldL xs (d - 1)
    else if k = 6 then decide (2 ≤ d) && decide (xs.length ≤ 12) && bldL xs (d - 1) && (ns.length == xs.length) && namesB [] ns
    else false
def bldL : List J → Nat → Bool
  | [], _ => true
  | x :: xs, d => bldJ x d && bldL xs d
end
theorem normL_length : ∀ xs : List J, (normL xs).length = xs.length
  | [] => rfl
  | x :: xs => by simp [normL, normL_length xs]
theorem normL_map : ∀ xs : List J, normL xs = xs.map normJ
  | [] => rfl
  | x :: xs => by simp [normL, normL_map xs]
theorem okL_split : ∀ (xs : List J) (d : Nat), (∀ x ∈ xs, ∀ d, okJ x d = (bldJ x d && sameJ x (normJ x))) → okL xs d = (bldL xs d && sameL xs (normL xs))
  | [], _, _ => rfl
  | x :: xs, d, h => by
    simp only [okL, bldL, normL, sameL]
    rw [h x (by simp), okL_split xs d (fun y hy => h y (by simp [hy]))]
    cases bldJ x d <;> cases sameJ x (normJ x) <;> cases bldL xs d <;> rfl
theorem sameL_nil (xs : List J) : sameL xs [] = xs.isEmpty := by cases xs <;> rfl
/-- valid is: it can be built, and what is built is the same -/
theorem ok_split (j : J) : ∀ d, okJ j d = (bldJ j d && sameJ j (normJ j)) := by
  induction j using J.ind with
  | h k n t ns xs ih =>
    intro d
    have HL := okL_split xs (d - 1) ih
    unfold okJ bldJ normJ
    by_cases h1 : k = 1
    · subst h1; simp [sameJ, sameL_nil]
    by_cases h2 : k = 2
    · subst h2
      by_cases hn : n = 1
      · subst hn; simp [sameJ, sameL_nil]
      · by_cases h0 : n = 0
        · subst h0; simp [sameJ, sameL_nil]
        · have : ¬ (0 ≤ n ∧ n ≤ 1) := by omega
          simp [sameJ, hn, h0, this]
    by_cases h3 : k = 3
    · subst h3; simp [sameJ, sameL_nil, Bool.and_assoc]
    by_cases h4 : k = 4
    · subst h4
      simp [sameJ, sameL_nil]
      cases (n == 0) <;> simp [Bool.and_assoc]
    by_cases h5 : k = 5
    · subst h5
      simp [sameJ, HL]
      cases (n == 0) <;> cases t.isEmpty <;> cases ns.isEmpty <;> cases decide (2 ≤ d) <;> cases decide (xs.length ≤ 12) <;> cases bldL xs (d - 1) <;> simp
    by_cases h6 : k = 6
    · subst h6
      simp [sameJ, HL]
      cases (n == 0) <;> cases t.isEmpty <;> cases (ns.length == xs.length) <;> cases decide (2 ≤ d) <;> cases decide (xs.length ≤ 12) <;> cases bldL xs (d - 1) <;> cases namesB [] ns <;> simp
    · simp [h1, h2, h3, h4, h5, h6]
/-- both sides' SameJson: valid and equal -/
def sameV (a b : J) : Bool := okJ a 5 && okJ b 5 && sameJ a b
theorem sameV_first (a b : J) : sameV a b = (okJ a 5 && sameJ a b) := by
  unfold sameV
  cases h : sameJ a b
  · simp
  · obtain rfl := sameJ_eq a b h; cases okJ a 5 <;> rfl
end Go.Proofs.Ytniflfgnelfpbaa.Js
