
/-
  JSON values as plain data, and the plain functions that both sides are held against. No program is named here. Quoted text, plainly. No program is named here. The text of a JSON value, plainly. No program is named here.
-/
import Derived.Below
import Derived.Lib.Strings
import Derived.Lib.ItoaNum
namespace Go.Proofs.YtjakkmjipglkiaaDoor.Js
inductive J where
  | mk (k n : Int) (t : List UInt8) (ns : List (List UInt8)) (xs : List J)
instance : Inhabited J := ⟨.mk 0 0 [] [] []⟩
def J.kind : J → Int | .mk k _ _ _ _ => k
def J.num : J → Int | .mk _ n _ _ _ => n
def J.text : J → List UInt8 | .mk _ _ t _ _ => t
def J.names : J → List (List UInt8) | .mk _ _ _ ns _ => ns
def J.items : J → List J | .mk _ _ _ _ xs => xs
theorem J.ind {P : J → Prop} (h : ∀ k n t ns xs, (∀ x ∈ xs, P x) → P (.mk k n t ns xs)) : ∀ j, P j
  | .mk k n t ns xs => h k n t ns xs fun x _ => J.ind h x
/-- the length of all texts of a list, and their number -/
def szT : List (List UInt8) → Nat
  | [] => 0
  | t :: ts => t.length + szT ts
mutual
def szJ : J → Nat
  | .mk _ _ t ns xs => t.length + (ns.length + szT ns) + (xs.length + szL xs)
def szL : List J → Nat
  | [] => 0
  | x :: xs => szJ x + szL xs
end
mutual
def sameJ : J → J → Bool
  | .mk k n t ns xs, .mk k' n' t' ns' xs' => (k == k') && (n == n') && (t == t') && (ns == ns') && sameL xs xs'
def sameL : List J → List J → Bool
  | [], [] => true
  | x :: xs, y :: ys => sameJ x y && sameL xs ys
  | _, _ => false
end
theorem sameL_len : ∀ {xs ys : List J}, sameL xs ys = true → xs.length = ys.length
  | [], [], _ => rfl
  | x :: xs, y :: ys, h => by
    simp only [sameL, Bool.and_eq_true] at h
    simp [sameL_len h.2]
  | [], _ :: _, h => by simp [sameL] at h
  | _ :: _, [], h => by simp [sameL] at h
theorem sameL_refl : ∀ (xs : List J), (∀ x ∈ xs, sameJ x x = true) → sameL xs xs = true
  | [], _ => rfl
  | x :: xs, h => by simp [sameL, h x (by simp), sameL_refl xs (fun y hy => h y (by simp [hy]))]
theorem sameJ_refl (j : J) : sameJ j j = true := by
  induction j using J.ind with
  | h k n t ns xs ih => simp [sameJ, sameL_refl xs ih]
theorem sameL_eq : ∀ (xs ys : List J), (∀ x ∈ xs, ∀ y, sameJ x y = true → x = y) → sameL xs ys = true → xs = ys
  | [], [], _, _ => rfl
  | x :: xs, y :: ys, h, e => by
    simp only [sameL, Bool.and_eq_true] at e
    rw [h x (by simp) y e.1, sameL_eq xs ys (fun z hz => h z (by simp [hz])) e.2]
  | [], _ :: _, _, h => by simp [sameL] at h
  | _ :: _, [], _, h => by simp [sameL] at h
theorem sameJ_eq (j : J) : ∀ y, sameJ j y = true → j = y := by
  induction j using J.ind with
  | h k n t ns xs ih =>
    intro y h
    obtain ⟨k', n', t', ns', xs'⟩ := y
    simp only [sameJ, Bool.and_eq_true, beq_iff_eq] at h
    obtain ⟨⟨⟨⟨rfl, rfl⟩, rfl⟩, rfl⟩, h⟩ := h
    rw [sameL_eq xs xs' ih h]
theorem sameJ_iff {a b : J} : sameJ a b = true ↔ a = b := ⟨sameJ_eq a b, fun h => h ▸ sameJ_refl a⟩
instance : DecidableEq J := fun _ _ => decidable_of_iff _ sameJ_iff
/-- lists, item by item from the k-th on -/
theorem sameL_drop {xs ys : List J} (k : Nat) (hx : k < xs.length) (hy : k < ys.length) : sameL (xs.drop k) (ys.drop k) = (sameJ xs[k] ys[k] && sameL (xs.drop (k + 1)) (ys.drop (k + 1))) := by
  rw [List.drop_eq_getElem_cons hx, List.drop_eq_getElem_cons hy]; simp [sameL]
theorem szL_drop {xs : List J} (k : Nat) (hx : k < xs.length) : szL (xs.drop k) = szJ xs[k] + szL (xs.drop (k + 1)) := by
  rw [List.drop_eq_getElem_cons hx]; simp [szL]
theorem szT_drop {xs : List (List UInt8)} (k : Nat) (hx : k < xs.length) : szT (xs.drop k) = xs[k].length + szT (xs.drop (k + 1)) := by
  rw [List.drop_eq_getElem_cons hx]; simp [szT]
/-- no text is longer than 120, and none stands there before -/
def namesB : List (List UInt8) → List (List UInt8) → Bool
  | _, [] => true
  | old, t :: ts => (decide (t.length ≤ 120) && !(old.contains t)) && namesB (old ++ [t]) ts
mutual
/-- a value, no deeper than so many within one another -/
def okJ : J → Nat → Bool
  | .mk k n t ns xs, d =>
    if k = 1 then n == 0 && t == [] && ns.isEmpty && xs.isEmpty
    else if k = 2 then decide (0 ≤ n ∧ n ≤ 1) && t == [] && ns.isEmpty && xs.isEmpty
    else if k = 3 then decide (-999999999 ≤ n ∧ n ≤ 999999999) && t == [] && ns.isEmpty && xs.isEmpty
    else if k = 4 then n == 0 && decide (t.length ≤ 120) && ns.isEmpty && xs.isEmpty
    else if k = 5 then n == 0 && t == [] && decide (2 ≤ d) && decide (xs.length ≤ 12) && ns.isEmpty && okL xs (d - 1)
    else if k = 6 then n == 0 && t == [] && decide (2 ≤ d) && decide (xs.length ≤ 12) && (ns.length == xs.length) && namesB [] ns && okL xs (d - 1)
    else false
def okL : List J → Nat → Bool
  | [], _ => true
  | x :: xs, d => okJ x d && okL xs d
end
mutual
/-- what the program builds of a value: the fields of its kind -/
def normJ : J → J
  | .mk k n t ns xs =>
    if k = 1 then .mk 1 0 [] [] []
    else if k = 2 then .mk 2 (if n = 1 then 1 else 0) [] [] []
    else if k = 3 then .mk 3 n [] [] []
    else if k = 4 then .mk 4 0 t [] []
    else if k = 5 then .mk 5 0 [] [] (normL xs)
    else if k = 6 then .mk 6 0 [] ns (normL xs)
    else .mk 0 0 [] [] []
def normL : List J → List J
  | [] => []
  | x :: xs => normJ x :: normL xs
end
mutual
/-- can it be built, so many levels deep -/
def bldJ : J → Nat → Bool
  | .mk k n t ns xs, d =>
    if k = 1 then true
    else if k = 2 then true
    else if k = 3 then decide (-999999999 ≤ n ∧ n ≤ 999999999)
    else if k = 4 then decide (t.length ≤ 120)
    else if k = 5 then decide (2 ≤ d) && decide (xs.length ≤ 12) && bldL xs (d - 1)
    else if k = 6 then decide (2 ≤ d) && decide (xs.length ≤ 12) && bldL xs (d - 1) && (ns.length == xs.length) && namesB [] ns
    else false
def bldL : List J → Nat → Bool
  | [], _ => true
  | x :: xs, d => bldJ x d && bldL xs d
end
theorem normL_length : ∀ xs : List J, (normL xs).length = xs.length
  | [] => rfl
  | x :: xs => by simp [normL, normL_length xs]
theorem normL_map : ∀ xs : List J, normL xs = xs.map normJ
  | [] => rfl
  | x :: xs => by simp [normL, normL_map xs]
theorem okL_split : ∀ (xs : List J) (d : Nat), (∀ x ∈ xs, ∀ d, okJ x d = (bldJ x d && sameJ x (normJ x))) → okL xs d = (bldL xs d && sameL xs (normL xs))
  | [], _, _ => rfl
  | x :: xs, d, h => by
    simp only [okL, bldL, normL, sameL]
    rw [h x (by simp), okL_split xs d (fun y hy => h y (by simp [hy]))]
    cases bldJ x d <;> cases sameJ x (normJ x) <;> cases bldL xs d <;> rfl
theorem sameL_nil (xs : List J) : sameL xs [] = xs.isEmpty := by cases xs <;> rfl
/-- valid is: it can be built, and what is built is the same -/
theorem ok_split (j : J) : ∀ d, okJ j d = (bldJ j d && sameJ j (normJ j)) := by
  induction j using J.ind with
  | h k n t ns xs ih =>
    intro d
    have HL := okL_split xs (d - 1) ih
    unfold okJ bldJ normJ
    by_cases h1 : k = 1
    · subst h1; simp [sameJ, sameL_nil]
    by_cases h2 : k = 2
    · subst h2
      by_cases hn : n = 1
      · subst hn; simp [sameJ, sameL_nil]
      · by_cases h0 : n = 0
        · subst h0; simp [sameJ, sameL_nil]
        · have : ¬ (0 ≤ n ∧ n ≤ 1) := by omega
          simp [sameJ, hn, h0, this]
    by_cases h3 : k = 3
    · subst h3; simp [sameJ, sameL_nil, Bool.and_assoc]
    by_cases h4 : k = 4
    · subst h4
      simp [sameJ, sameL_nil]
      cases (n == 0) <;> simp [Bool.and_assoc]
    by_cases h5 : k = 5
    · subst h5
      simp [sameJ, HL]
      cases (n == 0) <;> cases t.isEmpty <;> cases ns.isEmpty <;> cases decide (2 ≤ d) <;> cases decide (xs.length ≤ 12) <;> cases bldL xs (d - 1) <;> simp
    by_cases h6 : k = 6
    · subst h6
      simp [sameJ, HL]
      cases (n == 0) <;> cases t.isEmpty <;> cases (ns.length == xs.length) <;> cases decide (2 ≤ d) <;> cases decide (xs.length ≤ 12) <;> cases bldL xs (d - 1) <;> cases namesB [] ns <;> simp
    · simp [h1, h2, h3, h4, h5, h6]
/-- both sides' SameJson: valid and equal -/
def sameV (a b : J) : Bool := okJ a 5 && okJ b 5 && sameJ a b
theorem sameV_first (a b : J) : sameV a b = (okJ a 5 && sameJ a b) := by
  unfold sameV
  cases h : sameJ a b
  · simp
  · obtain rfl := sameJ_eq a b h; cases okJ a 5 <;> rfl
end Go.Proofs.YtjakkmjipglkiaaDoor.Js
namespace Go.Proofs.YtjakkmjipglkiaaDoor.Bl
def hexd (n : Nat) : UInt8 := if n < 10 then UInt8.ofNat (48 + n) else UInt8.ofNat (87 + n)
def plainQ (x : UInt8) : Bool := decide (32 ≤ x.toNat ∧ x.toNat ≤ 126)
def markQ (x : UInt8) : Bool := decide (x.toNat = 34 ∨ x.toNat = 92)
def quoteC (x : UInt8) : List UInt8 := if markQ x then [92, x] else if plainQ x then [x] else [92, 117, 48, 48, hexd (x.toNat / 16), hexd (x.toNat % 16)]
def quoteTo (l : List UInt8) : List UInt8 := 34 :: l.flatMap quoteC
def quoteL (l : List UInt8) : List UInt8 := quoteTo l ++ [34]
theorem quoteC_le (x : UInt8) : (quoteC x).length ≤ 6 := by unfold quoteC; split; simp; split <;> simp
theorem quote_le : ∀ (l : List UInt8), (quoteTo l).length ≤ 6 * l.length + 1
  | [] => by simp [quoteTo]
  | x :: l => by
    have := quote_le l
    have := quoteC_le x
    simp [quoteTo] at *
    omega
theorem quote_take (l : List UInt8) (k : Nat) (x : UInt8) (h : k < l.length) (hx : l[k] = x) : quoteTo (l.take (k + 1)) = quoteTo (l.take k) ++ quoteC x := by
  rw [List.take_succ_eq_append_getElem h, hx]; simp [quoteTo]
theorem q_mark {x : UInt8} (h : x.toNat = 34 ∨ x.toNat = 92) : quoteC x = [92, x] := by simp [quoteC, markQ, h]
theorem q_plain {x : UInt8} (h : ¬ (x.toNat = 34 ∨ x.toNat = 92)) (h2 : 32 ≤ x.toNat ∧ x.toNat ≤ 126) : quoteC x = [x] := by
  have : markQ x = false := by simp [markQ]; omega
  have e : plainQ x = true := by simp [plainQ, h2]
  simp [quoteC, this, e]
theorem q_hex {x : UInt8} (h2 : ¬ (32 ≤ x.toNat ∧ x.toNat ≤ 126)) : quoteC x = [92, 117, 48, 48, hexd (x.toNat / 16), hexd (x.toNat % 16)] := by
  have : markQ x = false := by simp [markQ]; omega
  have e : plainQ x = false := by simp [plainQ]; omega
  simp [quoteC, this, e]
def hexS : List UInt8 := [48, 49, 50, 51, 52, 53, 54, 55, 56, 57, 97, 98, 99, 100, 101, 102]
theorem hex_at (n : Nat) (h : n < 16) : ∀ h' : n < (⟨#[48, 49, 50, 51, 52, 53, 54, 55, 56, 57, 97, 98, 99, 100, 101, 102]⟩ : ByteArray).size, (⟨#[48, 49, 50, 51, 52, 53, 54, 55, 56, 57, 97, 98, 99, 100, 101, 102]⟩ : ByteArray)[n] = hexd n := by
  intro h'
  have : ∀ m : Fin 16, (⟨#[48, 49, 50, 51, 52, 53, 54, 55, 56, 57, 97, 98, 99, 100, 101, 102]⟩ : ByteArray)[m.val]'(by exact m.2) = hexd m.val := by decide
  exact this ⟨n, h⟩
end Go.Proofs.YtjakkmjipglkiaaDoor.Bl
namespace Go.Proofs.YtjakkmjipglkiaaDoor.Js
open Go.Proofs.YtjakkmjipglkiaaDoor.Bl (quoteL quoteTo quote_le)
mutual
def textJ : J → List UInt8
  | .mk k n t ns xs =>
    if k = 1 then [110, 117, 108, 108]
    else if k = 2 then (if n = 1 then [116, 114, 117, 101] else [102, 97, 108, 115, 101])
    else if k = 3 then Lib.itoa n
    else if k = 4 then quoteL t
    else if k = 5 then 91 :: (textL false true ns xs ++ [93])
    else 123 :: (textL true true ns xs ++ [125])
/-- the items, each with its name; a comma ahead of each but the first -/
def textL (obj : Bool) : Bool → List (List UInt8) → List J → List UInt8
  | _, _, [] => []
  | first, ns, x :: xs => (if first then [] else [44]) ++ ((if obj then quoteL (ns.headD []) ++ [58] else []) ++ textJ x) ++ textL obj false ns.tail xs
end
/-- from the k-th item on -/
def restL (obj : Bool) (ns : List (List UInt8)) (xs : List J) (k : Nat) : List UInt8 := textL obj (k == 0) (ns.drop k) (xs.drop k)
def commaL (k : Nat) : List UInt8 := if k = 0 then [] else [44]
def nameL (obj : Bool) (t : List UInt8) : List UInt8 := if obj then quoteL t ++ [58] else []
theorem restL_zero (obj : Bool) (ns : List (List UInt8)) (xs : List J) : restL obj ns xs 0 = textL obj true ns xs := by simp [restL]
theorem restL_end (obj : Bool) (ns : List (List UInt8)) (xs : List J) : restL obj ns xs xs.length = [] := by simp [restL, textL]
theorem restL_step (obj : Bool) (ns : List (List UInt8)) (xs : List J) (k : Nat) (h : k < xs.length) : restL obj ns xs k = commaL k ++ (nameL obj (ns.getD k []) ++ textJ (xs.getD k default)) ++ restL obj ns xs (k + 1) := by
  have e : (ns.drop k).headD [] = ns.getD k [] := by
    rw [List.headD_eq_head?_getD, List.head?_drop]; simp [List.getD]
  unfold restL
  rw [List.drop_eq_getElem_cons h]
  simp only [textL, e, List.tail_drop]
  have e1 : (k + 1 == 0) = false := by simp
  rw [e1]
  congr 1
  congr 1
  · unfold commaL
    by_cases h0 : k = 0
    · simp [h0]
    · simp [h0]
  · unfold nameL
    simp [h]
/-- with the commas read off the place -/
theorem text5 (n : Int) (t : List UInt8) (ns : List (List UInt8)) (xs : List J) : textJ (.mk 5 n t ns xs) = 91 :: (restL false ns xs 0 ++ [93]) := by
  rw [restL_zero]; simp [textJ]
theorem text6 (n : Int) (t : List UInt8) (ns : List (List UInt8)) (xs : List J) : textJ (.mk 6 n t ns xs) = 123 :: (restL true ns xs 0 ++ [125]) := by
  rw [restL_zero]; simp [textJ]
theorem dec_le : ∀ (k n : Nat), n < 10 ^ (k + 1) → (Lib.decDigits n).length ≤ k + 1
  | 0, n, h => by
    rw [Lib.decDigits, dif_pos (by simpa using h)]; simp
  | k + 1, n, h => by
    by_cases h10 : n < 10
    · rw [Lib.decDigits, dif_pos h10]; simp
    · rw [Lib.decDigits, dif_neg h10]
      have := dec_le k (n / 10) (by rw [Nat.pow_succ] at h; omega)
      simp; omega
theorem intL_le (n : Int) (h1 : -999999999 ≤ n) (h2 : n ≤ 999999999) : (Lib.itoa n).length ≤ 10 := by
  have := dec_le 8 n.natAbs (by omega)
  have e := dec_le 8 n.toNat (by omega)
  unfold Lib.itoa
  split <;> simp <;> omega
theorem quoteL_le (l : List UInt8) : (quoteL l).length ≤ 6 * l.length + 2 := by
  have := quote_le l
  simp [quoteL]; omega
theorem namesB_le : ∀ (ns old : List (List UInt8)), namesB old ns = true → ∀ t ∈ ns, t.length ≤ 120
  | [], _, _, _, h => by cases h
  | u :: us, old, hb, t, h => by
    simp only [namesB, Bool.and_eq_true, decide_eq_true_eq] at hb
    rcases List.mem_cons.1 h with rfl | h
    · exact hb.1.1
    · exact namesB_le us _ hb.2 t h
theorem okL_mem : ∀ (xs : List J) (d : Nat), okL xs d = true → ∀ x ∈ xs, okJ x d = true
  | [], _, _, _, h => by cases h
  | y :: ys, d, hb, x, h => by
    simp only [okL, Bool.and_eq_true] at hb
    rcases List.mem_cons.1 h with rfl | h
    · exact hb.1
    · exact okL_mem ys d hb.2 x h
/-- what a valid value is, kind by kind -/
theorem ok_kinds {k n : Int} {t : List UInt8} {ns : List (List UInt8)} {xs : List J} {d : Nat} (h : okJ (.mk k n t ns xs) d = true) :
    (k = 1) ∨ (k = 2 ∧ 0 ≤ n ∧ n ≤ 1) ∨ (k = 3 ∧ -999999999 ≤ n ∧ n ≤ 999999999) ∨ (k = 4 ∧ t.length ≤ 120) ∨ (k = 5 ∧ xs.length ≤ 12 ∧ okL xs (d - 1) = true) ∨
      (k = 6 ∧ xs.length ≤ 12 ∧ ns.length = xs.length ∧ namesB [] ns = true ∧ okL xs (d - 1) = true) := by
  unfold okJ at h
  by_cases h1 : k = 1
  · exact .inl h1
  by_cases h2 : k = 2
  · subst h2; simp at h; exact .inr (.inl ⟨rfl, h.1.1.1⟩)
  by_cases h3 : k = 3
  · subst h3; simp at h; exact .inr (.inr (.inl ⟨rfl, h.1.1.1⟩))
  by_cases h4 : k = 4
  · subst h4; simp at h; exact .inr (.inr (.inr (.inl ⟨rfl, h.1.1.2⟩)))
  by_cases h5 : k = 5
  · subst h5; simp at h; exact .inr (.inr (.inr (.inr (.inl ⟨rfl, h.1.1.2, h.2⟩))))
  by_cases h6 : k = 6
  · subst h6; simp at h; exact .inr (.inr (.inr (.inr (.inr ⟨rfl, h.1.1.1.2, h.1.1.2, h.1.2, h.2⟩))))
  · simp [h1, h2, h3, h4, h5, h6] at h
/-- how long the text of a list or an object is, whose values have short texts -/
theorem textL_le (obj : Bool) (m : Nat) : ∀ (xs : List J) (b : Bool) (ns : List (List UInt8)), (∀ x ∈ xs, (textJ x).length ≤ m) → (∀ t ∈ ns, t.length ≤ 120) → (textL obj b ns xs).length ≤ xs.length * (m + 724)
  | [], _, _, _, _ => by simp [textL]
  | x :: xs, b, ns, hx, hn => by
    have h1 := hx x (by simp)
    have h2 := textL_le obj m xs false ns.tail (fun y hy => hx y (by simp [hy])) (fun t ht => hn t (List.mem_of_mem_tail ht))
    have h3 : (if b then [] else [44] : List UInt8).length ≤ 1 := by split <;> simp
    have h4 : (if obj then quoteL (ns.headD []) ++ [58] else []).length ≤ 723 := by
      split
      · have h5 := quoteL_le (ns.headD [])
        have h6 : (ns.headD []).length ≤ 120 := by
          cases ns with
          | nil => simp
          | cons t ts => exact hn t (by simp)
        simp only [List.length_append, List.length_cons, List.length_nil]; omega
      · simp
    simp only [textL, List.length_append, List.length_cons, Nat.succ_mul]
    omega
/-- how long the text of a valid value is, d levels deep -/
def longest : Nat → Nat
  | 0 => 800
  | d + 1 => 12 * (longest d + 724) + 2
theorem longest_ge : ∀ d, 800 ≤ longest d
  | 0 => Nat.le_refl _
  | d + 1 => by have := longest_ge d; simp only [longest]; omega
theorem longest_mono (d : Nat) : longest d ≤ longest (d + 1) := by simp only [longest]; omega
theorem textJ_le (j : J) : ∀ d, okJ j d = true → (textJ j).length ≤ longest d := by
  induction j using J.ind with
  | h k n t ns xs ih =>
    intro d h
    have hg := longest_ge d
    have deep : ∀ ns' : List (List UInt8), (∀ t ∈ ns', t.length ≤ 120) → 2 ≤ d → xs.length ≤ 12 → okL xs (d - 1) = true → ∀ obj, (textL obj true ns' xs).length + 2 ≤ longest d := fun ns' hns hd hx hok obj => by
      have h1 := textL_le obj (longest (d - 1)) xs true ns' (fun x hx => ih x hx _ (okL_mem xs _ hok x hx)) hns
      have h2 : xs.length * (longest (d - 1) + 724) ≤ 12 * (longest (d - 1) + 724) := Nat.mul_le_mul_right _ hx
      have h3 : longest d = 12 * (longest (d - 1) + 724) + 2 := by
        obtain ⟨e, rfl⟩ : ∃ e, d = e + 1 := ⟨d - 1, by omega⟩
        rfl
      omega
    rcases ok_kinds h with rfl | ⟨rfl, _, _⟩ | ⟨rfl, h1, h2⟩ | ⟨rfl, h1⟩ | ⟨rfl, h1, h2⟩ | ⟨rfl, h1, h2, h3, h4⟩
    · simp [textJ]; omega
    · simp [textJ]; split <;> simp <;> omega
    · have := intL_le n h1 h2
      simp [textJ]; omega
    · have := quoteL_le t
      simp [textJ]; omega
    · have hd : 2 ≤ d := by unfold okJ at h; simp at h; omega
      have e : ns = [] := by unfold okJ at h; simp at h; exact h.1.2
      subst e
      have := deep [] (by simp) hd h1 h2 false
      simp [textJ]; omega
    · have hd : 2 ≤ d := by unfold okJ at h; simp at h; omega
      have := deep ns (namesB_le ns [] h3) hd h1 h4 true
      simp [textJ]; omega
theorem longest_le (d : Nat) (h : d ≤ 5) : longest d ≤ 395642090 := by
  have h5 : longest 5 ≤ 395642090 := by decide
  have : ∀ k, longest (5 - k) ≤ longest 5 := fun k => by
    induction k with
    | zero => exact Nat.le_refl _
    | succ k ih =>
      by_cases hk : k < 5
      · have := longest_mono (5 - (k + 1))
        rw [show 5 - (k + 1) + 1 = 5 - k by omega] at this
        omega
      · rw [show 5 - (k + 1) = 5 - k by omega]; exact ih
  have := this (5 - d)
  rw [show 5 - (5 - d) = d by omega] at this
  omega
end Go.Proofs.YtjakkmjipglkiaaDoor.Js
