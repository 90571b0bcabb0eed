
/-
  Reading a JSON value out of a text, plainly: what both sides' readers are held against. No program is named here.
-/
import Derived.Test.YtjakkmjipglkiaaDoorJsPlain
import Derived.Test.YtjakkmjipglkiaaDoorUrlPlain
import Derived.Lib.SlTrimSet
import Derived.Lib.Strings
namespace Go.Proofs.YtjakkmjipglkiaaDoor.Rd
open Go.Proofs.YtjakkmjipglkiaaDoor.Js (J okJ okL namesB szJ szL szT)
open Go.Proofs.YtjakkmjipglkiaaDoor.Ul (numV numB)
abbrev B := List UInt8
/-- without the whitespace ahead -/
def trim (bs : B) : B := Lib.trimLeftS bs [32, 9, 10, 13]
def wsB (c : UInt8) : Bool := [32, 9, 10, 13].contains c
theorem trim_nil : trim [] = [] := rfl
theorem trim_cons (c : UInt8) (bs : B) : trim (c :: bs) = if wsB c then trim bs else c :: bs := by
  unfold trim Lib.trimLeftS wsB
  rw [List.dropWhile_cons]
theorem dropWhile_twice (p : UInt8 → Bool) : ∀ bs : B, (bs.dropWhile p).dropWhile p = bs.dropWhile p
  | [] => rfl
  | c :: bs => by
    by_cases h : p c = true
    · simp [h, dropWhile_twice p bs]
    · simp [h]
theorem trim_trim (bs : B) : trim (trim bs) = trim bs := dropWhile_twice _ bs
theorem dropWhile_len (p : UInt8 → Bool) : ∀ bs : B, (bs.dropWhile p).length ≤ bs.length
  | [] => Nat.le_refl _
  | c :: bs => by
    have := dropWhile_len p bs
    by_cases h : p c = true
    · simp [h]; omega
    · simp [h]
theorem trim_len (bs : B) : (trim bs).length ≤ bs.length := dropWhile_len _ bs
def hexV (c : UInt8) : Option Nat := if 48 ≤ c.toNat ∧ c.toNat ≤ 57 then some (c.toNat - 48) else if 97 ≤ c.toNat ∧ c.toNat ≤ 102 then some (c.toNat - 87) else if 65 ≤ c.toNat ∧ c.toNat ≤ 70 then some (c.toNat - 55) else none
theorem hexV_lt {c : UInt8} {n : Nat} (h : hexV c = some n) : n < 16 := by
  unfold hexV at h
  split at h
  · simp at h; omega
  split at h
  · simp at h; omega
  split at h
  · simp at h; omega
  · cases h
def escL : B := [34, 92, 47, 98, 102, 110, 114, 116]
def escV : B := [34, 92, 47, 8, 12, 10, 13, 9]
def escI (c : UInt8) : Nat := escL.findIdx (· == c)
/-- two digits behind u00 -/
def hexR (bs : B) : Option (UInt8 × B) :=
  if Lib.hasPrefix bs [48, 48] && decide (4 ≤ bs.length) then
    match hexV (bs.getD 2 0), hexV (bs.getD 3 0) with
    | some x, some y => some (UInt8.ofNat (16 * x + y), bs.drop 4)
    | _, _ => none
  else none
/-- what stands behind a backslash: a byte, and the rest -/
def escR : B → Option (UInt8 × B)
  | [] => none
  | c :: bs => if escI c < 8 then some (escV.getD (escI c) 0, bs) else if c = 117 then hexR bs else none
theorem hexR_len {bs r : B} {x : UInt8} (h : hexR bs = some (x, r)) : r.length + 4 = bs.length := by
  unfold hexR at h
  split at h
  · rename_i h1
    simp only [Bool.and_eq_true, decide_eq_true_eq] at h1
    split at h
    · simp only [Option.some.injEq, Prod.mk.injEq] at h
      rw [← h.2]; simp; omega
    · cases h
  · cases h
theorem escR_len {bs r : B} {x : UInt8} (h : escR bs = some (x, r)) : r.length < bs.length := by
  cases bs with
  | nil => cases h
  | cons c bs =>
    simp only [escR] at h
    split at h
    · simp only [Option.some.injEq, Prod.mk.injEq] at h
      rw [← h.2]; simp
    · split at h
      · have := hexR_len h; simp; omega
      · cases h
set_option linter.unusedVariables false in
/-- the rest of a text whose first quote is read: the code, the text, what is left -/
def strR (bs out : B) : Int × B × B :=
  match bs with
  | [] => (3, [], [])
  | c :: r =>
    if c = 34 then (if 120 < out.length then (8, [], r) else (0, out, r))
    else if c = 92 then
      match h : escR r with
      | none => (3, [], r)
      | some (x, r') => strR r' (out ++ [x])
    else if 32 ≤ c.toNat ∧ c.toNat ≤ 126 then strR r (out ++ [c]) else (3, [], r)
termination_by bs.length
decreasing_by
  · have := escR_len h; simp; omega
  · simp
theorem strR_nil (out : B) : strR [] out = (3, [], []) := by rw [strR]
theorem strR_quote (r out : B) : strR (34 :: r) out = if 120 < out.length then (8, [], r) else (0, out, r) := by rw [strR]; simp
theorem strR_bad {r : B} (out : B) (h : escR r = none) : strR (92 :: r) out = (3, [], r) := by
  rw [strR]; simp only [show (92 : UInt8) ≠ 34 by decide, if_false, if_true]
  split
  · rfl
  · rename_i h2; rw [h] at h2; cases h2
theorem strR_esc {r r' : B} {x : UInt8} (out : B) (h : escR r = some (x, r')) : strR (92 :: r) out = strR r' (out ++ [x]) := by
  rw [strR]; simp only [show (92 : UInt8) ≠ 34 by decide, if_false, if_true]
  split
  · rename_i h2; rw [h] at h2; cases h2
  · rename_i h2; rw [h] at h2; simp only [Option.some.injEq, Prod.mk.injEq] at h2; rw [h2.1, h2.2]
theorem strR_plain {c : UInt8} (r out : B) (h1 : c ≠ 34) (h2 : c ≠ 92) (h : 32 ≤ c.toNat ∧ c.toNat ≤ 126) : strR (c :: r) out = strR r (out ++ [c]) := by
  rw [strR]; simp [h1, h2, h]
theorem strR_other {c : UInt8} (r out : B) (h1 : c ≠ 34) (h2 : c ≠ 92) (h : ¬ (32 ≤ c.toNat ∧ c.toNat ≤ 126)) : strR (c :: r) out = (3, [], r) := by
  rw [strR]; simp only [h1, h2, if_false]; rw [if_neg h]
/-- with each byte read the text gets longer by at most one; what is left gets shorter -/
theorem strR_all (n : Nat) : ∀ (bs out : B), bs.length ≤ n → (strR bs out).2.2.length ≤ bs.length ∧ ((strR bs out).1 = 0 → (strR bs out).2.1.length ≤ 120 ∧ (strR bs out).2.2.length < bs.length) ∧ ((strR bs out).1 = 0 ∨ (strR bs out).1 = 3 ∨ (strR bs out).1 = 8) := by
  induction n with
  | zero =>
    intro bs out h
    have : bs = [] := List.eq_nil_of_length_eq_zero (by omega)
    subst this
    rw [strR_nil]; simp
  | succ n ih =>
    intro bs out h
    cases bs with
    | nil => rw [strR_nil]; simp
    | cons c r =>
      by_cases h1 : c = 34
      · subst h1
        rw [strR_quote]
        split
        · simp
        · simp; omega
      by_cases h2 : c = 92
      · subst h2
        cases he : escR r with
        | none => rw [strR_bad out he]; simp
        | some p =>
          obtain ⟨x, r'⟩ := p
          rw [strR_esc out he]
          have := escR_len he
          obtain ⟨a, b, c⟩ := ih r' (out ++ [x]) (by simp at h; omega)
          refine ⟨by simp; omega, fun hz => ⟨(b hz).1, by have := (b hz).2; simp; omega⟩, c⟩
      by_cases h3 : 32 ≤ c.toNat ∧ c.toNat ≤ 126
      · rw [strR_plain r out h1 h2 h3]
        obtain ⟨a, b, c⟩ := ih r (out ++ [c]) (by simp at h; omega)
        refine ⟨by simp; omega, fun hz => ⟨(b hz).1, by have := (b hz).2; simp; omega⟩, c⟩
      · rw [strR_other r out h1 h2 h3]; simp
theorem strR_len (bs out : B) : (strR bs out).2.2.length ≤ bs.length := (strR_all _ bs out (Nat.le_refl _)).1
theorem strR_short {bs out : B} (h : (strR bs out).1 = 0) : (strR bs out).2.1.length ≤ 120 := ((strR_all _ bs out (Nat.le_refl _)).2.1 h).1
/-! ### numbers -/
def digS : B := [48, 49, 50, 51, 52, 53, 54, 55, 56, 57]
def behindN (bs : B) : B := Lib.trimLeftS (Lib.trimPrefix bs [45]) digS
def numT (bs : B) : B := bs.take (bs.length - (behindN bs).length)
def rangeB (n : Int) : Bool := decide (-999999999 ≤ n ∧ n ≤ 999999999)
def numR (bs : B) : Int × Int × B := if numB (numT bs) then (if rangeB (numV (numT bs)) then (0, numV (numT bs), behindN bs) else (4, 0, behindN bs)) else (3, 0, behindN bs)
theorem behindN_len (bs : B) : (behindN bs).length ≤ bs.length := by
  unfold behindN
  refine Nat.le_trans (dropWhile_len _ _) ?_
  unfold Lib.trimPrefix
  split
  · simp
  · exact Nat.le_refl _
/-! ### values -/
def nullT : B := [110, 117, 108, 108]
def falseT : B := [102, 97, 108, 115, 101]
def trueT : B := [116, 114, 117, 101]
/-- a name and the colon behind it -/
def nameR (ns : List B) (bs : B) : Int × B × B :=
  if Lib.hasPrefix (trim bs) [34] then
    if (strR (trim bs).tail []).1 = 0 then
      if ns.contains (strR (trim bs).tail []).2.1 then (13, [], [])
      else if Lib.hasPrefix (trim (strR (trim bs).tail []).2.2) [58] then (0, (strR (trim bs).tail []).2.1, (trim (strR (trim bs).tail []).2.2).tail) else (3, [], [])
    else ((strR (trim bs).tail []).1, [], [])
  else (3, [], [])
/-- one item, with its name -/
def itemR (rd : B → Int × J × B) (obj : Bool) (ns : List B) (bs : B) : Int × B × J × B :=
  if obj then
    if (nameR ns bs).1 = 0 then ((rd (nameR ns bs).2.2).1, (nameR ns bs).2.1, (rd (nameR ns bs).2.2).2.1, (rd (nameR ns bs).2.2).2.2)
    else ((nameR ns bs).1, [], default, [])
  else ((rd bs).1, [], (rd bs).2.1, (rd bs).2.2)
def addN (obj : Bool) (ns : List B) (t : B) : List B := if obj then ns ++ [t] else ns
/-- the items from here on, of which there may be n more behind the first -/
def itemsR (rd : B → Int × J × B) (obj : Bool) (close : UInt8) : Nat → List B → List J → B → Int × (List B × List J) × B
  | 0, ns, _, bs => (if (itemR rd obj ns bs).1 = 0 then 6 else (itemR rd obj ns bs).1, ([], []), [])
  | n + 1, ns, xs, bs =>
    if (itemR rd obj ns bs).1 = 0 then
      if Lib.hasPrefix (trim (itemR rd obj ns bs).2.2.2) [close] then (0, (addN obj ns (itemR rd obj ns bs).2.1, xs ++ [(itemR rd obj ns bs).2.2.1]), (trim (itemR rd obj ns bs).2.2.2).tail)
      else if Lib.hasPrefix (trim (itemR rd obj ns bs).2.2.2) [44] then itemsR rd obj close n (addN obj ns (itemR rd obj ns bs).2.1) (xs ++ [(itemR rd obj ns bs).2.2.1]) (trim (itemR rd obj ns bs).2.2.2).tail
      else (3, ([], []), [])
    else ((itemR rd obj ns bs).1, ([], []), [])
def bodyR (rd : B → Int × J × B) (obj : Bool) (close : UInt8) (bs : B) : Int × (List B × List J) × B :=
  if Lib.hasPrefix (trim bs) [close] then (0, ([], []), (trim bs).tail) else itemsR rd obj close 12 [] [] (trim bs)
/-- a value; rd reads the values within it, if any may stand there -/
def valS (rd : Option (B → Int × J × B)) (bs : B) : Int × J × B :=
  if Lib.hasPrefix bs nullT then (0, .mk 1 0 [] [] [], bs.drop 4)
  else if Lib.hasPrefix bs falseT then (0, .mk 2 0 [] [] [], bs.drop 5)
  else if Lib.hasPrefix bs trueT then (0, .mk 2 1 [] [] [], bs.drop 4)
  else if Lib.hasPrefix bs [34] then ((strR bs.tail []).1, .mk 4 0 (strR bs.tail []).2.1 [] [], (strR bs.tail []).2.2)
  else if Lib.hasPrefix bs [91] then
    match rd with
    | none => (12, default, [])
    | some rd => ((bodyR rd false 93 bs.tail).1, .mk 5 0 [] [] (bodyR rd false 93 bs.tail).2.1.2, (bodyR rd false 93 bs.tail).2.2)
  else if Lib.hasPrefix bs [123] then
    match rd with
    | none => (12, default, [])
    | some rd => ((bodyR rd true 125 bs.tail).1, .mk 6 0 [] (bodyR rd true 125 bs.tail).2.1.1 (bodyR rd true 125 bs.tail).2.1.2, (bodyR rd true 125 bs.tail).2.2)
  else ((numR bs).1, .mk 3 (numR bs).2.1 [] [] [], (numR bs).2.2)
def valR : Nat → B → Int × J × B
  | 0, bs => valS none (trim bs)
  | d + 1, bs => valS (some (valR d)) (trim bs)
/-- a text read whole -/
def readR (t : B) : Int × J :=
  if (valR 4 t).1 = 0 then (if trim (valR 4 t).2.2 = [] then (0, (valR 4 t).2.1) else (3, default)) else ((valR 4 t).1, default)
def readP (t : B) : Int × J := if 65536 < t.length then (2, default) else readR t
/-! ### what is read is valid -/
theorem tail_len (bs : B) : bs.tail.length ≤ bs.length := by simp
theorem nameR_len (ns : List B) (bs : B) : (nameR ns bs).2.2.length ≤ bs.length := by
  unfold nameR
  have h1 := trim_len bs
  have h2 := tail_len (trim bs)
  have h3 := strR_len (trim bs).tail []
  have h4 := trim_len (strR (trim bs).tail []).2.2
  have h5 := tail_len (trim (strR (trim bs).tail []).2.2)
  repeat' split
  all_goals first | (simp only [List.length_nil]; omega) | (simp only []; omega)
theorem nameR_ok {ns : List B} {bs : B} (h : (nameR ns bs).1 = 0) : (nameR ns bs).2.1.length ≤ 120 ∧ ns.contains (nameR ns bs).2.1 = false := by
  unfold nameR at h ⊢
  split at h
  · split at h
    · split at h
      · simp at h
      · rename_i h1 h2 h3
        simp only [h1, h2, if_true]
        have := strR_short h2
        split at h
        · rename_i h4
          simp only [h4, if_true]
          simp only [h3]
          exact ⟨this, by simpa using h3⟩
        · simp at h
    · rename_i h2; exact absurd h h2
  · simp at h
theorem namesB_snoc : ∀ (ns old : List B) (t : B), namesB old (ns ++ [t]) = (namesB old ns && (decide (t.length ≤ 120) && !((old ++ ns).contains t)))
  | [], old, t => by simp [namesB]
  | u :: us, old, t => by
    simp only [List.cons_append, namesB, namesB_snoc us (old ++ [u]) t, Bool.and_assoc, List.append_assoc, List.nil_append]
theorem okL_snoc : ∀ (xs : List J) (x : J) (d : Nat), okL (xs ++ [x]) d = (okL xs d && okJ x d)
  | [], x, d => by simp [okL]
  | y :: ys, x, d => by simp only [List.cons_append, okL, okL_snoc ys x d, Bool.and_assoc]
def namesOf (obj : Bool) (ns : List B) (n : Nat) : Prop := if obj then ns.length = n ∧ namesB [] ns = true else ns = []
theorem namesOf_add {obj : Bool} {ns : List B} {n : Nat} {t : B} (h : namesOf obj ns n) (ht : obj = true → t.length ≤ 120 ∧ ns.contains t = false) : namesOf obj (addN obj ns t) (n + 1) := by
  cases obj with
  | false =>
    simp only [namesOf, addN, Bool.false_eq_true, if_false] at h ⊢
    exact h
  | true =>
    simp only [namesOf, addN, if_true] at h ⊢
    obtain ⟨h1, h2⟩ := ht rfl
    refine ⟨by simp [h.1], ?_⟩
    rw [namesB_snoc, h.2]
    simp only [List.nil_append, h2]
    simp [h1]
theorem itemR_name {rd : B → Int × J × B} {obj : Bool} {ns : List B} {bs : B} (h : (itemR rd obj ns bs).1 = 0) (ho : obj = true) : (itemR rd obj ns bs).2.1.length ≤ 120 ∧ ns.contains (itemR rd obj ns bs).2.1 = false := by
  subst ho
  unfold itemR at h ⊢
  simp only [if_true] at h ⊢
  by_cases h1 : (nameR ns bs).1 = 0
  · rw [if_pos h1]; exact nameR_ok h1
  · rw [if_neg h1] at h; exact absurd h h1
theorem itemR_ok {rd : B → Int × J × B} {d : Nat} (hrd : ∀ bs, (rd bs).1 = 0 → okJ (rd bs).2.1 d = true) {obj : Bool} {ns : List B} {bs : B} (h : (itemR rd obj ns bs).1 = 0) : okJ (itemR rd obj ns bs).2.2.1 d = true := by
  unfold itemR at h ⊢
  cases obj with
  | false => simp only [Bool.false_eq_true, if_false] at h ⊢; exact hrd _ h
  | true =>
    simp only [if_true] at h ⊢
    by_cases h1 : (nameR ns bs).1 = 0
    · rw [if_pos h1] at h ⊢; exact hrd _ h
    · rw [if_neg h1] at h; exact absurd h h1
theorem itemsR_ok {rd : B → Int × J × B} {d : Nat} (hrd : ∀ bs, (rd bs).1 = 0 → okJ (rd bs).2.1 d = true) (obj : Bool) (close : UInt8) : ∀ (n : Nat) (ns : List B) (xs : List J) (bs : B), xs.length + n = 12 → okL xs d = true → namesOf obj ns xs.length →
    (itemsR rd obj close n ns xs bs).1 = 0 → (itemsR rd obj close n ns xs bs).2.1.2.length ≤ 12 ∧ okL (itemsR rd obj close n ns xs bs).2.1.2 d = true ∧ namesOf obj (itemsR rd obj close n ns xs bs).2.1.1 (itemsR rd obj close n ns xs bs).2.1.2.length
  | 0, ns, xs, bs, _, _, _, h => by
    simp only [itemsR] at h
    by_cases h1 : (itemR rd obj ns bs).1 = 0
    · rw [if_pos h1] at h; cases h
    · rw [if_neg h1] at h; exact absurd h h1
  | n + 1, ns, xs, bs, hn, hx, hns, h => by
    simp only [itemsR] at h ⊢
    by_cases h1 : (itemR rd obj ns bs).1 = 0
    · rw [if_pos h1] at h ⊢
      have ho := itemR_ok hrd h1
      have hl : okL (xs ++ [(itemR rd obj ns bs).2.2.1]) d = true := by rw [okL_snoc, hx, ho]; rfl
      have hN := namesOf_add (t := (itemR rd obj ns bs).2.1) hns (fun hob => itemR_name h1 hob)
      split at h
      · rename_i h2
        simp only [h2, if_true]
        exact ⟨by simp; omega, hl, by simpa using hN⟩
      · rename_i h2
        simp only [h2, Bool.false_eq_true, if_false] at h ⊢
        split at h
        · rename_i h3
          simp only [h3, if_true] at h ⊢
          exact itemsR_ok hrd obj close n _ _ _ (by simp; omega) hl (by simpa using hN) h
        · cases h
    · rw [if_neg h1] at h; exact absurd h h1
theorem bodyR_ok {rd : B → Int × J × B} {d : Nat} (hrd : ∀ bs, (rd bs).1 = 0 → okJ (rd bs).2.1 d = true) (obj : Bool) (close : UInt8) (bs : B) (h : (bodyR rd obj close bs).1 = 0) :
    (bodyR rd obj close bs).2.1.2.length ≤ 12 ∧ okL (bodyR rd obj close bs).2.1.2 d = true ∧ namesOf obj (bodyR rd obj close bs).2.1.1 (bodyR rd obj close bs).2.1.2.length := by
  unfold bodyR at h ⊢
  split at h
  · rename_i h1
    simp only [h1, if_true]
    refine ⟨by simp, rfl, ?_⟩
    cases obj <;> simp [namesOf, namesB]
  · rename_i h1
    simp only [h1, Bool.false_eq_true, if_false] at h ⊢
    refine itemsR_ok hrd obj close 12 [] [] _ (by simp) rfl ?_ h
    cases obj <;> simp [namesOf, namesB]
theorem valS_ok {rd : Option (B → Int × J × B)} {d : Nat} (hrd : ∀ f, rd = some f → 1 ≤ d ∧ ∀ bs, (f bs).1 = 0 → okJ (f bs).2.1 d = true) (bs : B) (h : (valS rd bs).1 = 0) : okJ (valS rd bs).2.1 (d + 1) = true := by
  unfold valS at h ⊢
  by_cases h1 : Lib.hasPrefix bs nullT = true
  · simp [h1, okJ]
  simp only [h1, Bool.false_eq_true, if_false] at h ⊢
  by_cases h2 : Lib.hasPrefix bs falseT = true
  · simp [h2, okJ]
  simp only [h2, Bool.false_eq_true, if_false] at h ⊢
  by_cases h3 : Lib.hasPrefix bs trueT = true
  · simp [h3, okJ]
  simp only [h3, Bool.false_eq_true, if_false] at h ⊢
  by_cases h4 : Lib.hasPrefix bs [34] = true
  · simp only [h4, if_true] at h ⊢
    have := strR_short h
    simp [okJ, this]
  simp only [h4, Bool.false_eq_true, if_false] at h ⊢
  by_cases h5 : Lib.hasPrefix bs [91] = true
  · simp only [h5, if_true] at h ⊢
    cases rd with
    | none => cases h
    | some f =>
      simp only at h ⊢
      obtain ⟨hd, hf⟩ := hrd f rfl
      obtain ⟨a, b, c⟩ := bodyR_ok hf false 93 bs.tail h
      simp [okJ, a, b]
      omega
  simp only [h5, Bool.false_eq_true, if_false] at h ⊢
  by_cases h6 : Lib.hasPrefix bs [123] = true
  · simp only [h6, if_true] at h ⊢
    cases rd with
    | none => cases h
    | some f =>
      simp only at h ⊢
      obtain ⟨hd, hf⟩ := hrd f rfl
      obtain ⟨a, b, c⟩ := bodyR_ok hf true 125 bs.tail h
      simp only [namesOf, if_true] at c
      simp [okJ, a, b, c.1, c.2]
      omega
  simp only [h6, Bool.false_eq_true, if_false] at h ⊢
  unfold numR at h ⊢
  split at h
  · rename_i h7
    simp only [h7, if_true] at h ⊢
    split at h
    · rename_i h8
      simp only [h8, if_true]
      simp only [rangeB, decide_eq_true_eq] at h8
      simp [okJ, h8]
    · cases h
  · cases h
theorem valR_ok : ∀ (d : Nat) (bs : B), (valR d bs).1 = 0 → okJ (valR d bs).2.1 (d + 1) = true
  | 0, bs, h => by
    simp only [valR] at h ⊢
    exact valS_ok (d := 0) (fun f hf => by cases hf) _ h
  | d + 1, bs, h => by
    simp only [valR] at h ⊢
    exact valS_ok (d := d + 1) (fun f hf => by cases hf; exact ⟨by omega, valR_ok d⟩) _ h
theorem readP_ok {t : B} {j : J} (h : readP t = (0, j)) : okJ j 5 = true := by
  unfold readP readR at h
  split at h
  · cases h
  split at h
  · rename_i h2
    split at h
    · have := valR_ok 4 t h2
      simp only [Prod.mk.injEq, true_and] at h
      rw [← h]; exact this
    · cases h
  · rename_i h2
    simp only [Prod.mk.injEq] at h
    exact absurd h.1 h2
end Go.Proofs.YtjakkmjipglkiaaDoor.Rd
