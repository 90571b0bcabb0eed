
/-
  How large what is read can be, plainly: never larger than the text.
-/
import Derived.Test.YtjakkmjipglkiaaDoorRdA
namespace Go.Proofs.YtjakkmjipglkiaaDoor.Rd
open Go.Proofs.YtjakkmjipglkiaaDoor.Js (J okJ okL namesB szJ szL szT)
theorem szL_snoc : ∀ (xs : List J) (x : J), szL (xs ++ [x]) = szL xs + szJ x
  | [], x => by simp [szL]
  | y :: ys, x => by simp only [List.cons_append, szL, szL_snoc ys x]; omega
theorem szT_snoc : ∀ (ns : List B) (t : B), szT (ns ++ [t]) = szT ns + t.length
  | [], t => by simp [szT]
  | y :: ys, t => by simp only [List.cons_append, szT, szT_snoc ys t]; omega
theorem pre_len {bs : B} {y : UInt8} (h : Lib.hasPrefix bs [y] = true) : bs.tail.length + 1 = bs.length := by
  cases bs with
  | nil => simp [Lib.hasPrefix] at h
  | cons x rs => simp
theorem strR_sz (n : Nat) : ∀ (bs out : B), bs.length ≤ n → (strR bs out).1 = 0 → (strR bs out).2.1.length + (strR bs out).2.2.length + 1 ≤ bs.length + out.length := by
  induction n with
  | zero =>
    intro bs out h h0
    have : bs = [] := List.eq_nil_of_length_eq_zero (by omega)
    subst this
    rw [strR_nil] at h0; cases h0
  | succ n ih =>
    intro bs out h h0
    cases bs with
    | nil => rw [strR_nil] at h0; cases h0
    | cons c r =>
      simp only [List.length_cons] at h ⊢
      by_cases h1 : c = 34
      · subst h1
        rw [strR_quote] at h0 ⊢
        split
        · rename_i h2; rw [if_pos h2] at h0; cases h0
        · simp only []; omega
      by_cases h2 : c = 92
      · subst h2
        cases he : escR r with
        | none => rw [strR_bad out he] at h0; cases h0
        | some p =>
          obtain ⟨x, r'⟩ := p
          rw [strR_esc out he] at h0 ⊢
          have := escR_len he
          have := ih r' (out ++ [x]) (by omega) h0
          simp only [List.length_append, List.length_cons, List.length_nil] at this
          omega
      by_cases h3 : 32 ≤ c.toNat ∧ c.toNat ≤ 126
      · rw [strR_plain r out h1 h2 h3] at h0 ⊢
        have := ih r (out ++ [c]) (by omega) h0
        simp only [List.length_append, List.length_cons, List.length_nil] at this
        omega
      · rw [strR_other r out h1 h2 h3] at h0; cases h0
theorem nameR_sz {ns : List B} {bs : B} (h : (nameR ns bs).1 = 0) : (nameR ns bs).2.1.length + (nameR ns bs).2.2.length + 3 ≤ bs.length := by
  have hb := trim_len bs
  unfold nameR at h ⊢
  by_cases h1 : Lib.hasPrefix (trim bs) [34] = true
  · rw [if_pos h1] at h ⊢
    have e1 := pre_len h1
    by_cases h2 : (strR (trim bs).tail []).1 = 0
    · rw [if_pos h2] at h ⊢
      have e2 := strR_sz _ (trim bs).tail [] (Nat.le_refl _) h2
      by_cases h3 : ns.contains (strR (trim bs).tail []).2.1 = true
      · rw [if_pos h3] at h; cases h
      · rw [if_neg h3] at h ⊢
        have e3 := trim_len (strR (trim bs).tail []).2.2
        by_cases h4 : Lib.hasPrefix (trim (strR (trim bs).tail []).2.2) [58] = true
        · rw [if_pos h4]
          have e4 := pre_len h4
          simp only [List.length_nil] at e2
          simp only []
          omega
        · rw [if_neg h4] at h; cases h
    · rw [if_neg h2] at h; exact absurd h h2
  · rw [if_neg h1] at h; cases h
def nameSz (obj : Bool) (t : B) : Nat := if obj then t.length + 3 else 0
theorem itemR_sz {rd : B → Int × J × B} (hrd : ∀ bs, (rd bs).1 = 0 → szJ (rd bs).2.1 + (rd bs).2.2.length ≤ bs.length) {obj : Bool} {ns : List B} {bs : B} (h : (itemR rd obj ns bs).1 = 0) : nameSz obj (itemR rd obj ns bs).2.1 + szJ (itemR rd obj ns bs).2.2.1 + (itemR rd obj ns bs).2.2.2.length ≤ bs.length := by
  unfold itemR at h ⊢
  cases obj with
  | false =>
    simp only [Bool.false_eq_true, if_false] at h ⊢
    have := hrd bs h
    simp [nameSz]; omega
  | true =>
    simp only [if_true] at h ⊢
    by_cases h1 : (nameR ns bs).1 = 0
    · rw [if_pos h1] at h ⊢
      have e1 := nameR_sz h1
      have e2 := hrd _ h
      simp only [nameSz, if_true]
      omega
    · rw [if_neg h1] at h; exact absurd h h1
theorem addN_sz (obj : Bool) (ns : List B) (t : B) : (addN obj ns t).length + szT (addN obj ns t) ≤ ns.length + szT ns + nameSz obj t := by
  cases obj with
  | false => simp [addN, nameSz]
  | true =>
    simp only [addN, nameSz, if_true, szT_snoc]
    simp; omega
theorem itemsR_sz {rd : B → Int × J × B} (hrd : ∀ bs, (rd bs).1 = 0 → szJ (rd bs).2.1 + (rd bs).2.2.length ≤ bs.length) (obj : Bool) (close : UInt8) : ∀ (n : Nat) (ns : List B) (xs : List J) (bs : B), (itemsR rd obj close n ns xs bs).1 = 0 →
    ((itemsR rd obj close n ns xs bs).2.1.1.length + szT (itemsR rd obj close n ns xs bs).2.1.1) + ((itemsR rd obj close n ns xs bs).2.1.2.length + szL (itemsR rd obj close n ns xs bs).2.1.2) + (itemsR rd obj close n ns xs bs).2.2.length ≤ (ns.length + szT ns) + (xs.length + szL xs) + bs.length
  | 0, ns, xs, bs, h => by
    simp only [itemsR] at h
    by_cases h1 : (itemR rd obj ns bs).1 = 0
    · rw [if_pos h1] at h; cases h
    · rw [if_neg h1] at h; exact absurd h h1
  | n + 1, ns, xs, bs, h => by
    simp only [itemsR] at h ⊢
    by_cases h1 : (itemR rd obj ns bs).1 = 0
    · rw [if_pos h1] at h ⊢
      have e1 := itemR_sz hrd h1
      have e2 := addN_sz obj ns (itemR rd obj ns bs).2.1
      have e3 := trim_len (itemR rd obj ns bs).2.2.2
      have e4 := szL_snoc xs (itemR rd obj ns bs).2.2.1
      by_cases h2 : Lib.hasPrefix (trim (itemR rd obj ns bs).2.2.2) [close] = true
      · rw [if_pos h2]
        have e5 := pre_len h2
        simp only [e4, List.length_append, List.length_cons, List.length_nil]
        omega
      · rw [if_neg h2] at h ⊢
        by_cases h3 : Lib.hasPrefix (trim (itemR rd obj ns bs).2.2.2) [44] = true
        · rw [if_pos h3] at h ⊢
          have e5 := pre_len h3
          have := itemsR_sz hrd obj close n _ _ _ h
          simp only [e4, List.length_append, List.length_cons, List.length_nil] at this
          omega
        · rw [if_neg h3] at h; cases h
    · rw [if_neg h1] at h; exact absurd h h1
theorem bodyR_sz {rd : B → Int × J × B} (hrd : ∀ bs, (rd bs).1 = 0 → szJ (rd bs).2.1 + (rd bs).2.2.length ≤ bs.length) (obj : Bool) (close : UInt8) (bs : B) (h : (bodyR rd obj close bs).1 = 0) :
    ((bodyR rd obj close bs).2.1.1.length + szT (bodyR rd obj close bs).2.1.1) + ((bodyR rd obj close bs).2.1.2.length + szL (bodyR rd obj close bs).2.1.2) + (bodyR rd obj close bs).2.2.length ≤ bs.length := by
  have e1 := trim_len bs
  unfold bodyR at h ⊢
  by_cases h1 : Lib.hasPrefix (trim bs) [close] = true
  · rw [if_pos h1]
    simp [szT, szL]; omega
  · rw [if_neg h1] at h ⊢
    have := itemsR_sz hrd obj close 12 [] [] _ h
    simp only [szT, szL, List.length_nil] at this
    omega
theorem valS_sz {rd : Option (B → Int × J × B)} (hrd : ∀ f, rd = some f → ∀ bs, (f bs).1 = 0 → szJ (f bs).2.1 + (f bs).2.2.length ≤ bs.length) (bs : B) (h : (valS rd bs).1 = 0) : szJ (valS rd bs).2.1 + (valS rd bs).2.2.length ≤ bs.length := by
  have et := tail_len bs
  unfold valS at h ⊢
  by_cases h1 : Lib.hasPrefix bs nullT = true
  · rw [if_pos h1]; simp [szJ, szT, szL]
  rw [if_neg h1] at h ⊢
  by_cases h2 : Lib.hasPrefix bs falseT = true
  · rw [if_pos h2]; simp [szJ, szT, szL]
  rw [if_neg h2] at h ⊢
  by_cases h3 : Lib.hasPrefix bs trueT = true
  · rw [if_pos h3]; simp [szJ, szT, szL]
  rw [if_neg h3] at h ⊢
  by_cases h4 : Lib.hasPrefix bs [34] = true
  · rw [if_pos h4] at h ⊢
    have := strR_sz _ bs.tail [] (Nat.le_refl _) h
    simp only [szJ, szT, szL, List.length_nil] at this ⊢
    omega
  rw [if_neg h4] at h ⊢
  by_cases h5 : Lib.hasPrefix bs [91] = true
  · rw [if_pos h5] at h ⊢
    cases rd with
    | none => cases h
    | some f =>
      have := bodyR_sz (hrd f rfl) false 93 bs.tail h
      simp only [szJ, szT, List.length_nil] at this ⊢
      omega
  rw [if_neg h5] at h ⊢
  by_cases h6 : Lib.hasPrefix bs [123] = true
  · rw [if_pos h6] at h ⊢
    cases rd with
    | none => cases h
    | some f =>
      have := bodyR_sz (hrd f rfl) true 125 bs.tail h
      simp only [szJ, List.length_nil] at this ⊢
      omega
  rw [if_neg h6] at h ⊢
  have e := behindN_len bs
  have e2 : (numR bs).2.2 = behindN bs := by
    unfold numR
    by_cases h7 : Ul.numB (numT bs) = true
    · rw [if_pos h7]
      by_cases h8 : rangeB (Ul.numV (numT bs)) = true
      · rw [if_pos h8]
      · rw [if_neg h8]
    · rw [if_neg h7]
  simp only [szJ, szT, szL, List.length_nil, e2]
  omega
theorem valR_sz : ∀ (d : Nat) (bs : B), (valR d bs).1 = 0 → szJ (valR d bs).2.1 + (valR d bs).2.2.length ≤ bs.length
  | 0, bs, h => Nat.le_trans (valS_sz (fun f hf => by cases hf) _ h) (trim_len bs)
  | d + 1, bs, h => Nat.le_trans (valS_sz (fun f hf => by cases hf; exact valR_sz d) _ h) (trim_len bs)
end Go.Proofs.YtjakkmjipglkiaaDoor.Rd
