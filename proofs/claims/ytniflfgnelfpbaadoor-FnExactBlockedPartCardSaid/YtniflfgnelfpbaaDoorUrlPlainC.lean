
/-
  URLs, plainly: the number that a text is; how a text is split. No program is named here.
-/
import Derived.Test.YtniflfgnelfpbaaDoorUrlPlainB
namespace Go.Proofs.YtniflfgnelfpbaaDoor.Ul
/-! ### The number that a text is -/
def digV (x : UInt8) : Nat := x.toNat - 48
def valTo (n : Nat) (l : List UInt8) : Nat := l.foldl (fun n x => 10 * n + digV x) n
def valB (l : List UInt8) : Nat := valTo 0 l
def zeroB : List UInt8 → Bool
  | [] => false
  | c :: _ => c == 48
def digsB (neg : Bool) (l : List UInt8) : Bool := decide (1 ≤ l.length) && decide (l.length ≤ 18) && !(zeroB l && (decide (1 < l.length) || neg)) && l.all digB
def negB : List UInt8 → Bool
  | [] => false
  | c :: _ => c == 45
def absL (l : List UInt8) : List UInt8 := if negB l then l.tail else l
def numB (l : List UInt8) : Bool := digsB (negB l) (absL l)
def numV (l : List UInt8) : Int := if numB l then (if negB l then -(valB (absL l) : Int) else (valB (absL l) : Int)) else 0
theorem val_snoc (l : List UInt8) (x : UInt8) : valB (l ++ [x]) = 10 * valB l + digV x := by simp [valB, valTo]
theorem digV_lt (x : UInt8) (h : digB x = true) : digV x ≤ 9 := by
  simp only [digB, decide_eq_true_eq] at h
  unfold digV; omega
theorem val_lt : ∀ (k : Nat) (l : List UInt8), l.length ≤ k → l.all digB = true → valB l < 10 ^ k := by
  intro k
  induction k with
  | zero =>
    intro l h _
    have : l = [] := List.eq_nil_of_length_eq_zero (by omega)
    subst this; simp [valB, valTo]
  | succ k ih =>
    intro l h ha
    rcases List.eq_nil_or_concat l with rfl | ⟨l', x, rfl⟩
    · simp only [valB, valTo, List.foldl_nil]; exact Nat.pow_pos (by omega)
    · rw [List.concat_eq_append] at *
      rw [val_snoc]
      simp only [List.all_append, List.all_cons, List.all_nil, Bool.and_true, Bool.and_eq_true] at ha
      have := ih l' (by simp at h; omega) ha.1
      have := digV_lt x ha.2
      rw [Nat.pow_succ]; omega
/-- after k rounds of reading digits: all were digits, and n is what they make -/
def numAt (l : List UInt8) (k n : Nat) : Bool := (l.take k).all digB && decide (n = valB (l.take k))
theorem num_zero (l : List UInt8) : numAt l 0 0 = true := by simp [numAt, valB, valTo]
theorem take_one (l : List UInt8) (k : Nat) (x : UInt8) (h : k < l.length) (hx : l[k] = x) : l.take (k + 1) = l.take k ++ [x] := by
  rw [List.take_succ_eq_append_getElem h, hx]
theorem num_yes (l : List UInt8) (k n : Nat) (x : UInt8) (h : k < l.length) (hx : l[k] = x) (ht : numAt l k n = true) (hd : digB x = true) : numAt l (k + 1) (10 * n + digV x) = true := by
  simp only [numAt, Bool.and_eq_true, decide_eq_true_eq] at ht ⊢
  rw [take_one l k x h hx, val_snoc, ← ht.2]
  simp [ht.1, hd]
theorem num_lt (l : List UInt8) (k n : Nat) (hk : k ≤ 17) (ht : numAt l k n = true) : n < 100000000000000000 := by
  simp only [numAt, Bool.and_eq_true, decide_eq_true_eq] at ht
  have := val_lt k (l.take k) (List.length_take_le _ _) ht.1
  have : (10 : Nat) ^ k ≤ 10 ^ 17 := Nat.pow_le_pow_right (by omega) hk
  omega
theorem num_end (l : List UInt8) (n : Nat) (ht : numAt l l.length n = true) : l.all digB = true ∧ n = valB l := by
  simpa [numAt] using ht
theorem num_no (l : List UInt8) (k : Nat) (x : UInt8) (h : k < l.length) (hx : l[k] = x) (hd : digB x = false) : l.all digB = false := by
  rw [List.all_eq_false]
  exact ⟨x, by rw [← hx]; exact List.getElem_mem h, by simp [hd]⟩
/-! ### When a text is no number, and when it is -/
theorem numV_no (l : List UInt8) (h : numB l = false) : numV l = 0 := by simp [numV, h]
theorem num_pos (l : List UInt8) (h : negB l = false) : numB l = digsB false l ∧ (numB l = true → numV l = (valB l : Int)) := by
  have e : absL l = l := by simp [absL, h]
  refine ⟨by simp [numB, e, h], fun hb => by simp [numV, hb, h, e]⟩
theorem num_neg (r : List UInt8) : numB (45 :: r) = digsB true r ∧ (numB (45 :: r) = true → numV (45 :: r) = -(valB r : Int)) := by
  have hn : negB (45 :: r) = true := rfl
  have e : absL (45 :: r) = r := by simp [absL, hn]
  refine ⟨by simp [numB, e, hn], fun hb => by simp [numV, hb, hn, e]⟩
theorem digs_short (b : Bool) (l : List UInt8) (h : l.length < 1) : digsB b l = false := by
  have : ¬ 1 ≤ l.length := by omega
  simp [digsB, this]
theorem digs_long (b : Bool) (l : List UInt8) (h : 18 < l.length) : digsB b l = false := by
  have : ¬ l.length ≤ 18 := by omega
  simp [digsB, this]
theorem zero_at (l : List UInt8) (x : UInt8) (h : 0 < l.length) (hx : l[0] = x) : zeroB l = (x == 48) := by
  cases l with
  | nil => simp at h
  | cons c r => simp at hx; subst hx; rfl
theorem neg_at (l : List UInt8) (x : UInt8) (h : 0 < l.length) (hx : l[0] = x) : negB l = (x == 45) := by
  cases l with
  | nil => simp at h
  | cons c r => simp at hx; subst hx; rfl
theorem digs_zero (b : Bool) (l : List UInt8) (h : zeroB l = true) (h2 : 1 < l.length ∨ b = true) : digsB b l = false := by
  have : (decide (1 < l.length) || b) = true := by simpa using h2
  simp [digsB, h, this]
theorem digs_bad (b : Bool) (l : List UInt8) (h : l.all digB = false) : digsB b l = false := by simp [digsB, h]
theorem digs_good (b : Bool) (l : List UInt8) (h1 : 1 ≤ l.length) (h2 : l.length ≤ 18) (h3 : zeroB l = false ∨ (¬ 1 < l.length ∧ b = false)) (h : l.all digB = true) : digsB b l = true := by
  rcases h3 with h3 | ⟨h3, rfl⟩ <;> simp [digsB, h1, h2, h3, h]
/-! ### A text, split -/
def lowL (l : List UInt8) : List UInt8 := l.map lowC
def befL (l : List UInt8) (c : Nat) : List UInt8 := l.take (findB l c)
def aftL (l : List UInt8) (c : Nat) : List UInt8 := l.drop (findB l c + 1)
theorem bef_len (l : List UInt8) (c : Nat) : (befL l c).length ≤ l.length := by simp [befL]; omega
theorem aft_len (l : List UInt8) (c : Nat) : (aftL l c).length ≤ l.length := by simp [aftL]
theorem bef_none (l : List UInt8) (c : Nat) (h : hasB l c = false) : befL l c = l := by
  have := findB_le l c
  simp only [hasB, decide_eq_false_iff_not] at h
  exact List.take_of_length_le (by omega)
theorem aft_none (l : List UInt8) (c : Nat) (h : hasB l c = false) : aftL l c = [] := by
  have := findB_le l c
  simp only [hasB, decide_eq_false_iff_not] at h
  exact List.drop_eq_nil_of_le (by omega)
theorem low_len (l : List UInt8) : (lowL l).length = l.length := by simp [lowL]
def slash2 : List UInt8 → Bool
  | a :: b :: _ => a == 47 && b == 47
  | _ => false
def portOKB (t : List UInt8) : Bool := numB t && decide (1 ≤ numV t) && decide (numV t ≤ 65535)
def portV (s t : List UInt8) : Int := if portOKB t then (if numV t = usual s then 0 else numV t) else 0
/-- the parts of what stands between the two strokes and the path -/
def userOf (r : List UInt8) : List UInt8 := if hasB r 64 then befL r 64 else []
def behindUser (r : List UInt8) : List UInt8 := if hasB r 64 then aftL r 64 else r
def beforeQ (r : List UInt8) : List UInt8 := befL (befL r 35) 63
def siteOf (r : List UInt8) : List UInt8 := behindUser (befL (beforeQ r) 47)
def webU (s r : List UInt8) : U :=
  { sch := s, usr := userOf (befL (beforeQ r) 47), hst := lowL (befL (siteOf r) 58), prt := if hasB (siteOf r) 58 then portV s (aftL (siteOf r) 58) else 0,
    pth := 47 :: aftL (beforeQ r) 47, qry := aftL (befL r 35) 63, frg := aftL r 35, hq := hasB (befL r 35) 63, hf := hasB r 35 }
def webSplitB (r : List UInt8) : Bool := !hasB (siteOf r) 58 || portOKB (aftL (siteOf r) 58)
def otherU (s r : List UInt8) : U := { U.none with sch := s, pth := beforeQ r }
/-- what a text says, and whether it is split -/
def splitB (t : List UInt8) : Bool := hasB t 58 && (!webB (lowL (befL t 58)) || (slash2 (aftL t 58) && webSplitB ((aftL t 58).drop 2)))
def splitU (t : List UInt8) : U := if webB (lowL (befL t 58)) then webU (lowL (befL t 58)) ((aftL t 58).drop 2) else otherU (lowL (befL t 58)) (aftL t 58)
def parseB (t : List UInt8) : Bool := splitB t && okB (splitU t)
def parseU (t : List UInt8) : U := if parseB t then splitU t else U.none
end Go.Proofs.YtniflfgnelfpbaaDoor.Ul
