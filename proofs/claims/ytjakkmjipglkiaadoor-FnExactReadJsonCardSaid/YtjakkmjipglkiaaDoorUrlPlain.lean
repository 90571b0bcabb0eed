
/-
  URLs, plainly: what each function of chapter 2 comes to, on lists of bytes. No program is named here. URLs, plainly: the value of nine fields, its text, what is asked of it. No program is named here. URLs, plainly: the number that a text is; how a text is split. No program is named here. URLs, plainly: a URL is read back from its text. No program is named here.
-/
import Derived.Below
import Derived.Lib.Strings
import Derived.Lib.ItoaNum
namespace Go.Proofs.YtjakkmjipglkiaaDoor.Ul
/-! ### Bytes -/
def lowB (c : UInt8) : Bool := decide (97 ≤ c.toNat ∧ c.toNat ≤ 122)
def digB (c : UInt8) : Bool := decide (48 ≤ c.toNat ∧ c.toNat ≤ 57)
def upB (c : UInt8) : Bool := decide (65 ≤ c.toNat ∧ c.toNat ≤ 90)
def plainB (c : UInt8) : Bool := lowB c || digB c
def jointB (c : UInt8) : Bool := decide (c.toNat = 45 ∨ c.toNat = 46)
def lowC (c : UInt8) : UInt8 := if upB c then c + 32 else c
theorem drop_at (l : List UInt8) (k : Nat) (h : k < l.length) : l.drop k = l[k] :: l.drop (k + 1) := List.drop_eq_getElem_cons h
/-! ### Find -/
def findB : List UInt8 → Nat → Nat
  | [], _ => 0
  | x :: l, c => if x.toNat = c then 0 else findB l c + 1
theorem findB_le (l : List UInt8) (c : Nat) : findB l c ≤ l.length := by
  induction l with
  | nil => simp [findB]
  | cons x l ih => simp only [findB]; split <;> simp <;> omega
def findTo (l : List UInt8) (c k : Nat) : Bool := decide (findB l c = k + findB (l.drop k) c)
theorem find_zero (l : List UInt8) (c : Nat) : findTo l c 0 = true := by simp [findTo]
theorem find_hit (l : List UInt8) (c k : Nat) (x : UInt8) (h : k < l.length) (hx : l[k] = x) (ht : findTo l c k = true) (hc : x.toNat = c) : findB l c = k := by
  simp only [findTo, decide_eq_true_eq] at ht
  rw [ht, drop_at l k h, hx]
  simp [findB, hc]
theorem find_miss (l : List UInt8) (c k : Nat) (x : UInt8) (h : k < l.length) (hx : l[k] = x) (ht : findTo l c k = true) (hc : x.toNat ≠ c) : findTo l c (k + 1) = true := by
  simp only [findTo, decide_eq_true_eq] at ht ⊢
  rw [ht, drop_at l k h, hx]
  simp [findB, hc]; omega
theorem find_end (l : List UInt8) (c : Nat) (ht : findTo l c l.length = true) : findB l c = l.length := by
  simp only [findTo, decide_eq_true_eq] at ht
  rw [ht]; simp [findB]
def hasB (l : List UInt8) (c : Nat) : Bool := decide (findB l c < l.length)
/-! ### Only -/
def onlyC (x : UInt8) (wo : List UInt8) : Bool := decide (33 ≤ x.toNat) && decide (x.toNat ≤ 126) && !hasB wo x.toNat
def onlyB (l : List UInt8) (wo : List UInt8) : Bool := l.all fun x => onlyC x wo
/-! ### A scan that is carried from place to place: 'what is left decides' -/
def leftIs (f : List UInt8 → Bool) (l : List UInt8) (k : Nat) : Bool := decide (f (l.drop k) = f l)
theorem left_zero (f : List UInt8 → Bool) (l : List UInt8) : leftIs f l 0 = true := by simp [leftIs]
theorem only_no (l wo : List UInt8) (k : Nat) (x : UInt8) (h : k < l.length) (hx : l[k] = x) (ht : leftIs (onlyB · wo) l k = true) (hc : onlyC x wo = false) : onlyB l wo = false := by
  simp only [leftIs, decide_eq_true_eq] at ht
  rw [← ht, drop_at l k h, hx]
  simp [onlyB, hc]
theorem only_yes (l wo : List UInt8) (k : Nat) (x : UInt8) (h : k < l.length) (hx : l[k] = x) (ht : leftIs (onlyB · wo) l k = true) (hc : onlyC x wo = true) : leftIs (onlyB · wo) l (k + 1) = true := by
  simp only [leftIs, decide_eq_true_eq] at ht ⊢
  rw [← ht, drop_at l k h, hx]
  simp [onlyB, hc]
theorem only_end (l wo : List UInt8) (ht : leftIs (onlyB · wo) l l.length = true) : onlyB l wo = true := by
  simp only [leftIs, decide_eq_true_eq] at ht
  rw [← ht]; simp [onlyB]
/-! ### Scheme -/
def schC (i : Nat) (x : UInt8) : Bool := lowB x || (decide (0 < i) && (digB x || decide (x.toNat = 45) || decide (x.toNat = 43) || decide (x.toNat = 46)))
def schTo : List UInt8 → Nat → Bool
  | [], _ => true
  | x :: l, i => schC i x && schTo l (i + 1)
def schemeB (l : List UInt8) : Bool := decide (1 ≤ l.length) && decide (l.length ≤ 12) && schTo l 0
def schLeft (l : List UInt8) (k : Nat) : Bool := decide (schTo (l.drop k) k = schTo l 0)
theorem sch_zero (l : List UInt8) : schLeft l 0 = true := by simp [schLeft]
theorem sch_short (l : List UInt8) (h : l.length < 1) : schemeB l = false := by
  have : ¬ 1 ≤ l.length := by omega
  simp [schemeB, this]
theorem sch_long (l : List UInt8) (h : 12 < l.length) : schemeB l = false := by
  have : ¬ l.length ≤ 12 := by omega
  simp [schemeB, this]
theorem sch_no (l : List UInt8) (k : Nat) (x : UInt8) (h : k < l.length) (hx : l[k] = x) (ht : schLeft l k = true) (hc : schC k x = false) : schemeB l = false := by
  simp only [schLeft, decide_eq_true_eq] at ht
  unfold schemeB
  rw [← ht, drop_at l k h, hx]
  simp [schTo, hc]
theorem sch_yes (l : List UInt8) (k : Nat) (x : UInt8) (h : k < l.length) (hx : l[k] = x) (ht : schLeft l k = true) (hc : schC k x = true) : schLeft l (k + 1) = true := by
  simp only [schLeft, decide_eq_true_eq] at ht ⊢
  rw [← ht, drop_at l k h, hx]
  simp [schTo, hc]
theorem sch_end (l : List UInt8) (h1 : 1 ≤ l.length) (h2 : l.length ≤ 12) (ht : schLeft l l.length = true) : schemeB l = true := by
  simp only [schLeft, decide_eq_true_eq] at ht
  unfold schemeB
  rw [← ht]; simp [schTo, h1, h2]
/-! ### Host -/
def hostTo : List UInt8 → Bool → Bool
  | [], b => !b
  | x :: l, b => if plainB x then hostTo l false else if jointB x && !b then hostTo l true else false
def hostB (l : List UInt8) : Bool := hostTo l true
def hostLeft (l : List UInt8) (k : Nat) (b : Bool) : Bool := decide (hostTo (l.drop k) b = hostB l)
theorem host_zero (l : List UInt8) : hostLeft l 0 true = true := by simp [hostLeft, hostB]
theorem host_plain (l : List UInt8) (k : Nat) (b : Bool) (x : UInt8) (h : k < l.length) (hx : l[k] = x) (ht : hostLeft l k b = true) (hc : plainB x = true) : hostLeft l (k + 1) false = true := by
  simp only [hostLeft, decide_eq_true_eq] at ht ⊢
  rw [← ht, drop_at l k h, hx]
  simp [hostTo, hc]
theorem host_joint (l : List UInt8) (k : Nat) (x : UInt8) (h : k < l.length) (hx : l[k] = x) (ht : hostLeft l k false = true) (hp : plainB x = false) (hc : jointB x = true) : hostLeft l (k + 1) true = true := by
  simp only [hostLeft, decide_eq_true_eq] at ht ⊢
  rw [← ht, drop_at l k h, hx]
  simp [hostTo, hc, hp]
theorem host_no (l : List UInt8) (k : Nat) (b : Bool) (x : UInt8) (h : k < l.length) (hx : l[k] = x) (ht : hostLeft l k b = true) (hp : plainB x = false) (hc : jointB x = false ∨ b = true) : hostB l = false := by
  simp only [hostLeft, decide_eq_true_eq] at ht
  rw [← ht, drop_at l k h, hx]
  rcases hc with hc | rfl <;> simp [hostTo, *]
theorem host_end (l : List UInt8) (b : Bool) (ht : hostLeft l l.length b = true) : hostB l = !b := by
  simp only [hostLeft, decide_eq_true_eq] at ht
  rw [← ht]; simp [hostTo]
/-! ### Web, the usual port -/
def http : List UInt8 := [104, 116, 116, 112]
def https : List UInt8 := [104, 116, 116, 112, 115]
def webB (l : List UInt8) : Bool := l == http || l == https
def usual (l : List UInt8) : Int := if l == http then 80 else 443
end Go.Proofs.YtjakkmjipglkiaaDoor.Ul
namespace Go.Proofs.YtjakkmjipglkiaaDoor.Ul
theorem digs_len : ∀ (k n : Nat), n < 10 ^ (k + 1) → (Lib.decDigits n).length ≤ k + 1
  | 0, n, h => by rw [Lib.decDigits_one (by omega)]; simp
  | k + 1, n, h => by
    by_cases h1 : n < 10
    · rw [Lib.decDigits_one h1]; simp
    · have ih := digs_len k (n / 10) (by rw [Nat.pow_succ] at h; omega)
      rw [Lib.decDigits, dif_neg h1]
      simp; omega
structure U where
  sch : List UInt8
  usr : List UInt8
  hst : List UInt8
  prt : Int
  pth : List UInt8
  qry : List UInt8
  frg : List UInt8
  hq : Bool
  hf : Bool
def U.none : U := ⟨[], [], [], 0, [], [], [], false, false⟩
def portL (p : Int) : List UInt8 := if 0 < p then 58 :: Lib.decDigits p.toNat else []
theorem portL_no {p : Int} (h : ¬ 0 < p) : portL p = [] := by simp [portL, h]
theorem portL_len (p : Int) (h : p ≤ 9223372036854775807) : (portL p).length ≤ 20 := by
  unfold portL
  split
  · have := digs_len 18 p.toNat (by omega)
    simp; omega
  · simp
def siteL (s h : List UInt8) (p : Int) : List UInt8 := s ++ [58, 47, 47] ++ h ++ portL p
def userL (l : List UInt8) : List UInt8 := if l = [] then [] else l ++ [64]
def queryL (b : Bool) (l : List UInt8) : List UInt8 := if b then 63 :: l else []
def fragL (b : Bool) (l : List UInt8) : List UInt8 := if b then 35 :: l else []
def textL (u : U) : List UInt8 := if webB u.sch then u.sch ++ [58, 47, 47] ++ userL u.usr ++ (u.hst ++ portL u.prt ++ u.pth) ++ queryL u.hq u.qry ++ fragL u.hf u.frg else u.sch ++ [58] ++ u.pth
def flagsB (u : U) : Bool := (u.hq || u.qry == []) && (u.hf || u.frg == [])
def slashB : List UInt8 → Bool
  | [] => false
  | c :: _ => c == 47
def webPartsB (u : U) : Bool := onlyB u.usr [47, 63, 35, 64] && hostB u.hst && decide (0 ≤ u.prt ∧ u.prt ≤ 65535) && !(u.prt == usual u.sch) && slashB u.pth
def otherPartsB (u : U) : Bool := u.usr == [] && u.hst == [] && u.prt == 0 && !u.hq && !u.hf
def headB (u : U) : Bool := schemeB u.sch && flagsB u && onlyB u.pth [63, 35] && onlyB u.qry [35] && onlyB u.frg []
def okB (u : U) : Bool := headB u && decide ((textL u).length ≤ 100) && (if webB u.sch then webPartsB u else otherPartsB u)
def sizeU (u : U) : Nat := u.sch.length + u.usr.length + u.hst.length + u.pth.length + u.qry.length + u.frg.length
theorem textL_len (u : U) (h : u.prt ≤ 9223372036854775807) : (textL u).length ≤ sizeU u + 26 := by
  have h1 := portL_len u.prt h
  unfold textL userL queryL fragL sizeU
  repeat' split
  all_goals simp
  all_goals omega
theorem okB_eq (s us h pa q f : List UInt8) (p : Int) (hq hf : Bool) : okB ⟨s, us, h, p, pa, q, f, hq, hf⟩ = (schemeB s && ((hq || q == []) && (hf || f == [])) && onlyB pa [63, 35] && onlyB q [35] && onlyB f [] && decide ((textL ⟨s, us, h, p, pa, q, f, hq, hf⟩).length ≤ 100) &&
    (if webB s then onlyB us [47, 63, 35, 64] && hostB h && decide (0 ≤ p ∧ p ≤ 65535) && !(p == usual s) && slashB pa else us == [] && h == [] && p == 0 && !hq && !hf)) := rfl
end Go.Proofs.YtjakkmjipglkiaaDoor.Ul
namespace Go.Proofs.YtjakkmjipglkiaaDoor.Ul
/-! ### The number that a text is -/
def digV (x : UInt8) : Nat := x.toNat - 48
def valTo (n : Nat) (l : List UInt8) : Nat := l.foldl (fun n x => 10 * n + digV x) n
def valB (l : List UInt8) : Nat := valTo 0 l
def zeroB : List UInt8 → Bool
  | [] => false
  | c :: _ => c == 48
def digsB (neg : Bool) (l : List UInt8) : Bool := decide (1 ≤ l.length) && decide (l.length ≤ 18) && !(zeroB l && (decide (1 < l.length) || neg)) && l.all digB
def negB : List UInt8 → Bool
  | [] => false
  | c :: _ => c == 45
def absL (l : List UInt8) : List UInt8 := if negB l then l.tail else l
def numB (l : List UInt8) : Bool := digsB (negB l) (absL l)
def numV (l : List UInt8) : Int := if numB l then (if negB l then -(valB (absL l) : Int) else (valB (absL l) : Int)) else 0
theorem val_snoc (l : List UInt8) (x : UInt8) : valB (l ++ [x]) = 10 * valB l + digV x := by simp [valB, valTo]
theorem digV_lt (x : UInt8) (h : digB x = true) : digV x ≤ 9 := by
  simp only [digB, decide_eq_true_eq] at h
  unfold digV; omega
theorem val_lt : ∀ (k : Nat) (l : List UInt8), l.length ≤ k → l.all digB = true → valB l < 10 ^ k := by
  intro k
  induction k with
  | zero =>
    intro l h _
    have : l = [] := List.eq_nil_of_length_eq_zero (by omega)
    subst this; simp [valB, valTo]
  | succ k ih =>
    intro l h ha
    rcases List.eq_nil_or_concat l with rfl | ⟨l', x, rfl⟩
    · simp only [valB, valTo, List.foldl_nil]; exact Nat.pow_pos (by omega)
    · rw [List.concat_eq_append] at *
      rw [val_snoc]
      simp only [List.all_append, List.all_cons, List.all_nil, Bool.and_true, Bool.and_eq_true] at ha
      have := ih l' (by simp at h; omega) ha.1
      have := digV_lt x ha.2
      rw [Nat.pow_succ]; omega
/-- after k rounds of reading digits: all were digits, and n is what they make -/
def numAt (l : List UInt8) (k n : Nat) : Bool := (l.take k).all digB && decide (n = valB (l.take k))
theorem num_zero (l : List UInt8) : numAt l 0 0 = true := by simp [numAt, valB, valTo]
theorem take_one (l : List UInt8) (k : Nat) (x : UInt8) (h : k < l.length) (hx : l[k] = x) : l.take (k + 1) = l.take k ++ [x] := by
  rw [List.take_succ_eq_append_getElem h, hx]
theorem num_yes (l : List UInt8) (k n : Nat) (x : UInt8) (h : k < l.length) (hx : l[k] = x) (ht : numAt l k n = true) (hd : digB x = true) : numAt l (k + 1) (10 * n + digV x) = true := by
  simp only [numAt, Bool.and_eq_true, decide_eq_true_eq] at ht ⊢
  rw [take_one l k x h hx, val_snoc, ← ht.2]
  simp [ht.1, hd]
theorem num_lt (l : List UInt8) (k n : Nat) (hk : k ≤ 17) (ht : numAt l k n = true) : n < 100000000000000000 := by
  simp only [numAt, Bool.and_eq_true, decide_eq_true_eq] at ht
  have := val_lt k (l.take k) (List.length_take_le _ _) ht.1
  have : (10 : Nat) ^ k ≤ 10 ^ 17 := Nat.pow_le_pow_right (by omega) hk
  omega
theorem num_end (l : List UInt8) (n : Nat) (ht : numAt l l.length n = true) : l.all digB = true ∧ n = valB l := by
  simpa [numAt] using ht
theorem num_no (l : List UInt8) (k : Nat) (x : UInt8) (h : k < l.length) (hx : l[k] = x) (hd : digB x = false) : l.all digB = false := by
  rw [List.all_eq_false]
  exact ⟨x, by rw [← hx]; exact List.getElem_mem h, by simp [hd]⟩
/-! ### When a text is no number, and when it is -/
theorem numV_no (l : List UInt8) (h : numB l = false) : numV l = 0 := by simp [numV, h]
theorem num_pos (l : List UInt8) (h : negB l = false) : numB l = digsB false l ∧ (numB l = true → numV l = (valB l : Int)) := by
  have e : absL l = l := by simp [absL, h]
  refine ⟨by simp [numB, e, h], fun hb => by simp [numV, hb, h, e]⟩
theorem num_neg (r : List UInt8) : numB (45 :: r) = digsB true r ∧ (numB (45 :: r) = true → numV (45 :: r) = -(valB r : Int)) := by
  have hn : negB (45 :: r) = true := rfl
  have e : absL (45 :: r) = r := by simp [absL, hn]
  refine ⟨by simp [numB, e, hn], fun hb => by simp [numV, hb, hn, e]⟩
theorem digs_short (b : Bool) (l : List UInt8) (h : l.length < 1) : digsB b l = false := by
  have : ¬ 1 ≤ l.length := by omega
  simp [digsB, this]
theorem digs_long (b : Bool) (l : List UInt8) (h : 18 < l.length) : digsB b l = false := by
  have : ¬ l.length ≤ 18 := by omega
  simp [digsB, this]
theorem zero_at (l : List UInt8) (x : UInt8) (h : 0 < l.length) (hx : l[0] = x) : zeroB l = (x == 48) := by
  cases l with
  | nil => simp at h
  | cons c r => simp at hx; subst hx; rfl
theorem neg_at (l : List UInt8) (x : UInt8) (h : 0 < l.length) (hx : l[0] = x) : negB l = (x == 45) := by
  cases l with
  | nil => simp at h
  | cons c r => simp at hx; subst hx; rfl
theorem digs_zero (b : Bool) (l : List UInt8) (h : zeroB l = true) (h2 : 1 < l.length ∨ b = true) : digsB b l = false := by
  have : (decide (1 < l.length) || b) = true := by simpa using h2
  simp [digsB, h, this]
theorem digs_bad (b : Bool) (l : List UInt8) (h : l.all digB = false) : digsB b l = false := by simp [digsB, h]
theorem digs_good (b : Bool) (l : List UInt8) (h1 : 1 ≤ l.length) (h2 : l.length ≤ 18) (h3 : zeroB l = false ∨ (¬ 1 < l.length ∧ b = false)) (h : l.all digB = true) : digsB b l = true := by
  rcases h3 with h3 | ⟨h3, rfl⟩ <;> simp [digsB, h1, h2, h3, h]
/-! ### A text, split -/
def lowL (l : List UInt8) : List UInt8 := l.map lowC
def befL (l : List UInt8) (c : Nat) : List UInt8 := l.take (findB l c)
def aftL (l : List UInt8) (c : Nat) : List UInt8 := l.drop (findB l c + 1)
theorem bef_len (l : List UInt8) (c : Nat) : (befL l c).length ≤ l.length := by simp [befL]; omega
theorem aft_len (l : List UInt8) (c : Nat) : (aftL l c).length ≤ l.length := by simp [aftL]
theorem bef_none (l : List UInt8) (c : Nat) (h : hasB l c = false) : befL l c = l := by
  have := findB_le l c
  simp only [hasB, decide_eq_false_iff_not] at h
  exact List.take_of_length_le (by omega)
theorem aft_none (l : List UInt8) (c : Nat) (h : hasB l c = false) : aftL l c = [] := by
  have := findB_le l c
  simp only [hasB, decide_eq_false_iff_not] at h
  exact List.drop_eq_nil_of_le (by omega)
theorem low_len (l : List UInt8) : (lowL l).length = l.length := by simp [lowL]
def slash2 : List UInt8 → Bool
  | a :: b :: _ => a == 47 && b == 47
  | _ => false
def portOKB (t : List UInt8) : Bool := numB t && decide (1 ≤ numV t) && decide (numV t ≤ 65535)
def portV (s t : List UInt8) : Int := if portOKB t then (if numV t = usual s then 0 else numV t) else 0
/-- the parts of what stands between the two strokes and the path -/
def userOf (r : List UInt8) : List UInt8 := if hasB r 64 then befL r 64 else []
def behindUser (r : List UInt8) : List UInt8 := if hasB r 64 then aftL r 64 else r
def beforeQ (r : List UInt8) : List UInt8 := befL (befL r 35) 63
def siteOf (r : List UInt8) : List UInt8 := behindUser (befL (beforeQ r) 47)
def webU (s r : List UInt8) : U :=
  { sch := s, usr := userOf (befL (beforeQ r) 47), hst := lowL (befL (siteOf r) 58), prt := if hasB (siteOf r) 58 then portV s (aftL (siteOf r) 58) else 0,
    pth := 47 :: aftL (beforeQ r) 47, qry := aftL (befL r 35) 63, frg := aftL r 35, hq := hasB (befL r 35) 63, hf := hasB r 35 }
def webSplitB (r : List UInt8) : Bool := !hasB (siteOf r) 58 || portOKB (aftL (siteOf r) 58)
def otherU (s r : List UInt8) : U := { U.none with sch := s, pth := beforeQ r }
/-- what a text says, and whether it is split -/
def splitB (t : List UInt8) : Bool := hasB t 58 && (!webB (lowL (befL t 58)) || (slash2 (aftL t 58) && webSplitB ((aftL t 58).drop 2)))
def splitU (t : List UInt8) : U := if webB (lowL (befL t 58)) then webU (lowL (befL t 58)) ((aftL t 58).drop 2) else otherU (lowL (befL t 58)) (aftL t 58)
def parseB (t : List UInt8) : Bool := splitB t && okB (splitU t)
def parseU (t : List UInt8) : U := if parseB t then splitU t else U.none
end Go.Proofs.YtjakkmjipglkiaaDoor.Ul
namespace Go.Proofs.YtjakkmjipglkiaaDoor.Ul
/-! ### A byte that a text lacks -/
def lacks (l : List UInt8) (c : Nat) : Prop := ∀ x ∈ l, x.toNat ≠ c
theorem lacks_nil (c : Nat) : lacks [] c := fun _ h => by cases h
theorem lacks_app {a b : List UInt8} {c : Nat} (ha : lacks a c) (hb : lacks b c) : lacks (a ++ b) c := fun x h => by
  rcases List.mem_append.1 h with h | h
  · exact ha x h
  · exact hb x h
theorem lacks_cons {x : UInt8} {l : List UInt8} {c : Nat} (hx : x.toNat ≠ c) (h : lacks l c) : lacks (x :: l) c := fun y hy => by
  rcases List.mem_cons.1 hy with rfl | hy
  · exact hx
  · exact h y hy
theorem find_app {a : List UInt8} {c : Nat} (h : lacks a c) (b : List UInt8) : findB (a ++ b) c = a.length + findB b c := by
  induction a with
  | nil => simp
  | cons x a ih =>
    have hx : x.toNat ≠ c := h x (by simp)
    have := ih (fun y hy => h y (by simp [hy]))
    simp only [List.cons_append, findB, hx, if_false, List.length_cons]
    omega
theorem find_lack {a : List UInt8} {c : Nat} (h : lacks a c) : findB a c = a.length := by
  have := find_app h []
  simpa [findB] using this
theorem find_here {a : List UInt8} {x : UInt8} (h : lacks a x.toNat) (b : List UInt8) : findB (a ++ x :: b) x.toNat = a.length := by
  rw [find_app h]; simp [findB]
theorem cut_here {a : List UInt8} {x : UInt8} (h : lacks a x.toNat) (b : List UInt8) : befL (a ++ x :: b) x.toNat = a ∧ aftL (a ++ x :: b) x.toNat = b ∧ hasB (a ++ x :: b) x.toNat = true := by
  have := find_here h b
  refine ⟨by simp [befL, this], ?_, by simp [hasB, this]⟩
  unfold aftL
  rw [this, List.drop_append]
  simp
theorem cut_lack {a : List UInt8} {c : Nat} (h : lacks a c) : befL a c = a ∧ aftL a c = [] ∧ hasB a c = false := by
  have := find_lack h
  refine ⟨by simp [befL, this], by simp [aftL, this], by simp [hasB, this]⟩
theorem has_lack {l : List UInt8} {c : Nat} (h : hasB l c = false) : lacks l c := by
  induction l with
  | nil => exact lacks_nil c
  | cons x l ih =>
    by_cases hx : x.toNat = c
    · simp [hasB, findB, hx] at h
    · refine lacks_cons hx (ih ?_)
      simp [hasB, findB, hx] at h ⊢
      omega
theorem only_lacks {l wo : List UInt8} (h : onlyB l wo = true) (x : UInt8) (hx : x ∈ wo) : lacks l x.toNat := fun y hy e => by
  have := List.all_eq_true.1 h y hy
  simp only [onlyC, Bool.and_eq_true] at this
  have h2 : hasB wo y.toNat = false := by simpa using this.2
  have := has_lack h2 x hx
  exact this e.symm
theorem only_low {l wo : List UInt8} (h : onlyB l wo = true) {c : Nat} (hc : c < 33 ∨ 126 < c) : lacks l c := fun y hy e => by
  have := List.all_eq_true.1 h y hy
  simp only [onlyC, Bool.and_eq_true, decide_eq_true_eq] at this
  omega
/-! ### Scheme and host -/
theorem schC_ok {i : Nat} {x : UInt8} (h : schC i x = true) : x.toNat ≠ 58 ∧ lowC x = x := by
  have hr : (97 ≤ x.toNat ∧ x.toNat ≤ 122) ∨ (48 ≤ x.toNat ∧ x.toNat ≤ 57) ∨ x.toNat = 45 ∨ x.toNat = 43 ∨ x.toNat = 46 := by
    simp [schC, lowB, digB] at h
    omega
  have hu : upB x = false := by simp [upB]; omega
  exact ⟨by omega, by simp [lowC, hu]⟩
theorem schTo_ok : ∀ (l : List UInt8) (i : Nat), schTo l i = true → lacks l 58 ∧ lowL l = l
  | [], _, _ => ⟨lacks_nil _, rfl⟩
  | x :: l, i, h => by
    simp only [schTo, Bool.and_eq_true] at h
    have h1 := schC_ok h.1
    have h2 := schTo_ok l (i + 1) h.2
    refine ⟨lacks_cons h1.1 h2.1, ?_⟩
    show lowC x :: lowL l = _
    rw [h1.2, h2.2]
theorem scheme_ok {l : List UInt8} (h : schemeB l = true) : lacks l 58 ∧ lowL l = l := by
  simp only [schemeB, Bool.and_eq_true] at h
  exact schTo_ok l 0 h.2
theorem host_ok : ∀ (l : List UInt8) (b : Bool), hostTo l b = true → (∀ x ∈ l, plainB x = true ∨ jointB x = true)
  | [], _, _ => fun x h => by cases h
  | x :: l, b, h => by
    simp only [hostTo] at h
    intro y hy
    by_cases hp : plainB x = true
    · rw [if_pos hp] at h
      rcases List.mem_cons.1 hy with rfl | hy
      · exact .inl hp
      · exact host_ok l _ h y hy
    · rw [if_neg hp] at h
      by_cases hj : (jointB x && !b) = true
      · rw [if_pos hj] at h
        rcases List.mem_cons.1 hy with rfl | hy
        · simp only [Bool.and_eq_true] at hj; exact .inr hj.1
        · exact host_ok l _ h y hy
      · rw [if_neg hj] at h; cases h
theorem host_byte {x : UInt8} (h : plainB x = true ∨ jointB x = true) : ((97 ≤ x.toNat ∧ x.toNat ≤ 122) ∨ (48 ≤ x.toNat ∧ x.toNat ≤ 57) ∨ x.toNat = 45 ∨ x.toNat = 46) := by
  simp [plainB, lowB, digB, jointB] at h
  omega
theorem host_lacks {l : List UInt8} (h : hostB l = true) {c : Nat} (hc : c = 35 ∨ c = 63 ∨ c = 47 ∨ c = 64 ∨ c = 58) : lacks l c := fun x hx e => by
  have := host_byte (host_ok l true h x hx)
  omega
theorem host_low {l : List UInt8} (h : hostB l = true) : lowL l = l := by
  have : ∀ x ∈ l, lowC x = x := fun x hx => by
    have := host_byte (host_ok l true h x hx)
    have hu : upB x = false := by simp [upB]; omega
    simp [lowC, hu]
  unfold lowL
  conv => rhs; rw [← List.map_id l]
  exact List.map_congr_left this
/-! ### A number's digits are read back -/
theorem digit_byte (d : Nat) (h : d < 10) : (UInt8.ofNat (48 + d)).toNat = 48 + d := by
  simp; omega
theorem dec_read : ∀ (k n : Nat), n < 10 ^ (k + 1) → (Lib.decDigits n).all digB = true ∧ valB (Lib.decDigits n) = n ∧ 1 ≤ (Lib.decDigits n).length ∧ (1 ≤ n → zeroB (Lib.decDigits n) = false)
  | 0, n, h => by
    have hn : n < 10 := by omega
    rw [Lib.decDigits_one hn]
    have e := digit_byte n hn
    refine ⟨by simp [digB]; omega, by simp [valB, valTo, digV]; omega, by simp, fun h1 => ?_⟩
    simp only [zeroB]
    rw [beq_eq_false_iff_ne]
    intro e2
    rw [e2] at e
    simp at e
    omega
  | k + 1, n, h => by
    by_cases h1 : n < 10
    · exact dec_read 0 n (by omega)
    · have ih := dec_read k (n / 10) (by rw [Nat.pow_succ] at h; omega)
      have e := digit_byte (n % 10) (by omega)
      rw [Lib.decDigits, dif_neg h1]
      refine ⟨by simp [ih.1, digB]; omega, ?_, by simp, fun _ => ?_⟩
      · rw [val_snoc, ih.2.1]; simp only [digV, e]; omega
      · cases hd : Lib.decDigits (n / 10) with
        | nil => rw [hd] at ih; simp at ih
        | cons c r =>
          have := ih.2.2.2 (by omega)
          rw [hd] at this
          simpa [zeroB] using this
theorem port_read (n : Nat) (h1 : 1 ≤ n) (h2 : n ≤ 65535) : numB (Lib.decDigits n) = true ∧ numV (Lib.decDigits n) = n := by
  have hd := dec_read 4 n (by omega)
  have hl := digs_len 4 n (by omega)
  have hn : negB (Lib.decDigits n) = false := by
    cases hc : Lib.decDigits n with
    | nil => rfl
    | cons c r =>
      have := hd.1
      rw [hc] at this
      simp only [List.all_cons, Bool.and_eq_true] at this
      simp only [negB]
      rw [beq_eq_false_iff_ne]
      intro e
      rw [e] at this
      exact absurd this.1 (by decide)
  have hp := num_pos _ hn
  have hb : numB (Lib.decDigits n) = true := by
    rw [hp.1]
    exact digs_good false _ hd.2.2.1 (by omega) (.inl (hd.2.2.2 h1)) hd.1
  exact ⟨hb, by rw [hp.2 hb, hd.2.1]⟩
theorem dec_lacks (n : Nat) (h2 : n ≤ 65535) {c : Nat} (hc : c < 48 ∨ 57 < c) : lacks (Lib.decDigits n) c := fun x hx e => by
  have := List.all_eq_true.1 (dec_read 4 n (by omega)).1 x hx
  simp [digB] at this
  omega
/-! ### The whole text -/
theorem userL_lacks {l : List UInt8} {c : Nat} (h : lacks l c) (hc : c ≠ 64) : lacks (userL l) c := by
  unfold userL
  split
  · exact lacks_nil c
  · exact lacks_app h (lacks_cons (by simp; omega) (lacks_nil c))
theorem portL_lacks {p : Int} (h2 : p ≤ 65535) {c : Nat} (hc : c < 48 ∨ 58 < c) : lacks (portL p) c := by
  unfold portL
  split
  · exact lacks_cons (by simp; omega) (dec_lacks p.toNat (by omega) (by omega))
  · exact lacks_nil c
theorem cut_frag {a l : List UInt8} {b : Bool} (ha : lacks a 35) (h : b = true ∨ l = []) : befL (a ++ fragL b l) 35 = a ∧ aftL (a ++ fragL b l) 35 = l ∧ hasB (a ++ fragL b l) 35 = b := by
  cases b with
  | true => exact cut_here (x := 35) ha l
  | false =>
    obtain rfl : l = [] := h.resolve_left (by simp)
    simpa [fragL] using cut_lack ha
theorem cut_query {a l : List UInt8} {b : Bool} (ha : lacks a 63) (h : b = true ∨ l = []) : befL (a ++ queryL b l) 63 = a ∧ aftL (a ++ queryL b l) 63 = l ∧ hasB (a ++ queryL b l) 63 = b := by
  cases b with
  | true => exact cut_here (x := 63) ha l
  | false =>
    obtain rfl : l = [] := h.resolve_left (by simp)
    simpa [queryL] using cut_lack ha
theorem cut_user {u r : List UInt8} (hu : lacks u 64) (hr : lacks r 64) : userOf (userL u ++ r) = u ∧ behindUser (userL u ++ r) = r := by
  by_cases h : u = []
  · subst h
    have e : userL [] ++ r = r := by simp [userL]
    rw [e]
    have := cut_lack hr
    exact ⟨by simp [userOf, this.2.2], by simp [behindUser, this.2.2]⟩
  · have e : userL u ++ r = u ++ 64 :: r := by simp [userL, h]
    rw [e]
    have := cut_here (x := 64) hu r
    have h1 : befL (u ++ 64 :: r) 64 = u := this.1
    have h2 : aftL (u ++ 64 :: r) 64 = r := this.2.1
    have h3 : hasB (u ++ 64 :: r) 64 = true := this.2.2
    exact ⟨by simp [userOf, h1, h3], by simp [behindUser, h2, h3]⟩
theorem cut_port {h s : List UInt8} {p : Int} (hh : lacks h 58) (h0 : 0 ≤ p) (h2 : p ≤ 65535) (hne : p ≠ usual s) :
    befL (h ++ portL p) 58 = h ∧ (if hasB (h ++ portL p) 58 then portV s (aftL (h ++ portL p) 58) else 0) = p ∧ (hasB (h ++ portL p) 58 = true → portOKB (aftL (h ++ portL p) 58) = true) := by
  by_cases hp : 0 < p
  · obtain ⟨n, rfl⟩ := Int.eq_ofNat_of_zero_le h0
    have e : portL (n : Int) = 58 :: Lib.decDigits n := by simp [portL]; omega
    rw [e]
    have := cut_here (x := 58) hh (Lib.decDigits n)
    have h1 : befL (h ++ 58 :: Lib.decDigits n) 58 = h := this.1
    have h2' : aftL (h ++ 58 :: Lib.decDigits n) 58 = Lib.decDigits n := this.2.1
    have h3 : hasB (h ++ 58 :: Lib.decDigits n) 58 = true := this.2.2
    have hr := port_read n (by omega) (by omega)
    have ho : portOKB (Lib.decDigits n) = true := by
      simp only [portOKB, hr.1, hr.2, Bool.true_and, Bool.and_eq_true, decide_eq_true_eq]
      omega
    rw [h1, h2', h3]
    refine ⟨rfl, ?_, fun _ => ho⟩
    simp only [if_true, portV, ho, hr.2]
    rw [if_neg hne]
  · obtain rfl : p = 0 := by omega
    have e : portL 0 = [] := by simp [portL]
    rw [e, List.append_nil]
    have := cut_lack hh
    rw [this.1, this.2.2]
    exact ⟨rfl, by simp, by simp⟩
theorem parse_text (u : U) (hok : okB u = true) : splitB (textL u) = true ∧ splitU (textL u) = u := by
  obtain ⟨s, us, h, p, pa, q, f, hq, hf⟩ := u
  simp only [okB, headB, flagsB, Bool.and_eq_true, Bool.or_eq_true, decide_eq_true_eq, beq_iff_eq] at hok
  obtain ⟨⟨⟨⟨⟨⟨hs, hq1, hf1⟩, hpa⟩, hqr⟩, hfr⟩, _⟩, hparts⟩ := hok
  obtain ⟨hs58, hslow⟩ := scheme_ok hs
  cases hw : webB s with
  | true =>
    rw [hw, if_pos rfl] at hparts
    simp only [webPartsB, Bool.and_eq_true, decide_eq_true_eq, Bool.not_eq_true', beq_eq_false_iff_ne] at hparts
    obtain ⟨⟨⟨⟨hus, hh⟩, hp1, hp2⟩, hpu⟩, hsl⟩ := hparts
    obtain ⟨pr, rfl⟩ : ∃ pr, pa = 47 :: pr := by
      cases pa with
      | nil => cases hsl
      | cons c pr => exact ⟨pr, by simp [slashB] at hsl; rw [hsl]⟩
    have e : textL ⟨s, us, h, p, 47 :: pr, q, f, hq, hf⟩ = s ++ 58 :: (47 :: 47 :: (((userL us ++ (h ++ portL p)) ++ 47 :: pr) ++ queryL hq q ++ fragL hf f)) := by
      simp [textL, hw]
    have c1 := cut_here (x := 58) hs58 (47 :: 47 :: (((userL us ++ (h ++ portL p)) ++ 47 :: pr) ++ queryL hq q ++ fragL hf f))
    have c1a : befL (textL ⟨s, us, h, p, 47 :: pr, q, f, hq, hf⟩) 58 = s := by rw [e]; exact c1.1
    have c1b : aftL (textL ⟨s, us, h, p, 47 :: pr, q, f, hq, hf⟩) 58 = 47 :: 47 :: (((userL us ++ (h ++ portL p)) ++ 47 :: pr) ++ queryL hq q ++ fragL hf f) := by rw [e]; exact c1.2.1
    have c1c : hasB (textL ⟨s, us, h, p, 47 :: pr, q, f, hq, hf⟩) 58 = true := by rw [e]; exact c1.2.2
    have l35 : lacks (((userL us ++ (h ++ portL p)) ++ 47 :: pr) ++ queryL hq q) 35 := by
      refine lacks_app (lacks_app (lacks_app (userL_lacks (only_lacks hus 35 (by simp)) (by decide)) (lacks_app (host_lacks hh (by simp)) (portL_lacks hp2 (by omega)))) (only_lacks hpa 35 (by simp))) ?_
      unfold queryL
      split
      · exact lacks_cons (by decide) (only_lacks hqr 35 (by simp))
      · exact lacks_nil _
    have l63 : lacks ((userL us ++ (h ++ portL p)) ++ 47 :: pr) 63 :=
      lacks_app (lacks_app (userL_lacks (only_lacks hus 63 (by simp)) (by decide)) (lacks_app (host_lacks hh (by simp)) (portL_lacks hp2 (by omega)))) (only_lacks hpa 63 (by simp))
    have l47 : lacks (userL us ++ (h ++ portL p)) 47 :=
      lacks_app (userL_lacks (only_lacks hus 47 (by simp)) (by decide)) (lacks_app (host_lacks hh (by simp)) (portL_lacks hp2 (by omega)))
    have l64 : lacks (h ++ portL p) 64 := lacks_app (host_lacks hh (by simp)) (portL_lacks hp2 (by omega))
    have c2 := cut_frag l35 hf1
    have c3 := cut_query l63 hq1
    have c4 := cut_here (x := 47) l47 pr
    have c4a : befL ((userL us ++ (h ++ portL p)) ++ 47 :: pr) 47 = userL us ++ (h ++ portL p) := c4.1
    have c4b : aftL ((userL us ++ (h ++ portL p)) ++ 47 :: pr) 47 = pr := c4.2.1
    have c5 := cut_user (only_lacks hus 64 (by simp)) l64
    have c6 := cut_port (s := s) (host_lacks hh (by simp)) hp1 hp2 hpu
    have e2 : beforeQ (((userL us ++ (h ++ portL p)) ++ 47 :: pr) ++ queryL hq q ++ fragL hf f) = (userL us ++ (h ++ portL p)) ++ 47 :: pr := by
      unfold beforeQ; rw [c2.1, c3.1]
    have e3 : siteOf (((userL us ++ (h ++ portL p)) ++ 47 :: pr) ++ queryL hq q ++ fragL hf f) = h ++ portL p := by
      unfold siteOf; rw [e2, c4a, c5.2]
    refine ⟨?_, ?_⟩
    · unfold splitB
      rw [c1a, c1b, c1c, hslow, hw]
      simp only [slash2, List.drop_succ_cons, List.drop_zero, webSplitB, e3]
      cases hb : hasB (h ++ portL p) 58 with
      | false => simp
      | true => simp [c6.2.2 hb]
    · unfold splitU
      rw [c1a, c1b, hslow, hw]
      simp only [if_true, List.drop_succ_cons, List.drop_zero, webU, e2, e3, c2.1, c2.2.1, c2.2.2, c3.2.1, c3.2.2, c4a, c4b, c5.1, c6.1, c6.2.1, host_low hh]
  | false =>
    rw [hw] at hparts
    simp only [Bool.false_eq_true, if_false, otherPartsB, Bool.and_eq_true, beq_iff_eq, Bool.not_eq_true'] at hparts
    obtain ⟨⟨⟨⟨rfl, rfl⟩, rfl⟩, rfl⟩, rfl⟩ := hparts
    obtain rfl : q = [] := hq1.resolve_left (by simp)
    obtain rfl : f = [] := hf1.resolve_left (by simp)
    have e : textL ⟨s, [], [], 0, pa, [], [], false, false⟩ = s ++ 58 :: pa := by simp [textL, hw]
    have c1 := cut_here (x := 58) hs58 pa
    have c1a : befL (s ++ 58 :: pa) 58 = s := c1.1
    have c1b : aftL (s ++ 58 :: pa) 58 = pa := c1.2.1
    have c1c : hasB (s ++ 58 :: pa) 58 = true := c1.2.2
    have c2 := cut_lack (only_lacks hpa 35 (by simp))
    have c3 := cut_lack (only_lacks hpa 63 (by simp))
    have c2a : befL pa 35 = pa := c2.1
    have c3a : befL pa 63 = pa := c3.1
    rw [e]
    refine ⟨?_, ?_⟩
    · unfold splitB
      rw [c1a, c1c, hslow, hw]; rfl
    · unfold splitU
      rw [c1a, c1b, hslow, hw]
      simp [otherU, beforeQ, c2a, c3a, U.none]
theorem parse_back (u : U) (hok : okB u = true) : parseB (textL u) = true ∧ parseU (textL u) = u := by
  obtain ⟨h1, h2⟩ := parse_text u hok
  have hb : parseB (textL u) = true := by unfold parseB; rw [h1, h2, hok]; rfl
  exact ⟨hb, by simp [parseU, hb, h2]⟩
theorem text_len (u : U) (hok : okB u = true) : (textL u).length ≤ 100 := by
  simp only [okB, Bool.and_eq_true, decide_eq_true_eq] at hok
  exact hok.1.2
end Go.Proofs.YtjakkmjipglkiaaDoor.Ul
