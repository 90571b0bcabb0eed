
/-
  URLs, plainly: the value of nine fields, its text, what is asked of it. No program is named here.
-/
import Derived.Test.YtniflfgnelfpbaaUrlPlain
import Derived.Lib.ItoaNum
namespace Go.Proofs.Ytniflfgnelfpbaa.Ul
theorem digs_len : ∀ (k n : Nat), n < 10 ^ (k + 1) → (Lib.decDigits n).length ≤ k + 1
  | 0, n, h => by rw [Lib.decDigits_one (by omega)]; simp
  | k + 1, n, h => by
    by_cases h1 : n < 10
    · rw [Lib.decDigits_one h1]; simp
    · have ih := digs_len k (n / 10) (by rw [Nat.pow_succ] at h; omega)
      rw [Lib.decDigits, dif_neg h1]
      simp; omega
structure U where
  sch : List UInt8
  usr : List UInt8
  hst : List UInt8
  prt : Int
  pth : List UInt8
  qry : List UInt8
  frg : List UInt8
  hq : Bool
  hf : Bool
def U.none : U := ⟨[], [], [], 0, [], [], [], false, false⟩
def portL (p : Int) : List UInt8 := if 0 < p then 58 :: Lib.decDigits p.toNat else []
theorem portL_no {p : Int} (h : ¬ 0 < p) : portL p = [] := by simp [portL, h]
theorem portL_len (p : Int) (h : p ≤ 9223372036854775807) : (portL p).length ≤ 20 := by
  unfold portL
  split
  · have := digs_len 18 p.toNat (by omega)
    simp; omega
  · simp
def siteL (s h : List UInt8) (p : Int) : List UInt8 := s ++ [58, 47, 47] ++ h ++ portL p
def userL (l : List UInt8) : List UInt8 := if l = [] then [] else l ++ [64]
def queryL (b : Bool) (l : List UInt8) : List UInt8 := if b then 63 :: l else []
def fragL (b : Bool) (l : List UInt8) : List UInt8 := if b then 35 :: l else []
def textL (u : U) : List UInt8 := if webB u.sch then u.sch ++ [58, 47, 47] ++ userL u.usr ++ (u.hst ++ portL u.prt ++ u.pth) ++ queryL u.hq u.qry ++ fragL u.hf u.frg else u.sch ++ [58] ++ u.pth
def flagsB (u : U) : Bool := (u.hq || u.qry == []) && (u.hf || u.frg == [])
def slashB : List UInt8 → Bool
  | [] => false
  | c :: _ => c == 47
def webPartsB (u : U) : Bool := onlyB u.usr [47, 63, 35, 64] && hostB u.hst && decide (0 ≤ u.prt ∧ u.prt ≤ 65535) && !(u.prt == usual u.sch) && slashB u.pth
def otherPartsB (u : U) : Bool := u.usr == [] && u.hst == [] && u.prt == 0 && !u.hq && !u.hf
def headB (u : U) : Bool := schemeB u.sch && flagsB u && onlyB u.pth [63, 35] && onlyB u.qry [35] && onlyB u.frg []
def okB (u : U) : Bool := headB u && decide ((textL u).length ≤ 100) && (if webB u.sch then webPartsB u else otherPartsB u)
def sizeU (u : U) : Nat := u.sch.length + u.usr.length + u.hst.length + u.pth.length + u.qry.length + u.frg.length
theorem textL_len (u : U) (h : u.prt ≤ 9223372036854775807) : (textL u).length ≤ sizeU u + 26 := by
  have h1 := portL_len u.prt h
  unfold textL userL queryL fragL sizeU
  repeat' split
  all_goals simp
  all_goals omega
theorem okB_eq (s us h pa q f : List UInt8) (p : Int) (hq hf : Bool) : okB ⟨s, us, h, p, pa, q, f, hq, hf⟩ = (schemeB s && ((hq || q == []) && (hf || f == [])) && onlyB pa [63, 35] && onlyB q [35] && onlyB f [] && decide ((textL ⟨s, us, h, p, pa, q, f, hq, hf⟩).length ≤ 100) &&
    (if webB s then onlyB us [47, 63, 35, 64] && hostB h && decide (0 ≤ p ∧ p ≤ 65535) && !(p == usual s) && slashB pa else us == [] && h == [] && p == 0 && !hq && !hf)) := rfl
end Go.Proofs.Ytniflfgnelfpbaa.Ul
