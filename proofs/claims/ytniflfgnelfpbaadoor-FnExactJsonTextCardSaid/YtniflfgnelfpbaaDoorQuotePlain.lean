
/-
  Quoted text, plainly. No program is named here.
-/
import Derived.Below
import Derived.Lib.Strings
namespace Go.Proofs.YtniflfgnelfpbaaDoor.Bl
def hexd (n : Nat) : UInt8 := if n < 10 then UInt8.ofNat (48 + n) else UInt8.ofNat (87 + n)
def plainQ (x : UInt8) : Bool := decide (32 ≤ x.toNat ∧ x.toNat ≤ 126)
def markQ (x : UInt8) : Bool := decide (x.toNat = 34 ∨ x.toNat = 92)
def quoteC (x : UInt8) : List UInt8 := if markQ x then [92, x] else if plainQ x then [x] else [92, 117, 48, 48, hexd (x.toNat / 16), hexd (x.toNat % 16)]
def quoteTo (l : List UInt8) : List UInt8 := 34 :: l.flatMap quoteC
def quoteL (l : List UInt8) : List UInt8 := quoteTo l ++ [34]
theorem quoteC_le (x : UInt8) : (quoteC x).length ≤ 6 := by unfold quoteC; split; simp; split <;> simp
theorem quote_le : ∀ (l : List UInt8), (quoteTo l).length ≤ 6 * l.length + 1
  | [] => by simp [quoteTo]
  | x :: l => by
    have := quote_le l
    have := quoteC_le x
    simp [quoteTo] at *
    omega
theorem quote_take (l : List UInt8) (k : Nat) (x : UInt8) (h : k < l.length) (hx : l[k] = x) : quoteTo (l.take (k + 1)) = quoteTo (l.take k) ++ quoteC x := by
  rw [List.take_succ_eq_append_getElem h, hx]; simp [quoteTo]
theorem q_mark {x : UInt8} (h : x.toNat = 34 ∨ x.toNat = 92) : quoteC x = [92, x] := by simp [quoteC, markQ, h]
theorem q_plain {x : UInt8} (h : ¬ (x.toNat = 34 ∨ x.toNat = 92)) (h2 : 32 ≤ x.toNat ∧ x.toNat ≤ 126) : quoteC x = [x] := by
  have : markQ x = false := by simp [markQ]; omega
  have e : plainQ x = true := by simp [plainQ, h2]
  simp [quoteC, this, e]
theorem q_hex {x : UInt8} (h2 : ¬ (32 ≤ x.toNat ∧ x.toNat ≤ 126)) : quoteC x = [92, 117, 48, 48, hexd (x.toNat / 16), hexd (x.toNat % 16)] := by
  have : markQ x = false := by simp [markQ]; omega
  have e : plainQ x = false := by simp [plainQ]; omega
  simp [quoteC, this, e]
def hexS : List UInt8 := [48, 49, 50, 51, 52, 53, 54, 55, 56, 57, 97, 98, 99, 100, 101, 102]
theorem hex_at (n : Nat) (h : n < 16) : ∀ h' : n < (⟨#[48, 49, 50, 51, 52, 53, 54, 55, 56, 57, 97, 98, 99, 100, 101, 102]⟩ : ByteArray).size, (⟨#[48, 49, 50, 51, 52, 53, 54, 55, 56, 57, 97, 98, 99, 100, 101, 102]⟩ : ByteArray)[n] = hexd n := by
  intro h'
  have : ∀ m : Fin 16, (⟨#[48, 49, 50, 51, 52, 53, 54, 55, 56, 57, 97, 98, 99, 100, 101, 102]⟩ : ByteArray)[m.val]'(by exact m.2) = hexd m.val := by decide
  exact this ⟨n, h⟩
end Go.Proofs.YtniflfgnelfpbaaDoor.Bl
