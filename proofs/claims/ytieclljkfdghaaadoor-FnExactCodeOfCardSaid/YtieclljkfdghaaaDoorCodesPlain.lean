/-
  The words of the codes, as bytes; which code a word has. No program is named here.
-/
import Derived.Below
import Derived.Lib.Strings
import Derived.LaidMore
import Derived.Lib.LaidTab
namespace Go.Proofs.YtieclljkfdghaaaDoor.Cd
def words : List (List UInt8) := [[111, 107], [98, 97, 100], [108, 111, 110, 103], [102, 111, 114, 109], [114, 97, 110, 103, 101], [110, 111, 110, 101], [109, 97, 110, 121], [102, 117, 108, 108], [115, 105, 122, 101], [107, 105, 110, 100], [110, 97, 109, 101], [115, 99, 104, 101, 109, 101], [100, 101, 101, 112], [97, 103, 97, 105, 110], [108, 97, 116, 101, 114], [103, 111, 110, 101], [111, 114, 100, 101, 114], [115, 116, 97, 116, 101], [115, 97, 109, 101]]
def wordL (i : Nat) : List UInt8 := words.getD i []
/-- The word of a code, empty where there is none. -/
def wordOf (c : Int) : List UInt8 := if 0 ≤ c ∧ c < 19 then wordL c.toNat else []
theorem wordOf_in (i : Nat) (h : i < 19) : wordOf (i : Int) = wordL i := by
  unfold wordOf
  rw [if_pos (by omega), Int.toNat_natCast]
theorem wordOf_out (c : Int) (h : c < 0 ∨ 19 ≤ c) : wordOf c = [] := by
  unfold wordOf
  rw [if_neg (by omega)]
/-- The code of a word, from k on; -1 where there is none. -/
def codeFrom (l : List UInt8) : Nat → Nat → Int
  | 0, _ => -1
  | n + 1, k => if wordL k == l then (k : Int) else codeFrom l n (k + 1)
def codeOf (l : List UInt8) : Int := codeFrom l 19 0
/-- None of the first k words is l. -/
def noneTo (l : List UInt8) (k : Nat) : Bool := decide (codeFrom l (19 - k) k = codeOf l)
theorem none_zero (l : List UInt8) : noneTo l 0 = true := by simp [noneTo, codeOf]
theorem none_succ (l : List UInt8) (k : Nat) (hk : k < 19) (h : noneTo l k = true) (hc : (wordL k == l) = false) : noneTo l (k + 1) = true := by
  simp only [noneTo, decide_eq_true_eq] at h ⊢
  rw [← h, show 19 - k = (19 - (k + 1)) + 1 from by omega]
  simp [codeFrom, hc]
theorem found (l : List UInt8) (k : Nat) (hk : k < 19) (h : noneTo l k = true) (hc : (wordL k == l) = true) : codeOf l = k := by
  simp only [noneTo, decide_eq_true_eq] at h
  rw [← h, show 19 - k = (19 - (k + 1)) + 1 from by omega]
  simp [codeFrom, hc]
theorem not_found (l : List UInt8) (h : noneTo l 19 = true) : codeOf l = -1 := by
  simp only [noneTo, decide_eq_true_eq] at h
  rw [← h]
  rfl
section
variable {H : Type} {enc : TypeId × Value → H} {P : Program}
/-- An array of strings that reads as these texts holds them, cell for cell. -/
theorem cells_of_texts {w : World} {base : Nat} {sp : Nat → Bool} {held : Bool} {fuel : Nat} {t e : TypeId} {n : Nat} {cs : List Value} {zs : List (List UInt8)} {p : List MemPlace}
    (ht : P.underlying t = some (.array n e)) (he : P.underlying e = some .string) (hce : P.cellsOf e = 1) (hct : P.cellsOf t = n)
    (h : DataW.trod enc P w base sp held fuel t cs = some (.agg (zs.map fun z => .lit (.string z)), p)) : cs = zs.map fun z => Value.string ⟨z.toArray⟩ := by
  cases fuel with
  | zero => simp [DataW.trod] at h
  | succ fuel =>
    simp only [DataW.trod, ht, hce, hct, Nat.mul_one] at h
    split at h
    · rename_i hl
      obtain ⟨xs, hm, hx⟩ := Option.map_eq_some_iff.1 h
      have hxs : xs.map (·.1) = zs.map fun z => (DataW.lit (.string z) : DataW H) := by
        have := congrArg Prod.fst hx
        simpa using this
      have hxl : xs.length = n := by simpa using Lib.mapM_length hm
      have hzl : zs.length = n := by
        have := congrArg List.length hxs
        simp at this
        omega
      apply List.ext_getElem?
      intro i
      by_cases hi : i < n
      · obtain ⟨b, hb, hf⟩ := Lib.mapM_at hm i i (by simp [hi])
        obtain ⟨z, hc, rfl, _⟩ := DataW.trod_string he hf
        have h1 : cs[i]? = some (.string z) := by
          have := congrArg (·[0]?) hc
          simpa [List.getElem?_take, List.getElem?_drop] using this
        have h2 : (xs.map (·.1))[i]? = some (DataW.lit (.string z.data.toList) : DataW H) := by simp [hb]
        rw [hxs] at h2
        simp only [List.getElem?_map, Option.map_eq_some_iff, DataW.lit.injEq, Lit.string.injEq] at h2
        obtain ⟨z', hz', rfl⟩ := h2
        simp [h1, hz']
      · rw [List.getElem?_eq_none (by omega), List.getElem?_eq_none (by simp; omega)]
    · cases h
end
end Go.Proofs.YtieclljkfdghaaaDoor.Cd
