
/-
  The law on StripText, walked.
-/
import Derived.Test.YtmdplphjbgghoaaGreatDoorUrlLawF
import Derived.Test.YtmdplphjbgghoaaGreatDoorUrlLawC
namespace Go.Proofs.YtmdplphjbgghoaaGreatDoor.Ul
open Go.RowKit
def stripL (u : U) : List UInt8 := if webB u.sch then textL ⟨u.sch, [], u.hst, u.prt, u.pth, u.qry, [], u.hq, false⟩ else u.sch
def stripO (u : U) : List UInt8 := if okB u then stripL u else []
def stripC (u : U) : Int := if okB u then 0 else 1
def ST (t : List UInt8) : List UInt8 := if 65536 < t.length then [] else if parseB t then stripL (parseU t) else []
theorem ok_none : okB U.none = false := by decide
theorem st_pu (t : List UInt8) : ST t = stripO (PU t) := by
  unfold ST PU stripO
  by_cases h : 65536 < t.length
  · simp [h, ok_none]
  · simp only [h, if_false]
    cases hb : parseB t with
    | false => simp [parseU, hb, ok_none]
    | true =>
      have hb' := hb
      unfold parseB at hb'
      simp only [Bool.and_eq_true] at hb'
      have e : parseU t = splitU t := by simp [parseU, hb]
      simp [e, hb'.2]
theorem split_size (t : List UInt8) (hl : t.length ≤ 4294967280) : sizeU (parseX t) ≤ 140737488351232 := by
  unfold parseX
  have h1 := bef_len t 58
  have h2 := low_len (befL t 58)
  have h3 := aft_len t 58
  cases hs : splitB t with
  | false => simp [sizeU, U.none]
  | true =>
    have hsp := hs
    rw [split_sp] at hsp
    simp only [Bool.and_eq_true] at hsp
    simp only [if_true]
    rw [split_spU t hsp.2]
    exact spU_size _ _ (by omega) (by omega)
theorem PU_size (t : List UInt8) : sizeU (PU t) ≤ 140737488351232 := by
  unfold PU
  split
  · simp [sizeU, U.none]
  · unfold parseU
    cases hb : parseB t with
    | false => simp [sizeU, U.none]
    | true =>
      have hb' := hb
      unfold parseB at hb'
      simp only [Bool.and_eq_true] at hb'
      have := split_size t (by omega)
      simpa [parseX, hb'.1] using this
theorem parseX_port (t : List UInt8) : (parseX t).prt ≤ 9223372036854775807 := by
  unfold parseX
  split
  · unfold splitU
    split
    · exact webU_port _ _
    · simp [otherU, U.none]
  · simp [U.none]
end Go.Proofs.YtmdplphjbgghoaaGreatDoor.Ul
