
/-
  Is a text in a list: the model's l01Has.
-/
import Derived.Test.YtniflfgnelfpbaaJsEqS
namespace Go.Proofs.Ytniflfgnelfpbaa.Js
open Go.RowKit
theorem TxtsIn.take {S : Nat → Prop} {w : World} {a : Option Addr} {n cap : Nat} {ns : List (List UInt8)} (h : TxtsIn S w (.slice a n cap) ns) (k : Nat) (hk : k ≤ ns.length) : TxtsIn S w (.slice a k cap) (ns.take k) := by
  obtain ⟨a', cap', b, off, e, h1, h2, h3, h4, h5⟩ := h
  obtain ⟨rfl, rfl, rfl⟩ := by simpa using e
  have hl : (ns.take k).length = k := by simp; omega
  have hg : ∀ i, i < k → (ns.take k).getD i [] = ns.getD i [] := fun i hi => by simp [List.getD, hi]
  refine ⟨a, cap, b, off, by rw [hl], by omega, h2, ?_, ?_, ?_⟩
  · rw [hl]; intro i hi; rw [hg i hi]; exact h3 i (by omega)
  · rw [hl]; intro hp; exact h4 (by omega)
  · rw [hl]; intro i hi; rw [hg i hi]; exact h5 i (by omega)
theorem has_drop {ns : List (List UInt8)} {t : List UInt8} (k : Nat) (hk : k < ns.length) : (ns.drop k).contains t = ((ns.getD k [] == t) || (ns.drop (k + 1)).contains t) := by
  rw [List.drop_eq_getElem_cons hk, List.contains_cons]
  simp only [List.getD_eq_getElem?_getD, List.getElem?_eq_getElem hk, Option.getD_some]
  rw [Bool.beq_comm]
theorem namesB_get {ns : List (List UInt8)} (k : Nat) (hx : k < ns.length) : namesB (ns.take k) (ns.drop k) = ((decide ((ns.getD k []).length ≤ 120) && !((ns.take k).contains (ns.getD k []))) && namesB (ns.take (k + 1)) (ns.drop (k + 1))) := by
  rw [List.drop_eq_getElem_cons hx, namesB]
  have : ns.take k ++ [ns[k]] = ns.take (k + 1) := by rw [List.take_succ_eq_append_getElem hx]
  rw [this]
  simp [hx]
set_option maxRecDepth 100000 in
set_option maxHeartbeats 1000000 in
theorem hasS_any (S : Nat → Prop) (ns : List (List UInt8)) (t : List UInt8) (v : Value) (w : World) (h1 : TxtsIn S w v ns) :
    Calls Try.prog 38 #[v, .string ⟨t.toArray⟩] w fun e w' => e = .returned (.bool (ns.contains t)) ∧ w = w' := by
  obtain ⟨a, cap, b, off, rfl, hcap, hm, hlen, ha, hc⟩ := h1
  have hn : ns.length ≤ 9223372036854775807 := by omega
  have HC := Lib.hid hc
  have HA := Lib.hid ha
  clear hc ha hlen
  obtain ⟨r, hr⟩ : ∃ r, ns.contains t = r := ⟨_, rfl⟩
  have HRR := Lib.hid hr
  rw [hr]
  clear hr
  go_enter Try.func38, Try.ntmps38
  go_wp2
  go_loop [5] (fun i => ∃ k : Nat, k ≤ ns.length ∧ i = .int .i64 k ∧ r = (ns.drop k).contains t) (fun i => ns.length - (intOf i).toNat)
  case atStart => exact ⟨0, by omega, rfl, HRR.out.symm⟩
  case round =>
    obtain ⟨k, hk, rfl, hE⟩ := hrel
    have HE := Lib.hid hE
    clear hE
    by_cases hlt : k < ns.length
    · obtain ⟨ea, _⟩ := HA.out (by omega)
      subst ea
      have q0 := HC.out k hlt
      have D := Lib.hid (has_drop (t := t) k hlt)
      generalize ns.getD k [] = x at *
      by_cases ht : (x == t) = true
      · have D2 := Lib.hid (D.out.trans (by rw [ht, Bool.true_or]))
        obtain rfl : x = t := by simpa using ht
        clear ht
        go_wp2
        go_ret
        exact ⟨ret_b (by rw [HE.out, D2.out]), rfl⟩
      · have ht : (x == t) = false := by simpa using ht
        have D2 := Lib.hid (D.out.trans (by rw [ht, Bool.false_or]))
        go_wp2
        go_round
        case rel => exact ⟨k + 1, by omega, by go_num, by rw [HE.out, D2.out]⟩
        case measure => simp [intOf]; omega
    · go_wp2
      go_ret
      obtain rfl : k = ns.length := by omega
      exact ⟨ret_b (by rw [HE.out, List.drop_length]; rfl), rfl⟩
end Go.Proofs.Ytniflfgnelfpbaa.Js
