
/-
  A JSON value as the program holds it: an interface value, its lists and names; and the small functions that build one: numberOK, namesOK, strings.Clone.
-/
import Derived.Test.YtniflfgnelfpbaaJsEqI
import Derived.Test.YtniflfgnelfpbaaJsHas
import Derived.Test.YtniflfgnelfpbaaExt
import Derived.Test.YtniflfgnelfpbaaShelf
import Derived.Laws.AppendOwn
namespace Go.Proofs.Ytniflfgnelfpbaa.Js
open Go.RowKit
open Go.Proofs.Ytniflfgnelfpbaa.Ext (up up_below up_mk wp_region_ext call_ext call_ext_same call_ext_drewN)
inductive VIn (S : Nat → Prop) (w : World) : Value → J → Prop
  | null : VIn S w (.iface 71 (.agg #[])) (.mk 1 0 [] [] [])
  | bool (b : Bool) : VIn S w (.iface 72 (.bool b)) (.mk 2 (if b then 1 else 0) [] [] [])
  | num (n : Int) (hn : -9223372036854775808 ≤ n ∧ n ≤ 9223372036854775807) : VIn S w (.iface 73 (.int .i64 n)) (.mk 3 n [] [] [])
  | text (t : List UInt8) (ht : t.length ≤ 9223372036854775807) : VIn S w (.iface 74 (.string ⟨t.toArray⟩)) (.mk 4 0 t [] [])
  | list {xs : List J} (a : Option Addr) (cap b off : Nat) (vs : Nat → Value) (hcap : xs.length ≤ cap) (hm : cap ≤ 9223372036854775807) (ha : 0 < xs.length → a = some ⟨b, off, none⟩ ∧ S b)
      (hc : ∀ i, i < xs.length → w.cell? ⟨b, off + i, none⟩ = some (vs i)) (deep : ∀ i, i < xs.length → VIn S w (vs i) (xs.getD i default)) : VIn S w (.iface 57 (.slice a xs.length cap)) (.mk 5 0 [] [] xs)
  | obj {xs : List J} {ns : List (List UInt8)} {nv : Value} (a : Option Addr) (cap b off : Nat) (vs : Nat → Value) (names : TxtsIn S w nv ns) (hcap : xs.length ≤ cap) (hm : cap ≤ 9223372036854775807) (ha : 0 < xs.length → a = some ⟨b, off, none⟩ ∧ S b)
      (hc : ∀ i, i < xs.length → w.cell? ⟨b, off + i, none⟩ = some (vs i)) (deep : ∀ i, i < xs.length → VIn S w (vs i) (xs.getD i default)) : VIn S w (.iface 59 (.agg #[nv, .slice a xs.length cap])) (.mk 6 0 [] ns xs)
/-- v is a slice of the values xs -/
def VLn (S : Nat → Prop) (w : World) (v : Value) (xs : List J) : Prop :=
  ∃ (a : Option Addr) (cap b off : Nat) (vs : Nat → Value), v = .slice a xs.length cap ∧ xs.length ≤ cap ∧ cap ≤ 9223372036854775807 ∧ (0 < xs.length → a = some ⟨b, off, none⟩ ∧ S b) ∧
    (∀ i, i < xs.length → w.cell? ⟨b, off + i, none⟩ = some (vs i)) ∧ ∀ i, i < xs.length → VIn S w (vs i) (xs.getD i default)
theorem VIn.same {S S' : Nat → Prop} {w w' : World} {v : Value} {j : J} (h : VIn S w v j) (hs : ∀ b, S b → S' b ∧ w'.heap[b]? = w.heap[b]?) : VIn S' w' v j := by
  induction h with
  | null => exact .null
  | bool b => exact .bool b
  | num n hn => exact .num n hn
  | text t ht => exact .text t ht
  | list a cap b off vs hcap hm ha hc deep ih =>
    exact .list a cap b off vs hcap hm (fun hp => ⟨(ha hp).1, (hs b (ha hp).2).1⟩) (fun i hi => (World.cell?_of_block (w := w) (a := ⟨b, off + i, none⟩) (hs b (ha (Nat.lt_of_le_of_lt (Nat.zero_le i) hi)).2).2).trans (hc i hi)) ih
  | obj a cap b off vs names hcap hm ha hc deep ih =>
    exact .obj a cap b off vs (names.same hs) hcap hm (fun hp => ⟨(ha hp).1, (hs b (ha hp).2).1⟩) (fun i hi => (World.cell?_of_block (w := w) (a := ⟨b, off + i, none⟩) (hs b (ha (Nat.lt_of_le_of_lt (Nat.zero_le i) hi)).2).2).trans (hc i hi)) ih
theorem VIn.mono' {S S' : Nat → Prop} {w : World} {v : Value} {j : J} (h : VIn S w v j) (hs : ∀ b, S b → S' b) : VIn S' w v j := h.same fun b hb => ⟨hs b hb, rfl⟩
theorem VLn.same {S S' : Nat → Prop} {w w' : World} {v : Value} {xs : List J} (h : VLn S w v xs) (hs : ∀ b, S b → S' b ∧ w'.heap[b]? = w.heap[b]?) : VLn S' w' v xs := by
  obtain ⟨a, cap, b, off, vs, e, h1, h2, h3, h4, h5⟩ := h
  exact ⟨a, cap, b, off, vs, e, h1, h2, fun hp => ⟨(h3 hp).1, (hs b (h3 hp).2).1⟩, fun i hi => (World.cell?_of_block (w := w) (a := ⟨b, off + i, none⟩) (hs b (h3 (Nat.lt_of_le_of_lt (Nat.zero_le i) hi)).2).2).trans (h4 i hi), fun i hi => (h5 i hi).same hs⟩
theorem VLn.value {S : Nat → Prop} {w : World} {v : Value} {xs : List J} (h : VLn S w v xs) : VIn S w (.iface 57 v) (.mk 5 0 [] [] xs) := by
  obtain ⟨a, cap, b, off, vs, rfl, h1, h2, h3, h4, h5⟩ := h
  exact .list a cap b off vs h1 h2 h3 h4 h5
theorem VLn.object {S : Nat → Prop} {w : World} {v nv : Value} {xs : List J} {ns : List (List UInt8)} (h : VLn S w v xs) (hn : TxtsIn S w nv ns) : VIn S w (.iface 59 (.agg #[nv, v])) (.mk 6 0 [] ns xs) := by
  obtain ⟨a, cap, b, off, vs, rfl, h1, h2, h3, h4, h5⟩ := h
  exact .obj a cap b off vs hn h1 h2 h3 h4 h5
set_option maxRecDepth 100000 in
theorem clone_any (t : List UInt8) (w : World) (ht : t.length ≤ 281474976710656) : Calls Try.prog 41 #[.string ⟨t.toArray⟩] w fun e w' => e = .returned (.string ⟨t.toArray⟩) ∧ Below w.heap.size w w' := by
  have HC := Lib.hid (Try.stringslite_Clone ⟨t.toArray⟩ w (by show t.toArray.size ≤ _; simpa using ht))
  go_enter Try.func41, Try.ntmps41
  go_wp2_with fail
  refine HC.out.mono ?_
  rintro e w1 ⟨rfl, hb⟩
  go_wp2
  go_ret
  exact ⟨rfl, hb⟩
set_option maxRecDepth 100000 in
theorem number_any (n : Int) (w : World) : Calls Try.prog 44 #[.int .i64 n] w fun e w' => e = .returned (.bool (decide (-999999999 ≤ n ∧ n ≤ 999999999))) ∧ w' = w := by
  by_cases h1 : -999999999 ≤ n
  · by_cases h2 : n ≤ 999999999
    all_goals
      go_enter Try.func44, Try.ntmps44
      go_wp2
      go_ret
      exact ⟨ret_b (by simp; omega), rfl⟩
  · go_enter Try.func44, Try.ntmps44
    go_wp2
    go_ret
    exact ⟨ret_b (by simp; omega), rfl⟩
theorem hasI_any (S : Nat → Prop) (ns : List (List UInt8)) (t : List UInt8) (v : Value) (w : World) (h : TxtsIn S w v ns) :
    Calls Try.prog 50 #[v, .string ⟨t.toArray⟩] w fun e w' => e = .returned (.bool (ns.contains t)) ∧ w = w' := by
  obtain ⟨a, cap, b, off, rfl, hcap, hm, _, ha, hc⟩ := h
  by_cases h0 : ns = []
  · subst h0
    exact (Try.slices_Contains_string_empty a cap ⟨t.toArray⟩ w).mono fun e w' ⟨he, hw⟩ => ⟨he, hw.symm⟩
  · have hp : 0 < ns.length := List.length_pos_iff.2 h0
    obtain ⟨rfl, _⟩ := ha hp
    have hlen : (ns.map fun t => (⟨t.toArray⟩ : ByteArray)).length = ns.length := by simp
    refine (Try.slices_Contains_string b off ns.length cap (ns.map fun t => (⟨t.toArray⟩ : ByteArray)) ⟨t.toArray⟩ w (by rw [hlen]; exact Nat.le_refl _) (by omega) (fun j hj => ?_)).mono fun e w' ⟨he, hw⟩ => ⟨?_, hw.symm⟩
    · rw [hlen] at hj
      rw [hc j hj]
      simp [hj]
    · rw [he]
      refine ret_b ?_
      rw [← hlen, List.take_length, Bool.eq_iff_iff, Lib.containsS_iff]
      simp
set_option maxRecDepth 100000 in
set_option maxHeartbeats 2000000 in
theorem namesI_any (S : Nat → Prop) (ns : List (List UInt8)) (v : Value) (c : Nat) (w : World) (h : TxtsIn S w v ns) :
    Calls Try.prog 46 #[v, .int .i64 c] w fun e w' => e = .returned (.bool ((ns.length == c) && namesB [] ns)) ∧ ∃ n, w' = w.drewN n := by
  have HT := Lib.hid h
  obtain ⟨a, cap, b, off, rfl, hcap, hm, hlen, ha, hc⟩ := h
  have hn : ns.length ≤ 9223372036854775807 := by omega
  have HC := Lib.hid hc
  have HA := Lib.hid ha
  have HL := Lib.hid hlen
  clear hc ha hlen
  by_cases hl : ns.length = c
  · subst hl
    have g1 : ((ns.length : Int) != (ns.length : Int)) = false := by simp
    obtain ⟨r, hr⟩ : ∃ r, namesB [] ns = r := ⟨_, rfl⟩
    have HR := Lib.hid hr
    rw [hr]
    clear hr
    go_enter Try.func46, Try.ntmps46
    go_wp2
    go_loopw [13] (fun i wr => ∃ k n : Nat, k ≤ ns.length ∧ i = .int .i64 k ∧ r = namesB (ns.take k) (ns.drop k) ∧ wr = w.drewN n) (fun i _ => ns.length - (intOf i).toNat)
    case atStart => exact ⟨0, 0, by omega, rfl, HR.out.symm, rfl⟩
    case round =>
      obtain ⟨k, n, hk, rfl, hE, rfl⟩ := hrel
      have HE := Lib.hid hE
      clear hE
      by_cases hlt : k < ns.length
      · obtain ⟨ea, _⟩ := HA.out (by omega)
        subst ea
        have q0 := HC.out k hlt
        have htl := HL.out k hlt
        have hkc : k ≤ cap := by omega
        have D := Lib.hid (namesB_get k hlt)
        have HH := Lib.hid (hasI_any S (ns.take k) (ns.getD k []) (.slice (some ⟨b, off, none⟩) k cap) (w.drewN n) ((HT.out.drewN n).take k (by omega)))
        generalize ns.getD k [] = t at *
        obtain ⟨r2, hr2⟩ : ∃ r, (ns.take k).contains t = r := ⟨_, rfl⟩
        rw [hr2] at D HH
        clear hr2
        by_cases h120 : t.length ≤ 120
        · have f1 : decide (120 < (t.length : Int)) = false := by simp; omega
          have F1 := Lib.hid (show decide (t.length ≤ 120) = true by simpa using h120)
          clear h120
          cases r2 with
          | true =>
            go_wp2_with fail
            refine HH.out.mono ?_
            rintro e w1 ⟨rfl, rfl⟩
            go_wp2
            go_ret
            exact ⟨ret_b (by rw [HE.out, D.out]; simp), n, rfl⟩
          | false =>
            go_wp2_with fail
            refine HH.out.mono ?_
            rintro e w1 ⟨rfl, rfl⟩
            go_wp2
            go_roundw
            case rel => exact ⟨k + 1, n, by omega, by go_num, by rw [HE.out, D.out]; simp [F1.out], rfl⟩
            case measure => simp [intOf]; omega
        · have f1 : decide (120 < (t.length : Int)) = true := by simp; omega
          have F1 := Lib.hid (show decide (t.length ≤ 120) = false by simpa using h120)
          clear h120
          go_wp2
          go_ret
          exact ⟨ret_b (by rw [HE.out, D.out]; simp [F1.out]), n, rfl⟩
      · go_wp2
        go_ret
        obtain rfl : k = ns.length := by omega
        exact ⟨ret_b (by rw [HE.out, List.drop_length]; simp [namesB]), n, rfl⟩
  · have g1 : ((ns.length : Int) != (c : Int)) = true := by simp only [bne_iff_ne, ne_eq]; omega
    have E := Lib.hid (show (ns.length == c) = false by simpa using hl)
    rw [E.out]
    clear hl
    go_enter Try.func46, Try.ntmps46
    go_wp2
    go_ret
    exact ⟨ret_b (by rfl), 0, rfl⟩
end Go.Proofs.Ytniflfgnelfpbaa.Js
