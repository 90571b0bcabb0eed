
/-
  strconv.ParseUint at two bytes, to the base 16 and 8 bits: the number, or an error that is not nil.
-/
import Derived.Test.YtjakkmjipglkiaaDoorRdA
import Derived.Test.YtjakkmjipglkiaaDoorShelf
import Derived.Shelf.Pu.ParseUintPublic10
import Derived.Lib.Hide
namespace Go.Proofs.YtjakkmjipglkiaaDoor.Rd
open Go.RowKit
def lowN (n : Nat) : Nat := if 32 ≤ n % 64 then n else n + 32
set_option maxRecDepth 100000 in
theorem low_eq : ∀ n : Fin 256, bits .or .u8 ((n.val : Nat) : Int) 32 = ((lowN n.val : Nat) : Int) := by decide
theorem low_of (x : UInt8) : bits .or .u8 (x.toNat : Int) 32 = ((lowN x.toNat : Nat) : Int) := low_eq ⟨x.toNat, x.toNat_lt⟩
set_option maxRecDepth 100000 in
theorem lower_any (x : UInt8) (w : World) : Calls Tryd.prog 75 #[.int .u8 x.toNat] w fun e w' => e = .returned (.int .u8 ((lowN x.toNat : Nat) : Int)) ∧ w = w' := by
  have e := low_of x
  exact (AnyPu.internal_strconv_lower { Tryd.laysPu14 with } (x.toNat : Int) w).mono fun e' w' ⟨h1, h2⟩ => ⟨by rw [h1, e], h2.symm⟩
/-- a number to the base 16, at the front of it n -/
def hexTo : Nat → B → Option Nat
  | n, [] => some n
  | n, c :: r => match hexV c with | none => none | some d => hexTo (16 * n + d) r
def hexRes : Option Nat → Value
  | some n => .tuple #[.int .u64 (n : Int), .nilIface]
  | none => .tuple #[.int .u64 0, .iface 105 (.int .i64 2)]
theorem hex_digit {x : UInt8} (h : 48 ≤ x.toNat ∧ x.toNat ≤ 57) : hexV x = some (x.toNat - 48) := by unfold hexV; rw [if_pos h]
theorem hex_letter {x : UInt8} (h : ¬ (48 ≤ x.toNat ∧ x.toNat ≤ 57)) (h2 : 97 ≤ lowN x.toNat ∧ lowN x.toNat ≤ 102) : hexV x = some (lowN x.toNat - 87) := by
  unfold hexV
  have := x.toNat_lt
  unfold lowN at h2 ⊢
  split at h2
  · rename_i h3
    rw [if_neg h, if_pos (by omega), if_pos h3]
  · rename_i h3
    rw [if_neg h, if_neg (by omega), if_pos (by omega), if_neg h3]
    congr 1
theorem hex_none {x : UInt8} (h : ¬ (48 ≤ x.toNat ∧ x.toNat ≤ 57)) (h2 : ¬ (97 ≤ lowN x.toNat ∧ lowN x.toNat ≤ 102)) : hexV x = none := by
  unfold hexV
  have := x.toNat_lt
  unfold lowN at h2
  split at h2
  · rw [if_neg h, if_neg (by omega), if_neg (by omega)]
  · rw [if_neg h, if_neg (by omega), if_neg (by omega)]
set_option maxRecDepth 100000 in
set_option maxHeartbeats 8000000 in
theorem hexI_any (bs : B) (w : World) (r : Option Nat) (hl : bs.length = 2) (hr : hexTo 0 bs = r) :
    Calls Tryd.prog 69 #[.string ⟨bs.toArray⟩, .int .i64 16, .int .i64 8] w fun e w' => e = .returned (hexRes r) ∧ Below w.heap.size w w' := by
  have hcv := Lib.run_convert_string_bytes (P := Tryd.prog) w 9 70 5 ⟨bs.toArray⟩ (u := .string) Tryd.underlying9 Tryd.underlying70 Tryd.underlying5
  have hsz : (⟨bs.toArray⟩ : ByteArray).size = 2 := hl
  have hB : ∀ j, j < 2 → (Lib.bytesWorld w 5 ⟨bs.toArray⟩).cell? ⟨w.heap.size, j, none⟩ = some (.int .u8 (bs.getD j 0).toNat) := fun j hj => Lib.bytesWorld_cell w 5 ⟨bs.toArray⟩ j (by omega)
  have hbel : Below w.heap.size w (Lib.bytesWorld w 5 ⟨bs.toArray⟩) := Lib.bytesWorld_below _ _ _
  obtain ⟨W1, hW1⟩ : ∃ W1, W1 = Lib.bytesWorld w 5 ⟨bs.toArray⟩ := ⟨_, rfl⟩
  rw [← hW1] at hcv hB hbel
  clear hW1
  have HB := Lib.hid hB
  have HBEL := Lib.hid hbel
  have HR := Lib.hid hr
  have hemp : List.isEmpty bs = false := by
    cases bs with
    | nil => simp at hl
    | cons _ _ => rfl
  have hmv : IntKind.u64.wrap (IntKind.u64.wrap 256 - 1) = 255 := by
    rw [IntKind.wrap_u64, IntKind.wrap_u64]
    decide
  clear hB hbel hr
  go_enter Tryd.func69, Tryd.ntmps69
  go_wp2
  go_loop [12, 13, 101] (fun vu vn vi => ∃ (k acc : Nat) (a : Int), vu = .bool false ∧ vn = .int .u64 a ∧ vi = .int .i64 (k : Int) ∧ k ≤ 2 ∧ Hid (a = (acc : Int) ∧ acc < 16 ^ k ∧ hexTo acc (bs.drop k) = r))
    (fun _ _ vi => 2 - (intOf vi).toNat)
  case atStart => exact ⟨0, 0, 0, rfl, rfl, rfl, by omega, Lib.hid ⟨rfl, by decide, HR.out⟩⟩
  case round =>
    obtain ⟨k, acc, a, rfl, rfl, rfl, hk, hh⟩ := hrel
    obtain ⟨ha, hacc, hE⟩ := hh.out
    clear hh
    by_cases hlt : k < 2
    · have hc := HB.out k hlt
      have hd : bs.drop k = bs.getD k 0 :: bs.drop (k + 1) := by rw [List.drop_eq_getElem_cons (by omega)]; simp [show k < bs.length by omega]
      rw [hd] at hE
      generalize bs.getD k 0 = x at *
      have ha16 : acc < 16 := by
        obtain rfl | rfl : k = 0 ∨ k = 1 := by omega
        · simp at hacc; omega
        · simpa using hacc
      have hx256 := x.toNat_lt
      have a0 : 0 ≤ a := by omega
      have a1 : a < 16 := by omega
      have HLW := Lib.hid (fun w => lower_any x w)
      have hpow : (16 : Nat) ^ (k + 1) = 16 * 16 ^ k := by rw [Nat.pow_succ]; omega
      by_cases hdig : 48 ≤ x.toNat ∧ x.toNat ≤ 57
      · have HE := Lib.hid (show hexTo (16 * acc + (x.toNat - 48)) (bs.drop (k + 1)) = r by rw [← hE, hexTo, hex_digit hdig])
        obtain ⟨d0, d1⟩ := hdig
        have HA := Lib.hid (show 16 * acc + (x.toNat - 48) < 16 ^ (k + 1) ∧ (a * 16 + ((x.toNat : Int) - 48)) = ((16 * acc + (x.toNat - 48) : Nat) : Int) from ⟨by omega, by omega⟩)
        clear hE hd hacc hpow ha ha16
        have i1 : a * 16 + ((x.toNat : Int) - 48) ≤ 255 := by omega
        go_wp2
        refine ⟨⟨k + 1, 16 * acc + (x.toNat - 48), _, rfl, rfl, ?_, ?_, Lib.hid ⟨HA.out.2, HA.out.1, HE.out⟩⟩, ?_⟩
        · go_num
        · omega
        · simp [intOf]; omega
      · by_cases hlet : 97 ≤ lowN x.toNat ∧ lowN x.toNat ≤ 102
        · have HE := Lib.hid (show hexTo (16 * acc + (lowN x.toNat - 87)) (bs.drop (k + 1)) = r by rw [← hE, hexTo, hex_letter hdig hlet])
          obtain ⟨d0, d1⟩ := hlet
          have h95 : ((x.toNat : Int) == 95) = false := by
            rw [beq_eq_false_iff_ne]
            intro e
            have e2 : x.toNat = 95 := by omega
            rw [e2] at d1
            revert d1; decide
          have hnd : x.toNat < 48 ∨ 57 < x.toNat := by omega
          generalize lowN x.toNat = m at *
          have HA := Lib.hid (show 16 * acc + (m - 87) < 16 ^ (k + 1) ∧ (a * 16 + ((m : Int) - 97 + 10)) = ((16 * acc + (m - 87) : Nat) : Int) from ⟨by omega, by omega⟩)
          clear hE hd hacc hpow hdig ha ha16
          have i1 : a * 16 + ((m : Int) - 97 + 10) ≤ 255 := by omega
          rcases hnd with hnd | hnd
          all_goals
            go_wp2_with (go_at_call 75; refine (HLW.out _).mono ?_; rintro e w' ⟨rfl, rfl⟩)
            refine ⟨⟨k + 1, 16 * acc + (m - 87), _, rfl, rfl, ?_, ?_, Lib.hid ⟨HA.out.2, HA.out.1, HE.out⟩⟩, ?_⟩
            · go_num
            · omega
            · simp [intOf]; omega
        · have HE := Lib.hid (show none = r by rw [← hE, hexTo, hex_none hdig hlet])
          clear hE hd hacc hpow ha ha16
          have hlo : lowN x.toNat < 97 ∨ (97 ≤ lowN x.toNat ∧ 103 ≤ lowN x.toNat ∧ lowN x.toNat ≤ 122) ∨ 122 < lowN x.toNat := by omega
          have hup : lowN x.toNat ≤ 255 := by unfold lowN; split <;> omega
          have hnd : x.toNat < 48 ∨ 57 < x.toNat := by omega
          clear hlet hdig
          generalize lowN x.toNat = m at *
          obtain ⟨u, hu⟩ : ∃ u, ((x.toNat : Int) == 95) = u := ⟨_, rfl⟩
          rcases hlo with hlo | ⟨hlo, hlo2, hlo3⟩ | hlo
          all_goals
            rcases hnd with hnd | hnd
            all_goals
              cases u
              all_goals
                go_wp2_with (go_at_call 75; refine (HLW.out _).mono ?_; rintro e w' ⟨rfl, rfl⟩)
                go_ret2
                exact ⟨by rw [← HE.out]; rfl, HBEL.out⟩
    · obtain rfl : k = 2 := by omega
      have HE := Lib.hid (show some acc = r by rw [← hE, List.drop_eq_nil_of_le (by omega)]; rfl)
      subst ha
      clear hE hacc
      go_wp2
      go_ret2
      exact ⟨by rw [← HE.out]; rfl, HBEL.out⟩
end Go.Proofs.YtjakkmjipglkiaaDoor.Rd
