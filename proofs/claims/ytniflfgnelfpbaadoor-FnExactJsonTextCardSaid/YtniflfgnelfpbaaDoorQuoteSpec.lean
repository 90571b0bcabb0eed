
/-
  The walks of the model's quoting of a text.
-/
import Derived.Test.YtniflfgnelfpbaaDoorChecked
import Derived.Test.YtniflfgnelfpbaaDoorQuotePlain
import Derived.WalkKit
import Derived.WalkSpells
import Derived.WalkLawsBesides
import Derived.Lib.Hide
import Derived.Laws.BytesArg
import Derived.RegionTactic
import Derived.Deep.RegionWith
import Derived.Outline
import Derived.IntWalk
namespace Go.Proofs.YtniflfgnelfpbaaDoor.Bl
open Go.RowKit
theorem ret_s {a b : List UInt8} (h : a = b) : Ending.returned (.string ⟨a.toArray⟩) = .returned (.string ⟨b.toArray⟩) := by rw [h]
theorem str_eq {a b : List UInt8} (h : a = b) : Value.string ⟨a.toArray⟩ = Value.string ⟨b.toArray⟩ := by rw [h]
theorem byte_at' (l : List UInt8) (k : Nat) (h : k < l.length) : ∃ x : UInt8, l[k] = x ∧ ∀ h' : k < (⟨l.toArray⟩ : ByteArray).size, (⟨l.toArray⟩ : ByteArray)[k] = x := ⟨_, rfl, fun _ => rfl⟩
@[local go_sem] theorem bappQ (a b : List UInt8) : (⟨a.toArray⟩ : ByteArray) ++ ⟨b.toArray⟩ = ⟨(a ++ b).toArray⟩ := by
  apply ByteArray.ext; simp
theorem ext_one (l : List UInt8) (k : Nat) (x : UInt8) (h : k < l.length) (hx : l[k] = x) : (⟨l.toArray⟩ : ByteArray).extract k (k + 1) = ⟨#[x]⟩ := by
  apply ByteArray.ext
  simp only [ByteArray.data_extract]
  apply Array.ext'
  simp [List.extract_toArray]
  rw [List.drop_eq_getElem_cons h, hx]; simp
theorem conv_two (W : World) (b : Nat) (x y : UInt8) (h0 : W.cell? ⟨b, 0, none⟩ = some (.int .u8 x.toNat)) (h1 : W.cell? ⟨b, 1, none⟩ = some (.int .u8 y.toNat)) : (convert 78 9 (.slice (some ⟨b, 0, none⟩) 2 2)).run Tryd.prog W = .ok (.string ⟨#[x, y]⟩) W := by
  have := run_convert_bytes_arg (P := Tryd.prog) W 78 5 Tryd.underlying78 Tryd.underlying5 b 0 2 2 [x.toNat, y.toNat] rfl (fun i hi => by
    match i, hi with
    | 0, _ => simpa using h0
    | 1, _ => simpa using h1) 9 Tryd.underlying9
  simpa [strOfNums] using this
theorem bel_al {w Y : World} {o : Obj} (h : Below w.heap.size w Y) : Below w.heap.size w (Y.alloc o) := h.alloc h.size o
set_option maxHeartbeats 2000000 in
theorem quoteS_any (l : List UInt8) (w : World) (hl : l.length ≤ 1099511627776) : Calls Tryd.prog 49 #[.string ⟨l.toArray⟩] w fun e w' => e = .returned (.string ⟨(quoteL l).toArray⟩) ∧ Below w.heap.size w w' := by
  go_enter Tryd.func49, Tryd.ntmps49
  go_wp2
  go_loopw [3, 4] (fun o i wr => ∃ k : Nat, k ≤ l.length ∧ i = .int .i64 k ∧ o = .string ⟨(quoteTo (l.take k)).toArray⟩ ∧ Below w.heap.size w wr) (fun _ i _ => l.length - (intOf i).toNat)
  case atStart => exact ⟨0, by omega, rfl, rfl, Below.refl _ _⟩
  case round =>
    obtain ⟨k, hk, rfl, rfl, hnx⟩ := hrel
    by_cases hlt : k < l.length
    · obtain ⟨x, hx, hb⟩ := byte_at' l k hlt
      have hq := quote_le (l.take k)
      have hq2 : (quoteTo (l.take k)).length ≤ 6 * l.length + 1 := by simp at hq; omega
      have hx1 := ext_one l k x hlt hx
      have Q := Lib.hid (quote_take l k x hlt hx)
      have hx256 : x.toNat < 256 := x.toNat_lt
      clear hx hq
      generalize quoteTo (l.take k) = o at *
      by_cases hm : x.toNat = 34 ∨ x.toNat = 92
      · have E := Lib.hid (q_mark hm)
        rcases hm with hm | hm
        · obtain rfl : x = 34 := UInt8.toNat_inj.1 hm
          clear hm
          go_wp2
          go_roundw
          case rel => exact ⟨k + 1, by omega, by go_num, str_eq (by rw [Q.out, E.out]), hnx⟩
          case measure => simp [intOf]; omega
        · obtain rfl : x = 92 := UInt8.toNat_inj.1 hm
          clear hm
          go_wp2
          go_roundw
          case rel => exact ⟨k + 1, by omega, by go_num, str_eq (by rw [Q.out, E.out]), hnx⟩
          case measure => simp [intOf]; omega
      have c1 : ((x.toNat : Int) == 34) = false := by simp; omega
      have c2 : ((x.toNat : Int) == 92) = false := by simp; omega
      by_cases hp : 32 ≤ x.toNat ∧ x.toNat ≤ 126
      · have E := Lib.hid (q_plain hm hp)
        have c3 : decide ((x.toNat : Int) < 32) = false := by simp; omega
        have c4 : decide ((126 : Int) < x.toNat) = false := by simp; omega
        clear hm hp
        go_wp2
        go_roundw
        case rel => exact ⟨k + 1, by omega, by go_num, str_eq (by rw [Q.out, E.out]), hnx⟩
        case measure => simp [intOf]; omega
      · have E := Lib.hid (q_hex hp)
        have c3 : decide ((x.toNat : Int) < 32) = true ∨ (decide ((x.toNat : Int) < 32) = false ∧ decide ((126 : Int) < x.toNat) = true) := by
          by_cases h : x.toNat < 32
          · exact .inl (by simp; omega)
          · exact .inr ⟨by simp; omega, by simp; omega⟩
        have h16 := hex_at (x.toNat / 16) (by omega)
        have h15 := hex_at (x.toNat % 16) (by omega)
        have b16 : x.toNat / 16 < 16 := by omega
        have b15 : x.toNat % 16 < 16 := by omega
        have e16 : IntKind.u8.wrap ((x.toNat : Int) / 16) = ((x.toNat / 16 : Nat) : Int) := by
          rw [show ((x.toNat : Int) / 16) = ((x.toNat / 16 : Nat) : Int) from by omega]
          exact IntWalk.u8_in _ (by omega)
        have e15 : (x.toNat : Int) % 16 = ((x.toNat % 16 : Nat) : Int) := by omega
        generalize x.toNat / 16 = n1 at *
        generalize x.toNat % 16 = n2 at *
        have hcv := conv_two ((wr.alloc (.cells #[.int .u8 (hexd n1).toNat, .int .u8 (hexd n2).toNat] 5)).drew) wr.heap.size (hexd n1) (hexd n2)
          (by show (wr.alloc _).cell? _ = _; rw [World.cell?_alloc_at _ _ _ _ rfl]; rfl) (by show (wr.alloc _).cell? _ = _; rw [World.cell?_alloc_at _ _ _ _ rfl]; rfl)
        clear hm hp
        rcases c3 with c3 | ⟨c3, c4⟩
        all_goals
          go_wp2
          go_region
          go_wp2
          go_roundw
          case rel => exact ⟨k + 1, by omega, by go_num, str_eq (by rw [Q.out, E.out]), (bel_al hnx).drew⟩
          case measure => simp [intOf]; omega
    · obtain rfl : k = l.length := by omega
      have hq2 : (quoteTo (l.take l.length)).length ≤ 6 * l.length + 1 := by rw [List.take_length]; exact quote_le l
      have F : Hid (quoteTo (l.take l.length) = quoteTo l) := Lib.hid (by simp)
      generalize quoteTo (l.take l.length) = o at *
      go_wp2
      go_ret
      exact ⟨ret_s (by rw [F.out]; rfl), hnx⟩
end Go.Proofs.YtniflfgnelfpbaaDoor.Bl
