
/-
  The walks of the program's quoting of a text, into a strings.Builder.
-/
import Derived.Test.YtniflfgnelfpbaaDoorBld
import Derived.Test.YtniflfgnelfpbaaDoorQuotePlain
import Derived.Laws.BytesArg
import Derived.Laws.IdiomStrings
import Derived.IntWalk
namespace Go.Proofs.YtniflfgnelfpbaaDoor.Bl
open Go.RowKit
theorem byte_atI (l : List UInt8) (k : Nat) (h : k < l.length) : ∃ x : UInt8, l[k] = x := ⟨_, rfl⟩
theorem plain_yes (x : UInt8) (w : World) (h : 32 ≤ x.toNat ∧ x.toNat ≤ 126) : Calls Tryd.prog 87 #[.int .u8 x.toNat] w fun e w' => e = .returned (.bool true) ∧ w = w' := by
  obtain ⟨h1, h2⟩ := h
  go_enter Tryd.func87, Tryd.ntmps87
  go_wp2
  go_ret
  exact ⟨by simp; omega, rfl⟩
theorem plain_no (x : UInt8) (w : World) (h : ¬ (32 ≤ x.toNat ∧ x.toNat ≤ 126)) : Calls Tryd.prog 87 #[.int .u8 x.toNat] w fun e w' => e = .returned (.bool false) ∧ w = w' := by
  go_enter Tryd.func87, Tryd.ntmps87
  go_wp2
  all_goals (go_ret; exact ⟨by first | rfl | (simp; omega), rfl⟩)
set_option maxRecDepth 100000 in
set_option maxHeartbeats 4000000 in
theorem writeQuoted_any (B b : Nat) (acc l : List UInt8) (w : World) (h : IsB B b acc w) (hB : B ≤ w.heap.size) (hl : acc.length + 6 * l.length + 2 ≤ 140737488355328) : Calls Tryd.prog 57 #[.pointer (some ⟨b, 0, none⟩), .string ⟨l.toArray⟩] w fun e w' => e = .returned (.tuple #[]) ∧ (IsB B b (acc ++ quoteL l) w' ∧ Below B w w' ∧ Kept b w w') := by
  have H := Lib.hid h
  clear h
  go_enter Tryd.func57, Tryd.ntmps57
  go_wp2_with fail
  refine (writeByte_any B b acc 34 _ H.out (by omega) hB).mono ?_
  rintro e w1 ⟨rfl, h1, b1, k1⟩
  have hcv := run_bytes_of_string (P := Tryd.prog) w1 9 78 5 ⟨l.toArray⟩ Tryd.underlying9 Tryd.underlying78 Tryd.underlying5
  have e0 : (⟨l.toArray⟩ : ByteArray).size = l.length := rfl
  rw [e0] at hcv
  generalize hcap : grownCap w1 l.length 0 5 = cap at *
  clear hcap e0
  have hg0 : (w1.alloc (.cells (bytesRow ⟨l.toArray⟩ cap) 5 ((bytesRow ⟨l.toArray⟩ cap).size, (bytesRow ⟨l.toArray⟩ cap).size + 1))).heap[w1.heap.size]? = some (.cells (bytesRow ⟨l.toArray⟩ cap) 5 ((bytesRow ⟨l.toArray⟩ cap).size, (bytesRow ⟨l.toArray⟩ cap).size + 1)) := by
    show (w1.heap.push _)[w1.heap.size]? = _
    simp
  have hgb : w1.heap.size ≠ b := by have := h1.lt; omega
  have I0 := (h1.alloc (.cells (bytesRow ⟨l.toArray⟩ cap) 5 ((bytesRow ⟨l.toArray⟩ cap).size, (bytesRow ⟨l.toArray⟩ cap).size + 1))).drew
  have K0 := (k1.alloc (.cells (bytesRow ⟨l.toArray⟩ cap) 5 ((bytesRow ⟨l.toArray⟩ cap).size, (bytesRow ⟨l.toArray⟩ cap).size + 1))).drew
  have B0 : Below B w (w1.alloc (.cells (bytesRow ⟨l.toArray⟩ cap) 5 ((bytesRow ⟨l.toArray⟩ cap).size, (bytesRow ⟨l.toArray⟩ cap).size + 1))).drew := (b1.alloc (by have := b1.size; omega) _).drew
  have hrow : ∀ j (hj : j < l.length), (bytesRow ⟨l.toArray⟩ cap)[j]? = some (.int .u8 l[j].toNat) := fun j hj => bytesRow_at ⟨l.toArray⟩ cap j (by simpa using hj)
  have hfr : ∀ C, Obj.cells (bytesRow ⟨l.toArray⟩ cap) 5 ((bytesRow ⟨l.toArray⟩ cap).size, (bytesRow ⟨l.toArray⟩ cap).size + 1) ≠ .cells C 5 (0, 0) := fun C e => by
    injection e with _ _ e
    simp at e
  generalize hrr : bytesRow ⟨l.toArray⟩ cap = R at *
  generalize hgg : w1.heap.size = g at *
  clear hrr h1 k1 b1 H
  have HG0 := Lib.hid hg0
  have HROW := Lib.hid hrow
  have HFR := Lib.hid hfr
  clear hg0 hrow hfr
  go_wp2_with fail
  go_loopw [11] (fun i wr => ∃ k : Nat, k ≤ l.length ∧ i = .int .i64 k ∧ IsB B b (acc ++ quoteTo (l.take k)) wr ∧ wr.heap[g]? = some (.cells R 5 (R.size, R.size + 1)) ∧ Below B w wr ∧ Kept b w wr) (fun i _ => l.length - (intOf i).toNat)
  case atStart => exact ⟨0, by omega, rfl, I0, HG0.out, B0, K0⟩
  case round =>
    obtain ⟨k, hk, rfl, hI, hG, hnx, hK⟩ := hrel
    have hBr : B ≤ wr.heap.size := by have := hnx.size; omega
    have hq := quote_le (l.take k)
    have hq2 : (quoteTo (l.take k)).length ≤ 6 * k + 1 := by simp at hq; omega
    clear hq
    by_cases hlt : k < l.length
    · obtain ⟨x, hx⟩ := byte_atI l k hlt
      have hc : wr.cell? ⟨g, k, none⟩ = some (.int .u8 x.toNat) := by rw [Lib.cell_of_heap hG, HROW.out k hlt, hx]
      have Q := Lib.hid (quote_take l k x hlt hx)
      have hx256 : x.toNat < 256 := x.toNat_lt
      have HI := Lib.hid hI
      have HG := Lib.hid hG
      clear hx hI hG I0 B0 K0
      by_cases hm : x.toNat = 34 ∨ x.toNat = 92
      · have E := Lib.hid (q_mark hm)
        have hm' : ((x.toNat : Int) == 34) = true ∨ (((x.toNat : Int) == 34) = false ∧ ((x.toNat : Int) == 92) = true) := by
          rcases hm with hm | hm
          · exact .inl (by simp [hm])
          · exact .inr ⟨by simp [hm], by simp [hm]⟩
        clear hm
        rcases hm' with c1 | ⟨c1, c2⟩
        all_goals
          go_wp2_with fail
          refine (writeByte_any B b _ 92 _ HI.out (by simp; omega) hBr).mono ?_
          rintro e w2 ⟨rfl, h2, b2, k2⟩
          go_wp2_with fail
          refine (writeByte_any B b _ x _ h2 (by simp; omega) (by have := b2.size; omega)).mono ?_
          rintro e w3 ⟨rfl, h3, b3, k3⟩
          go_wp2
          go_roundw
          case rel => exact ⟨k + 1, by omega, by go_num, by rw [Q.out, E.out]; simpa using h3, k3 g _ (k2 g _ HG.out hgb HFR.out) hgb HFR.out, (hnx.trans b2).trans b3, (hK.trans k2).trans k3⟩
          case measure => simp [intOf]; omega
      have c1 : ((x.toNat : Int) == 34) = false := by simp; omega
      have c2 : ((x.toNat : Int) == 92) = false := by simp; omega
      by_cases hp : 32 ≤ x.toNat ∧ x.toNat ≤ 126
      · have E := Lib.hid (q_plain hm hp)
        clear hm
        go_wp2_with (go_at_call 87; refine (plain_yes x _ hp).mono ?_; rintro e w' ⟨rfl, rfl⟩)
        refine (writeByte_any B b _ x _ HI.out (by simp; omega) hBr).mono ?_
        rintro e w2 ⟨rfl, h2, b2, k2⟩
        go_wp2
        go_roundw
        case rel => exact ⟨k + 1, by omega, by go_num, by rw [Q.out, E.out]; simpa using h2, k2 g _ HG.out hgb HFR.out, hnx.trans b2, hK.trans k2⟩
        case measure => simp [intOf]; omega
      · have E := Lib.hid (q_hex hp)
        have h16 := hex_at (x.toNat / 16) (by omega)
        have h15 := hex_at (x.toNat % 16) (by omega)
        have b16 : x.toNat / 16 < 16 := by omega
        have b15 : x.toNat % 16 < 16 := by omega
        clear hm
        go_wp2_with (go_at_call 87; refine (plain_no x _ hp).mono ?_; rintro e w' ⟨rfl, rfl⟩)
        refine (writeString_any B b _ [92, 117, 48, 48] _ HI.out (by simp; omega) hBr).mono ?_
        rintro e w2 ⟨rfl, h2, b2, k2⟩
        go_wp2_with fail
        refine (writeByte_any B b _ (hexd (x.toNat / 16)) _ h2 (by simp; omega) (by have := b2.size; omega)).mono ?_
        rintro e w3 ⟨rfl, h3, b3, k3⟩
        go_wp2_with fail
        refine (writeByte_any B b _ (hexd (x.toNat % 16)) _ h3 (by simp; omega) (by have := b2.size; have := b3.size; omega)).mono ?_
        rintro e w4 ⟨rfl, h4, b4, k4⟩
        clear h16 h15
        go_wp2
        go_roundw
        case rel => exact ⟨k + 1, by omega, by go_num, by rw [Q.out, E.out]; simpa using h4, k4 g _ (k3 g _ (k2 g _ HG.out hgb HFR.out) hgb HFR.out) hgb HFR.out, ((hnx.trans b2).trans b3).trans b4, ((hK.trans k2).trans k3).trans k4⟩
        case measure => simp [intOf]; omega
    · obtain rfl : k = l.length := by omega
      have F : quoteTo (l.take l.length) = quoteTo l := by simp
      rw [F] at hI hq2
      have HI := Lib.hid hI
      clear F hI
      go_wp2_with fail
      refine (writeByte_any B b _ 34 _ HI.out (by simp; omega) hBr).mono ?_
      rintro e w2 ⟨rfl, h2, b2, k2⟩
      go_wp2
      go_end0
      exact ⟨rfl, by simpa [quoteL] using h2, hnx.trans b2, hK.trans k2⟩
def QT (l : List UInt8) : List UInt8 := if 65536 < l.length then [] else quoteL l
end Go.Proofs.YtniflfgnelfpbaaDoor.Bl
