
/-
  The walks of the program's functions of chapters 1 and 2 that read: a text in lower case, the number that a text is; strings.Cut at one byte.
-/
import Derived.Test.YtniflfgnelfpbaaDoorUrlImplA
import Derived.Test.YtniflfgnelfpbaaDoorUrlPlainC
import Derived.Laws.BytesArg
import Derived.Laws.IdiomStrings
import Derived.Outline
namespace Go.Proofs.YtniflfgnelfpbaaDoor.Ul
open Go.RowKit
/-! ### strings.Cut -/
theorem index_find (l : List UInt8) (x : UInt8) : Lib.index l [x] = if hasB l x.toNat then (findB l x.toNat : Int) else -1 := by
  rw [Lib.index_one]
  induction l with
  | nil => rfl
  | cons b l ih =>
    by_cases hb : b = x
    · subst hb; simp [Lib.indexByte, findB, hasB]
    · have hb' : ¬ b.toNat = x.toNat := fun e => hb (UInt8.toNat_inj.1 e)
      have hb2 : (b == x) = false := by simpa using hb
      have e1 : findB (b :: l) x.toNat = findB l x.toNat + 1 := by simp [findB, hb']
      have e2 : Lib.indexByte (b :: l) x = if Lib.indexByte l x == -1 then -1 else Lib.indexByte l x + 1 := by simp [Lib.indexByte, hb2]
      have e3 : hasB (b :: l) x.toNat = hasB l x.toNat := by simp [hasB, e1]
      rw [e1, e2, e3, ih]
      by_cases hm : hasB l x.toNat = true
      · simp only [hm, if_true]
        rw [if_neg (by simp)]; omega
      · simp [hm]
theorem cut_find (l : List UInt8) (x : UInt8) : Lib.cut l [x] = (befL l x.toNat, aftL l x.toNat, hasB l x.toNat) := by
  unfold Lib.cut
  rw [index_find]
  cases h : hasB l x.toNat with
  | true =>
    simp only [if_true]
    rw [if_pos (by omega)]
    simp [befL, aftL]
  | false =>
    simp only [Bool.false_eq_true, if_false]
    rw [if_neg (by omega), bef_none l _ h, aft_none l _ h]
def MaxL (w : World) : Prop := ∃ m : Int, w.cell? ⟨1, 0, none⟩ = some (.int .i64 m)
theorem MaxL.below {w w' : World} (h : MaxL w) (hb : Below w.heap.size w w') : MaxL w' := by
  obtain ⟨m, hm⟩ := h
  refine ⟨m, ?_⟩
  have hlt : 1 < w.heap.size := by
    rcases Nat.lt_or_ge 1 w.heap.size with h | h
    · exact h
    · simp [World.cell?, Array.getElem?_eq_none h] at hm
  exact (hb.cell (p := ⟨1, 0, none⟩) hlt).trans hm
theorem cut_any (l : List UInt8) (x : UInt8) (c : Nat) (hx : x.toNat = c) (w : World) (hM : MaxL w) (hl : l.length ≤ 4294967280) : Calls Tryd.prog 72 #[.string ⟨l.toArray⟩, .string ⟨#[x]⟩] w fun e w' => e = .returned (.tuple #[.string ⟨(befL l c).toArray⟩, .string ⟨(aftL l c).toArray⟩, .bool (hasB l c)]) ∧ ∃ n, w' = w.drewN n := by
  subst hx
  obtain ⟨m, hm⟩ := hM
  refine (Tryd.strings_Cut ⟨l.toArray⟩ ⟨#[x]⟩ m w (by simp [ByteArray.size]; omega) hm).mono ?_
  rintro e w' ⟨rfl, hw⟩
  refine ⟨?_, hw⟩
  rw [cut_find l x]
theorem hasP (l p : List UInt8) : Lib.hasPrefix l p = p.isPrefixOf l := rfl
/-! ### Lower case -/
theorem upI_yes (x : UInt8) (h : 65 ≤ x.toNat ∧ x.toNat ≤ 90) : ((lowC x).toNat : Int) = x.toNat - 65 + 97 := by
  have : upB x = true := by simp [upB, h]
  simp [lowC, this, UInt8.toNat_add]; omega
theorem upI_no (x : UInt8) (h : ¬ (65 ≤ x.toNat ∧ x.toNat ≤ 90)) : lowC x = x := by
  have : upB x = false := by simp [upB]; omega
  simp [lowC, this]
theorem upI_cases (x : UInt8) (h : ¬ (65 ≤ x.toNat ∧ x.toNat ≤ 90)) : decide ((65 : Int) ≤ x.toNat) = false ∨ (decide ((65 : Int) ≤ x.toNat) = true ∧ decide ((x.toNat : Int) ≤ 90) = false) := by
  by_cases h1 : 65 ≤ x.toNat
  · exact .inr ⟨by simp; omega, by simp; omega⟩
  · exact .inl (by simp; omega)
/-- the bytes of the row after k rounds -/
def LowAt (w : World) (B : Nat) (l : List UInt8) (k : Nat) : Prop :=
  ∀ j (h : j < l.length), w.cell? ⟨B, j, none⟩ = some (.int .u8 (if j < k then lowC l[j] else l[j]).toNat) ∧ w.frozen? ⟨B, j, none⟩ = false
theorem LowAt.start (w : World) (l : List UInt8) (cap : Nat) : LowAt (w.alloc (.cells (bytesRow ⟨l.toArray⟩ cap) 5 ((bytesRow ⟨l.toArray⟩ cap).size, (bytesRow ⟨l.toArray⟩ cap).size + 1))) w.heap.size l 0 := by
  intro j hj
  refine ⟨?_, ?_⟩
  · rw [World.cell?_alloc_mark, bytesRow_at _ _ _ (by simpa using hj)]
    simp
  · rw [World.frozen?_alloc_mark]
    have : l.length ≤ (bytesRow ⟨l.toArray⟩ cap).size := by simp [bytesRow]
    simp; omega
theorem LowAt.skip {w : World} {B k : Nat} {l : List UInt8} {x : UInt8} (h : LowAt w B l k) (hk : k < l.length) (hx : l[k] = x) (hn : lowC x = x) : LowAt w B l (k + 1) := by
  intro j hj
  obtain ⟨h1, h2⟩ := h j hj
  refine ⟨?_, h2⟩
  rw [h1]
  by_cases e : j = k
  · subst e; simp [hx, hn]
  · have : (j < k + 1) = (j < k) := by apply propext; omega
    simp only [this]
theorem LowAt.store {w : World} {B k : Nat} {l : List UInt8} {x : UInt8} (h : LowAt w B l k) (hk : k < l.length) (hx : l[k] = x) : LowAt (w.setCell ⟨B, k, none⟩ (.int .u8 (lowC x).toNat)) B l (k + 1) := by
  intro j hj
  obtain ⟨h1, h2⟩ := h j hj
  refine ⟨?_, (World.frozen?_setCell _ _ _ _).trans h2⟩
  by_cases e : j = k
  · subst e
    rw [World.cell?_setCell_same _ _ _ h1]; simp [hx]
  · rw [World.cell?_setCell_other _ _ _ _ (by simp <;> omega), h1]
    have : (j < k + 1) = (j < k) := by apply propext; omega
    simp only [this]
theorem LowAt.back {w : World} {B cap : Nat} {l : List UInt8} (h : LowAt w B l l.length) : (convert 78 9 (.slice (some ⟨B, 0, none⟩) l.length cap)).run Tryd.prog w = .ok (.string ⟨(lowL l).toArray⟩) w := by
  have := run_convert_bytes_back (P := Tryd.prog) w 78 9 5 ⟨B, 0, none⟩ cap (lowL l) Tryd.underlying78 Tryd.underlying5 Tryd.underlying9 (fun j hj => by
    have hj' : j < l.length := by rw [low_len] at hj; exact hj
    have e : (⟨B, 0, none⟩ : Addr).add j = ⟨B, j, none⟩ := by unfold Addr.add; split <;> simp_all
    rw [e, (h j hj').1]
    simp [lowL, hj'])
  rw [low_len] at this
  exact this
set_option maxRecDepth 100000 in
set_option maxHeartbeats 1000000 in
theorem lowerI_any (l : List UInt8) (w : World) (hl : l.length ≤ 140737488351232) : Calls Tryd.prog 74 #[.string ⟨l.toArray⟩] w fun e w' => e = .returned (.string ⟨(lowL l).toArray⟩) ∧ Below w.heap.size w w' := by
  have hcv := run_bytes_of_string (P := Tryd.prog) w 9 78 5 ⟨l.toArray⟩ Tryd.underlying9 Tryd.underlying78 Tryd.underlying5
  have e0 : (⟨l.toArray⟩ : ByteArray).size = l.length := rfl
  rw [e0] at hcv
  generalize grownCap w l.length 0 5 = cap at *
  have HS := LowAt.start w l cap
  generalize hC : bytesRow ⟨l.toArray⟩ cap = C at *
  clear hC e0
  go_enter Tryd.func74, Tryd.ntmps74
  go_wp2
  go_loopw [10] (fun i wr => ∃ k : Nat, k ≤ l.length ∧ i = .int .i64 k ∧ LowAt wr w.heap.size l k ∧ Below w.heap.size w wr) (fun i _ => l.length - (intOf i).toNat)
  case atStart => exact ⟨0, by omega, rfl, fun j hj => HS j hj, ((Below.refl _ _).alloc (Nat.le_refl _) _).drew⟩
  case round =>
    obtain ⟨k, hk, rfl, hL, hnx⟩ := hrel
    by_cases hlt : k < l.length
    · obtain ⟨x, hx, _⟩ := byte_at l k hlt
      obtain ⟨hc0, hz⟩ := hL k hlt
      have hc : wr.cell? ⟨w.heap.size, k, none⟩ = some (.int .u8 x.toNat) := by rw [hc0]; simp [hx]
      clear hc0
      by_cases hu : 65 ≤ x.toNat ∧ x.toNat ≤ 90
      · have E := Lib.hid (upI_yes x hu)
        have R := Lib.hid (hL.store hlt hx)
        have B := Lib.hid (hnx.setCell (p := ⟨w.heap.size, k, none⟩) (Nat.le_refl _) (.int .u8 (lowC x).toNat))
        obtain ⟨hu1, hu2⟩ := hu
        clear hx hL hnx HS
        go_wp2
        go_roundw
        case rel => exact ⟨k + 1, by omega, by go_num, by rw [← E.out]; exact R.out, by rw [← E.out]; exact B.out⟩
        case measure => simp [intOf]; omega
      · have R := Lib.hid (hL.skip hlt hx (upI_no x hu))
        clear hx hL HS
        rcases upI_cases x hu with d1 | ⟨d1, d2⟩
        all_goals
          go_wp2
          go_roundw
          case rel => exact ⟨k + 1, by omega, by go_num, R.out, hnx⟩
          case measure => simp [intOf]; omega
    · obtain rfl : k = l.length := by omega
      have hcv2 := hL.back (cap := cap)
      clear hL HS
      go_wp2
      go_ret
      exact ⟨rfl, hnx⟩
end Go.Proofs.YtniflfgnelfpbaaDoor.Ul
