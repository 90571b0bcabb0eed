
/-
  The program's reader of JSON, walked, go on: what stands behind a backslash.
-/
import Derived.Test.YtjakkmjipglkiaaDoorRdP
namespace Go.Proofs.YtjakkmjipglkiaaDoor.Rd
open Go.RowKit
open Go.Proofs.YtjakkmjipglkiaaDoor.Rm
theorem hexP_yes (bs : B) (w : World) (n : Nat) (hl : bs.length = 2) (hr : hexTo 0 bs = some n) : Calls Tryd.prog 57 #[.string ⟨bs.toArray⟩, .int .i64 16, .int .i64 8] w fun e w' => e = .returned (.tuple #[.int .u64 (n : Int), .nilIface]) ∧ Below w.heap.size w w' := by
  have HI := Lib.hid (show Calls Tryd.prog 69 #[.string ⟨bs.toArray⟩, .int .i64 16, .int .i64 8] w fun e w' => e = .returned (.tuple #[.int .u64 (n : Int), .nilIface]) ∧ Below w.heap.size w w' from hexI_any bs w (some n) hl hr)
  clear hr
  go_enter Tryd.func57, Tryd.ntmps57
  go_wp2_with fail
  refine HI.out.mono ?_
  rintro e w1 ⟨rfl, hb⟩
  have HB := Lib.hid hb
  clear hb
  go_wp2
  go_ret2
  exact ⟨rfl, HB.out⟩
theorem hexP_no (bs : B) (w : World) (hl : bs.length = 2) (hr : hexTo 0 bs = none) (hs : SynV w) : Calls Tryd.prog 57 #[.string ⟨bs.toArray⟩, .int .i64 16, .int .i64 8] w fun e w' => (∃ N, e = .returned (.tuple #[.int .u64 0, .iface 108 (.pointer (some ⟨N, 0, none⟩))])) ∧ Below w.heap.size w w' := by
  have HI := Lib.hid (show Calls Tryd.prog 69 #[.string ⟨bs.toArray⟩, .int .i64 16, .int .i64 8] w fun e w' => e = .returned (.tuple #[.int .u64 0, .iface 105 (.int .i64 2)]) ∧ Below w.heap.size w w' from hexI_any bs w none hl hr)
  have HS := Lib.hid hs
  clear hr hs
  go_enter Tryd.func57, Tryd.ntmps57
  go_wp2_with fail
  refine HI.out.mono ?_
  rintro e w1 ⟨rfl, hb⟩
  have HB := Lib.hid hb
  obtain ⟨u, x, hx⟩ := HS.out.below hb
  have HX := Lib.hid hx
  clear hb hx
  go_wp2_with fail
  refine (AnyPu.strconv_toError_syntax { Tryd.laysPu14 with } ⟨#[80, 97, 114, 115, 101, 85, 105, 110, 116]⟩ ⟨bs.toArray⟩ 16 8 (.iface u x) _ (by show bs.toArray.size ≤ _; simp; omega) HX.out (.inr ⟨u, x, rfl⟩)).mono ?_
  rintro e w2 ⟨N, rfl, h1, h2, h3⟩
  have H3 := Lib.hid (HB.out.trans (h3.mono HB.out.size))
  clear h1 h2 h3
  go_wp2
  go_ret2
  exact ⟨⟨N, rfl⟩, H3.out⟩
@[local go_sem] theorem ext_tail0 (c : UInt8) (l : B) : (⟨(c :: l).toArray⟩ : ByteArray).extract 1 (l.length + 1) = ⟨l.toArray⟩ := by
  apply ByteArray.ext; simp
@[local go_sem] theorem ext_tail2 (a b : UInt8) (l : B) : (⟨(a :: b :: l).toArray⟩ : ByteArray).extract 2 (l.length + 1 + 1) = ⟨l.toArray⟩ := by
  apply ByteArray.ext; simp
@[local go_sem] theorem ext_head2 (a b : UInt8) (l : B) : (⟨(a :: b :: l).toArray⟩ : ByteArray).extract 0 2 = ⟨[a, b].toArray⟩ := by
  apply ByteArray.ext; simp
theorem hexR_some {bs r : B} {c : UInt8} (h : hexR bs = some (c, r)) : ∃ a b n, bs = 48 :: 48 :: a :: b :: r ∧ hexTo 0 [a, b] = some n ∧ n ≤ 255 ∧ c = UInt8.ofNat n := by
  unfold hexR at h
  split at h
  · rename_i h1
    simp only [Bool.and_eq_true, decide_eq_true_eq] at h1
    match bs, h1 with
    | a :: b :: c' :: d :: rest, ⟨h1, _⟩ =>
      simp only [Lib.hasPrefix, List.isPrefixOf, Bool.and_eq_true, beq_iff_eq, Bool.and_true] at h1
      obtain ⟨rfl, rfl⟩ := h1
      simp only [List.getD_cons_succ, List.getD_cons_zero, List.drop_succ_cons, List.drop_zero] at h
      cases h2 : hexV c' with
      | none => rw [h2] at h; simp at h
      | some x =>
        cases h3 : hexV d with
        | none => rw [h2, h3] at h; simp at h
        | some y =>
          rw [h2, h3] at h
          simp only [Option.some.injEq, Prod.mk.injEq] at h
          have := hexV_lt h2
          have := hexV_lt h3
          exact ⟨c', d, 16 * x + y, by rw [h.2], by simp [hexTo, h2, h3], by omega, h.1.symm⟩
  · cases h
theorem hexR_none {bs : B} (h : hexR bs = none) : Lib.hasPrefix bs [48, 48] = false ∨ bs.length < 4 ∨ ∃ a b r, bs = 48 :: 48 :: a :: b :: r ∧ hexTo 0 [a, b] = none := by
  unfold hexR at h
  split at h
  · rename_i h1
    simp only [Bool.and_eq_true, decide_eq_true_eq] at h1
    match bs, h1 with
    | a :: b :: c' :: d :: rest, ⟨h1, _⟩ =>
      simp only [Lib.hasPrefix, List.isPrefixOf, Bool.and_eq_true, beq_iff_eq, Bool.and_true] at h1
      obtain ⟨rfl, rfl⟩ := h1
      simp only [List.getD_cons_succ, List.getD_cons_zero, List.drop_succ_cons, List.drop_zero] at h
      refine .inr (.inr ⟨c', d, rest, rfl, ?_⟩)
      cases h2 : hexV c' with
      | none => simp [hexTo, h2]
      | some x =>
        cases h3 : hexV d with
        | none => simp [hexTo, h2, h3]
        | some y => rw [h2, h3] at h; simp at h
  · rename_i h1
    cases hp : Lib.hasPrefix bs [48, 48] with
    | false => exact .inl rfl
    | true =>
      rw [hp] at h1
      simp at h1
      exact .inr (.inl (by omega))
set_option maxRecDepth 100000 in
theorem idx_esc : ∀ n : Fin 256, Lib.indexByte escL (UInt8.ofNat n.val) = if escI (UInt8.ofNat n.val) < 8 then (escI (UInt8.ofNat n.val) : Int) else -1 := by decide
theorem idx_of (x : UInt8) : Lib.indexByte escL x = if escI x < 8 then (escI x : Int) else -1 := by
  have := idx_esc ⟨x.toNat, x.toNat_lt⟩
  simpa using this
theorem escV_at (n : Nat) (h : n < 8) : ∀ h' : n < (⟨#[34, 92, 47, 8, 12, 10, 13, 9]⟩ : ByteArray).size, (⟨#[34, 92, 47, 8, 12, 10, 13, 9]⟩ : ByteArray)[n] = escV.getD n 0 := by
  intro h'
  have : ∀ m : Fin 8, (⟨#[34, 92, 47, 8, 12, 10, 13, 9]⟩ : ByteArray)[m.val]'(by exact m.2) = escV.getD m.val 0 := by decide
  exact this ⟨n, h⟩
theorem findE_any (x : UInt8) (w : World) (i : Int) (hi : Lib.indexByte escL x = i) : Calls Tryd.prog 58 #[.string ⟨#[34, 92, 47, 98, 102, 110, 114, 116]⟩, .int .u8 (x.toNat : Int)] w fun e w' => e = .returned (.int .i64 i) ∧ w = w' := by
  refine (Tryd.strings_IndexByte ⟨#[34, 92, 47, 98, 102, 110, 114, 116]⟩ (x.toNat : Int) w).mono fun e w' ⟨h1, h2⟩ => ⟨?_, h2.symm⟩
  rw [h1, ← hi]
  congr 2
  show Lib.indexByte escL _ = _
  congr 1
  simp
theorem u8_of {n : Nat} (h : n ≤ 255) : ((UInt8.ofNat n).toNat : Int) = (n : Int) := by simp; omega
end Go.Proofs.YtjakkmjipglkiaaDoor.Rd
