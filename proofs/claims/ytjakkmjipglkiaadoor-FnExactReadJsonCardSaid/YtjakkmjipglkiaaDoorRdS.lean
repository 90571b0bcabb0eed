
/-
  The model's reader of JSON, walked: its small methods: fail, blanks, skip, word.
-/
import Derived.Test.YtjakkmjipglkiaaDoorRdA
import Derived.Test.YtjakkmjipglkiaaDoorRdM
import Derived.Test.YtjakkmjipglkiaaDoorUrlSpecA
import Derived.BigQuiet
namespace Go.Proofs.YtjakkmjipglkiaaDoor.Rd
open Go.RowKit
open Go.Proofs.YtjakkmjipglkiaaDoor.Rm
open Go.Proofs.YtjakkmjipglkiaaDoor.Ul (byte_at)
abbrev ptr (R : Nat) : Value := .pointer (some ⟨R, 0, none⟩)
/-- the model's reader: the text, the place, the code -/
abbrev rsO (t : B) (p : Nat) (c : Int) : Obj := .cells #[.string ⟨t.toArray⟩, .int .i64 (p : Int), .int .i64 c] 43
structure At (t : B) (p : Nat) (bs : B) : Prop where
  le : p ≤ t.length
  eq : t.drop p = bs
theorem At.len {t bs : B} {p : Nat} (h : At t p bs) : p + bs.length = t.length := by rw [← h.eq, List.length_drop]; have := h.le; omega
theorem At.lt {t bs : B} {p : Nat} {x : UInt8} (h : At t p (x :: bs)) : p < t.length := by have := h.len; simp at this; omega
theorem At.byte {t bs : B} {p : Nat} {x : UInt8} (h : At t p (x :: bs)) : ∀ h' : p < (⟨t.toArray⟩ : ByteArray).size, (⟨t.toArray⟩ : ByteArray)[p] = x := by
  intro h'
  have hl := h.lt
  have e := List.drop_eq_getElem_cons hl
  rw [h.eq] at e
  injection e with e1 _
  exact e1.symm
theorem At.next {t bs : B} {p : Nat} {x : UInt8} (h : At t p (x :: bs)) : At t (p + 1) bs := by
  have hl := h.lt
  refine ⟨hl, ?_⟩
  have e := List.drop_eq_getElem_cons hl
  rw [h.eq] at e
  injection e with _ e2
  exact e2.symm
theorem At.skip {t bs : B} {p : Nat} (h : At t p bs) (k : Nat) (hk : k ≤ bs.length) : At t (p + k) (bs.drop k) := by
  have := h.len
  refine ⟨by omega, ?_⟩
  rw [← h.eq, List.drop_drop]
theorem At.nil {t : B} {p : Nat} (h : At t p []) : p = t.length := by have := h.len; simpa using this
def failC (c k : Int) : Int := if c = 0 then k else c
set_option maxRecDepth 100000 in
set_option maxHeartbeats 1000000 in
theorem fail_any (R : Nat) (t : B) (p : Nat) (c k : Int) (W : World) (h : Hd W R (rsO t p c)) :
    Calls Tryd.prog 30 #[ptr R, .int .i64 k] W fun e w' => e = .returned (.tuple #[]) ∧ Hd w' R (rsO t p (failC c k)) ∧ Ch (· = R) W w' := by
  obtain ⟨c0, c1, c2, cf⟩ := h.three
  have H := Lib.hid h
  have hlt := h.lt
  clear h
  by_cases h0 : c = 0
  · subst h0
    go_enter Tryd.func30, Tryd.ntmps30
    go_wp2
    go_end0
    exact ⟨rfl, H.out.set 2 _, (Ch.refl _ _).set rfl⟩
  · have g : (c == 0) = false := by simpa using h0
    go_enter Tryd.func30, Tryd.ntmps30
    go_wp2
    go_end0
    exact ⟨rfl, by unfold failC; rw [if_neg h0]; exact H.out, Ch.refl _ _⟩
end Go.Proofs.YtjakkmjipglkiaaDoor.Rd
