
/-
  The walks of StripUrl, of the program and of the model, and of the laws on it.
-/
import Derived.Test.YtniflfgnelfpbaaDoorUrlLawB
namespace Go.Proofs.YtniflfgnelfpbaaDoor.Ul
open Go.RowKit
attribute [local go_sem] bappI
theorem bfrozI {W w1 : World} (hb : Below W.heap.size W w1) : (∀ b o, b < W.heap.size → w1.frozen? ⟨b, o, none⟩ = W.frozen? ⟨b, o, none⟩) :=
  fun b o h => hb.frozen (p := ⟨b, o, none⟩) h
theorem belI_set {w Y : World} {p : Addr} {v : Value} (h : Below w.heap.size w Y) (hp : w.heap.size ≤ p.block) : Below w.heap.size w (Y.setCell p v) := h.setCell hp v
theorem strip_web (s us h pa q f : List UInt8) (p : Int) (hq hf : Bool) (w : World) (hp1 : p ≤ 9223372036854775807) (hl : s.length + us.length + h.length + pa.length + q.length + f.length ≤ 4611686018427387904) (hw : webB s = true) :
    Calls Tryd.prog 45 #[.agg #[.string ⟨s.toArray⟩, .string ⟨us.toArray⟩, .string ⟨h.toArray⟩, .int .i64 p, .string ⟨pa.toArray⟩, .string ⟨q.toArray⟩, .string ⟨f.toArray⟩, .bool hq, .bool hf]] w fun e w' => e = .returned (.string ⟨(textL ⟨s, [], h, p, pa, q, [], hq, false⟩).toArray⟩) ∧ Below w.heap.size w w' := by
  have HJ0 : ∀ W : World, Calls Tryd.prog 71 #[.agg #[.string ⟨s.toArray⟩, .string ⟨#[]⟩, .string ⟨h.toArray⟩, .int .i64 p, .string ⟨pa.toArray⟩, .string ⟨q.toArray⟩, .string ⟨#[]⟩, .bool hq, .bool false]] W fun e w' => e = .returned (.string ⟨(textL ⟨s, [], h, p, pa, q, [], hq, false⟩).toArray⟩) ∧ Below W.heap.size W w' := fun W => text_any ⟨s, [], h, p, pa, q, [], hq, false⟩ W hp1 (by simp only [sizeU, List.length_nil]; omega)
  generalize textL ⟨s, [], h, p, pa, q, [], hq, false⟩ = tl at *
  have HJ := Lib.hid HJ0
  clear HJ0
  go_enter Tryd.func45, Tryd.ntmps45
  go_wp2_with (first
    | (go_at_call 60; refine (web_any _ _).mono ?_; rintro e w' ⟨rfl, rfl⟩)
    | (go_at_call 71; refine (HJ.out _).mono ?_; rintro e w1 ⟨rfl, hb⟩))
  go_ret
  exact ⟨rfl, (by repeat (first | exact Below.refl _ _ | refine belI_alloc ?_ | refine Below.drew ?_ | refine belI_step ?_ (by assumption)))⟩
theorem strip_other (s us h pa q f : List UInt8) (p : Int) (hq hf : Bool) (w : World) (hw : webB s = false) :
    Calls Tryd.prog 45 #[.agg #[.string ⟨s.toArray⟩, .string ⟨us.toArray⟩, .string ⟨h.toArray⟩, .int .i64 p, .string ⟨pa.toArray⟩, .string ⟨q.toArray⟩, .string ⟨f.toArray⟩, .bool hq, .bool hf]] w fun e w' => e = .returned (.string ⟨s.toArray⟩) ∧ Below w.heap.size w w' := by
  go_enter Tryd.func45, Tryd.ntmps45
  go_wp2_with (go_at_call 60; refine (web_any _ _).mono ?_; rintro e w' ⟨rfl, rfl⟩)
  go_ret
  exact ⟨rfl, (by repeat (first | exact Below.refl _ _ | refine belI_alloc ?_ | refine Below.drew ?_ | refine belI_step ?_ (by assumption)))⟩
set_option maxRecDepth 100000 in
theorem iStrip_web (s us h pa q f : List UInt8) (p : Int) (hq hf : Bool) (w : World) (hT : Tab w) (hl : s.length + us.length + h.length + pa.length + q.length + f.length ≤ 4611686018427387904) (hok : okB ⟨s, us, h, p, pa, q, f, hq, hf⟩ = true) (hw : webB s = true) :
    Calls Tryd.prog 65 #[.agg #[.string ⟨s.toArray⟩, .string ⟨us.toArray⟩, .string ⟨h.toArray⟩, .int .i64 p, .string ⟨pa.toArray⟩, .string ⟨q.toArray⟩, .string ⟨f.toArray⟩, .bool hq, .bool hf]] w fun e w' => e = .returned (.tuple #[.string ⟨(textL ⟨s, [], h, p, pa, q, [], hq, false⟩).toArray⟩, .int .i64 0]) ∧ Below w.heap.size w w' := by
  have HJ0 : ∀ W : World, Tab W → Calls Tryd.prog 91 #[.agg #[.string ⟨s.toArray⟩, .string ⟨#[]⟩, .string ⟨h.toArray⟩, .int .i64 p, .string ⟨pa.toArray⟩, .string ⟨q.toArray⟩, .string ⟨#[]⟩, .bool hq, .bool false]] W fun e w' => e = .returned (.string ⟨(textL ⟨s, [], h, p, pa, q, [], hq, false⟩).toArray⟩) ∧ Below W.heap.size W w' := fun W hT => join_any s [] h pa q [] p hq false W hT (ok_port s us h pa q f p hq hf hok) (by simp only [List.length_nil]; omega)
  generalize textL ⟨s, [], h, p, pa, q, [], hq, false⟩ = tl at *
  have hO := fun W hT => UrlOK_any s us h pa q f p hq hf W hT hl
  rw [hok] at hO
  have HOK := Lib.hid hO
  have HJ := Lib.hid HJ0
  have HT := Lib.hid hT
  clear hO hT HJ0
  go_enter Tryd.func65, Tryd.ntmps65
  go_wp2_with (first
    | (go_at_call 75; refine (HOK.out _ (HT.out.below (by repeat (first | exact Below.refl _ _ | refine belI_alloc ?_ | refine Below.drew ?_ | refine belI_step ?_ (by assumption))))).mono ?_; rintro e w1 ⟨rfl, hb⟩; have hc := bcellI hb; have hfz := bfrozI hb; have hz : w.heap.size < w1.heap.size := (by have := hb.size; (try simp at this); omega))
    | (go_at_call 77; refine (isWeb_any _ _).mono ?_; rintro e w' ⟨rfl, rfl⟩)
    | (go_at_call 91; refine (HJ.out _ (HT.out.below (by repeat (first | exact Below.refl _ _ | refine belI_alloc ?_ | refine Below.drew ?_ | refine belI_set ?_ (by simp) | refine belI_step ?_ (by assumption))))).mono ?_; rintro e w2 ⟨rfl, hb2⟩))
  go_ret2
  exact ⟨rfl, (by repeat (first | exact Below.refl _ _ | refine belI_alloc ?_ | refine Below.drew ?_ | refine belI_set ?_ (by simp) | refine belI_step ?_ (by assumption)))⟩
end Go.Proofs.YtniflfgnelfpbaaDoor.Ul
