
/-
  The walks of the program's functions of chapter 2 that answer: UrlOK, UrlText, OriginOf, StripUrl.
-/
import Derived.Test.YtniflfgnelfpbaaDoorUrlImplD
namespace Go.Proofs.YtniflfgnelfpbaaDoor.Ul
open Go.RowKit
attribute [local go_sem] bappI
theorem prefix_slash (l : List UInt8) : Lib.hasPrefix l [47] = slashB l := by
  cases l with
  | nil => rfl
  | cons c l =>
    show (47 == c && true) = (c == 47)
    rw [Bool.and_true]
    by_cases h : c = 47
    · subst h; rfl
    · have h1 : (c == 47) = false := by simpa using h
      have h2 : ((47 : UInt8) == c) = false := by simpa using fun e => h e.symm
      rw [h1, h2]
theorem dport_web (s : List UInt8) (h : webB s = true) : dport s = usual s := by
  unfold dport usual
  by_cases h1 : (s == http) = true
  · simp [h1]
  · have h2 : (s == https) = true := by simpa [webB, h1] using h
    rw [if_neg h1, if_neg h1, if_pos h2]
theorem size_text (s us h pa q f : List UInt8) (p : Int) (hq hf : Bool) (h1 : hq = true ∨ q = []) (h2 : hf = true ∨ f = []) (h3 : webB s = true ∨ (us = [] ∧ h = [] ∧ q = [] ∧ f = [])) :
    s.length + us.length + h.length + pa.length + q.length + f.length ≤ (textL ⟨s, us, h, p, pa, q, f, hq, hf⟩).length := by
  unfold textL
  by_cases hw : webB s = true
  · have e1 : us.length ≤ (userL us).length := by unfold userL; split <;> simp_all
    have e2 : q.length ≤ (queryL hq q).length := by rcases h1 with rfl | rfl <;> simp [queryL]
    have e3 : f.length ≤ (fragL hf f).length := by rcases h2 with rfl | rfl <;> simp [fragL]
    simp only [hw, if_true, List.length_append]
    omega
  · obtain ⟨rfl, rfl, rfl, rfl⟩ := h3.resolve_left hw
    first | (simp [hw]; done) | (simp [hw]; omega)
theorem okB_fields (s us h pa q f : List UInt8) (p : Int) (hq hf : Bool) : okB ⟨s, us, h, p, pa, q, f, hq, hf⟩ = (fieldsB s us h pa q f p hq hf && decide ((textL ⟨s, us, h, p, pa, q, f, hq, hf⟩).length ≤ 100)) := by
  rw [okB_eq, fieldsB_eq]
  by_cases hw : webB s = true
  · rw [webB2_eq, portB, dport_web s hw, prefix_slash]
    simp only [hw, if_true]
    ac_rfl
  · have hw : webB s = false := by simpa using hw
    simp only [hw, Bool.false_eq_true, if_false]
    cases hq <;> cases hf <;> simp
    cases q <;> cases f <;> simp [onlyB]
    ac_rfl
theorem okB_impl (s us h pa q f : List UInt8) (p : Int) (hq hf : Bool) : okB ⟨s, us, h, p, pa, q, f, hq, hf⟩ = (decide (s.length + us.length + h.length + pa.length + q.length + f.length ≤ 100) && fieldsB s us h pa q f p hq hf && decide ((textL ⟨s, us, h, p, pa, q, f, hq, hf⟩).length ≤ 100)) := by
  rw [okB_fields]
  by_cases hx : (fieldsB s us h pa q f p hq hf && decide ((textL ⟨s, us, h, p, pa, q, f, hq, hf⟩).length ≤ 100)) = true
  · have hs : s.length + us.length + h.length + pa.length + q.length + f.length ≤ 100 := by
      simp only [Bool.and_eq_true, decide_eq_true_eq] at hx
      obtain ⟨hf1, hlen⟩ := hx
      refine Nat.le_trans (size_text s us h pa q f p hq hf ?_ ?_ ?_) hlen
      all_goals
        rw [fieldsB_eq, webB2_eq] at hf1
        by_cases hw : webB s = true <;> simp_all
    simp [hs]
  · have hx : (fieldsB s us h pa q f p hq hf && decide ((textL ⟨s, us, h, p, pa, q, f, hq, hf⟩).length ≤ 100)) = false := by simpa using hx
    rw [Bool.and_assoc, hx, Bool.and_false]
theorem fields_port (s us h pa q f : List UInt8) (p : Int) (hq hf : Bool) (hf1 : fieldsB s us h pa q f p hq hf = true) (hw : webB s = true) : 0 ≤ p ∧ p ≤ 65535 := by
  rw [fieldsB_eq, webB2_eq, portB] at hf1
  simp_all
theorem UrlOK_any (s us h pa q f : List UInt8) (p : Int) (hq hf : Bool) (w : World) (hT : Tab w) (hl : s.length + us.length + h.length + pa.length + q.length + f.length ≤ 4611686018427387904) :
    Calls Tryd.prog 75 #[.agg #[.string ⟨s.toArray⟩, .string ⟨us.toArray⟩, .string ⟨h.toArray⟩, .int .i64 p, .string ⟨pa.toArray⟩, .string ⟨q.toArray⟩, .string ⟨f.toArray⟩, .bool hq, .bool hf]] w fun e w' => e = .returned (.bool (okB ⟨s, us, h, p, pa, q, f, hq, hf⟩)) ∧ Below w.heap.size w w' := by
  have HT := Lib.hid hT
  clear hT
  have E0 := okB_impl s us h pa q f p hq hf
  by_cases h1 : s.length + us.length + h.length + pa.length + q.length + f.length ≤ 100
  · by_cases h2 : fieldsB s us h pa q f p hq hf = true
    · have hj := fun W hT => join_any s us h pa q f p hq hf W hT (fields_port s us h pa q f p hq hf h2) hl
      have E : okB ⟨s, us, h, p, pa, q, f, hq, hf⟩ = decide (((textL ⟨s, us, h, p, pa, q, f, hq, hf⟩).length : Int) ≤ 100) := by
        rw [E0, h2]; rw [Bool.eq_iff_iff]; simp; omega
      have hlen := textL_len ⟨s, us, h, p, pa, q, f, hq, hf⟩ (by
        by_cases hw : webB s = true
        · have := fields_port s us h pa q f p hq hf h2 hw
          simp only; omega
        · rw [fieldsB_eq] at h2
          simp_all)
      simp only [sizeU] at hlen
      rw [E]
      clear E E0
      generalize textL ⟨s, us, h, p, pa, q, f, hq, hf⟩ = tl at *
      have HJ := Lib.hid hj
      have H2 := Lib.hid h2
      clear hj h2
      have g1 : decide (((s.length + us.length + h.length + pa.length + q.length + f.length : Nat) : Int) ≤ 100) = true := by simp; omega
      have hF := fun W => fieldsOK_any s us h pa q f p hq hf W hl
      rw [H2.out] at hF
      have HF := Lib.hid hF
      clear hF
      go_enter Tryd.func75, Tryd.ntmps75
      go_wp2_with (first
        | (go_at_call 97; refine (partsLength_any _ _ _ _ _ _ _ _ _ _ hl).mono ?_; rintro e w1 ⟨rfl, hb⟩; have hc := bcellI hb; have hz : w.heap.size < w1.heap.size := (by have := hb.size; (try simp at this); omega))
        | (go_at_call 98; refine (HF.out _).mono ?_; rintro e w1 ⟨rfl, hb⟩; have hc := bcellI hb; have hz : w.heap.size < w1.heap.size := (by have := hb.size; (try simp at this); omega))
        | (go_at_call 91; refine (HJ.out _ (HT.out.below (by repeat (first | exact Below.refl _ _ | refine belI_alloc ?_ | refine Below.drew ?_ | refine belI_step ?_ (by assumption))))).mono ?_; rintro e w1 ⟨rfl, hb⟩))
      go_ret
      exact ⟨rfl, (by repeat (first | exact Below.refl _ _ | refine belI_alloc ?_ | refine Below.drew ?_ | refine belI_step ?_ (by assumption)))⟩
    · have h2 : fieldsB s us h pa q f p hq hf = false := by simpa using h2
      have E : okB ⟨s, us, h, p, pa, q, f, hq, hf⟩ = false := by rw [E0, h2]; simp
      rw [E]
      clear E E0
      have H2 := Lib.hid h2
      clear h2
      have hF := fun W => fieldsOK_any s us h pa q f p hq hf W hl
      rw [H2.out] at hF
      have HF := Lib.hid hF
      clear hF
      go_enter Tryd.func75, Tryd.ntmps75
      go_wp2_with (first
        | (go_at_call 97; refine (partsLength_any _ _ _ _ _ _ _ _ _ _ hl).mono ?_; rintro e w1 ⟨rfl, hb⟩; have hc := bcellI hb; have hz : w.heap.size < w1.heap.size := (by have := hb.size; (try simp at this); omega))
        | (go_at_call 98; refine (HF.out _).mono ?_; rintro e w1 ⟨rfl, hb⟩; have hc := bcellI hb; have hz : w.heap.size < w1.heap.size := (by have := hb.size; (try simp at this); omega)))
      go_ret
      exact ⟨rfl, (by repeat (first | exact Below.refl _ _ | refine belI_alloc ?_ | refine Below.drew ?_ | refine belI_step ?_ (by assumption)))⟩
  · have E : okB ⟨s, us, h, p, pa, q, f, hq, hf⟩ = false := by
      rw [E0, show decide (s.length + us.length + h.length + pa.length + q.length + f.length ≤ 100) = false from by simp; omega]; rfl
    rw [E]
    clear E E0
    go_enter Tryd.func75, Tryd.ntmps75
    go_wp2_with (go_at_call 97; refine (partsLength_any _ _ _ _ _ _ _ _ _ _ hl).mono ?_; rintro e w1 ⟨rfl, hb⟩; have hc := bcellI hb; have hz : w.heap.size < w1.heap.size := (by have := hb.size; (try simp at this); omega))
    go_ret
    exact ⟨rfl, (by repeat (first | exact Below.refl _ _ | refine belI_alloc ?_ | refine Below.drew ?_ | refine belI_step ?_ (by assumption)))⟩
end Go.Proofs.YtniflfgnelfpbaaDoor.Ul
