
/-
  The walks of UrlText, OriginOf and StripUrl, of the program and of the model.
-/
import Derived.Test.YtniflfgnelfpbaaDoorUrlLawA
namespace Go.Proofs.YtniflfgnelfpbaaDoor.Ul
open Go.RowKit
attribute [local go_sem] bappI
theorem ret_tup {a b : List UInt8} {c : Int} (h : a = b) : Ending.returned (.tuple #[.string ⟨a.toArray⟩, .int .i64 c]) = .returned (.tuple #[.string ⟨b.toArray⟩, .int .i64 c]) := by rw [h]
theorem ok_port (s us h pa q f : List UInt8) (p : Int) (hq hf : Bool) (hok : okB ⟨s, us, h, p, pa, q, f, hq, hf⟩ = true) (hw : webB s = true) : 0 ≤ p ∧ p ≤ 65535 := by
  rw [okB_fields, Bool.and_eq_true] at hok
  exact fields_port s us h pa q f p hq hf hok.1 hw
theorem iOrigin_no (s us h pa q f : List UInt8) (p : Int) (hq hf : Bool) (w : World) (hT : Tab w) (hl : s.length + us.length + h.length + pa.length + q.length + f.length ≤ 4611686018427387904) (hok : okB ⟨s, us, h, p, pa, q, f, hq, hf⟩ = false) :
    Calls Tryd.prog 64 #[.agg #[.string ⟨s.toArray⟩, .string ⟨us.toArray⟩, .string ⟨h.toArray⟩, .int .i64 p, .string ⟨pa.toArray⟩, .string ⟨q.toArray⟩, .string ⟨f.toArray⟩, .bool hq, .bool hf]] w fun e w' => e = .returned (.tuple #[.string ⟨#[]⟩, .int .i64 1]) ∧ Below w.heap.size w w' := by
  have hO := fun W hT => UrlOK_any s us h pa q f p hq hf W hT hl
  rw [hok] at hO
  have HOK := Lib.hid hO
  have HT := Lib.hid hT
  clear hO hT
  go_enter Tryd.func64, Tryd.ntmps64
  go_wp2_with (go_at_call 75; refine (HOK.out _ (HT.out.below (by repeat (first | exact Below.refl _ _ | refine belI_alloc ?_ | refine Below.drew ?_ | refine belI_step ?_ (by assumption))))).mono ?_; rintro e w1 ⟨rfl, hb⟩; have hc := bcellI hb; have hz : w.heap.size < w1.heap.size := (by have := hb.size; (try simp at this); omega))
  go_ret2
  exact ⟨rfl, (by repeat (first | exact Below.refl _ _ | refine belI_alloc ?_ | refine Below.drew ?_ | refine belI_step ?_ (by assumption)))⟩
theorem iStrip_no (s us h pa q f : List UInt8) (p : Int) (hq hf : Bool) (w : World) (hT : Tab w) (hl : s.length + us.length + h.length + pa.length + q.length + f.length ≤ 4611686018427387904) (hok : okB ⟨s, us, h, p, pa, q, f, hq, hf⟩ = false) :
    Calls Tryd.prog 65 #[.agg #[.string ⟨s.toArray⟩, .string ⟨us.toArray⟩, .string ⟨h.toArray⟩, .int .i64 p, .string ⟨pa.toArray⟩, .string ⟨q.toArray⟩, .string ⟨f.toArray⟩, .bool hq, .bool hf]] w fun e w' => e = .returned (.tuple #[.string ⟨#[]⟩, .int .i64 1]) ∧ Below w.heap.size w w' := by
  have hO := fun W hT => UrlOK_any s us h pa q f p hq hf W hT hl
  rw [hok] at hO
  have HOK := Lib.hid hO
  have HT := Lib.hid hT
  clear hO hT
  go_enter Tryd.func65, Tryd.ntmps65
  go_wp2_with (go_at_call 75; refine (HOK.out _ (HT.out.below (by repeat (first | exact Below.refl _ _ | refine belI_alloc ?_ | refine Below.drew ?_ | refine belI_step ?_ (by assumption))))).mono ?_; rintro e w1 ⟨rfl, hb⟩; have hc := bcellI hb; have hz : w.heap.size < w1.heap.size := (by have := hb.size; (try simp at this); omega))
  go_ret2
  exact ⟨rfl, (by repeat (first | exact Below.refl _ _ | refine belI_alloc ?_ | refine Below.drew ?_ | refine belI_step ?_ (by assumption)))⟩
theorem iOrigin_other (s us h pa q f : List UInt8) (p : Int) (hq hf : Bool) (w : World) (hT : Tab w) (hl : s.length + us.length + h.length + pa.length + q.length + f.length ≤ 4611686018427387904) (hok : okB ⟨s, us, h, p, pa, q, f, hq, hf⟩ = true) (hw : webB s = false) :
    Calls Tryd.prog 64 #[.agg #[.string ⟨s.toArray⟩, .string ⟨us.toArray⟩, .string ⟨h.toArray⟩, .int .i64 p, .string ⟨pa.toArray⟩, .string ⟨q.toArray⟩, .string ⟨f.toArray⟩, .bool hq, .bool hf]] w fun e w' => e = .returned (.tuple #[.string ⟨#[]⟩, .int .i64 11]) ∧ Below w.heap.size w w' := by
  have hO := fun W hT => UrlOK_any s us h pa q f p hq hf W hT hl
  rw [hok] at hO
  have HOK := Lib.hid hO
  have HT := Lib.hid hT
  clear hO hT
  go_enter Tryd.func64, Tryd.ntmps64
  go_wp2_with (first
    | (go_at_call 75; refine (HOK.out _ (HT.out.below (by repeat (first | exact Below.refl _ _ | refine belI_alloc ?_ | refine Below.drew ?_ | refine belI_step ?_ (by assumption))))).mono ?_; rintro e w1 ⟨rfl, hb⟩; have hc := bcellI hb; have hz : w.heap.size < w1.heap.size := (by have := hb.size; (try simp at this); omega))
    | (go_at_call 77; refine (isWeb_any _ _).mono ?_; rintro e w' ⟨rfl, rfl⟩))
  go_ret2
  exact ⟨rfl, (by repeat (first | exact Below.refl _ _ | refine belI_alloc ?_ | refine Below.drew ?_ | refine belI_step ?_ (by assumption)))⟩
theorem clone_any (l : List UInt8) (w : World) (hl : l.length ≤ 281474976710656) : Calls Tryd.prog 40 #[.string ⟨l.toArray⟩] w fun e w' => e = .returned (.string ⟨l.toArray⟩) ∧ Below w.heap.size w w' := by
  go_enter Tryd.func40, Tryd.ntmps40
  go_wp2_with fail
  refine (Tryd.stringslite_Clone ⟨l.toArray⟩ _ hl).mono ?_
  rintro e w1 ⟨rfl, hb⟩
  go_wp2
  go_ret
  exact ⟨rfl, hb⟩
theorem iStrip_other (s us h pa q f : List UInt8) (p : Int) (hq hf : Bool) (w : World) (hT : Tab w) (hl : s.length + us.length + h.length + pa.length + q.length + f.length ≤ 4611686018427387904) (hs : s.length ≤ 281474976710656) (hok : okB ⟨s, us, h, p, pa, q, f, hq, hf⟩ = true) (hw : webB s = false) :
    Calls Tryd.prog 65 #[.agg #[.string ⟨s.toArray⟩, .string ⟨us.toArray⟩, .string ⟨h.toArray⟩, .int .i64 p, .string ⟨pa.toArray⟩, .string ⟨q.toArray⟩, .string ⟨f.toArray⟩, .bool hq, .bool hf]] w fun e w' => e = .returned (.tuple #[.string ⟨(s).toArray⟩, .int .i64 0]) ∧ Below w.heap.size w w' := by
  have hO := fun W hT => UrlOK_any s us h pa q f p hq hf W hT hl
  rw [hok] at hO
  have HOK := Lib.hid hO
  have HT := Lib.hid hT
  clear hO hT
  go_enter Tryd.func65, Tryd.ntmps65
  go_wp2_with (first
    | (go_at_call 75; refine (HOK.out _ (HT.out.below (by repeat (first | exact Below.refl _ _ | refine belI_alloc ?_ | refine Below.drew ?_ | refine belI_step ?_ (by assumption))))).mono ?_; rintro e w1 ⟨rfl, hb⟩; have hc := bcellI hb; have hz : w.heap.size < w1.heap.size := (by have := hb.size; (try simp at this); omega))
    | (go_at_call 77; refine (isWeb_any _ _).mono ?_; rintro e w' ⟨rfl, rfl⟩)
    | (go_at_call 40; refine (clone_any _ _ hs).mono ?_; rintro e w1 ⟨rfl, hb⟩))
  go_ret2
  exact ⟨rfl, (by repeat (first | exact Below.refl _ _ | refine belI_alloc ?_ | refine Below.drew ?_ | refine belI_step ?_ (by assumption)))⟩
set_option maxRecDepth 100000 in
theorem iOrigin_web (s us h pa q f : List UInt8) (p : Int) (hq hf : Bool) (w : World) (hT : Tab w) (hl : s.length + us.length + h.length + pa.length + q.length + f.length ≤ 4611686018427387904) (hok : okB ⟨s, us, h, p, pa, q, f, hq, hf⟩ = true) (hw : webB s = true) :
    Calls Tryd.prog 64 #[.agg #[.string ⟨s.toArray⟩, .string ⟨us.toArray⟩, .string ⟨h.toArray⟩, .int .i64 p, .string ⟨pa.toArray⟩, .string ⟨q.toArray⟩, .string ⟨f.toArray⟩, .bool hq, .bool hf]] w fun e w' => e = .returned (.tuple #[.string ⟨(siteL s h p).toArray⟩, .int .i64 0]) ∧ Below w.heap.size w w' := by
  have hpp := ok_port s us h pa q f p hq hf hok hw
  have hd := portL_len p (by omega)
  have HS0 := fun W hT => hostText_any s us h pa q f p hq hf W hT hpp (by omega)
  have hO := fun W hT => UrlOK_any s us h pa q f p hq hf W hT hl
  rw [hok] at hO
  have HOK := Lib.hid hO
  have HT := Lib.hid hT
  clear hO hT
  have e : siteL s h p = s ++ [58, 47, 47] ++ (h ++ portL p) := by simp [siteL]
  rw [e]
  clear e
  generalize portL p = po at *
  have HS := Lib.hid HS0
  clear HS0
  have b1 : ¬ 9223372036854775807 < s.length + 3 := by omega
  have b2 : ¬ 9223372036854775807 < s.length + 3 + (h.length + po.length) := by omega
  go_enter Tryd.func64, Tryd.ntmps64
  go_wp2_with (first
    | (go_at_call 75; refine (HOK.out _ (HT.out.below (by repeat (first | exact Below.refl _ _ | refine belI_alloc ?_ | refine Below.drew ?_ | refine belI_step ?_ (by assumption))))).mono ?_; rintro e w1 ⟨rfl, hb⟩; have hc := bcellI hb; have hz : w.heap.size < w1.heap.size := (by have := hb.size; (try simp at this); omega))
    | (go_at_call 77; refine (isWeb_any _ _).mono ?_; rintro e w' ⟨rfl, rfl⟩))
  have hbw := belI_step (belI_alloc (Below.refl _ _)) hb
  have HB := Lib.hid hb
  clear hb
  go_region_held3 (fun wx => w.heap.size < wx.heap.size ∧ wx.cell? ⟨w.heap.size, 0, none⟩ = some (.string ⟨s.toArray⟩) ∧ wx.cell? ⟨w.heap.size, 1, none⟩ = some (.string ⟨us.toArray⟩) ∧ wx.cell? ⟨w.heap.size, 2, none⟩ = some (.string ⟨h.toArray⟩) ∧ wx.cell? ⟨w.heap.size, 3, none⟩ = some (.int .i64 p) ∧ wx.cell? ⟨w.heap.size, 4, none⟩ = some (.string ⟨pa.toArray⟩) ∧ wx.cell? ⟨w.heap.size, 5, none⟩ = some (.string ⟨q.toArray⟩) ∧ wx.cell? ⟨w.heap.size, 6, none⟩ = some (.string ⟨f.toArray⟩) ∧ wx.cell? ⟨w.heap.size, 7, none⟩ = some (.bool hq) ∧ wx.cell? ⟨w.heap.size, 8, none⟩ = some (.bool hf) ∧ Below w.heap.size w wx)
    (first
      | (simp [*, Below.drew]; done)
      | (simp [*, Below.refl, belI_alloc, Below.drew]; done)
      | (go_split_ands
         have hz := hb.size
         refine ⟨by omega, ?_, ?_, ?_, ?_, ?_, ?_, ?_, ?_, ?_, belI_step (by assumption) hb⟩
         · (rw [hb.cell (p := ⟨w.heap.size, 0, none⟩) (by assumption)]; assumption)
         · (rw [hb.cell (p := ⟨w.heap.size, 1, none⟩) (by assumption)]; assumption)
         · (rw [hb.cell (p := ⟨w.heap.size, 2, none⟩) (by assumption)]; assumption)
         · (rw [hb.cell (p := ⟨w.heap.size, 3, none⟩) (by assumption)]; assumption)
         · (rw [hb.cell (p := ⟨w.heap.size, 4, none⟩) (by assumption)]; assumption)
         · (rw [hb.cell (p := ⟨w.heap.size, 5, none⟩) (by assumption)]; assumption)
         · (rw [hb.cell (p := ⟨w.heap.size, 6, none⟩) (by assumption)]; assumption)
         · (rw [hb.cell (p := ⟨w.heap.size, 7, none⟩) (by assumption)]; assumption)
         · (rw [hb.cell (p := ⟨w.heap.size, 8, none⟩) (by assumption)]; assumption)))
    (first | (go_split_ands; go_at_call 90; refine (HS.out _ (HT.out.below (by assumption))).mono ?_; rintro e w1 ⟨rfl, hb⟩))
  go_wp2
  go_ret2
  exact ⟨ret_tup (by simp), by simp [*]⟩
end Go.Proofs.YtniflfgnelfpbaaDoor.Ul
