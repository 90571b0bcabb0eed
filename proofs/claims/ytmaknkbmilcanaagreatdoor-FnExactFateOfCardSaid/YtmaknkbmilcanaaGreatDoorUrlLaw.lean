
/-
  The walks of the laws on URLs that take a value: the size, the copy, and the law on UrlOK. The walks of UrlText, OriginOf and StripUrl, of the program and of the model. The walks of the program's functions of chapter 2 that read a URL: the parts copied, the split, the reading itself. The walks of the program's functions of chapter 2 that read a URL, the end: splitUrl and ParseUrl. The walk of the program's function of chapter 2 that reads a URL. The walks of StripUrl, of the program and of the model, and of the laws on it. The walks of SameOrigin, of the program and of the model. The law on SameOrigin, walked. The law on ParseUrl, walked. The law on StripText, walked. StripUrl and OriginOf in one, of the program and of the model; what the stripped URL is, plainly.
-/
import Derived.Test.YtmaknkbmilcanaaGreatDoorUrlImplA
import Derived.Test.YtmaknkbmilcanaaGreatDoorUrlSpecD
import Derived.Test.YtmaknkbmilcanaaGreatDoorUrlAt
import Derived.Deep.DeepCutAuto
import Derived.Test.YtmaknkbmilcanaaGreatDoorUrlSpecE
import Derived.Test.YtmaknkbmilcanaaGreatDoorUrlPlain
namespace Go.Proofs.YtmaknkbmilcanaaGreatDoor.Ul
open Go.RowKit
end Go.Proofs.YtmaknkbmilcanaaGreatDoor.Ul
namespace Go.Proofs.YtmaknkbmilcanaaGreatDoor.Ul
open Go.RowKit
attribute [local go_sem] bappI
theorem ret_tup {a b : List UInt8} {c : Int} (h : a = b) : Ending.returned (.tuple #[.string ⟨a.toArray⟩, .int .i64 c]) = .returned (.tuple #[.string ⟨b.toArray⟩, .int .i64 c]) := by rw [h]
theorem ok_port (s us h pa q f : List UInt8) (p : Int) (hq hf : Bool) (hok : okB ⟨s, us, h, p, pa, q, f, hq, hf⟩ = true) (hw : webB s = true) : 0 ≤ p ∧ p ≤ 65535 := by
  rw [okB_fields, Bool.and_eq_true] at hok
  exact fields_port s us h pa q f p hq hf hok.1 hw
theorem iOrigin_no (s us h pa q f : List UInt8) (p : Int) (hq hf : Bool) (w : World) (hT : Tab w) (hl : s.length + us.length + h.length + pa.length + q.length + f.length ≤ 4611686018427387904) (hok : okB ⟨s, us, h, p, pa, q, f, hq, hf⟩ = false) :
    Calls Tryz.prog 317 #[.agg #[.string ⟨s.toArray⟩, .string ⟨us.toArray⟩, .string ⟨h.toArray⟩, .int .i64 p, .string ⟨pa.toArray⟩, .string ⟨q.toArray⟩, .string ⟨f.toArray⟩, .bool hq, .bool hf]] w fun e w' => e = .returned (.tuple #[.string ⟨#[]⟩, .int .i64 1]) ∧ Below w.heap.size w w' := by
  have hO := fun W hT => UrlOK_any s us h pa q f p hq hf W hT hl
  rw [hok] at hO
  have HOK := Lib.hid hO
  have HT := Lib.hid hT
  clear hO hT
  go_enter Tryz.func317, Tryz.ntmps317
  go_wp2_with (go_at_call 321; refine (HOK.out _ (HT.out.below (by repeat (first | exact Below.refl _ _ | refine belI_alloc ?_ | refine Below.drew ?_ | refine belI_step ?_ (by assumption))))).mono ?_; rintro e w1 ⟨rfl, hb⟩; have hc := bcellI hb; have hz : w.heap.size < w1.heap.size := (by have := hb.size; (try simp at this); omega))
  go_ret2
  exact ⟨rfl, (by repeat (first | exact Below.refl _ _ | refine belI_alloc ?_ | refine Below.drew ?_ | refine belI_step ?_ (by assumption)))⟩
theorem iStrip_no (s us h pa q f : List UInt8) (p : Int) (hq hf : Bool) (w : World) (hT : Tab w) (hl : s.length + us.length + h.length + pa.length + q.length + f.length ≤ 4611686018427387904) (hok : okB ⟨s, us, h, p, pa, q, f, hq, hf⟩ = false) :
    Calls Tryz.prog 253 #[.agg #[.string ⟨s.toArray⟩, .string ⟨us.toArray⟩, .string ⟨h.toArray⟩, .int .i64 p, .string ⟨pa.toArray⟩, .string ⟨q.toArray⟩, .string ⟨f.toArray⟩, .bool hq, .bool hf]] w fun e w' => e = .returned (.tuple #[.string ⟨#[]⟩, .int .i64 1]) ∧ Below w.heap.size w w' := by
  have hO := fun W hT => UrlOK_any s us h pa q f p hq hf W hT hl
  rw [hok] at hO
  have HOK := Lib.hid hO
  have HT := Lib.hid hT
  clear hO hT
  go_enter Tryz.func253, Tryz.ntmps253
  go_wp2_with (go_at_call 321; refine (HOK.out _ (HT.out.below (by repeat (first | exact Below.refl _ _ | refine belI_alloc ?_ | refine Below.drew ?_ | refine belI_step ?_ (by assumption))))).mono ?_; rintro e w1 ⟨rfl, hb⟩; have hc := bcellI hb; have hz : w.heap.size < w1.heap.size := (by have := hb.size; (try simp at this); omega))
  go_ret2
  exact ⟨rfl, (by repeat (first | exact Below.refl _ _ | refine belI_alloc ?_ | refine Below.drew ?_ | refine belI_step ?_ (by assumption)))⟩
theorem iOrigin_other (s us h pa q f : List UInt8) (p : Int) (hq hf : Bool) (w : World) (hT : Tab w) (hl : s.length + us.length + h.length + pa.length + q.length + f.length ≤ 4611686018427387904) (hok : okB ⟨s, us, h, p, pa, q, f, hq, hf⟩ = true) (hw : webB s = false) :
    Calls Tryz.prog 317 #[.agg #[.string ⟨s.toArray⟩, .string ⟨us.toArray⟩, .string ⟨h.toArray⟩, .int .i64 p, .string ⟨pa.toArray⟩, .string ⟨q.toArray⟩, .string ⟨f.toArray⟩, .bool hq, .bool hf]] w fun e w' => e = .returned (.tuple #[.string ⟨#[]⟩, .int .i64 11]) ∧ Below w.heap.size w w' := by
  have hO := fun W hT => UrlOK_any s us h pa q f p hq hf W hT hl
  rw [hok] at hO
  have HOK := Lib.hid hO
  have HT := Lib.hid hT
  clear hO hT
  go_enter Tryz.func317, Tryz.ntmps317
  go_wp2_with (first
    | (go_at_call 321; refine (HOK.out _ (HT.out.below (by repeat (first | exact Below.refl _ _ | refine belI_alloc ?_ | refine Below.drew ?_ | refine belI_step ?_ (by assumption))))).mono ?_; rintro e w1 ⟨rfl, hb⟩; have hc := bcellI hb; have hz : w.heap.size < w1.heap.size := (by have := hb.size; (try simp at this); omega))
    | (go_at_call 323; refine (isWeb_any _ _).mono ?_; rintro e w' ⟨rfl, rfl⟩))
  go_ret2
  exact ⟨rfl, (by repeat (first | exact Below.refl _ _ | refine belI_alloc ?_ | refine Below.drew ?_ | refine belI_step ?_ (by assumption)))⟩
theorem clone_any (l : List UInt8) (w : World) (hl : l.length ≤ 281474976710656) : Calls Tryz.prog 176 #[.string ⟨l.toArray⟩] w fun e w' => e = .returned (.string ⟨l.toArray⟩) ∧ Below w.heap.size w w' := by
  go_enter Tryz.func176, Tryz.ntmps176
  go_wp2_with fail
  refine (Tryz.stringslite_Clone ⟨l.toArray⟩ _ hl).mono ?_
  rintro e w1 ⟨rfl, hb⟩
  go_wp2
  go_ret
  exact ⟨rfl, hb⟩
theorem iStrip_other (s us h pa q f : List UInt8) (p : Int) (hq hf : Bool) (w : World) (hT : Tab w) (hl : s.length + us.length + h.length + pa.length + q.length + f.length ≤ 4611686018427387904) (hs : s.length ≤ 281474976710656) (hok : okB ⟨s, us, h, p, pa, q, f, hq, hf⟩ = true) (hw : webB s = false) :
    Calls Tryz.prog 253 #[.agg #[.string ⟨s.toArray⟩, .string ⟨us.toArray⟩, .string ⟨h.toArray⟩, .int .i64 p, .string ⟨pa.toArray⟩, .string ⟨q.toArray⟩, .string ⟨f.toArray⟩, .bool hq, .bool hf]] w fun e w' => e = .returned (.tuple #[.string ⟨(s).toArray⟩, .int .i64 0]) ∧ Below w.heap.size w w' := by
  have hO := fun W hT => UrlOK_any s us h pa q f p hq hf W hT hl
  rw [hok] at hO
  have HOK := Lib.hid hO
  have HT := Lib.hid hT
  clear hO hT
  go_enter Tryz.func253, Tryz.ntmps253
  go_wp2_with (first
    | (go_at_call 321; refine (HOK.out _ (HT.out.below (by repeat (first | exact Below.refl _ _ | refine belI_alloc ?_ | refine Below.drew ?_ | refine belI_step ?_ (by assumption))))).mono ?_; rintro e w1 ⟨rfl, hb⟩; have hc := bcellI hb; have hz : w.heap.size < w1.heap.size := (by have := hb.size; (try simp at this); omega))
    | (go_at_call 323; refine (isWeb_any _ _).mono ?_; rintro e w' ⟨rfl, rfl⟩)
    | (go_at_call 176; refine (clone_any _ _ hs).mono ?_; rintro e w1 ⟨rfl, hb⟩))
  go_ret2
  exact ⟨rfl, (by repeat (first | exact Below.refl _ _ | refine belI_alloc ?_ | refine Below.drew ?_ | refine belI_step ?_ (by assumption)))⟩
set_option maxRecDepth 100000 in
theorem iOrigin_web (s us h pa q f : List UInt8) (p : Int) (hq hf : Bool) (w : World) (hT : Tab w) (hl : s.length + us.length + h.length + pa.length + q.length + f.length ≤ 4611686018427387904) (hok : okB ⟨s, us, h, p, pa, q, f, hq, hf⟩ = true) (hw : webB s = true) :
    Calls Tryz.prog 317 #[.agg #[.string ⟨s.toArray⟩, .string ⟨us.toArray⟩, .string ⟨h.toArray⟩, .int .i64 p, .string ⟨pa.toArray⟩, .string ⟨q.toArray⟩, .string ⟨f.toArray⟩, .bool hq, .bool hf]] w fun e w' => e = .returned (.tuple #[.string ⟨(siteL s h p).toArray⟩, .int .i64 0]) ∧ Below w.heap.size w w' := by
  have hpp := ok_port s us h pa q f p hq hf hok hw
  have hd := portL_len p (by omega)
  have HS0 := fun W hT => hostText_any s us h pa q f p hq hf W hT hpp (by omega)
  have hO := fun W hT => UrlOK_any s us h pa q f p hq hf W hT hl
  rw [hok] at hO
  have HOK := Lib.hid hO
  have HT := Lib.hid hT
  clear hO hT
  have e : siteL s h p = s ++ [58, 47, 47] ++ (h ++ portL p) := by simp [siteL]
  rw [e]
  clear e
  generalize portL p = po at *
  have HS := Lib.hid HS0
  clear HS0
  have b1 : ¬ 9223372036854775807 < s.length + 3 := by omega
  have b2 : ¬ 9223372036854775807 < s.length + 3 + (h.length + po.length) := by omega
  go_enter Tryz.func317, Tryz.ntmps317
  go_wp2_with (first
    | (go_at_call 321; refine (HOK.out _ (HT.out.below (by repeat (first | exact Below.refl _ _ | refine belI_alloc ?_ | refine Below.drew ?_ | refine belI_step ?_ (by assumption))))).mono ?_; rintro e w1 ⟨rfl, hb⟩; have hc := bcellI hb; have hz : w.heap.size < w1.heap.size := (by have := hb.size; (try simp at this); omega))
    | (go_at_call 323; refine (isWeb_any _ _).mono ?_; rintro e w' ⟨rfl, rfl⟩))
  have hbw := belI_step (belI_alloc (Below.refl _ _)) hb
  have HB := Lib.hid hb
  clear hb
  go_region_held3 (fun wx => w.heap.size < wx.heap.size ∧ wx.cell? ⟨w.heap.size, 0, none⟩ = some (.string ⟨s.toArray⟩) ∧ wx.cell? ⟨w.heap.size, 1, none⟩ = some (.string ⟨us.toArray⟩) ∧ wx.cell? ⟨w.heap.size, 2, none⟩ = some (.string ⟨h.toArray⟩) ∧ wx.cell? ⟨w.heap.size, 3, none⟩ = some (.int .i64 p) ∧ wx.cell? ⟨w.heap.size, 4, none⟩ = some (.string ⟨pa.toArray⟩) ∧ wx.cell? ⟨w.heap.size, 5, none⟩ = some (.string ⟨q.toArray⟩) ∧ wx.cell? ⟨w.heap.size, 6, none⟩ = some (.string ⟨f.toArray⟩) ∧ wx.cell? ⟨w.heap.size, 7, none⟩ = some (.bool hq) ∧ wx.cell? ⟨w.heap.size, 8, none⟩ = some (.bool hf) ∧ Below w.heap.size w wx)
    (first
      | (simp [*, Below.drew]; done)
      | (simp [*, Below.refl, belI_alloc, Below.drew]; done)
      | (go_split_ands
         have hz := hb.size
         refine ⟨by omega, ?_, ?_, ?_, ?_, ?_, ?_, ?_, ?_, ?_, belI_step (by assumption) hb⟩
         · (rw [hb.cell (p := ⟨w.heap.size, 0, none⟩) (by assumption)]; assumption)
         · (rw [hb.cell (p := ⟨w.heap.size, 1, none⟩) (by assumption)]; assumption)
         · (rw [hb.cell (p := ⟨w.heap.size, 2, none⟩) (by assumption)]; assumption)
         · (rw [hb.cell (p := ⟨w.heap.size, 3, none⟩) (by assumption)]; assumption)
         · (rw [hb.cell (p := ⟨w.heap.size, 4, none⟩) (by assumption)]; assumption)
         · (rw [hb.cell (p := ⟨w.heap.size, 5, none⟩) (by assumption)]; assumption)
         · (rw [hb.cell (p := ⟨w.heap.size, 6, none⟩) (by assumption)]; assumption)
         · (rw [hb.cell (p := ⟨w.heap.size, 7, none⟩) (by assumption)]; assumption)
         · (rw [hb.cell (p := ⟨w.heap.size, 8, none⟩) (by assumption)]; assumption)))
    (first | (go_split_ands; go_at_call 347; refine (HS.out _ (HT.out.below (by assumption))).mono ?_; rintro e w1 ⟨rfl, hb⟩))
  go_wp2
  go_ret2
  exact ⟨ret_tup (by simp), by simp [*]⟩
end Go.Proofs.YtmaknkbmilcanaaGreatDoor.Ul
namespace Go.Proofs.YtmaknkbmilcanaaGreatDoor.Ul
open Go.RowKit
attribute [local go_sem] alloc_drewN setCell_drewN
theorem ret_one {fn : Func} {a B : Nat} {tmps : Array Value} {X : World} {u : U} (hres : fn.results = #[.cell a 264]) (ha : tmps[a]?.getD undef = .pointer (some ⟨B, 0, none⟩)) (h : UAt X B u) : (results fn tmps).run Tryz.prog X = .ok (uV u) X := by
  simp [results, hres, ha, go_sem, h.k0, h.k1, h.k2, h.k3, h.k4, h.k5, h.k6, h.k7, h.k8]
set_option maxRecDepth 100000 in
set_option maxHeartbeats 4000000 in
theorem ownParts_any (u : U) (w : World) (hl : sizeU u ≤ 140737488351232) : Calls Tryz.prog 322 #[uV u] w fun e w' => e = .returned (uV u) ∧ Below w.heap.size w w' := by
  unfold sizeU at hl
  have V0' := (UAt.new w u).alloc (.cells #[.string ⟨#[]⟩, .string ⟨#[]⟩, .string ⟨#[]⟩, .int .i64 0, .string ⟨#[]⟩, .string ⟨#[]⟩, .string ⟨#[]⟩, .bool false, .bool false] 264) (by simp)
  have Q0' := UAt.new (w.alloc (.cells #[.string ⟨u.sch.toArray⟩, .string ⟨u.usr.toArray⟩, .string ⟨u.hst.toArray⟩, .int .i64 u.prt, .string ⟨u.pth.toArray⟩, .string ⟨u.qry.toArray⟩, .string ⟨u.frg.toArray⟩, .bool u.hq, .bool u.hf] 264)) U.none
  rw [show (w.alloc (.cells #[.string ⟨u.sch.toArray⟩, .string ⟨u.usr.toArray⟩, .string ⟨u.hst.toArray⟩, .int .i64 u.prt, .string ⟨u.pth.toArray⟩, .string ⟨u.qry.toArray⟩, .string ⟨u.frg.toArray⟩, .bool u.hq, .bool u.hf] 264)).heap.size = w.heap.size + 1 from by simp] at Q0'
  have B0' : Below w.heap.size w ((w.alloc (.cells #[.string ⟨u.sch.toArray⟩, .string ⟨u.usr.toArray⟩, .string ⟨u.hst.toArray⟩, .int .i64 u.prt, .string ⟨u.pth.toArray⟩, .string ⟨u.qry.toArray⟩, .string ⟨u.frg.toArray⟩, .bool u.hq, .bool u.hf] 264)).alloc (.cells #[.string ⟨#[]⟩, .string ⟨#[]⟩, .string ⟨#[]⟩, .int .i64 0, .string ⟨#[]⟩, .string ⟨#[]⟩, .string ⟨#[]⟩, .bool false, .bool false] 264)) := belI_alloc (belI_alloc (Below.refl _ _))
  have z0 : w.heap.size + 1 < ((w.alloc (.cells #[.string ⟨u.sch.toArray⟩, .string ⟨u.usr.toArray⟩, .string ⟨u.hst.toArray⟩, .int .i64 u.prt, .string ⟨u.pth.toArray⟩, .string ⟨u.qry.toArray⟩, .string ⟨u.frg.toArray⟩, .bool u.hq, .bool u.hf] 264)).alloc (.cells #[.string ⟨#[]⟩, .string ⟨#[]⟩, .string ⟨#[]⟩, .int .i64 0, .string ⟨#[]⟩, .string ⟨#[]⟩, .string ⟨#[]⟩, .bool false, .bool false] 264)).heap.size := by simp
  go_enter Tryz.func322, Tryz.ntmps322
  go_wp2_with fail
  refine (clone_any u.usr _ (by omega)).mono ?_
  rintro e w1 ⟨rfl, hb1⟩
  have V1 := V0'.below hb1 (by simp; try omega)
  have Q1 := Q0'.below hb1 (by simp; try omega)
  have B1 := belI_step B0' hb1
  have z1 : w.heap.size + 1 < w1.heap.size := (by have := hb1.size; simp at this; omega)
  have V1' : UAt (w1.setCell ⟨w.heap.size, 1, none⟩ (.string ⟨u.usr.toArray⟩)) w.heap.size u := V1.user u.usr
  have Q1' := Q1.far ⟨w.heap.size, 1, none⟩ (.string ⟨u.usr.toArray⟩) (by show w.heap.size ≠ w.heap.size + 1; omega)
  have B1' := B1.setCell (p := ⟨w.heap.size, 1, none⟩) (Nat.le_refl _) (.string ⟨u.usr.toArray⟩)
  clear hb1 V0' Q0' B0' Q1 B1 z0
  obtain ⟨x0, x1, x2, x3, x4, x5, x6, x7, x8, xf⟩ := V1
  go_wp2_with fail
  refine (clone_any u.pth _ (by omega)).mono ?_
  rintro e w2 ⟨rfl, hb2⟩
  have V2 := V1'.below hb2 (by simp; try omega)
  have Q2 := Q1'.below hb2 (by simp; try omega)
  have B2 := belI_step B1' hb2
  have z2 : w.heap.size + 1 < w2.heap.size := (by have := hb2.size; simp at this; omega)
  have V2' : UAt (w2.setCell ⟨w.heap.size, 4, none⟩ (.string ⟨u.pth.toArray⟩)) w.heap.size u := V2.path u.pth
  have Q2' := Q2.far ⟨w.heap.size, 4, none⟩ (.string ⟨u.pth.toArray⟩) (by show w.heap.size ≠ w.heap.size + 1; omega)
  have B2' := B2.setCell (p := ⟨w.heap.size, 4, none⟩) (Nat.le_refl _) (.string ⟨u.pth.toArray⟩)
  clear hb2 V1' Q1' B1' Q2 B2 z1 x0 x1 x2 x3 x4 x5 x6 x7 x8 xf
  obtain ⟨x0, x1, x2, x3, x4, x5, x6, x7, x8, xf⟩ := V2
  go_wp2_with fail
  refine (clone_any u.qry _ (by omega)).mono ?_
  rintro e w3 ⟨rfl, hb3⟩
  have V3 := V2'.below hb3 (by simp; try omega)
  have Q3 := Q2'.below hb3 (by simp; try omega)
  have B3 := belI_step B2' hb3
  have z3 : w.heap.size + 1 < w3.heap.size := (by have := hb3.size; simp at this; omega)
  have V3' : UAt (w3.setCell ⟨w.heap.size, 5, none⟩ (.string ⟨u.qry.toArray⟩)) w.heap.size u := V3.query u.qry
  have Q3' := Q3.far ⟨w.heap.size, 5, none⟩ (.string ⟨u.qry.toArray⟩) (by show w.heap.size ≠ w.heap.size + 1; omega)
  have B3' := B3.setCell (p := ⟨w.heap.size, 5, none⟩) (Nat.le_refl _) (.string ⟨u.qry.toArray⟩)
  clear hb3 V2' Q2' B2' Q3 B3 z2 x0 x1 x2 x3 x4 x5 x6 x7 x8 xf
  obtain ⟨x0, x1, x2, x3, x4, x5, x6, x7, x8, xf⟩ := V3
  go_wp2_with fail
  refine (clone_any u.frg _ (by omega)).mono ?_
  rintro e w4 ⟨rfl, hb4⟩
  have V4 := V3'.below hb4 (by simp; try omega)
  have Q4 := Q3'.below hb4 (by simp; try omega)
  have B4 := belI_step B3' hb4
  have z4 : w.heap.size + 1 < w4.heap.size := (by have := hb4.size; simp at this; omega)
  have V4' : UAt (w4.setCell ⟨w.heap.size, 6, none⟩ (.string ⟨u.frg.toArray⟩)) w.heap.size u := V4.frag u.frg
  have Q4' := Q4.far ⟨w.heap.size, 6, none⟩ (.string ⟨u.frg.toArray⟩) (by show w.heap.size ≠ w.heap.size + 1; omega)
  have B4' := B4.setCell (p := ⟨w.heap.size, 6, none⟩) (Nat.le_refl _) (.string ⟨u.frg.toArray⟩)
  clear hb4 V3' Q3' B3' Q4 B4 z3 x0 x1 x2 x3 x4 x5 x6 x7 x8 xf
  obtain ⟨x0, x1, x2, x3, x4, x5, x6, x7, x8, xf⟩ := V4
  go_upto_region 5 with fail
  generalize w4.setCell ⟨w.heap.size, 6, none⟩ (.string ⟨u.frg.toArray⟩) = X at *
  clear x0 x1 x2 x3 x4 x5 x6 x7 x8 xf
  obtain ⟨x0, x1, x2, x3, x4, x5, x6, x7, x8, xf⟩ := V4'
  obtain ⟨q0, q1, q2, q3, q4, q5, q6, q7, q8, qf⟩ := Q4'
  go_wp2
  refine bodyPost_ret (ret_one (u := u) (a := 2) (B := w.heap.size + 1) Tryz.results322 rfl ?_) rfl ⟨rfl, ?_⟩
  · refine ⟨?_, ?_, ?_, ?_, ?_, ?_, ?_, ?_, ?_, ?_⟩
    all_goals (simp [go_sem, *]; done)
  · exact (by repeat (first | (with_reducible exact Below.refl _ _) | (with_reducible refine belI_set ?_ (by first | exact Nat.le_refl _ | simp)) | (with_reducible refine belI_alloc ?_) | (with_reducible refine Below.drew ?_) | (with_reducible refine belI_drewN ?_ _) | (with_reducible refine belI_step ?_ (by assumption))))
end Go.Proofs.YtmaknkbmilcanaaGreatDoor.Ul
namespace Go.Proofs.YtmaknkbmilcanaaGreatDoor.Ul
open Go.RowKit
attribute [local go_sem] alloc_drewN setCell_drewN
def spU (s rest : List UInt8) : U := if webB s then (if slash2 rest then webU s (rest.drop 2) else U.none) else otherU s rest
def spB (s rest : List UInt8) : Bool := if webB s then slash2 rest && webSplitB (rest.drop 2) else true
theorem slash2_eq {l : List UInt8} (h : slash2 l = true) : l = 47 :: 47 :: l.drop 2 := by
  match l, h with
  | a :: b :: r, h =>
    simp [slash2] at h
    obtain ⟨rfl, rfl⟩ := h
    rfl
theorem split_sp (t : List UInt8) : splitB t = (hasB t 58 && spB (lowL (befL t 58)) (aftL t 58)) := by
  unfold splitB spB
  cases webB (lowL (befL t 58)) <;> simp
theorem split_spU (t : List UInt8) (h : spB (lowL (befL t 58)) (aftL t 58) = true) : splitU t = spU (lowL (befL t 58)) (aftL t 58) := by
  unfold splitU spU
  unfold spB at h
  cases hw : webB (lowL (befL t 58)) with
  | false => rfl
  | true =>
    rw [hw] at h
    simp only [if_true, Bool.and_eq_true] at h
    simp [h.1]
set_option maxRecDepth 100000 in
set_option maxHeartbeats 4000000 in
theorem splitUrl_any (s rest : List UInt8) (w : World) (hM : MaxL w) (hl : rest.length ≤ 4294967280) : Calls Tryz.prog 319 #[.string ⟨s.toArray⟩, .string ⟨rest.toArray⟩] w fun e w' => e = .returned (.tuple #[uV (spU s rest), .bool (spB s rest)]) ∧ Below w.heap.size w w' := by
  have HM := Lib.hid hM
  clear hM
  cases hw : webB s with
  | true =>
    have HW : Hid (∀ W, MaxL W → Calls Tryz.prog 349 #[.string ⟨s.toArray⟩, .string ⟨rest.toArray⟩] W fun e w' => e = .returned (.tuple #[uV (spU s rest), .bool (spB s rest)]) ∧ Below W.heap.size W w') := Lib.hid (by
      intro W hM
      cases hs : slash2 rest with
      | true =>
        have hlr : (rest.drop 2).length ≤ 4294967280 := by simp; omega
        have e1 : spU s rest = webU s (rest.drop 2) := by simp [spU, hw, hs]
        have e2 : spB s rest = webSplitB (rest.drop 2) := by simp [spB, hw, hs]
        rw [e1, e2]
        have e3 := slash2_eq hs
        generalize rest.drop 2 = r at *
        subst e3
        exact splitWeb_any s r W hM hw hlr
      | false =>
        have e1 : spU s rest = U.none := by simp [spU, hw, hs]
        have e2 : spB s rest = false := by simp [spB, hw, hs]
        rw [e1, e2]
        exact splitWeb_no s rest W hs)
    generalize spU s rest = u at *
    generalize spB s rest = b at *
    go_enter Tryz.func319, Tryz.ntmps319
    go_wp2_with (go_at_call 323; refine (isWeb_any _ _).mono ?_; rintro e w' ⟨rfl, rfl⟩)
    refine (HW.out _ (HM.out.below (by repeat (first | (with_reducible exact Below.refl _ _) | (with_reducible refine belI_set ?_ (by first | exact Nat.le_refl _ | simp)) | (with_reducible refine belI_alloc ?_) | (with_reducible refine Below.drew ?_) | (with_reducible refine belI_drewN ?_ _) | (with_reducible refine belI_step ?_ (by assumption)))))).mono ?_
    rintro e w1 ⟨rfl, hb⟩
    have Q := (UAt.new w U.none).below hb (by simp)
    have hz : w.heap.size < w1.heap.size := by have := hb.size; simp at this; omega
    have hbw : Below w.heap.size w w1 := belI_step (belI_alloc (Below.refl _ _)) hb
    clear hb
    obtain ⟨q0, q1, q2, q3, q4, q5, q6, q7, q8, qf⟩ := Q
    go_wp2
    refine bodyPost_ret (ret_url2 (u := u) (a := 4) (s := 5) (B := w.heap.size) (c := .bool b) Tryz.results319 rfl rfl ?_ ?_ ?_ ?_ ?_ ?_ ?_ ?_ ?_) rfl ⟨rfl, ?_⟩
    rotate_left 9
    · exact (by repeat (first | (with_reducible exact Below.refl _ _) | (with_reducible refine belI_set ?_ (by first | exact Nat.le_refl _ | simp)) | (with_reducible refine belI_alloc ?_) | (with_reducible refine Below.drew ?_) | (with_reducible refine belI_drewN ?_ _) | (with_reducible refine belI_step ?_ (by assumption))))
    all_goals (simp [go_sem, *]; done)
  | false =>
    have e1 : spU s rest = ⟨s, [], [], 0, beforeQ rest, [], [], false, false⟩ := by simp [spU, hw, otherU, U.none]
    have e2 : spB s rest = true := by simp [spB, hw]
    have hb1 := bef_len rest 35
    rw [e1, e2]
    clear e1 e2
    go_enter Tryz.func319, Tryz.ntmps319
    go_wp2_with (go_at_call 323; refine (isWeb_any _ _).mono ?_; rintro e w' ⟨rfl, rfl⟩)
    refine (cut_any rest 35 35 rfl _ (HM.out.below (by repeat (first | (with_reducible exact Below.refl _ _) | (with_reducible refine belI_set ?_ (by first | exact Nat.le_refl _ | simp)) | (with_reducible refine belI_alloc ?_) | (with_reducible refine Below.drew ?_) | (with_reducible refine belI_drewN ?_ _) | (with_reducible refine belI_step ?_ (by assumption))))) (by omega)).mono ?_
    rintro e w1 ⟨rfl, n1, rfl⟩
    go_wp2_with fail
    refine (cut_any (befL rest 35) 63 63 rfl _ (HM.out.below (by repeat (first | (with_reducible exact Below.refl _ _) | (with_reducible refine belI_set ?_ (by first | exact Nat.le_refl _ | simp)) | (with_reducible refine belI_alloc ?_) | (with_reducible refine Below.drew ?_) | (with_reducible refine belI_drewN ?_ _) | (with_reducible refine belI_step ?_ (by assumption))))) (by omega)).mono ?_
    rintro e w1 ⟨rfl, n2, rfl⟩
    go_wp2
    refine bodyPost_ret (v := .tuple #[uV ⟨s, [], [], 0, beforeQ rest, [], [], false, false⟩, .bool true]) (by simp [results, Tryz.results319, go_sem, beforeQ]) rfl ⟨rfl, ?_⟩
    exact (by repeat (first | (with_reducible exact Below.refl _ _) | (with_reducible refine belI_set ?_ (by first | exact Nat.le_refl _ | simp)) | (with_reducible refine belI_alloc ?_) | (with_reducible refine Below.drew ?_) | (with_reducible refine belI_drewN ?_ _) | (with_reducible refine belI_step ?_ (by assumption))))
end Go.Proofs.YtmaknkbmilcanaaGreatDoor.Ul
namespace Go.Proofs.YtmaknkbmilcanaaGreatDoor.Ul
open Go.RowKit
attribute [local go_sem] alloc_drewN setCell_drewN
def parseC (t : List UInt8) : Int := if parseB t then 0 else 3
theorem parse_sp (t : List UInt8) : parseB t = (hasB t 58 && (spB (lowL (befL t 58)) (aftL t 58) && okB (spU (lowL (befL t 58)) (aftL t 58)))) := by
  unfold parseB
  rw [split_sp]
  cases hs : spB (lowL (befL t 58)) (aftL t 58) with
  | false => simp
  | true => rw [split_spU t hs]; simp
theorem parse_no {t : List UInt8} (h : parseB t = false) : parseU t = U.none ∧ parseC t = 3 := by simp [parseU, parseC, h]
theorem parse_yes {t : List UInt8} (h : parseB t = true) : parseU t = spU (lowL (befL t 58)) (aftL t 58) ∧ parseC t = 0 := by
  have h' := h
  rw [parse_sp] at h'
  simp only [Bool.and_eq_true] at h'
  refine ⟨?_, by simp [parseC, h]⟩
  simp only [parseU, h, if_true]
  exact split_spU t h'.2.1
theorem UrlOKu_any (u : U) (w : World) (hT : Tab w) (hl : sizeU u ≤ 4611686018427387904) : Calls Tryz.prog 321 #[uV u] w fun e w' => e = .returned (.bool (okB u)) ∧ Below w.heap.size w w' :=
  UrlOK_any u.sch u.usr u.hst u.pth u.qry u.frg u.prt u.hq u.hf w hT hl
theorem webI_size (s r : List UInt8) (hs : s.length ≤ 4294967280) (hr : r.length ≤ 4294967280) : sizeU (webU s r) ≤ 140737488351232 := by
  have a := bef_len r 35
  have a2 := aft_len r 35
  have b := bef_len (befL r 35) 63
  have b2 := aft_len (befL r 35) 63
  have c := bef_len (beforeQ r) 47
  have c2 := aft_len (beforeQ r) 47
  have d := siteI_len r
  have e := bef_len (siteOf r) 58
  have f := low_len (befL (siteOf r) 58)
  have g := bef_len (befL (beforeQ r) 47) 64
  have h : (userOf (befL (beforeQ r) 47)).length ≤ (befL (beforeQ r) 47).length := by unfold userOf; split; exact g; simp
  have i : (beforeQ r).length ≤ r.length := Nat.le_trans b a
  simp only [sizeU, webU, List.length_cons]
  omega
theorem spU_size (s rest : List UInt8) (hs : s.length ≤ 4294967280) (hr : rest.length ≤ 4294967280) : sizeU (spU s rest) ≤ 140737488351232 := by
  unfold spU
  split
  · split
    · exact webI_size s _ hs (by simp; omega)
    · simp [sizeU, U.none]
  · have a := bef_len rest 35
    have b := bef_len (befL rest 35) 63
    simp only [sizeU, otherU, U.none, beforeQ, List.length_nil]
    omega
set_option maxRecDepth 100000 in
set_option maxHeartbeats 4000000 in
theorem parseI_any (t : List UInt8) (w : World) (hT : Tab w) (hM : MaxL w) (hl : t.length ≤ 65536) : Calls Tryz.prog 252 #[.string ⟨t.toArray⟩] w fun e w' => e = .returned (.tuple #[uV (parseU t), .int .i64 (parseC t)]) ∧ Below w.heap.size w w' := by
  have HM := Lib.hid hM
  have HT := Lib.hid hT
  clear hM hT
  have hl1 := bef_len t 58
  have hl2 := aft_len t 58
  have hl3 := low_len (befL t 58)
  have HZ := Lib.hid (spU_size (lowL (befL t 58)) (aftL t 58) (by omega) (by omega))
  have HS := Lib.hid (fun W hM => splitUrl_any (lowL (befL t 58)) (aftL t 58) W hM (by omega))
  have HP := Lib.hid (parse_sp t)
  have HN := Lib.hid (@parse_no t)
  have HY := Lib.hid (@parse_yes t)
  have HL := Lib.hid (fun W => lowerI_any (befL t 58) W (by omega))
  clear hl3
  generalize lowL (befL t 58) = s at *
  cases hh : hasB t 58 with
  | false =>
    have F := Lib.hid (HN.out (by rw [HP.out, hh]; rfl))
    clear HP HN HY HZ HS HL
    go_enter Tryz.func252, Tryz.ntmps252
    go_wp2_with fail
    refine (cut_any t 58 58 rfl _ (HM.out.below (by repeat (first | (with_reducible exact Below.refl _ _) | (with_reducible refine belI_set ?_ (by first | exact Nat.le_refl _ | simp)) | (with_reducible refine belI_alloc ?_) | (with_reducible refine Below.drew ?_) | (with_reducible refine belI_drewN ?_ _) | (with_reducible refine belI_step ?_ (by assumption))))) (by omega)).mono ?_
    rintro e w1 ⟨rfl, n1, rfl⟩
    go_wp2
    refine bodyPost_ret (v := .tuple #[uV U.none, .int .i64 3]) (by simp [results, Tryz.results252, go_sem, U.none]) rfl ⟨by rw [F.out.1, F.out.2], (by repeat (first | (with_reducible exact Below.refl _ _) | (with_reducible refine belI_set ?_ (by first | exact Nat.le_refl _ | simp)) | (with_reducible refine belI_alloc ?_) | (with_reducible refine Below.drew ?_) | (with_reducible refine belI_drewN ?_ _) | (with_reducible refine belI_step ?_ (by assumption))))⟩
  | true =>
    rw [hh] at HP
    generalize hrr : aftL t 58 = rest at *
    have HOK := Lib.hid (fun W hT => UrlOKu_any (spU s rest) W hT (by have := HZ.out; omega))
    have HOW := Lib.hid (fun W => ownParts_any (spU s rest) W HZ.out)
    generalize spU s rest = u at *
    cases hb : spB s rest with
    | false =>
      rw [hb] at HS
      have F := Lib.hid (HN.out (by rw [HP.out, hb]; rfl))
      clear HP HN HY HZ hb HOK HOW
      go_enter Tryz.func252, Tryz.ntmps252
      go_wp2_with fail
      refine (cut_any t 58 58 rfl _ (HM.out.below (by repeat (first | (with_reducible exact Below.refl _ _) | (with_reducible refine belI_set ?_ (by first | exact Nat.le_refl _ | simp)) | (with_reducible refine belI_alloc ?_) | (with_reducible refine Below.drew ?_) | (with_reducible refine belI_drewN ?_ _) | (with_reducible refine belI_step ?_ (by assumption))))) (by omega)).mono ?_
      rintro e w1 ⟨rfl, n1, rfl⟩
      rw [hrr]
      go_wp2_with fail
      refine (HL.out _).mono ?_
      rintro e w1 ⟨rfl, hb1⟩
      have Q1 := ((UAt.new w U.none).drewN n1).below hb1 (by simp)
      have B1 : Below w.heap.size w w1 := belI_step (belI_drewN (belI_alloc (Below.refl _ _)) _) hb1
      have z1 : w.heap.size < w1.heap.size := by have := hb1.size; simp at this; omega
      clear hb1
      go_wp2_with fail
      refine (HS.out _ (HM.out.below B1)).mono ?_
      rintro e w2 ⟨rfl, hb2⟩
      have Q2 := Q1.below hb2 (by omega)
      have B2 := belI_step B1 hb2
      have z2 : w.heap.size < w2.heap.size := by have := hb2.size; omega
      clear hb2 Q1 B1 z1
      obtain ⟨q0, q1, q2, q3, q4, q5, q6, q7, q8, qf⟩ := Q2
      go_wp2
      refine bodyPost_ret (ret_url2 (u := U.none) (a := 2) (s := 3) (B := w.heap.size) (c := .int .i64 3) Tryz.results252 rfl rfl ?_ ?_ ?_ ?_ ?_ ?_ ?_ ?_ ?_) rfl ⟨by rw [F.out.1, F.out.2], ?_⟩
      rotate_left 9
      · exact (by repeat (first | (with_reducible exact Below.refl _ _) | (with_reducible refine belI_set ?_ (by first | exact Nat.le_refl _ | simp)) | (with_reducible refine belI_alloc ?_) | (with_reducible refine Below.drew ?_) | (with_reducible refine belI_drewN ?_ _) | (with_reducible refine belI_step ?_ (by assumption))))
      all_goals (simp [go_sem, U.none, *]; done)
    | true =>
      rw [hb] at HS HP
      cases ho : okB u with
      | false =>
        rw [ho] at HOK HP
        have F := Lib.hid (HN.out (by rw [HP.out]; rfl))
        go_enter Tryz.func252, Tryz.ntmps252
        go_wp2_with fail
        refine (cut_any t 58 58 rfl _ (HM.out.below (by repeat (first | (with_reducible exact Below.refl _ _) | (with_reducible refine belI_set ?_ (by first | exact Nat.le_refl _ | simp)) | (with_reducible refine belI_alloc ?_) | (with_reducible refine Below.drew ?_) | (with_reducible refine belI_drewN ?_ _) | (with_reducible refine belI_step ?_ (by assumption))))) (by omega)).mono ?_
        rintro e w1 ⟨rfl, n1, rfl⟩
        rw [hrr]
        go_wp2_with fail
        refine (HL.out _).mono ?_
        rintro e w1 ⟨rfl, hb1⟩
        have Q1 := ((UAt.new w U.none).drewN n1).below hb1 (by simp)
        have B1 : Below w.heap.size w w1 := belI_step (belI_drewN (belI_alloc (Below.refl _ _)) _) hb1
        have z1 : w.heap.size < w1.heap.size := by have := hb1.size; simp at this; omega
        clear hb1
        go_wp2_with fail
        refine (HS.out _ (HM.out.below B1)).mono ?_
        rintro e w2 ⟨rfl, hb2⟩
        have Q2 := Q1.below hb2 (by omega)
        have B2 := belI_step B1 hb2
        have z2 : w.heap.size < w2.heap.size := by have := hb2.size; omega
        clear hb2 Q1 B1 z1
        have Q2' := Q2
        have V2 := UAt.new w2 u
        obtain ⟨x0, x1, x2, x3, x4, x5, x6, x7, x8, xf⟩ := V2
        go_wp2_with fail
        refine (HOK.out _ (HT.out.below (by repeat (first | (with_reducible exact Below.refl _ _) | (with_reducible refine belI_set ?_ (by first | exact Nat.le_refl _ | simp)) | (with_reducible refine belI_alloc ?_) | (with_reducible refine Below.drew ?_) | (with_reducible refine belI_drewN ?_ _) | (with_reducible refine belI_step ?_ (by assumption)))))).mono ?_
        rintro e w3 ⟨rfl, hb3⟩
        have Q3 := (Q2'.alloc _ z2).below hb3 (by simp; omega)
        have z3 : w.heap.size < w3.heap.size := by have := hb3.size; simp at this; omega
        obtain ⟨q0, q1, q2, q3, q4, q5, q6, q7, q8, qf⟩ := Q3
        clear x0 x1 x2 x3 x4 x5 x6 x7 x8 xf Q2 Q2'
        go_wp2
        refine bodyPost_ret (ret_url2 (u := U.none) (a := 2) (s := 3) (B := w.heap.size) (c := .int .i64 3) Tryz.results252 rfl rfl ?_ ?_ ?_ ?_ ?_ ?_ ?_ ?_ ?_) rfl ⟨by rw [F.out.1, F.out.2], ?_⟩
        rotate_left 9
        · exact (by repeat (first | (with_reducible exact Below.refl _ _) | (with_reducible refine belI_set ?_ (by first | exact Nat.le_refl _ | simp)) | (with_reducible refine belI_alloc ?_) | (with_reducible refine Below.drew ?_) | (with_reducible refine belI_drewN ?_ _) | (with_reducible refine belI_step ?_ (by assumption))))
        all_goals (simp [go_sem, U.none, *]; done)
      | true =>
        rw [ho] at HOK HP
        have F := Lib.hid (HY.out (by rw [HP.out]; rfl))
        go_enter Tryz.func252, Tryz.ntmps252
        go_wp2_with fail
        refine (cut_any t 58 58 rfl _ (HM.out.below (by repeat (first | (with_reducible exact Below.refl _ _) | (with_reducible refine belI_set ?_ (by first | exact Nat.le_refl _ | simp)) | (with_reducible refine belI_alloc ?_) | (with_reducible refine Below.drew ?_) | (with_reducible refine belI_drewN ?_ _) | (with_reducible refine belI_step ?_ (by assumption))))) (by omega)).mono ?_
        rintro e w1 ⟨rfl, n1, rfl⟩
        rw [hrr]
        go_wp2_with fail
        refine (HL.out _).mono ?_
        rintro e w1 ⟨rfl, hb1⟩
        have Q1 := ((UAt.new w U.none).drewN n1).below hb1 (by simp)
        have B1 : Below w.heap.size w w1 := belI_step (belI_drewN (belI_alloc (Below.refl _ _)) _) hb1
        have z1 : w.heap.size < w1.heap.size := by have := hb1.size; simp at this; omega
        clear hb1
        go_wp2_with fail
        refine (HS.out _ (HM.out.below B1)).mono ?_
        rintro e w2 ⟨rfl, hb2⟩
        have Q2 := Q1.below hb2 (by omega)
        have B2 := belI_step B1 hb2
        have z2 : w.heap.size < w2.heap.size := by have := hb2.size; omega
        clear hb2 Q1 B1 z1
        have V2 := UAt.new w2 u
        go_wp2_with fail
        refine (HOK.out _ (HT.out.below (by repeat (first | (with_reducible exact Below.refl _ _) | (with_reducible refine belI_set ?_ (by first | exact Nat.le_refl _ | simp)) | (with_reducible refine belI_alloc ?_) | (with_reducible refine Below.drew ?_) | (with_reducible refine belI_drewN ?_ _) | (with_reducible refine belI_step ?_ (by assumption)))))).mono ?_
        rintro e w3 ⟨rfl, hb3⟩
        have Q3 := (Q2.alloc _ z2).below hb3 (by simp; omega)
        have V3 := V2.below hb3 (by simp)
        have z3 : w.heap.size < w3.heap.size := by have := hb3.size; simp at this; omega
        have B3 : Below w.heap.size w w3 := belI_step (belI_alloc B2) hb3
        clear V2 Q2 hb3 B2
        obtain ⟨x0, x1, x2, x3, x4, x5, x6, x7, x8, xf⟩ := V3
        go_wp2_with fail
        refine (HOW.out _).mono ?_
        rintro e w4 ⟨rfl, hb4⟩
        have Q4 := Q3.below hb4 z3
        have z4 : w.heap.size < w4.heap.size := by have := hb4.size; omega
        obtain ⟨q0, q1, q2, q3, q4, q5, q6, q7, q8, qf⟩ := Q4
        clear x0 x1 x2 x3 x4 x5 x6 x7 x8 xf Q3
        go_wp2
        refine bodyPost_ret (ret_url2 (u := u) (a := 2) (s := 3) (B := w.heap.size) (c := .int .i64 0) Tryz.results252 rfl rfl ?_ ?_ ?_ ?_ ?_ ?_ ?_ ?_ ?_) rfl ⟨by rw [F.out.1, F.out.2], ?_⟩
        rotate_left 9
        · exact (by repeat (first | (with_reducible exact Below.refl _ _) | (with_reducible refine belI_set ?_ (by first | exact Nat.le_refl _ | simp)) | (with_reducible refine belI_alloc ?_) | (with_reducible refine Below.drew ?_) | (with_reducible refine belI_drewN ?_ _) | (with_reducible refine belI_step ?_ (by assumption))))
        all_goals (simp [go_sem, *]; done)
end Go.Proofs.YtmaknkbmilcanaaGreatDoor.Ul
namespace Go.Proofs.YtmaknkbmilcanaaGreatDoor.Ul
open Go.RowKit
attribute [local go_sem] bappI
theorem bfrozI {W w1 : World} (hb : Below W.heap.size W w1) : (∀ b o, b < W.heap.size → w1.frozen? ⟨b, o, none⟩ = W.frozen? ⟨b, o, none⟩) :=
  fun b o h => hb.frozen (p := ⟨b, o, none⟩) h
theorem strip_web (s us h pa q f : List UInt8) (p : Int) (hq hf : Bool) (w : World) (hp1 : p ≤ 9223372036854775807) (hl : s.length + us.length + h.length + pa.length + q.length + f.length ≤ 4611686018427387904) (hw : webB s = true) :
    Calls Tryz.prog 238 #[.agg #[.string ⟨s.toArray⟩, .string ⟨us.toArray⟩, .string ⟨h.toArray⟩, .int .i64 p, .string ⟨pa.toArray⟩, .string ⟨q.toArray⟩, .string ⟨f.toArray⟩, .bool hq, .bool hf]] w fun e w' => e = .returned (.string ⟨(textL ⟨s, [], h, p, pa, q, [], hq, false⟩).toArray⟩) ∧ Below w.heap.size w w' := by
  have HJ0 : ∀ W : World, Calls Tryz.prog 261 #[.agg #[.string ⟨s.toArray⟩, .string ⟨#[]⟩, .string ⟨h.toArray⟩, .int .i64 p, .string ⟨pa.toArray⟩, .string ⟨q.toArray⟩, .string ⟨#[]⟩, .bool hq, .bool false]] W fun e w' => e = .returned (.string ⟨(textL ⟨s, [], h, p, pa, q, [], hq, false⟩).toArray⟩) ∧ Below W.heap.size W w' := fun W => text_any ⟨s, [], h, p, pa, q, [], hq, false⟩ W hp1 (by simp only [sizeU, List.length_nil]; omega)
  generalize textL ⟨s, [], h, p, pa, q, [], hq, false⟩ = tl at *
  have HJ := Lib.hid HJ0
  clear HJ0
  go_enter Tryz.func238, Tryz.ntmps238
  go_wp2_with (first
    | (go_at_call 260; refine (web_any _ _).mono ?_; rintro e w' ⟨rfl, rfl⟩)
    | (go_at_call 261; refine (HJ.out _).mono ?_; rintro e w1 ⟨rfl, hb⟩))
  go_ret
  exact ⟨rfl, (by repeat (first | exact Below.refl _ _ | refine belI_alloc ?_ | refine Below.drew ?_ | refine belI_step ?_ (by assumption)))⟩
theorem strip_other (s us h pa q f : List UInt8) (p : Int) (hq hf : Bool) (w : World) (hw : webB s = false) :
    Calls Tryz.prog 238 #[.agg #[.string ⟨s.toArray⟩, .string ⟨us.toArray⟩, .string ⟨h.toArray⟩, .int .i64 p, .string ⟨pa.toArray⟩, .string ⟨q.toArray⟩, .string ⟨f.toArray⟩, .bool hq, .bool hf]] w fun e w' => e = .returned (.string ⟨s.toArray⟩) ∧ Below w.heap.size w w' := by
  go_enter Tryz.func238, Tryz.ntmps238
  go_wp2_with (go_at_call 260; refine (web_any _ _).mono ?_; rintro e w' ⟨rfl, rfl⟩)
  go_ret
  exact ⟨rfl, (by repeat (first | exact Below.refl _ _ | refine belI_alloc ?_ | refine Below.drew ?_ | refine belI_step ?_ (by assumption)))⟩
set_option maxRecDepth 100000 in
theorem iStrip_web (s us h pa q f : List UInt8) (p : Int) (hq hf : Bool) (w : World) (hT : Tab w) (hl : s.length + us.length + h.length + pa.length + q.length + f.length ≤ 4611686018427387904) (hok : okB ⟨s, us, h, p, pa, q, f, hq, hf⟩ = true) (hw : webB s = true) :
    Calls Tryz.prog 253 #[.agg #[.string ⟨s.toArray⟩, .string ⟨us.toArray⟩, .string ⟨h.toArray⟩, .int .i64 p, .string ⟨pa.toArray⟩, .string ⟨q.toArray⟩, .string ⟨f.toArray⟩, .bool hq, .bool hf]] w fun e w' => e = .returned (.tuple #[.string ⟨(textL ⟨s, [], h, p, pa, q, [], hq, false⟩).toArray⟩, .int .i64 0]) ∧ Below w.heap.size w w' := by
  have HJ0 : ∀ W : World, Tab W → Calls Tryz.prog 324 #[.agg #[.string ⟨s.toArray⟩, .string ⟨#[]⟩, .string ⟨h.toArray⟩, .int .i64 p, .string ⟨pa.toArray⟩, .string ⟨q.toArray⟩, .string ⟨#[]⟩, .bool hq, .bool false]] W fun e w' => e = .returned (.string ⟨(textL ⟨s, [], h, p, pa, q, [], hq, false⟩).toArray⟩) ∧ Below W.heap.size W w' := fun W hT => join_any s [] h pa q [] p hq false W hT (ok_port s us h pa q f p hq hf hok) (by simp only [List.length_nil]; omega)
  generalize textL ⟨s, [], h, p, pa, q, [], hq, false⟩ = tl at *
  have hO := fun W hT => UrlOK_any s us h pa q f p hq hf W hT hl
  rw [hok] at hO
  have HOK := Lib.hid hO
  have HJ := Lib.hid HJ0
  have HT := Lib.hid hT
  clear hO hT HJ0
  go_enter Tryz.func253, Tryz.ntmps253
  go_wp2_with (first
    | (go_at_call 321; refine (HOK.out _ (HT.out.below (by repeat (first | exact Below.refl _ _ | refine belI_alloc ?_ | refine Below.drew ?_ | refine belI_step ?_ (by assumption))))).mono ?_; rintro e w1 ⟨rfl, hb⟩; have hc := bcellI hb; have hfz := bfrozI hb; have hz : w.heap.size < w1.heap.size := (by have := hb.size; (try simp at this); omega))
    | (go_at_call 323; refine (isWeb_any _ _).mono ?_; rintro e w' ⟨rfl, rfl⟩)
    | (go_at_call 324; refine (HJ.out _ (HT.out.below (by repeat (first | exact Below.refl _ _ | refine belI_alloc ?_ | refine Below.drew ?_ | refine belI_set ?_ (by simp) | refine belI_step ?_ (by assumption))))).mono ?_; rintro e w2 ⟨rfl, hb2⟩))
  go_ret2
  exact ⟨rfl, (by repeat (first | exact Below.refl _ _ | refine belI_alloc ?_ | refine Below.drew ?_ | refine belI_set ?_ (by simp) | refine belI_step ?_ (by assumption)))⟩
end Go.Proofs.YtmaknkbmilcanaaGreatDoor.Ul
namespace Go.Proofs.YtmaknkbmilcanaaGreatDoor.Ul
open Go.RowKit
theorem same_parts (s us h pa q f s2 us2 h2 pa2 q2 f2 : List UInt8) (p p2 : Int) (hq hf hq2 hf2 : Bool) (w : World) :
    Calls Tryz.prog 239 #[.agg #[.string ⟨s.toArray⟩, .string ⟨us.toArray⟩, .string ⟨h.toArray⟩, .int .i64 p, .string ⟨pa.toArray⟩, .string ⟨q.toArray⟩, .string ⟨f.toArray⟩, .bool hq, .bool hf], .agg #[.string ⟨s2.toArray⟩, .string ⟨us2.toArray⟩, .string ⟨h2.toArray⟩, .int .i64 p2, .string ⟨pa2.toArray⟩, .string ⟨q2.toArray⟩, .string ⟨f2.toArray⟩, .bool hq2, .bool hf2]] w fun e w' => e = .returned (.bool (webB s && (s == s2) && (h == h2) && (p == p2))) ∧ Below w.heap.size w w' := by
  go_enter Tryz.func239, Tryz.ntmps239
  go_wp2_with (go_at_call 260; refine (web_any _ _).mono ?_; rintro e w' ⟨rfl, rfl⟩)
  all_goals
    go_ret
    exact ⟨ret_bool (by simp_all), (by repeat (first | exact Below.refl _ _ | refine belI_alloc ?_ | refine Below.drew ?_ | refine belI_step ?_ (by assumption)))⟩
theorem iSame_any (s us h pa q f s2 us2 h2 pa2 q2 f2 : List UInt8) (p p2 : Int) (hq hf hq2 hf2 : Bool) (w : World) (hT : Tab w) (hl : s.length + us.length + h.length + pa.length + q.length + f.length ≤ 4611686018427387904) (hl2 : s2.length + us2.length + h2.length + pa2.length + q2.length + f2.length ≤ 4611686018427387904) :
    Calls Tryz.prog 255 #[.agg #[.string ⟨s.toArray⟩, .string ⟨us.toArray⟩, .string ⟨h.toArray⟩, .int .i64 p, .string ⟨pa.toArray⟩, .string ⟨q.toArray⟩, .string ⟨f.toArray⟩, .bool hq, .bool hf], .agg #[.string ⟨s2.toArray⟩, .string ⟨us2.toArray⟩, .string ⟨h2.toArray⟩, .int .i64 p2, .string ⟨pa2.toArray⟩, .string ⟨q2.toArray⟩, .string ⟨f2.toArray⟩, .bool hq2, .bool hf2]] w fun e w' => e = .returned (.bool (okB ⟨s, us, h, p, pa, q, f, hq, hf⟩ && okB ⟨s2, us2, h2, p2, pa2, q2, f2, hq2, hf2⟩ && (webB s && (s == s2) && (h == h2) && (p == p2)))) ∧ Below w.heap.size w w' := by
  have HA := Lib.hid (fun W hT => UrlOK_any s us h pa q f p hq hf W hT hl)
  have HB := Lib.hid (fun W hT => UrlOK_any s2 us2 h2 pa2 q2 f2 p2 hq2 hf2 W hT hl2)
  have HT := Lib.hid hT
  clear hT
  generalize okB ⟨s, us, h, p, pa, q, f, hq, hf⟩ = oa at *
  generalize okB ⟨s2, us2, h2, p2, pa2, q2, f2, hq2, hf2⟩ = ob at *
  go_enter Tryz.func255, Tryz.ntmps255
  go_wp2_with fail
  refine (HA.out _ (HT.out.below (by repeat (first | exact Below.refl _ _ | refine belI_alloc ?_ | refine Below.drew ?_ | refine belI_step ?_ (by assumption))))).mono ?_
  rintro e w1 ⟨rfl, hb⟩
  have hc := bcellI hb
  have hz : w.heap.size + 1 < w1.heap.size := (by have := hb.size; (try simp at this); omega)
  have hy : w.heap.size < w1.heap.size := by omega
  cases oa
  · go_wp2_with fail
    go_ret
    exact ⟨rfl, (by repeat (first | exact Below.refl _ _ | refine belI_alloc ?_ | refine Below.drew ?_ | refine belI_step ?_ (by assumption)))⟩
  go_wp2_with fail
  refine (HB.out _ (HT.out.below (by repeat (first | exact Below.refl _ _ | refine belI_alloc ?_ | refine Below.drew ?_ | refine belI_step ?_ (by assumption))))).mono ?_
  rintro e w2 ⟨rfl, hb2⟩
  have hc2 := bcellI hb2
  have hz2 : w.heap.size + 1 < w2.heap.size := (by have := hb2.size; omega)
  have hy2 : w.heap.size < w2.heap.size := by omega
  cases ob
  · go_wp2_with fail
    go_ret
    exact ⟨rfl, (by repeat (first | exact Below.refl _ _ | refine belI_alloc ?_ | refine Below.drew ?_ | refine belI_step ?_ (by assumption)))⟩
  go_wp2_with (go_at_call 323; refine (isWeb_any _ _).mono ?_; rintro e w' ⟨rfl, rfl⟩)
  all_goals
    go_ret
    exact ⟨ret_bool (by simp_all), (by repeat (first | exact Below.refl _ _ | refine belI_alloc ?_ | refine Below.drew ?_ | refine belI_step ?_ (by assumption)))⟩
end Go.Proofs.YtmaknkbmilcanaaGreatDoor.Ul
namespace Go.Proofs.YtmaknkbmilcanaaGreatDoor.Ul
open Go.RowKit
def sameO (a b : U) : Bool := okB a && okB b && (webB a.sch && (a.sch == b.sch) && (a.hst == b.hst) && (a.prt == b.prt))
theorem iSameU_any (a b : U) (w : World) (hT : Tab w) (hl : sizeU a ≤ 4611686018427387904) (hl2 : sizeU b ≤ 4611686018427387904) : Calls Tryz.prog 255 #[uV a, uV b] w fun e w' => e = .returned (.bool (sameO a b)) ∧ Below w.heap.size w w' :=
  iSame_any a.sch a.usr a.hst a.pth a.qry a.frg b.sch b.usr b.hst b.pth b.qry b.frg a.prt b.prt a.hq a.hf b.hq b.hf w hT hl hl2
end Go.Proofs.YtmaknkbmilcanaaGreatDoor.Ul
namespace Go.Proofs.YtmaknkbmilcanaaGreatDoor.Ul
open Go.RowKit
def PU (t : List UInt8) : U := if 65536 < t.length then U.none else parseU t
def PC (t : List UInt8) : Int := if 65536 < t.length then 2 else parseC t
theorem pI_any (t : List UInt8) (w : World) (hT : Tab w) (hM : MaxL w) (hl : t.length ≤ 9223372036854775807) : Calls Tryz.prog 252 #[.string ⟨t.toArray⟩] w fun e w' => e = .returned (.tuple #[uV (PU t), .int .i64 (PC t)]) ∧ Below w.heap.size w w' := by
  by_cases h : 65536 < t.length
  · have e1 : PU t = U.none := by simp [PU, h]
    have e2 : PC t = 2 := by simp [PC, h]
    rw [e1, e2]
    clear e1 e2
    go_enter Tryz.func252, Tryz.ntmps252
    go_wp2
    exact bodyPost_ret (v := .tuple #[uV U.none, .int .i64 2]) (by simp [results, Tryz.results252, go_sem, U.none]) rfl ⟨rfl, (by repeat (first | (with_reducible exact Below.refl _ _) | (with_reducible refine belI_set ?_ (by first | exact Nat.le_refl _ | simp)) | (with_reducible refine belI_alloc ?_) | (with_reducible refine Below.drew ?_) | (with_reducible refine belI_drewN ?_ _) | (with_reducible refine belI_step ?_ (by assumption))))⟩
  · have e1 : PU t = parseU t := by simp [PU, h]
    have e2 : PC t = parseC t := by simp [PC, h]
    rw [e1, e2]
    exact parseI_any t w hT hM (by omega)
end Go.Proofs.YtmaknkbmilcanaaGreatDoor.Ul
namespace Go.Proofs.YtmaknkbmilcanaaGreatDoor.Ul
open Go.RowKit
def stripL (u : U) : List UInt8 := if webB u.sch then textL ⟨u.sch, [], u.hst, u.prt, u.pth, u.qry, [], u.hq, false⟩ else u.sch
theorem lStrip_any (u : U) (w : World) (hp1 : u.prt ≤ 9223372036854775807) (hl : sizeU u ≤ 4611686018427387904) : Calls Tryz.prog 238 #[uV u] w fun e w' => e = .returned (.string ⟨(stripL u).toArray⟩) ∧ Below w.heap.size w w' := by
  cases hw : webB u.sch with
  | true =>
    have e : stripL u = textL ⟨u.sch, [], u.hst, u.prt, u.pth, u.qry, [], u.hq, false⟩ := by simp [stripL, hw]
    rw [e]
    exact strip_web u.sch u.usr u.hst u.pth u.qry u.frg u.prt u.hq u.hf w hp1 hl hw
  | false =>
    have e : stripL u = u.sch := by simp [stripL, hw]
    rw [e]
    exact strip_other u.sch u.usr u.hst u.pth u.qry u.frg u.prt u.hq u.hf w hw
def stripO (u : U) : List UInt8 := if okB u then stripL u else []
def stripC (u : U) : Int := if okB u then 0 else 1
theorem iStrip_any (u : U) (w : World) (hT : Tab w) (hl : sizeU u ≤ 281474976710656) : Calls Tryz.prog 253 #[uV u] w fun e w' => e = .returned (.tuple #[.string ⟨(stripO u).toArray⟩, .int .i64 (stripC u)]) ∧ Below w.heap.size w w' := by
  cases hok : okB u with
  | false =>
    have e1 : stripO u = [] := by simp [stripO, hok]
    have e2 : stripC u = 1 := by simp [stripC, hok]
    rw [e1, e2]
    exact iStrip_no u.sch u.usr u.hst u.pth u.qry u.frg u.prt u.hq u.hf w hT (by unfold sizeU at hl; omega) hok
  | true =>
    have e2 : stripC u = 0 := by simp [stripC, hok]
    cases hw : webB u.sch with
    | true =>
      have e1 : stripO u = textL ⟨u.sch, [], u.hst, u.prt, u.pth, u.qry, [], u.hq, false⟩ := by simp [stripO, hok, stripL, hw]
      rw [e1, e2]
      exact iStrip_web u.sch u.usr u.hst u.pth u.qry u.frg u.prt u.hq u.hf w hT (by unfold sizeU at hl; omega) hok hw
    | false =>
      have e1 : stripO u = u.sch := by simp [stripO, hok, stripL, hw]
      rw [e1, e2]
      exact iStrip_other u.sch u.usr u.hst u.pth u.qry u.frg u.prt u.hq u.hf w hT (by unfold sizeU at hl; omega) (by unfold sizeU at hl; omega) hok hw
def ST (t : List UInt8) : List UInt8 := if 65536 < t.length then [] else if parseB t then stripL (parseU t) else []
theorem ok_none : okB U.none = false := by decide
theorem st_pu (t : List UInt8) : ST t = stripO (PU t) := by
  unfold ST PU stripO
  by_cases h : 65536 < t.length
  · simp [h, ok_none]
  · simp only [h, if_false]
    cases hb : parseB t with
    | false => simp [parseU, hb, ok_none]
    | true =>
      have hb' := hb
      unfold parseB at hb'
      simp only [Bool.and_eq_true] at hb'
      have e : parseU t = splitU t := by simp [parseU, hb]
      simp [e, hb'.2]
theorem split_size (t : List UInt8) (hl : t.length ≤ 4294967280) : sizeU (parseX t) ≤ 140737488351232 := by
  unfold parseX
  have h1 := bef_len t 58
  have h2 := low_len (befL t 58)
  have h3 := aft_len t 58
  cases hs : splitB t with
  | false => simp [sizeU, U.none]
  | true =>
    have hsp := hs
    rw [split_sp] at hsp
    simp only [Bool.and_eq_true] at hsp
    simp only [if_true]
    rw [split_spU t hsp.2]
    exact spU_size _ _ (by omega) (by omega)
theorem PU_size (t : List UInt8) : sizeU (PU t) ≤ 140737488351232 := by
  unfold PU
  split
  · simp [sizeU, U.none]
  · unfold parseU
    cases hb : parseB t with
    | false => simp [sizeU, U.none]
    | true =>
      have hb' := hb
      unfold parseB at hb'
      simp only [Bool.and_eq_true] at hb'
      have := split_size t (by omega)
      simpa [parseX, hb'.1] using this
theorem parseX_port (t : List UInt8) : (parseX t).prt ≤ 9223372036854775807 := by
  unfold parseX
  split
  · unfold splitU
    split
    · exact webU_port _ _
    · simp [otherU, U.none]
  · simp [U.none]
set_option maxRecDepth 100000 in
theorem lST_any (t : List UInt8) (w : World) (hl : t.length ≤ 65536) : Calls Tryz.prog 165 #[.string ⟨t.toArray⟩] w fun e w' => e = .returned (.string ⟨(if parseB t then stripL (parseU t) else []).toArray⟩) ∧ Below w.heap.size w w' := by
  have HP := Lib.hid (fun W => parseS_any t W (by omega))
  have HL := Lib.hid (fun W => lStrip_any (parseX t) W (parseX_port t) (by have := split_size t (by omega); omega))
  cases hb : parseB t with
  | false =>
    rw [hb] at HP
    generalize parseX t = x at *
    clear hb
    go_enter Tryz.func165, Tryz.ntmps165
    go_wp2_with fail
    refine (HP.out _).mono ?_
    rintro e w1 ⟨rfl, hb1⟩
    go_wp2
    go_ret
    exact ⟨rfl, (by repeat (first | (with_reducible exact Below.refl _ _) | (with_reducible refine belI_set ?_ (by first | exact Nat.le_refl _ | simp)) | (with_reducible refine belI_alloc ?_) | (with_reducible refine Below.drew ?_) | (with_reducible refine belI_drewN ?_ _) | (with_reducible refine belI_step ?_ (by assumption))))⟩
  | true =>
    have F : parseU t = parseX t := by
      have hb' := hb
      unfold parseB at hb'
      simp only [Bool.and_eq_true] at hb'
      simp [parseU, parseX, hb, hb'.1]
    rw [F, if_pos rfl]
    rw [hb] at HP
    generalize parseX t = x at *
    generalize stripL x = y at *
    clear hb F
    go_enter Tryz.func165, Tryz.ntmps165
    go_wp2_with fail
    refine (HP.out _).mono ?_
    rintro e w1 ⟨rfl, hb1⟩
    go_wp2_with fail
    refine (HL.out _).mono ?_
    rintro e w2 ⟨rfl, hb2⟩
    go_wp2
    go_ret
    exact ⟨rfl, (by repeat (first | (with_reducible exact Below.refl _ _) | (with_reducible refine belI_set ?_ (by first | exact Nat.le_refl _ | simp)) | (with_reducible refine belI_alloc ?_) | (with_reducible refine Below.drew ?_) | (with_reducible refine belI_drewN ?_ _) | (with_reducible refine belI_step ?_ (by assumption))))⟩
set_option maxRecDepth 100000 in
theorem iST_any (t : List UInt8) (w : World) (hT : Tab w) (hM : MaxL w) (hl : t.length ≤ 9223372036854775807) : Calls Tryz.prog 175 #[.string ⟨t.toArray⟩] w fun e w' => e = .returned (.string ⟨(ST t).toArray⟩) ∧ Below w.heap.size w w' := by
  have HM := Lib.hid hM
  have HT := Lib.hid hT
  clear hM hT
  have HI := Lib.hid (fun W hT hM => pI_any t W hT hM hl)
  have HS := Lib.hid (fun W hT => iStrip_any (PU t) W hT (by have := PU_size t; omega))
  rw [st_pu t]
  generalize PU t = u at *
  generalize PC t = c at *
  generalize stripO u = y at *
  generalize stripC u = c2 at *
  go_enter Tryz.func175, Tryz.ntmps175
  go_wp2_with fail
  refine (HI.out _ (HT.out.below (by repeat (first | (with_reducible exact Below.refl _ _) | (with_reducible refine belI_set ?_ (by first | exact Nat.le_refl _ | simp)) | (with_reducible refine belI_alloc ?_) | (with_reducible refine Below.drew ?_) | (with_reducible refine belI_drewN ?_ _) | (with_reducible refine belI_step ?_ (by assumption))))) (HM.out.below (by repeat (first | (with_reducible exact Below.refl _ _) | (with_reducible refine belI_set ?_ (by first | exact Nat.le_refl _ | simp)) | (with_reducible refine belI_alloc ?_) | (with_reducible refine Below.drew ?_) | (with_reducible refine belI_drewN ?_ _) | (with_reducible refine belI_step ?_ (by assumption)))))).mono ?_
  rintro e w1 ⟨rfl, hb1⟩
  have V1 := UAt.new w1 u
  go_wp2_with fail
  refine (HS.out _ (HT.out.below (by repeat (first | (with_reducible exact Below.refl _ _) | (with_reducible refine belI_set ?_ (by first | exact Nat.le_refl _ | simp)) | (with_reducible refine belI_alloc ?_) | (with_reducible refine Below.drew ?_) | (with_reducible refine belI_drewN ?_ _) | (with_reducible refine belI_step ?_ (by assumption)))))).mono ?_
  rintro e w2 ⟨rfl, hb2⟩
  go_wp2
  go_ret
  exact ⟨rfl, (by repeat (first | (with_reducible exact Below.refl _ _) | (with_reducible refine belI_set ?_ (by first | exact Nat.le_refl _ | simp)) | (with_reducible refine belI_alloc ?_) | (with_reducible refine Below.drew ?_) | (with_reducible refine belI_drewN ?_ _) | (with_reducible refine belI_step ?_ (by assumption))))⟩
end Go.Proofs.YtmaknkbmilcanaaGreatDoor.Ul
namespace Go.Proofs.YtmaknkbmilcanaaGreatDoor.Ul
open Go.RowKit
def orgO (u : U) : List UInt8 := if okB u then (if webB u.sch then siteL u.sch u.hst u.prt else []) else []
def orgC (u : U) : Int := if okB u then (if webB u.sch then 0 else 11) else 1
theorem iOrigin_any (u : U) (w : World) (hT : Tab w) (hl : sizeU u ≤ 4611686018427387904) : Calls Tryz.prog 317 #[uV u] w fun e w' => e = .returned (.tuple #[.string ⟨(orgO u).toArray⟩, .int .i64 (orgC u)]) ∧ Below w.heap.size w w' := by
  cases hok : okB u with
  | false =>
    have e1 : orgO u = [] := by simp [orgO, hok]
    have e2 : orgC u = 1 := by simp [orgC, hok]
    rw [e1, e2]
    exact iOrigin_no u.sch u.usr u.hst u.pth u.qry u.frg u.prt u.hq u.hf w hT hl hok
  | true =>
    cases hw : webB u.sch with
    | true =>
      have e1 : orgO u = siteL u.sch u.hst u.prt := by simp [orgO, hok, hw]
      have e2 : orgC u = 0 := by simp [orgC, hok, hw]
      rw [e1, e2]
      exact iOrigin_web u.sch u.usr u.hst u.pth u.qry u.frg u.prt u.hq u.hf w hT hl hok hw
    | false =>
      have e1 : orgO u = [] := by simp [orgO, hok, hw]
      have e2 : orgC u = 11 := by simp [orgC, hok, hw]
      rw [e1, e2]
      exact iOrigin_other u.sch u.usr u.hst u.pth u.qry u.frg u.prt u.hq u.hf w hT hl hok hw
/-! ### Plainly: the stripped URL -/
def bare (u : U) : U := ⟨u.sch, [], u.hst, u.prt, u.pth, u.qry, [], u.hq, false⟩
def meU (u : U) : U := ⟨u.sch, [109, 101], u.hst, u.prt, u.pth, u.qry, u.frg, u.hq, u.hf⟩
theorem bare_ok (u : U) (hok : okB u = true) (hw : webB u.sch = true) : okB (bare u) = true := by
  obtain ⟨s, us, h, p, pa, q, f, hq, hf⟩ := u
  have hw' : webB s = true := hw
  simp only [okB, headB, flagsB, hw', if_true, Bool.and_eq_true, Bool.or_eq_true, decide_eq_true_eq, webPartsB] at hok
  obtain ⟨⟨⟨⟨⟨⟨hs, hq1, hf1⟩, hpa⟩, hqr⟩, hfr⟩, hlen⟩, ⟨⟨⟨⟨hus, hh⟩, hp1, hp2⟩, hpu⟩, hsl⟩⟩ := hok
  have hl2 : (textL (bare ⟨s, us, h, p, pa, q, f, hq, hf⟩)).length ≤ 100 := by
    refine Nat.le_trans ?_ hlen
    simp only [textL, bare, hw', if_true, userL, fragL, List.length_append]
    simp
    omega
  have e1 : onlyB [] [47, 63, 35, 64] = true := rfl
  have e2 : onlyB [] [] = true := rfl
  show (headB _ && decide _ && (if webB s then webPartsB _ else otherPartsB _)) = true
  rw [hw', if_pos rfl, decide_eq_true hl2]
  simp only [headB, flagsB, bare, webPartsB, hs, hpa, hqr, e1, e2, hh, hsl, hpu]
  rcases hq1 with h1 | h1 <;> simp [h1, hp1, hp2]
theorem bare_text (u : U) (hw : webB u.sch = true) : stripL u = textL (bare u) ∧ stripL (bare u) = textL (bare u) ∧ stripL (meU u) = textL (bare u) := by
  have h1 : webB (bare u).sch = true := hw
  have h2 : webB (meU u).sch = true := hw
  exact ⟨by rw [stripL, if_pos hw]; rfl, by rw [stripL, if_pos h1]; rfl, by rw [stripL, if_pos h2]; rfl⟩
theorem PU_back (u : U) (hok : okB u = true) : PU (textL u) = u ∧ PC (textL u) = 0 ∧ ¬ 65536 < (textL u).length := by
  obtain ⟨h1, h2⟩ := parse_back u hok
  have hl := text_len u hok
  have h : ¬ 65536 < (textL u).length := by omega
  exact ⟨by simp [PU, h, h2], by simp [PC, h, parseC, h1], h⟩
theorem ok_fields (u : U) (hok : okB u = true) (hw : webB u.sch = true) : 0 ≤ u.prt ∧ u.prt ≤ 65535 := ok_port u.sch u.usr u.hst u.pth u.qry u.frg u.prt u.hq u.hf hok hw
/-- all that the law wants of a web URL that is OK, of its stripped fellow and of the one with another user -/
theorem strip_facts (u : U) (hok : okB u = true) (hw : webB u.sch = true) :
    ∃ s o : List UInt8, stripO u = s ∧ stripC u = 0 ∧ orgO u = o ∧ orgC u = 0 ∧ stripO (bare u) = s ∧ stripC (bare u) = 0 ∧ PU s = bare u ∧ PC s = 0 ∧ orgO (bare u) = o ∧ orgC (bare u) = 0 ∧ ST s = s ∧ s.length ≤ 65536 ∧ ((stripO (meU u) = s ∧ stripC (meU u) = 0) ∨ (stripO (meU u) = [] ∧ stripC (meU u) = 1)) := by
  have hb := bare_ok u hok hw
  have hwb : webB (bare u).sch = true := hw
  obtain ⟨t1, t2, t3⟩ := bare_text u hw
  obtain ⟨p1, p2, p3⟩ := PU_back (bare u) hb
  refine ⟨textL (bare u), siteL u.sch u.hst u.prt, by simp [stripO, hok, t1], by simp [stripC, hok], by simp [orgO, hok, hw], by simp [orgC, hok, hw], by simp [stripO, hb, t2], by simp [stripC, hb], p1, p2, by simp [orgO, hb, hwb]; rfl, by simp [orgC, hb, hwb], by rw [st_pu, p1]; simp [stripO, hb, t2], by omega, ?_⟩
  cases hm : okB (meU u) with
  | true => exact Or.inl ⟨by simp [stripO, hm, t3], by simp [stripC, hm]⟩
  | false => exact Or.inr ⟨by simp [stripO, hm], by simp [stripC, hm]⟩
/-- and of one of another kind -/
theorem other_facts (u : U) (hok : okB u = true) (hw : webB u.sch = false) : stripO u = u.sch ∧ stripC u = 0 ∧ orgO u = [] ∧ orgC u = 11 := by
  refine ⟨by simp [stripO, hok, stripL, hw], by simp [stripC, hok], by simp [orgO, hok, hw], by simp [orgC, hok, hw]⟩
end Go.Proofs.YtmaknkbmilcanaaGreatDoor.Ul
