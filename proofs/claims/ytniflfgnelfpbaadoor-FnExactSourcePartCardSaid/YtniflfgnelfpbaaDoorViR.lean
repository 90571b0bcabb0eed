
/-
  The parts of a violation, the model's, walked; BlockedPart and SourcePart of both.
-/
import Derived.Test.YtniflfgnelfpbaaDoorViQ
namespace Go.Proofs.YtniflfgnelfpbaaDoor.Vi
open Go.RowKit
open Go.Proofs.YtniflfgnelfpbaaDoor.Ul
theorem words3 (w : World) : Tx.TxtsIn (fun b => b = w.heap.size) (w.alloc (.cells #[.string ⟨#[105, 110, 108, 105, 110, 101]⟩, .string ⟨#[101, 118, 97, 108]⟩, .string ⟨#[115, 101, 108, 102]⟩] 9)) (.slice (some ⟨w.heap.size, 0, none⟩) 3 3) [inlL, evaL, selL] := by
  refine ⟨some ⟨w.heap.size, 0, none⟩, 3, w.heap.size, 0, rfl, by simp, by omega, fun i hi => ?_, fun _ => ⟨rfl, rfl⟩, fun i hi => ?_⟩
  · match i, hi with
    | 0, _ => decide
    | 1, _ => decide
    | 2, _ => decide
  · rw [Nat.zero_add, cell_of_row _ _ i _ _ _ (heap_alloc_new w _)]
    match i, hi with
    | 0, _ => rfl
    | 1, _ => rfl
    | 2, _ => rfl
theorem has3 (b : List UInt8) : [inlL, evaL, selL].contains b = wordB b := by
  simp only [List.contains_cons, List.contains_nil, wordB, Bool.or_false]
set_option maxRecDepth 100000 in
set_option maxHeartbeats 1000000 in
theorem blockedS_any (v : V) (w : World) (hl : v.blk.length ≤ 65536) : Calls Tryd.prog 18 #[vV v] w fun e w' => e = .returned (.string ⟨(blkV v).toArray⟩) ∧ Below w.heap.size w w' := by
  have HS := Lib.hid (fun W => siteS_any v.blk W hl)
  have HST := Lib.hid (fun W => lST_any v.blk W hl)
  rw [st_same hl] at HST
  have HH := Lib.hid (has3 v.blk ▸ Tx.hasS_any _ [inlL, evaL, selL] v.blk _ _ (words3 (w.alloc (.cells (vC v) 27))))
  have hva := (vAt_new2 w v 27).alloc (.cells #[.string ⟨#[105, 110, 108, 105, 110, 101]⟩, .string ⟨#[101, 118, 97, 108]⟩, .string ⟨#[115, 101, 108, 102]⟩] 9) (by simp)
  rw [show (w.alloc (.cells (vC v) 27)).heap.size = w.heap.size + 1 from by simp] at HH
  unfold blkV
  generalize siteT v.blk = t1 at *
  generalize Ul.ST v.blk = t2 at *
  obtain ⟨q, hq⟩ : ∃ q, wordB v.blk = q := ⟨_, rfl⟩
  rw [hq] at HH ⊢
  clear hq hl
  obtain ⟨d, rf, b, s, di, sm, l, c, re⟩ := v
  simp only [vC] at HH
  obtain ⟨k0, k1, k2, k3, k4, k5, k6, k7, k8, -⟩ := hva
  simp only at k0 k1 k2 k3 k4 k5 k6 k7 k8
  have HB := Lib.hid (belI_alloc (o := .cells #[.string ⟨#[105, 110, 108, 105, 110, 101]⟩, .string ⟨#[101, 118, 97, 108]⟩, .string ⟨#[115, 101, 108, 102]⟩] 9) (belI_alloc (o := .cells #[.string ⟨d.toArray⟩, .string ⟨rf.toArray⟩, .string ⟨b.toArray⟩, .string ⟨s.toArray⟩, .string ⟨di.toArray⟩, .string ⟨sm.toArray⟩, .int .i64 l, .int .i64 c, .bool re] 27) (Below.refl w.heap.size w)))
  cases q with
  | true =>
    go_enter Tryd.func18, Tryd.ntmps18
    go_wp2_with fail
    refine HH.out.mono ?_
    rintro e w1 ⟨rfl, rfl⟩
    go_wp2
    go_ret
    exact ⟨rfl, HB.out⟩
  | false =>
    cases re with
    | true =>
      go_enter Tryd.func18, Tryd.ntmps18
      go_wp2_with fail
      refine HH.out.mono ?_
      rintro e w1 ⟨rfl, rfl⟩
      go_wp2_with fail
      refine (HS.out _).mono ?_
      rintro e w2 ⟨rfl, hb⟩
      go_wp2
      go_ret
      exact ⟨rfl, belI_step HB.out hb⟩
    | false =>
      go_enter Tryd.func18, Tryd.ntmps18
      go_wp2_with fail
      refine HH.out.mono ?_
      rintro e w1 ⟨rfl, rfl⟩
      go_wp2_with fail
      refine (HST.out _).mono ?_
      rintro e w2 ⟨rfl, hb⟩
      go_wp2
      go_ret
      exact ⟨rfl, belI_step HB.out hb⟩
theorem sameParts_any (a b : U) (w : World) : Calls Tryd.prog 44 #[uV a, uV b] w fun e w' => e = .returned (.bool (webB a.sch && (a.sch == b.sch) && (a.hst == b.hst) && (a.prt == b.prt))) ∧ Below w.heap.size w w' :=
  same_parts a.sch a.usr a.hst a.pth a.qry a.frg b.sch b.usr b.hst b.pth b.qry b.frg a.prt b.prt a.hq a.hf b.hq b.hf w
/-- the model's tests, one after another -/
theorem srcV_cases {v : V} (hl : v.src.length ≤ 65536) (hl2 : v.doc.length ≤ 65536) :
    srcV v = if parseB v.src then (if parseB v.doc then (if webB (parseX v.src).sch && ((parseX v.src).sch == (parseX v.doc).sch) && ((parseX v.src).hst == (parseX v.doc).hst) && ((parseX v.src).prt == (parseX v.doc).prt) then stripL (parseX v.src) else siteT v.src) else siteT v.src) else siteT v.src := by
  unfold srcV sameO
  cases h1 : parseB v.src with
  | false => rw [pu_no hl h1]; simp [ok_none]
  | true =>
    obtain ⟨e1, o1⟩ := pu_yes hl h1
    cases h2 : parseB v.doc with
    | false => rw [pu_no hl2 h2, e1]; simp [ok_none]
    | true =>
      obtain ⟨e2, o2⟩ := pu_yes hl2 h2
      rw [e1, e2, o1, o2, st_pu, e1]
      simp [stripO, o1]
set_option maxRecDepth 100000 in
set_option maxHeartbeats 2000000 in
theorem sourceS_any (v : V) (w : World) (hl : v.src.length ≤ 65536) (hl2 : v.doc.length ≤ 65536) : Calls Tryd.prog 21 #[vV v] w fun e w' => e = .returned (.string ⟨(srcV v).toArray⟩) ∧ Below w.heap.size w w' := by
  rw [srcV_cases hl hl2]
  have HP1 := Lib.hid (fun W => parseS_any v.src W (by omega))
  have HP2 := Lib.hid (fun W => parseS_any v.doc W (by omega))
  have HSO := Lib.hid (fun W => sameParts_any (parseX v.src) (parseX v.doc) W)
  have HST := Lib.hid (fun W => lStrip_any (parseX v.src) W (parseX_port _) (by have := split_size v.src (by omega); omega))
  have HSI := Lib.hid (fun W => siteS_any v.src W hl)
  have hva := vAt_new2 w v 27
  have HVA := Lib.hid hva
  have HZ0 := Lib.hid (show w.heap.size < (w.alloc (.cells (vC v) 27)).heap.size by simp)
  have HB0 := Lib.hid ((Below.refl w.heap.size w).alloc (Nat.le_refl _) (.cells (vC v) 27))
  generalize parseX v.src = u1 at *
  generalize parseX v.doc = u2 at *
  generalize parseB v.src = c1 at *
  generalize parseB v.doc = c2 at *
  generalize stripL u1 = t1 at *
  generalize siteT v.src = t2 at *
  generalize (webB u1.sch && (u1.sch == u2.sch) && (u1.hst == u2.hst) && (u1.prt == u2.prt)) = so at *
  clear hl hl2 hva
  obtain ⟨d, rf, b, s, di, sm, l, c, re⟩ := v
  obtain ⟨a0, a1, a2, a3, a4, a5, a6, a7, a8⟩ := u1
  obtain ⟨b0, b1, b2, b3, b4, b5, b6, b7, b8⟩ := u2
  simp only [vC] at HVA HZ0 HB0
  simp only [uV] at HP1 HP2 HSO HST
  go_enter Tryd.func21, Tryd.ntmps21
  go_wp2_with fail
  refine (HP1.out _).mono ?_
  rintro e w1 ⟨rfl, hb⟩
  have HV1 := Lib.hid ((HVA.out.below hb HZ0.out).alloc (.cells (uC ⟨a0, a1, a2, a3, a4, a5, a6, a7, a8⟩) 67) (Nat.lt_of_lt_of_le HZ0.out hb.size))
  have HU1 := Lib.hid (UAt.new w1 ⟨a0, a1, a2, a3, a4, a5, a6, a7, a8⟩)
  have HB1 := Lib.hid (belI_alloc (o := .cells (uC ⟨a0, a1, a2, a3, a4, a5, a6, a7, a8⟩) 67) (belI_step HB0.out hb))
  have HZ1 := Lib.hid (Nat.lt_of_lt_of_le HZ0.out hb.size)
  obtain ⟨k0, -, -, k3, -, -, -, -, -, -⟩ := HV1.out
  simp only [uC] at k0 k3 HV1 HB1
  clear hb
  go_wp2_with fail
  refine (HP2.out _).mono ?_
  rintro e w2 ⟨rfl, hb⟩
  have hw2 : w1.heap.size < w2.heap.size := by have := hb.size; simp at this; omega
  have HV2 := Lib.hid ((HV1.out.below hb (by have := HZ1.out; simp; omega)).alloc (.cells (uC ⟨b0, b1, b2, b3, b4, b5, b6, b7, b8⟩) 67) (Nat.lt_trans HZ1.out hw2))
  have HU1' := Lib.hid ((HU1.out.below hb (by simp)).alloc (.cells (uC ⟨b0, b1, b2, b3, b4, b5, b6, b7, b8⟩) 67) hw2)
  have HU2 := Lib.hid (UAt.new w2 ⟨b0, b1, b2, b3, b4, b5, b6, b7, b8⟩)
  have HB2 := Lib.hid (belI_alloc (o := .cells (uC ⟨b0, b1, b2, b3, b4, b5, b6, b7, b8⟩) 67) (belI_step HB1.out hb))
  have HZ2 := Lib.hid (show w.heap.size < (w2.alloc (.cells (uC ⟨b0, b1, b2, b3, b4, b5, b6, b7, b8⟩) 67)).heap.size by have := HZ1.out; simp; omega)
  have HZ3 := Lib.hid (show w1.heap.size < (w2.alloc (.cells (uC ⟨b0, b1, b2, b3, b4, b5, b6, b7, b8⟩) 67)).heap.size by simp; omega)
  obtain ⟨p0, p1, p2, p3, p4, p5, p6, p7, p8, -⟩ := HU1'.out
  obtain ⟨q0, q1, q2, q3, q4, q5, q6, q7, q8, -⟩ := HU2.out
  obtain ⟨-, -, -, k3, -, -, -, -, -, -⟩ := HV2.out
  simp only [uC] at p0 p1 p2 p3 p4 p5 p6 p7 p8 HV2 HB2 HZ2 k3 HU1' HZ3
  clear hb hw2 k0
  cases c1 with
  | false =>
    go_wp2_with fail
    refine (HSI.out _).mono ?_
    rintro e w4 ⟨rfl, hb⟩
    go_wp2
    go_ret
    exact ⟨rfl, belI_step HB2.out hb⟩
  | true =>
    cases c2 with
    | false =>
      go_wp2_with fail
      refine (HSI.out _).mono ?_
      rintro e w4 ⟨rfl, hb⟩
      go_wp2
      go_ret
      exact ⟨rfl, belI_step HB2.out hb⟩
    | true =>
      cases so with
      | true =>
        go_wp2_with fail
        refine (HSO.out _).mono ?_
        rintro e w3 ⟨rfl, hb⟩
        have HB3 := Lib.hid (belI_step HB2.out hb)
        have HU3 := HU1'.out.below hb HZ3.out
        clear hb p0 p1 p2 p3 p4 p5 p6 p7 p8 q0 q1 q2 q3 q4 q5 q6 q7 q8 k3
        obtain ⟨p0, p1, p2, p3, p4, p5, p6, p7, p8, -⟩ := HU3
        simp only at p0 p1 p2 p3 p4 p5 p6 p7 p8
        go_wp2_with fail
        refine (HST.out _).mono ?_
        rintro e w4 ⟨rfl, hb⟩
        go_wp2
        go_ret
        exact ⟨rfl, belI_step HB3.out hb⟩
      | false =>
        go_wp2_with fail
        refine (HSO.out _).mono ?_
        rintro e w3 ⟨rfl, hb⟩
        have HB3 := Lib.hid (belI_step HB2.out hb)
        clear p0 p1 p2 p3 p4 p5 p6 p7 p8 q0 q1 q2 q3 q4 q5 q6 q7 q8 k3
        obtain ⟨-, -, -, k3, -, -, -, -, -, -⟩ := HV2.out.below hb HZ2.out
        clear hb
        go_wp2_with fail
        refine (HSI.out _).mono ?_
        rintro e w4 ⟨rfl, hb⟩
        go_wp2
        go_ret
        exact ⟨rfl, belI_step HB3.out hb⟩
theorem ok_lens {v : V} (h : vOK v = true) : v.doc.length ≤ 100 ∧ v.ref.length ≤ 100 ∧ v.blk.length ≤ 100 ∧ v.src.length ≤ 100 ∧ v.smp.length ≤ 200 ∧ v.dir.length ≤ 24 := by
  unfold vOK fourB Rn.rnameB at h
  simp only [Bool.and_eq_true, decide_eq_true_eq] at h
  obtain ⟨⟨h1, h2, h3, h4⟩, ⟨h5, _⟩, h6, _⟩ := h
  exact ⟨h1, h2, h3, h4, h6, h5.2⟩
end Go.Proofs.YtniflfgnelfpbaaDoor.Vi
