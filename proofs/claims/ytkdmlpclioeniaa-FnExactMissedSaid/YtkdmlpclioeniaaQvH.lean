
/-
  Expire, the model's: the whole.
-/
import Derived.Test.YtkdmlpclioeniaaQvG
namespace Go.Proofs.Ytkdmlpclioeniaa.Qu
open Go.RowKit
open Go.Proofs.Ytkdmlpclioeniaa.Tx
theorem Fit_drop {xs : List Rep} (h : ∀ i, i < xs.length → Fit (xs.getD i default)) (k : Nat) : ∀ i, i < (xs.drop k).length → Fit ((xs.drop k).getD i default) := fun i hi => by
  simp only [List.length_drop] at hi
  have := h (k + i) (by omega)
  simpa [List.getD] using this
set_option maxRecDepth 100000 in
set_option maxHeartbeats 4000000 in
theorem expireS_any (B : Nat) (w0 : World) (q : Q) (now age : Int) (iv rv : Value) (hi : RpIn (· < B) w0 iv q.items) (hr : TxtsIn (· < B) w0 rv q.recent) (W : World) (hb : Below B w0 W) (hB : B ≤ W.heap.size) :
    Calls Try.prog 34 #[qV iv rv, .int .i64 now, .int .i64 age] W (NewS W (exR q now age) (exD q now age) (exC q now age)) := by
  have HK := Lib.hid (fun W' h1 h2 => quS_any B w0 q iv rv hi hr W' h1 h2)
  have HEX := Lib.hid (fun hq hg W' h1 h2 => lExpire_any B w0 q now age iv rv hi hr hq hg W' h1 h2)
  have H1 := Lib.hid (fun (w' : World) (dv : Value) h hd hb => newE_1 (W := W) (w' := w') (q := q) (now := now) (age := age) (dv := dv) h hd hb)
  have H4 := Lib.hid (fun (w' : World) (dv : Value) h h2 hd hb => newE_4 (W := W) (w' := w') (q := q) (now := now) (age := age) (dv := dv) h h2 hd hb)
  have H0 := Lib.hid (fun (w' : World) (iv rv dv : Value) h h2 h4 h1 hd hb => newE_0 (W := W) (w' := w') (q := q) (now := now) (age := age) (iv := iv) (rv := rv) (dv := dv) (k := exN q now age) h h2 rfl h4 h1 hd hb)
  generalize NewS W (exR q now age) (exD q now age) (exC q now age) = PST at *
  obtain ⟨a1, c1, rfl⟩ := hi.slice2
  obtain ⟨a2, l2, c2, rfl⟩ := hr.slice
  have HB := Lib.hid hb
  have HR := Lib.hid hr
  have HFD := Lib.hid (Fit_drop hi.fit (exN q now age))
  obtain ⟨w1, hw1⟩ : ∃ w1, w1 = (W.alloc (iqO (.slice a1 q.items.length c1) (.slice a2 l2 c2))).alloc zqO := ⟨_, rfl⟩
  have HBX := Lib.hid (show Hd w1 W.heap.size (iqO (.slice a1 q.items.length c1) (.slice a2 l2 c2)) from hw1 ▸ (Hd.new W _).al _)
  have HG := Lib.hid (show Hd w1 (W.heap.size + 1) zqO from by
    have := Hd.new (W.alloc (iqO (.slice a1 q.items.length c1) (.slice a2 l2 c2))) zqO
    rw [hw1]; simpa using this)
  have BF := Lib.hid (show Below W.heap.size W w1 from hw1 ▸ ((Below.refl W.heap.size W).alloc (Nat.le_refl _) _).alloc (by simp) _)
  clear hi hr hb
  go_enter Try.func34, Try.ntmps34
  go_wp2_with fail
  rw [← hw1]
  clear hw1
  refine (HK.out _ (HB.out.trans (BF.out.mono hB)) (Nat.le_trans hB BF.out.size)).mono ?_
  rintro e w2 ⟨rfl, hb2⟩
  have HX2 := Lib.hid (HBX.out.blw hb2)
  have HG2 := Lib.hid (HG.out.blw hb2)
  have B2 := Lib.hid (below_chain BF.out hb2)
  have z2 := HG2.out.lt
  obtain ⟨m0, m1, -⟩ := HX2.out.two
  obtain ⟨p0, p1, pf⟩ := HG2.out.two
  have HRES := Lib.hid ((HG2.out.set2 (.slice none 0 0) (.slice none 0 0)).al (.cells #[] 3))
  have HBS := Lib.hid (belI_alloc (o := .cells #[] 3) ((far2 (w := w2) (B := W.heap.size + 1) (.slice none 0 0) (.slice none 0 0)).below B2.out B2.out.size (fun b e => by omega)))
  have HDV := Lib.hid (show OI ((set2 w2 (W.heap.size + 1) 0 (.slice none 0 0) (.slice none 0 0)).alloc (.cells #[] 3)) W.heap.size (.slice (some ⟨w2.heap.size, 0, none⟩) 0 0) [] from OI_mk (by rw [set2_size]) (by rw [set2_size]; exact B2.out.size))
  clear hb2
  by_cases hq : quB q = true
  · rw [hq]
    by_cases hnow : 0 ≤ now ∧ now ≤ 1000000
    · have HN := Lib.hid (Ul.in_yes now 0 1000000 w2 hnow)
      by_cases hage : 1 ≤ age ∧ age ≤ 100
      · have HA := Lib.hid (Ul.in_yes age 1 100 w2 hage)
        obtain ⟨e1, e2⟩ := quB_split hq now age
        have HLX := Lib.hid (HEX.out hq ⟨hnow, hage⟩)
        rw [e1, e2] at HLX
        have HY := Lib.hid (fun w' iv rv dv h4 h1 h2 hb => H0.out w' iv rv dv hq ⟨hnow, hage⟩ h4 h1 h2 hb)
        have hs := quB_small hq
        have hdl : (q.items.drop (exN q now age)).length ≤ 1048576 := by have := hs.i; simp only [List.length_drop]; omega
        have hrl : q.recent.length ≤ 1048576 := by have := hs.r; omega
        clear H1 H4 H0 HEX hq hs HRES HBS HDV e1 e2
        generalize q.items.drop (exN q now age) = dr at *
        generalize idsOf (q.items.take (exN q now age)) = ds at *
        go_wp2_with fail
        refine HN.out.mono ?_
        rintro e _ ⟨rfl, rfl⟩
        go_wp2_with fail
        refine HA.out.mono ?_
        rintro e _ ⟨rfl, rfl⟩
        go_wp2_with fail
        refine (HLX.out _ (HB.out.trans (B2.out.mono hB)) (Nat.le_trans hB B2.out.size)).mono ?_
        rintro e w3 ⟨vi, vd, rfl, h4, hI, hb3⟩
        have B3 := below_chain B2.out hb3
        obtain ⟨x3, hx3⟩ : ∃ x3, x3 = w3.alloc (iqO vi (.slice a2 l2 c2)) := ⟨_, rfl⟩
        have BX := Lib.hid (show Below W.heap.size W x3 from hx3 ▸ belI_alloc B3)
        have HG3 := Lib.hid (show Hd x3 (W.heap.size + 1) zqO from hx3 ▸ (HG2.out.blw hb3).al _)
        have I3 := Lib.hid (OI.base (b := W.heap.size + 2) (show OI x3 _ vd ds from hx3 ▸ own_al hI _) (by omega))
        have HOW := Lib.hid (ownS_any x3.heap.size x3 ⟨dr, q.recent⟩ vi (.slice a2 l2 c2) ((O4.rp (show O4 x3 _ vi dr from hx3 ▸ own_al h4 _) HFD.out).mono fun _ hb => hb.2) ((HR.out.blw (HB.out.trans (BX.out.mono hB))).mono fun b hb => Nat.lt_of_lt_of_le hb (Nat.le_trans hB BX.out.size)) hdl hrl x3 (Below.refl _ _) (Nat.le_refl _))
        have yx : W.heap.size + 1 < x3.heap.size := HG3.out.lt
        obtain ⟨a5, c5, rfl⟩ := h4.slice
        obtain ⟨a6, c6, rfl⟩ := hI.slice
        clear h4 hI hb3 B3 m0 m1 p0 p1 pf
        go_wp2_with fail
        rw [← hx3]
        clear hx3
        refine HOW.out.mono ?_
        rintro e w5 ⟨i5, r5, rfl, h54, h51, hb5⟩
        have HG5 := Lib.hid (HG3.out.blw hb5)
        have B5 := Lib.hid (below_chain BX.out hb5)
        have HF := Lib.hid (And.intro (HG5.out.set2 i5 r5) (HY.out (set2 w5 (W.heap.size + 1) 0 i5 r5) i5 r5 (.slice a6 ds.length c6) (own_ch (far2 _ _) (own_base h54 (by omega)) (fun b e x => by have := (World.ownsRow.lt h54 b e).1; omega)) (own_ch (far2 _ _) (own_base h51 (by omega)) (fun b e x => by have := (World.ownsRow.lt h51 b e).1; omega)) (own_ch (far2 _ _) (own_base (OI.below I3.out hb5) (by omega)) (fun b e x => by have := (World.ownsRow.lt I3.out b e).1; omega)) ((far2 _ _).below B5.out B5.out.size (fun b e => by omega))))
        obtain ⟨a8, c8, rfl⟩ := h54.slice
        obtain ⟨a9, c9, rfl⟩ := h51.slice
        obtain ⟨p0, p1, pf⟩ := HG5.out.two
        clear h54 h51 hb5
        go_wp2
        exact bodyPost_ret (ret_S Try.results34 rfl rfl rfl HF.out.1) rfl HF.out.2
      · have HA := Lib.hid (Ul.in_no age 1 100 w2 hage)
        have HF := Lib.hid (H4.out _ _ hq (fun h => hage h.2) HDV.out HBS.out)
        clear H1 H4 H0 HEX hq
        go_wp2_with fail
        refine HN.out.mono ?_
        rintro e _ ⟨rfl, rfl⟩
        go_wp2_with fail
        refine HA.out.mono ?_
        rintro e _ ⟨rfl, rfl⟩
        go_wp2_with fail
        exact bodyPost_ret (ret_S Try.results34 rfl rfl rfl HRES.out) rfl HF.out
    · have HN := Lib.hid (Ul.in_no now 0 1000000 w2 hnow)
      have HF := Lib.hid (H4.out _ _ hq (fun h => hnow h.1) HDV.out HBS.out)
      clear H1 H4 H0 HEX hq
      go_wp2_with fail
      refine HN.out.mono ?_
      rintro e _ ⟨rfl, rfl⟩
      go_wp2_with fail
      exact bodyPost_ret (ret_S Try.results34 rfl rfl rfl HRES.out) rfl HF.out
  · have hq2 : quB q = false := by simpa using hq
    have HF := Lib.hid (H1.out _ _ hq2 HDV.out HBS.out)
    rw [hq2]
    clear H1 H4 H0 HEX hq hq2
    go_wp2
    exact bodyPost_ret (ret_S Try.results34 rfl rfl rfl HRES.out) rfl HF.out
end Go.Proofs.Ytkdmlpclioeniaa.Qu
