
/-
  Settle, the model's.
-/
import Derived.Test.YtkdmlpclioeniaaQvB
namespace Go.Proofs.Ytkdmlpclioeniaa.Qu
open Go.RowKit
open Go.Proofs.Ytkdmlpclioeniaa.Tx
theorem OI_mk {W : World} {n base : Nat} (hn : W.heap.size = n) (hb : base ≤ W.heap.size) : OI (W.alloc (.cells #[] 3)) base (.slice (some ⟨n, 0, none⟩) 0 0) [] := by
  subst hn; exact (OI_made W).base hb
set_option maxRecDepth 100000 in
set_option maxHeartbeats 4000000 in
theorem settleS_any (B : Nat) (w0 : World) (q : Q) (n : Int) (iv rv : Value) (hi : RpIn (· < B) w0 iv q.items) (hr : TxtsIn (· < B) w0 rv q.recent) (hn : q.items.length ≤ 1048576) (W : World) (hb : Below B w0 W) (hB : B ≤ W.heap.size) :
    Calls Try.prog 28 #[qV iv rv, .int .i64 n] W (NewS W (stR q n) (stD q n) (stC q n)) := by
  have HK := Lib.hid (fun W' h1 h2 => askS_any B w0 q n iv rv hi hr hn W' h1 h2)
  have HNO := Lib.hid (fun (w' : World) (dv : Value) (h : stC q n ≠ 0) hd hb => newS_no (W := W) (w' := w') (q := q) (n := n) (dv := dv) h hd hb)
  have HZ := Lib.hid (fun h => stC_zero (q := q) (n := n) h)
  have HYE := Lib.hid (fun (w' : World) (iv rv dv : Value) (h : stC q n = 0) h4 h1 h2 hb => newS_yes (W := W) (w' := w') (q := q) (n := n) (iv := iv) (rv := rv) (dv := dv) h h4 h1 h2 hb)
  generalize NewS W (stR q n) (stD q n) (stC q n) = PST at *
  generalize stC q n = C at *
  obtain ⟨a1, c1, rfl⟩ := hi.slice2
  have hcap : q.items.length ≤ c1 ∧ c1 ≤ 9223372036854775807 := by obtain ⟨_, cap, _, _, e, h1, h2, _⟩ := hi; injection e with e1 e2 e3; subst e3; exact ⟨h1, h2⟩
  obtain ⟨a2, l2, c2, rfl⟩ := hr.slice
  have HB := Lib.hid hb
  obtain ⟨w1, hw1⟩ : ∃ w1, w1 = (W.alloc (iqO (.slice a1 q.items.length c1) (.slice a2 l2 c2))).alloc zqO := ⟨_, rfl⟩
  have HBX := Lib.hid (show Hd w1 W.heap.size (iqO (.slice a1 q.items.length c1) (.slice a2 l2 c2)) from hw1 ▸ (Hd.new W _).al _)
  have HG := Lib.hid (show Hd w1 (W.heap.size + 1) zqO from by
    have := Hd.new (W.alloc (iqO (.slice a1 q.items.length c1) (.slice a2 l2 c2))) zqO
    rw [hw1]; simpa using this)
  have BF := Lib.hid (show Below W.heap.size W w1 from hw1 ▸ ((Below.refl W.heap.size W).alloc (Nat.le_refl _) _).alloc (by simp) _)
  have HI := Lib.hid hi
  have HR := Lib.hid hr
  clear hi hr hb
  go_enter Try.func28, Try.ntmps28
  go_wp2_with fail
  rw [← hw1]
  clear hw1
  refine (HK.out _ (HB.out.trans (BF.out.mono hB)) (Nat.le_trans hB BF.out.size)).mono ?_
  rintro e w2 ⟨rfl, hb2⟩
  have HX2 := Lib.hid (HBX.out.blw hb2)
  have HG2 := Lib.hid (HG.out.blw hb2)
  have B2 := Lib.hid (below_chain BF.out hb2)
  have z2 := HG2.out.lt
  obtain ⟨m0, m1, -⟩ := HX2.out.two
  obtain ⟨p0, p1, pf⟩ := HG2.out.two
  clear hb2
  by_cases hC : C = 0
  · obtain ⟨hq, hn0, hn1⟩ := HZ.out hC
    have HY := Lib.hid (fun w' iv rv dv h4 h1 h2 hb => HYE.out w' iv rv dv hC h4 h1 h2 hb)
    subst hC
    obtain ⟨k, rfl⟩ := Int.eq_ofNat_of_zero_le hn0
    have hk : k ≤ q.items.length := by omega
    have hkc : (k : Int) ≤ (c1 : Int) := by omega
    have hsl := fun w => run_dropR w a1 q.items.length c1 k hk
    rw [Int.toNat_natCast] at HY
    have hs := quB_small hq
    have hlr := hs.r
    have HOW := Lib.hid (fun W' h1 h2 => ownS_any B w0 ⟨q.items.drop k, q.recent⟩ _ _ (HI.out.drop k hk) HR.out (by simp only [List.length_drop]; omega) (by show q.recent.length ≤ _; omega) W' h1 h2)
    have HID := Lib.hid (fun W' h1 h2 => idsS_any B w0 (q.items.take k) _ (HI.out.take k hk) (by simp; omega) W' h1 h2)
    generalize (if c1 = k then a1 else a1.map (fun x => x.add (k * 4))) = a1' at *
    generalize idsOf (q.items.take k) = ds at *
    generalize q.items.drop k = dr at *
    have HALL := Lib.hid (fun wx (hg : Gst (W.heap.size + 1) 37 w2 wx) =>
      And.intro (HX2.out.grown hg.1 (by simp)).two.1 (And.intro (HX2.out.grown hg.1 (by simp)).two.2.1 (And.intro hg.cells (And.intro hg (show w2.heap.size ≤ wx.heap.size from hg.1.size)))))
    have HST := Lib.hid (Gst.start HG2.out)
    have HBW := Lib.hid (fun wx (hg : Gst (W.heap.size + 1) 37 w2 wx) => And.intro (HB.out.trans ((hg.below B2.out (by omega)).mono hB)) (Nat.le_trans hB (hg.below B2.out (by omega)).size))
    have HFIN := Lib.hid (fun (wl : World) (i5 r5 dv : Value) (h4 : O4 wl w2.heap.size i5 dr) (h1 : O1 wl w2.heap.size r5 q.recent) (h2 : OI wl w2.heap.size dv ds) (hG : Gst (W.heap.size + 1) 37 w2 wl) =>
      And.intro (hG.row i5 r5) (HY.out (set2 wl (W.heap.size + 1) 0 i5 r5) i5 r5 dv (own_ch (far2 _ _) (own_base h4 (by omega)) (fun b e x => by have := (World.ownsRow.lt h4 b e).1; omega)) (own_ch (far2 _ _) (own_base h1 (by omega)) (fun b e x => by have := (World.ownsRow.lt h1 b e).1; omega)) (own_ch (far2 _ _) (own_base h2 (by omega)) (fun b e x => by have := (World.ownsRow.lt h2 b e).1; omega)) (hG.store.below B2.out (by omega))))
    clear HZ HYE HNO hq hs hn0 hn1 p0 p1 pf m0 m1 HI HR
    go_wp2_with fail
    go_region_held3 (fun wx => wx.cell? ⟨W.heap.size, 0, none⟩ = some (.slice a1 q.items.length c1) ∧ wx.cell? ⟨W.heap.size, 1, none⟩ = some (.slice a2 l2 c2) ∧
        (wx.cell? ⟨W.heap.size + 1, 0, none⟩ = some (cellOf wx (W.heap.size + 1) 0) ∧ wx.cell? ⟨W.heap.size + 1, 1, none⟩ = some (cellOf wx (W.heap.size + 1) 1) ∧ ∀ o, wx.frozen? ⟨W.heap.size + 1, o, none⟩ = false) ∧ Gst (W.heap.size + 1) 37 w2 wx ∧ w2.heap.size ≤ wx.heap.size)
      (first
        | exact HALL.out _ HST.out
        | (go_split_ands; exact HALL.out _ (Gst.call (by assumption) hbA))
        | (go_split_ands; exact HALL.out _ (Gst.call (by assumption) hbB))
        | (go_split_ands; exact HALL.out _ (Gst.store (by assumption))))
      (first
        | (go_split_ands; go_at_call 63; have hd := HBW.out _ (by assumption); refine (HOW.out _ hd.1 hd.2).mono ?_; clear hd; rintro e w6 ⟨i5, r5, rfl, h54, h51, hbA⟩; obtain ⟨a8, c8, rfl⟩ := h54.slice; obtain ⟨a9, c9, rfl⟩ := h51.slice
           have hGA := Gst.call (B := W.heap.size + 1) (wr := w2) (by assumption) hbA
           have h54 := O4.base (b := w2.heap.size) h54 (by assumption)
           have h51 := O1.base (b := w2.heap.size) h51 (by assumption)
           first | (have hdi := OI.below hdi hbA) | skip)
        | (go_split_ands; go_at_call 64; have hd := HBW.out _ (by assumption); refine (HID.out _ hd.1 hd.2).mono ?_; clear hd; rintro e w7 ⟨dv, rfl, hdi, hbB⟩; obtain ⟨a7, c7, rfl⟩ := hdi.slice
           have hGB := Gst.call (B := W.heap.size + 1) (wr := w2) (by assumption) hbB
           have hdi := OI.base (b := w2.heap.size) hdi (by assumption)
           first | (have h54 := O4.below h54 hbB; have h51 := O1.below h51 hbB) | skip))
    all_goals
      go_split_ands
      first
        | (have hF := Lib.hid (HFIN.out _ _ _ _ h54 h51 hdi hGB); go_wp2; exact bodyPost_ret (ret_S Try.results28 rfl rfl rfl hF.out.1) rfl hF.out.2)
        | (have hF := Lib.hid (HFIN.out _ _ _ _ h54 h51 hdi hGA); go_wp2; exact bodyPost_ret (ret_S Try.results28 rfl rfl rfl hF.out.1) rfl hF.out.2)
  · have HF := Lib.hid (And.intro ((HG2.out.set2 (.slice none 0 0) (.slice none 0 0)).al (.cells #[] 3)) (HNO.out ((set2 w2 (W.heap.size + 1) 0 (.slice none 0 0) (.slice none 0 0)).alloc (.cells #[] 3)) (.slice (some ⟨w2.heap.size, 0, none⟩) 0 0) hC (OI_mk (by rw [set2_size]) (by rw [set2_size]; exact B2.out.size)) (belI_alloc ((far2 _ _).below B2.out B2.out.size (fun b e => by omega)))))
    have hCb : (C != 0) = true := by simp [hC]
    clear HYE HZ HNO
    go_wp2
    exact bodyPost_ret (ret_S Try.results28 rfl rfl rfl HF.out.1) rfl HF.out.2
end Go.Proofs.Ytkdmlpclioeniaa.Qu
