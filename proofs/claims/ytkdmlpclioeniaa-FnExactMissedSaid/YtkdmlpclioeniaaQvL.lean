
/-
  Missed, the model's.
-/
import Derived.Test.YtkdmlpclioeniaaQvK
import Derived.Test.YtkdmlpclioeniaaQvH
namespace Go.Proofs.Ytkdmlpclioeniaa.Qu
open Go.RowKit
open Go.Proofs.Ytkdmlpclioeniaa.Tx
theorem ms_fit {q : Q} (h : quB q = true) (hf : ∀ i, i < q.items.length → Fit (q.items.getD i default)) (n : Nat) : ∀ i, i < (msK q.items 0 n).length → Fit ((msK q.items 0 n).getD i default) := by
  have ht := quB_tries h
  have h2 : ∀ i, i < q.items.length → Fit (q.items.getD i default) ∧ Fit (bumpR (q.items.getD i default)) := fun i hi => by
    have h3 := hf i hi
    have h4 := ht i hi
    refine ⟨h3, ?_⟩
    generalize q.items.getD i default = x at *
    exact ⟨h3.a0, h3.a1, h3.b0, h3.b1, by show _ ≤ x.tries + 1; omega, by show x.tries + 1 ≤ _; omega, h3.m⟩
  exact all_getD (msK_all Fit _ _ _ (getD_all (P := fun x => Fit x ∧ Fit (bumpR x)) h2))
set_option maxRecDepth 100000 in
set_option maxHeartbeats 4000000 in
theorem lMissed_any (B : Nat) (w0 : World) (q : Q) (k : Nat) (iv rv : Value) (hi : RpIn (· < B) w0 iv q.items) (hr : TxtsIn (· < B) w0 rv q.recent) (hq : quB q = true) (_ : k ≤ 1048576) (W : World) (hb : Below B w0 W) (hB : B ≤ W.heap.size) :
    Calls Try.prog 73 #[qV iv rv, .int .i64 (k : Int)] W (NewX W rv (msK q.items 0 k) (msI q.items 0 k)) := by
  have HTR := Lib.hid (quB_tries hq)
  have hl5 := (quB_small hq).i
  obtain ⟨a1, c1, rfl⟩ := hi.slice2
  obtain ⟨a2, l2, c2, rfl⟩ := hr.slice
  have HI := Lib.hid (hi.blw hb)
  obtain ⟨w1, hw1⟩ : ∃ w1, w1 = (W.alloc (iqO (.slice a1 q.items.length c1) (.slice a2 l2 c2))).alloc zqO := ⟨_, rfl⟩
  have HBX := Lib.hid (show Hd w1 W.heap.size (iqO (.slice a1 q.items.length c1) (.slice a2 l2 c2)) from hw1 ▸ (Hd.new W _).al _)
  have HG := Lib.hid (show Hd w1 (W.heap.size + 1) zqO from by
    have := Hd.new (W.alloc (iqO (.slice a1 q.items.length c1) (.slice a2 l2 c2))) zqO
    rw [hw1]; simpa using this)
  have BF := Lib.hid (show Below W.heap.size W w1 from hw1 ▸ ((Below.refl W.heap.size W).alloc (Nat.le_refl _) _).alloc (by simp) _)
  have hw1s : w1.heap.size = W.heap.size + 2 := by rw [hw1]; simp
  obtain ⟨x1, hx1⟩ : ∃ x1, x1 = (w1.alloc (.cells #[] 3)).alloc (.cells #[] 26) := ⟨_, rfl⟩
  have HS1 := Lib.hid (show ExS W (iqO (.slice a1 q.items.length c1) (.slice a2 l2 c2)) (msK (q.items.take 0) 0 k) (msI (q.items.take 0) 0 k) (.slice (some ⟨W.heap.size + 2, 0, none⟩) 0 0) (.slice (some ⟨W.heap.size + 2 + 1, 0, none⟩) 0 0) x1 from by
    rw [hx1]
    exact ⟨(HBX.out.al _).al _, (HG.out.al _).al _, own_al (hw1s ▸ OI_made w1 : OI (w1.alloc (.cells #[] 3)) (W.heap.size + 2) (.slice (some ⟨W.heap.size + 2, 0, none⟩) 0 0) []) _, O4_mk (by simp [hw1s]) (by simp [hw1s]), belI_alloc (belI_alloc BF.out)⟩)
  obtain ⟨i0, hi0, hz0, hz1, hz2⟩ := info_parts Try.infoRp
  obtain ⟨j0, hj0, hy0, hy1, hy2⟩ := info_parts Try.infoInt
  have HFIN := Lib.hid (fun (w' : World) (vi vd : Value) (h4 : O4 w' W.heap.size vi (msK q.items 0 k)) (hI : OI w' W.heap.size vd (msI q.items 0 k)) (hb : Below W.heap.size W w') => show NewX W (.slice a2 l2 c2) (msK q.items 0 k) (msI q.items 0 k) (.returned (.tuple #[qV vi (.slice a2 l2 c2), vd])) w' from ⟨vi, vd, rfl, h4, hI, hb⟩)
  generalize NewX W (.slice a2 l2 c2) (msK q.items 0 k) (msI q.items 0 k) = PST at *
  clear hi hr hb hq
  go_enter Try.func73, Try.ntmps73
  go_wp2
  rw [← hw1, ← hx1]
  clear hx1 hw1 hw1s HBX HG BF
  go_loopw [6, 7, 8] (fun vd vi iv wr => ∃ i : Nat, i ≤ q.items.length ∧ iv = .int .i64 i ∧ ExS W (iqO (.slice a1 q.items.length c1) (.slice a2 l2 c2)) (msK (q.items.take i) 0 k) (msI (q.items.take i) 0 k) vd vi wr) (fun _ _ iv _ => q.items.length - (intOf iv).toNat)
  case atStart => exact ⟨0, by omega, rfl, HS1.out⟩
  case round =>
    obtain ⟨i, hi, rfl, hS⟩ := hrel
    have HS := Lib.hid hS
    obtain ⟨m0, m1, -⟩ := hS.H.two
    by_cases hlt : i < q.items.length
    · obtain ⟨a, cap, b, off, e, e7, hcm, -, h4', h5'⟩ := HI.out.blw (hS.b.mono hB)
      injection e with e1 e2 e3
      subst e3
      obtain ⟨rfl, -⟩ := h4' (by omega)
      subst e1
      obtain ⟨q0, q1, q2, q3⟩ := h5' i hlt
      have EK := msK_at k hlt
      have EI := msI_at k hlt
      have htr := HTR.out i hlt
      have K5 := Lib.hid (show (msK (q.items.take i) 0 k).length ≤ 5 ∧ (msI (q.items.take i) 0 k).length ≤ 5 from ⟨Nat.le_trans (msK_len _ _ _) (by simp; omega), Nat.le_trans (msI_len _ _ _) (by simp; omega)⟩)
      clear h4' h5' e2
      generalize q.items.getD i default = x at *
      generalize msK (q.items.take i) 0 k = ks at *
      generalize msI (q.items.take i) 0 k = ds at *
      obtain ⟨a5, c5, rfl⟩ := hS.I.slice
      obtain ⟨a6, c6, rfl⟩ := hS.R.slice
      obtain ⟨xi, xb, xn, xu⟩ := x
      simp only at htr q0 q1 q2 q3
      have hw : IntKind.i64.wrap (xn + 1) = xn + 1 := IntWalk.i64_in _ (by omega)
      by_cases hin : i < k
      · have hy : msY i k ⟨xi, xb, xn, xu⟩ = ⟨xi, xb, xn + 1, xu⟩ := by unfold msY; rw [if_pos hin]; rfl
        rw [hy] at EK EI
        by_cases h4 : xn + 1 = 4
        · have E1 := Lib.hid (show msK (q.items.take (i + 1)) 0 k = ks by rw [EK, if_pos h4, List.append_nil])
          have E2 := Lib.hid (show msI (q.items.take (i + 1)) 0 k = ds ++ [xi] by rw [EI, if_pos h4])
          have HA := Lib.hid (HS.out.al (.cells #[.int .i64 xi, .int .i64 xb, .int .i64 4, .string ⟨xu.toArray⟩] 26))
          have HB2 := Lib.hid (HA.out.al (.cells #[.int .i64 xi] 3))
          have HNB := Lib.hid (World.news_of_block (B := wr.heap.size + 1) (show Hd ((wr.alloc (.cells #[.int .i64 xi, .int .i64 xb, .int .i64 4, .string ⟨xu.toArray⟩] 26)).alloc (.cells #[.int .i64 xi] 3)) (wr.heap.size + 1) (.cells #[.int .i64 xi] 3) from by have := Hd.new (wr.alloc (.cells #[.int .i64 xi, .int .i64 xb, .int .i64 4, .string ⟨xu.toArray⟩] 26)) (.cells #[.int .i64 xi] 3); simpa using this))
          clear hS EK EI hy
          go_wp2_with (at_builtin; refine wpList_append_own _ rfl _ _ 47 rfl (W.heap.size + 2) 3 j0 (.int .i64 0) 1 8 Try.underlying47 hj0 hy0 hy1 hy2 rfl (by decide) _ _ _ rfl HB2.out.I ⟨wr.heap.size + 1, 0, none⟩ 1 1 [.int .i64 xi] rfl rfl HNB.out (one_int _) (by have := K5.out; unfold maxLen; omega) (by have := K5.out; omega) (by have := HB2.out.Z.lt; omega) ?_; intro v' w4 hown' hgrow hplace; have HN := Lib.hid (HB2.out.appI hgrow (E2.out ▸ OI.snoc hown')); obtain ⟨a7, c7, rfl⟩ := own_slice hown'; clear hown' hgrow hplace)
          go_roundw
          case rel => exact ⟨i + 1, by omega, by go_num, by rw [E1.out]; exact HN.out⟩
          case measure => simp [intOf]; omega
        · have E1 := Lib.hid (show msK (q.items.take (i + 1)) 0 k = ks ++ [⟨xi, xb, xn + 1, xu⟩] by rw [EK, if_neg h4])
          have E2 := Lib.hid (show msI (q.items.take (i + 1)) 0 k = ds by rw [EI, if_neg h4, List.append_nil])
          have HA := Lib.hid (HS.out.al (.cells #[.int .i64 xi, .int .i64 xb, .int .i64 (xn + 1), .string ⟨xu.toArray⟩] 26))
          have HB2 := Lib.hid (HA.out.al (.cells #[.int .i64 xi, .int .i64 xb, .int .i64 (xn + 1), .string ⟨xu.toArray⟩] 26))
          have HNB := Lib.hid (World.news_of_block (B := wr.heap.size + 1) (show Hd ((wr.alloc (.cells #[.int .i64 xi, .int .i64 xb, .int .i64 (xn + 1), .string ⟨xu.toArray⟩] 26)).alloc (.cells #[.int .i64 xi, .int .i64 xb, .int .i64 (xn + 1), .string ⟨xu.toArray⟩] 26)) (wr.heap.size + 1) (.cells #[.int .i64 xi, .int .i64 xb, .int .i64 (xn + 1), .string ⟨xu.toArray⟩] 26) from by have := Hd.new (wr.alloc (.cells #[.int .i64 xi, .int .i64 xb, .int .i64 (xn + 1), .string ⟨xu.toArray⟩] 26)) (.cells #[.int .i64 xi, .int .i64 xb, .int .i64 (xn + 1), .string ⟨xu.toArray⟩] 26); simpa using this))
          clear hS EK EI hy
          go_wp2_with (at_builtin; refine wpList_append_own _ rfl _ _ 35 rfl (W.heap.size + 2) 26 i0 _ 4 40 Try.underlying35 hi0 hz0 hz1 hz2 rfl (by decide) _ _ _ rfl HB2.out.R ⟨wr.heap.size + 1, 0, none⟩ 1 1 [.int .i64 xi, .int .i64 xb, .int .i64 (xn + 1), .string ⟨xu.toArray⟩] rfl rfl HNB.out (one_rep _ _ _ _) (by have := K5.out; unfold maxLen; omega) (by have := K5.out; omega) (by have := HB2.out.Z.lt; omega) ?_; intro v' w4 hown' hgrow hplace; have HN := Lib.hid (HB2.out.appR hgrow (E1.out ▸ O4.snoc (x := ⟨xi, xb, xn + 1, xu⟩) hown')); obtain ⟨a7, c7, rfl⟩ := own_slice hown'; clear hown' hgrow hplace)
          go_roundw
          case rel => exact ⟨i + 1, by omega, by go_num, by rw [E2.out]; exact HN.out⟩
          case measure => simp [intOf]; omega
      · have hy : msY i k ⟨xi, xb, xn, xu⟩ = ⟨xi, xb, xn, xu⟩ := by unfold msY; rw [if_neg hin]
        rw [hy] at EK EI
        by_cases h4 : xn = 4
        · omega
        · have E1 := Lib.hid (show msK (q.items.take (i + 1)) 0 k = ks ++ [⟨xi, xb, xn, xu⟩] by rw [EK, if_neg h4])
          have E2 := Lib.hid (show msI (q.items.take (i + 1)) 0 k = ds by rw [EI, if_neg h4, List.append_nil])
          have HA := Lib.hid (HS.out.al (.cells #[.int .i64 xi, .int .i64 xb, .int .i64 (xn), .string ⟨xu.toArray⟩] 26))
          have HB2 := Lib.hid (HA.out.al (.cells #[.int .i64 xi, .int .i64 xb, .int .i64 (xn), .string ⟨xu.toArray⟩] 26))
          have HNB := Lib.hid (World.news_of_block (B := wr.heap.size + 1) (show Hd ((wr.alloc (.cells #[.int .i64 xi, .int .i64 xb, .int .i64 (xn), .string ⟨xu.toArray⟩] 26)).alloc (.cells #[.int .i64 xi, .int .i64 xb, .int .i64 (xn), .string ⟨xu.toArray⟩] 26)) (wr.heap.size + 1) (.cells #[.int .i64 xi, .int .i64 xb, .int .i64 (xn), .string ⟨xu.toArray⟩] 26) from by have := Hd.new (wr.alloc (.cells #[.int .i64 xi, .int .i64 xb, .int .i64 (xn), .string ⟨xu.toArray⟩] 26)) (.cells #[.int .i64 xi, .int .i64 xb, .int .i64 (xn), .string ⟨xu.toArray⟩] 26); simpa using this))
          clear hS EK EI hy
          go_wp2_with (at_builtin; refine wpList_append_own _ rfl _ _ 35 rfl (W.heap.size + 2) 26 i0 _ 4 40 Try.underlying35 hi0 hz0 hz1 hz2 rfl (by decide) _ _ _ rfl HB2.out.R ⟨wr.heap.size + 1, 0, none⟩ 1 1 [.int .i64 xi, .int .i64 xb, .int .i64 (xn), .string ⟨xu.toArray⟩] rfl rfl HNB.out (one_rep _ _ _ _) (by have := K5.out; unfold maxLen; omega) (by have := K5.out; omega) (by have := HB2.out.Z.lt; omega) ?_; intro v' w4 hown' hgrow hplace; have HN := Lib.hid (HB2.out.appR hgrow (E1.out ▸ O4.snoc (x := ⟨xi, xb, xn, xu⟩) hown')); obtain ⟨a7, c7, rfl⟩ := own_slice hown'; clear hown' hgrow hplace)
          go_roundw
          case rel => exact ⟨i + 1, by omega, by go_num, by rw [E2.out]; exact HN.out⟩
          case measure => simp [intOf]; omega
    · obtain rfl : i = q.items.length := by omega
      rw [List.take_length] at hS HS
      generalize msK q.items 0 k = xs at *
      generalize msI q.items 0 k = ds at *
      obtain ⟨a5, c5, rfl⟩ := hS.I.slice
      obtain ⟨a6, c6, rfl⟩ := hS.R.slice
      have hz := hS.Z.lt
      obtain ⟨p0, p1, pf⟩ := hS.Z.two
      have HF := Lib.hid (And.intro (hS.Z.set2 (.slice a6 xs.length c6) (.slice a2 l2 c2)) (HFIN.out (set2 wr (W.heap.size + 1) 0 (.slice a6 xs.length c6) (.slice a2 l2 c2)) (.slice a6 xs.length c6) (.slice a5 ds.length c5)
        (own_ch (far2 _ _) (own_base hS.R (by omega)) (fun b e x => by have := (World.ownsRow.lt hS.R b e).1; omega)) (own_ch (far2 _ _) (own_base hS.I (by omega)) (fun b e x => by have := (World.ownsRow.lt hS.I b e).1; omega)) ((far2 _ _).below hS.b hS.b.size (fun b e => by omega))))
      clear hS
      go_wp2
      exact bodyPost_ret (ret_X Try.results73 rfl rfl HF.out.1) rfl HF.out.2
set_option maxRecDepth 100000 in
set_option maxHeartbeats 4000000 in
theorem missedS_any (B : Nat) (w0 : World) (q : Q) (n : Int) (iv rv : Value) (hi : RpIn (· < B) w0 iv q.items) (hr : TxtsIn (· < B) w0 rv q.recent) (hn : q.items.length ≤ 1048576) (W : World) (hb : Below B w0 W) (hB : B ≤ W.heap.size) :
    Calls Try.prog 36 #[qV iv rv, .int .i64 n] W (NewS W (msR q n) (msD q n) (msC q n)) := by
  have HK := Lib.hid (fun W' h1 h2 => askS_any B w0 q n iv rv hi hr hn W' h1 h2)
  have HNO := Lib.hid (fun (w' : World) (dv : Value) (h : stC q n ≠ 0) hd hb => newM_no (W := W) (w' := w') (q := q) (n := n) (dv := dv) h hd hb)
  have HZ := Lib.hid (fun h => stC_zero (q := q) (n := n) h)
  have HYE := Lib.hid (fun (w' : World) (iv rv dv : Value) (h : stC q n = 0) h4 h1 h2 hb => newM_yes (W := W) (w' := w') (q := q) (n := n) (iv := iv) (rv := rv) (dv := dv) h h4 h1 h2 hb)
  generalize NewS W (msR q n) (msD q n) (msC q n) = PST at *
  generalize stC q n = C at *
  obtain ⟨a1, c1, rfl⟩ := hi.slice2
  have hcap : q.items.length ≤ c1 ∧ c1 ≤ 9223372036854775807 := by obtain ⟨_, cap, _, _, e, h1, h2, _⟩ := hi; injection e with e1 e2 e3; subst e3; exact ⟨h1, h2⟩
  obtain ⟨a2, l2, c2, rfl⟩ := hr.slice
  have HB := Lib.hid hb
  obtain ⟨w1, hw1⟩ : ∃ w1, w1 = (W.alloc (iqO (.slice a1 q.items.length c1) (.slice a2 l2 c2))).alloc zqO := ⟨_, rfl⟩
  have HBX := Lib.hid (show Hd w1 W.heap.size (iqO (.slice a1 q.items.length c1) (.slice a2 l2 c2)) from hw1 ▸ (Hd.new W _).al _)
  have HG := Lib.hid (show Hd w1 (W.heap.size + 1) zqO from by
    have := Hd.new (W.alloc (iqO (.slice a1 q.items.length c1) (.slice a2 l2 c2))) zqO
    rw [hw1]; simpa using this)
  have BF := Lib.hid (show Below W.heap.size W w1 from hw1 ▸ ((Below.refl W.heap.size W).alloc (Nat.le_refl _) _).alloc (by simp) _)
  have HI := Lib.hid hi
  have HR := Lib.hid hr
  clear hi hr hb
  go_enter Try.func36, Try.ntmps36
  go_wp2_with fail
  rw [← hw1]
  clear hw1
  refine (HK.out _ (HB.out.trans (BF.out.mono hB)) (Nat.le_trans hB BF.out.size)).mono ?_
  rintro e w2 ⟨rfl, hb2⟩
  have HX2 := Lib.hid (HBX.out.blw hb2)
  have HG2 := Lib.hid (HG.out.blw hb2)
  have B2 := Lib.hid (below_chain BF.out hb2)
  have z2 := HG2.out.lt
  obtain ⟨m0, m1, -⟩ := HX2.out.two
  obtain ⟨p0, p1, pf⟩ := HG2.out.two
  clear hb2
  by_cases hC : C = 0
  · obtain ⟨hq, hn0, hn1⟩ := HZ.out hC
    have HY := Lib.hid (fun w' iv rv dv h4 h1 h2 hb => HYE.out w' iv rv dv hC h4 h1 h2 hb)
    subst hC
    obtain ⟨k, rfl⟩ := Int.eq_ofNat_of_zero_le hn0
    rw [Int.toNat_natCast] at HY
    have hs := quB_small hq
    have HLX := Lib.hid (fun W' h1 h2 => lMissed_any B w0 q k _ _ HI.out HR.out hq (by have := hs.i; omega) W' h1 h2)
    have HFD := Lib.hid (ms_fit hq HI.out.fit k)
    have hdl : (msK q.items 0 k).length ≤ 1048576 := by have := hs.i; have := msK_len q.items 0 k; omega
    have hrl : q.recent.length ≤ 1048576 := by have := hs.r; omega
    generalize msK q.items 0 k = dr at *
    generalize msI q.items 0 k = ds at *
    clear HZ HYE HNO hq hs hn0 hn1
    go_wp2_with fail
    refine (HLX.out _ (HB.out.trans (B2.out.mono hB)) (Nat.le_trans hB B2.out.size)).mono ?_
    rintro e w3 ⟨vi, vd, rfl, h4, hI, hb3⟩
    have B3 := below_chain B2.out hb3
    obtain ⟨x3, hx3⟩ : ∃ x3, x3 = w3.alloc (iqO vi (.slice a2 l2 c2)) := ⟨_, rfl⟩
    have BX := Lib.hid (show Below W.heap.size W x3 from hx3 ▸ belI_alloc B3)
    have HG3 := Lib.hid (show Hd x3 (W.heap.size + 1) zqO from hx3 ▸ (HG2.out.blw hb3).al _)
    have I3 := Lib.hid (OI.base (b := W.heap.size + 2) (show OI x3 _ vd ds from hx3 ▸ own_al hI _) (by omega))
    have HOW := Lib.hid (ownS_any x3.heap.size x3 ⟨dr, q.recent⟩ vi (.slice a2 l2 c2) ((O4.rp (show O4 x3 _ vi dr from hx3 ▸ own_al h4 _) HFD.out).mono fun _ hb => hb.2) ((HR.out.blw (HB.out.trans (BX.out.mono hB))).mono fun b hb => Nat.lt_of_lt_of_le hb (Nat.le_trans hB BX.out.size)) hdl hrl x3 (Below.refl _ _) (Nat.le_refl _))
    have yx : W.heap.size + 1 < x3.heap.size := HG3.out.lt
    obtain ⟨a5, c5, rfl⟩ := h4.slice
    obtain ⟨a6, c6, rfl⟩ := hI.slice
    clear h4 hI hb3 B3 m0 m1 p0 p1 pf
    go_wp2_with fail
    rw [← hx3]
    clear hx3
    refine HOW.out.mono ?_
    rintro e w5 ⟨i5, r5, rfl, h54, h51, hb5⟩
    have HG5 := Lib.hid (HG3.out.blw hb5)
    have B5 := Lib.hid (below_chain BX.out hb5)
    have HF := Lib.hid (And.intro (HG5.out.set2 i5 r5) (HY.out (set2 w5 (W.heap.size + 1) 0 i5 r5) i5 r5 (.slice a6 ds.length c6) (own_ch (far2 _ _) (own_base h54 (by omega)) (fun b e x => by have := (World.ownsRow.lt h54 b e).1; omega)) (own_ch (far2 _ _) (own_base h51 (by omega)) (fun b e x => by have := (World.ownsRow.lt h51 b e).1; omega)) (own_ch (far2 _ _) (own_base (OI.below I3.out hb5) (by omega)) (fun b e x => by have := (World.ownsRow.lt I3.out b e).1; omega)) ((far2 _ _).below B5.out B5.out.size (fun b e => by omega))))
    obtain ⟨a8, c8, rfl⟩ := h54.slice
    obtain ⟨a9, c9, rfl⟩ := h51.slice
    obtain ⟨p0, p1, pf⟩ := HG5.out.two
    clear h54 h51 hb5
    go_wp2
    exact bodyPost_ret (ret_S Try.results36 rfl rfl rfl HF.out.1) rfl HF.out.2
  · have HF := Lib.hid (And.intro ((HG2.out.set2 (.slice none 0 0) (.slice none 0 0)).al (.cells #[] 3)) (HNO.out ((set2 w2 (W.heap.size + 1) 0 (.slice none 0 0) (.slice none 0 0)).alloc (.cells #[] 3)) (.slice (some ⟨w2.heap.size, 0, none⟩) 0 0) hC (OI_mk (by rw [set2_size]) (by rw [set2_size]; exact B2.out.size)) (belI_alloc ((far2 _ _).below B2.out B2.out.size (fun b e => by omega)))))
    have hCb : (C != 0) = true := by simp [hC]
    clear HYE HZ HNO
    go_wp2
    exact bodyPost_ret (ret_S Try.results36 rfl rfl rfl HF.out.1) rfl HF.out.2
end Go.Proofs.Ytkdmlpclioeniaa.Qu
