
/-
  Missed: as plain functions; the program's.
-/
import Derived.Test.YtkdmlpclioeniaaQvC
namespace Go.Proofs.Ytkdmlpclioeniaa.Qu
open Go.RowKit
open Go.Proofs.Ytkdmlpclioeniaa.Tx
def bumpR (r : Rep) : Rep := ⟨r.id, r.born, r.tries + 1, r.body⟩
def msY (i n : Nat) (x : Rep) : Rep := if i < n then bumpR x else x
def msK : List Rep → Nat → Nat → List Rep
  | [], _, _ => []
  | x :: r, i, n => (if (msY i n x).tries = 4 then [] else [msY i n x]) ++ msK r (i + 1) n
def msI : List Rep → Nat → Nat → List Int
  | [], _, _ => []
  | x :: r, i, n => (if (msY i n x).tries = 4 then [x.id] else []) ++ msI r (i + 1) n
theorem msK_snoc : ∀ (xs : List Rep) (x : Rep) (i n : Nat), msK (xs ++ [x]) i n = msK xs i n ++ (if (msY (i + xs.length) n x).tries = 4 then [] else [msY (i + xs.length) n x])
  | [], x, i, n => by simp [msK]
  | y :: r, x, i, n => by
    simp only [List.cons_append, msK, msK_snoc r x (i + 1) n, List.length_cons, List.append_assoc]
    rw [show i + 1 + r.length = i + (r.length + 1) by omega]
theorem msI_snoc : ∀ (xs : List Rep) (x : Rep) (i n : Nat), msI (xs ++ [x]) i n = msI xs i n ++ (if (msY (i + xs.length) n x).tries = 4 then [x.id] else [])
  | [], x, i, n => by simp [msI]
  | y :: r, x, i, n => by
    simp only [List.cons_append, msI, msI_snoc r x (i + 1) n, List.length_cons, List.append_assoc]
    rw [show i + 1 + r.length = i + (r.length + 1) by omega]
theorem msK_at {xs : List Rep} {k : Nat} (n : Nat) (hk : k < xs.length) : msK (xs.take (k + 1)) 0 n = msK (xs.take k) 0 n ++ (if (msY k n (xs.getD k default)).tries = 4 then [] else [msY k n (xs.getD k default)]) := by
  rw [List.take_succ_eq_append_getElem hk, msK_snoc]
  have e : (xs.take k).length = k := by simp; omega
  rw [e, Nat.zero_add]
  simp [List.getD, hk]
theorem msI_at {xs : List Rep} {k : Nat} (n : Nat) (hk : k < xs.length) : msI (xs.take (k + 1)) 0 n = msI (xs.take k) 0 n ++ (if (msY k n (xs.getD k default)).tries = 4 then [(xs.getD k default).id] else []) := by
  rw [List.take_succ_eq_append_getElem hk, msI_snoc]
  have e : (xs.take k).length = k := by simp; omega
  rw [e, Nat.zero_add]
  simp [List.getD, hk]
theorem msK_len : ∀ (xs : List Rep) (i n : Nat), (msK xs i n).length ≤ xs.length
  | [], _, _ => by simp [msK]
  | x :: r, i, n => by
    have := msK_len r (i + 1) n
    simp only [msK, List.length_append, List.length_cons]
    split <;> simp <;> omega
theorem msI_len : ∀ (xs : List Rep) (i n : Nat), (msI xs i n).length ≤ xs.length
  | [], _, _ => by simp [msI]
  | x :: r, i, n => by
    have := msI_len r (i + 1) n
    simp only [msI, List.length_append, List.length_cons]
    split <;> simp <;> omega
/-- what holds of each report and of each that is counted up holds of those that stay -/
theorem msK_all (P : Rep → Prop) : ∀ (xs : List Rep) (i n : Nat), (∀ x ∈ xs, P x ∧ P (bumpR x)) → ∀ y ∈ msK xs i n, P y
  | [], _, _, _, y, hy => by simp [msK] at hy
  | x :: r, i, n, h, y, hy => by
    simp only [msK, List.mem_append] at hy
    rcases hy with hy | hy
    · split at hy
      · simp at hy
      · rw [List.mem_singleton.1 hy]
        have := h x (by simp)
        unfold msY
        split
        · exact this.2
        · exact this.1
    · exact msK_all P r (i + 1) n (fun x hx => h x (by simp [hx])) y hy
theorem getD_all {P : Rep → Prop} {xs : List Rep} (h : ∀ i, i < xs.length → P (xs.getD i default)) : ∀ x ∈ xs, P x := fun x hx => by
  obtain ⟨i, hi, rfl⟩ := List.mem_iff_getElem.1 hx
  have := h i hi
  simpa [List.getD, hi] using this
theorem all_getD {P : Rep → Prop} {xs : List Rep} (h : ∀ x ∈ xs, P x) : ∀ i, i < xs.length → P (xs.getD i default) := fun i hi => by
  have := h xs[i] (List.getElem_mem hi)
  simpa [List.getD, hi] using this
theorem ms_small {q : Q} (h : QSm q) (n : Nat) : QSm ⟨msK q.items 0 n, q.recent⟩ :=
  ⟨Nat.le_trans (msK_len _ _ _) h.i, h.r, all_getD (msK_all (fun r => r.body.length ≤ 1048576) _ _ _ fun x hx => ⟨getD_all (P := fun r => r.body.length ≤ 1048576) h.bi x hx, getD_all (P := fun r => r.body.length ≤ 1048576) h.bi x hx⟩), h.br⟩
theorem quB_tries {q : Q} (h : quB q = true) : ∀ i, i < q.items.length → 0 ≤ (q.items.getD i default).tries ∧ (q.items.getD i default).tries ≤ 3 := by
  unfold quB at h
  simp only [Bool.and_eq_true, decide_eq_true_eq] at h
  intro i hi
  have := itB_mem _ _ h.2.2.1 i hi
  unfold repB at this
  simp only [Bool.and_eq_true, decide_eq_true_eq] at this
  exact this.2.2.1
abbrev msC (q : Q) (n : Int) : Int := stC q n
def msR (q : Q) (n : Int) : Q := if stC q n = 0 then ⟨msK q.items 0 n.toNat, q.recent⟩ else ⟨[], []⟩
def msD (q : Q) (n : Int) : List Int := if stC q n = 0 then msI q.items 0 n.toNat else []
theorem newM_no {W w' : World} {q : Q} {n : Int} {dv : Value} (h : stC q n ≠ 0) (hd : OI w' W.heap.size dv []) (hb : Below W.heap.size W w') : NewS W (msR q n) (msD q n) (msC q n) (.returned (.tuple #[qV (.slice none 0 0) (.slice none 0 0), dv, .int .i64 (stC q n)])) w' := by
  unfold msR msD
  rw [if_neg h, if_neg h]
  exact ⟨_, _, _, rfl, O4.nil _ _, O1.nil _ _, hd, hb⟩
theorem newM_yes {W w' : World} {q : Q} {n : Int} {iv rv dv : Value} (h : stC q n = 0) (h4 : O4 w' W.heap.size iv (msK q.items 0 n.toNat)) (h1 : O1 w' W.heap.size rv q.recent) (hd : OI w' W.heap.size dv (msI q.items 0 n.toNat)) (hb : Below W.heap.size W w') : NewS W (msR q n) (msD q n) (msC q n) (.returned (.tuple #[qV iv rv, dv, .int .i64 0])) w' := by
  unfold msR msD
  rw [if_pos h, if_pos h, show msC q n = 0 from h]
  exact ⟨_, _, _, rfl, h4, h1, hd, hb⟩
set_option maxRecDepth 100000 in
set_option maxHeartbeats 8000000 in
theorem missedI_any (B : Nat) (w0 : World) (q : Q) (n : Int) (iv rv : Value) (hi : RpIn (· < B) w0 iv q.items) (hr : TxtsIn (· < B) w0 rv q.recent) (hn : q.items.length ≤ 1048576) (W : World) (hb : Below B w0 W) (hB : B ≤ W.heap.size) :
    Calls Try.prog 37 #[qV iv rv, .int .i64 n] W (NewS W (msR q n) (msD q n) (msC q n)) := by
  have HK := Lib.hid (fun W' h1 h2 => bcI_any B w0 q n iv rv hi hr hn W' h1 h2)
  have HOP := Lib.hid (fun (hs : QSm q) W' h1 h2 => openedQ_any B w0 q iv rv hi hr hs.i hs.r W' h1 h2)
  have HCL := Lib.hid (fun base ra ca rb cb (R : Q) (hs : QSm R) W' h => closed_any base ra ca rb cb R W' h hs.bi hs.br hs.i hs.r)
  have HNO := Lib.hid (fun (w' : World) (dv : Value) (h : stC q n ≠ 0) hd hb => newM_no (W := W) (w' := w') (q := q) (n := n) (dv := dv) h hd hb)
  have HZ := Lib.hid (fun h => stC_zero (q := q) (n := n) h)
  have HYE := Lib.hid (fun (w' : World) (iv rv dv : Value) (h : stC q n = 0) h4 h1 h2 hb => newM_yes (W := W) (w' := w') (q := q) (n := n) (iv := iv) (rv := rv) (dv := dv) h h4 h1 h2 hb)
  generalize NewS W (msR q n) (msD q n) (msC q n) = PST at *
  generalize stC q n = C at *
  obtain ⟨a1, c1, rfl⟩ := hi.slice2
  obtain ⟨a2, l2, c2, rfl⟩ := hr.slice
  have HB := Lib.hid hb
  obtain ⟨w1, hw1⟩ : ∃ w1, w1 = (W.alloc (iqO (.slice a1 q.items.length c1) (.slice a2 l2 c2))).alloc zqO := ⟨_, rfl⟩
  have HBX := Lib.hid (show Hd w1 W.heap.size (iqO (.slice a1 q.items.length c1) (.slice a2 l2 c2)) from hw1 ▸ (Hd.new W _).al _)
  have HG := Lib.hid (show Hd w1 (W.heap.size + 1) zqO from by
    have := Hd.new (W.alloc (iqO (.slice a1 q.items.length c1) (.slice a2 l2 c2))) zqO
    rw [hw1]; simpa using this)
  have BF := Lib.hid (show Below W.heap.size W w1 from hw1 ▸ ((Below.refl W.heap.size W).alloc (Nat.le_refl _) _).alloc (by simp) _)
  clear hi hr hb
  go_enter Try.func37, Try.ntmps37
  go_wp2_with fail
  rw [← hw1]
  clear hw1
  refine (HK.out _ (HB.out.trans (BF.out.mono hB)) (Nat.le_trans hB BF.out.size)).mono ?_
  rintro e w2 ⟨rfl, hb2⟩
  have HX2 := Lib.hid (HBX.out.blw hb2)
  have HG2 := Lib.hid (HG.out.blw hb2)
  have B2 := Lib.hid (below_chain BF.out hb2)
  obtain ⟨m0, m1, -⟩ := HX2.out.two
  obtain ⟨p0, p1, pf⟩ := HG2.out.two
  clear hb2
  by_cases hC : C = 0
  · obtain ⟨hq, hn0, hn1⟩ := HZ.out hC
    have hs := quB_small hq
    have HY := Lib.hid (fun w' iv rv dv h4 h1 h2 hb => HYE.out w' iv rv dv hC h4 h1 h2 hb)
    subst hC
    obtain ⟨k, rfl⟩ := Int.eq_ofNat_of_zero_le hn0
    have hk : k ≤ q.items.length := by omega
    rw [Int.toNat_natCast] at HY
    have HS := Lib.hid hs
    have HSD := Lib.hid (ms_small hs k)
    have HTR := Lib.hid (quB_tries hq)
    have hl5 := hs.i
    clear HZ HYE HNO hq hs hn0 hn1
    go_wp2_with fail
    refine (HOP.out HS.out _ (HB.out.trans (B2.out.mono hB)) (Nat.le_trans hB B2.out.size)).mono ?_
    rintro e w3 ⟨ra, ca, rb, cb, rfl, ho3, hb3⟩
    have L3 := ho3.lts
    have HG3 := Lib.hid (HG2.out.blw hb3)
    have B3 := Lib.hid (below_chain B2.out hb3)
    have y2 := HG2.out.lt
    have y23 := hb3.size
    have b1 := ho3.b1
    have b2 := ho3.b2
    have b3 := ho3.b3
    have b4 := ho3.b4
    have BA := (Below.refl w3.heap.size w3).alloc (Nat.le_refl _) (oO ra rb)
    have R3 := Lib.hid (show Rf w3 ra ca rb cb (q.items.drop 0 ++ msK (q.items.take 0) 0 k) q.recent (msI (q.items.take 0) 0 k) (.slice none 0 0) (w3.alloc (oO ra rb)) from
      ⟨Hd.new _ _, by rw [List.take_zero, List.drop_zero, msK, List.append_nil]; exact ho3.R.blw BA, ho3.T.blw BA, OI.nil _ _, Ch.of_below BA, L3, ho3.n1, ho3.n2, ho3.n3, ho3.n4⟩)
    have hx2 := (HX2.out.blw hb3)
    obtain ⟨m0, m1, -⟩ := hx2.two
    have zx2 := hx2.lt
    obtain ⟨i0, hi0, hz0, hz1, hz2⟩ := info_parts Try.infoInt
    clear hb3 ho3 p0 p1 pf BA hx2
    go_wp2
    go_loopw [9, 24] (fun v iv wr => ∃ i : Nat, i ≤ q.items.length ∧ iv = .int .i64 i ∧ Rf w3 ra ca rb cb (q.items.drop i ++ msK (q.items.take i) 0 k) q.recent (msI (q.items.take i) 0 k) v wr) (fun _ iv _ => q.items.length - (intOf iv).toNat)
    case atStart => exact ⟨0, by omega, rfl, R3.out⟩
    case round =>
      obtain ⟨i, hi, rfl, hR⟩ := hrel
      have HS := Lib.hid hR
      have hI := hR.I
      have K5 := Lib.hid (show (msK (q.items.take i) 0 k).length ≤ i ∧ (msI (q.items.take i) 0 k).length ≤ i from ⟨Nat.le_trans (msK_len _ _ _) (by simp; omega), Nat.le_trans (msI_len _ _ _) (by simp; omega)⟩)
      by_cases hlt : i < q.items.length
      · obtain ⟨m0, m1, mf⟩ := hR.H.two
        have hd : q.items.drop i = q.items.getD i default :: q.items.drop (i + 1) := by rw [List.drop_eq_getElem_cons hlt]; simp [List.getD, hlt]
        have EK := msK_at k hlt
        have EI := msI_at k hlt
        have htr := HTR.out i hlt
        have hdl : (q.items.drop (i + 1)).length ≤ 4 - i := by simp; omega
        rw [hd, List.cons_append] at hR
        have HRM := Lib.hid (removeR_any ra ca _ _ wr hR.R)
        have HS2 := Lib.hid hR
        have T4 := Lib.hid (show (q.items.drop (i + 1) ++ msK (q.items.take i) 0 k).length ≤ 4 by rw [List.length_append]; have := K5.out.1; omega)
        have A1 := Lib.hid (fun ys : List Rep => List.append_assoc (q.items.drop (i + 1)) (msK (q.items.take i) 0 k) ys)
        clear hR hd HS
        generalize q.items.getD i default = x at *
        generalize msI (q.items.take i) 0 k = ds at *
        generalize hks : msK (q.items.take i) 0 k = ks at *
        clear hks
        obtain ⟨t, ht⟩ : ∃ t, t = q.items.drop (i + 1) ++ ks := ⟨_, rfl⟩
        have HTT := Lib.hid ht.symm
        rw [← ht] at HRM HS2 T4
        clear ht
        obtain ⟨a5, c5, rfl⟩ := hI.slice
        obtain ⟨xi, xb, xn, xu⟩ := x
        simp only at htr
        have hfd := fun w => Try.fldRp0 (.int .i64 xi) (.int .i64 xb) (.int .i64 xn) (.string ⟨xu.toArray⟩) w
        have hw : IntKind.i64.wrap (xn + 1) = xn + 1 := IntWalk.i64_in _ (by omega)
        clear hI
        by_cases hin : i < k
        · have hy : msY i k ⟨xi, xb, xn, xu⟩ = ⟨xi, xb, xn + 1, xu⟩ := by unfold msY; rw [if_pos hin]; rfl
          rw [hy] at EK EI
          by_cases h4 : xn + 1 = 4
          · have E1 := Lib.hid (show msK (q.items.take (i + 1)) 0 k = ks by rw [EK, if_pos h4, List.append_nil])
            have E2 := Lib.hid (show msI (q.items.take (i + 1)) 0 k = ds ++ [xi] by rw [EI, if_pos h4])
            clear EK EI A1 hy
            go_wp2_with fail
            refine HRM.out.mono ?_
            rintro e w4 ⟨he, hR4, hm4⟩
            simp only [rV] at he
            subst he
            have H4 := Lib.hid (HS2.out.rem hR4 hm4)
            have HA := Lib.hid (H4.out.al (.cells #[.int .i64 xi, .int .i64 xb, .int .i64 4, .string ⟨xu.toArray⟩] 26))
            obtain ⟨g0, g1, -⟩ := H4.out.H.two
            have zw := H4.out.H.lt
            clear hR4 hm4 m0 m1 mf HRM HS2
            have HB2 := Lib.hid (HA.out.al (.cells #[.int .i64 xi] 3))
            have HNB := Lib.hid (World.news_of_block (B := w4.heap.size + 1) (show Hd ((w4.alloc (.cells #[.int .i64 xi, .int .i64 xb, .int .i64 4, .string ⟨xu.toArray⟩] 26)).alloc (.cells #[.int .i64 xi] 3)) (w4.heap.size + 1) (.cells #[.int .i64 xi] 3) from by have := Hd.new (w4.alloc (.cells #[.int .i64 xi, .int .i64 xb, .int .i64 4, .string ⟨xu.toArray⟩] 26)) (.cells #[.int .i64 xi] 3); simpa using this))
            go_wp2_with (at_builtin; refine wpList_append_own _ rfl _ _ 47 rfl (w3.heap.size + 1) 3 i0 (.int .i64 0) 1 8 Try.underlying47 hi0 hz0 hz1 hz2 rfl (by decide) _ _ _ rfl HB2.out.I ⟨w4.heap.size + 1, 0, none⟩ 1 1 [.int .i64 xi] rfl rfl HNB.out (one_int _) (by have := K5.out; unfold maxLen; omega) (by have := K5.out; omega) (by have := HB2.out.H.lt; omega) ?_; intro v' w5 hown' hgrow hplace; have HN := Lib.hid (HB2.out.app hgrow (E2.out ▸ OI.snoc hown')); obtain ⟨a7, c7, rfl⟩ := own_slice hown'; clear hown' hgrow hplace)
            go_roundw
            case rel => exact ⟨i + 1, by omega, by go_num, by rw [E1.out, HTT.out]; exact HN.out⟩
            case measure => simp [intOf]; omega
          · have E1 := Lib.hid (show msK (q.items.take (i + 1)) 0 k = ks ++ [⟨xi, xb, xn + 1, xu⟩] by rw [EK, if_neg h4])
            have E2 := Lib.hid (show msI (q.items.take (i + 1)) 0 k = ds by rw [EI, if_neg h4, List.append_nil])
            clear EK EI hy
            go_wp2_with fail
            refine HRM.out.mono ?_
            rintro e w4 ⟨he, hR4, hm4⟩
            simp only [rV] at he
            subst he
            have H4 := Lib.hid (HS2.out.rem hR4 hm4)
            have HA := Lib.hid (H4.out.al (.cells #[.int .i64 xi, .int .i64 xb, .int .i64 (xn + 1), .string ⟨xu.toArray⟩] 26))
            obtain ⟨g0, g1, -⟩ := H4.out.H.two
            have zw := H4.out.H.lt
            clear hR4 hm4 m0 m1 mf HRM HS2
            have HAD := Lib.hid (addR_any ra ca t ⟨xi, xb, xn + 1, xu⟩ _ HA.out.R)
            have HAQ := Lib.hid (show adR t ⟨xi, xb, xn + 1, xu⟩ = t ++ [⟨xi, xb, xn + 1, xu⟩] by unfold adR; rw [if_neg (by have := T4.out; omega)])
            go_wp2_with fail
            refine HAD.out.mono ?_
            rintro e w6 ⟨rfl, hR6, hm6⟩
            have H6 := Lib.hid (HA.out.rem hR6 hm6)
            clear hR6 hm6 g0 g1 HAD
            go_wp2
            go_roundw
            case rel => exact ⟨i + 1, by omega, by go_num, by rw [E1.out, E2.out, ← A1.out, HTT.out, ← HAQ.out]; exact H6.out⟩
            case measure => simp [intOf]; omega
        · have hy : msY i k ⟨xi, xb, xn, xu⟩ = ⟨xi, xb, xn, xu⟩ := by unfold msY; rw [if_neg hin]
          rw [hy] at EK EI
          by_cases h4 : xn = 4
          · omega
          · have E1 := Lib.hid (show msK (q.items.take (i + 1)) 0 k = ks ++ [⟨xi, xb, xn, xu⟩] by rw [EK, if_neg h4])
            have E2 := Lib.hid (show msI (q.items.take (i + 1)) 0 k = ds by rw [EI, if_neg h4, List.append_nil])
            clear EK EI hy
            go_wp2_with fail
            refine HRM.out.mono ?_
            rintro e w4 ⟨he, hR4, hm4⟩
            simp only [rV] at he
            subst he
            have H4 := Lib.hid (HS2.out.rem hR4 hm4)
            have HA := Lib.hid (H4.out.al (.cells #[.int .i64 xi, .int .i64 xb, .int .i64 (xn), .string ⟨xu.toArray⟩] 26))
            obtain ⟨g0, g1, -⟩ := H4.out.H.two
            have zw := H4.out.H.lt
            clear hR4 hm4 m0 m1 mf HRM HS2
            have HAD := Lib.hid (addR_any ra ca t ⟨xi, xb, xn, xu⟩ _ HA.out.R)
            have HAQ := Lib.hid (show adR t ⟨xi, xb, xn, xu⟩ = t ++ [⟨xi, xb, xn, xu⟩] by unfold adR; rw [if_neg (by have := T4.out; omega)])
            go_wp2_with fail
            refine HAD.out.mono ?_
            rintro e w6 ⟨rfl, hR6, hm6⟩
            have H6 := Lib.hid (HA.out.rem hR6 hm6)
            clear hR6 hm6 g0 g1 HAD
            go_wp2
            go_roundw
            case rel => exact ⟨i + 1, by omega, by go_num, by rw [E1.out, E2.out, ← A1.out, HTT.out, ← HAQ.out]; exact H6.out⟩
            case measure => simp [intOf]; omega
      · obtain rfl : i = q.items.length := by omega
        rw [List.take_length, List.drop_length, List.nil_append] at hR
        have HCC := Lib.hid (HCL.out w2.heap.size ra ca rb cb ⟨msK q.items 0 k, q.recent⟩ HSD.out wr ⟨hR.R, hR.T, b1, b2, b3, b4, hR.n1, hR.n2, hR.n3, hR.n4⟩)
        have HG4 := Lib.hid (hR.m.hd HG3.out (by omega))
        have B4 := Lib.hid (hR.m.below B3.out B3.out.size (fun b e => by omega))
        have hI4' := OI.base (b := W.heap.size + 2) hR.I (by omega)
        obtain ⟨n0, n1, -⟩ := hR.H.two
        have zr := hR.H.lt
        generalize msI q.items 0 k = ds at *
        generalize msK q.items 0 k = dr at *
        obtain ⟨a7, c7, rfl⟩ := hR.I.slice
        have I4 := Lib.hid hI4'
        clear hR hI4' HS R3 HTR
        go_wp2_with fail
        refine HCC.out.mono ?_
        rintro e w5 ⟨i5, r5, rfl, h54, h51, hb5⟩
        have HG5 := Lib.hid (HG4.out.blw hb5)
        have B5 := Lib.hid (below_chain B4.out hb5)
        have y4 : W.heap.size + 1 < wr.heap.size := HG4.out.lt
        have HF := Lib.hid (And.intro (HG5.out.set2 i5 r5) (HY.out (set2 w5 (W.heap.size + 1) 0 i5 r5) i5 r5 (.slice a7 ds.length c7) (own_ch (far2 _ _) (own_base h54 (by omega)) (fun b e x => by have := (World.ownsRow.lt h54 b e).1; omega)) (own_ch (far2 _ _) (own_base h51 (by omega)) (fun b e x => by have := (World.ownsRow.lt h51 b e).1; omega)) (own_ch (far2 _ _) (own_base (OI.below I4.out hb5) (by omega)) (fun b e x => by have := (World.ownsRow.lt I4.out b e).1; omega)) ((far2 _ _).below B5.out B5.out.size (fun b e => by omega))))
        obtain ⟨a8, c8, rfl⟩ := h54.slice
        obtain ⟨a9, c9, rfl⟩ := h51.slice
        obtain ⟨p0, p1, pf⟩ := HG5.out.two
        clear h54 h51 hb5 n0 n1
        go_wp2
        exact bodyPost_ret (ret_S Try.results37 rfl rfl rfl HF.out.1) rfl HF.out.2
  · have HF := Lib.hid (And.intro (HG2.out.set2 (.slice none 0 0) (.slice none 0 0)) (HNO.out (set2 w2 (W.heap.size + 1) 0 (.slice none 0 0) (.slice none 0 0)) (.slice none 0 0) hC (OI.nil _ _) ((far2 _ _).below B2.out B2.out.size (fun b e => by omega))))
    have hCb : (C != 0) = true := by simp [hC]
    clear HYE HZ HNO
    go_wp2
    exact bodyPost_ret (ret_S Try.results37 rfl rfl rfl HF.out.1) rfl HF.out.2
end Go.Proofs.Ytkdmlpclioeniaa.Qu
