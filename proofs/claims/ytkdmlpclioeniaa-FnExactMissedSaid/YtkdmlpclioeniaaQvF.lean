
/-
  Expire: as plain functions; the program's.
-/
import Derived.Test.YtkdmlpclioeniaaQvC
namespace Go.Proofs.Ytkdmlpclioeniaa.Qu
open Go.RowKit
open Go.Proofs.Ytkdmlpclioeniaa.Tx
def exP (now age : Int) (r : Rep) : Bool := decide (age < now - r.born)
def exN (q : Q) (now age : Int) : Nat := (q.items.takeWhile (exP now age)).length
def exG (now age : Int) : Prop := (0 ≤ now ∧ now ≤ 1000000) ∧ (1 ≤ age ∧ age ≤ 100)
instance (now age : Int) : Decidable (exG now age) := by unfold exG; infer_instance
def exC (q : Q) (now age : Int) : Int := if quB q then (if exG now age then 0 else 4) else 1
def exR (q : Q) (now age : Int) : Q := if exC q now age = 0 then ⟨q.items.drop (exN q now age), q.recent⟩ else ⟨[], []⟩
def exD (q : Q) (now age : Int) : List Int := if exC q now age = 0 then idsOf (q.items.take (exN q now age)) else []
theorem newE_no {W w' : World} {q : Q} {now age : Int} {dv : Value} {C : Int} (h : exC q now age = C) (hC : C ≠ 0) (hd : OI w' W.heap.size dv []) (hb : Below W.heap.size W w') : NewS W (exR q now age) (exD q now age) (exC q now age) (.returned (.tuple #[qV (.slice none 0 0) (.slice none 0 0), dv, .int .i64 C])) w' := by
  unfold exR exD
  rw [if_neg (by rw [h]; exact hC), if_neg (by rw [h]; exact hC), h]
  exact ⟨_, _, _, rfl, O4.nil _ _, O1.nil _ _, hd, hb⟩
theorem newE_1 {W w' : World} {q : Q} {now age : Int} {dv : Value} (h : quB q = false) (hd : OI w' W.heap.size dv []) (hb : Below W.heap.size W w') : NewS W (exR q now age) (exD q now age) (exC q now age) (.returned (.tuple #[qV (.slice none 0 0) (.slice none 0 0), dv, .int .i64 1])) w' :=
  newE_no (by unfold exC; rw [h]; rfl) (by decide) hd hb
theorem newE_4 {W w' : World} {q : Q} {now age : Int} {dv : Value} (h : quB q = true) (h2 : ¬ exG now age) (hd : OI w' W.heap.size dv []) (hb : Below W.heap.size W w') : NewS W (exR q now age) (exD q now age) (exC q now age) (.returned (.tuple #[qV (.slice none 0 0) (.slice none 0 0), dv, .int .i64 4])) w' :=
  newE_no (by unfold exC; rw [h, if_pos rfl, if_neg h2]) (by decide) hd hb
theorem newE_0 {W w' : World} {q : Q} {now age : Int} {iv rv dv : Value} {k : Nat} (h : quB q = true) (h2 : exG now age) (hk : exN q now age = k) (h4 : O4 w' W.heap.size iv (q.items.drop k)) (h1 : O1 w' W.heap.size rv q.recent) (hd : OI w' W.heap.size dv (idsOf (q.items.take k))) (hb : Below W.heap.size W w') : NewS W (exR q now age) (exD q now age) (exC q now age) (.returned (.tuple #[qV iv rv, dv, .int .i64 0])) w' := by
  have hC : exC q now age = 0 := by unfold exC; rw [h, if_pos rfl, if_pos h2]
  unfold exR exD
  rw [if_pos hC, if_pos hC, hC, hk]
  exact ⟨_, _, _, rfl, h4, h1, hd, hb⟩
theorem ageI_any (n : Int) (w : World) : Calls Try.prog 72 #[.int .i64 n] w fun e w' => e = .returned (.bool (decide (1 ≤ n ∧ n ≤ 100))) ∧ w = w' := by
  by_cases h1 : 1 ≤ n
  · by_cases h2 : n ≤ 100
    all_goals
      go_enter Try.func72, Try.ntmps72
      go_wp2
      go_ret
      exact ⟨ret_b (by simp; omega), rfl⟩
  · go_enter Try.func72, Try.ntmps72
    go_wp2
    go_ret
    exact ⟨ret_b (by simp; omega), rfl⟩
/-- k reports are old, and the next one is not, or there is none -/
theorem exN_at {q : Q} {now age : Int} {k : Nat} (hk : k ≤ q.items.length) (h : ∀ i, i < k → exP now age (q.items.getD i default) = true) (h2 : k < q.items.length → exP now age (q.items.getD k default) = false) : exN q now age = k := by
  unfold exN
  generalize q.items = xs at *
  induction xs generalizing k with
  | nil => simp at hk; simp [hk]
  | cons x xs ih =>
    cases k with
    | zero =>
      have := h2 (by simp)
      simp only [List.getD_cons_zero] at this
      simp [this]
    | succ k =>
      have h0 := h 0 (by omega)
      simp only [List.getD_cons_zero] at h0
      rw [List.takeWhile_cons, h0]
      simp only [if_true, List.length_cons]
      rw [ih (k := k) (by simpa using hk) (fun i hi => by have := h (i + 1) (by omega); simpa using this) (fun hi => by have := h2 (by simpa using hi); simpa using this)]
theorem itB_born : ∀ (xs pre : List Rep), itB pre xs = true → ∀ i, i < xs.length → 0 ≤ (xs.getD i default).born ∧ (xs.getD i default).born ≤ 1000000 := by
  intro xs pre h i hi
  have := itB_mem xs pre h i hi
  unfold repB at this
  simp only [Bool.and_eq_true, decide_eq_true_eq] at this
  exact this.2.1
theorem quB_born {q : Q} (h : quB q = true) : ∀ i, i < q.items.length → 0 ≤ (q.items.getD i default).born ∧ (q.items.getD i default).born ≤ 1000000 := by
  unfold quB at h
  simp only [Bool.and_eq_true, decide_eq_true_eq] at h
  exact itB_born _ _ h.2.2.1
set_option maxRecDepth 100000 in
set_option maxHeartbeats 4000000 in
theorem expireI_any (B : Nat) (w0 : World) (q : Q) (now age : Int) (iv rv : Value) (hi : RpIn (· < B) w0 iv q.items) (hr : TxtsIn (· < B) w0 rv q.recent) (W : World) (hb : Below B w0 W) (hB : B ≤ W.heap.size) :
    Calls Try.prog 35 #[qV iv rv, .int .i64 now, .int .i64 age] W (NewS W (exR q now age) (exD q now age) (exC q now age)) := by
  have HK := Lib.hid (fun W' h1 h2 => quI_any B w0 q iv rv hi hr W' h1 h2)
  have HOP := Lib.hid (fun (hs : QSm q) W' h1 h2 => openedQ_any B w0 q iv rv hi hr hs.i hs.r W' h1 h2)
  have HRM := Lib.hid (fun base ra ca rb cb k W' h h1 h2 => removeFirst_any base ra ca rb cb q k W' h h1 h2)
  have HCL := Lib.hid (fun base ra ca rb cb (R : Q) (hs : QSm R) W' h => closed_any base ra ca rb cb R W' h hs.bi hs.br hs.i hs.r)
  have H1 := Lib.hid (fun (w' : World) (dv : Value) h hd hb => newE_1 (W := W) (w' := w') (q := q) (now := now) (age := age) (dv := dv) h hd hb)
  have H4 := Lib.hid (fun (w' : World) (dv : Value) h h2 hd hb => newE_4 (W := W) (w' := w') (q := q) (now := now) (age := age) (dv := dv) h h2 hd hb)
  have H0 := Lib.hid (fun (w' : World) (iv rv dv : Value) (k : Nat) h h2 hk h4 h1 hd hb => newE_0 (W := W) (w' := w') (q := q) (now := now) (age := age) (iv := iv) (rv := rv) (dv := dv) (k := k) h h2 hk h4 h1 hd hb)
  generalize NewS W (exR q now age) (exD q now age) (exC q now age) = PST at *
  obtain ⟨a1, c1, rfl⟩ := hi.slice2
  obtain ⟨a2, l2, c2, rfl⟩ := hr.slice
  have HB := Lib.hid hb
  have HI := Lib.hid hi
  obtain ⟨w1, hw1⟩ : ∃ w1, w1 = (W.alloc (iqO (.slice a1 q.items.length c1) (.slice a2 l2 c2))).alloc zqO := ⟨_, rfl⟩
  have HBX := Lib.hid (show Hd w1 W.heap.size (iqO (.slice a1 q.items.length c1) (.slice a2 l2 c2)) from hw1 ▸ (Hd.new W _).al _)
  have HG := Lib.hid (show Hd w1 (W.heap.size + 1) zqO from by
    have := Hd.new (W.alloc (iqO (.slice a1 q.items.length c1) (.slice a2 l2 c2))) zqO
    rw [hw1]; simpa using this)
  have BF := Lib.hid (show Below W.heap.size W w1 from hw1 ▸ ((Below.refl W.heap.size W).alloc (Nat.le_refl _) _).alloc (by simp) _)
  clear hi hr hb
  go_enter Try.func35, Try.ntmps35
  go_wp2_with fail
  rw [← hw1]
  clear hw1
  refine (HK.out _ (HB.out.trans (BF.out.mono hB)) (Nat.le_trans hB BF.out.size)).mono ?_
  rintro e w2 ⟨rfl, hb2⟩
  have HX2 := Lib.hid (HBX.out.blw hb2)
  have HG2 := Lib.hid (HG.out.blw hb2)
  have B2 := Lib.hid (below_chain BF.out hb2)
  obtain ⟨m0, m1, -⟩ := HX2.out.two
  obtain ⟨p0, p1, pf⟩ := HG2.out.two
  have HRES := Lib.hid (HG2.out.set2 (.slice none 0 0) (.slice none 0 0))
  have HBS := Lib.hid ((far2 (w := w2) (B := W.heap.size + 1) (.slice none 0 0) (.slice none 0 0)).below B2.out B2.out.size (fun b e => by omega))
  clear hb2
  by_cases hq : quB q = true
  · rw [hq]
    by_cases hnow : 0 ≤ now ∧ now ≤ 1000000
    · have HN := Lib.hid (show Calls Try.prog 42 #[.int .i64 now] w2 fun e w' => e = .returned (.bool true) ∧ w2 = w' from by have := nowI_any now w2; rw [decide_eq_true hnow] at this; exact this)
      by_cases hage : 1 ≤ age ∧ age ≤ 100
      · have HA := Lib.hid (show Calls Try.prog 72 #[.int .i64 age] w2 fun e w' => e = .returned (.bool true) ∧ w2 = w' from by have := ageI_any age w2; rw [decide_eq_true hage] at this; exact this)
        have hs := quB_small hq
        have HBO := Lib.hid (quB_born hq)
        have HY := Lib.hid (fun w' iv rv dv k hk h4 h1 h2 hb => H0.out w' iv rv dv k hq ⟨hnow, hage⟩ hk h4 h1 h2 hb)
        have HS := Lib.hid hs
        clear H1 H4 H0 hq HRES HBS
        go_wp2_with (first
          | (go_at_call 42; refine HN.out.mono ?_; rintro e _ ⟨rfl, rfl⟩)
          | (go_at_call 72; refine HA.out.mono ?_; rintro e _ ⟨rfl, rfl⟩))
        go_loopw [9] (fun iv wr => ∃ k : Nat, k ≤ q.items.length ∧ iv = .int .i64 k ∧ wr = w2 ∧ ∀ i, i < k → exP now age (q.items.getD i default) = true) (fun iv _ => q.items.length - (intOf iv).toNat)
        case atStart => exact ⟨0, by omega, rfl, rfl, fun i hi => by omega⟩
        case round =>
          obtain ⟨k, hk, rfl, rfl, hP⟩ := hrel
          by_cases hlt : k < q.items.length
          · obtain ⟨a, cap, b, off, e, e7, hcm, -, h4', h5'⟩ := HI.out.blw (HB.out.trans (B2.out.mono hB))
            injection e with e1 e2 e3
            subst e3
            obtain ⟨rfl, -⟩ := h4' (by omega)
            subst e1
            obtain ⟨-, q1, -, -⟩ := h5' k hlt
            have hbo := HBO.out k hlt
            have HPK := Lib.hid (show exP now age (q.items.getD k default) = decide (age < now - (q.items.getD k default).born) from rfl)
            have HEX := Lib.hid (fun (h : exP now age (q.items.getD k default) = false) => exN_at (q := q) (now := now) (age := age) (k := k) hk hP (fun _ => h))
            have HNX := Lib.hid (fun (h : exP now age (q.items.getD k default) = true) => show ∀ i, i < k + 1 → exP now age (q.items.getD i default) = true from fun i hi => by
              by_cases e : i = k
              · rw [e]; exact h
              · exact hP i (by omega))
            clear h4' h5' hP e2 HI HBO
            generalize q.items.getD k default = x at *
            have hw : IntKind.i64.wrap (now - x.born) = now - x.born := IntWalk.i64_in _ (by omega)
            by_cases hp : age < now - x.born
            · have HN2 := Lib.hid (HNX.out (by rw [HPK.out]; exact decide_eq_true hp))
              clear HEX HNX
              go_wp2
              go_roundw
              case rel => exact ⟨k + 1, by omega, by go_num, by simp, HN2.out⟩
              case measure => simp [intOf]; omega
            · have HE := Lib.hid (HEX.out (by rw [HPK.out]; exact decide_eq_false hp))
              clear HEX HNX
              have HSD := Lib.hid (HS.out.drop k)
              have HYK := Lib.hid (fun w' iv rv dv h4 h1 h2 hb => HY.out w' iv rv dv k HE.out h4 h1 h2 hb)
              go_wp2_with fail
              refine (HOP.out HS.out _ (HB.out.trans (B2.out.mono hB)) (Nat.le_trans hB B2.out.size)).mono ?_
              rintro e w3 ⟨ra, ca, rb, cb, rfl, ho3, hb3⟩
              have O3 := Lib.hid ho3
              have L3 := Lib.hid ho3.lts
              have HG3 := Lib.hid (HG2.out.blw hb3)
              have B3 := Lib.hid (below_chain B2.out hb3)
              have y2 := HG2.out.lt
              have y23 := hb3.size
              clear hb3 ho3 m0 m1 p0 p1 pf
              have O4' := Lib.hid (O3.out.al (oO ra rb))
              go_wp2_with fail
              refine (HRM.out _ ra ca rb cb k _ O4'.out hk HS.out.i).mono ?_
              rintro e w4 ⟨v, rfl, hI4, hO4, hm4⟩
              have b1 := O3.out.b1
              have b2 := O3.out.b2
              have HG4 := Lib.hid (hm4.hd (HG3.out.al (oO ra rb)) (by omega))
              have HO8 := Lib.hid (hm4.hd (Hd.new w3 (oO ra rb)) (by have := L3.out; omega))
              have B4 := Lib.hid (hm4.below (belI_alloc B3.out) (Nat.le_trans B3.out.size (by simp)) (fun b e => by omega))
              have y3 : W.heap.size ≤ w3.heap.size := B3.out.size
              have hI4' := OI.base (b := W.heap.size + 2) hI4 (by simp; omega)
              have HCC := Lib.hid (HCL.out _ ra ca rb cb ⟨q.items.drop k, q.recent⟩ HSD.out _ hO4)
              obtain ⟨n0, n1, -⟩ := HO8.out.two
              generalize idsOf (q.items.take k) = ds at *
              generalize q.items.drop k = dr at *
              obtain ⟨a7, c7, rfl⟩ := hI4.slice
              have I4 := Lib.hid hI4'
              clear hI4 hI4' hO4 hm4
              go_wp2_with fail
              refine HCC.out.mono ?_
              rintro e w5 ⟨i5, r5, rfl, h54, h51, hb5⟩
              have HG5 := Lib.hid (HG4.out.blw hb5)
              have B5 := Lib.hid (below_chain B4.out hb5)
              have y4 : W.heap.size + 1 < w4.heap.size := HG4.out.lt
              have HF := Lib.hid (And.intro (HG5.out.set2 i5 r5) (HYK.out (set2 w5 (W.heap.size + 1) 0 i5 r5) i5 r5 (.slice a7 ds.length c7) (own_ch (far2 _ _) (own_base h54 (by omega)) (fun b e x => by have := (World.ownsRow.lt h54 b e).1; omega)) (own_ch (far2 _ _) (own_base h51 (by omega)) (fun b e x => by have := (World.ownsRow.lt h51 b e).1; omega)) (own_ch (far2 _ _) (own_base (OI.below I4.out hb5) (by omega)) (fun b e x => by have := (World.ownsRow.lt I4.out b e).1; omega)) ((far2 _ _).below B5.out B5.out.size (fun b e => by omega))))
              obtain ⟨a8, c8, rfl⟩ := h54.slice
              obtain ⟨a9, c9, rfl⟩ := h51.slice
              obtain ⟨p0, p1, pf⟩ := HG5.out.two
              clear h54 h51 hb5 n0 n1
              go_wp2
              exact bodyPost_ret (ret_S Try.results35 rfl rfl rfl HF.out.1) rfl HF.out.2
          · have HE := Lib.hid (exN_at (q := q) (now := now) (age := age) hk hP (fun h => absurd h hlt))
            have HSD := Lib.hid (HS.out.drop k)
            have HYK := Lib.hid (fun w' iv rv dv h4 h1 h2 hb => HY.out w' iv rv dv k HE.out h4 h1 h2 hb)
            have hlt' : ¬ ((k : Int) < (q.items.length : Int)) := by omega
            clear hP HI HBO
            go_wp2_with fail
            refine (HOP.out HS.out _ (HB.out.trans (B2.out.mono hB)) (Nat.le_trans hB B2.out.size)).mono ?_
            rintro e w3 ⟨ra, ca, rb, cb, rfl, ho3, hb3⟩
            have O3 := Lib.hid ho3
            have L3 := Lib.hid ho3.lts
            have HG3 := Lib.hid (HG2.out.blw hb3)
            have B3 := Lib.hid (below_chain B2.out hb3)
            have y2 := HG2.out.lt
            have y23 := hb3.size
            clear hb3 ho3 m0 m1 p0 p1 pf
            have O4' := Lib.hid (O3.out.al (oO ra rb))
            go_wp2_with fail
            refine (HRM.out _ ra ca rb cb k _ O4'.out hk HS.out.i).mono ?_
            rintro e w4 ⟨v, rfl, hI4, hO4, hm4⟩
            have b1 := O3.out.b1
            have b2 := O3.out.b2
            have HG4 := Lib.hid (hm4.hd (HG3.out.al (oO ra rb)) (by omega))
            have HO8 := Lib.hid (hm4.hd (Hd.new w3 (oO ra rb)) (by have := L3.out; omega))
            have B4 := Lib.hid (hm4.below (belI_alloc B3.out) (Nat.le_trans B3.out.size (by simp)) (fun b e => by omega))
            have y3 : W.heap.size ≤ w3.heap.size := B3.out.size
            have hI4' := OI.base (b := W.heap.size + 2) hI4 (by simp; omega)
            have HCC := Lib.hid (HCL.out _ ra ca rb cb ⟨q.items.drop k, q.recent⟩ HSD.out _ hO4)
            obtain ⟨n0, n1, -⟩ := HO8.out.two
            generalize idsOf (q.items.take k) = ds at *
            generalize q.items.drop k = dr at *
            obtain ⟨a7, c7, rfl⟩ := hI4.slice
            have I4 := Lib.hid hI4'
            clear hI4 hI4' hO4 hm4
            go_wp2_with fail
            refine HCC.out.mono ?_
            rintro e w5 ⟨i5, r5, rfl, h54, h51, hb5⟩
            have HG5 := Lib.hid (HG4.out.blw hb5)
            have B5 := Lib.hid (below_chain B4.out hb5)
            have y4 : W.heap.size + 1 < w4.heap.size := HG4.out.lt
            have HF := Lib.hid (And.intro (HG5.out.set2 i5 r5) (HYK.out (set2 w5 (W.heap.size + 1) 0 i5 r5) i5 r5 (.slice a7 ds.length c7) (own_ch (far2 _ _) (own_base h54 (by omega)) (fun b e x => by have := (World.ownsRow.lt h54 b e).1; omega)) (own_ch (far2 _ _) (own_base h51 (by omega)) (fun b e x => by have := (World.ownsRow.lt h51 b e).1; omega)) (own_ch (far2 _ _) (own_base (OI.below I4.out hb5) (by omega)) (fun b e x => by have := (World.ownsRow.lt I4.out b e).1; omega)) ((far2 _ _).below B5.out B5.out.size (fun b e => by omega))))
            obtain ⟨a8, c8, rfl⟩ := h54.slice
            obtain ⟨a9, c9, rfl⟩ := h51.slice
            obtain ⟨p0, p1, pf⟩ := HG5.out.two
            clear h54 h51 hb5 n0 n1
            go_wp2
            exact bodyPost_ret (ret_S Try.results35 rfl rfl rfl HF.out.1) rfl HF.out.2
      · have HA := Lib.hid (show Calls Try.prog 72 #[.int .i64 age] w2 fun e w' => e = .returned (.bool false) ∧ w2 = w' from by have := ageI_any age w2; rw [decide_eq_false hage] at this; exact this)
        have HF := Lib.hid (H4.out _ (.slice none 0 0) hq (fun h => hage h.2) (OI.nil _ _) HBS.out)
        clear H1 H4 H0 hq
        go_wp2_with (first
          | (go_at_call 42; refine HN.out.mono ?_; rintro e _ ⟨rfl, rfl⟩)
          | (go_at_call 72; refine HA.out.mono ?_; rintro e _ ⟨rfl, rfl⟩))
        exact bodyPost_ret (ret_S Try.results35 rfl rfl rfl HRES.out) rfl HF.out
    · have HN := Lib.hid (show Calls Try.prog 42 #[.int .i64 now] w2 fun e w' => e = .returned (.bool false) ∧ w2 = w' from by have := nowI_any now w2; rw [decide_eq_false hnow] at this; exact this)
      have HF := Lib.hid (H4.out _ (.slice none 0 0) hq (fun h => hnow h.1) (OI.nil _ _) HBS.out)
      clear H1 H4 H0 hq
      go_wp2_with (first
        | (go_at_call 42; refine HN.out.mono ?_; rintro e _ ⟨rfl, rfl⟩))
      exact bodyPost_ret (ret_S Try.results35 rfl rfl rfl HRES.out) rfl HF.out
  · have hq2 : quB q = false := by simpa using hq
    have HF := Lib.hid (H1.out _ (.slice none 0 0) hq2 (OI.nil _ _) HBS.out)
    rw [hq2]
    clear H1 H4 H0 hq hq2
    go_wp2
    exact bodyPost_ret (ret_S Try.results35 rfl rfl rfl HRES.out) rfl HF.out
end Go.Proofs.Ytkdmlpclioeniaa.Qu
