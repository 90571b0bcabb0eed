
/-
  Offer, the model's, from the contract of its l06Offer.
-/
import Derived.Test.YtakiigddbdapaaaQvO
import Derived.Test.YtakiigddbdapaaaQvH
import Derived.BigQuiet
namespace Go.Proofs.Ytakiigddbdapaaa.Qu
open Go.RowKit
open Go.Proofs.Ytakiigddbdapaaa.Tx
def loR (q : Q) (r : Rep) : Q := if q.recent.contains r.body = true then q else ⟨adR q.items r, adT q.recent r.body⟩
def loB (q : Q) (r : Rep) : Bool := if q.recent.contains r.body = true then false else true
def loE (q : Q) (r : Rep) : Int := if q.recent.contains r.body = true then 0 else (olR q.items).id
def NewL (W : World) (R : Q) (b : Bool) (E : Int) (e : Ending) (w' : World) : Prop := ∃ vi vr, e = .returned (.tuple #[qV vi vr, .bool b, .int .i64 E]) ∧ RpIn (· < w'.heap.size) w' vi R.items ∧ TxtsIn (· < w'.heap.size) w' vr R.recent ∧ Below W.heap.size W w'
theorem newF_lo {W w' : World} {q : Q} {r : Rep} {iv rv : Value} (h : ofG q r = true) (h2 : folB q.items r = true) (h4 : O4 w' W.heap.size iv (loR q r).items) (h1 : O1 w' W.heap.size rv (loR q r).recent) (hb : Below W.heap.size W w') : NewF W (ofR q r) (ofB q r) (ofE q r) (ofC q r) (.returned (.tuple #[qV iv rv, .bool (loB q r), .int .i64 (loE q r), .int .i64 0])) w' := by
  have e1 : ofR q r = loR q r := by unfold ofR loR; rw [h, h2]; rfl
  have e2 : ofB q r = loB q r := by unfold ofB loB; rw [h, h2]; rfl
  have e3 : ofE q r = loE q r := by unfold ofE loE; rw [h, h2]; rfl
  have e4 : ofC q r = 0 := by unfold ofC; rw [h, h2]; rfl
  rw [e1, e2, e3, e4]
  exact ⟨_, _, rfl, h4, h1, hb⟩
theorem loR_small {q : Q} {r : Rep} (h : QSm q) (hr : repB r = true) : QSm (loR q r) := by
  unfold loR
  split
  · exact h
  · exact h.add hr
theorem fol_nil {xs : List Rep} (r : Rep) (h : xs.length = 0) : folB xs r = true := by unfold folB; rw [decide_eq_true h]; rfl
theorem fol_at {xs : List Rep} (r : Rep) {p : Nat} (h : xs.length = p + 1) : folB xs r = (decide ((xs.getD p default).id < r.id) && decide ((xs.getD p default).born ≤ r.born)) := by
  unfold folB
  rw [decide_eq_false (by omega), Bool.false_or, show xs.length - 1 = p by omega]
set_option maxRecDepth 100000 in
set_option maxHeartbeats 4000000 in
theorem offerS_of (q : Q) (r : Rep) (HLO0 : ∀ (B : Nat) (w0 : World) (iv rv : Value), RpIn (· < B) w0 iv q.items → TxtsIn (· < B) w0 rv q.recent → QSm q → ∀ W : World, Below B w0 W → B ≤ W.heap.size → Calls Try.prog 22 #[qV iv rv, rV r] W (NewL W (loR q r) (loB q r) (loE q r)))
    (B : Nat) (w0 : World) (iv rv : Value) (hi : RpIn (· < B) w0 iv q.items) (hr : TxtsIn (· < B) w0 rv q.recent) (hf : Fit r) (W : World) (hb : Below B w0 W) (hB : B ≤ W.heap.size) :
    Calls Try.prog 9 #[qV iv rv, rV r] W (NewF W (ofR q r) (ofB q r) (ofE q r) (ofC q r)) := by
  have HK := Lib.hid (fun W' h1 h2 => quS_any B w0 q iv rv hi hr W' h1 h2)
  have HKR := Lib.hid (fun W' => repS_any r hf W')
  have HLO := Lib.hid (fun hs W' h1 h2 => HLO0 B w0 iv rv hi hr hs W' h1 h2)
  have HOW := Lib.hid (fun (hs : QSm q) W' h1 h2 => ownS_any B w0 q iv rv hi hr (Nat.le_trans hs.i (by omega)) (Nat.le_trans hs.r (by omega)) W' h1 h2)
  have HOW2 := Lib.hid (fun (hs : QSm (loR q r)) (x : World) (v u : Value) (h1 : RpIn (· < x.heap.size) x v (loR q r).items) (h2 : TxtsIn (· < x.heap.size) x u (loR q r).recent) => ownS_any x.heap.size x (loR q r) v u h1 h2 (Nat.le_trans hs.i (by omega)) (Nat.le_trans hs.r (by omega)) x (Below.refl _ _) (Nat.le_refl _))
  have HBAD := Lib.hid (fun (w' : World) h hb => newF_bad (W := W) (w' := w') (q := q) (r := r) h hb)
  have HORD := Lib.hid (fun (w' : World) (iv rv : Value) h h2 h4 h1 hb => newF_ord (W := W) (w' := w') (q := q) (r := r) (iv := iv) (rv := rv) h h2 h4 h1 hb)
  have HLOF := Lib.hid (fun (w' : World) (iv rv : Value) h h2 h4 h1 hb => newF_lo (W := W) (w' := w') (q := q) (r := r) (iv := iv) (rv := rv) h h2 h4 h1 hb)
  have HGG := Lib.hid (show ofG q r = (quB q && repB r) from rfl)
  generalize NewF W (ofR q r) (ofB q r) (ofE q r) (ofC q r) = PST at *
  obtain ⟨a1, c1, rfl⟩ := hi.slice2
  obtain ⟨a2, l2, c2, rfl⟩ := hr.slice
  have HB := Lib.hid hb
  have HI := Lib.hid hi
  obtain ⟨w1, hw1⟩ : ∃ w1, w1 = ((W.alloc (iqO (.slice a1 q.items.length c1) (.slice a2 l2 c2))).alloc (.cells (rC r) 38)).alloc zqO := ⟨_, rfl⟩
  have HBX := Lib.hid (show Hd w1 W.heap.size (iqO (.slice a1 q.items.length c1) (.slice a2 l2 c2)) from hw1 ▸ alloc3_0 W _ _ _)
  have HBR := Lib.hid (show Hd w1 (W.heap.size + 1) (.cells (rC r) 38) from hw1 ▸ alloc3_1 W _ _ _)
  have HG := Lib.hid (show Hd w1 (W.heap.size + 2) zqO from hw1 ▸ alloc3_2 W _ _ _)
  have BF := Lib.hid (show Below W.heap.size W w1 from hw1 ▸ (((Below.refl W.heap.size W).alloc (Nat.le_refl _) _).alloc (by simp) _).alloc (by simp; omega) _)
  clear hi hr hb HLO0
  go_enter Try.func9, Try.ntmps9
  go_wp2_with fail
  rw [← hw1]
  clear hw1
  refine (HK.out _ (HB.out.trans (BF.out.mono hB)) (Nat.le_trans hB BF.out.size)).mono ?_
  rintro e wa ⟨rfl, hba⟩
  have HXa := Lib.hid (HBX.out.blw hba)
  have HRa := Lib.hid (HBR.out.blw hba)
  have HGa := Lib.hid (HG.out.blw hba)
  have Ba := Lib.hid (below_chain BF.out hba)
  clear hba HK
  by_cases hq : quB q = true
  · rw [hq]
    obtain ⟨m0, m1, -⟩ := HXa.out.two
    obtain ⟨s0, s1, s2, s3, -⟩ := HRa.out.four
    go_wp2_with fail
    refine (HKR.out _).mono ?_
    rintro e w2 ⟨rfl, hb2⟩
    have HX2 := Lib.hid (HXa.out.blw hb2)
    have HR2 := Lib.hid (HRa.out.blw hb2)
    have HG2 := Lib.hid (HGa.out.blw hb2)
    have B2 := Lib.hid (below_chain Ba.out hb2)
    have z2 := HG2.out.lt
    clear hb2 m0 m1 s0 s1 s2 s3
    by_cases hrp : repB r = true
    · rw [hrp]
      have hg : ofG q r = true := by rw [HGG.out, hq, hrp]; rfl
      have HS := Lib.hid (quB_small hq)
      have HSL := Lib.hid (loR_small (r := r) (quB_small hq) hrp)
      have h5 := (quB_small hq).i
      obtain ⟨m0, m1, -⟩ := HX2.out.two
      obtain ⟨s0, s1, s2, s3, -⟩ := HR2.out.four
      clear HBAD HGG hq hrp HKR
      go_wp2_with fail
      by_cases hn : q.items.length = 0
      · have hfo := fol_nil r hn
        have hn0 : ¬ (0 < (q.items.length : Int)) := by omega
        go_quiet (fail)
        clear hn hn0
        have HXx := Lib.hid (show Hd (w2.drewN nq) W.heap.size (iqO (.slice _ q.items.length c1) (.slice a2 l2 c2)) from HX2.out)
        have HRx := Lib.hid (show Hd (w2.drewN nq) (W.heap.size + 1) (.cells (rC r) 38) from HR2.out)
        have HGx := Lib.hid (show Hd (w2.drewN nq) (W.heap.size + 2) zqO from HG2.out)
        have Bx := Lib.hid (belDrew B2.out nq)
        generalize w2.drewN nq = x2 at *
        clear m0 m1 s0 s1 s2 s3
        obtain ⟨m0, m1, -⟩ := HXx.out.two
        obtain ⟨s0, s1, s2, s3, -⟩ := HRx.out.four
        have zx2 := HGx.out.lt
        go_wp2_with fail
        refine (HLO.out HS.out _ (HB.out.trans (Bx.out.mono hB)) (Nat.le_trans hB Bx.out.size)).mono ?_
        rintro e w3 ⟨vi, vr, rfl, hvi, hvr, hb3⟩
        obtain ⟨x3, hx3⟩ : ∃ x3, x3 = w3.alloc (iqO vi vr) := ⟨_, rfl⟩
        have B3x := Lib.hid (show Below W.heap.size W x3 from hx3 ▸ belI_alloc (below_chain Bx.out hb3))
        have HG3 := Lib.hid (show Hd x3 (W.heap.size + 2) zqO from hx3 ▸ (HGx.out.blw hb3).al _)
        have BXX := (Below.refl w3.heap.size w3).alloc (Nat.le_refl _) (iqO vi vr)
        have HO3 := Lib.hid (HOW2.out HSL.out x3 vi vr (hx3 ▸ hvi.later (fun _ h => h) BXX) (hx3 ▸ hvr.later (fun _ h => h) BXX))
        obtain ⟨a5, l5, c5, rfl⟩ := hvi.slice
        obtain ⟨a6, l6, c6, rfl⟩ := hvr.slice
        clear hvi hvr hb3 BXX m0 m1 s0 s1 s2 s3
        go_wp2_with fail
        rw [← hx3]
        clear hx3
        refine HO3.out.mono ?_
        rintro e w5 ⟨i5, r5, rfl, h54, h51, hb5⟩
        have B5 := Lib.hid (below_chain B3x.out hb5)
        have y4 := HG3.out.lt
        have HG5 := Lib.hid (HG3.out.blw hb5)
        have HF := Lib.hid (And.intro (HG5.out.set2 i5 r5) (HLOF.out (set2 w5 (W.heap.size + 2) 0 i5 r5) i5 r5 hg hfo (own_ch (far2 _ _) (own_base h54 (by omega)) (fun b e x => by have := (World.ownsRow.lt h54 b e).1; omega)) (own_ch (far2 _ _) (own_base h51 (by omega)) (fun b e x => by have := (World.ownsRow.lt h51 b e).1; omega)) ((far2 _ _).below B5.out B5.out.size (fun b e => by omega))))
        obtain ⟨a8, c8, rfl⟩ := h54.slice
        obtain ⟨a9, c9, rfl⟩ := h51.slice
        obtain ⟨p0, p1, pf⟩ := HG5.out.two
        clear h54 h51 hb5
        go_wp2
        exact bodyPost_ret (ret_F Try.results9 rfl rfl rfl rfl HF.out.1) rfl HF.out.2
      · obtain ⟨p, hp⟩ : ∃ p, q.items.length = p + 1 := ⟨q.items.length - 1, by omega⟩
        have hfo0 := fol_at r hp
        obtain ⟨a, cap, b, off, e, e7, hcm, -, h4', h5'⟩ := HI.out.blw (HB.out.trans (B2.out.mono hB))
        injection e with e1 e2 e3
        subst e3
        obtain ⟨rfl, -⟩ := h4' (by omega)
        subst e1
        obtain ⟨q0, q1, -, -⟩ := h5' p (by omega)
        have hw : IntKind.i64.wrap ((q.items.length : Int) - 1) = (p : Int) := by rw [show (q.items.length : Int) - 1 = (p : Int) by omega]; exact IntWalk.i64_in _ (by omega)
        have hn0 : 0 < (q.items.length : Int) := by omega
        have hnp : 0 < q.items.length := by omega
        have hpl : (p : Int) < (q.items.length : Int) := by omega
        clear h4' h5' e2 hp hn
        generalize q.items.getD p default = l at *
        by_cases h1 : l.id < r.id
        · have h1' : ¬ (r.id ≤ l.id) := by omega
          have h1b : decide (r.id ≤ l.id) = false := decide_eq_false h1'
          by_cases h2 : l.born ≤ r.born
          · have h2' : ¬ (r.born < l.born) := by omega
            have h2b : decide (r.born < l.born) = false := decide_eq_false h2'
            have hfo : folB q.items r = true := by rw [hfo0, decide_eq_true h1, decide_eq_true h2]; rfl
            clear hfo0
            go_quiet (fail)
            have HXx := Lib.hid (show Hd (w2.drewN nq) W.heap.size (iqO (.slice _ q.items.length c1) (.slice a2 l2 c2)) from HX2.out)
            have HRx := Lib.hid (show Hd (w2.drewN nq) (W.heap.size + 1) (.cells (rC r) 38) from HR2.out)
            have HGx := Lib.hid (show Hd (w2.drewN nq) (W.heap.size + 2) zqO from HG2.out)
            have Bx := Lib.hid (belDrew B2.out nq)
            generalize w2.drewN nq = x2 at *
            clear m0 m1 s0 s1 s2 s3
            obtain ⟨m0, m1, -⟩ := HXx.out.two
            obtain ⟨s0, s1, s2, s3, -⟩ := HRx.out.four
            have zx2 := HGx.out.lt
            go_wp2_with fail
            refine (HLO.out HS.out _ (HB.out.trans (Bx.out.mono hB)) (Nat.le_trans hB Bx.out.size)).mono ?_
            rintro e w3 ⟨vi, vr, rfl, hvi, hvr, hb3⟩
            obtain ⟨x3, hx3⟩ : ∃ x3, x3 = w3.alloc (iqO vi vr) := ⟨_, rfl⟩
            have B3x := Lib.hid (show Below W.heap.size W x3 from hx3 ▸ belI_alloc (below_chain Bx.out hb3))
            have HG3 := Lib.hid (show Hd x3 (W.heap.size + 2) zqO from hx3 ▸ (HGx.out.blw hb3).al _)
            have BXX := (Below.refl w3.heap.size w3).alloc (Nat.le_refl _) (iqO vi vr)
            have HO3 := Lib.hid (HOW2.out HSL.out x3 vi vr (hx3 ▸ hvi.later (fun _ h => h) BXX) (hx3 ▸ hvr.later (fun _ h => h) BXX))
            obtain ⟨a5, l5, c5, rfl⟩ := hvi.slice
            obtain ⟨a6, l6, c6, rfl⟩ := hvr.slice
            clear hvi hvr hb3 BXX m0 m1 s0 s1 s2 s3
            go_wp2_with fail
            rw [← hx3]
            clear hx3
            refine HO3.out.mono ?_
            rintro e w5 ⟨i5, r5, rfl, h54, h51, hb5⟩
            have B5 := Lib.hid (below_chain B3x.out hb5)
            have y4 := HG3.out.lt
            have HG5 := Lib.hid (HG3.out.blw hb5)
            have HF := Lib.hid (And.intro (HG5.out.set2 i5 r5) (HLOF.out (set2 w5 (W.heap.size + 2) 0 i5 r5) i5 r5 hg hfo (own_ch (far2 _ _) (own_base h54 (by omega)) (fun b e x => by have := (World.ownsRow.lt h54 b e).1; omega)) (own_ch (far2 _ _) (own_base h51 (by omega)) (fun b e x => by have := (World.ownsRow.lt h51 b e).1; omega)) ((far2 _ _).below B5.out B5.out.size (fun b e => by omega))))
            obtain ⟨a8, c8, rfl⟩ := h54.slice
            obtain ⟨a9, c9, rfl⟩ := h51.slice
            obtain ⟨p0, p1, pf⟩ := HG5.out.two
            clear h54 h51 hb5
            go_wp2
            exact bodyPost_ret (ret_F Try.results9 rfl rfl rfl rfl HF.out.1) rfl HF.out.2
          · have h2' : r.born < l.born := by omega
            have h2b : decide (r.born < l.born) = true := decide_eq_true h2'
            have hfo : folB q.items r = false := by rw [hfo0, decide_eq_false h2, Bool.and_false]
            clear hfo0
            go_quiet (fail)
            have HXx := Lib.hid (show Hd (w2.drewN nq) W.heap.size (iqO (.slice _ q.items.length c1) (.slice a2 l2 c2)) from HX2.out)
            have HRx := Lib.hid (show Hd (w2.drewN nq) (W.heap.size + 1) (.cells (rC r) 38) from HR2.out)
            have HGx := Lib.hid (show Hd (w2.drewN nq) (W.heap.size + 2) zqO from HG2.out)
            have Bx := Lib.hid (belDrew B2.out nq)
            generalize w2.drewN nq = x2 at *
            clear m0 m1 s0 s1 s2 s3
            obtain ⟨m0, m1, -⟩ := HXx.out.two
            obtain ⟨s0, s1, s2, s3, -⟩ := HRx.out.four
            have zx2 := HGx.out.lt
            have HG3 := HGx
            have B3x := Bx
            go_wp2_with fail
            refine (HOW.out HS.out _ (HB.out.trans (Bx.out.mono hB)) (Nat.le_trans hB Bx.out.size)).mono ?_
            rintro e w5 ⟨i5, r5, rfl, h54, h51, hb5⟩
            have B5 := Lib.hid (below_chain B3x.out hb5)
            have y4 := HG3.out.lt
            have HG5 := Lib.hid (HG3.out.blw hb5)
            have HF := Lib.hid (And.intro (HG5.out.set2 i5 r5) (HORD.out (set2 w5 (W.heap.size + 2) 0 i5 r5) i5 r5 hg hfo (own_ch (far2 _ _) (own_base h54 (by omega)) (fun b e x => by have := (World.ownsRow.lt h54 b e).1; omega)) (own_ch (far2 _ _) (own_base h51 (by omega)) (fun b e x => by have := (World.ownsRow.lt h51 b e).1; omega)) ((far2 _ _).below B5.out B5.out.size (fun b e => by omega))))
            obtain ⟨a8, c8, rfl⟩ := h54.slice
            obtain ⟨a9, c9, rfl⟩ := h51.slice
            obtain ⟨p0, p1, pf⟩ := HG5.out.two
            clear h54 h51 hb5
            go_wp2
            exact bodyPost_ret (ret_F Try.results9 rfl rfl rfl rfl HF.out.1) rfl HF.out.2
        · have h1' : r.id ≤ l.id := by omega
          have h1b : decide (r.id ≤ l.id) = true := decide_eq_true h1'
          have hfo : folB q.items r = false := by rw [hfo0, decide_eq_false h1, Bool.false_and]
          clear hfo0
          go_quiet (fail)
          have HXx := Lib.hid (show Hd (w2.drewN nq) W.heap.size (iqO (.slice _ q.items.length c1) (.slice a2 l2 c2)) from HX2.out)
          have HRx := Lib.hid (show Hd (w2.drewN nq) (W.heap.size + 1) (.cells (rC r) 38) from HR2.out)
          have HGx := Lib.hid (show Hd (w2.drewN nq) (W.heap.size + 2) zqO from HG2.out)
          have Bx := Lib.hid (belDrew B2.out nq)
          generalize w2.drewN nq = x2 at *
          clear m0 m1 s0 s1 s2 s3
          obtain ⟨m0, m1, -⟩ := HXx.out.two
          obtain ⟨s0, s1, s2, s3, -⟩ := HRx.out.four
          have zx2 := HGx.out.lt
          have HG3 := HGx
          have B3x := Bx
          go_wp2_with fail
          refine (HOW.out HS.out _ (HB.out.trans (Bx.out.mono hB)) (Nat.le_trans hB Bx.out.size)).mono ?_
          rintro e w5 ⟨i5, r5, rfl, h54, h51, hb5⟩
          have B5 := Lib.hid (below_chain B3x.out hb5)
          have y4 := HG3.out.lt
          have HG5 := Lib.hid (HG3.out.blw hb5)
          have HF := Lib.hid (And.intro (HG5.out.set2 i5 r5) (HORD.out (set2 w5 (W.heap.size + 2) 0 i5 r5) i5 r5 hg hfo (own_ch (far2 _ _) (own_base h54 (by omega)) (fun b e x => by have := (World.ownsRow.lt h54 b e).1; omega)) (own_ch (far2 _ _) (own_base h51 (by omega)) (fun b e x => by have := (World.ownsRow.lt h51 b e).1; omega)) ((far2 _ _).below B5.out B5.out.size (fun b e => by omega))))
          obtain ⟨a8, c8, rfl⟩ := h54.slice
          obtain ⟨a9, c9, rfl⟩ := h51.slice
          obtain ⟨p0, p1, pf⟩ := HG5.out.two
          clear h54 h51 hb5
          go_wp2
          exact bodyPost_ret (ret_F Try.results9 rfl rfl rfl rfl HF.out.1) rfl HF.out.2
    · have hrp2 : repB r = false := by simpa using hrp
      rw [hrp2]
      obtain ⟨p0, p1, pf⟩ := HG2.out.two
      have HF := Lib.hid (And.intro (HG2.out.set2 (.slice none 0 0) (.slice none 0 0)) (HBAD.out (set2 w2 (W.heap.size + 2) 0 (.slice none 0 0) (.slice none 0 0)) (by rw [HGG.out, hrp2, Bool.and_false]) ((far2 _ _).below B2.out B2.out.size (fun b e => by omega))))
      clear hrp hrp2
      go_wp2
      exact bodyPost_ret (ret_F Try.results9 rfl rfl rfl rfl HF.out.1) rfl HF.out.2
  · have hq2 : quB q = false := by simpa using hq
    rw [hq2]
    obtain ⟨p0, p1, pf⟩ := HGa.out.two
    have HF := Lib.hid (And.intro (HGa.out.set2 (.slice none 0 0) (.slice none 0 0)) (HBAD.out (set2 wa (W.heap.size + 2) 0 (.slice none 0 0) (.slice none 0 0)) (by rw [HGG.out, hq2, Bool.false_and]) ((far2 _ _).below Ba.out Ba.out.size (fun b e => by omega))))
    clear hq hq2
    go_wp2
    exact bodyPost_ret (ret_F Try.results9 rfl rfl rfl rfl HF.out.1) rfl HF.out.2
end Go.Proofs.Ytakiigddbdapaaa.Qu
