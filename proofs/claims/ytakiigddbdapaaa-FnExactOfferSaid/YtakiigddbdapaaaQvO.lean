
/-
  Offer: as plain functions; the program's.
-/
import Derived.Test.YtakiigddbdapaaaQvC
namespace Go.Proofs.Ytakiigddbdapaaa.Qu
open Go.RowKit
open Go.Proofs.Ytakiigddbdapaaa.Tx
def ofG (q : Q) (r : Rep) : Bool := quB q && repB r
def ofR (q : Q) (r : Rep) : Q := if ofG q r = false then ⟨[], []⟩ else if folB q.items r = false then q else if q.recent.contains r.body = true then q else ⟨adR q.items r, adT q.recent r.body⟩
def ofB (q : Q) (r : Rep) : Bool := if ofG q r = false then false else if folB q.items r = false then false else if q.recent.contains r.body = true then false else true
def ofE (q : Q) (r : Rep) : Int := if ofG q r = false then 0 else if folB q.items r = false then 0 else if q.recent.contains r.body = true then 0 else (olR q.items).id
def ofC (q : Q) (r : Rep) : Int := if ofG q r = false then 1 else if folB q.items r = false then 16 else 0
def NewF (W : World) (R : Q) (b : Bool) (E C : Int) (e : Ending) (w' : World) : Prop := ∃ iv rv, e = .returned (.tuple #[qV iv rv, .bool b, .int .i64 E, .int .i64 C]) ∧ O4 w' W.heap.size iv R.items ∧ O1 w' W.heap.size rv R.recent ∧ Below W.heap.size W w'
theorem newF_bad {W w' : World} {q : Q} {r : Rep} (h : ofG q r = false) (hb : Below W.heap.size W w') : NewF W (ofR q r) (ofB q r) (ofE q r) (ofC q r) (.returned (.tuple #[qV (.slice none 0 0) (.slice none 0 0), .bool false, .int .i64 0, .int .i64 1])) w' := by
  unfold ofR ofB ofE ofC
  rw [if_pos h, if_pos h, if_pos h, if_pos h]
  exact ⟨_, _, rfl, O4.nil _ _, O1.nil _ _, hb⟩
theorem newF_ord {W w' : World} {q : Q} {r : Rep} {iv rv : Value} (h : ofG q r = true) (h2 : folB q.items r = false) (h4 : O4 w' W.heap.size iv q.items) (h1 : O1 w' W.heap.size rv q.recent) (hb : Below W.heap.size W w') : NewF W (ofR q r) (ofB q r) (ofE q r) (ofC q r) (.returned (.tuple #[qV iv rv, .bool false, .int .i64 0, .int .i64 16])) w' := by
  unfold ofR ofB ofE ofC
  rw [h, h2]
  exact ⟨_, _, rfl, h4, h1, hb⟩
theorem newF_dup {W w' : World} {q : Q} {r : Rep} {iv rv : Value} (h : ofG q r = true) (h2 : folB q.items r = true) (h3 : q.recent.contains r.body = true) (h4 : O4 w' W.heap.size iv q.items) (h1 : O1 w' W.heap.size rv q.recent) (hb : Below W.heap.size W w') : NewF W (ofR q r) (ofB q r) (ofE q r) (ofC q r) (.returned (.tuple #[qV iv rv, .bool false, .int .i64 0, .int .i64 0])) w' := by
  unfold ofR ofB ofE ofC
  rw [h, h2, h3]
  exact ⟨_, _, rfl, h4, h1, hb⟩
theorem newF_new {W w' : World} {q : Q} {r : Rep} {iv rv : Value} (h : ofG q r = true) (h2 : folB q.items r = true) (h3 : q.recent.contains r.body = false) (h4 : O4 w' W.heap.size iv (adR q.items r)) (h1 : O1 w' W.heap.size rv (adT q.recent r.body)) (hb : Below W.heap.size W w') : NewF W (ofR q r) (ofB q r) (ofE q r) (ofC q r) (.returned (.tuple #[qV iv rv, .bool true, .int .i64 (olR q.items).id, .int .i64 0])) w' := by
  unfold ofR ofB ofE ofC
  rw [h, h2, h3]
  exact ⟨_, _, rfl, h4, h1, hb⟩
theorem ret_F {fn : Func} {a b c d B : Nat} {tmps : Array Value} {X : World} {c0 c1 u v t : Value} {T : TypeId} (hres : fn.results = #[.cell a 34, .tmp b, .tmp c, .tmp d]) (ha : tmps[a]?.getD undef = .pointer (some ⟨B, 0, none⟩)) (hb : tmps[b]?.getD undef = u) (hc : tmps[c]?.getD undef = v) (hd : tmps[d]?.getD undef = t) (h : Hd X B (.cells #[c0, c1] T)) :
    (results fn tmps).run Try.prog X = .ok (.tuple #[.agg #[c0, c1], u, v, t]) X := by
  obtain ⟨k0, k1, _⟩ := h.two
  simp [results, hres, ha, hb, hc, hd, go_sem, k0, k1]
theorem adR_small {xs : List Rep} {x : Rep} (h : xs.length ≤ 5) : (adR xs x).length ≤ 5 := by
  unfold adR; split <;> simp <;> omega
theorem adT_small {xs : List (List UInt8)} {x : List UInt8} (h : xs.length ≤ 6) : (adT xs x).length ≤ 6 := by
  unfold adT; split <;> simp <;> omega
theorem adR_all {P : Rep → Prop} {xs : List Rep} {x : Rep} (h : ∀ y ∈ xs, P y) (hx : P x) : ∀ y ∈ adR xs x, P y := fun y hy => by
  unfold adR at hy
  rcases List.mem_append.1 hy with hy | hy
  · split at hy
    · exact h y (List.mem_of_mem_tail hy)
    · exact h y hy
  · rw [List.mem_singleton.1 hy]; exact hx
theorem adT_all {P : List UInt8 → Prop} {xs : List (List UInt8)} {x : List UInt8} (h : ∀ y ∈ xs, P y) (hx : P x) : ∀ y ∈ adT xs x, P y := fun y hy => by
  unfold adT at hy
  rcases List.mem_append.1 hy with hy | hy
  · split at hy
    · exact h y (List.mem_of_mem_tail hy)
    · exact h y hy
  · rw [List.mem_singleton.1 hy]; exact hx
theorem gdR_all {P : Rep → Prop} {xs : List Rep} (h : ∀ i, i < xs.length → P (xs.getD i default)) : ∀ x ∈ xs, P x := fun x hx => by
  obtain ⟨i, hi, rfl⟩ := List.mem_iff_getElem.1 hx
  have := h i hi
  simpa [List.getD, hi] using this
theorem gdR_of {P : Rep → Prop} {xs : List Rep} (h : ∀ x ∈ xs, P x) : ∀ i, i < xs.length → P (xs.getD i default) := fun i hi => by
  have := h xs[i] (List.getElem_mem hi)
  simpa [List.getD, hi] using this
theorem gdT_all {P : List UInt8 → Prop} {xs : List (List UInt8)} (h : ∀ i, i < xs.length → P (xs.getD i [])) : ∀ x ∈ xs, P x := fun x hx => by
  obtain ⟨i, hi, rfl⟩ := List.mem_iff_getElem.1 hx
  have := h i hi
  simpa [List.getD, hi] using this
theorem gdT_of {P : List UInt8 → Prop} {xs : List (List UInt8)} (h : ∀ x ∈ xs, P x) : ∀ i, i < xs.length → P (xs.getD i []) := fun i hi => by
  have := h xs[i] (List.getElem_mem hi)
  simpa [List.getD, hi] using this
theorem QSm.add {q : Q} {r : Rep} (h : QSm q) (hr : repB r = true) : QSm ⟨adR q.items r, adT q.recent r.body⟩ := by
  have hb : r.body.length ≤ 1048576 := by
    unfold repB at hr
    simp only [Bool.and_eq_true, decide_eq_true_eq] at hr
    omega
  exact ⟨adR_small h.i, adT_small h.r, gdR_of (P := fun r => r.body.length ≤ 1048576) (adR_all (gdR_all (P := fun r => r.body.length ≤ 1048576) h.bi) hb), gdT_of (P := fun t => t.length ≤ 1048576) (adT_all (gdT_all (P := fun t => t.length ≤ 1048576) h.br) hb)⟩
theorem OpQ.gr {base B : Nat} {w w' : World} {ra ca rb cb : Nat} {q : Q} (h : OpQ base w ra ca rb cb q) (hg : w.grownBy w' (some B)) (hB : B < base) : OpQ base w' ra ca rb cb q := by
  have b1 := h.b1
  have b2 := h.b2
  have b3 := h.b3
  have b4 := h.b4
  exact ⟨h.R.gr hg (by simp; omega) (by simp; omega), h.T.gr hg (by simp; omega) (by simp; omega), h.b1, h.b2, h.b3, h.b4, h.n1, h.n2, h.n3, h.n4⟩
theorem OpQ.blw {base : Nat} {w w' : World} {ra ca rb cb : Nat} {q : Q} (h : OpQ base w ra ca rb cb q) (hb : Below w.heap.size w w') : OpQ base w' ra ca rb cb q :=
  ⟨h.R.blw hb, h.T.blw hb, h.b1, h.b2, h.b3, h.b4, h.n1, h.n2, h.n3, h.n4⟩
theorem OpQ.al2 {base : Nat} {w : World} {ra ca rb cb : Nat} {q : Q} (h : OpQ base w ra ca rb cb q) (o : Obj) : OpQ base (w.alloc o) ra ca rb cb q := h.blw ((Below.refl w.heap.size w).alloc (Nat.le_refl _) o)
theorem Gst.sz {B : Nat} {T : TypeId} {wr wx : World} (h : Gst B T wr wx) : wr.heap.size ≤ wx.heap.size := h.1.size
set_option maxRecDepth 100000 in
set_option maxHeartbeats 4000000 in
theorem offerI_any (B : Nat) (w0 : World) (q : Q) (r : Rep) (iv rv : Value) (hi : RpIn (· < B) w0 iv q.items) (hr : TxtsIn (· < B) w0 rv q.recent) (hf : Fit r) (W : World) (hb : Below B w0 W) (hB : B ≤ W.heap.size) :
    Calls Try.prog 12 #[qV iv rv, rV r] W (NewF W (ofR q r) (ofB q r) (ofE q r) (ofC q r)) := by
  have HK := Lib.hid (fun W' h1 h2 => quI_any B w0 q iv rv hi hr W' h1 h2)
  have HKR := Lib.hid (fun W' => repI_any r hf W')
  have HOP := Lib.hid (fun (hs : QSm q) W' h1 h2 => openedQ_any B w0 q iv rv hi hr hs.i hs.r W' h1 h2)
  have HCL := Lib.hid (fun base ra ca rb cb (R : Q) (hs : QSm R) W' h => closed_any base ra ca rb cb R W' h hs.bi hs.br hs.i hs.r)
  have HFO := Lib.hid (fun W' (h : Below B w0 W') (h2 : B ≤ W'.heap.size) => follows_any (· < B) q.items r iv W' (hi.blw h) (fun b hb => Nat.lt_of_lt_of_le hb h2))
  have HHA := Lib.hid (fun W' (h : Below B w0 W') => hasI_any (· < B) q.recent r.body rv W' (hr.blw h))
  have HBAD := Lib.hid (fun (w' : World) h hb => newF_bad (W := W) (w' := w') (q := q) (r := r) h hb)
  have HORD := Lib.hid (fun (w' : World) (iv rv : Value) h h2 h4 h1 hb => newF_ord (W := W) (w' := w') (q := q) (r := r) (iv := iv) (rv := rv) h h2 h4 h1 hb)
  have HDUP := Lib.hid (fun (w' : World) (iv rv : Value) h h2 h3 h4 h1 hb => newF_dup (W := W) (w' := w') (q := q) (r := r) (iv := iv) (rv := rv) h h2 h3 h4 h1 hb)
  have HNEW := Lib.hid (fun (w' : World) (iv rv : Value) h h2 h3 h4 h1 hb => newF_new (W := W) (w' := w') (q := q) (r := r) (iv := iv) (rv := rv) h h2 h3 h4 h1 hb)
  have HGG := Lib.hid (show ofG q r = (quB q && repB r) from rfl)
  generalize NewF W (ofR q r) (ofB q r) (ofE q r) (ofC q r) = PST at *
  obtain ⟨a1, c1, rfl⟩ := hi.slice2
  obtain ⟨a2, l2, c2, rfl⟩ := hr.slice
  have HB := Lib.hid hb
  obtain ⟨w1, hw1⟩ : ∃ w1, w1 = ((W.alloc (iqO (.slice a1 q.items.length c1) (.slice a2 l2 c2))).alloc (.cells (rC r) 38)).alloc zqO := ⟨_, rfl⟩
  have HBX := Lib.hid (show Hd w1 W.heap.size (iqO (.slice a1 q.items.length c1) (.slice a2 l2 c2)) from hw1 ▸ alloc3_0 W _ _ _)
  have HBR := Lib.hid (show Hd w1 (W.heap.size + 1) (.cells (rC r) 38) from hw1 ▸ alloc3_1 W _ _ _)
  have HG := Lib.hid (show Hd w1 (W.heap.size + 2) zqO from hw1 ▸ alloc3_2 W _ _ _)
  have BF := Lib.hid (show Below W.heap.size W w1 from hw1 ▸ (((Below.refl W.heap.size W).alloc (Nat.le_refl _) _).alloc (by simp) _).alloc (by simp; omega) _)
  clear hi hr hb
  go_enter Try.func12, Try.ntmps12
  go_wp2_with fail
  rw [← hw1]
  clear hw1
  refine (HK.out _ (HB.out.trans (BF.out.mono hB)) (Nat.le_trans hB BF.out.size)).mono ?_
  rintro e wa ⟨rfl, hba⟩
  have HXa := Lib.hid (HBX.out.blw hba)
  have HRa := Lib.hid (HBR.out.blw hba)
  have HGa := Lib.hid (HG.out.blw hba)
  have Ba := Lib.hid (below_chain BF.out hba)
  clear hba HK
  by_cases hq : quB q = true
  · rw [hq]
    obtain ⟨m0, m1, -⟩ := HXa.out.two
    obtain ⟨s0, s1, s2, s3, -⟩ := HRa.out.four
    go_wp2_with fail
    refine (HKR.out _).mono ?_
    rintro e w2 ⟨rfl, hb2⟩
    have HX2 := Lib.hid (HXa.out.blw hb2)
    have HR2 := Lib.hid (HRa.out.blw hb2)
    have HG2 := Lib.hid (HGa.out.blw hb2)
    have B2 := Lib.hid (below_chain Ba.out hb2)
    have z2 := HG2.out.lt
    clear hb2 m0 m1 s0 s1 s2 s3
    by_cases hrp : repB r = true
    · rw [hrp]
      have hg : ofG q r = true := by rw [HGG.out, hq, hrp]; rfl
      have HS := Lib.hid (quB_small hq)
      have HSA := Lib.hid ((quB_small hq).add hrp)
      have h5 := (quB_small hq).i
      obtain ⟨m0, m1, -⟩ := HX2.out.two
      clear HBAD HGG hq hrp HKR
      go_wp2_with fail
      refine (HOP.out HS.out _ (HB.out.trans (B2.out.mono hB)) (Nat.le_trans hB B2.out.size)).mono ?_
      rintro e w3 ⟨ra, ca, rb, cb, rfl, ho3, hb3⟩
      have O3 := Lib.hid (ho3.al2 (oO ra rb))
      have HX3 := Lib.hid (HX2.out.blw hb3)
      have HR3 := Lib.hid (HR2.out.blw hb3)
      have HG3w := Lib.hid (HG2.out.blw hb3)
      have B3w := Lib.hid (below_chain B2.out hb3)
      have HO3 := Lib.hid (Hd.new w3 (oO ra rb))
      have y23 := hb3.size
      have L3 := ho3.lts
      have b1 := ho3.b1
      have b2 := ho3.b2
      have b3 := ho3.b3
      have b4 := ho3.b4
      have n1' := ho3.n1
      have n2' := ho3.n2
      have n3' := ho3.n3
      have n4' := ho3.n4
      obtain ⟨m0, m1, -⟩ := HX3.out.two
      obtain ⟨s0, s1, s2, s3, -⟩ := HR3.out.four
      have zr := HR3.out.lt
      have zx := HX3.out.lt
      have HL := Lib.hid (HFO.out (w3.alloc (oO ra rb)) (HB.out.trans ((belI_alloc B3w.out).mono hB)) (Nat.le_trans hB (belI_alloc B3w.out).size))
      clear ho3 hb3
      go_wp2_with fail
      refine HL.out.mono ?_
      rintro e w4 ⟨rfl, hb4⟩
      have O3 := Lib.hid (O3.out.blw hb4)
      have HX4 := Lib.hid ((HX3.out.al (oO ra rb)).blw hb4)
      have HR4 := Lib.hid ((HR3.out.al (oO ra rb)).blw hb4)
      have HG3 := Lib.hid ((HG3w.out.al (oO ra rb)).blw hb4)
      have B3 := Lib.hid (below_chain (belI_alloc B3w.out) hb4)
      have HO4 := Lib.hid (HO3.out.blw hb4)
      clear hb4 m0 m1 s0 s1 s2 s3 zr zx HL
      by_cases hfo : folB q.items r = true
      · rw [hfo]
        obtain ⟨m0, m1, -⟩ := HX4.out.two
        obtain ⟨s0, s1, s2, s3, -⟩ := HR4.out.four
        have HH := Lib.hid (HHA.out w4 (HB.out.trans (B3.out.mono hB)))
        go_wp2_with fail
        refine HH.out.mono ?_
        rintro e _ ⟨rfl, rfl⟩
        by_cases hdu : q.recent.contains r.body = true
        · rw [hdu]
          obtain ⟨n0, n1, -⟩ := HO4.out.two
          clear m0 m1 s0 s1 s2 s3
          have HCC := Lib.hid (HCL.out w2.heap.size ra ca rb cb q HS.out _ O3.out)
          go_wp2_with fail
          refine HCC.out.mono ?_
          rintro e w5 ⟨i5, r5, rfl, h54, h51, hb5⟩
          have HG5 := Lib.hid (HG3.out.blw hb5)
          have B5 := Lib.hid (below_chain B3.out hb5)
          have y4 := HG3.out.lt
          have HF := Lib.hid (And.intro (HG5.out.set2 i5 r5) (HDUP.out (set2 w5 (W.heap.size + 2) 0 i5 r5) i5 r5 hg hfo hdu (own_ch (far2 _ _) (own_base h54 (by omega)) (fun b e x => by have := (World.ownsRow.lt h54 b e).1; omega)) (own_ch (far2 _ _) (own_base h51 (by omega)) (fun b e x => by have := (World.ownsRow.lt h51 b e).1; omega)) ((far2 _ _).below B5.out B5.out.size (fun b e => by omega))))
          obtain ⟨a8, c8, rfl⟩ := h54.slice
          obtain ⟨a9, c9, rfl⟩ := h51.slice
          obtain ⟨p0, p1, pf⟩ := HG5.out.two
          clear h54 h51 hb5
          go_wp2
          exact bodyPost_ret (ret_F Try.results12 rfl rfl rfl rfl HF.out.1) rfl HF.out.2
        · have hdu2 : q.recent.contains r.body = false := by simpa using hdu
          rw [hdu2]
          obtain ⟨n0, n1, -⟩ := HO4.out.two
          have HAD := Lib.hid (addR_any ra ca q.items r w4 O3.out.R)
          have HN := Lib.hid (fun w' iv rv h4 h1 hb => HNEW.out w' iv rv hg hfo hdu2 h4 h1 hb)
          clear HORD HDUP HNEW HH HHA HFO hdu hdu2
          generalize olR q.items = o at *
          go_wp2_with fail
          refine HAD.out.mono ?_
          rintro e w6 ⟨rfl, hR6, hm6⟩
          have y34 := HO4.out.lt
          have HR6 := Lib.hid (hm6.hd HR4.out (by omega))
          have HG6 := Lib.hid (hm6.hd HG3.out (by omega))
          have HO6 := Lib.hid (hm6.hd HO4.out (by omega))
          have B6 := Lib.hid (hm6.below B3.out B3.out.size (fun b e => by omega))
          have T6 := O3.out.T.ch hm6 (by omega) (by omega)
          obtain ⟨x6, hx6⟩ : ∃ x6, x6 = w6.alloc (.cells (rC o) 38) := ⟨_, rfl⟩
          have BXX := (Below.refl w6.heap.size w6).alloc (Nat.le_refl _) (.cells (rC o) 38)
          have R7 := Lib.hid (show RgR x6 ra ca (adR q.items r) from hx6 ▸ hR6.blw BXX)
          have HAT := Lib.hid (addT_any rb cb q.recent r.body x6 (hx6 ▸ T6.blw BXX))
          have HG7 := Lib.hid (show Hd x6 (W.heap.size + 2) zqO from hx6 ▸ HG6.out.al _)
          have HO7 := Lib.hid (show Hd x6 w3.heap.size (oO ra rb) from hx6 ▸ HO6.out.al _)
          have HD7 := Lib.hid (show Hd x6 w6.heap.size (.cells (rC o) 38) from hx6 ▸ Hd.new _ _)
          have B7 := Lib.hid (show Below W.heap.size W x6 from hx6 ▸ belI_alloc B6.out)
          obtain ⟨n0, n1, -⟩ := HO6.out.two
          obtain ⟨s0, s1, s2, s3, -⟩ := HR6.out.four
          have y36 := HO6.out.lt
          have yr6 := HR6.out.lt
          clear hR6 hm6 T6 BXX HAD m0 m1
          go_wp2_with fail
          rw [← hx6]
          clear hx6 n0 n1 s0 s1 s2 s3
          refine HAT.out.mono ?_
          rintro e w7 ⟨⟨tz, rfl⟩, hT7, hm7⟩
          have OQ := Lib.hid (show OpQ w2.heap.size w7 ra ca rb cb ⟨adR q.items r, adT q.recent r.body⟩ from ⟨R7.out.ch hm7 (by omega) (by omega), hT7, b1, b2, b3, b4, n1', n2', n3', n4'⟩)
          have HG8 := Lib.hid (hm7.hd HG7.out (by omega))
          have HO8 := Lib.hid (hm7.hd HO7.out (by omega))
          have HD8 := Lib.hid (hm7.hd HD7.out (by omega))
          have B8 := Lib.hid (hm7.below B7.out B7.out.size (fun b e => by omega))
          have HCQ := Lib.hid (fun wx (hg : Gst (W.heap.size + 2) 34 w7 wx) => HCL.out w2.heap.size ra ca rb cb ⟨adR q.items r, adT q.recent r.body⟩ HSA.out wx (OQ.out.gr hg.1 (by omega)))
          have HALL := Lib.hid (fun wx (hg : Gst (W.heap.size + 2) 34 w7 wx) =>
            And.intro (HO8.out.grown hg.1 (by simp; omega)).two.1 (And.intro (HO8.out.grown hg.1 (by simp; omega)).two.2.1 (And.intro (HD8.out.grown hg.1 (by simp; omega)).four.1 (And.intro hg.cells (And.intro hg (show w7.heap.size ≤ wx.heap.size from hg.1.size))))))
          have HST := Lib.hid (Gst.start HG8.out)
          have y8 := HG8.out.lt
          have HFIN := Lib.hid (fun (wl : World) (i5 r5 : Value) (h4 : O4 wl w7.heap.size i5 (adR q.items r)) (h1 : O1 wl w7.heap.size r5 (adT q.recent r.body)) (hG : Gst (W.heap.size + 2) 34 w7 wl) =>
            And.intro (hG.row i5 r5) (HN.out (set2 wl (W.heap.size + 2) 0 i5 r5) i5 r5 (own_ch (far2 _ _) (own_base h4 (by omega)) (fun b e x => by have := (World.ownsRow.lt h4 b e).1; omega)) (own_ch (far2 _ _) (own_base h1 (by omega)) (fun b e x => by have := (World.ownsRow.lt h1 b e).1; omega)) (hG.store.below B8.out (by omega))))
          generalize adR q.items r = nr at *
          generalize adT q.recent r.body = nt at *
          clear hT7 hm7 R7 HAT HG7 HO7 HD7
          go_wp2_with fail
          go_region_held3 (fun wx => wx.cell? ⟨w3.heap.size, 0, none⟩ = some (.pointer (some ⟨ra, 0, none⟩)) ∧ wx.cell? ⟨w3.heap.size, 1, none⟩ = some (.pointer (some ⟨rb, 0, none⟩)) ∧ wx.cell? ⟨w6.heap.size, 0, none⟩ = some (.int .i64 o.id) ∧
              (wx.cell? ⟨W.heap.size + 2, 0, none⟩ = some (cellOf wx (W.heap.size + 2) 0) ∧ wx.cell? ⟨W.heap.size + 2, 1, none⟩ = some (cellOf wx (W.heap.size + 2) 1) ∧ ∀ o, wx.frozen? ⟨W.heap.size + 2, o, none⟩ = false) ∧ Gst (W.heap.size + 2) 34 w7 wx ∧ w7.heap.size ≤ wx.heap.size)
            (first
              | exact HALL.out _ HST.out
              | (go_split_ands; exact HALL.out _ (Gst.call (by assumption) hbC))
              | (go_split_ands; exact HALL.out _ (Gst.store (by assumption))))
            (first
              | (go_split_ands; go_at_call 29; refine (HCQ.out _ (by assumption)).mono ?_; have hz7 : w7.heap.size ≤ _ := Gst.sz (by assumption); rintro e w8 ⟨i5, r5, rfl, h54, h51, hbC⟩; obtain ⟨a8, c8, rfl⟩ := h54.slice; obtain ⟨a9, c9, rfl⟩ := h51.slice
                 have hGC := Gst.call (B := W.heap.size + 2) (wr := w7) (by assumption) hbC
                 have h54 := O4.base h54 hz7
                 have h51 := O1.base h51 hz7))
          all_goals
            go_split_ands
            have hF := Lib.hid (HFIN.out _ _ _ h54 h51 hGC)
            go_wp2
            exact bodyPost_ret (ret_F Try.results12 rfl rfl rfl rfl hF.out.1) rfl hF.out.2
      · have hfo2 : folB q.items r = false := by simpa using hfo
        rw [hfo2]
        obtain ⟨n0, n1, -⟩ := HO4.out.two
        have HCC := Lib.hid (HCL.out w2.heap.size ra ca rb cb q HS.out _ O3.out)
        go_wp2_with fail
        refine HCC.out.mono ?_
        rintro e w5 ⟨i5, r5, rfl, h54, h51, hb5⟩
        have HG5 := Lib.hid (HG3.out.blw hb5)
        have B5 := Lib.hid (below_chain B3.out hb5)
        have y4 := HG3.out.lt
        have HF := Lib.hid (And.intro (HG5.out.set2 i5 r5) (HORD.out (set2 w5 (W.heap.size + 2) 0 i5 r5) i5 r5 hg hfo2 (own_ch (far2 _ _) (own_base h54 (by omega)) (fun b e x => by have := (World.ownsRow.lt h54 b e).1; omega)) (own_ch (far2 _ _) (own_base h51 (by omega)) (fun b e x => by have := (World.ownsRow.lt h51 b e).1; omega)) ((far2 _ _).below B5.out B5.out.size (fun b e => by omega))))
        obtain ⟨a8, c8, rfl⟩ := h54.slice
        obtain ⟨a9, c9, rfl⟩ := h51.slice
        obtain ⟨p0, p1, pf⟩ := HG5.out.two
        clear h54 h51 hb5
        go_wp2
        exact bodyPost_ret (ret_F Try.results12 rfl rfl rfl rfl HF.out.1) rfl HF.out.2
    · have hrp2 : repB r = false := by simpa using hrp
      rw [hrp2]
      obtain ⟨p0, p1, pf⟩ := HG2.out.two
      have HF := Lib.hid (And.intro (HG2.out.set2 (.slice none 0 0) (.slice none 0 0)) (HBAD.out (set2 w2 (W.heap.size + 2) 0 (.slice none 0 0) (.slice none 0 0)) (by rw [HGG.out, hrp2, Bool.and_false]) ((far2 _ _).below B2.out B2.out.size (fun b e => by omega))))
      clear hrp hrp2
      go_wp2
      exact bodyPost_ret (ret_F Try.results12 rfl rfl rfl rfl HF.out.1) rfl HF.out.2
  · have hq2 : quB q = false := by simpa using hq
    rw [hq2]
    obtain ⟨p0, p1, pf⟩ := HGa.out.two
    have HF := Lib.hid (And.intro (HGa.out.set2 (.slice none 0 0) (.slice none 0 0)) (HBAD.out (set2 wa (W.heap.size + 2) 0 (.slice none 0 0) (.slice none 0 0)) (by rw [HGG.out, hq2, Bool.false_and]) ((far2 _ _).below Ba.out Ba.out.size (fun b e => by omega))))
    clear hq hq2
    go_wp2
    exact bodyPost_ret (ret_F Try.results12 rfl rfl rfl rfl HF.out.1) rfl HF.out.2
end Go.Proofs.Ytakiigddbdapaaa.Qu
