
/-
  Settle, the program's and the model's.
-/
import Derived.Test.YtkdmlpclioeniaaQvA
namespace Go.Proofs.Ytkdmlpclioeniaa.Qu
open Go.RowKit
open Go.Proofs.Ytkdmlpclioeniaa.Tx
theorem run_dropR (w : World) (a : Option Addr) (l c n : Nat) (h1 : n ≤ l) :
    (Instr.slice 35 (.slice a l c) (some (.int .i64 (n : Int))) none none).run Try.prog w = .ok (.slice (if c = n then a else a.map (fun x => x.add (n * 4))) (l - n) (c - n)) w := by
  have hn : (n : Int) ≤ (l : Int) := by omega
  simp [Instr.slice, Instr.sliceBounds, go_sem, hn]
theorem RpIn.drop {S : Nat → Prop} {w : World} {a : Option Addr} {l cap : Nat} {xs : List Rep} (h : RpIn S w (.slice a l cap) xs) (n : Nat) (hn : n ≤ xs.length) :
    RpIn S w (.slice (if cap = n then a else a.map (fun x => x.add (n * 4))) (l - n) (cap - n)) (xs.drop n) := by
  obtain ⟨a', cap', b, off, e, h1, h2, h3, h4, h5⟩ := h
  obtain ⟨rfl, rfl, rfl⟩ := by simpa using e
  have hg : ∀ i, (xs.drop n).getD i default = xs.getD (n + i) default := fun i => by simp [List.getD]
  refine ⟨_, cap - n, b, off + n * 4, by rw [List.length_drop], by rw [List.length_drop]; omega, by omega, ?_, ?_, ?_⟩
  · intro i hi; rw [List.length_drop] at hi; rw [hg i]; exact h3 _ (by omega)
  · intro hp
    rw [List.length_drop] at hp
    obtain ⟨rfl, hS⟩ := h4 (by omega)
    rw [if_neg (by omega), Option.map_some, add_at]
    exact ⟨rfl, hS⟩
  · intro i hi
    rw [List.length_drop] at hi
    rw [hg i]
    have h6 := h5 (n + i) (by omega)
    rw [show off + (n + i) * 4 = off + n * 4 + i * 4 by omega] at h6
    exact h6
theorem itB_mem : ∀ (xs pre : List Rep), itB pre xs = true → ∀ i, i < xs.length → repB (xs.getD i default) = true
  | [], _, _, i, hi => by simp at hi
  | x :: xs, pre, h, 0, _ => by simp only [itB, Bool.and_eq_true] at h; exact h.1.1
  | x :: xs, pre, h, i + 1, hi => by
    simp only [itB, Bool.and_eq_true] at h
    have := itB_mem xs _ h.2 i (by simpa using hi)
    simpa using this
theorem rcB_mem : ∀ (xs pre : List (List UInt8)), rcB pre xs = true → ∀ i, i < xs.length → bodB (xs.getD i []) = true
  | [], _, _, i, hi => by simp at hi
  | x :: xs, pre, h, 0, _ => by simp only [rcB, Bool.and_eq_true] at h; exact h.1.1
  | x :: xs, pre, h, i + 1, hi => by
    simp only [rcB, Bool.and_eq_true] at h
    have := rcB_mem xs _ h.2 i (by simpa using hi)
    simpa using this
/-- how small a valid queue is -/
structure QSm (q : Q) : Prop where
  i : q.items.length ≤ 5
  r : q.recent.length ≤ 6
  bi : ∀ i, i < q.items.length → (q.items.getD i default).body.length ≤ 1048576
  br : ∀ i, i < q.recent.length → (q.recent.getD i []).length ≤ 1048576
theorem quB_small {q : Q} (h : quB q = true) : QSm q := by
  unfold quB at h
  simp only [Bool.and_eq_true, decide_eq_true_eq] at h
  obtain ⟨h1, h2, h3, h4⟩ := h
  refine ⟨h1, h2, fun i hi => ?_, fun i hi => ?_⟩
  · have := itB_mem _ _ h3 i hi
    unfold repB at this
    simp only [Bool.and_eq_true, decide_eq_true_eq] at this
    omega
  · have := rcB_mem _ _ h4 i hi
    unfold bodB at this
    simp only [decide_eq_true_eq] at this
    omega
theorem QSm.drop {q : Q} (h : QSm q) (n : Nat) : QSm ⟨q.items.drop n, q.recent⟩ :=
  ⟨by have := h.i; simp only [List.length_drop]; omega, h.r, fun i hi => by
    simp only [List.length_drop] at hi
    have := h.bi (n + i) (by omega)
    simpa [List.getD] using this, h.br⟩
/-- a new queue, new Ids and a code -/
def NewS (W : World) (R : Q) (D : List Int) (C : Int) (e : Ending) (w' : World) : Prop := ∃ iv rv dv, e = .returned (.tuple #[qV iv rv, dv, .int .i64 C]) ∧ O4 w' W.heap.size iv R.items ∧ O1 w' W.heap.size rv R.recent ∧ OI w' W.heap.size dv D ∧ Below W.heap.size W w'
def stR (q : Q) (n : Int) : Q := if stC q n = 0 then ⟨q.items.drop n.toNat, q.recent⟩ else ⟨[], []⟩
def stD (q : Q) (n : Int) : List Int := if stC q n = 0 then idsOf (q.items.take n.toNat) else []
theorem newS_no {W w' : World} {q : Q} {n : Int} {dv : Value} (h : stC q n ≠ 0) (hd : OI w' W.heap.size dv []) (hb : Below W.heap.size W w') : NewS W (stR q n) (stD q n) (stC q n) (.returned (.tuple #[qV (.slice none 0 0) (.slice none 0 0), dv, .int .i64 (stC q n)])) w' := by
  unfold stR stD
  rw [if_neg h, if_neg h]
  exact ⟨_, _, _, rfl, O4.nil _ _, O1.nil _ _, hd, hb⟩
theorem newS_yes {W w' : World} {q : Q} {n : Int} {iv rv dv : Value} (h : stC q n = 0) (h4 : O4 w' W.heap.size iv (q.items.drop n.toNat)) (h1 : O1 w' W.heap.size rv q.recent) (hd : OI w' W.heap.size dv (idsOf (q.items.take n.toNat))) (hb : Below W.heap.size W w') : NewS W (stR q n) (stD q n) (stC q n) (.returned (.tuple #[qV iv rv, dv, .int .i64 0])) w' := by
  unfold stR stD
  rw [if_pos h, if_pos h, h]
  exact ⟨_, _, _, rfl, h4, h1, hd, hb⟩
theorem stC_zero {q : Q} {n : Int} (h : stC q n = 0) : quB q = true ∧ 0 ≤ n ∧ n ≤ ((min q.items.length 3 : Nat) : Int) := by
  unfold stC at h
  split at h
  · rename_i h1
    split at h
    · rename_i h2; exact ⟨h1, h2⟩
    · cases h
  · cases h
theorem ret_S {fn : Func} {a b c B : Nat} {tmps : Array Value} {X : World} {c0 c1 u v : Value} {T : TypeId} (hres : fn.results = #[.cell a 37, .tmp b, .tmp c]) (ha : tmps[a]?.getD undef = .pointer (some ⟨B, 0, none⟩)) (hb : tmps[b]?.getD undef = u) (hc : tmps[c]?.getD undef = v) (h : Hd X B (.cells #[c0, c1] T)) :
    (results fn tmps).run Try.prog X = .ok (.tuple #[.agg #[c0, c1], u, v]) X := by
  obtain ⟨k0, k1, _⟩ := h.two
  simp [results, hres, ha, hb, hc, go_sem, k0, k1]
theorem OpQ.al {base : Nat} {w : World} {ra ca rb cb : Nat} {q : Q} (h : OpQ base w ra ca rb cb q) (o : Obj) : OpQ base (w.alloc o) ra ca rb cb q :=
  ⟨h.R.blw ((Below.refl w.heap.size w).alloc (Nat.le_refl _) o), h.T.blw ((Below.refl w.heap.size w).alloc (Nat.le_refl _) o), h.b1, h.b2, h.b3, h.b4, h.n1, h.n2, h.n3, h.n4⟩
set_option maxRecDepth 100000 in
set_option maxHeartbeats 4000000 in
theorem settleI_any (B : Nat) (w0 : World) (q : Q) (n : Int) (iv rv : Value) (hi : RpIn (· < B) w0 iv q.items) (hr : TxtsIn (· < B) w0 rv q.recent) (hn : q.items.length ≤ 1048576) (W : World) (hb : Below B w0 W) (hB : B ≤ W.heap.size) :
    Calls Try.prog 29 #[qV iv rv, .int .i64 n] W (NewS W (stR q n) (stD q n) (stC q n)) := by
  have HK := Lib.hid (fun W' h1 h2 => bcI_any B w0 q n iv rv hi hr hn W' h1 h2)
  have HOP := Lib.hid (fun (hs : QSm q) W' h1 h2 => openedQ_any B w0 q iv rv hi hr hs.i hs.r W' h1 h2)
  have HRM := Lib.hid (fun base ra ca rb cb k W' h h1 h2 => removeFirst_any base ra ca rb cb q k W' h h1 h2)
  have HCL := Lib.hid (fun base ra ca rb cb (R : Q) (hs : QSm R) W' h => closed_any base ra ca rb cb R W' h hs.bi hs.br hs.i hs.r)
  have HNO := Lib.hid (fun (w' : World) (dv : Value) (h : stC q n ≠ 0) hd hb => newS_no (W := W) (w' := w') (q := q) (n := n) (dv := dv) h hd hb)
  have HZ := Lib.hid (fun h => stC_zero (q := q) (n := n) h)
  have HYE := Lib.hid (fun (w' : World) (iv rv dv : Value) (h : stC q n = 0) h4 h1 h2 hb => newS_yes (W := W) (w' := w') (q := q) (n := n) (iv := iv) (rv := rv) (dv := dv) h h4 h1 h2 hb)
  generalize NewS W (stR q n) (stD q n) (stC q n) = PST at *
  generalize stC q n = C at *
  obtain ⟨a1, c1, rfl⟩ := hi.slice2
  obtain ⟨a2, l2, c2, rfl⟩ := hr.slice
  have HB := Lib.hid hb
  obtain ⟨w1, hw1⟩ : ∃ w1, w1 = (W.alloc (iqO (.slice a1 q.items.length c1) (.slice a2 l2 c2))).alloc zqO := ⟨_, rfl⟩
  have HBX := Lib.hid (show Hd w1 W.heap.size (iqO (.slice a1 q.items.length c1) (.slice a2 l2 c2)) from hw1 ▸ (Hd.new W _).al _)
  have HG := Lib.hid (show Hd w1 (W.heap.size + 1) zqO from by
    have := Hd.new (W.alloc (iqO (.slice a1 q.items.length c1) (.slice a2 l2 c2))) zqO
    rw [hw1]; simpa using this)
  have BF := Lib.hid (show Below W.heap.size W w1 from hw1 ▸ ((Below.refl W.heap.size W).alloc (Nat.le_refl _) _).alloc (by simp) _)
  clear hi hr hb
  go_enter Try.func29, Try.ntmps29
  go_wp2_with fail
  rw [← hw1]
  clear hw1
  refine (HK.out _ (HB.out.trans (BF.out.mono hB)) (Nat.le_trans hB BF.out.size)).mono ?_
  rintro e w2 ⟨rfl, hb2⟩
  have HX2 := Lib.hid (HBX.out.blw hb2)
  have HG2 := Lib.hid (HG.out.blw hb2)
  have B2 := Lib.hid (below_chain BF.out hb2)
  obtain ⟨m0, m1, -⟩ := HX2.out.two
  obtain ⟨p0, p1, pf⟩ := HG2.out.two
  clear hb2
  by_cases hC : C = 0
  · obtain ⟨hq, hn0, hn1⟩ := HZ.out hC
    have hs := quB_small hq
    have HY := Lib.hid (fun w' iv rv dv h4 h1 h2 hb => HYE.out w' iv rv dv hC h4 h1 h2 hb)
    subst hC
    obtain ⟨k, rfl⟩ := Int.eq_ofNat_of_zero_le hn0
    have hk : k ≤ q.items.length := by omega
    rw [Int.toNat_natCast] at HY
    have HS := Lib.hid hs
    have HSD := Lib.hid (hs.drop k)
    clear HZ HYE HNO hq hs hn0 hn1
    go_wp2_with fail
    refine (HOP.out HS.out _ (HB.out.trans (B2.out.mono hB)) (Nat.le_trans hB B2.out.size)).mono ?_
    rintro e w3 ⟨ra, ca, rb, cb, rfl, ho3, hb3⟩
    have O3 := Lib.hid ho3
    have L3 := Lib.hid ho3.lts
    have HG3 := Lib.hid (HG2.out.blw hb3)
    have B3 := Lib.hid (below_chain B2.out hb3)
    have y2 := HG2.out.lt
    have y23 := hb3.size
    clear hb3 ho3 m0 m1 p0 p1 pf
    have O4' := Lib.hid (O3.out.al (oO ra rb))
    go_wp2_with fail
    refine (HRM.out _ ra ca rb cb k _ O4'.out hk HS.out.i).mono ?_
    rintro e w4 ⟨v, rfl, hI4, hO4, hm4⟩
    have b1 := O3.out.b1
    have b2 := O3.out.b2
    have HG4 := Lib.hid (hm4.hd (HG3.out.al (oO ra rb)) (by omega))
    have HO8 := Lib.hid (hm4.hd (Hd.new w3 (oO ra rb)) (by have := L3.out; omega))
    have B4 := Lib.hid (hm4.below (belI_alloc B3.out) (Nat.le_trans B3.out.size (by simp)) (fun b e => by omega))
    have y3 : W.heap.size ≤ w3.heap.size := B3.out.size
    have hI4' := OI.base (b := W.heap.size + 2) hI4 (by simp; omega)
    have HCC := Lib.hid (HCL.out _ ra ca rb cb ⟨q.items.drop k, q.recent⟩ HSD.out _ hO4)
    obtain ⟨n0, n1, -⟩ := HO8.out.two
    generalize idsOf (q.items.take k) = ds at *
    generalize q.items.drop k = dr at *
    obtain ⟨a7, c7, rfl⟩ := hI4.slice
    have I4 := Lib.hid hI4'
    clear hI4 hI4' hO4 hm4
    go_wp2_with fail
    refine HCC.out.mono ?_
    rintro e w5 ⟨i5, r5, rfl, h54, h51, hb5⟩
    have HG5 := Lib.hid (HG4.out.blw hb5)
    have B5 := Lib.hid (below_chain B4.out hb5)
    have y4 : W.heap.size + 1 < w4.heap.size := HG4.out.lt
    have HF := Lib.hid (And.intro (HG5.out.set2 i5 r5) (HY.out (set2 w5 (W.heap.size + 1) 0 i5 r5) i5 r5 (.slice a7 ds.length c7) (own_ch (far2 _ _) (own_base h54 (by omega)) (fun b e x => by have := (World.ownsRow.lt h54 b e).1; omega)) (own_ch (far2 _ _) (own_base h51 (by omega)) (fun b e x => by have := (World.ownsRow.lt h51 b e).1; omega)) (own_ch (far2 _ _) (own_base (OI.below I4.out hb5) (by omega)) (fun b e x => by have := (World.ownsRow.lt I4.out b e).1; omega)) ((far2 _ _).below B5.out B5.out.size (fun b e => by omega))))
    obtain ⟨a8, c8, rfl⟩ := h54.slice
    obtain ⟨a9, c9, rfl⟩ := h51.slice
    obtain ⟨p0, p1, pf⟩ := HG5.out.two
    clear h54 h51 hb5 n0 n1
    go_wp2
    exact bodyPost_ret (ret_S Try.results29 rfl rfl rfl HF.out.1) rfl HF.out.2
  · have HF := Lib.hid (And.intro (HG2.out.set2 (.slice none 0 0) (.slice none 0 0)) (HNO.out (set2 w2 (W.heap.size + 1) 0 (.slice none 0 0) (.slice none 0 0)) (.slice none 0 0) hC (OI.nil _ _) ((far2 _ _).below B2.out B2.out.size (fun b e => by omega))))
    have hCb : (C != 0) = true := by simp [hC]
    clear HYE HZ HNO
    go_wp2
    exact bodyPost_ret (ret_S Try.results29 rfl rfl rfl HF.out.1) rfl HF.out.2
end Go.Proofs.Ytkdmlpclioeniaa.Qu
