
/-
  The code of a batch, the program's and the model's; the Ids of a list; Settle, both.
-/
import Derived.Test.YtkdmlpclioeniaaQuZ
import Derived.Test.YtkdmlpclioeniaaUrlSpecA
namespace Go.Proofs.Ytkdmlpclioeniaa.Qu
open Go.RowKit
open Go.Proofs.Ytkdmlpclioeniaa.Tx
def stC (q : Q) (n : Int) : Int := if quB q then (if 0 ≤ n ∧ n ≤ ((min q.items.length 3 : Nat) : Int) then 0 else 4) else 1
theorem stC_no {q : Q} {n : Int} (h : quB q = false) : stC q n = 1 := by unfold stC; rw [h]; rfl
theorem stC_lo {q : Q} {n : Int} (h : quB q = true) (h2 : n < 0) : stC q n = 4 := by unfold stC; rw [h, if_pos rfl, if_neg (by omega)]
theorem stC_hi {q : Q} {n : Int} (h : quB q = true) (h2 : ((min q.items.length 3 : Nat) : Int) < n) : stC q n = 4 := by unfold stC; rw [h, if_pos rfl, if_neg (by omega)]
theorem stC_ok {q : Q} {n : Int} (h : quB q = true) (h1 : 0 ≤ n) (h2 : n ≤ ((min q.items.length 3 : Nat) : Int)) : stC q n = 0 := by unfold stC; rw [h, if_pos rfl, if_pos ⟨h1, h2⟩]
set_option maxRecDepth 100000 in
set_option maxHeartbeats 2000000 in
theorem bcI_any (B : Nat) (w0 : World) (q : Q) (n : Int) (iv rv : Value) (hi : RpIn (· < B) w0 iv q.items) (hr : TxtsIn (· < B) w0 rv q.recent) (hn : q.items.length ≤ 1048576) (W : World) (hb : Below B w0 W) (hB : B ≤ W.heap.size) :
    Calls Try.prog 65 #[qV iv rv, .int .i64 n] W fun e w' => e = .returned (.int .i64 (stC q n)) ∧ Below W.heap.size W w' := by
  have HK := Lib.hid (fun W' h1 h2 => quI_any B w0 q iv rv hi hr W' h1 h2)
  have HNO := Lib.hid (fun h => stC_no (q := q) (n := n) h)
  have HLO := Lib.hid (fun h h2 => stC_lo (q := q) (n := n) h h2)
  have HHI := Lib.hid (fun h h2 => stC_hi (q := q) (n := n) h h2)
  have HOK := Lib.hid (fun h h1 h2 => stC_ok (q := q) (n := n) h h1 h2)
  generalize stC q n = C at *
  obtain ⟨a1, c1, rfl⟩ := hi.slice2
  obtain ⟨a2, l2, c2, rfl⟩ := hr.slice
  have HBL := Lib.hid (fun W' => bl_any (.slice a1 q.items.length c1) (.slice a2 l2 c2) q.items.length a1 c1 rfl ⟨_, _, _, rfl⟩ W' hn)
  generalize min q.items.length 3 = m at *
  have HB := Lib.hid hb
  have HK0 := Lib.hid (Hd.new W (iqO (.slice a1 q.items.length c1) (.slice a2 l2 c2)))
  have BF := Lib.hid ((Below.refl W.heap.size W).alloc (Nat.le_refl _) (iqO (.slice a1 q.items.length c1) (.slice a2 l2 c2)))
  clear hi hr hb
  generalize q.items.length = l1 at *
  obtain ⟨r, hr0⟩ : ∃ r, quB q = r := ⟨_, rfl⟩
  rw [hr0] at HK HNO HLO HHI HOK
  clear hr0
  go_enter Try.func65, Try.ntmps65
  go_wp2_with fail
  refine (HK.out _ (HB.out.alloc hB _) (by simp; omega)).mono ?_
  rintro e w1 ⟨rfl, hb1⟩
  have HK1 := Lib.hid (HK0.out.blw hb1)
  have B1 := Lib.hid (below_chain BF.out hb1)
  obtain ⟨m0, m1, -⟩ := HK1.out.two
  clear hb1
  cases r with
  | false =>
    have e1 := HNO.out (by simp)
    clear HNO HLO HHI HOK
    subst e1
    go_wp2
    go_ret
    exact ⟨rfl, B1.out⟩
  | true =>
    by_cases h1 : n < 0
    · have e1 := HLO.out (by simp) h1
      have h1' : decide (n < 0) = true := decide_eq_true h1
      clear HNO HLO HHI HOK
      subst e1
      go_wp2
      go_ret
      exact ⟨rfl, B1.out⟩
    · have h1' : decide (n < 0) = false := decide_eq_false h1
      by_cases h2 : (m : Int) < n
      · have e1 := HHI.out (by simp) h2
        clear HNO HLO HHI HOK
        subst e1
        go_wp2_with fail
        refine (HBL.out _).mono ?_
        rintro e w2 ⟨rfl, hb2⟩
        have B2 := Lib.hid (below_chain B1.out hb2)
        clear hb2
        go_wp2
        go_ret
        exact ⟨rfl, B2.out⟩
      · have e1 := HOK.out (by simp) (by omega) (by omega)
        clear HNO HLO HHI HOK
        subst e1
        go_wp2_with fail
        refine (HBL.out _).mono ?_
        rintro e w2 ⟨rfl, hb2⟩
        have B2 := Lib.hid (below_chain B1.out hb2)
        clear hb2
        go_wp2
        go_ret
        exact ⟨rfl, B2.out⟩
set_option maxRecDepth 100000 in
set_option maxHeartbeats 2000000 in
theorem askS_any (B : Nat) (w0 : World) (q : Q) (n : Int) (iv rv : Value) (hi : RpIn (· < B) w0 iv q.items) (hr : TxtsIn (· < B) w0 rv q.recent) (hn : q.items.length ≤ 1048576) (W : World) (hb : Below B w0 W) (hB : B ≤ W.heap.size) :
    Calls Try.prog 62 #[qV iv rv, .int .i64 n] W fun e w' => e = .returned (.int .i64 (stC q n)) ∧ Below W.heap.size W w' := by
  have HK := Lib.hid (fun W' h1 h2 => quS_any B w0 q iv rv hi hr W' h1 h2)
  have HNO := Lib.hid (fun h => stC_no (q := q) (n := n) h)
  have HOT := Lib.hid (fun (h : quB q = true) (h2 : ¬ (0 ≤ n ∧ n ≤ ((min q.items.length 3 : Nat) : Int))) => show stC q n = 4 by unfold stC; rw [h, if_pos rfl, if_neg h2])
  have HOK := Lib.hid (fun (h : quB q = true) (h2 : 0 ≤ n ∧ n ≤ ((min q.items.length 3 : Nat) : Int)) => stC_ok (q := q) (n := n) h h2.1 h2.2)
  generalize stC q n = C at *
  obtain ⟨a1, c1, rfl⟩ := hi.slice2
  have hcap : q.items.length ≤ c1 ∧ c1 ≤ 9223372036854775807 := by obtain ⟨_, cap, _, _, e, h1, h2, _⟩ := hi; injection e with e1 e2 e3; subst e3; exact ⟨h1, h2⟩
  obtain ⟨a2, l2, c2, rfl⟩ := hr.slice
  have HBL := Lib.hid (fun W' => lB_any (.slice a1 q.items.length c1) (.slice a2 l2 c2) q.items.length (min q.items.length 3) a1 c1 rfl ⟨_, _, _, rfl⟩ W' hn rfl hcap.1)
  generalize min q.items.length 3 = m at *
  have HIN := Lib.hid (fun W' => Ul.in_any n 0 (m : Int) W')
  have HB := Lib.hid hb
  have HK0 := Lib.hid (Hd.new W (iqO (.slice a1 q.items.length c1) (.slice a2 l2 c2)))
  have BF := Lib.hid ((Below.refl W.heap.size W).alloc (Nat.le_refl _) (iqO (.slice a1 q.items.length c1) (.slice a2 l2 c2)))
  clear hi hr hb hcap
  generalize q.items.length = l1 at *
  obtain ⟨r, hr0⟩ : ∃ r, quB q = r := ⟨_, rfl⟩
  rw [hr0] at HK HNO HOT HOK
  clear hr0
  go_enter Try.func62, Try.ntmps62
  go_wp2_with fail
  refine (HK.out _ (HB.out.alloc hB _) (by simp; omega)).mono ?_
  rintro e w1 ⟨rfl, hb1⟩
  have HK1 := Lib.hid (HK0.out.blw hb1)
  have B1 := Lib.hid (below_chain BF.out hb1)
  obtain ⟨m0, m1, -⟩ := HK1.out.two
  clear hb1
  cases r with
  | false =>
    have e1 := HNO.out (by simp)
    clear HNO HOT HOK
    subst e1
    go_wp2
    go_ret
    exact ⟨rfl, B1.out⟩
  | true =>
    go_wp2_with fail
    refine (HBL.out _).mono ?_
    rintro e w2 ⟨rfl, hb2⟩
    have B2 := Lib.hid (below_chain B1.out hb2)
    clear hb2
    by_cases h2 : 0 ≤ n ∧ n ≤ (m : Int)
    · have e1 := HOK.out (by simp) h2
      have HI2 := Lib.hid (Ul.in_yes n 0 (m : Int) w2 h2)
      clear HNO HOT HOK h2
      subst e1
      go_wp2_with fail
      refine HI2.out.mono ?_
      rintro e w3 ⟨rfl, rfl⟩
      go_wp2
      go_ret
      exact ⟨rfl, B2.out⟩
    · have e1 := HOT.out (by simp) h2
      have HI2 := Lib.hid (Ul.in_no n 0 (m : Int) w2 h2)
      clear HNO HOT HOK h2
      subst e1
      go_wp2_with fail
      refine HI2.out.mono ?_
      rintro e w3 ⟨rfl, rfl⟩
      go_wp2
      go_ret
      exact ⟨rfl, B2.out⟩
def NewIs (W : World) (ds : List Int) (e : Ending) (w' : World) : Prop := ∃ v, e = .returned v ∧ OI w' W.heap.size v ds ∧ Below W.heap.size W w'
set_option maxRecDepth 100000 in
set_option maxHeartbeats 2000000 in
theorem idsS_any (B : Nat) (w0 : World) (xs : List Rep) (iv : Value) (hi : RpIn (· < B) w0 iv xs) (hn : xs.length ≤ 1048576) (W : World) (hb : Below B w0 W) (hB : B ≤ W.heap.size) :
    Calls Try.prog 64 #[iv] W (NewIs W (idsOf xs)) := by
  obtain ⟨a1, c1, rfl⟩ := hi.slice2
  have HI := Lib.hid (hi.blw hb)
  have H0 := Lib.hid (show OI (W.alloc (.cells #[] 3)) W.heap.size (.slice (some ⟨W.heap.size, 0, none⟩) 0 0) (idsOf (xs.take 0)) from OI_made W)
  have B0 := Lib.hid ((Below.refl W.heap.size W).alloc (Nat.le_refl _) (.cells #[] 3))
  obtain ⟨i0, hi0, hz0, hz1, hz2⟩ := info_parts Try.infoInt
  clear hi hb
  go_enter Try.func64, Try.ntmps64
  go_wp2
  go_loopw [3, 4] (fun v iv wr => ∃ k : Nat, k ≤ xs.length ∧ iv = .int .i64 k ∧ OI wr W.heap.size v (idsOf (xs.take k)) ∧ Below W.heap.size W wr) (fun _ iv _ => xs.length - (intOf iv).toNat)
  case atStart => exact ⟨0, by omega, rfl, H0.out, B0.out⟩
  case round =>
    obtain ⟨k, hk, rfl, hS, hbr⟩ := hrel
    have HS := Lib.hid hS
    have HB := Lib.hid hbr
    by_cases hlt : k < xs.length
    · have ht : idsOf (xs.take (k + 1)) = idsOf (xs.take k) ++ [(xs.getD k default).id] := by
        unfold idsOf
        rw [List.take_succ_eq_append_getElem hlt, List.map_append]
        simp [List.getD, hlt]
      have HT := Lib.hid ht
      have HLN := Lib.hid (show (idsOf (xs.take k)).length = k by simp [idsOf]; omega)
      obtain ⟨a, cap, b, off, e, h1, h2, h3, h4, h5⟩ := HI.out.blw (hbr.mono hB)
      injection e with e1 e2 e3
      subst e3
      obtain ⟨rfl, -⟩ := h4 (by omega)
      subst e1
      obtain ⟨q0, q1, q2, q3⟩ := h5 k hlt
      clear ht
      generalize xs.getD k default = x at *
      generalize idsOf (xs.take k) = ds at *
      obtain ⟨a5, c5, rfl⟩ := hS.slice
      clear hS hbr q1 q2 q3 h3 h4 h5 e2
      have HA := Lib.hid (own_al HS.out (.cells #[.int .i64 x.id] 3))
      go_wp2_with (at_builtin; refine wpList_append_own _ rfl _ _ 47 rfl W.heap.size 3 i0 (.int .i64 0) 1 8 Try.underlying47 hi0 hz0 hz1 hz2 rfl (by decide) _ _ _ rfl HA.out ⟨wr.heap.size, 0, none⟩ 1 1 [.int .i64 x.id] rfl rfl (cell_one_new _ _ _) (one_int _) (by have := HLN.out; unfold maxLen; omega) (by have := HLN.out; omega) (by have := HB.out.size; simp; omega) ?_; intro v' w4 hown' hgrow hplace; have HN := Lib.hid (HT.out ▸ OI.snoc hown'); have HB4 := Lib.hid ((belI_alloc HB.out).grown hgrow (by have := HB.out.size; simp; omega) (fun g e => (World.ownsRow.lt HS.out g e).1)); obtain ⟨a7, c7, rfl⟩ := own_slice hown'; clear hown' hgrow hplace)
      go_roundw
      case rel => exact ⟨k + 1, by omega, by go_num, HN.out, HB4.out⟩
      case measure => simp [intOf]; omega
    · obtain rfl : k = xs.length := by omega
      rw [List.take_length] at hS
      have HF := Lib.hid (show NewIs W (idsOf xs) (.returned u3) wr from ⟨_, rfl, hS, hbr⟩)
      generalize NewIs W (idsOf xs) = PST at *
      generalize idsOf xs = ds at *
      obtain ⟨a5, c5, rfl⟩ := hS.slice
      clear hS hbr
      go_wp2
      exact HF.out
end Go.Proofs.Ytkdmlpclioeniaa.Qu
