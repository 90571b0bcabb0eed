
/-
  Batch, the model's and the program's, walked.
-/
import Derived.Test.YtkdmlpclioeniaaQuP
namespace Go.Proofs.Ytkdmlpclioeniaa.Qu
open Go.RowKit
open Go.Proofs.Ytkdmlpclioeniaa.Tx
theorem take_news {S : Nat → Prop} {w : World} {a : Option Addr} {n c : Nat} {xs : List Rep} (h : RpIn S w (.slice a n c) xs) (m : Nat) (hm : m ≤ xs.length) : 0 < m → ∃ ad, a = some ad ∧ ∀ j u, (rpC (xs.take m))[j]? = some u → w.cell? (ad.add j) = some u := by
  obtain ⟨a', c', e, h2⟩ := rp_news (h.take m hm)
  injection e with e1 e2 e3
  subst e1
  intro h0
  exact h2 (by simp; omega)
theorem newB_no {W w' : World} {q : Q} {v : Value} (h : quB q = false) (ho : O4 w' W.heap.size v []) (hb : Below W.heap.size W w') : NewB W q (.returned (.tuple #[v, .int .i64 1])) w' := by
  have h1 : batC q = 1 := by unfold batC; rw [h]; rfl
  have h2 : batR q = [] := by unfold batR; rw [h]; rfl
  exact ⟨v, by rw [h1], by rw [h2]; exact ho, hb⟩
theorem newB_yes {W w' : World} {q : Q} {v : Value} {m : Nat} (h : quB q = true) (hm : m = min q.items.length 3) (ho : O4 w' W.heap.size v (q.items.take m)) (hb : Below W.heap.size W w') : NewB W q (.returned (.tuple #[v, .int .i64 0])) w' := by
  have h1 : batC q = 0 := by unfold batC; rw [h]; rfl
  have h2 : batR q = q.items.take m := by unfold batR; rw [h, hm, take_min]; rfl
  exact ⟨v, by rw [h1], by rw [h2]; exact ho, hb⟩
set_option maxRecDepth 100000 in
set_option maxHeartbeats 2000000 in
theorem batI_any (B : Nat) (w0 : World) (q : Q) (iv rv : Value) (hi : RpIn (· < B) w0 iv q.items) (hr : TxtsIn (· < B) w0 rv q.recent) (hl : ∀ i, i < q.items.length → (q.items.getD i default).body.length ≤ 1048576) (hn : q.items.length ≤ 1048576) (W : World) (hb : Below B w0 W) (hB : B ≤ W.heap.size) :
    Calls Try.prog 23 #[qV iv rv] W (NewB W q) := by
  have HK := Lib.hid (fun W' h1 h2 => quI_any B w0 q iv rv hi hr W' h1 h2)
  have HNO := Lib.hid (fun (w' : World) (v : Value) (h : quB q = false) ho hb => newB_no (W := W) (w' := w') (q := q) (v := v) h ho hb)
  obtain ⟨m, hm⟩ : ∃ m, m = min q.items.length 3 := ⟨_, rfl⟩
  have HYES := Lib.hid (fun (w' : World) (v : Value) (h : quB q = true) ho hb => newB_yes (W := W) (w' := w') (q := q) (v := v) h hm ho hb)
  generalize NewB W q = PST at *
  obtain ⟨a1, c1, rfl⟩ := hi.slice2
  have hcap : q.items.length ≤ c1 ∧ c1 ≤ 9223372036854775807 := by obtain ⟨_, cap, _, _, e, h1, h2, _⟩ := hi; injection e with e1 e2 e3; subst e3; exact ⟨h1, h2⟩
  have hmc : (m : Int) ≤ (c1 : Int) := by omega
  obtain ⟨a2, l2, c2, rfl⟩ := hr.slice
  have HBL := Lib.hid (fun W' => bl_any (.slice a1 q.items.length c1) (.slice a2 l2 c2) q.items.length a1 c1 rfl ⟨_, _, _, rfl⟩ W' hn)
  have hlt : (q.items.take m).length = m := by simp; omega
  have HCL := Lib.hid (fun W' h1 h2 => cloneR_any B w0 (q.items.take m) (.slice a1 m c1) (hi.take m (by omega)) (by omega) W' h1 h2)
  have HOW := Lib.hid (fun W' base v h => ownR_any base v (q.items.take m) W' h (fun i h => by
    have e : (q.items.take m).getD i default = q.items.getD i default := by simp [List.getD, show i < m by omega]
    rw [e]; exact hl i (by omega)) (by omega))
  rw [← hm] at HBL
  generalize q.items.take m = R at *
  have HB := Lib.hid hb
  have HK0 := Lib.hid (Hd.new W (iqO (.slice a1 q.items.length c1) (.slice a2 l2 c2)))
  have BF := Lib.hid ((Below.refl W.heap.size W).alloc (Nat.le_refl _) (iqO (.slice a1 q.items.length c1) (.slice a2 l2 c2)))
  clear hi hr hb hl hm hlt
  generalize q.items.length = n at *
  obtain ⟨r, hr0⟩ : ∃ r, quB q = r := ⟨_, rfl⟩
  rw [hr0] at HK HNO HYES
  clear hr0
  go_enter Try.func23, Try.ntmps23
  go_wp2_with fail
  refine (HK.out _ (HB.out.alloc hB _) (by simp; omega)).mono ?_
  rintro e w1 ⟨rfl, hb1⟩
  have HK1 := Lib.hid (HK0.out.blw hb1)
  have B1 := Lib.hid (below_chain BF.out hb1)
  have z1 := HK1.out.lt
  clear hb1
  cases r with
  | false =>
    have HF := Lib.hid (HNO.out w1 (.slice none 0 0) (by simp) (O4.nil _ _) B1.out)
    go_wp2
    exact HF.out
  | true =>
    have HS := Lib.hid (fun (wx : World) (h : Below w1.heap.size w1 wx) => And.intro ((h.cell (p := ⟨W.heap.size, 0, none⟩) z1).trans HK1.out.two.1) (And.intro ((h.cell (p := ⟨W.heap.size, 1, none⟩) z1).trans HK1.out.two.2.1) (And.intro (Nat.lt_of_lt_of_le z1 h.size) h)))
    have HD := Lib.hid (fun (wx : World) (h : Below w1.heap.size w1 wx) => And.intro (HB.out.trans ((B1.out.trans (h.mono B1.out.size)).mono hB)) (Nat.le_trans (Nat.le_trans hB B1.out.size) h.size))
    go_wp2_with fail
    go_region_held3 (fun wx => wx.cell? ⟨W.heap.size, 0, none⟩ = some (.slice a1 n c1) ∧ wx.cell? ⟨W.heap.size, 1, none⟩ = some (.slice a2 l2 c2) ∧ W.heap.size < wx.heap.size ∧ Below w1.heap.size w1 wx)
      (first
        | (exact HS.out _ (Below.drew (Below.refl _ _)))
        | (go_split_ands; exact HS.out _ (belI_step (by assumption) hb))
        | (go_split_ands; exact HS.out _ hq))
      (first
        | (have hh := ho3; go_split_ands; go_at_call 56; refine (HOW.out _ _ _ ho3).mono ?_; rintro e w4 ⟨rfl, ho4, hg⟩; have hq : Below w1.heap.size w1 w4 := Below.grown (by assumption) hg (Below.size (by assumption)) (fun k e => Nat.le_trans hz3 (World.ownsRow.lt ho3 k e).1))
        | (go_split_ands; go_at_call 58; refine (HBL.out _).mono ?_; rintro e w2 ⟨rfl, hb⟩)
        | (go_split_ands; go_at_call 57; have hd := HD.out _ (by assumption); refine (HCL.out _ hd.1 hd.2).mono ?_; clear hd; have hz3 : w1.heap.size ≤ _ := Below.size (by assumption); rintro e w3 ⟨v3, rfl, ho3, hb⟩))
    all_goals
      go_split_ands
      have HF := Lib.hid (HYES.out _ _ (by simp) (ho4.base (Nat.le_trans B1.out.size hz3)) (below_chain B1.out hq))
      obtain ⟨a5, c5, rfl⟩ := ho4.slice
      clear ho4 ho3
      go_wp2
      exact HF.out
set_option maxRecDepth 100000 in
theorem lB_any (iv rv : Value) (n m : Nat) (a : Option Addr) (c : Nat) (hv : iv = .slice a n c) (hr : ∃ a l c, rv = .slice a l c) (w : World) (hn : n ≤ 1048576) (hm : m = min n 3) (hc : n ≤ c) :
    Calls Try.prog 55 #[qV iv rv] w fun e w' => e = .returned (.slice a m c) ∧ Below w.heap.size w w' := by
  subst hv
  obtain ⟨a2, l2, c2, rfl⟩ := hr
  have BF := Lib.hid ((Below.refl w.heap.size w).alloc (Nat.le_refl _) (iqO (.slice a n c) (.slice a2 l2 c2)))
  by_cases h : n ≤ 3
  · obtain rfl : m = n := by omega
    have e1 : min (m : Int) 3 = (m : Int) := by omega
    have hmc : (m : Int) ≤ (c : Int) := by omega
    clear hm
    go_enter Try.func55, Try.ntmps55
    go_wp2
    go_ret
    exact ⟨rfl, BF.out⟩
  · obtain rfl : m = 3 := by omega
    have e1 : min (n : Int) 3 = 3 := by omega
    have hmc : (3 : Int) ≤ (c : Int) := by omega
    clear hm
    go_enter Try.func55, Try.ntmps55
    go_wp2
    go_ret
    exact ⟨rfl, BF.out⟩
set_option maxRecDepth 100000 in
set_option maxHeartbeats 2000000 in
theorem batS_any (B : Nat) (w0 : World) (q : Q) (iv rv : Value) (hi : RpIn (· < B) w0 iv q.items) (hr : TxtsIn (· < B) w0 rv q.recent) (hn : q.items.length ≤ 1048576) (W : World) (hb : Below B w0 W) (hB : B ≤ W.heap.size) :
    Calls Try.prog 22 #[qV iv rv] W (NewB W q) := by
  have HK := Lib.hid (fun W' h1 h2 => quS_any B w0 q iv rv hi hr W' h1 h2)
  have HNO := Lib.hid (fun (w' : World) (v : Value) (h : quB q = false) ho hb => newB_no (W := W) (w' := w') (q := q) (v := v) h ho hb)
  obtain ⟨m, hm⟩ : ∃ m, m = min q.items.length 3 := ⟨_, rfl⟩
  have HYES := Lib.hid (fun (w' : World) (v : Value) (h : quB q = true) ho hb => newB_yes (W := W) (w' := w') (q := q) (v := v) h hm ho hb)
  generalize NewB W q = PST at *
  obtain ⟨a1, c1, rfl⟩ := hi.slice2
  have hcap : q.items.length ≤ c1 ∧ c1 ≤ 9223372036854775807 := by obtain ⟨_, cap, _, _, e, h1, h2, _⟩ := hi; injection e with e1 e2 e3; subst e3; exact ⟨h1, h2⟩
  obtain ⟨a2, l2, c2, rfl⟩ := hr.slice
  have HBL := Lib.hid (fun W' => lB_any (.slice a1 q.items.length c1) (.slice a2 l2 c2) q.items.length m a1 c1 rfl ⟨_, _, _, rfl⟩ W' hn hm hcap.1)
  have hlt : (q.items.take m).length = m := by simp; omega
  have HNW := Lib.hid (fun (W' : World) (h : Below B w0 W') => take_news (hi.blw h) m (by omega))
  have hms : m ≤ 3 := by omega
  have hcl : (rpC (q.items.take m)).length = m * 4 := by rw [rpC_len, hlt]
  have HO1 := Lib.hid (rpC_one (q.items.take m))
  have HOW := Lib.hid (fun (w : World) base v (h : w.ownsRow base 26 4 v m (rpC (q.items.take m))) => show O4 w base v (q.items.take m) from by unfold O4; rw [hlt]; exact h)
  generalize q.items.take m = R at *
  have HB := Lib.hid hb
  have HK0 := Lib.hid (Hd.new W (iqO (.slice a1 q.items.length c1) (.slice a2 l2 c2)))
  have BF := Lib.hid ((Below.refl W.heap.size W).alloc (Nat.le_refl _) (iqO (.slice a1 q.items.length c1) (.slice a2 l2 c2)))
  obtain ⟨i0, hi0, hz0, hz1, hz2⟩ := info_parts Try.infoRp
  clear hi hr hb hlt hm
  generalize q.items.length = n at *
  obtain ⟨r, hr0⟩ : ∃ r, quB q = r := ⟨_, rfl⟩
  rw [hr0] at HK HNO HYES
  clear hr0
  go_enter Try.func22, Try.ntmps22
  go_wp2_with fail
  refine (HK.out _ (HB.out.alloc hB _) (by simp; omega)).mono ?_
  rintro e w1 ⟨rfl, hb1⟩
  have HK1 := Lib.hid (HK0.out.blw hb1)
  have B1 := Lib.hid (below_chain BF.out hb1)
  have z1 := HK1.out.lt
  have y1 := B1.out.size
  clear hb1
  cases r with
  | false =>
    have HF := Lib.hid (HNO.out _ _ (by simp) ((O4_made w1).base B1.out.size) (belI_alloc (o := .cells #[] 26) B1.out))
    go_wp2
    exact HF.out
  | true =>
    obtain ⟨m0, m1, -⟩ := (HK1.out.al (.cells #[] 26)).two
    have BA := Lib.hid ((Below.refl w1.heap.size w1).alloc (Nat.le_refl _) (.cells #[] 26))
    go_wp2_with fail
    refine (HBL.out _).mono ?_
    rintro e w2 ⟨rfl, hb2⟩
    have B12 := Lib.hid (below_chain BA.out hb2)
    have HON := Lib.hid ((O4_made w1).below hb2)
    have HN2 := Lib.hid (HNW.out w2 (HB.out.trans ((below_chain B1.out B12.out).mono hB)))
    have y2 := B12.out.size
    clear hb2 m0 m1
    go_wp2_with (at_builtin; refine App.wpList_app_any _ rfl _ _ 35 rfl w1.heap.size 26 i0 _ 4 40 Try.underlying35 hi0 hz0 hz1 hz2 rfl (by omega) _ 0 [] rfl HON.out a1 m c1 (rpC R) rfl HN2.out hcl HO1.out (by omega) (by omega) y2 ?_; intro l' w4 hown' hgrow hplace; rw [Nat.zero_add] at hown'; have HF := Lib.hid (HYES.out w4 l' (by simp) (HOW.out _ _ _ (own_base hown' y1)) ((below_chain B1.out B12.out).grown hgrow (Nat.le_trans y1 y2) (fun b e => by cases e; exact y1))); obtain ⟨a7, c7, rfl⟩ := own_slice hown'; clear hown' hgrow hplace)
    exact HF.out
end Go.Proofs.Ytkdmlpclioeniaa.Qu
