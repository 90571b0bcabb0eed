import Derived.Test.YtmaknkbmilcanaaGreatDoorSpI
import Derived.Test.YtmaknkbmilcanaaGreatDoorPlA
import Derived.Test.YtmaknkbmilcanaaGreatDoorPiS
namespace Go.Proofs.YtmaknkbmilcanaaGreatDoor.Pi
open Go.RowKit
open Go.Proofs.YtmaknkbmilcanaaGreatDoor.Tx (TxtsIn ret_b)
open Go.Proofs.YtmaknkbmilcanaaGreatDoor.Gr (Tg Gp gpB same3 same3_eq sameG)
open Go.Proofs.YtmaknkbmilcanaaGreatDoor.Pe (Pr PrIn)
open Go.Proofs.YtmaknkbmilcanaaGreatDoor.Qu (Rep Q quB samB samB_eq saQ Hd)
open Go.Proofs.YtmaknkbmilcanaaGreatDoor.Po (Pl RlIn belI_step belI_alloc tK)
theorem pol_of_text {p q : Pl} (hp : Po.plB p = true) (hq : Po.plB q = true) (h : tK p.rules p.rules.length = tK q.rules q.rules.length) : p = q := by
  have a1 := Pl.tK_as p.rules _ (Nat.le_refl _)
  have a2 := Pl.tK_as q.rules _ (Nat.le_refl _)
  rw [List.take_length] at a1 a2
  unfold Po.plB at hp hq
  simp only [Bool.and_eq_true, beq_iff_eq, decide_eq_true_eq] at hp hq
  have r1 := Pl.read_tG p.rules hp.2.1
  have r2 := Pl.read_tG q.rules hq.2.1
  rw [← a1, h, a2, r2] at r1
  obtain ⟨a, b, c⟩ := p
  obtain ⟨d, e, f⟩ := q
  simp only at r1 hp hq
  subst r1
  obtain ⟨-, -, h1, h2⟩ := hp
  obtain ⟨-, -, h3, h4⟩ := hq
  rw [h1, h2, h3, h4]
theorem chS_eq {x y : Cn} (h : chS x y = true) : x = y := by
  obtain ⟨g, ps, q⟩ := x
  obtain ⟨g', ps', q'⟩ := y
  simp only [chS, Bool.and_eq_true, beq_iff_eq] at h
  rw [same3_eq h.1, h.2.1, samB_eq h.2.2]
theorem chS_self (x : Cn) : chS x x = true := by simp [chS, same3, samB]
theorem chSs_eq : ∀ {xs ys : List Cn}, chSs xs ys = true → xs = ys
  | [], [], _ => rfl
  | [], _ :: _, h => by simp [chSs] at h
  | _ :: _, [], h => by simp [chSs] at h
  | x :: xs, y :: ys, h => by
    simp only [chSs, Bool.and_eq_true] at h
    rw [chS_eq h.1, chSs_eq h.2]
theorem chSs_self : ∀ xs : List Cn, chSs xs xs = true
  | [] => rfl
  | x :: xs => by simp [chSs, chS_self, chSs_self xs]
theorem chE_S {x y : Cn} (h : chE x y = true) : chS x y = true := by
  simp only [chE, sameG, saQ, Bool.and_eq_true] at h
  simp only [chS, Bool.and_eq_true]
  exact ⟨h.1.2, h.2.1, h.2.2.2⟩
theorem chEs_eq : ∀ {xs ys : List Cn}, chEs xs ys = true → xs = ys
  | [], [], _ => rfl
  | [], _ :: _, h => by simp [chEs] at h
  | _ :: _, [], h => by simp [chEs] at h
  | x :: xs, y :: ys, h => by
    simp only [chEs, Bool.and_eq_true] at h
    rw [chS_eq (chE_S h.1), chEs_eq h.2]
theorem chEs_self (now next : Int) : ∀ (xs pre : List Cn), chsB now next pre xs = true → chEs xs xs = true
  | [], _, _ => rfl
  | x :: xs, pre, h => by
    simp only [chsB, Bool.and_eq_true] at h
    have hc := h.1.1
    simp only [chB, Bool.and_eq_true] at hc
    have hs := chS_self x
    simp only [chS, Bool.and_eq_true] at hs
    simp only [chEs, chE, sameG, saQ, Bool.and_eq_true]
    exact ⟨⟨⟨hc.1, hs.1⟩, hs.2.1, hc.2.2.1, hs.2.2⟩, chEs_self now next xs _ h.2⟩
theorem spB_iff (p q : Pp) : spB p q = true ↔ (ppB p = true ∧ p = q) := by
  constructor
  · intro h
    simp only [spB, Bool.and_eq_true, decide_eq_true_eq, beq_iff_eq] at h
    obtain ⟨h0, h1, h2, h3, h4, h5, h6⟩ := h
    refine ⟨h0, ?_⟩
    have e3 := plE_eq.1 h3
    have e4 := chEs_eq h4
    obtain ⟨a, b, c, d, e, f⟩ := p
    obtain ⟨a', b', c', d', e', f'⟩ := q
    simp only at h1 h2 h5 h6 e3 e4
    subst h1 h2 h5 h6 e3 e4
    rfl
  · rintro ⟨h0, rfl⟩
    have hh := h0
    simp only [ppB, Bool.and_eq_true] at hh
    have hc := chEs_self _ _ _ _ hh.2.2.2.1.2
    simp only [spB, Bool.and_eq_true, decide_eq_true_eq, beq_iff_eq]
    exact ⟨h0, by simp, by simp, plE_eq.2 rfl, hc, by simp, by simp⟩
theorem pp_pol {p : Pp} (h : ppB p = true) : Po.plB p.pol = true := by
  simp only [ppB, Bool.and_eq_true] at h
  exact h.2.2.1
theorem sp_both (p q : Pp) : (ppB p && (ppB q && lsB p q)) = spB p q := by
  rw [Bool.eq_iff_iff, spB_iff]
  simp only [Bool.and_eq_true]
  constructor
  · rintro ⟨h0, h1, h⟩
    refine ⟨h0, ?_⟩
    simp only [lsB, Bool.and_eq_true, decide_eq_true_eq, beq_iff_eq] at h
    obtain ⟨-, ht, hn, hx, -, -, hc, hl, hw⟩ := h
    have e3 := pol_of_text (pp_pol h0) (pp_pol h1) ht
    have e4 := chSs_eq hc
    obtain ⟨a, b, c, d, e, f⟩ := p
    obtain ⟨a', b', c', d', e', f'⟩ := q
    simp only at hn hx hl hw e3 e4
    subst hn hx hl hw e3 e4
    rfl
  · rintro ⟨h0, rfl⟩
    refine ⟨h0, h0, ?_⟩
    simp [lsB, chSs_self]
set_option maxRecDepth 100000 in
set_option maxHeartbeats 8000000 in
theorem spS_any (B : Nat) (w0 : World) (p q : Pp) (u u' : PV) (h : PpN (· < B) w0 u p) (h' : PpN (· < B) w0 u' q) (sm : Sm p) (sm' : Sm q) (W : World) (hb : Below B w0 W) (hB : B ≤ W.heap.size) :
    Calls Tryz.prog 36 #[pV8 p u, pV8 q u'] W fun e w' => e = .returned (.bool (spB p q)) ∧ Below W.heap.size W w' := by
  rw [← sp_both]
  obtain ⟨b1, hb1⟩ : ∃ b1, ppB p = b1 := ⟨_, rfl⟩
  obtain ⟨b2, hb2⟩ : ∃ b2, ppB q = b2 := ⟨_, rfl⟩
  have HO := Lib.hid (fun (W' : World) (hb : Below B w0 W') (hB : B ≤ W'.heap.size) => show Calls Tryz.prog 61 #[pV8 p u] W' (fun e w' => e = .returned (.bool b1) ∧ Below W'.heap.size W' w') from by subst hb1; exact ok08_any B w0 p u h sm W' hb hB)
  have HO2 := Lib.hid (fun (W' : World) (hb : Below B w0 W') (hB : B ≤ W'.heap.size) => show Calls Tryz.prog 61 #[pV8 q u'] W' (fun e w' => e = .returned (.bool b2) ∧ Below W'.heap.size W' w') from by subst hb2; exact ok08_any B w0 q u' h' sm' W' hb hB)
  have HLS := Lib.hid (fun (e1 : b1 = true) (e2 : b2 = true) W' a b => ls_any B w0 p q u u' h h' (Po.fit8_of p.pol sm.pol (pp_pol (hb1.trans e1))) (Po.fit8_of q.pol sm'.pol (pp_pol (hb2.trans e2))) W' a b)
  have HB := Lib.hid hb
  rw [hb1, hb2]
  clear hb1 hb2 sm sm' hb
  generalize lsB p q = b3 at *
  obtain ⟨ch1, ⟨rp1, ur1, rl1⟩, now1, nx1, lo1, wi1⟩ := p
  obtain ⟨ch2, ⟨rp2, ur2, rl2⟩, now2, nx2, lo2, wi2⟩ := q
  obtain ⟨u1, u2, u3, u4, u5⟩ := u
  obtain ⟨v1, v2, v3, v4, v5⟩ := u'
  obtain ⟨h1, h2, h3, h4, h5⟩ := h
  obtain ⟨k1, k2, k3, k4, k5⟩ := h'
  simp only at h1 h2 h3 h4 h5 k1 k2 k3 k4 k5
  obtain ⟨a1, l1, c1, rfl⟩ := h1.slice
  obtain ⟨d1, m1, f1, rfl⟩ := h2.slice
  obtain ⟨o1, p1, q1, rfl⟩ := h3.slice
  obtain ⟨r1, s1, t1, rfl⟩ := h4.slice
  obtain ⟨e1, g1, i1, rfl⟩ := h5.slice
  obtain ⟨a2, l2, c2, rfl⟩ := k1.slice
  obtain ⟨d2, m2, f2, rfl⟩ := k2.slice
  obtain ⟨o2, p2, q2, rfl⟩ := k3.slice
  obtain ⟨r2, s2, t2, rfl⟩ := k4.slice
  obtain ⟨e2, g2, i2, rfl⟩ := k5.slice
  clear h1 h2 h3 h4 h5 k1 k2 k3 k4 k5
  obtain ⟨wa, hwa⟩ : ∃ wa, wa = (W.alloc (.cells #[.slice a1 l1 c1, .string ⟨rp1.toArray⟩, .slice d1 m1 f1, .slice o1 p1 q1, .int .i64 now1, .int .i64 nx1, .slice r1 s1 t1, .slice e1 g1 i1] 41)).alloc (.cells #[.slice a2 l2 c2, .string ⟨rp2.toArray⟩, .slice d2 m2 f2, .slice o2 p2 q2, .int .i64 now2, .int .i64 nx2, .slice r2 s2 t2, .slice e2 g2 i2] 41) := ⟨_, rfl⟩
  have BA := Lib.hid (show Below W.heap.size W wa by rw [hwa]; exact ((Below.refl W.heap.size W).alloc (Nat.le_refl _) (.cells #[.slice a1 l1 c1, .string ⟨rp1.toArray⟩, .slice d1 m1 f1, .slice o1 p1 q1, .int .i64 now1, .int .i64 nx1, .slice r1 s1 t1, .slice e1 g1 i1] 41) |>.alloc (by simp) (.cells #[.slice a2 l2 c2, .string ⟨rp2.toArray⟩, .slice d2 m2 f2, .slice o2 p2 q2, .int .i64 now2, .int .i64 nx2, .slice r2 s2 t2, .slice e2 g2 i2] 41)))
  have K0 := Lib.hid (show Hd wa W.heap.size (.cells #[.slice a1 l1 c1, .string ⟨rp1.toArray⟩, .slice d1 m1 f1, .slice o1 p1 q1, .int .i64 now1, .int .i64 nx1, .slice r1 s1 t1, .slice e1 g1 i1] 41) by rw [hwa]; exact (Hd.new W (.cells #[.slice a1 l1 c1, .string ⟨rp1.toArray⟩, .slice d1 m1 f1, .slice o1 p1 q1, .int .i64 now1, .int .i64 nx1, .slice r1 s1 t1, .slice e1 g1 i1] 41)).al (.cells #[.slice a2 l2 c2, .string ⟨rp2.toArray⟩, .slice d2 m2 f2, .slice o2 p2 q2, .int .i64 now2, .int .i64 nx2, .slice r2 s2 t2, .slice e2 g2 i2] 41))
  have K1 := Lib.hid (show Hd wa (W.heap.size + 1) (.cells #[.slice a2 l2 c2, .string ⟨rp2.toArray⟩, .slice d2 m2 f2, .slice o2 p2 q2, .int .i64 now2, .int .i64 nx2, .slice r2 s2 t2, .slice e2 g2 i2] 41) by
    have := Hd.new (W.alloc (.cells #[.slice a1 l1 c1, .string ⟨rp1.toArray⟩, .slice d1 m1 f1, .slice o1 p1 q1, .int .i64 now1, .int .i64 nx1, .slice r1 s1 t1, .slice e1 g1 i1] 41)) (.cells #[.slice a2 l2 c2, .string ⟨rp2.toArray⟩, .slice d2 m2 f2, .slice o2 p2 q2, .int .i64 now2, .int .i64 nx2, .slice r2 s2 t2, .slice e2 g2 i2] 41)
    rw [hwa]
    simpa using this)
  go_enter Tryz.func36, Tryz.ntmps36
  go_upto_region 1 with fail
  rw [← hwa]
  clear hwa
  have kk := K0.out
  have x0 := cell_of_row wa (W.heap.size) 0 _ _ _ kk
  have x1 := cell_of_row wa (W.heap.size) 1 _ _ _ kk
  have x2 := cell_of_row wa (W.heap.size) 2 _ _ _ kk
  have x3 := cell_of_row wa (W.heap.size) 3 _ _ _ kk
  have x4 := cell_of_row wa (W.heap.size) 4 _ _ _ kk
  have x5 := cell_of_row wa (W.heap.size) 5 _ _ _ kk
  have x6 := cell_of_row wa (W.heap.size) 6 _ _ _ kk
  have x7 := cell_of_row wa (W.heap.size) 7 _ _ _ kk
  clear kk
  have kk := K1.out
  have y0 := cell_of_row wa (W.heap.size + 1) 0 _ _ _ kk
  have y1 := cell_of_row wa (W.heap.size + 1) 1 _ _ _ kk
  have y2 := cell_of_row wa (W.heap.size + 1) 2 _ _ _ kk
  have y3 := cell_of_row wa (W.heap.size + 1) 3 _ _ _ kk
  have y4 := cell_of_row wa (W.heap.size + 1) 4 _ _ _ kk
  have y5 := cell_of_row wa (W.heap.size + 1) 5 _ _ _ kk
  have y6 := cell_of_row wa (W.heap.size + 1) 6 _ _ _ kk
  have y7 := cell_of_row wa (W.heap.size + 1) 7 _ _ _ kk
  clear kk
  go_wp2_with fail
  refine (HO.out wa (HB.out.trans (BA.out.mono hB)) (Nat.le_trans hB BA.out.size)).mono ?_
  rintro e w1 ⟨rfl, hb9⟩
  have K0 := Lib.hid (K0.out.blw hb9)
  have K1 := Lib.hid (K1.out.blw hb9)
  have BA := Lib.hid (belI_step BA.out hb9)
  clear hb9 x0 x1 x2 x3 x4 x5 x6 x7 y0 y1 y2 y3 y4 y5 y6 y7
  have kk := K0.out
  have x0 := cell_of_row w1 (W.heap.size) 0 _ _ _ kk
  have x1 := cell_of_row w1 (W.heap.size) 1 _ _ _ kk
  have x2 := cell_of_row w1 (W.heap.size) 2 _ _ _ kk
  have x3 := cell_of_row w1 (W.heap.size) 3 _ _ _ kk
  have x4 := cell_of_row w1 (W.heap.size) 4 _ _ _ kk
  have x5 := cell_of_row w1 (W.heap.size) 5 _ _ _ kk
  have x6 := cell_of_row w1 (W.heap.size) 6 _ _ _ kk
  have x7 := cell_of_row w1 (W.heap.size) 7 _ _ _ kk
  clear kk
  have kk := K1.out
  have y0 := cell_of_row w1 (W.heap.size + 1) 0 _ _ _ kk
  have y1 := cell_of_row w1 (W.heap.size + 1) 1 _ _ _ kk
  have y2 := cell_of_row w1 (W.heap.size + 1) 2 _ _ _ kk
  have y3 := cell_of_row w1 (W.heap.size + 1) 3 _ _ _ kk
  have y4 := cell_of_row w1 (W.heap.size + 1) 4 _ _ _ kk
  have y5 := cell_of_row w1 (W.heap.size + 1) 5 _ _ _ kk
  have y6 := cell_of_row w1 (W.heap.size + 1) 6 _ _ _ kk
  have y7 := cell_of_row w1 (W.heap.size + 1) 7 _ _ _ kk
  clear kk
  cases b1
  · clear HO2 HLS
    go_wp2
    go_ret
    exact ⟨ret_b rfl, BA.out⟩
  go_wp2_with fail
  refine (HO2.out w1 (HB.out.trans (BA.out.mono hB)) (Nat.le_trans hB BA.out.size)).mono ?_
  rintro e w2 ⟨rfl, hb9⟩
  have K0 := Lib.hid (K0.out.blw hb9)
  have K1 := Lib.hid (K1.out.blw hb9)
  have BA := Lib.hid (belI_step BA.out hb9)
  clear hb9 x0 x1 x2 x3 x4 x5 x6 x7 y0 y1 y2 y3 y4 y5 y6 y7
  have kk := K0.out
  have x0 := cell_of_row w2 (W.heap.size) 0 _ _ _ kk
  have x1 := cell_of_row w2 (W.heap.size) 1 _ _ _ kk
  have x2 := cell_of_row w2 (W.heap.size) 2 _ _ _ kk
  have x3 := cell_of_row w2 (W.heap.size) 3 _ _ _ kk
  have x4 := cell_of_row w2 (W.heap.size) 4 _ _ _ kk
  have x5 := cell_of_row w2 (W.heap.size) 5 _ _ _ kk
  have x6 := cell_of_row w2 (W.heap.size) 6 _ _ _ kk
  have x7 := cell_of_row w2 (W.heap.size) 7 _ _ _ kk
  clear kk
  have kk := K1.out
  have y0 := cell_of_row w2 (W.heap.size + 1) 0 _ _ _ kk
  have y1 := cell_of_row w2 (W.heap.size + 1) 1 _ _ _ kk
  have y2 := cell_of_row w2 (W.heap.size + 1) 2 _ _ _ kk
  have y3 := cell_of_row w2 (W.heap.size + 1) 3 _ _ _ kk
  have y4 := cell_of_row w2 (W.heap.size + 1) 4 _ _ _ kk
  have y5 := cell_of_row w2 (W.heap.size + 1) 5 _ _ _ kk
  have y6 := cell_of_row w2 (W.heap.size + 1) 6 _ _ _ kk
  have y7 := cell_of_row w2 (W.heap.size + 1) 7 _ _ _ kk
  clear kk
  cases b2
  · clear HLS
    go_wp2
    go_ret
    exact ⟨ret_b rfl, BA.out⟩
  have HL := Lib.hid (HLS.out (by simp) (by simp) w2 (HB.out.trans (BA.out.mono hB)) (Nat.le_trans hB BA.out.size))
  clear HLS HO HO2
  go_wp2_with fail
  refine HL.out.mono ?_
  rintro e w3 ⟨rfl, hb9⟩
  have K0 := Lib.hid (K0.out.blw hb9)
  have K1 := Lib.hid (K1.out.blw hb9)
  have BA := Lib.hid (belI_step BA.out hb9)
  clear hb9 x0 x1 x2 x3 x4 x5 x6 x7 y0 y1 y2 y3 y4 y5 y6 y7
  go_wp2
  go_ret
  exact ⟨ret_b rfl, BA.out⟩
end Go.Proofs.YtmaknkbmilcanaaGreatDoor.Pi
