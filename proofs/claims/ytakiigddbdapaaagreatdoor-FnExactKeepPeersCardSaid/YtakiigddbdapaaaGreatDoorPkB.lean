
/-
  KeepPeers of the program, walked.
-/
import Derived.Test.YtakiigddbdapaaaGreatDoorPkA
import Derived.Test.YtakiigddbdapaaaGreatDoorApS
import Derived.Deep.RegionHeld3
namespace Go.Proofs.YtakiigddbdapaaaGreatDoor.Pe
open Go.RowKit
open Go.Proofs.YtakiigddbdapaaaGreatDoor.Gr (Tg Gp TgIn tV gV gpB gpS_any groupI belI_step belI_alloc ret_b ret_i heap_set)
open Go.Proofs.YtakiigddbdapaaaGreatDoor.Ul (Tab MaxL)
open Go.Proofs.YtakiigddbdapaaaGreatDoor.Mk
abbrev pO (u : List UInt8) (p q f r : Int) (b : Bool) : Obj := .cells #[.string ⟨u.toArray⟩, .int .i64 p, .int .i64 q, .int .i64 f, .int .i64 r, .bool b] 57
theorem O6.pre {w p w' : World} {base : Nat} {v : Value} {ts : List Pr} (hb : Below p.heap.size p w') (h : O6 w base v ts) (e : p.heap = w.heap) : O6 w' base v ts :=
  O6.below (by unfold O6 World.ownsRow at *; rw [e]; exact h) hb
/-- what lies there all along in the region that keeps an old peer -/
structure Kp (W : World) (b1 b2 : Nat) (go : Obj) (u : List UInt8) (p q : Int) (po : Obj) (wx : World) : Prop where
  B : Below W.heap.size W wx
  G : Hd wx W.heap.size go
  I : Hd wx b1 (itO u p q)
  P : Hd wx b2 po
section
variable {W wx w' : World} {b1 b2 : Nat} {go po : Obj} {u : List UInt8} {p q : Int}
theorem Kp.call (h : Kp W b1 b2 go u p q po wx) (hb : Below wx.heap.size wx w') : Kp W b1 b2 go u p q po w' := ⟨below_chain h.B hb, h.G.blw hb, h.I.blw hb, h.P.blw hb⟩
theorem Kp.al (h : Kp W b1 b2 go u p q po wx) (o : Obj) : Kp W b1 b2 go u p q po (wx.alloc o) := h.call ((Below.refl _ _).alloc (Nat.le_refl _) o)
theorem Kp.drew (h : Kp W b1 b2 go u p q po wx) : Kp W b1 b2 go u p q po wx.drew := ⟨h.B.drew, h.G, h.I, h.P⟩
theorem Kp.gr {row : Option Nat} (h : Kp W b1 b2 go u p q po wx) (hg : wx.grownBy w' row) (hr : ∀ b, row = some b → W.heap.size < b ∧ b ≠ b1 ∧ b ≠ b2) : Kp W b1 b2 go u p q po w' :=
  ⟨h.B.grown hg h.B.size (fun g e => Nat.le_of_lt (hr g e).1), h.G.grown hg (fun e => by have := (hr _ e.symm).1; omega), h.I.grown hg (fun e => (hr _ e.symm).2.1 rfl), h.P.grown hg (fun e => (hr _ e.symm).2.2 rfl)⟩
end
set_option maxRecDepth 100000 in
set_option maxHeartbeats 8000000 in
theorem kpI_any (B : Nat) (w0 : World) (old : List Pr) (ov : Value) (ho : PrIn (· < B) w0 ov old) (g : Gp) (v : Value) (h : TgIn (· < B) w0 v g.tgs) (hl : ∀ i, i < g.tgs.length → (g.tgs.getD i default).url.length ≤ 1048576) (hn : g.name.length ≤ 1048576) (hm : g.tgs.length ≤ 1048576) (W : World) (hb : Below B w0 W) (hB : B ≤ W.heap.size) (hT : Tab W) (hM : MaxL W) :
    Calls Tryz.prog 29 #[ov, gV g v] W (NewL W (kpR old g) (kpC old g)) := by
  obtain ⟨w1, hw1⟩ : ∃ w1, w1 = W.alloc (gO g v) := ⟨_, rfl⟩
  have H1 := Lib.hid (show Hd w1 W.heap.size (gO g v) by rw [hw1]; exact Hd.new _ _)
  have B1 := Lib.hid (show Below W.heap.size W w1 by rw [hw1]; exact (Below.refl _ _).alloc (Nat.le_refl _) _)
  have HP := Lib.hid (fun W' h1 h2 h3 h4 => pcI_any B w0 old ov ho W' h1 h2 h3 h4)
  have HG := Lib.hid (fun W' h1 h2 h3 h4 => groupI B w0 g v h hn W' h1 h2 h3 h4)
  obtain ⟨nm, ag, xs⟩ := g
  simp only at h hl hn hm
  obtain ⟨a, cap, b, off, rfl, hcap, hmx, -, ha, hc⟩ := h
  obtain ⟨ao, capo, bo, offo, rfl, hcapo, hmxo, -, hao, hco⟩ := ho
  have HCO := Lib.hid hco
  have HAO := Lib.hid hao
  have HLO := Lib.hid (show old.length ≤ 9223372036854775807 by omega)
  clear hco hao
  have HC := Lib.hid hc
  have HA := Lib.hid ha
  have HB := Lib.hid hb
  have HT := Lib.hid hT
  have HM := Lib.hid hM
  have HL := Lib.hid hl
  clear hc ha hb hT hM hl
  by_cases hp0 : pcC old ≠ 0
  · rw [show kpC old ⟨nm, ag, xs⟩ = pcC old by unfold kpC; rw [if_neg hp0], show kpR old ⟨nm, ag, xs⟩ = [] by unfold kpR; rw [if_neg (fun e => hp0 e.1)]]
    obtain ⟨C, hC⟩ : ∃ C, pcC old = C := ⟨_, rfl⟩
    rw [hC] at hp0 HP ⊢
    clear hC
    have hp1 : (C != 0) = true := by simpa using hp0
    clear hp0
    go_enter Tryz.func29, Tryz.ntmps29
    go_wp2
    go_step3
    go_wp2_with fail
    rw [← hw1]
    clear hw1
    refine (HP.out _ (HB.out.trans (B1.out.mono hB)) (Nat.le_trans hB B1.out.size) (HT.out.below B1.out) (HM.out.below B1.out)).mono ?_
    rintro e w2 ⟨rfl, hb2⟩
    have HF := Lib.hid (newL_nil (W := W) (R := []) (C := C) rfl rfl (below_chain B1.out hb2))
    clear hb2 B1 H1
    go_wp2
    exact bodyPost_ret (ret_2 Tryz.results29) rfl HF.out
  obtain hp0 : pcC old = 0 := by simpa using hp0
  rw [show kpC old ⟨nm, ag, xs⟩ = poC ⟨nm, ag, xs⟩ by unfold kpC; rw [if_pos hp0], show kpR old ⟨nm, ag, xs⟩ = (if gpB ⟨nm, ag, xs⟩ = true then xs.map (zK old) else []) by unfold kpR; simp only [hp0, true_and]]
  rw [hp0] at HP
  clear hp0
  unfold poC
  obtain ⟨r, hr⟩ : ∃ r, gpB ⟨nm, ag, xs⟩ = r := ⟨_, rfl⟩
  rw [hr] at HG ⊢
  clear hr
  cases r
  · rw [if_neg (by simp), if_neg (by simp)]
    go_enter Tryz.func29, Tryz.ntmps29
    go_wp2
    go_step3
    go_wp2_with fail
    rw [← hw1]
    clear hw1
    refine (HP.out _ (HB.out.trans (B1.out.mono hB)) (Nat.le_trans hB B1.out.size) (HT.out.below B1.out) (HM.out.below B1.out)).mono ?_
    rintro e w2 ⟨rfl, hb2⟩
    have B2 := Lib.hid (below_chain B1.out hb2)
    obtain ⟨m0, m1, m2, -⟩ := (H1.out.blw hb2).three
    clear hb2
    go_wp2_with fail
    refine (HG.out _ (HB.out.trans (B2.out.mono hB)) (Nat.le_trans hB B2.out.size) (HT.out.below B2.out) (HM.out.below B2.out)).mono ?_
    rintro e w3 ⟨rfl, hb3⟩
    have HF := Lib.hid (newL_nil (W := W) (R := []) (C := 1) rfl rfl (below_chain B2.out hb3))
    clear hb3 m0 m1 m2
    go_wp2
    exact bodyPost_ret (ret_2 Tryz.results29) rfl HF.out
  · rw [if_pos rfl, if_pos rfl]
    obtain ⟨i0, hi, hz0, hz1, hz2⟩ := info_parts Tryz.infoPr
    go_enter Tryz.func29, Tryz.ntmps29
    go_wp2
    go_step3
    go_wp2_with fail
    rw [← hw1]
    clear hw1
    refine (HP.out _ (HB.out.trans (B1.out.mono hB)) (Nat.le_trans hB B1.out.size) (HT.out.below B1.out) (HM.out.below B1.out)).mono ?_
    rintro e w2 ⟨rfl, hb2⟩
    have B2 := Lib.hid (below_chain B1.out hb2)
    have H2 := Lib.hid (H1.out.blw hb2)
    obtain ⟨m0, m1, m2, -⟩ := H2.out.three
    clear hb2
    go_wp2_with fail
    refine (HG.out _ (HB.out.trans (B2.out.mono hB)) (Nat.le_trans hB B2.out.size) (HT.out.below B2.out) (HM.out.below B2.out)).mono ?_
    rintro e w3 ⟨rfl, hb3⟩
    have B3 := Lib.hid (below_chain B2.out hb3)
    have H3 := Lib.hid (H2.out.blw hb3)
    obtain ⟨n0, n1, n2, -⟩ := H3.out.three
    clear hb3 m0 m1 m2 H1 H2
    go_wp2
    go_step3
    go_wp2
    clear n0 n1 n2
    go_loopg [7, 25] xs.length (fun g ov iv wr => ∃ k : Nat, k + g = xs.length ∧ iv = .int .i64 k ∧ O6 wr W.heap.size ov ((xs.take k).map (zK old)) ∧ Below W.heap.size W wr ∧ Hd wr W.heap.size (gO ⟨nm, ag, xs⟩ (.slice a xs.length cap)))
    case atStart => exact ⟨0, by omega, rfl, O6.nil _ _, B3.out, H3.out⟩
    case round =>
      obtain ⟨k, hk, rfl, hO, hR, hH⟩ := hrel
      obtain ⟨wo, hwo⟩ : ∃ wo, wo = wr := ⟨_, rfl⟩
      subst hwo
      have HO := Lib.hid hO
      have HR := Lib.hid hR
      have HH := Lib.hid hH
      have HK := Lib.hid hk
      obtain ⟨at0, ct0, hv⟩ := hO.slice
      rw [zK_len old k (by omega)] at hv
      subst hv
      clear hO hR hH
      cases gk with
      | zero =>
        obtain rfl : k = xs.length := by omega
        rw [List.take_length] at HO
        have HF := Lib.hid (show NewL W (xs.map (zK old)) 0 (.returned (.tuple #[.slice at0 xs.length ct0, .int .i64 0])) wo from ⟨_, rfl, HO.out, HR.out⟩)
        clear hk
        go_wp2
        try rw [Exit.noGoto_ret]
        generalize hnn : xs.map (zK old) = nn at *
        exact bodyPost_ret (ret_2 Tryz.results29) rfl HF.out
      | succ g =>
        have hlt : k < xs.length := by omega
        obtain ⟨ea, hlb⟩ := HA.out (by omega)
        subst ea
        have hW := HB.out.trans (HR.out.mono hB)
        obtain ⟨c0, c1, c2⟩ := HC.out k hlt
        have q0 := (hW.cell (p := ⟨b, off + k * 3, none⟩) hlb).trans c0
        have q1 := (hW.cell (p := ⟨b, off + k * 3 + 1, none⟩) hlb).trans c1
        have q2 := (hW.cell (p := ⟨b, off + k * 3 + 2, none⟩) hlb).trans c2
        have HZ := Lib.hid (zK_take old k hlt)
        have HU := Lib.hid (HL.out k hlt)
        have hlk := zK_len old (xs := xs) k (by omega)
        clear c0 c1 c2 hW hk
        generalize xs.getD k default = t at *
        obtain ⟨u, p, q⟩ := t
        simp only at q0 q1 q2
        generalize (xs.take k).map (zK old) = ts at *
        subst hlk
        obtain ⟨w4, hw4⟩ : ∃ w4, w4 = wo.alloc (itO u p q) := ⟨_, rfl⟩
        have I4 := Lib.hid (show Hd w4 wo.heap.size (itO u p q) by rw [hw4]; exact Hd.new _ _)
        have B4 := Lib.hid (show Below wo.heap.size wo w4 by rw [hw4]; exact (Below.refl _ _).alloc (Nat.le_refl _) _)
        go_wp2
        rw [show wo.alloc (.cells #[.string ⟨u.toArray⟩, .int .i64 p, .int .i64 q] 55) = w4 from hw4.symm]
        clear hw4 q0 q1 q2
        go_loopg [7, 31] old.length (fun g2 ov iv wx => ∃ j : Nat, j + g2 = old.length ∧ iv = .int .i64 j ∧ ov = .slice at0 ts.length ct0 ∧ zK old ⟨u, p, q⟩ = kF (old.drop j) (zP ⟨u, p, q⟩) ∧ Below wo.heap.size wo wx ∧ Hd wx wo.heap.size (itO u p q))
        case atStart => exact ⟨0, by omega, rfl, rfl, rfl, B4.out, I4.out⟩
        case round =>
          obtain ⟨j, hj, rfl, rfl, hK, hBY, hIY⟩ := hrel
          obtain ⟨wy, hwy⟩ : ∃ wy, wy = wr := ⟨_, rfl⟩
          subst hwy
          have HJ := Lib.hid hj
          have KJ := Lib.hid hK
          have BY := Lib.hid hBY
          have IY := Lib.hid hIY
          clear hK hBY hIY I4 B4
          cases gk with
          | zero =>
            obtain rfl : j = old.length := by omega
            have KE := Lib.hid (show zK old ⟨u, p, q⟩ = zP ⟨u, p, q⟩ by rw [KJ.out, List.drop_length]; rfl)
            clear KJ hj
            obtain ⟨m0, m1, m2, -⟩ := IY.out.three
            have HOT := Lib.hid (fun W' => ownT_any u p q HU.out W')
            have HG0 := Lib.hid (show g < g + 1 from Nat.lt_succ_self g)
            go_wp2_with fail
            refine (HOT.out _).mono ?_
            rintro e w5 ⟨rfl, hb5⟩
            have B5 := Lib.hid (below_chain BY.out hb5)
            have O5 := Lib.hid (HO.out.below B5.out)
            have R5 := Lib.hid (below_chain HR.out B5.out)
            have H5 := Lib.hid (HH.out.blw B5.out)
            clear m0 m1 m2 hb5 HOT IY BY B5
            have OA := Lib.hid (O5.out.below ((Below.refl w5.heap.size w5).alloc (Nat.le_refl _) (.cells #[.string ⟨u.toArray⟩, .int .i64 p, .int .i64 q, .int .i64 0, .int .i64 0, .bool false] 57)))
            have BA := Lib.hid (belI_alloc (o := (.cells #[.string ⟨u.toArray⟩, .int .i64 p, .int .i64 q, .int .i64 0, .int .i64 0, .bool false] 57)) R5.out)
            have HHA := Lib.hid (H5.out.al (.cells #[.string ⟨u.toArray⟩, .int .i64 p, .int .i64 q, .int .i64 0, .int .i64 0, .bool false] 57))
            have z1 := R5.out.size
            have hW0 := H5.out.lt
            have hx20 := Lib.hid (show ts.length + 1 ≤ 1048576 by omega)
            go_wp2_with (at_builtin; refine App.wpList_app _ rfl _ _ 26 rfl W.heap.size 57 i0 _ 6 56 Tryz.underlying26 hi hz0 hz1 hz2 rfl (by omega) _ ts.length (prC ts) rfl OA.out ⟨w5.heap.size, 0, none⟩ 1 _ [.string ⟨u.toArray⟩, .int .i64 p, .int .i64 q, .int .i64 0, .int .i64 0, .bool false] rfl (by omega) rfl (one_row6 w5 _ _ _ _ _ _ _) (by intro u hu; simp at hu; rcases hu with rfl | rfl | rfl | rfl | rfl | rfl <;> rfl) (by have := hx20.out; omega) (by have := hx20.out; omega) (by simp; omega) ?_; intro l' w6 hown' hgrow hplace; have O7 := Lib.hid (show O6 w6 W.heap.size l' (ts ++ [zP ⟨u, p, q⟩]) by unfold O6; rw [List.length_append, prC_app]; exact hown'); have B7 := Lib.hid (show Below W.heap.size W w6 from BA.out.grown hgrow (by simp; omega) (fun g e => (World.ownsRow.lt OA.out g e).1)); have H7 := Lib.hid (HHA.out.grown hgrow (fun e => by have := own_at OA.out HHA.out e.symm; exact this)); obtain ⟨a7, c7, rfl⟩ := O7.out.slice; clear hown' hgrow hplace)
            go_roundg g
            case measure => exact HG0.out
            case rel => exact ⟨ts.length + 1, by have := HK.out; omega, by go_num, by have := O7.out; rw [HZ.out, KE.out]; simpa using this, B7.out, H7.out⟩
          | succ g2 =>
            have hjl : j < old.length := by omega
            obtain ⟨eao, hlbo⟩ := HAO.out (by omega)
            subst eao
            have hWY := HB.out.trans ((HR.out.mono hB).trans (BY.out.mono (Nat.le_trans hB HR.out.size)))
            obtain ⟨c0, c1, c2, c3, c4, c5⟩ := HCO.out j hjl
            have q0 := (hWY.cell (p := ⟨bo, offo + j * 6, none⟩) hlbo).trans c0
            have q1 := (hWY.cell (p := ⟨bo, offo + j * 6 + 1, none⟩) hlbo).trans c1
            have q2 := (hWY.cell (p := ⟨bo, offo + j * 6 + 2, none⟩) hlbo).trans c2
            have q3 := (hWY.cell (p := ⟨bo, offo + j * 6 + 3, none⟩) hlbo).trans c3
            have q4 := (hWY.cell (p := ⟨bo, offo + j * 6 + 4, none⟩) hlbo).trans c4
            have q5 := (hWY.cell (p := ⟨bo, offo + j * 6 + 5, none⟩) hlbo).trans c5
            have KD := Lib.hid (KJ.out.trans (kF_drop j hjl (zP ⟨u, p, q⟩)))
            clear c0 c1 c2 c3 c4 c5 hWY hj KJ
            generalize old.getD j default = y at *
            obtain ⟨yu, yp, yw, yf, yr, yg⟩ := y
            simp only at q0 q1 q2 q3 q4 q5
            obtain ⟨m0, m1, m2, -⟩ := IY.out.three
            obtain ⟨w7, hw7⟩ : ∃ w7, w7 = wy.alloc (pO yu yp yw yf yr yg) := ⟨_, rfl⟩
            have I7 := Lib.hid (show Hd w7 wo.heap.size (itO u p q) by rw [hw7]; exact IY.out.al _)
            have P7 := Lib.hid (show Hd w7 wy.heap.size (pO yu yp yw yf yr yg) by rw [hw7]; exact Hd.new _ _)
            have B7 := Lib.hid (show Below wo.heap.size wo w7 by rw [hw7]; exact belI_alloc BY.out)
            have HI := Lib.hid (show wo.heap.size ≠ wy.heap.size by have := IY.out.lt; omega)
            have HG2 := Lib.hid (show g2 < g2 + 1 from Nat.lt_succ_self g2)
            have hjlI : ((j : Int) < (old.length : Int)) := by omega
            go_upto_region 13 with fail
            rw [show wy.alloc (.cells #[.string ⟨yu.toArray⟩, .int .i64 yp, .int .i64 yw, .int .i64 yf, .int .i64 yr, .bool yg] 57) = w7 from hw7.symm]
            clear hw7 m0 m1 m2 q0 q1 q2 q3 q4 q5
            obtain ⟨m0, m1, m2, -⟩ := I7.out.three
            obtain ⟨d0, d1, d2, d3, d4, d5, -⟩ := P7.out.six
            by_cases hmt : yu = u ∧ yg = false
            · obtain ⟨e1, rfl⟩ := hmt
              obtain rfl : u = yu := e1.symm
              clear e1
              have KM := Lib.hid (show zK old ⟨u, p, q⟩ = ⟨u, p, q, yf, yr, false⟩ by rw [KD.out, if_pos (by simp [kmB, zP])]; rfl)
              have HOT := Lib.hid (fun W' => ownT_any u p q HU.out W')
              have O7 := Lib.hid (HO.out.below B7.out)
              have hrow := Lib.hid (fun b e => show W.heap.size < b ∧ b ≠ wo.heap.size ∧ b ≠ wy.heap.size from by
                have h1 := World.ownsRow.lt HO.out b e
                have h2 := BY.out.size
                refine ⟨Nat.lt_of_le_of_ne h1.1 (fun e2 => own_at HO.out HH.out (e2 ▸ e)), by omega, by omega⟩)
              have HST := Lib.hid (show Kp W wo.heap.size wy.heap.size (gO ⟨nm, ag, xs⟩ (.slice (some ⟨b, off, none⟩) xs.length cap)) u p q (pO u yp yw yf yr false) w7 from ⟨below_chain HR.out B7.out, HH.out.blw B7.out, I7.out, P7.out⟩)
              have HALL := Lib.hid (fun wx (hk : Kp W wo.heap.size wy.heap.size (gO ⟨nm, ag, xs⟩ (.slice (some ⟨b, off, none⟩) xs.length cap)) u p q (pO u yp yw yf yr false) wx) =>
                And.intro hk.I.three.1 (And.intro hk.I.three.2.1 (And.intro hk.I.three.2.2.1 (And.intro hk.P.six.2.2.2.1 (And.intro hk.P.six.2.2.2.2.1 hk)))))
              have HG0 := Lib.hid (show g < g + 1 from Nat.lt_succ_self g)
              have HTL := Lib.hid (show ts.length + 1 ≤ 1048576 by omega)
              clear HG2 KD
              go_wp2_with fail
              go_region_held3 (fun wx => wx.cell? ⟨wo.heap.size, 0, none⟩ = some (.string ⟨u.toArray⟩) ∧ wx.cell? ⟨wo.heap.size, 1, none⟩ = some (.int .i64 p) ∧ wx.cell? ⟨wo.heap.size, 2, none⟩ = some (.int .i64 q) ∧
                  wx.cell? ⟨wy.heap.size, 3, none⟩ = some (.int .i64 yf) ∧ wx.cell? ⟨wy.heap.size, 4, none⟩ = some (.int .i64 yr) ∧ Kp W wo.heap.size wy.heap.size (gO ⟨nm, ag, xs⟩ (.slice (some ⟨b, off, none⟩) xs.length cap)) u p q (pO u yp yw yf yr false) wx)
                (first
                  | exact HALL.out _ HST.out
                  | (go_split_ands; exact HALL.out _ hGA)
                  | (go_split_ands; exact HALL.out _ (Kp.call (by assumption) hb))
                  | (go_split_ands; exact HALL.out _ (Kp.al (by assumption) _))
                  | (go_split_ands; exact HALL.out _ (Kp.drew (by assumption))))
                (first
                  | (go_split_ands
                     go_at_call 56
                     refine (HOT.out _).mono ?_
                     rintro e w8 ⟨rfl, hb⟩
                     have hO8 : O6 w8 W.heap.size (.slice at0 ts.length ct0) ts := O6.pre hb O7.out rfl)
                  | (go_split_ands
                     refine App.step_app_any _ rfl _ _ 26 rfl W.heap.size 57 i0 _ 6 56 Tryz.underlying26 hi hz0 hz1 hz2 rfl (by omega) _ ts.length (prC ts) rfl (show O6 _ W.heap.size (.slice at0 ts.length ct0) ts from O6.below hO8 ((Below.refl _ _).alloc (Nat.le_refl _) (.cells #[.string ⟨u.toArray⟩, .int .i64 p, .int .i64 q, .int .i64 yf, .int .i64 yr, .bool false] 57))) (some ⟨w8.heap.size, 0, none⟩) 1 1 [.string ⟨u.toArray⟩, .int .i64 p, .int .i64 q, .int .i64 yf, .int .i64 yr, .bool false] rfl (fun _ => ⟨_, rfl, one_row6 w8 _ _ _ _ _ _ _⟩) rfl (by intro u hu; simp at hu; rcases hu with rfl | rfl | rfl | rfl | rfl | rfl <;> rfl) (by have := HTL.out; omega) (by have := HTL.out; omega) (Kp.B (by assumption)).size ?_
                     intro v9 w9 _ hA hg
                     have hO9 : O6 w9 W.heap.size v9 (ts ++ [⟨u, p, q, yf, yr, false⟩]) := by unfold O6; rw [List.length_append, prC_app]; exact hA
                     have hGA := Kp.gr (by assumption) hg hrow.out)
                  | fail)
              go_split_ands
              have HK9 := Lib.hid hGA
              have HO9 := Lib.hid hO9
              clear hGA hO9 hO8
              go_wp2
              go_roundg g
              case measure => exact HG0.out
              case rel => exact ⟨ts.length + 1, by have := HK.out; omega, by go_num, by have := HO9.out; rw [HZ.out, KM.out]; simpa using this, HK9.out.B, HK9.out.G⟩
            · have KN := Lib.hid (show zK old ⟨u, p, q⟩ = kF (old.drop (j + 1)) (zP ⟨u, p, q⟩) by rw [KD.out, if_neg (fun e => hmt (by unfold kmB zP at e; simpa using e))])
              have BZ := Lib.hid (Nat.le_refl 0)
              by_cases e1 : yu = u
              · obtain rfl : yg = true := by
                  cases yg
                  · exact (hmt ⟨e1, rfl⟩).elim
                  · rfl
                obtain rfl : u = yu := e1.symm
                clear hmt KD e1
                go_wp2
                go_roundg g2
                case measure => exact HG2.out
                case rel => exact ⟨j + 1, by have := HJ.out; omega, by go_num, rfl, KN.out, B7.out, I7.out⟩
              · clear hmt KD
                go_wp2
                go_roundg g2
                case measure => exact HG2.out
                case rel => exact ⟨j + 1, by have := HJ.out; omega, by go_num, rfl, KN.out, B7.out, I7.out⟩
end Go.Proofs.YtakiigddbdapaaaGreatDoor.Pe
