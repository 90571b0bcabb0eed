
/-
  PeersOf of the model; KeepPeers of no old peers and PeersOf of the program, walked.
-/
import Derived.WalkMore
import Derived.Deep.LoopGhost
import Derived.Test.YtakiigddbdapaaaGreatDoorPoB
namespace Go.Proofs.YtakiigddbdapaaaGreatDoor.Pe
open Go.RowKit
open Go.Proofs.YtakiigddbdapaaaGreatDoor.Gr (Tg Gp TgIn tV gV gpB gpS_any groupI belI_step belI_alloc ret_b ret_i heap_set)
open Go.Proofs.YtakiigddbdapaaaGreatDoor.Ul (Tab MaxL)
open Go.Proofs.YtakiigddbdapaaaGreatDoor.Mk
set_option maxRecDepth 100000 in
set_option maxHeartbeats 2000000 in
theorem poS_any (B : Nat) (w0 : World) (g : Gp) (v : Value) (h : TgIn (· < B) w0 v g.tgs) (hl : ∀ i, i < g.tgs.length → (g.tgs.getD i default).url.length ≤ 1048576) (hn : g.name.length ≤ 1048576) (hm : g.tgs.length ≤ 1048576) (W : World) (hb : Below B w0 W) (hB : B ≤ W.heap.size) :
    Calls Tryz.prog 10 #[gV g v] W (NewL W (poR g) (poC g)) := by
  have HK := Lib.hid (fun W h1 h2 => gpS_any B w0 g v h hl hn W h1 h2)
  have HO := Lib.hid (fun W h1 h2 => ofS_any B w0 g v h hm W h1 h2)
  obtain ⟨a1, l1, cc1, rfl⟩ := h.slice
  have HB := Lib.hid hb
  clear h hl hn hb
  obtain ⟨w1, hw1⟩ : ∃ w1, w1 = W.alloc (gO g (.slice a1 l1 cc1)) := ⟨_, rfl⟩
  have H1 := Lib.hid (show Hd w1 W.heap.size (gO g (.slice a1 l1 cc1)) by rw [hw1]; exact Hd.new _ _)
  have B1 := Lib.hid (show Below W.heap.size W w1 by rw [hw1]; exact (Below.refl _ _).alloc (Nat.le_refl _) _)
  have HB1 := Lib.hid (HB.out.trans (B1.out.mono hB))
  have hB1 : B ≤ w1.heap.size := Nat.le_trans hB B1.out.size
  unfold poC poR
  obtain ⟨r, hr⟩ : ∃ r, gpB g = r := ⟨_, rfl⟩
  rw [hr] at HK ⊢
  clear hr
  cases r
  · rw [if_neg (by simp), if_neg (by simp)]
    go_enter Tryz.func10, Tryz.ntmps10
    go_wp2_with fail
    rw [← hw1]
    clear hw1
    refine (HK.out _ HB1.out hB1).mono ?_
    rintro e w2 ⟨rfl, hb2⟩
    have HF := Lib.hid (newL_mk (W := W) (R := []) (C := 1) rfl rfl (below_chain B1.out hb2))
    clear hb2
    go_wp2
    exact bodyPost_ret (ret_2 Tryz.results10) rfl HF.out
  · rw [if_pos rfl, if_pos rfl]
    go_enter Tryz.func10, Tryz.ntmps10
    go_wp2_with fail
    rw [← hw1]
    clear hw1
    refine (HK.out _ HB1.out hB1).mono ?_
    rintro e w2 ⟨rfl, hb2⟩
    have B2 := Lib.hid (below_chain B1.out hb2)
    have HB2 := Lib.hid (HB.out.trans (B2.out.mono hB))
    have hB2 : B ≤ w2.heap.size := Nat.le_trans hB B2.out.size
    obtain ⟨m0, m1, m2, -⟩ := (H1.out.blw hb2).three
    clear hb2 H1
    go_wp2_with fail
    refine (HO.out _ HB2.out hB2).mono ?_
    rintro e w3 ⟨v3, rfl, ho3, hb3⟩
    have HF := Lib.hid (show NewL W (g.tgs.map zP) 0 (.returned (.tuple #[v3, .int .i64 0])) w3 from ⟨_, rfl, ho3.base B2.out.size, below_chain B2.out hb3⟩)
    obtain ⟨a3, c3, rfl⟩ := ho3.slice
    clear ho3 hb3
    generalize (g.tgs.map zP).length = nn at *
    go_wp2
    exact bodyPost_ret (ret_2 Tryz.results10) rfl HF.out
theorem pc_nil : pcC [] = 0 := by decide
set_option maxRecDepth 100000 in
set_option maxHeartbeats 4000000 in
theorem kpI_nil (B : Nat) (w0 : World) (g : Gp) (v : Value) (h : TgIn (· < B) w0 v g.tgs) (hl : ∀ i, i < g.tgs.length → (g.tgs.getD i default).url.length ≤ 1048576) (hn : g.name.length ≤ 1048576) (hm : g.tgs.length ≤ 1048576) (W : World) (hb : Below B w0 W) (hB : B ≤ W.heap.size) (hT : Tab W) (hM : MaxL W) :
    Calls Tryz.prog 29 #[.slice none 0 0, gV g v] W (NewL W (poR g) (poC g)) := by
  obtain ⟨w1, hw1⟩ : ∃ w1, w1 = W.alloc (gO g v) := ⟨_, rfl⟩
  have H1 := Lib.hid (show Hd w1 W.heap.size (gO g v) by rw [hw1]; exact Hd.new _ _)
  have B1 := Lib.hid (show Below W.heap.size W w1 by rw [hw1]; exact (Below.refl _ _).alloc (Nat.le_refl _) _)
  have HP := Lib.hid (fun W' h1 h2 => pc_nil ▸ pcI_any 0 W' [] (.slice none 0 0) (PrIn.nil _ _) W' (Below.refl _ _) (Nat.zero_le _) h1 h2)
  have HG := Lib.hid (fun W' h1 h2 h3 h4 => groupI B w0 g v h hn W' h1 h2 h3 h4)
  obtain ⟨nm, ag, xs⟩ := g
  simp only at h hl hn hm
  obtain ⟨a, cap, b, off, rfl, hcap, hmx, -, ha, hc⟩ := h
  have HC := Lib.hid hc
  have HA := Lib.hid ha
  have HB := Lib.hid hb
  have HT := Lib.hid hT
  have HM := Lib.hid hM
  have HL := Lib.hid hl
  clear hc ha hb hT hM hl
  unfold poC poR
  obtain ⟨r, hr⟩ : ∃ r, gpB ⟨nm, ag, xs⟩ = r := ⟨_, rfl⟩
  rw [hr] at HG ⊢
  clear hr
  cases r
  · rw [if_neg (by simp), if_neg (by simp)]
    go_enter Tryz.func29, Tryz.ntmps29
    go_wp2
    go_step3
    go_wp2_with fail
    rw [← hw1]
    clear hw1
    refine (HP.out _ (HT.out.below B1.out) (HM.out.below B1.out)).mono ?_
    rintro e w2 ⟨rfl, hb2⟩
    have B2 := Lib.hid (below_chain B1.out hb2)
    obtain ⟨m0, m1, m2, -⟩ := (H1.out.blw hb2).three
    clear hb2
    go_wp2_with fail
    refine (HG.out _ (HB.out.trans (B2.out.mono hB)) (Nat.le_trans hB B2.out.size) (HT.out.below B2.out) (HM.out.below B2.out)).mono ?_
    rintro e w3 ⟨rfl, hb3⟩
    have HF := Lib.hid (newL_nil (W := W) (R := []) (C := 1) rfl rfl (below_chain B2.out hb3))
    clear hb3 m0 m1 m2
    go_wp2
    exact bodyPost_ret (ret_2 Tryz.results29) rfl HF.out
  · rw [if_pos rfl, if_pos rfl]
    obtain ⟨i0, hi, hz0, hz1, hz2⟩ := info_parts Tryz.infoPr
    go_enter Tryz.func29, Tryz.ntmps29
    go_wp2
    go_step3
    go_wp2_with fail
    rw [← hw1]
    clear hw1
    refine (HP.out _ (HT.out.below B1.out) (HM.out.below B1.out)).mono ?_
    rintro e w2 ⟨rfl, hb2⟩
    have B2 := Lib.hid (below_chain B1.out hb2)
    have H2 := Lib.hid (H1.out.blw hb2)
    obtain ⟨m0, m1, m2, -⟩ := H2.out.three
    clear hb2
    go_wp2_with fail
    refine (HG.out _ (HB.out.trans (B2.out.mono hB)) (Nat.le_trans hB B2.out.size) (HT.out.below B2.out) (HM.out.below B2.out)).mono ?_
    rintro e w3 ⟨rfl, hb3⟩
    have B3 := Lib.hid (below_chain B2.out hb3)
    have H3 := Lib.hid (H2.out.blw hb3)
    obtain ⟨n0, n1, n2, -⟩ := H3.out.three
    clear hb3 m0 m1 m2 H1 H2
    go_wp2
    go_step3
    go_wp2
    clear n0 n1 n2
    go_loopg [7, 25] xs.length (fun g ov iv wr => ∃ k : Nat, k + g = xs.length ∧ iv = .int .i64 k ∧ O6 wr W.heap.size ov ((xs.take k).map zP) ∧ Below W.heap.size W wr ∧ Hd wr W.heap.size (gO ⟨nm, ag, xs⟩ (.slice a xs.length cap)))
    case atStart => exact ⟨0, by omega, rfl, O6.nil _ _, B3.out, H3.out⟩
    case round =>
      obtain ⟨k, hk, rfl, hO, hR, hH⟩ := hrel
      obtain ⟨wo, hwo⟩ : ∃ wo, wo = wr := ⟨_, rfl⟩
      subst hwo
      have HO := Lib.hid hO
      have HR := Lib.hid hR
      have HH := Lib.hid hH
      have HK := Lib.hid hk
      obtain ⟨at0, ct0, hv⟩ := hO.slice
      rw [zP_len k (by omega)] at hv
      subst hv
      clear hO hR hH
      cases gk with
      | zero =>
        obtain rfl : k = xs.length := by omega
        rw [List.take_length] at HO
        have HF := Lib.hid (show NewL W (xs.map zP) 0 (.returned (.tuple #[.slice at0 xs.length ct0, .int .i64 0])) wo from ⟨_, rfl, HO.out, HR.out⟩)
        clear hk
        go_wp2
        try rw [Exit.noGoto_ret]
        generalize hnn : xs.map zP = nn at *
        exact bodyPost_ret (ret_2 Tryz.results29) rfl HF.out
      | succ g =>
        have hlt : k < xs.length := by omega
        obtain ⟨ea, hlb⟩ := HA.out (by omega)
        subst ea
        have hW := HB.out.trans (HR.out.mono hB)
        obtain ⟨c0, c1, c2⟩ := HC.out k hlt
        have q0 := (hW.cell (p := ⟨b, off + k * 3, none⟩) hlb).trans c0
        have q1 := (hW.cell (p := ⟨b, off + k * 3 + 1, none⟩) hlb).trans c1
        have q2 := (hW.cell (p := ⟨b, off + k * 3 + 2, none⟩) hlb).trans c2
        have HZ := Lib.hid (zP_take k hlt)
        have HU := Lib.hid (HL.out k hlt)
        have hlk := zP_len (xs := xs) k (by omega)
        clear c0 c1 c2 hW hk
        generalize xs.getD k default = t at *
        obtain ⟨u, p, q⟩ := t
        simp only at q0 q1 q2
        generalize (xs.take k).map zP = ts at *
        subst hlk
        obtain ⟨w4, hw4⟩ : ∃ w4, w4 = wo.alloc (itO u p q) := ⟨_, rfl⟩
        have I4 := Lib.hid (show Hd w4 wo.heap.size (itO u p q) by rw [hw4]; exact Hd.new _ _)
        have B4 := Lib.hid (show Below wo.heap.size wo w4 by rw [hw4]; exact (Below.refl _ _).alloc (Nat.le_refl _) _)
        go_wp2
        rw [show wo.alloc (.cells #[.string ⟨u.toArray⟩, .int .i64 p, .int .i64 q] 55) = w4 from hw4.symm]
        clear hw4 q0 q1 q2
        go_loopg [7, 31] 0 (fun _ ov iv wx => ov = .slice at0 ts.length ct0 ∧ iv = .int .i64 0 ∧ wx = w4)
        case atStart => exact ⟨rfl, rfl, rfl⟩
        case round =>
          obtain ⟨rfl, rfl, rfl⟩ := hrel
          obtain ⟨m0, m1, m2, -⟩ := I4.out.three
          have HOT := Lib.hid (fun W' => ownT_any u p q HU.out W')
          have HG0 := Lib.hid (show g < g + 1 from Nat.lt_succ_self g)
          go_wp2_with fail
          refine (HOT.out _).mono ?_
          rintro e w5 ⟨rfl, hb5⟩
          have B5 := Lib.hid (below_chain B4.out hb5)
          have O5 := Lib.hid (HO.out.below B5.out)
          have R5 := Lib.hid (below_chain HR.out B5.out)
          have H5 := Lib.hid (HH.out.blw B5.out)
          clear m0 m1 m2 hb5 HOT I4 B4 B5
          have OA := Lib.hid (O5.out.below ((Below.refl w5.heap.size w5).alloc (Nat.le_refl _) (.cells #[.string ⟨u.toArray⟩, .int .i64 p, .int .i64 q, .int .i64 0, .int .i64 0, .bool false] 57)))
          have BA := Lib.hid (belI_alloc (o := (.cells #[.string ⟨u.toArray⟩, .int .i64 p, .int .i64 q, .int .i64 0, .int .i64 0, .bool false] 57)) R5.out)
          have HHA := Lib.hid (H5.out.al (.cells #[.string ⟨u.toArray⟩, .int .i64 p, .int .i64 q, .int .i64 0, .int .i64 0, .bool false] 57))
          have z1 := R5.out.size
          have hW0 := H5.out.lt
          have hx20 := Lib.hid (show ts.length + 1 ≤ 1048576 by omega)
          go_wp2_with (at_builtin; refine App.wpList_app _ rfl _ _ 26 rfl W.heap.size 57 i0 _ 6 56 Tryz.underlying26 hi hz0 hz1 hz2 rfl (by omega) _ ts.length (prC ts) rfl OA.out ⟨w5.heap.size, 0, none⟩ 1 _ [.string ⟨u.toArray⟩, .int .i64 p, .int .i64 q, .int .i64 0, .int .i64 0, .bool false] rfl (by omega) rfl (one_row6 w5 _ _ _ _ _ _ _) (by intro u hu; simp at hu; rcases hu with rfl | rfl | rfl | rfl | rfl | rfl <;> rfl) (by have := hx20.out; omega) (by have := hx20.out; omega) (by simp; omega) ?_; intro l' w6 hown' hgrow hplace; have O7 := Lib.hid (show O6 w6 W.heap.size l' (ts ++ [zP ⟨u, p, q⟩]) by unfold O6; rw [List.length_append, prC_app]; exact hown'); have B7 := Lib.hid (show Below W.heap.size W w6 from BA.out.grown hgrow (by simp; omega) (fun g e => (World.ownsRow.lt OA.out g e).1)); have H7 := Lib.hid (HHA.out.grown hgrow (fun e => by have := own_at OA.out HHA.out e.symm; exact this)); obtain ⟨a7, c7, rfl⟩ := O7.out.slice; clear hown' hgrow hplace)
          trace_state
          go_roundg g
          case measure => exact HG0.out
          case rel => exact ⟨ts.length + 1, by have := HK.out; omega, by go_num, by have := O7.out; rw [HZ.out]; simpa using this, B7.out, H7.out⟩
end Go.Proofs.YtakiigddbdapaaaGreatDoor.Pe
