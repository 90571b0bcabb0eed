
/-
  KeepPeers of the model, walked.
-/
import Derived.Test.YtakiigddbdapaaaGreatDoorPkC
namespace Go.Proofs.YtakiigddbdapaaaGreatDoor.Pe
open Go.RowKit
open Go.Proofs.YtakiigddbdapaaaGreatDoor.Gr (Tg Gp TgIn tV gV gpB gpS_any groupI belI_step belI_alloc ret_b ret_i heap_set)
open Go.Proofs.YtakiigddbdapaaaGreatDoor.Ul (Tab MaxL)
open Go.Proofs.YtakiigddbdapaaaGreatDoor.Mk
theorem kS_all (old : List Pr) (ts : List Tg) (h : plB old = true) : (ts.map zP).map (kS old) = ts.map (zK old) := by
  rw [List.map_map]
  refine List.map_congr_left fun t _ => ?_
  have h2 : prsB [] old = true := by unfold plB at h; simp only [Bool.and_eq_true] at h; exact h.2
  exact kS_kF old [] (zP t) h2
set_option maxRecDepth 100000 in
set_option maxHeartbeats 4000000 in
theorem kpS_any (B : Nat) (w0 : World) (old : List Pr) (ov : Value) (ho : PrIn (· < B) w0 ov old) (ho2 : ∀ i, i < old.length → (old.getD i default).url.length ≤ 1048576) (g : Gp) (v : Value) (h : TgIn (· < B) w0 v g.tgs) (hl : ∀ i, i < g.tgs.length → (g.tgs.getD i default).url.length ≤ 1048576) (hn : g.name.length ≤ 1048576) (hm : g.tgs.length ≤ 1048576) (W : World) (hb : Below B w0 W) (hB : B ≤ W.heap.size) :
    Calls Tryz.prog 28 #[ov, gV g v] W (NewL W (kpR old g) (kpC old g)) := by
  have HOK := Lib.hid (fun W h1 h2 => okS_any B w0 old ov ho ho2 W h1 h2)
  have HG := Lib.hid (fun W h1 h2 => gpS_any B w0 g v h hl hn W h1 h2)
  have HKP := Lib.hid (fun W h1 h2 => keepS_any B w0 old ov ho g v h hm W h1 h2)
  obtain ⟨a1, l1, cc1, rfl⟩ := h.slice
  obtain ⟨ao, capo, rfl⟩ := ho.slice2
  have HB := Lib.hid hb
  clear h hl hn hb ho ho2
  obtain ⟨w1, hw1⟩ : ∃ w1, w1 = W.alloc (gO g (.slice a1 l1 cc1)) := ⟨_, rfl⟩
  have H1 := Lib.hid (show Hd w1 W.heap.size (gO g (.slice a1 l1 cc1)) by rw [hw1]; exact Hd.new _ _)
  have B1 := Lib.hid (show Below W.heap.size W w1 by rw [hw1]; exact (Below.refl _ _).alloc (Nat.le_refl _) _)
  have HB1 := Lib.hid (HB.out.trans (B1.out.mono hB))
  have hB1 : B ≤ w1.heap.size := Nat.le_trans hB B1.out.size
  by_cases h4 : 4096 < old.length
  · have hp : pcC old = 2 := by unfold pcC; rw [if_pos h4]
    rw [show kpC old g = 2 by unfold kpC; rw [hp]; rfl, show kpR old g = [] by unfold kpR; rw [hp]; rfl]
    have h4I : ((4096 : Int) < (old.length : Int)) := by omega
    clear hp h4
    go_enter Tryz.func28, Tryz.ntmps28
    go_upto_region 1 with fail
    rw [← hw1]
    clear hw1 H1
    have HF := Lib.hid (newL_mk (W := W) (R := []) (C := 2) rfl rfl B1.out)
    go_wp2
    exact bodyPost_ret (ret_2 Tryz.results28) rfl HF.out
  · have h4I : ¬ ((4096 : Int) < (old.length : Int)) := by omega
    obtain ⟨r, hr⟩ : ∃ r, plB old = r := ⟨_, rfl⟩
    cases r
    · have hp : pcC old = 1 := by unfold pcC; rw [if_neg h4, hr]; rfl
      rw [show kpC old g = 1 by unfold kpC; rw [hp]; rfl, show kpR old g = [] by unfold kpR; rw [hp]; rfl]
      rw [hr] at HOK
      clear hp h4 hr
      go_enter Tryz.func28, Tryz.ntmps28
      go_upto_region 1 with fail
      rw [← hw1]
      clear hw1 H1
      go_wp2_with fail
      refine (HOK.out _ HB1.out hB1).mono ?_
      rintro e w2 ⟨rfl, hb2⟩
      have HF := Lib.hid (newL_mk (W := W) (R := []) (C := 1) rfl rfl (below_chain B1.out hb2))
      clear hb2
      go_wp2
      exact bodyPost_ret (ret_2 Tryz.results28) rfl HF.out
    · have hp : pcC old = 0 := by unfold pcC; rw [if_neg h4, hr]; rfl
      have HS := Lib.hid (kS_all old g.tgs hr)
      rw [show kpC old g = poC g by unfold kpC; rw [if_pos hp], show kpR old g = (if gpB g = true then g.tgs.map (zK old) else []) by unfold kpR; simp only [hp, true_and]]
      rw [hr] at HOK
      clear hp h4 hr
      unfold poC
      obtain ⟨r, hr⟩ : ∃ r, gpB g = r := ⟨_, rfl⟩
      rw [hr] at HG ⊢
      clear hr
      cases r
      · rw [if_neg (by simp), if_neg (by simp)]
        go_enter Tryz.func28, Tryz.ntmps28
        go_upto_region 1 with fail
        rw [← hw1]
        clear hw1
        go_wp2_with fail
        refine (HOK.out _ HB1.out hB1).mono ?_
        rintro e w2 ⟨rfl, hb2⟩
        have B2 := Lib.hid (below_chain B1.out hb2)
        obtain ⟨m0, m1, m2, -⟩ := (H1.out.blw hb2).three
        clear hb2
        go_wp2_with fail
        refine (HG.out _ (HB.out.trans (B2.out.mono hB)) (Nat.le_trans hB B2.out.size)).mono ?_
        rintro e w3 ⟨rfl, hb3⟩
        have HF := Lib.hid (newL_mk (W := W) (R := []) (C := 1) rfl rfl (below_chain B2.out hb3))
        clear hb3 m0 m1 m2
        go_wp2
        exact bodyPost_ret (ret_2 Tryz.results28) rfl HF.out
      · rw [if_pos rfl, if_pos rfl, ← HS.out]
        clear HS
        go_enter Tryz.func28, Tryz.ntmps28
        go_upto_region 1 with fail
        rw [← hw1]
        clear hw1
        go_wp2_with fail
        refine (HOK.out _ HB1.out hB1).mono ?_
        rintro e w2 ⟨rfl, hb2⟩
        have B2 := Lib.hid (below_chain B1.out hb2)
        have H2 := Lib.hid (H1.out.blw hb2)
        obtain ⟨m0, m1, m2, -⟩ := H2.out.three
        clear hb2 H1
        go_wp2_with fail
        refine (HG.out _ (HB.out.trans (B2.out.mono hB)) (Nat.le_trans hB B2.out.size)).mono ?_
        rintro e w3 ⟨rfl, hb3⟩
        have B3 := Lib.hid (below_chain B2.out hb3)
        obtain ⟨n0, n1, n2, -⟩ := (H2.out.blw hb3).three
        clear hb3 m0 m1 m2 H2
        go_wp2_with fail
        refine (HKP.out _ (HB.out.trans (B3.out.mono hB)) (Nat.le_trans hB B3.out.size)).mono ?_
        rintro e w4 ⟨v4, rfl, ho4, hb4⟩
        generalize (g.tgs.map zP).map (kS old) = R at *
        have HF := Lib.hid (show NewL W R 0 (.returned (.tuple #[v4, .int .i64 0])) w4 from ⟨v4, rfl, ho4.base B3.out.size, below_chain B3.out hb4⟩)
        obtain ⟨a3, c3, rfl⟩ := ho4.slice
        clear ho4 hb4 n0 n1 n2
        generalize R.length = nn at *
        go_wp2
        exact bodyPost_ret (ret_2 Tryz.results28) rfl HF.out
end Go.Proofs.YtakiigddbdapaaaGreatDoor.Pe
