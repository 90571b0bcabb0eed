
/-
  Choose of the model, walked.
-/
import Derived.Test.YtakiigddbdapaaaGreatDoorChC
namespace Go.Proofs.YtakiigddbdapaaaGreatDoor.Pe
open Go.RowKit
open Go.Proofs.YtakiigddbdapaaaGreatDoor.Gr (belI_step belI_alloc ret_b ret_i tgB rk)
open Go.Proofs.YtakiigddbdapaaaGreatDoor.Ul (in_any)
open Go.Proofs.YtakiigddbdapaaaGreatDoor.Mk
/-- the code and the place of Choose -/
def hoC (xs : List Pr) (now draw : Int) : Int := if pcC xs = 0 then (if nwB now && nwB draw then (if wS now (ls now 0 xs) xs = 0 then 5 else 0) else 4) else pcC xs
def hoP (xs : List Pr) (now draw : Int) : Int := if hoC xs now draw = 0 then chS now draw xs else 0
def Ho (W : World) (p c : Int) (e : Ending) (w' : World) : Prop := e = .returned (.tuple #[.int .i64 p, .int .i64 c]) ∧ Below W.heap.size W w'
theorem ho_bad {W w : World} {xs : List Pr} {now draw c : Int} (h : hoC xs now draw = c) (h0 : c ≠ 0) (hb : Below W.heap.size W w) : Ho W (hoP xs now draw) (hoC xs now draw) (.returned (.tuple #[.int .i64 0, .int .i64 c])) w := by
  unfold hoP; rw [h, if_neg h0]; exact ⟨rfl, hb⟩
theorem ho_good {W w : World} {xs : List Pr} {now draw p : Int} (h : hoC xs now draw = 0) (h0 : chS now draw xs = p) (hb : Below W.heap.size W w) : Ho W (hoP xs now draw) (hoC xs now draw) (.returned (.tuple #[.int .i64 p, .int .i64 0])) w := by
  unfold hoP; rw [h, if_pos rfl, h0]; exact ⟨rfl, hb⟩
theorem ch2_ge (now b : Int) : ∀ (xs : List Pr) (left : Int) (i : Nat), (∀ x ∈ xs, Rk x) → 0 ≤ left → left < wS now b xs → 0 ≤ ch2 now b left i xs := by
  intro xs left i h h0 h1
  rw [ch2_plc now b xs left i h h0 h1]; omega
set_option maxRecDepth 100000 in
set_option maxHeartbeats 4000000 in
theorem hoS_any (B : Nat) (w0 : World) (xs : List Pr) (v : Value) (h : PrIn (· < B) w0 v xs) (hl : ∀ i, i < xs.length → (xs.getD i default).url.length ≤ 1048576) (now draw : Int) (W : World) (hb : Below B w0 W) (hB : B ≤ W.heap.size) :
    Calls Tryz.prog 19 #[v, .int .i64 now, .int .i64 draw] W (Ho W (hoP xs now draw) (hoC xs now draw)) := by
  have HOK := Lib.hid (fun W h1 h2 => okS_any B w0 xs v h hl W h1 h2)
  have HI1 := Lib.hid (fun w => show Calls Tryz.prog 40 #[.int .i64 now, .int .i64 0, .int .i64 1000000] w fun e w' => e = .returned (.bool (nwB now)) ∧ w = w' from in_any now 0 1000000 w)
  have HI2 := Lib.hid (fun w => show Calls Tryz.prog 40 #[.int .i64 draw, .int .i64 0, .int .i64 1000000] w fun e w' => e = .returned (.bool (nwB draw)) ∧ w = w' from in_any draw 0 1000000 w)
  have HCH := Lib.hid (fun hv hd W h1 h2 => chooseS_any B w0 xs v h hv now draw hd W h1 h2)
  obtain ⟨ao, capo, rfl⟩ := h.slice2
  have HB := Lib.hid hb
  clear h hl hb
  by_cases h4 : 4096 < xs.length
  · have HC := Lib.hid (show hoC xs now draw = 2 by unfold hoC pcC; simp [h4])
    have h4I : ((4096 : Int) < (xs.length : Int)) := by omega
    have HF := Lib.hid (ho_bad HC.out (by decide) (Below.refl W.heap.size W))
    clear h4
    generalize hoP xs now draw = P at *
    generalize hoC xs now draw = C at *
    go_enter Tryz.func19, Tryz.ntmps19
    go_wp2
    exact bodyPost_ret (ret_2 Tryz.results19) rfl HF.out
  · have h4I : ¬ ((4096 : Int) < (xs.length : Int)) := by omega
    obtain ⟨r, hr⟩ : ∃ r, plB xs = r := ⟨_, rfl⟩
    cases r
    · have HC := Lib.hid (show hoC xs now draw = 1 by unfold hoC pcC; simp [h4, hr])
      rw [hr] at HOK
      clear h4 hr
      have HFX := Lib.hid (fun w hbw => ho_bad (W := W) (w := w) HC.out (by decide) hbw)
      generalize hoP xs now draw = P at *
      generalize hoC xs now draw = C at *
      go_enter Tryz.func19, Tryz.ntmps19
      go_wp2_with fail
      refine (HOK.out _ HB.out hB).mono ?_
      rintro e w2 ⟨rfl, hb2⟩
      have HF := Lib.hid (HFX.out w2 hb2)
      clear hb2
      go_wp2
      exact bodyPost_ret (ret_2 Tryz.results19) rfl HF.out
    · have hp : pcC xs = 0 := by unfold pcC; rw [if_neg h4, hr]; rfl
      have HRK := Lib.hid (fun x hx => show Rk x from ⟨(plB_rk hr x hx).1.1, (plB_rk hr x hx).2.1⟩)
      have HCH := Lib.hid (fun hd W h1 h2 => HCH.out hr hd W h1 h2)
      rw [hr] at HOK
      clear h4 hr
      obtain ⟨n1, hn1⟩ : ∃ n1, nwB now = n1 := ⟨_, rfl⟩
      obtain ⟨n2, hn2⟩ : ∃ n2, nwB draw = n2 := ⟨_, rfl⟩
      have HCC := Lib.hid (show hoC xs now draw = (if n1 && n2 then (if wS now (ls now 0 xs) xs = 0 then 5 else 0) else 4) by unfold hoC; rw [if_pos hp, hn1, hn2])
      have HD := Lib.hid (show n2 = true → 0 ≤ draw ∧ draw ≤ 1000000 by intro e; rw [e] at hn2; unfold nwB at hn2; exact of_decide_eq_true hn2)
      rw [hn1] at HI1
      rw [hn2] at HI2
      clear hn1 hn2 hp
      cases n1
      · have HC := Lib.hid (show hoC xs now draw = 4 by rw [HCC.out]; rfl)
        have HFX := Lib.hid (fun w hbw => ho_bad (W := W) (w := w) HC.out (by decide) hbw)
        clear HCH HCC HC
        generalize hoP xs now draw = P at *
        generalize hoC xs now draw = C at *
        go_enter Tryz.func19, Tryz.ntmps19
        go_wp2_with fail
        refine (HOK.out _ HB.out hB).mono ?_
        rintro e w2 ⟨rfl, hb2⟩
        have HF := Lib.hid (HFX.out w2 hb2)
        clear hb2
        go_wp2_with fail
        refine (HI1.out w2).mono ?_
        rintro e _ ⟨rfl, rfl⟩
        go_wp2
        exact bodyPost_ret (ret_2 Tryz.results19) rfl HF.out
      · cases n2
        · have HC := Lib.hid (show hoC xs now draw = 4 by rw [HCC.out]; rfl)
          have HFX := Lib.hid (fun w hbw => ho_bad (W := W) (w := w) HC.out (by decide) hbw)
          clear HCH HCC HC
          generalize hoP xs now draw = P at *
          generalize hoC xs now draw = C at *
          go_enter Tryz.func19, Tryz.ntmps19
          go_wp2_with fail
          refine (HOK.out _ HB.out hB).mono ?_
          rintro e w2 ⟨rfl, hb2⟩
          have HF := Lib.hid (HFX.out w2 hb2)
          clear hb2
          go_wp2_with fail
          refine (HI1.out w2).mono ?_
          rintro e _ ⟨rfl, rfl⟩
          go_wp2_with fail
          refine (HI2.out w2).mono ?_
          rintro e _ ⟨rfl, rfl⟩
          go_wp2
          exact bodyPost_ret (ret_2 Tryz.results19) rfl HF.out
        · have hd := HD.out rfl
          have HCW := Lib.hid (fun w h1 h2 => HCH.out hd w h1 h2)
          by_cases hw : wS now (ls now 0 xs) xs = 0
          · have HC := Lib.hid (show hoC xs now draw = 5 by rw [HCC.out, hw]; rfl)
            have hch : chS now draw xs = -1 := by unfold chS; rw [if_pos hw]
            have HFX := Lib.hid (fun w hbw => ho_bad (W := W) (w := w) HC.out (by decide) hbw)
            rw [hch] at HCW
            clear HCH HCC HC hw hch hd
            generalize hoP xs now draw = P at *
            generalize hoC xs now draw = C at *
            go_enter Tryz.func19, Tryz.ntmps19
            go_wp2_with fail
            refine (HOK.out _ HB.out hB).mono ?_
            rintro e w2 ⟨rfl, hb2⟩
            have B2 := Lib.hid hb2
            clear hb2
            go_wp2_with fail
            refine (HI1.out w2).mono ?_
            rintro e _ ⟨rfl, rfl⟩
            go_wp2_with fail
            refine (HI2.out w2).mono ?_
            rintro e _ ⟨rfl, rfl⟩
            go_wp2_with fail
            refine (HCW.out w2 (HB.out.trans (B2.out.mono hB)) (Nat.le_trans hB B2.out.size)).mono ?_
            rintro e w3 ⟨rfl, hb3⟩
            have HF := Lib.hid (HFX.out w3 (below_chain B2.out hb3))
            clear hb3
            go_wp2
            exact bodyPost_ret (ret_2 Tryz.results19) rfl HF.out
          · have HC := Lib.hid (show hoC xs now draw = 0 by rw [HCC.out]; simp [hw])
            have hge : ¬ chS now draw xs < 0 := by
              have h0 := wS_nonneg now (ls now 0 xs) xs HRK.out
              have := ch2_ge now (ls now 0 xs) xs (draw % wS now (ls now 0 xs) xs) 0 HRK.out (Int.emod_nonneg _ hw) (Int.emod_lt_of_pos _ (by omega))
              unfold chS; rw [if_neg hw]; omega
            obtain ⟨p, hp⟩ : ∃ p, chS now draw xs = p := ⟨_, rfl⟩
            have HFX := Lib.hid (fun w hbw => ho_good (W := W) (w := w) HC.out hp hbw)
            rw [hp] at HCW hge
            clear HCH HCC HC hw hp hd
            generalize hoP xs now draw = P at *
            generalize hoC xs now draw = C at *
            go_enter Tryz.func19, Tryz.ntmps19
            go_wp2_with fail
            refine (HOK.out _ HB.out hB).mono ?_
            rintro e w2 ⟨rfl, hb2⟩
            have B2 := Lib.hid hb2
            clear hb2
            go_wp2_with fail
            refine (HI1.out w2).mono ?_
            rintro e _ ⟨rfl, rfl⟩
            go_wp2_with fail
            refine (HI2.out w2).mono ?_
            rintro e _ ⟨rfl, rfl⟩
            go_wp2_with fail
            refine (HCW.out w2 (HB.out.trans (B2.out.mono hB)) (Nat.le_trans hB B2.out.size)).mono ?_
            rintro e w3 ⟨rfl, hb3⟩
            have HF := Lib.hid (HFX.out w3 (below_chain B2.out hb3))
            clear hb3
            go_wp2
            exact bodyPost_ret (ret_2 Tryz.results19) rfl HF.out
end Go.Proofs.YtakiigddbdapaaaGreatDoor.Pe
