
/-
  The model's l07Choose, walked.
-/
import Derived.Test.YtakiigddbdapaaaGreatDoorChB
namespace Go.Proofs.YtakiigddbdapaaaGreatDoor.Pe
open Go.RowKit
open Go.Proofs.YtakiigddbdapaaaGreatDoor.Gr (belI_step belI_alloc ret_b ret_i tgB rk)
open Go.Proofs.YtakiigddbdapaaaGreatDoor.Mk
theorem plB_rk {xs : List Pr} (h : plB xs = true) : ∀ x ∈ xs, (1 ≤ x.pri ∧ x.pri ≤ 9) ∧ (1 ≤ x.wt ∧ x.wt ≤ 9) := by
  have hp : prsB [] xs = true := by unfold plB at h; simp only [Bool.and_eq_true] at h; exact h.2
  have key : ∀ (ts b : List Pr), prsB b ts = true → ∀ x ∈ ts, (1 ≤ x.pri ∧ x.pri ≤ 9) ∧ (1 ≤ x.wt ∧ x.wt ≤ 9) := by
    intro ts
    induction ts with
    | nil => intro b _ x hx; simp at hx
    | cons t r ih =>
      intro b h x hx
      rw [prsB] at h
      simp only [Bool.and_eq_true] at h
      rcases List.mem_cons.1 hx with rfl | hx
      · have h2 := h.1.1
        unfold prB tgB rk at h2
        simp only [Bool.and_eq_true, decide_eq_true_eq] at h2
        exact ⟨h2.1.1.2, h2.1.2⟩
      · exact ih _ h.2 x hx
  exact key xs [] hp
def chS (now draw : Int) (xs : List Pr) : Int := if wS now (ls now 0 xs) xs = 0 then -1 else ch2 now (ls now 0 xs) (draw % wS now (ls now 0 xs) xs) 0 xs
theorem ch2_drop {xs : List Pr} (now b left : Int) (k : Nat) (hx : k < xs.length) : ch2 now b left k (xs.drop k) = if rdy now (xs.getD k default) && ((xs.getD k default).pri == b) then (if left < (xs.getD k default).wt then (k : Int) else ch2 now b (left - (xs.getD k default).wt) (k + 1) (xs.drop (k + 1))) else ch2 now b left (k + 1) (xs.drop (k + 1)) := by
  rw [List.drop_eq_getElem_cons hx, ch2]; simp [hx]
theorem wS_drop {xs : List Pr} (now b : Int) (k : Nat) (hx : k < xs.length) : wS now b (xs.drop k) = (if rdy now (xs.getD k default) && ((xs.getD k default).pri == b) then (xs.getD k default).wt else 0) + wS now b (xs.drop (k + 1)) := by
  rw [List.drop_eq_getElem_cons hx, wS]; simp [hx]
set_option maxRecDepth 100000 in
set_option maxHeartbeats 8000000 in
theorem chooseS_any (B : Nat) (w0 : World) (xs : List Pr) (v : Value) (h : PrIn (· < B) w0 v xs) (hv : plB xs = true) (now draw : Int) (hd : 0 ≤ draw ∧ draw ≤ 1000000) (W : World) (hb : Below B w0 W) (hB : B ≤ W.heap.size) :
    Calls Tryz.prog 41 #[v, .int .i64 now, .int .i64 draw] W fun e w' => e = .returned (.int .i64 (chS now draw xs)) ∧ Below W.heap.size W w' := by
  have hrk := plB_rk hv
  have h4 := (plB_at hv).1
  have HRK : ∀ x ∈ xs, Rk x := fun x hx => ⟨(hrk x hx).1.1, (hrk x hx).2.1⟩
  have HC1 := Lib.hid (ch1_all now xs HRK)
  have HWN := Lib.hid (wS_nonneg now (ls now 0 xs) xs HRK)
  obtain ⟨a, cap, b, off, rfl, hcap, hmx, -, ha, hc⟩ := h
  have HC := Lib.hid hc
  have HA := Lib.hid ha
  have HB := Lib.hid hb
  have HR0 := Lib.hid (fun (x : Pr) (W' : World) => rdyS_any x now W')
  have HRG := Lib.hid (fun i (hi : i < xs.length) => hrk (xs.getD i default) (by simp [hi]))
  clear hc ha hb hv hrk HRK
  go_enter Tryz.func41, Tryz.ntmps41
  go_wp2
  go_loopw [7, 8, 9] (fun bv sv iv wr => ∃ (k : Nat) (bb sm : Int), k ≤ xs.length ∧ iv = .int .i64 k ∧ bv = .int .i64 bb ∧ sv = .int .i64 sm ∧ (0 ≤ bb ∧ bb ≤ 9) ∧ (0 ≤ sm ∧ sm ≤ 9 * (k : Int)) ∧ ch1 now bb sm (xs.drop k) = ch1 now 0 0 xs ∧ Below W.heap.size W wr) (fun _ _ iv _ => xs.length - (intOf iv).toNat)
  case atStart => exact ⟨0, 0, 0, by omega, rfl, rfl, rfl, by omega, by omega, rfl, Below.refl _ _⟩
  case round =>
    obtain ⟨k, bb, sm, hk, rfl, rfl, rfl, hb0, hs0, hE, hR⟩ := hrel
    have HE := Lib.hid hE
    have HR := Lib.hid hR
    clear hE hR
    by_cases hlt : k < xs.length
    · obtain ⟨ea, hlb⟩ := HA.out (by omega)
      subst ea
      have hW := HB.out.trans (HR.out.mono hB)
      obtain ⟨c0, c1', c2, c3, c4, c5⟩ := HC.out k hlt
      have q0 := (hW.cell (p := ⟨b, off + k * 6, none⟩) hlb).trans c0
      have q1 := (hW.cell (p := ⟨b, off + k * 6 + 1, none⟩) hlb).trans c1'
      have q2 := (hW.cell (p := ⟨b, off + k * 6 + 2, none⟩) hlb).trans c2
      have q3 := (hW.cell (p := ⟨b, off + k * 6 + 3, none⟩) hlb).trans c3
      have q4 := (hW.cell (p := ⟨b, off + k * 6 + 4, none⟩) hlb).trans c4
      have q5 := (hW.cell (p := ⟨b, off + k * 6 + 5, none⟩) hlb).trans c5
      have D := Lib.hid ((ch1_drop now bb sm k hlt).symm.trans HE.out)
      have HRX := Lib.hid (fun W' => HR0.out (xs.getD k default) W')
      have hrg := HRG.out k hlt
      have HQ2 := Lib.hid (fun w (hw : Below B w0 w) => (hw.cell (p := ⟨b, off + k * 6 + 2, none⟩) hlb).trans c2)
      clear c0 c1' c2 c3 c4 c5 hW
      generalize xs.getD k default = x at *
      obtain ⟨u, p, q, f, r, g⟩ := x
      simp only at q0 q1 q2 q3 q4 q5 D hrg HQ2
      obtain ⟨⟨hp1, hp2⟩, hq1, hq2⟩ := hrg
      obtain ⟨c, hcc⟩ : ∃ c, rdy now ⟨u, p, q, f, r, g⟩ = c := ⟨_, rfl⟩
      unfold c1 at D
      rw [hcc] at D HRX
      clear hcc
      go_wp2_with fail
      refine (HRX.out wr).mono ?_
      rintro e w2 ⟨rfl, hb2⟩
      have B2 := Lib.hid (below_chain HR.out hb2)
      have q2 := HQ2.out w2 (HB.out.trans (B2.out.mono hB))
      clear hb2 q0 q1 q3 q4 q5
      cases c
      · have HN := Lib.hid (show ch1 now bb sm (xs.drop (k + 1)) = ch1 now 0 0 xs by have := D.out; simpa using this)
        go_wp2
        go_roundw
        case rel => exact ⟨k + 1, bb, sm, by omega, by go_num, rfl, rfl, hb0, by omega, HN.out, B2.out⟩
        case measure => simp [intOf]; omega
      · by_cases e0 : sm = 0
        · subst e0
          have HN := Lib.hid (show ch1 now p q (xs.drop (k + 1)) = ch1 now 0 0 xs by have := D.out; simpa using this)
          go_wp2
          go_roundw
          case rel => exact ⟨k + 1, p, q, by omega, by go_num, rfl, by go_num, by omega, by omega, HN.out, B2.out⟩
          case measure => simp [intOf]; omega
        · have e0b : (sm == 0) = false := by simpa using e0
          have e0c : 0 < sm := by omega
          by_cases e1 : bb < p
          · have HN := Lib.hid (show ch1 now bb sm (xs.drop (k + 1)) = ch1 now 0 0 xs by have := D.out; simpa [e0c, e1] using this)
            go_wp2
            go_roundw
            case rel => exact ⟨k + 1, bb, sm, by omega, by go_num, rfl, rfl, hb0, by omega, HN.out, B2.out⟩
            case measure => simp [intOf]; omega
          · by_cases e2 : p < bb
            · have HN := Lib.hid (show ch1 now p q (xs.drop (k + 1)) = ch1 now 0 0 xs by have := D.out; simpa [e1, e2] using this)
              go_wp2
              go_roundw
              case rel => exact ⟨k + 1, p, q, by omega, by go_num, rfl, by go_num, by omega, by omega, HN.out, B2.out⟩
              case measure => simp [intOf]; omega
            · have HN := Lib.hid (show ch1 now bb (sm + q) (xs.drop (k + 1)) = ch1 now 0 0 xs by have := D.out; simpa [e1, e2, e0] using this)
              go_wp2
              go_roundw
              case rel => exact ⟨k + 1, bb, sm + q, by omega, by go_num, rfl, by go_num, by omega, by omega, HN.out, B2.out⟩
              case measure => simp [intOf]; omega
    · obtain rfl : k = xs.length := by omega
      have HE2 := HE.out
      rw [List.drop_length, ch1, HC1.out] at HE2
      injection HE2 with E1 E2
      subst E1
      have HSM := Lib.hid E2
      have HCS := Lib.hid (show chS now draw xs = if sm = 0 then -1 else ch2 now (ls now 0 xs) (draw % sm) 0 xs by unfold chS; rw [← E2])
      clear E2 HE HC1 hk
      generalize ls now 0 xs = L at *
      by_cases e0 : sm = 0
      · subst e0
        have HF := Lib.hid (show chS now draw xs = -1 by rw [HCS.out, if_pos rfl])
        go_wp2
        go_ret
        exact ⟨ret_i HF.out.symm, HR.out⟩
      · have e0b : (sm == 0) = false := by simpa using e0
        have HF := Lib.hid (show chS now draw xs = ch2 now L (draw % sm) 0 xs by rw [HCS.out, if_neg e0])
        have HTM := Lib.hid (show draw.tmod sm = draw % sm from Int.tmod_eq_emod_of_nonneg hd.1)
        have HM0 := Lib.hid (Int.emod_nonneg draw e0)
        have HM1 := Lib.hid (Int.emod_lt_of_pos draw (show 0 < sm by omega))
        have HSB := Lib.hid (show sm ≤ 36 by omega)
        clear HCS hs0 hb0 hlt
        go_wp2
        go_loopw [11, 12] (fun lv iv wq => ∃ (k : Nat) (left : Int), k ≤ xs.length ∧ iv = .int .i64 k ∧ lv = .int .i64 left ∧ (0 ≤ left ∧ left ≤ 36) ∧ left < wS now L (xs.drop k) ∧ ch2 now L left k (xs.drop k) = chS now draw xs ∧ Below W.heap.size W wq) (fun _ iv _ => xs.length - (intOf iv).toNat)
        case atStart => exact ⟨0, draw % sm, by omega, rfl, rfl, ⟨HM0.out, by have := HM1.out; have := HSB.out; omega⟩, by have := HM1.out; rw [HSM.out] at this ⊢; exact this, by rw [HF.out]; rfl, HR.out⟩
        case round =>
          obtain ⟨k, left, hk, rfl, rfl, hl, hlw, hE, hR2⟩ := hrel
          have HE := Lib.hid hE
          have HR2 := Lib.hid hR2
          have HLW := Lib.hid hlw
          clear hE hR2 HSM HF HTM HM0 HM1 HR
          have hlt : k < xs.length := by
            rcases Nat.lt_or_ge k xs.length with h | h
            · exact h
            · rw [List.drop_eq_nil_of_le h, wS] at hlw; omega
          clear hlw
          obtain ⟨ea, hlb⟩ := HA.out (by omega)
          subst ea
          have hW := HB.out.trans (HR2.out.mono hB)
          obtain ⟨c0, c1', c2, c3, c4, c5⟩ := HC.out k hlt
          have q0 := (hW.cell (p := ⟨b, off + k * 6, none⟩) hlb).trans c0
          have q1 := (hW.cell (p := ⟨b, off + k * 6 + 1, none⟩) hlb).trans c1'
          have q2 := (hW.cell (p := ⟨b, off + k * 6 + 2, none⟩) hlb).trans c2
          have q3 := (hW.cell (p := ⟨b, off + k * 6 + 3, none⟩) hlb).trans c3
          have q4 := (hW.cell (p := ⟨b, off + k * 6 + 4, none⟩) hlb).trans c4
          have q5 := (hW.cell (p := ⟨b, off + k * 6 + 5, none⟩) hlb).trans c5
          have D := Lib.hid ((ch2_drop now L left k hlt).symm.trans HE.out)
          have WD := Lib.hid (wS_drop now L k hlt)
          have HRX := Lib.hid (fun W' => HR0.out (xs.getD k default) W')
          have hrg := HRG.out k hlt
          have HQ := Lib.hid (fun w (hw : Below B w0 w) => And.intro ((hw.cell (p := ⟨b, off + k * 6 + 1, none⟩) hlb).trans c1') ((hw.cell (p := ⟨b, off + k * 6 + 2, none⟩) hlb).trans c2))
          clear c0 c1' c2 c3 c4 c5 hW
          generalize xs.getD k default = x at *
          obtain ⟨u, p, q, f, r, g⟩ := x
          simp only at q0 q1 q2 q3 q4 q5 D hrg HQ WD
          obtain ⟨⟨hp1, hp2⟩, hq1, hq2⟩ := hrg
          obtain ⟨c, hcc⟩ : ∃ c, rdy now ⟨u, p, q, f, r, g⟩ = c := ⟨_, rfl⟩
          rw [hcc] at D HRX WD
          clear hcc
          go_wp2_with fail
          refine (HRX.out wr).mono ?_
          rintro e w2 ⟨rfl, hb2⟩
          have B2 := Lib.hid (below_chain HR2.out hb2)
          obtain ⟨q1, q2⟩ := HQ.out w2 (HB.out.trans (B2.out.mono hB))
          clear hb2 q0 q3 q4 q5
          cases c
          · have HN := Lib.hid (show ch2 now L left (k + 1) (xs.drop (k + 1)) = chS now draw xs by have := D.out; simpa using this)
            have HW2 := Lib.hid (show left < wS now L (xs.drop (k + 1)) by have h1 := HLW.out; have h2 := WD.out; rw [h2] at h1; simpa using h1)
            go_wp2
            go_roundw
            case rel => exact ⟨k + 1, left, by omega, by go_num, rfl, hl, HW2.out, HN.out, B2.out⟩
            case measure => simp [intOf]; omega
          · by_cases e1 : p = L
            · subst e1
              by_cases e2 : left < q
              · have HN := Lib.hid (show (k : Int) = chS now draw xs by have := D.out; simpa [e2] using this)
                go_wp2
                go_ret
                exact ⟨ret_i HN.out, B2.out⟩
              · have HN := Lib.hid (show ch2 now p (left - q) (k + 1) (xs.drop (k + 1)) = chS now draw xs by have := D.out; simpa [e2] using this)
                have HW2 := Lib.hid (show left - q < wS now p (xs.drop (k + 1)) by have h1 := HLW.out; have h2 := WD.out; rw [h2, if_pos (by simp)] at h1; omega)
                go_wp2
                go_roundw
                case rel => exact ⟨k + 1, left - q, by omega, by go_num, by go_num, ⟨by omega, by omega⟩, HW2.out, HN.out, B2.out⟩
                case measure => simp [intOf]; omega
            · have e1b : (p == L) = false := by simpa using e1
              have e1c : (p != L) = true := by simpa using e1
              have HN := Lib.hid (show ch2 now L left (k + 1) (xs.drop (k + 1)) = chS now draw xs by have := D.out; simpa [e1] using this)
              have HW2 := Lib.hid (show left < wS now L (xs.drop (k + 1)) by have h1 := HLW.out; have h2 := WD.out; rw [h2, if_neg (by simp [e1])] at h1; omega)
              go_wp2
              go_roundw
              case rel => exact ⟨k + 1, left, by omega, by go_num, rfl, hl, HW2.out, HN.out, B2.out⟩
              case measure => simp [intOf]; omega
end Go.Proofs.YtakiigddbdapaaaGreatDoor.Pe
