
/-
  The model's l04OK and PolicyOK, walked.
-/
import Derived.Test.YtmaknkbmilcanaaGreatDoorPoS3
namespace Go.Proofs.YtmaknkbmilcanaaGreatDoor.Po
open Go.RowKit
open Go.Proofs.YtmaknkbmilcanaaGreatDoor.Tx
open Go.Proofs.YtmaknkbmilcanaaGreatDoor.Ul hiding ret_bool
open Go.Proofs.YtmaknkbmilcanaaGreatDoor.Cl
open Go.Proofs.YtmaknkbmilcanaaGreatDoor.Aw (nowB wordB)
theorem all_drop (ws : List (List UInt8)) (k : Nat) (h : k < ws.length) : (ws.drop k).all wordB = (wordB (ws.getD k []) && (ws.drop (k + 1)).all wordB) := by
  rw [List.drop_eq_getElem_cons h, List.all_cons]; simp [h]
theorem rlB_as (r : Rl) : rlB r = ((rnameB r.name && decide (r.words.length ≤ 8)) && r.words.all wordB) := rfl
theorem plB_as (p : Pl) : plB p = (decide (p.rules.length ≤ 8) && (rlsB [] p.rules && ((p.rep == (makeP p.rules).rep) && (p.uris == (makeP p.rules).uris)))) := rfl
set_option maxRecDepth 100000 in
set_option maxHeartbeats 2000000 in
theorem okS_any (B : Nat) (w0 : World) (p : Pl) (uv rv : Value) (hu : TxtsIn (· < B) w0 uv p.uris) (hr : RlIn (· < B) w0 rv p.rules) (hx : p.rules.length ≤ 1048576) (hn : ∀ i, i < p.rules.length → (p.rules.getD i default).name.length ≤ 1048576)
    (hw : ∀ i, i < p.rules.length → (p.rules.getD i default).words.length ≤ 1048576 ∧ ∀ j, j < (p.rules.getD i default).words.length → ((p.rules.getD i default).words.getD j []).length ≤ 1048576) (W : World) (hb : Below B w0 W) (hB : B ≤ W.heap.size) :
    Calls Tryz.prog 123 #[pV p uv rv] W fun e w' => e = .returned (.bool (plB p)) ∧ Below W.heap.size W w' := by
  obtain ⟨rep, us, xs⟩ := p
  simp only at hu hr hx hn hw
  have HMK := Lib.hid (fun (W' : World) h1 h2 => makeS_any B w0 xs rv hr hx hw W' h1 h2)
  have HAt := Lib.hid (fun (W' : World) (u : List UInt8) (hb' : Below B w0 W') => atS_any (· < B) xs rv u W' (hr.blw hb'))
  have HU := Lib.hid hu
  have hlM : (makeP xs).uris.length ≤ 4 := uris_four _ [] (by simp)
  obtain ⟨au, lu, cu, rfl⟩ := hu.slice
  obtain ⟨a, cap, b, off, vs, rfl, hcap, hm, hlen, ha, hc⟩ := hr
  have HC := Lib.hid hc
  have HA := Lib.hid ha
  have HB := Lib.hid hb
  have HW := Lib.hid hw
  have HN := Lib.hid hn
  have HP := Lib.hid (plB_as ⟨rep, us, xs⟩)
  obtain ⟨r, hrr⟩ : ∃ r, plB ⟨rep, us, xs⟩ = r := ⟨_, rfl⟩
  rw [hrr] at HP
  rw [hrr]
  clear hc ha hlen hb hw hu hrr hn
  simp only at HP
  have K0 := heap_alloc_new W (.cells #[.string ⟨rep.toArray⟩, .slice au lu cu, .slice a xs.length cap] 37)
  have B0 := (Below.refl W.heap.size W).alloc (Nat.le_refl _) (.cells #[.string ⟨rep.toArray⟩, .slice au lu cu, .slice a xs.length cap] 37)
  have z0 : W.heap.size < (W.alloc (.cells #[.string ⟨rep.toArray⟩, .slice au lu cu, .slice a xs.length cap] 37)).heap.size := by simp
  by_cases h8 : xs.length ≤ 8
  · have d8 : decide ((8 : Int) < (xs.length : Int)) = false := by simp; omega
    go_enter Tryz.func123, Tryz.ntmps123
    go_wp2
    generalize W.alloc (.cells #[.string ⟨rep.toArray⟩, .slice au lu cu, .slice a xs.length cap] 37) = W1 at *
    have K1 := Lib.hid K0
    have HB1 := Lib.hid B0
    clear K0 B0
    go_loopw [3] (fun i wr => ∃ k : Nat, k ≤ xs.length ∧ i = .int .i64 k ∧ rlsB [] xs = rlsB (xs.take k) (xs.drop k) ∧ Below W1.heap.size W1 wr) (fun i _ => xs.length - (intOf i).toNat)
    case atStart => exact ⟨0, by omega, rfl, rfl, Below.refl _ _⟩
    case round =>
      obtain ⟨k, hk, rfl, hE, hR⟩ := hrel
      have HE := Lib.hid hE
      have hBw : Below W.heap.size W wr := HB1.out.trans (hR.mono (Nat.le_of_lt z0))
      have hW : Below B w0 wr := HB.out.trans (hBw.mono hB)
      obtain ⟨m0, m1, m2, mf⟩ := three_cells ((hR.block _ z0).trans K1.out)
      have hzr := hR.size
      have hd1 : W.heap.size < wr.heap.size := by omega
      have HBw := Lib.hid hBw
      have HR := Lib.hid hR
      clear hE
      by_cases hlt : k < xs.length
      · obtain ⟨ea, hlb⟩ := HA.out (by omega)
        subst ea
        obtain ⟨c0, c1, T1⟩ := HC.out k hlt
        have hd2 : b < wr.heap.size := by omega
        have q0 := (hW.cell (p := ⟨b, off + k * 2, none⟩) hlb).trans c0
        have q1 := (hW.cell (p := ⟨b, off + k * 2 + 1, none⟩) hlb).trans c1
        have TD := Lib.hid (rlsB_drop k hlt)
        have AH := at_has xs k hlt
        have HX := Lib.hid (HW.out k hlt)
        have hnl := HN.out k hlt
        have RA := Lib.hid (rlB_as (xs.getD k default))
        have hword : (xs.getD k default).words.length ≤ 1048576 := (HW.out k hlt).1
        obtain ⟨a5, cap5, b5, off5, e5, hcap5, hm5, hl5, ha5, hc5⟩ := T1
        rw [e5] at q1
        have HA5 := Lib.hid ha5
        have HC5 := Lib.hid hc5
        have HW2 := Lib.hid hW
        clear c0 c1 ha5 hc5 e5 hl5 hW hR hBw
        generalize xs.getD k default = x at *
        obtain ⟨nm, ws⟩ := x
        simp only at *
        have HNm := Lib.hid (fun W => nameS_any nm W (by omega))
        have HA2 := Lib.hid (fun (W' : World) (hb' : Below wr.heap.size wr W') => HAt.out W' nm (HW2.out.trans (hb'.mono (by omega))))
        generalize rnameB nm = nb at *
        generalize atN nm 0 xs = ai at *
        generalize hasN (xs.take k) nm = hn at *
        have HBR := Lib.hid (fun (o : Obj) => (Below.refl wr.heap.size wr).alloc (Nat.le_refl _) o)
        have HBF := Lib.hid (fun (o : Obj) => (HBw.out.alloc HBw.out.size o))
        cases nb
        · go_wp2_with (first
            | (go_at_call 159; refine (HNm.out _).mono ?_; rintro e w' ⟨rfl, rfl⟩))
          go_ret
          exact ⟨ret_b (by rw [HP.out, HE.out, TD.out, RA.out]; simp), HBF.out _⟩
        cases hn
        rotate_left
        · go_wp2_with (first
            | (go_at_call 159; refine (HNm.out _).mono ?_; rintro e w' ⟨rfl, rfl⟩)
            | (go_at_call 199; refine (HA2.out _ (HBR.out _)).mono ?_; rintro e w' ⟨rfl, rfl⟩))
          go_ret
          exact ⟨ret_b (by rw [HP.out, HE.out, TD.out]; simp), HBF.out _⟩
        by_cases hw8 : ws.length ≤ 8
        · have dw : decide ((8 : Int) < (ws.length : Int)) = false := by simp; omega
          have RB := Lib.hid (show rlB ⟨nm, ws⟩ = ws.all wordB by rw [RA.out]; simp [hw8])
          go_wp2_with (first
            | (go_at_call 159; refine (HNm.out _).mono ?_; rintro e w' ⟨rfl, rfl⟩)
            | (go_at_call 199; refine (HA2.out _ (HBR.out _)).mono ?_; rintro e w' ⟨rfl, rfl⟩))
          have HBRX := Lib.hid (HBR.out (.cells #[.string ⟨nm.toArray⟩, .slice a5 ws.length cap5] 205))
          have HBFX := Lib.hid (HBF.out (.cells #[.string ⟨nm.toArray⟩, .slice a5 ws.length cap5] 205))
          obtain ⟨x0, x1, xf⟩ := two_cells (heap_alloc_new wr (.cells #[.string ⟨nm.toArray⟩, .slice a5 ws.length cap5] 205))
          generalize wr.alloc (.cells #[.string ⟨nm.toArray⟩, .slice a5 ws.length cap5] 205) = w5 at *
          have HW5 := Lib.hid (HW2.out.trans (HBRX.out.mono (by omega)))
          go_loop [5] (fun i => ∃ j : Nat, j ≤ ws.length ∧ i = .int .i64 j ∧ ws.all wordB = (ws.drop j).all wordB) (fun i => ws.length - (intOf i).toNat)
          case atStart => exact ⟨0, by omega, rfl, rfl⟩
          case round =>
            obtain ⟨j, hj, rfl, hA⟩ := hrel
            have HAA := Lib.hid hA
            clear hA
            by_cases hlj : j < ws.length
            · obtain ⟨ea5, hlb5⟩ := HA5.out (by omega)
              subst ea5
              have q2 := (HW5.out.cell (p := ⟨b5, off5 + j, none⟩) hlb5).trans (HC5.out j hlj)
              have AD := Lib.hid (all_drop ws j hlj)
              have HWD := Lib.hid (fun W => wordS_any (ws.getD j []) W (Nat.le_trans (HX.out.2 j hlj) (by omega)))
              generalize ws.getD j [] = y at *
              generalize wordB y = yb at *
              cases yb
              · go_wp2_with (go_at_call 200; refine (HWD.out _).mono ?_; rintro e w' ⟨rfl, rfl⟩)
                go_ret
                exact ⟨ret_b (by rw [HP.out, HE.out, TD.out, RB.out, HAA.out, AD.out]; simp), HBFX.out⟩
              · go_wp2_with (go_at_call 200; refine (HWD.out _).mono ?_; rintro e w' ⟨rfl, rfl⟩)
                go_round
                case rel => exact ⟨j + 1, by omega, by go_num, by rw [HAA.out, AD.out, Bool.true_and]⟩
                case measure => simp [intOf]; omega
            · obtain rfl : j = ws.length := by omega
              have AT := Lib.hid (show ws.all wordB = true by rw [HAA.out, List.drop_length]; rfl)
              go_wp2
              go_roundw
              case rel => exact ⟨k + 1, by omega, by go_num, by rw [HE.out, TD.out, RB.out, AT.out]; rfl, HR.out.trans (HBRX.out.mono hzr)⟩
              case measure => simp [intOf]; omega
        · have dw : decide ((8 : Int) < (ws.length : Int)) = true := by simp; omega
          have RB := Lib.hid (show rlB ⟨nm, ws⟩ = false by rw [RA.out]; simp [hw8])
          go_wp2_with (first
            | (go_at_call 159; refine (HNm.out _).mono ?_; rintro e w' ⟨rfl, rfl⟩)
            | (go_at_call 199; refine (HA2.out _ (HBR.out _)).mono ?_; rintro e w' ⟨rfl, rfl⟩))
          go_ret
          exact ⟨ret_b (by rw [HP.out, HE.out, TD.out, RB.out]; simp), HBF.out _⟩
      · obtain rfl : k = xs.length := by omega
        have RT := Lib.hid (show rlsB [] xs = true by rw [HE.out, List.drop_length]; rfl)
        have HP2 := Lib.hid (show r = ((rep == (makeP xs).rep) && (us == (makeP xs).uris)) by rw [HP.out, decide_eq_true h8, RT.out]; rfl)
        go_wp2_with fail
        refine (HMK.out wr hW (by omega)).mono ?_
        rintro e w2 ⟨uv2, rfl, hT2, hb2⟩
        have hz2 := hb2.size
        have hd3 : W.heap.size < w2.heap.size := by omega
        obtain ⟨a2, l2, c2, rfl⟩ := hT2.slice
        obtain ⟨n0, n1, n2, nf⟩ := three_cells ((hb2.block _ (by omega)).trans ((hR.block _ z0).trans K1.out))
        have HB2 := Lib.hid (HBw.out.trans (hb2.mono HBw.out.size))
        have HB2a := Lib.hid (fun (o : Obj) => HB2.out.alloc HB2.out.size o)
        have HS := Lib.hid (fun (W' : World) (h : Below w2.heap.size w2 W') => sameT_any _ _ us (makeP xs).uris _ _ W' (HU.out.blw (HB.out.trans ((HB2.out.mono hB).trans (h.mono (by have := HB2.out.size; omega))))) (hT2.later (fun _ hb => hb.2) h))
        generalize makeP xs = q at *
        obtain ⟨rep2, us2, xs2⟩ := q
        simp only at *
        clear m0 m1 m2 mf hb2 hT2 HMK hR hBw hW
        obtain ⟨c, hcc⟩ : ∃ c, (rep == rep2) = c := ⟨_, rfl⟩
        rw [hcc] at HP2
        cases c
        · go_wp2
          go_ret
          exact ⟨ret_b (by rw [HP2.out]; rfl), HB2a.out _⟩
        · go_wp2_with (first
            | (go_at_call 202; refine (HS.out _ ((Below.refl _ _).alloc (Nat.le_refl _) _)).mono ?_; rintro e w' ⟨rfl, nn, rfl⟩))
          go_ret
          exact ⟨ret_b (by rw [HP2.out]; rfl), belI_drewN (HB2a.out _) _⟩
  · have d8 : decide ((8 : Int) < (xs.length : Int)) = true := by simp; omega
    have HB1 := Lib.hid B0
    go_enter Tryz.func123, Tryz.ntmps123
    go_wp2
    go_ret
    exact ⟨ret_b (by rw [HP.out, decide_eq_false h8]; rfl), HB1.out⟩
end Go.Proofs.YtmaknkbmilcanaaGreatDoor.Po
