
/-
  PolicyOK, the model's and the program's.
-/
import Derived.Test.YtmdplphjbgghoaaGreatDoorPoU
namespace Go.Proofs.YtmdplphjbgghoaaGreatDoor.Po
open Go.RowKit
open Go.Proofs.YtmdplphjbgghoaaGreatDoor.Tx
open Go.Proofs.YtmdplphjbgghoaaGreatDoor.Ul hiding ret_bool
open Go.Proofs.YtmdplphjbgghoaaGreatDoor.Cl
/-- how great a policy may be -/
structure Small (p : Pl) : Prop where
  rep : p.rep.length ≤ 1048576
  uris : p.uris.length ≤ 1048576
  uri : ∀ i, i < p.uris.length → (p.uris.getD i []).length ≤ 1048576
  rules : p.rules.length ≤ 1048576
  name : ∀ i, i < p.rules.length → (p.rules.getD i default).name.length ≤ 1048576
  words : ∀ i, i < p.rules.length → (p.rules.getD i default).words.length ≤ 1048576 ∧ ∀ j, j < (p.rules.getD i default).words.length → ((p.rules.getD i default).words.getD j []).length ≤ 1048576
set_option maxRecDepth 100000 in
set_option maxHeartbeats 1000000 in
theorem polI_any (B : Nat) (w0 : World) (p : Pl) (uv rv : Value) (hu : TxtsIn (· < B) w0 uv p.uris) (hr : RlIn (· < B) w0 rv p.rules) (hs : Small p) (W : World) (hb : Below B w0 W) (hB : B ≤ W.heap.size) (hT : Tab W) (hM : MaxL W) :
    Calls Tryz.prog 24 #[pV p uv rv] W fun e w' => e = .returned (.bool (plB p)) ∧ Below W.heap.size W w' := by
  obtain ⟨hsr, hsu, hsui, hsx, hsn, hsw⟩ := hs
  obtain ⟨rep, us, xs⟩ := p
  simp only at hu hr hsr hsu hsui hsx hsn hsw
  have HMK := Lib.hid (fun (hd : rlsB [] xs = true) (W' : World) h1 h2 h3 h4 => makeI_any B w0 xs rv hr hsx hsn hsw hd W' h1 h2 h3 h4)
  have HRS := Lib.hid (fun (W' : World) h1 h2 => rulesI_any B w0 xs rv hr hsx hsn hsw W' h1 h2)
  have HU := Lib.hid hu
  have HP := Lib.hid (plB_as ⟨rep, us, xs⟩)
  obtain ⟨r, hrr⟩ : ∃ r, plB ⟨rep, us, xs⟩ = r := ⟨_, rfl⟩
  rw [hrr] at HP
  rw [hrr]
  obtain ⟨au, lu, cu, rfl⟩ := hu.slice
  obtain ⟨ar, cr, br, offr, vsr, rfl, hcap, hm, -, -, -⟩ := hr
  have HB := Lib.hid hb
  have HT := Lib.hid hT
  have HM := Lib.hid hM
  clear hu hrr hb hT hM hsw hsn hsui
  simp only at HP
  by_cases h8 : xs.length ≤ 8
  · have d8 : decide ((8 : Int) < (xs.length : Int)) = false := by simp; omega
    have HP1 := Lib.hid (show r = (rlsB [] xs && ((rep == (makeP xs).rep) && (us == (makeP xs).uris))) by rw [HP.out, decide_eq_true h8]; rfl)
    clear HP
    obtain ⟨rb, hrb⟩ : ∃ rb, rlsB [] xs = rb := ⟨_, rfl⟩
    rw [hrb] at HRS HP1
    go_enter Tryz.func24, Tryz.ntmps24
    go_wp2_with fail
    refine (HRS.out _ (HB.out.alloc hB _) (by simp; omega)).mono ?_
    rintro e w1 ⟨rfl, hb1⟩
    have hk1 := (hb1.block W.heap.size (by simp)).trans (heap_alloc_new W (.cells #[.string ⟨rep.toArray⟩, .slice au lu cu, .slice ar xs.length cr] 34))
    obtain ⟨m0, m1, m2, mf⟩ := three_cells hk1
    have HK1 := Lib.hid hk1
    have HF := Lib.hid (((Below.refl W.heap.size W).alloc (Nat.le_refl _) (.cells #[.string ⟨rep.toArray⟩, .slice au lu cu, .slice ar xs.length cr] 34)).trans (hb1.mono (by simp)))
    have z1 : W.heap.size < w1.heap.size := by have := hb1.size; simp at this; omega
    clear hb1 hk1 HRS
    cases rb
    · go_wp2
      go_ret
      exact ⟨ret_b (by rw [HP1.out]; rfl), HF.out⟩
    · go_wp2_with fail
      refine (HMK.out hrb w1 (HB.out.trans (HF.out.mono hB)) (by omega) (HT.out.below HF.out) (HM.out.below HF.out)).mono ?_
      rintro e w2 ⟨uv2, rfl, hT2, hb2, -⟩
      have hz2 := hb2.size
      have hd3 : W.heap.size < w2.heap.size := by omega
      obtain ⟨a2, l2, c2, rfl⟩ := hT2.slice
      obtain ⟨n0, n1, n2, nf⟩ := three_cells ((hb2.block _ z1).trans HK1.out)
      have HB2 := Lib.hid (belI_step HF.out hb2)
      have HB2a := Lib.hid (fun (o : Obj) => HB2.out.alloc HB2.out.size o)
      have HS := Lib.hid (fun (W' : World) (h : Below w2.heap.size w2 W') => sEqual_any _ _ us (makeP xs).uris _ _ W' (HU.out.blw (HB.out.trans ((HB2.out.mono hB).trans (h.mono (by have := HB2.out.size; omega))))) (hT2.later (fun _ hb => hb.2) h))
      generalize makeP xs = q at *
      obtain ⟨rep2, us2, xs2⟩ := q
      simp only at *
      clear m0 m1 m2 mf hb2 hT2 HMK hrb
      obtain ⟨c, hcc⟩ : ∃ c, (rep == rep2) = c := ⟨_, rfl⟩
      rw [hcc] at HP1
      cases c
      · go_wp2
        go_ret
        exact ⟨ret_b (by rw [HP1.out]; rfl), HB2a.out _⟩
      · go_wp2_with (first
          | (go_at_call 54; refine (HS.out _ ((Below.refl _ _).alloc (Nat.le_refl _) _)).mono ?_; rintro e w' ⟨rfl, nn, rfl⟩))
        go_ret
        exact ⟨ret_b (by rw [HP1.out]; rfl), belI_drewN (HB2a.out _) _⟩
  · have d8 : decide ((8 : Int) < (xs.length : Int)) = true := by simp; omega
    have HB1 := Lib.hid ((Below.refl W.heap.size W).alloc (Nat.le_refl _) (.cells #[.string ⟨rep.toArray⟩, .slice au lu cu, .slice ar xs.length cr] 34))
    go_enter Tryz.func24, Tryz.ntmps24
    go_wp2
    go_ret
    exact ⟨ret_b (by rw [HP.out, decide_eq_false h8]; rfl), HB1.out⟩
end Go.Proofs.YtmdplphjbgghoaaGreatDoor.Po
