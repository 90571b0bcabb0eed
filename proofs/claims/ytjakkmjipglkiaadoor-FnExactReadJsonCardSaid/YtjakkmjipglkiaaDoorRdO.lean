
/-
  readObject's closure, walked.
-/
import Derived.Test.YtjakkmjipglkiaaDoorRdK
namespace Go.Proofs.YtjakkmjipglkiaaDoor.Rd
open Go.RowKit
open Go.Proofs.YtjakkmjipglkiaaDoor.Rm
open Go.Proofs.YtjakkmjipglkiaaDoor.Js (J VIn TxtsIn strV)
/-- after the closure of an object -/
def OlP (R Br O Bo : Nat) (oi : Int) (W0 : World) (ns : List B) (xs : List J) (res : Int × B × J × B) (e : Ending) (w' : World) : Prop :=
  e = .returned (.int .i64 res.1) ∧ (res.1 = 0 → OS R Br O Bo oi W0 (ns ++ [res.2.1]) (xs ++ [res.2.2.1]) res.2.2.2 w') ∧ OE R O W0 w'
theorem one_str (t : B) : ∀ u ∈ [Value.string ⟨t.toArray⟩], u.oneCell' = true := by
  intro u hu; simp at hu; subst hu; rfl
theorem itemR_obj {rd : B → Int × J × B} {ns : List B} {rs : B} {nr : Int × B × B} (h : nameR ns rs = nr) : itemR rd true ns rs = if nr.1 = 0 then ((rd nr.2.2).1, nr.2.1, (rd nr.2.2).2.1, (rd nr.2.2).2.2) else (nr.1, [], default, []) := by
  subst h; rfl
set_option maxRecDepth 100000 in
set_option maxHeartbeats 8000000 in
theorem objI_one (R Br O Bo : Nat) (oi : Int) (hoi : 0 ≤ oi ∧ oi < 4) (rd : B → Int × J × B) (W0 : World) (hrd : RdV R (oi + 1) rd) (hs : SynV W0) (hRg : R ≠ 2) (hR : R < W0.heap.size) (hBr : W0.heap.size ≤ Br) (hBo : W0.heap.size ≤ Bo) (hO : W0.heap.size ≤ O) (hne1 : Br ≠ O) (hne2 : Bo ≠ O)
    (ns : List B) (xs : List J) (rs : B) (w : World) (hx : xs.length ≤ 12) (hnx : ns.length ≤ 12) (hl : rs.length ≤ 65536) (h : OS R Br O Bo oi W0 ns xs rs w) (ir : Int × B × J × B) (hir : itemR rd true ns rs = ir) :
    Calls Tryd.prog 40 #[ptI Br, ptI O, ptI Bo] w (OlP R Br O Bo oi W0 ns xs ir) := by
  obtain ⟨nv, iv, vals, ho, hn, hi, hvs⟩ := h.ob
  obtain ⟨nr, hnr⟩ : ∃ nr, nameR ns rs = nr := ⟨_, rfl⟩
  rw [itemR_obj hnr] at hir
  have hsw : SynV w := hs.ch h.ch (fun e => hRg e.symm)
  have HX := Lib.hid (nameI_any R rs ns nv _ w h.rd (names_in hn h.short) (fun b hb => ⟨(hn.lt b hb).2, fun e => by have := (hn.lt b hb).1; omega⟩) hl hsw hRg nr hnr)
  have HV := Lib.hid (fun (w2 : World) (h2 : Hd w2 R (rdO nr.2.2)) (hc : Ch (· = R) w w2) => hrd nr.2.2 w2 h2 (by have := nameR_len ns rs; rw [hnr] at this; omega) (hsw.ch hc (fun e => hRg e.symm)))
  have HSH := Lib.hid (fun (h0 : nr.1 = 0) => show nr.2.1.length ≤ 120 from by have := nameR_ok (ns := ns) (bs := rs) (by rw [hnr]; exact h0); rw [hnr] at this; exact this.1)
  obtain ⟨b0, -⟩ := h.br.one
  obtain ⟨o0, -⟩ := h.bo.one
  obtain ⟨n0, n1, nf⟩ := ho.two
  have H := Lib.hid h
  have HO := Lib.hid ho
  have HN := Lib.hid hn
  have HI := Lib.hid hi
  have HVS := Lib.hid hvs
  have hw1 : IntKind.i64.wrap (oi + 1) = oi + 1 := IntWalk.i64_in _ ⟨by omega, by omega⟩
  obtain ⟨i0, hi0, hz0, hz1, hz2⟩ := info_parts Js.Tryd.infoI
  obtain ⟨i1, hi1, hy0, hy1, hy2⟩ := info_parts Js.Tryd.infoTxt
  have hsz := h.ch.size
  obtain ⟨an, cn, rfl⟩ := own_slice hn
  obtain ⟨ai, ci, rfl⟩ := own_slice hi
  clear hrd h ho hn hi hvs hnr hs hsw
  go_enter Tryd.func40, Tryd.ntmps40
  go_wp2_with fail
  refine HX.out.mono ?_
  rintro e w2 ⟨t, r2, rfl, ht, h2, hc⟩
  by_cases h0 : nr.1 = 0
  · rw [if_pos h0] at hir
    obtain ⟨rfl, rfl⟩ := ht h0
    have HT := Lib.hid (HSH.out h0)
    have HX2 := Lib.hid (HV.out w2 h2 hc)
    have HC2 := Lib.hid hc
    have b2 := (hc.hd H.out.br (by omega)).one.1
    have o2 := (hc.hd H.out.bo (by omega)).one.1
    obtain ⟨c0, t, r2⟩ := nr
    simp only at h0 hir HT HX2
    subst h0
    clear h2 hc b0 o0 n0 n1 nf ht HV HSH HX
    obtain ⟨vr, hvr⟩ : ∃ vr, rd r2 = vr := ⟨_, rfl⟩
    rw [hvr] at hir HX2
    obtain ⟨c, j, r3⟩ := vr
    simp only at hir
    subst hir
    clear hvr
    go_wp2_with fail
    refine HX2.out.mono ?_
    rintro e w3 ⟨v, r3', rfl, hv, hvf, h3, hc3⟩
    have HVV := Lib.hid hv
    have HVF := Lib.hid (iface_one hvf)
    have H3 := Lib.hid h3
    have HC := Lib.hid (HC2.out.trans hc3)
    have hz23 : w2.heap.size ≤ w3.heap.size := hc3.size
    have hzw2 : w.heap.size ≤ w2.heap.size := HC2.out.size
    clear hv h3 hc3 b2 o2
    have ho3 := HC.out.hd HO.out (by omega)
    obtain ⟨n0, n1, nf⟩ := ho3.two
    have HO3 := Lib.hid ho3
    have hOlt := ho3.lt
    have HN3 := Lib.hid (own_ch HC.out HN.out (fun b hb e => by have := (HN.out.lt b hb).1; omega))
    have HI3 := Lib.hid (own_ch HC.out HI.out (fun b hb e => by have := (HI.out.lt b hb).1; omega))
    have HAPN := Lib.hid (hd_apart HO.out HN.out (by decide))
    have HAPI := Lib.hid (hd_apart HO.out HI.out (by decide))
    have HANI := Lib.hid (own_apart HI.out HN.out (by decide))
    clear ho3
    rcases hvf with rfl | ⟨T, x, rfl⟩
    · go_upto_region 6 with (at_builtin; refine App.wpList_app _ rfl _ _ 22 rfl W0.heap.size 9 i1 (.string ByteArray.empty) 1 16 Tryd.underlying22 hi1 hy0 hy1 hy2 rfl (by decide) _ _ _ rfl (HN3.out.alloc _) ⟨w3.heap.size, 0, none⟩ 1 1 [.string ⟨t.toArray⟩] rfl (by decide) rfl (cell_one_new _ _ _) (one_str t) (by omega) (by omega) (by simp; omega) ?_; intro n' w4 hn4 hg4 hp4; obtain ⟨an', cn', rfl⟩ := own_slice hn4; have hO4 := (HO3.out.al (.cells #[.string ⟨t.toArray⟩] 9)).grown hg4 (fun e => HAPN.out e.symm); have hO4lt := hO4.lt; obtain ⟨m0, m1, mf⟩ := hO4.two)
      have hi4 : w4.ownsRow W0.heap.size 33 1 (.slice ai xs.length ci) xs.length vals := (HI3.out.alloc (.cells #[.string ⟨t.toArray⟩] 9)).kept hg4 HANI.out
      have hi5 : (w4.setCell ⟨O, 0, none⟩ (.slice an' (ns.length + 1) cn')).ownsRow W0.heap.size 33 1 (.slice ai xs.length ci) xs.length vals := own_ch (S := (· = O)) ((Ch.refl _ w4).set rfl) hi4 (fun b hb e => HAPI.out (e ▸ hb))
      obtain ⟨w5, hw5⟩ : ∃ w5, w5 = w4.setCell ⟨O, 0, none⟩ (.slice an' (ns.length + 1) cn') := ⟨_, rfl⟩
      have HO5 := Lib.hid (show Hd w5 O (.cells #[.slice an' (ns.length + 1) cn', .slice ai xs.length ci] 60) from hw5 ▸ hO4.set 0 _)
      rw [← hw5] at hi5 ⊢
      have HI5 := Lib.hid hi5
      have hz5 : w3.heap.size ≤ w5.heap.size := by rw [hw5]; have := hg4.size; simp at this ⊢; omega
      have HN4 := Lib.hid hn4
      have HG4 := Lib.hid hg4
      have HP4 := Lib.hid hp4
      have HW5 := Lib.hid hw5
      have hO5lt := HO5.out.lt
      clear hn4 hg4 hp4 hO4 hO4lt m0 m1 mf hi4 hi5 hw5 n0 n1 nf
      obtain ⟨n0, n1, nf⟩ := HO5.out.two
      go_upto_region 7 with (at_builtin; refine App.wpList_app _ rfl _ _ 57 rfl W0.heap.size 33 i0 .nilIface 1 16 Tryd.underlying57 hi0 hz0 hz1 hz2 rfl (by decide) _ _ _ rfl (HI5.out.alloc _) ⟨w5.heap.size, 0, none⟩ 1 1 [.nilIface] rfl (by decide) rfl (cell_one_new _ _ _) HVF.out (by omega) (by omega) (by simp; omega) ?_; intro i' w6 hi6 hg6 hp6; obtain ⟨ai', ci', rfl⟩ := own_slice hi6; have hO6 := (HO5.out.al (.cells #[.nilIface] 33)).grown hg6 (fun e => HAPI.out e.symm); have hO6lt := hO6.lt; obtain ⟨m0, m1, mf⟩ := hO6.two)
      have HF := Lib.hid (show OlP R Br O Bo oi W0 ns xs (c, t, j, r3) (.returned (.int .i64 c)) (w6.setCell ⟨O, 1, none⟩ (.slice ai' (xs.length + 1) ci')) from by
        have e5 := HW5.out
        subst e5
        refine ⟨rfl, fun h0 => ?_, ⟨r3', ?_⟩, ⟨_, _, _, _, _, _, hO6.set 1 _⟩, ?_⟩
        · obtain ⟨rfl, hv⟩ := HVV.out h0
          exact os_add H.out hR hBr hBo hO hne1 hne2 HT.out HO.out HN.out HI.out HVS.out HC.out H3.out (hv.mono' fun b hb => ⟨by omega, hb.2⟩) HN4.out HG4.out HP4.out hi6 hg6 hp6
        · have r4 := (H3.out.al (.cells #[.string ⟨t.toArray⟩] 9)).grown HG4.out (fun e => by have := (HN.out.lt R e.symm).1; omega)
          have r5 : Hd (w4.setCell ⟨O, 0, none⟩ (.slice an' (ns.length + 1) cn')) R (rdO r3') := r4.far (by omega)
          exact ((r5.al (.cells #[.nilIface] 33)).grown hg6 (fun e => by have := (HI.out.lt R e.symm).1; omega)).far (by omega)
        · exact (Ch.row ((Ch.row (H.out.ch.trans HC.out) HG4.out (fun b e => (HN.out.lt b e).1)).newer hO) hg6 (fun b e => (HI.out.lt b e).1)).newer hO)
      clear hi6 hg6 hp6 hO6 hO6lt m0 m1 mf n0 n1 nf
      go_wp2
      go_ret
      exact HF.out
    · go_upto_region 6 with (at_builtin; refine App.wpList_app _ rfl _ _ 22 rfl W0.heap.size 9 i1 (.string ByteArray.empty) 1 16 Tryd.underlying22 hi1 hy0 hy1 hy2 rfl (by decide) _ _ _ rfl (HN3.out.alloc _) ⟨w3.heap.size, 0, none⟩ 1 1 [.string ⟨t.toArray⟩] rfl (by decide) rfl (cell_one_new _ _ _) (one_str t) (by omega) (by omega) (by simp; omega) ?_; intro n' w4 hn4 hg4 hp4; obtain ⟨an', cn', rfl⟩ := own_slice hn4; have hO4 := (HO3.out.al (.cells #[.string ⟨t.toArray⟩] 9)).grown hg4 (fun e => HAPN.out e.symm); have hO4lt := hO4.lt; obtain ⟨m0, m1, mf⟩ := hO4.two)
      have hi4 : w4.ownsRow W0.heap.size 33 1 (.slice ai xs.length ci) xs.length vals := (HI3.out.alloc (.cells #[.string ⟨t.toArray⟩] 9)).kept hg4 HANI.out
      have hi5 : (w4.setCell ⟨O, 0, none⟩ (.slice an' (ns.length + 1) cn')).ownsRow W0.heap.size 33 1 (.slice ai xs.length ci) xs.length vals := own_ch (S := (· = O)) ((Ch.refl _ w4).set rfl) hi4 (fun b hb e => HAPI.out (e ▸ hb))
      obtain ⟨w5, hw5⟩ : ∃ w5, w5 = w4.setCell ⟨O, 0, none⟩ (.slice an' (ns.length + 1) cn') := ⟨_, rfl⟩
      have HO5 := Lib.hid (show Hd w5 O (.cells #[.slice an' (ns.length + 1) cn', .slice ai xs.length ci] 60) from hw5 ▸ hO4.set 0 _)
      rw [← hw5] at hi5 ⊢
      have HI5 := Lib.hid hi5
      have hz5 : w3.heap.size ≤ w5.heap.size := by rw [hw5]; have := hg4.size; simp at this ⊢; omega
      have HN4 := Lib.hid hn4
      have HG4 := Lib.hid hg4
      have HP4 := Lib.hid hp4
      have HW5 := Lib.hid hw5
      have hO5lt := HO5.out.lt
      clear hn4 hg4 hp4 hO4 hO4lt m0 m1 mf hi4 hi5 hw5 n0 n1 nf
      obtain ⟨n0, n1, nf⟩ := HO5.out.two
      go_upto_region 7 with (at_builtin; refine App.wpList_app _ rfl _ _ 57 rfl W0.heap.size 33 i0 .nilIface 1 16 Tryd.underlying57 hi0 hz0 hz1 hz2 rfl (by decide) _ _ _ rfl (HI5.out.alloc _) ⟨w5.heap.size, 0, none⟩ 1 1 [.iface T x] rfl (by decide) rfl (cell_one_new _ _ _) HVF.out (by omega) (by omega) (by simp; omega) ?_; intro i' w6 hi6 hg6 hp6; obtain ⟨ai', ci', rfl⟩ := own_slice hi6; have hO6 := (HO5.out.al (.cells #[.iface T x] 33)).grown hg6 (fun e => HAPI.out e.symm); have hO6lt := hO6.lt; obtain ⟨m0, m1, mf⟩ := hO6.two)
      have HF := Lib.hid (show OlP R Br O Bo oi W0 ns xs (c, t, j, r3) (.returned (.int .i64 c)) (w6.setCell ⟨O, 1, none⟩ (.slice ai' (xs.length + 1) ci')) from by
        have e5 := HW5.out
        subst e5
        refine ⟨rfl, fun h0 => ?_, ⟨r3', ?_⟩, ⟨_, _, _, _, _, _, hO6.set 1 _⟩, ?_⟩
        · obtain ⟨rfl, hv⟩ := HVV.out h0
          exact os_add H.out hR hBr hBo hO hne1 hne2 HT.out HO.out HN.out HI.out HVS.out HC.out H3.out (hv.mono' fun b hb => ⟨by omega, hb.2⟩) HN4.out HG4.out HP4.out hi6 hg6 hp6
        · have r4 := (H3.out.al (.cells #[.string ⟨t.toArray⟩] 9)).grown HG4.out (fun e => by have := (HN.out.lt R e.symm).1; omega)
          have r5 : Hd (w4.setCell ⟨O, 0, none⟩ (.slice an' (ns.length + 1) cn')) R (rdO r3') := r4.far (by omega)
          exact ((r5.al (.cells #[.iface T x] 33)).grown hg6 (fun e => by have := (HI.out.lt R e.symm).1; omega)).far (by omega)
        · exact (Ch.row ((Ch.row (H.out.ch.trans HC.out) HG4.out (fun b e => (HN.out.lt b e).1)).newer hO) hg6 (fun b e => (HI.out.lt b e).1)).newer hO)
      clear hi6 hg6 hp6 hO6 hO6lt m0 m1 mf n0 n1 nf
      go_wp2
      go_ret
      exact HF.out
  · rw [if_neg h0] at hir
    have g0 : (nr.1 != 0) = true := by simpa using h0
    have HF := Lib.hid (show OlP R Br O Bo oi W0 ns xs ir (.returned (.int .i64 nr.1)) w2 from by
      rw [← hir]
      exact ⟨rfl, fun h => absurd h h0, ⟨r2, h2⟩, ⟨_, _, _, _, _, _, hc.hd HO.out (by omega)⟩, H.out.ch.trans hc⟩)
    clear hir h0 ht h2 hc HX HV HSH b0 o0 n0 n1 nf
    generalize nr.1 = cc at *
    go_wp2
    go_ret
    exact HF.out
end Go.Proofs.YtjakkmjipglkiaaDoor.Rd
