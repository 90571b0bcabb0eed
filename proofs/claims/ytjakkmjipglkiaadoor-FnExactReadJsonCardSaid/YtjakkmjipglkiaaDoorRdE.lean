
/-
  The program's readList's closure, readItems called with it, and readList, walked.
-/
import Derived.Test.YtjakkmjipglkiaaDoorRdL
namespace Go.Proofs.YtjakkmjipglkiaaDoor.Rd
open Go.RowKit
open Go.Proofs.YtjakkmjipglkiaaDoor.Rm
open Go.Proofs.YtjakkmjipglkiaaDoor.Js (J VIn)
/-- readValue, where rd says what it reads, from the worlds that hold what a has -/
def RdV (R : Nat) (oi : Int) (rd : B → Int × J × B) : Prop := ∀ (rs : B) (w : World), Hd w R (rdO rs) → rs.length ≤ 65536 → SynV w → Calls Tryd.prog 10 #[ptI R, .int .i64 oi] w (ValP R w (rd rs))
theorem iface_one {v : Value} (h : v = .nilIface ∨ ∃ T x, v = .iface T x) : ∀ u ∈ [v], u.oneCell' = true := by
  intro u hu; simp at hu; subst hu
  rcases h with rfl | ⟨T, x, rfl⟩ <;> rfl
/-- after the closure of a list -/
def ClP (R Br Bo L : Nat) (oi : Int) (W0 : World) (xs : List J) (res : Int × J × B) (e : Ending) (w' : World) : Prop :=
  e = .returned (.int .i64 res.1) ∧ (res.1 = 0 → LS R Br Bo L oi W0 (xs ++ [res.2.1]) res.2.2 w') ∧ LE R L W0 w'
set_option maxRecDepth 100000 in
set_option maxHeartbeats 4000000 in
theorem listI_one (R Br Bo L : Nat) (oi : Int) (hoi : 0 ≤ oi ∧ oi < 4) (rd : B → Int × J × B) (W0 : World) (hrd : RdV R (oi + 1) rd) (hs : SynV W0) (hRg : R ≠ 2) (hR : R < W0.heap.size) (hBr : W0.heap.size ≤ Br) (hBo : W0.heap.size ≤ Bo) (hL : W0.heap.size ≤ L) (hne1 : Br ≠ L) (hne2 : Bo ≠ L)
    (xs : List J) (rs : B) (w : World) (hx : xs.length ≤ 12) (hl : rs.length ≤ 65536) (h : LS R Br Bo L oi W0 xs rs w) :
    Calls Tryd.prog 39 #[ptI Br, ptI Bo, ptI L] w (ClP R Br Bo L oi W0 xs (rd rs)) := by
  have HX := Lib.hid (hrd rs w h.rd hl (hs.ch h.ch (fun e => hRg e.symm)))
  obtain ⟨lv, vals, hl1, ho, hvs⟩ := h.li
  obtain ⟨b0, -⟩ := h.br.one
  obtain ⟨o0, -⟩ := h.bo.one
  have H := Lib.hid h
  have HL1 := Lib.hid hl1
  have HO := Lib.hid ho
  have HVS := Lib.hid hvs
  have hw1 : IntKind.i64.wrap (oi + 1) = oi + 1 := IntWalk.i64_in _ ⟨by omega, by omega⟩
  obtain ⟨i0, hi, hz0, hz1, hz2⟩ := info_parts Js.Tryd.infoI
  have hsz := h.ch.size
  obtain ⟨al, cl, rfl⟩ := own_slice ho
  clear hrd h hl1 ho hvs
  generalize rd rs = res at *
  obtain ⟨c, j, r0⟩ := res
  go_enter Tryd.func39, Tryd.ntmps39
  go_wp2_with fail
  refine HX.out.mono ?_
  rintro e w2 ⟨v, r2, rfl, hv, hvf, h2, hc⟩
  have HV := Lib.hid hv
  have HVF := Lib.hid (iface_one hvf)
  have H2 := Lib.hid h2
  have HC := Lib.hid hc
  have hl2 := hc.hd HL1.out (by omega)
  obtain ⟨l0, lf⟩ := hl2.one
  have HL2 := Lib.hid hl2
  have hLlt := hl2.lt
  have HO2 := Lib.hid (own_ch hc HO.out (fun b hb e => by have := (HO.out.lt b hb).1; omega))
  have hz3 : w.heap.size ≤ w2.heap.size := hc.size
  have HAP := Lib.hid (hd_apart HL1.out HO.out (by decide))
  clear hv h2 hc hl2 b0 o0
  rcases hvf with rfl | ⟨T, x, rfl⟩
  · go_wp2_with (at_builtin; refine App.wpList_app _ rfl _ _ 57 rfl W0.heap.size 33 i0 .nilIface 1 16 Tryd.underlying57 hi hz0 hz1 hz2 rfl (by decide) _ _ _ rfl (HO2.out.alloc _) ⟨w2.heap.size, 0, none⟩ 1 1 [.nilIface] rfl (by decide) rfl (cell_one_new _ _ _) HVF.out (by omega) (by omega) (by simp; omega) ?_; intro l' w4 hown' hgrow hplace; obtain ⟨ag, cg, rfl⟩ := own_slice hown'; have hL4 := (HL2.out.al (.cells #[.nilIface] 33)).grown hgrow (fun e => HAP.out e.symm); have hL4lt := hL4.lt; have r3 := hL4.one.1; have r3f := hL4.one.2)
    have HE := Lib.hid (show LE R L W0 (w4.setCell ⟨L, 0, none⟩ (.slice ag (xs.length + 1) cg)) from ⟨⟨r2, (((H2.out.al (.cells #[.nilIface] 33)).grown hgrow (fun e => by have := (HO.out.lt R e.symm).1; omega)).far (by omega))⟩, ⟨_, hL4.set1 _⟩, (Ch.row (H.out.ch.trans HC.out) hgrow (fun b e => (HO.out.lt b e).1)).newer hL⟩)
    have HS := Lib.hid (fun h0 : c = 0 => show LS R Br Bo L oi W0 (xs ++ [j]) r0 (w4.setCell ⟨L, 0, none⟩ (.slice ag (xs.length + 1) cg)) from by
      obtain ⟨rfl, hv⟩ := HV.out h0
      exact ls_add H.out hR hBr hBo hL hne1 hne2 HL1.out HO.out HVS.out HC.out H2.out hv hown' hgrow hplace)
    clear hown' hgrow hplace
    go_wp2
    go_ret
    exact ⟨rfl, HS.out, HE.out⟩
  · go_wp2_with (at_builtin; refine App.wpList_app _ rfl _ _ 57 rfl W0.heap.size 33 i0 .nilIface 1 16 Tryd.underlying57 hi hz0 hz1 hz2 rfl (by decide) _ _ _ rfl (HO2.out.alloc _) ⟨w2.heap.size, 0, none⟩ 1 1 [.iface T x] rfl (by decide) rfl (cell_one_new _ _ _) HVF.out (by omega) (by omega) (by simp; omega) ?_; intro l' w4 hown' hgrow hplace; obtain ⟨ag, cg, rfl⟩ := own_slice hown'; have hL4 := (HL2.out.al (.cells #[.iface T x] 33)).grown hgrow (fun e => HAP.out e.symm); have hL4lt := hL4.lt; have r3 := hL4.one.1; have r3f := hL4.one.2)
    have HE := Lib.hid (show LE R L W0 (w4.setCell ⟨L, 0, none⟩ (.slice ag (xs.length + 1) cg)) from ⟨⟨r2, (((H2.out.al (.cells #[.iface T x] 33)).grown hgrow (fun e => by have := (HO.out.lt R e.symm).1; omega)).far (by omega))⟩, ⟨_, hL4.set1 _⟩, (Ch.row (H.out.ch.trans HC.out) hgrow (fun b e => (HO.out.lt b e).1)).newer hL⟩)
    have HS := Lib.hid (fun h0 : c = 0 => show LS R Br Bo L oi W0 (xs ++ [j]) r0 (w4.setCell ⟨L, 0, none⟩ (.slice ag (xs.length + 1) cg)) from by
      obtain ⟨rfl, hv⟩ := HV.out h0
      exact ls_add H.out hR hBr hBo hL hne1 hne2 HL1.out HO.out HVS.out HC.out H2.out hv hown' hgrow hplace)
    clear hown' hgrow hplace
    go_wp2
    go_ret
    exact ⟨rfl, HS.out, HE.out⟩
end Go.Proofs.YtjakkmjipglkiaaDoor.Rd
