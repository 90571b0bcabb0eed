
/-
  The model's reader within an object: names, and items, walked.
-/
import Derived.Test.YtjakkmjipglkiaaDoorRsG
import Derived.Test.YtjakkmjipglkiaaDoorRdK
namespace Go.Proofs.YtjakkmjipglkiaaDoor.Rd
open Go.RowKit
open Go.Proofs.YtjakkmjipglkiaaDoor.Rm
open Go.Proofs.YtjakkmjipglkiaaDoor.Js (J OJ FitJ jV cellJ strV set5 set5_far set5_size heap_set5)
theorem one_strS (t : B) : ∀ u ∈ [Value.string ⟨t.toArray⟩], u.oneCell' = true := by
  intro u hu; simp at hu; subst hu; rfl
theorem name_T (ns : List B) (bs : B) (sr : Int × B × B) (h : strT (trim bs) = sr) : nameR ns bs = if sr.1 = 0 then (if ns.contains sr.2.1 then (13, [], []) else if Lib.hasPrefix (trim sr.2.2) [58] then (0, sr.2.1, (trim sr.2.2).tail) else (3, [], [])) else (sr.1, [], []) := by
  subst h
  unfold nameR strT
  by_cases h1 : Lib.hasPrefix (trim bs) [34] = true
  · rw [if_pos h1, if_pos h1]
  · rw [if_neg h1, if_neg h1]
    rfl
theorem itemT (rd : B → Int × J × B) (ns : List B) (bs : B) (nr : Int × B × B) (h : nameR ns bs = nr) : itemR rd true ns bs = if nr.1 = 0 then ((rd nr.2.2).1, nr.2.1, (rd nr.2.2).2.1, (rd nr.2.2).2.2) else (nr.1, [], default, []) := by
  subst h; rfl
theorem strT_short {bs : B} (h : (strT bs).1 = 0) : (strT bs).2.1.length ≤ 120 := by
  unfold strT at h ⊢
  by_cases h1 : Lib.hasPrefix bs [34] = true
  · rw [if_pos h1] at h ⊢; exact strR_short h
  · rw [if_neg h1] at h; cases h
theorem je_name {R Jb : Nat} {t : B} {kd c : Int} {W0 w w4 : World} {ns : List B} {xs : List J} {p : Nat} {us : B} {nv iv : Value} {an : Option Addr} {ln cn : Nat} {vals : List Value} {o : Obj} (h : JS R Jb t kd W0 c ns xs p us w) (hR : R < W0.heap.size) (hJ : W0.heap.size ≤ Jb)
    (h1 : Hd w Jb (jbO kd nv iv)) (h2 : w.ownsRow W0.heap.size 9 1 nv ns.length (strV ns)) (h3 : w.ownsRow W0.heap.size 25 5 iv xs.length vals)
    (hg : (w.alloc o).grownBy w4 nv.ownBlock) : JE R Jb t kd W0 c (w4.setCell ⟨Jb, 3, none⟩ (.slice an ln cn)) := by
  have aJ := hd_apart h1 h2 (by decide)
  have hlt := h2.lt
  obtain ⟨a', k', rfl⟩ := own_slice h3
  have hJ4 : Hd w4 Jb (jbO kd nv _) := (h1.al o).grown hg (fun e => aJ e.symm)
  have hR4 : Hd w4 R (rsO t p c) := (h.rd.al o).grown hg (fun e => by have := (hlt R e.symm).1; omega)
  exact ⟨⟨p, us, hR4.far (by omega), h.at_⟩, ⟨_, _, _, _, _, _, hJ4.set 3 _⟩, (Ch.row h.ch hg (fun b e => (hlt b e).1)).newer hJ⟩
set_option maxRecDepth 100000 in
set_option maxHeartbeats 8000000 in
theorem itemsS_obj (R Jb : Nat) (t : B) (D : Int) (hD : 2 ≤ D ∧ D ≤ 5) (rd : B → Int × J × B) (hrt : ∀ us, rd (trim us) = rd us) (W0 : World) (hR : R < W0.heap.size) (hJ : W0.heap.size ≤ Jb) (hl : t.length ≤ 65536)
    (hrd : ∀ (us : B) (p : Nat) (w : World), Hd w R (rsO t p 0) → At t p us → Calls Tryd.prog 19 #[ptr R, .int .i64 (D - 1)] w (SvP R t w (rd us)))
    (b0 : UInt8) (us : B) (p : Nat) (w : World) (h : JS R Jb t 6 W0 0 [] [] p (b0 :: us) w) (res : Int × (List B × List J) × B) (hres : bodyR rd true 125 us = res) :
    Calls Tryd.prog 52 #[ptr R, ptr Jb, .int .u8 125, .int .i64 D] w (IsP R Jb t 6 W0 res) := by
  have HRD := Lib.hid hrd
  have HRT := Lib.hid hrt
  obtain ⟨c0, c1, c2, cf⟩ := h.rd.three
  have hlt := h.rd.lt
  have hple := h.at_.lt
  have H1 := Lib.hid (show JS R Jb t 6 W0 0 [] [] (p + 1) us (w.setCell ⟨R, 1, none⟩ (.int .i64 ((p : Int) + 1))) from h.step hR hJ ((Ch.refl _ _).set rfl) (h.rd.set 1 _) h.at_.next)
  obtain ⟨i0, hi, hz0, hz1, hz2⟩ := info_parts Js.Tryd.infoJ2
  obtain ⟨i1, hi1, hy0, hy1, hy2⟩ := info_parts Js.Tryd.infoTxt
  clear hrd hrt h
  go_enter Tryd.func52, Tryd.ntmps52
  go_upto_region 1 with fail
  obtain ⟨w1, hw1⟩ : ∃ w1, w1 = w.setCell ⟨R, 1, none⟩ (.int .i64 ((p : Int) + 1)) := ⟨_, rfl⟩
  rw [← hw1] at H1 ⊢
  clear hw1 c0 c1 c2 cf hlt hple
  have HB := Lib.hid (blanks_any R t us (p + 1) 0 w1 H1.out.rd H1.out.at_ hl)
  go_wp2_with fail
  refine HB.out.mono ?_
  rintro e w2 ⟨rfl, p2, h2, a2, k2⟩
  have H2 := Lib.hid (H1.out.step hR hJ k2 h2 a2)
  clear h2 a2 k2
  obtain ⟨q, hq⟩ : ∃ q, Lib.hasPrefix (trim us) [125] = q := ⟨_, rfl⟩
  have HS := Lib.hid (skip_any R t (trim us) p2 0 125 q w2 H2.out.rd H2.out.at_ hl (by rw [hq]; rfl))
  unfold bodyR at hres
  rw [hq] at hres
  clear hq
  go_wp2_with fail
  refine HS.out.mono ?_
  rintro e w3 ⟨rfl, p3, h3, a3, k3⟩
  cases q with
  | true =>
    simp only [if_true] at hres a3
    subst hres
    have H3 := Lib.hid (H2.out.step hR hJ k3 h3 a3)
    have HF := Lib.hid (show IsP R Jb t 6 W0 (0, ([], []), (trim us).tail) (.returned (.tuple #[])) w3 from ⟨rfl, fun _ => ⟨p3, H3.out⟩, H3.out.je⟩)
    clear h3 a3 k3
    go_wp2
    exact bodyPost_ret (results_none Tryd.results52 _ _ _) rfl HF.out
  | false =>
    simp only [Bool.false_eq_true, if_false] at hres a3
    have H3 := Lib.hid (H2.out.step hR hJ k3 h3 a3)
    have HRES := Lib.hid hres
    clear h3 a3 k3 hres
    go_wp2_with fail
    go_loopw [] (fun wr => (∃ (n : Nat) (ns : List B) (xs : List J) (p : Nat) (us : B), xs.length + n = 12 ∧ ns.length ≤ xs.length ∧ JS R Jb t 6 W0 0 ns xs p us wr ∧ itemsR rd true 125 n ns xs us = res) ∨ (res.1 ≠ 0 ∧ JE R Jb t 6 W0 res.1 wr)) (fun wr => muW R Jb wr)
    case atStart => exact .inl ⟨12, [], [], p3, trim us, rfl, Nat.le_refl _, H3.out, HRES.out⟩
    case round =>
      rcases hrel with ⟨n, ns, xs, p4, us4, hn, hnx, hJS, hE⟩ | ⟨hne, hJE⟩
      · have HJS := Lib.hid hJS
        have HMU := Lib.hid (mu_js hJS)
        have HNX := Lib.hid hnx
        obtain ⟨c0, c1, c2, cf⟩ := hJS.rd.three
        have HB4 := Lib.hid (blanks_any R t us4 p4 0 wr hJS.rd hJS.at_ hl)
        clear hJS
        go_wp2_with fail
        refine HB4.out.mono ?_
        rintro e w5 ⟨rfl, p5, h5, a5, k5⟩
        have H5 := Lib.hid (HJS.out.step hR hJ k5 h5 a5)
        obtain ⟨nv, iv, vals, vn, vi, Sc, o1, o2, -, -, -⟩ := H5.out.ob
        obtain ⟨e0, -, -, -, -, -⟩ := Js.five_cells o1
        clear c0 c1 c2 cf h5 a5 k5
        obtain ⟨sr, hsr⟩ : ∃ sr, strT (trim us4) = sr := ⟨_, rfl⟩
        have HTX := Lib.hid (textS_any R t (trim us4) p5 w5 H5.out.rd H5.out.at_ hl sr hsr)
        have HSH := Lib.hid (fun (h : sr.1 = 0) => show sr.2.1.length ≤ 120 from by rw [← hsr] at h ⊢; exact strT_short h)
        obtain ⟨nr, hnr⟩ : ∃ nr, nameR ns us4 = nr := ⟨_, rfl⟩
        have HNT := Lib.hid (hnr.symm.trans (name_T ns us4 sr hsr))
        have O1a := Lib.hid o1
        have O2a := Lib.hid o2
        obtain ⟨an0, cn0, rfl⟩ := own_slice o2
        clear hsr o1 o2
        have hnsl : ns.length ≤ 12 := by omega
        have hxsl : xs.length ≤ 12 := by omega
        go_wp2_with fail
        refine HTX.out.mono ?_
        rintro e w6 ⟨s, p6, us6, rfl, h6, a6, hok6, k6⟩
        have HJ6 := Lib.hid (H5.out.step hR hJ k6 h6 a6)
        have t6 := k6.hd O1a.out (by omega)
        clear e0
        obtain ⟨-, -, -, e3, -, -⟩ := Js.five_cells t6
        have on6 := own_ch k6 O2a.out (fun b hb e => by have := (O2a.out.lt b hb).1; omega)
        have HHS := Lib.hid (fun (r : Bool) (hr : ns.contains s = r) => hr ▸ Js.hasS_any _ ns s _ w6 (names_in on6 HJ6.out.short))
        clear t6 on6 h6 a6 k6
        obtain ⟨q, hq⟩ : ∃ q, ns.contains s = q := ⟨_, rfl⟩
        have HH := Lib.hid (HHS.out q hq)
        clear HHS
        go_wp2_with fail
        refine HH.out.mono ?_
        rintro e w7 ⟨rfl, rfl⟩
        by_cases h0 : sr.1 ≠ 0
        · have hnr1 : nr.1 = sr.1 := by rw [HNT.out, if_neg h0]
          obtain ⟨cc, hcc⟩ : ∃ cc, sr.1 = cc := ⟨_, rfl⟩
          rw [hcc] at hnr1 h0 HJ6
          have HNC := Lib.hid (show (cc == 0) = false by simpa using h0)
          have HNC2 := Lib.hid (show (cc != 0) = true by simpa using h0)
          have HNZ := Lib.hid h0
          have HFK := Lib.hid (show failC cc 3 = cc by unfold failC; rw [if_neg h0])
          have HRC := Lib.hid (show res.1 = cc from by
            have hb := items_bad (rd := rd) (obj := true) (close := 125) (ns := ns) (xs := xs) (bs := us4) (by rw [itemT rd ns us4 nr hnr, if_neg (by rw [hnr1]; exact HNZ.out)]; rw [hnr1]; exact HNZ.out) n
            rw [hE, itemT rd ns us4 nr hnr, if_neg (by rw [hnr1]; exact HNZ.out)] at hb
            exact hb.trans hnr1)
          clear hE h0 hcc hnr1 hok6 HSH HNT e3
          cases q with
          | true =>
            have HF7 := Lib.hid (fail_any R t p6 cc 13 w6 HJ6.out.rd)
            go_wp2_with fail
            refine HF7.out.mono ?_
            rintro e w9 ⟨rfl, h9, k9⟩
            have HJ9 := Lib.hid (HJ6.out.step hR hJ k9 h9 HJ6.out.at_)
            rw [show failC cc 13 = cc by unfold failC; rw [if_neg HNZ.out]] at HJ9
            clear h9 k9
            have HB8 := Lib.hid (blanks_any R t _ _ cc w9 HJ9.out.rd HJ9.out.at_ hl)
            go_wp2_with fail
            refine HB8.out.mono ?_
            rintro e wa ⟨rfl, pa, ha, aa, ka⟩
            have HJa := Lib.hid (HJ9.out.step hR hJ ka ha aa)
            have HSa := Lib.hid (skip_any R t _ pa cc 58 false wa ha aa hl (by rw [HNC.out]; rfl))
            clear ha aa ka
            go_wp2_with fail
            refine HSa.out.mono ?_
            rintro e wb ⟨rfl, pb, hb, ab, kb⟩
            have HJb := Lib.hid (HJa.out.step hR hJ kb hb ab)
            have HFb := Lib.hid (fail_any R t pb cc 3 wb hb)
            go_wp2_with fail
            refine HFb.out.mono ?_
            rintro e wd ⟨rfl, hd, kd⟩
            have HJN := Lib.hid (HJb.out.step hR hJ kd hd ab)
            rw [show failC cc 3 = cc from HFK.out] at HJN
            clear hb ab kb hd kd

            obtain ⟨nv, iv, vals, vn, vi, Sc, o1, o2, o3, o4, o5⟩ := HJN.out.ob
            obtain ⟨e0, e1, e2, e3, e4, ef⟩ := Js.five_cells o1
            have O1 := Lib.hid o1
            have O2 := Lib.hid o2
            have O3 := Lib.hid o3
            have O4 := Lib.hid o4
            have O5 := Lib.hid o5
            obtain ⟨ai0, ci0, rfl⟩ := own_slice o3
            obtain ⟨an0, cn0, rfl⟩ := own_slice o2
            have hJlt := o1.lt
            have hszn := HJN.out.ch.size
            have HAP := Lib.hid (hd_apart o1 o2 (by decide))
            clear o1 o2 o3 o4 o5
            go_upto_region 13 with (at_builtin; refine App.wpList_app _ rfl _ _ 22 rfl W0.heap.size 9 i1 (.string ByteArray.empty) 1 16 Tryd.underlying22 hi1 hy0 hy1 hy2 rfl (by decide) _ _ _ rfl (O2.out.alloc _) ⟨wd.heap.size, 0, none⟩ 1 1 [.string ⟨s.toArray⟩] rfl (by decide) rfl (cell_one_new _ _ _) (one_strS s) (by omega) (by omega) (by simp; omega) ?_; intro n' w8 hn8 hg8 hp8; obtain ⟨an', cn', rfl⟩ := own_slice hn8; have hJ8 := (O1.out.al (.cells #[.string ⟨s.toArray⟩] 9)).grown hg8 (fun e => HAP.out e.symm); have hJ8lt := hJ8.lt; obtain ⟨m0, m1, m2, m3, m4, mf⟩ := Js.five_cells hJ8)

            have HE := Lib.hid (show JE R Jb t 6 W0 cc (w8.setCell ⟨Jb, 3, none⟩ (.slice an' (ns.length + 1) cn')) from je_name HJN.out hR hJ O1.out O2.out O3.out hg8)
            obtain ⟨wf, hwf⟩ : ∃ wf, wf = w8.setCell ⟨Jb, 3, none⟩ (.slice an' (ns.length + 1) cn') := ⟨_, rfl⟩
            rw [← hwf] at HE ⊢
            have HF := Lib.hid (show IsP R Jb t 6 W0 res (.returned (.tuple #[])) wf from ⟨rfl, fun h => (by rw [HRC.out] at h; exact absurd h HNZ.out), by rw [HRC.out]; exact HE.out⟩)
            obtain ⟨⟨pe, ue, re, ae⟩, -, -⟩ := HE.out
            obtain ⟨z0', z1', z2', zf'⟩ := re.three
            have gz := HNC2.out
            clear hn8 hg8 hp8 hJ8 hJ8lt m0 m1 m2 m3 m4 mf e0 e1 e2 e3 e4 ef hwf re ae
            go_wp2
            exact bodyPost_ret (results_none Tryd.results52 _ _ _) rfl HF.out
          | false =>
            have HB8 := Lib.hid (blanks_any R t _ _ cc w6 HJ6.out.rd HJ6.out.at_ hl)
            go_wp2_with fail
            refine HB8.out.mono ?_
            rintro e wa ⟨rfl, pa, ha, aa, ka⟩
            have HJa := Lib.hid (HJ6.out.step hR hJ ka ha aa)
            have HSa := Lib.hid (skip_any R t _ pa cc 58 false wa ha aa hl (by rw [HNC.out]; rfl))
            clear ha aa ka
            go_wp2_with fail
            refine HSa.out.mono ?_
            rintro e wb ⟨rfl, pb, hb, ab, kb⟩
            have HJb := Lib.hid (HJa.out.step hR hJ kb hb ab)
            have HFb := Lib.hid (fail_any R t pb cc 3 wb hb)
            go_wp2_with fail
            refine HFb.out.mono ?_
            rintro e wd ⟨rfl, hd, kd⟩
            have HJN := Lib.hid (HJb.out.step hR hJ kd hd ab)
            rw [show failC cc 3 = cc from HFK.out] at HJN
            clear hb ab kb hd kd

            obtain ⟨nv, iv, vals, vn, vi, Sc, o1, o2, o3, o4, o5⟩ := HJN.out.ob
            obtain ⟨e0, e1, e2, e3, e4, ef⟩ := Js.five_cells o1
            have O1 := Lib.hid o1
            have O2 := Lib.hid o2
            have O3 := Lib.hid o3
            have O4 := Lib.hid o4
            have O5 := Lib.hid o5
            obtain ⟨ai0, ci0, rfl⟩ := own_slice o3
            obtain ⟨an0, cn0, rfl⟩ := own_slice o2
            have hJlt := o1.lt
            have hszn := HJN.out.ch.size
            have HAP := Lib.hid (hd_apart o1 o2 (by decide))
            clear o1 o2 o3 o4 o5
            go_upto_region 13 with (at_builtin; refine App.wpList_app _ rfl _ _ 22 rfl W0.heap.size 9 i1 (.string ByteArray.empty) 1 16 Tryd.underlying22 hi1 hy0 hy1 hy2 rfl (by decide) _ _ _ rfl (O2.out.alloc _) ⟨wd.heap.size, 0, none⟩ 1 1 [.string ⟨s.toArray⟩] rfl (by decide) rfl (cell_one_new _ _ _) (one_strS s) (by omega) (by omega) (by simp; omega) ?_; intro n' w8 hn8 hg8 hp8; obtain ⟨an', cn', rfl⟩ := own_slice hn8; have hJ8 := (O1.out.al (.cells #[.string ⟨s.toArray⟩] 9)).grown hg8 (fun e => HAP.out e.symm); have hJ8lt := hJ8.lt; obtain ⟨m0, m1, m2, m3, m4, mf⟩ := Js.five_cells hJ8)

            have HE := Lib.hid (show JE R Jb t 6 W0 cc (w8.setCell ⟨Jb, 3, none⟩ (.slice an' (ns.length + 1) cn')) from je_name HJN.out hR hJ O1.out O2.out O3.out hg8)
            obtain ⟨wf, hwf⟩ : ∃ wf, wf = w8.setCell ⟨Jb, 3, none⟩ (.slice an' (ns.length + 1) cn') := ⟨_, rfl⟩
            rw [← hwf] at HE ⊢
            have HF := Lib.hid (show IsP R Jb t 6 W0 res (.returned (.tuple #[])) wf from ⟨rfl, fun h => (by rw [HRC.out] at h; exact absurd h HNZ.out), by rw [HRC.out]; exact HE.out⟩)
            obtain ⟨⟨pe, ue, re, ae⟩, -, -⟩ := HE.out
            obtain ⟨z0', z1', z2', zf'⟩ := re.three
            have gz := HNC2.out
            clear hn8 hg8 hp8 hJ8 hJ8lt m0 m1 m2 m3 m4 mf e0 e1 e2 e3 e4 ef hwf re ae
            go_wp2
            exact bodyPost_ret (results_none Tryd.results52 _ _ _) rfl HF.out
        have h0 : sr.1 = 0 := by omega
        obtain ⟨rfl, rfl⟩ := hok6 h0
        rw [h0] at HJ6
        have HSL := Lib.hid (HSH.out h0)
        have HNT2 := Lib.hid (show nr = if ns.contains sr.2.1 then (13, [], []) else if Lib.hasPrefix (trim sr.2.2) [58] then (0, sr.2.1, (trim sr.2.2).tail) else (3, [], []) from by rw [HNT.out, if_pos h0])
        obtain ⟨sc, s, u7⟩ := sr
        simp only at hq HJ6 HSL HNT2
        clear hok6 HSH HNT h0 e3 HTX
        rw [hq] at HNT2
        cases q with
        | true =>
          have hnr1 : nr.1 = 13 := by rw [HNT2.out]; rfl
          have HNC := Lib.hid (show ((13 : Int) == 0) = false by decide)
          have HNC2 := Lib.hid (show ((13 : Int) != 0) = true by decide)
          have HNZ := Lib.hid (show (13 : Int) ≠ 0 by decide)
          have HFK := Lib.hid (show failC 13 3 = 13 by decide)
          have HRC := Lib.hid (show res.1 = 13 from by
            have hb := items_bad (rd := rd) (obj := true) (close := 125) (ns := ns) (xs := xs) (bs := us4) (by rw [itemT rd ns us4 nr hnr, if_neg (by rw [hnr1]; exact HNZ.out)]; rw [hnr1]; exact HNZ.out) n
            rw [hE, itemT rd ns us4 nr hnr, if_neg (by rw [hnr1]; exact HNZ.out)] at hb
            exact hb.trans hnr1)
          have HF7 := Lib.hid (fail_any R t p6 0 13 w6 HJ6.out.rd)
          clear hE hnr1
          go_wp2_with fail
          refine HF7.out.mono ?_
          rintro e w9 ⟨rfl, h9, k9⟩
          have HJ9 := Lib.hid (HJ6.out.step hR hJ k9 h9 HJ6.out.at_)
          rw [show failC 0 13 = 13 from rfl] at HJ9
          clear h9 k9
          have HB8 := Lib.hid (blanks_any R t _ _ 13 w9 HJ9.out.rd HJ9.out.at_ hl)
          go_wp2_with fail
          refine HB8.out.mono ?_
          rintro e wa ⟨rfl, pa, ha, aa, ka⟩
          have HJa := Lib.hid (HJ9.out.step hR hJ ka ha aa)
          have HSa := Lib.hid (skip_any R t _ pa 13 58 false wa ha aa hl (by rw [HNC.out]; rfl))
          clear ha aa ka
          go_wp2_with fail
          refine HSa.out.mono ?_
          rintro e wb ⟨rfl, pb, hb, ab, kb⟩
          have HJb := Lib.hid (HJa.out.step hR hJ kb hb ab)
          have HFb := Lib.hid (fail_any R t pb 13 3 wb hb)
          go_wp2_with fail
          refine HFb.out.mono ?_
          rintro e wd ⟨rfl, hd, kd⟩
          have HJN := Lib.hid (HJb.out.step hR hJ kd hd ab)
          rw [show failC 13 3 = 13 from HFK.out] at HJN
          clear hb ab kb hd kd

          obtain ⟨nv, iv, vals, vn, vi, Sc, o1, o2, o3, o4, o5⟩ := HJN.out.ob
          obtain ⟨e0, e1, e2, e3, e4, ef⟩ := Js.five_cells o1
          have O1 := Lib.hid o1
          have O2 := Lib.hid o2
          have O3 := Lib.hid o3
          have O4 := Lib.hid o4
          have O5 := Lib.hid o5
          obtain ⟨ai0, ci0, rfl⟩ := own_slice o3
          obtain ⟨an0, cn0, rfl⟩ := own_slice o2
          have hJlt := o1.lt
          have hszn := HJN.out.ch.size
          have HAP := Lib.hid (hd_apart o1 o2 (by decide))
          clear o1 o2 o3 o4 o5
          go_upto_region 13 with (at_builtin; refine App.wpList_app _ rfl _ _ 22 rfl W0.heap.size 9 i1 (.string ByteArray.empty) 1 16 Tryd.underlying22 hi1 hy0 hy1 hy2 rfl (by decide) _ _ _ rfl (O2.out.alloc _) ⟨wd.heap.size, 0, none⟩ 1 1 [.string ⟨s.toArray⟩] rfl (by decide) rfl (cell_one_new _ _ _) (one_strS s) (by omega) (by omega) (by simp; omega) ?_; intro n' w8 hn8 hg8 hp8; obtain ⟨an', cn', rfl⟩ := own_slice hn8; have hJ8 := (O1.out.al (.cells #[.string ⟨s.toArray⟩] 9)).grown hg8 (fun e => HAP.out e.symm); have hJ8lt := hJ8.lt; obtain ⟨m0, m1, m2, m3, m4, mf⟩ := Js.five_cells hJ8)

          have HE := Lib.hid (show JE R Jb t 6 W0 13 (w8.setCell ⟨Jb, 3, none⟩ (.slice an' (ns.length + 1) cn')) from je_name HJN.out hR hJ O1.out O2.out O3.out hg8)
          obtain ⟨wf, hwf⟩ : ∃ wf, wf = w8.setCell ⟨Jb, 3, none⟩ (.slice an' (ns.length + 1) cn') := ⟨_, rfl⟩
          rw [← hwf] at HE ⊢
          have HF := Lib.hid (show IsP R Jb t 6 W0 res (.returned (.tuple #[])) wf from ⟨rfl, fun h => (by rw [HRC.out] at h; exact absurd h HNZ.out), by rw [HRC.out]; exact HE.out⟩)
          obtain ⟨⟨pe, ue, re, ae⟩, -, -⟩ := HE.out
          obtain ⟨z0', z1', z2', zf'⟩ := re.three
          have gz := HNC2.out
          clear hn8 hg8 hp8 hJ8 hJ8lt m0 m1 m2 m3 m4 mf e0 e1 e2 e3 e4 ef hwf re ae
          go_wp2
          exact bodyPost_ret (results_none Tryd.results52 _ _ _) rfl HF.out
        | false =>
        simp only [Bool.false_eq_true, if_false] at HNT2
        have HB8 := Lib.hid (blanks_any R t _ _ 0 w6 HJ6.out.rd HJ6.out.at_ hl)
        go_wp2_with fail
        refine HB8.out.mono ?_
        rintro e wa ⟨rfl, pa, ha, aa, ka⟩
        have HJa := Lib.hid (HJ6.out.step hR hJ ka ha aa)
        obtain ⟨k, hk⟩ : ∃ k, Lib.hasPrefix (trim u7) [58] = k := ⟨_, rfl⟩
        have HSa := Lib.hid (skip_any R t _ pa 0 58 k wa ha aa hl (by rw [hk]; rfl))
        rw [hk] at HNT2
        clear ha aa ka
        go_wp2_with fail
        refine HSa.out.mono ?_
        rintro e wb ⟨rfl, pb, hb, ab, kb⟩
        cases k with
        | false =>
          have hnr1 : nr.1 = 3 := by rw [HNT2.out]; rfl
          have HNC := Lib.hid (show ((3 : Int) == 0) = false by decide)
          have HNC2 := Lib.hid (show ((3 : Int) != 0) = true by decide)
          have HNZ := Lib.hid (show (3 : Int) ≠ 0 by decide)
          have HFK := Lib.hid (show failC 3 3 = 3 by decide)
          have HRC := Lib.hid (show res.1 = 3 from by
            have hb := items_bad (rd := rd) (obj := true) (close := 125) (ns := ns) (xs := xs) (bs := us4) (by rw [itemT rd ns us4 nr hnr, if_neg (by rw [hnr1]; exact HNZ.out)]; rw [hnr1]; exact HNZ.out) n
            rw [hE, itemT rd ns us4 nr hnr, if_neg (by rw [hnr1]; exact HNZ.out)] at hb
            exact hb.trans hnr1)
          simp only [Bool.false_eq_true, if_false] at ab
          have HJb := Lib.hid (HJa.out.step hR hJ kb hb ab)
          have HFb := Lib.hid (fail_any R t pb 0 3 wb hb)
          clear hE hnr1
          go_wp2_with fail
          refine HFb.out.mono ?_
          rintro e wd ⟨rfl, hd, kd⟩
          have HJN := Lib.hid (HJb.out.step hR hJ kd hd ab)
          rw [show failC 0 3 = 3 from rfl] at HJN
          clear hb ab kb hd kd
          obtain ⟨nv, iv, vals, vn, vi, Sc, o1, o2, o3, o4, o5⟩ := HJN.out.ob
          obtain ⟨e0, e1, e2, e3, e4, ef⟩ := Js.five_cells o1
          have O1 := Lib.hid o1
          have O2 := Lib.hid o2
          have O3 := Lib.hid o3
          have O4 := Lib.hid o4
          have O5 := Lib.hid o5
          obtain ⟨ai0, ci0, rfl⟩ := own_slice o3
          obtain ⟨an0, cn0, rfl⟩ := own_slice o2
          have hJlt := o1.lt
          have hszn := HJN.out.ch.size
          have HAP := Lib.hid (hd_apart o1 o2 (by decide))
          clear o1 o2 o3 o4 o5
          go_upto_region 13 with (at_builtin; refine App.wpList_app _ rfl _ _ 22 rfl W0.heap.size 9 i1 (.string ByteArray.empty) 1 16 Tryd.underlying22 hi1 hy0 hy1 hy2 rfl (by decide) _ _ _ rfl (O2.out.alloc _) ⟨wd.heap.size, 0, none⟩ 1 1 [.string ⟨s.toArray⟩] rfl (by decide) rfl (cell_one_new _ _ _) (one_strS s) (by omega) (by omega) (by simp; omega) ?_; intro n' w8 hn8 hg8 hp8; obtain ⟨an', cn', rfl⟩ := own_slice hn8; have hJ8 := (O1.out.al (.cells #[.string ⟨s.toArray⟩] 9)).grown hg8 (fun e => HAP.out e.symm); have hJ8lt := hJ8.lt; obtain ⟨m0, m1, m2, m3, m4, mf⟩ := Js.five_cells hJ8)

          have HE := Lib.hid (show JE R Jb t 6 W0 3 (w8.setCell ⟨Jb, 3, none⟩ (.slice an' (ns.length + 1) cn')) from je_name HJN.out hR hJ O1.out O2.out O3.out hg8)
          obtain ⟨wf, hwf⟩ : ∃ wf, wf = w8.setCell ⟨Jb, 3, none⟩ (.slice an' (ns.length + 1) cn') := ⟨_, rfl⟩
          rw [← hwf] at HE ⊢
          have HF := Lib.hid (show IsP R Jb t 6 W0 res (.returned (.tuple #[])) wf from ⟨rfl, fun h => (by rw [HRC.out] at h; exact absurd h HNZ.out), by rw [HRC.out]; exact HE.out⟩)
          obtain ⟨⟨pe, ue, re, ae⟩, -, -⟩ := HE.out
          obtain ⟨z0', z1', z2', zf'⟩ := re.three
          have gz := HNC2.out
          clear hn8 hg8 hp8 hJ8 hJ8lt m0 m1 m2 m3 m4 mf e0 e1 e2 e3 e4 ef hwf re ae
          go_wp2
          exact bodyPost_ret (results_none Tryd.results52 _ _ _) rfl HF.out
        | true =>
        simp only [if_true] at ab HNT2
        have HJN := Lib.hid (HJa.out.step hR hJ kb hb ab)
        clear hb ab kb

        obtain ⟨nv, iv, vals, vn, vi, Sc, o1, o2, o3, o4, o5⟩ := HJN.out.ob
        obtain ⟨e0, e1, e2, e3, e4, ef⟩ := Js.five_cells o1
        have O1 := Lib.hid o1
        have O2 := Lib.hid o2
        have O3 := Lib.hid o3
        have O4 := Lib.hid o4
        have O5 := Lib.hid o5
        obtain ⟨ai0, ci0, rfl⟩ := own_slice o3
        obtain ⟨an0, cn0, rfl⟩ := own_slice o2
        have hJlt := o1.lt
        have hszn := HJN.out.ch.size
        have HAP := Lib.hid (hd_apart o1 o2 (by decide))
        clear o1 o2 o3 o4 o5
        go_upto_region 13 with (at_builtin; refine App.wpList_app _ rfl _ _ 22 rfl W0.heap.size 9 i1 (.string ByteArray.empty) 1 16 Tryd.underlying22 hi1 hy0 hy1 hy2 rfl (by decide) _ _ _ rfl (O2.out.alloc _) ⟨wb.heap.size, 0, none⟩ 1 1 [.string ⟨s.toArray⟩] rfl (by decide) rfl (cell_one_new _ _ _) (one_strS s) (by omega) (by omega) (by simp; omega) ?_; intro n' w8 hn8 hg8 hp8; obtain ⟨an', cn', rfl⟩ := own_slice hn8; have hJ8 := (O1.out.al (.cells #[.string ⟨s.toArray⟩] 9)).grown hg8 (fun e => HAP.out e.symm); have hJ8lt := hJ8.lt; obtain ⟨m0, m1, m2, m3, m4, mf⟩ := Js.five_cells hJ8)

        obtain ⟨us5, hus5⟩ : ∃ us5, (trim u7).tail = us5 := ⟨_, rfl⟩
        rw [hus5] at HJN HNT2
        have HJW := Lib.hid (show JS R Jb t 6 W0 0 (ns ++ [s]) xs pb us5 (w8.setCell ⟨Jb, 3, none⟩ (.slice an' (ns.length + 1) cn')) from js_name HJN.out hR hJ HSL.out O1.out O2.out O3.out O4.out O5.out hn8 hg8 hp8)
        obtain ⟨wn, hwn⟩ : ∃ wn, wn = w8.setCell ⟨Jb, 3, none⟩ (.slice an' (ns.length + 1) cn') := ⟨_, rfl⟩
        rw [← hwn] at HJW ⊢
        clear hn8 hg8 hp8 hJ8 hJ8lt m0 m1 m2 m3 m4 mf e0 e1 e2 e3 e4 ef hwn hJlt hszn HAP O1 O2 O3 O4 O5 O1a O2a hus5
        have HS5 := HJW
        have HV := Lib.hid (HRD.out us5 pb wn HS5.out.rd HS5.out.at_)
        have HIR := Lib.hid (show itemR rd true ns us4 = ((rd us5).1, s, (rd us5).2.1, (rd us5).2.2) from by rw [itemT rd ns us4 nr hnr, HNT2.out]; rfl)
        clear HNT2 hnr hq
        obtain ⟨nv, iv, vals, vn, vi, Sc, o1, o2, o3, o4, o5⟩ := HS5.out.ob
        obtain ⟨e0, e1, e2, e3, e4, ef⟩ := Js.five_cells o1
        obtain ⟨c0, c1, c2, cf⟩ := HS5.out.rd.three
        have O1 := Lib.hid o1
        have O2 := Lib.hid o2
        have O3 := Lib.hid o3
        have O4 := Lib.hid o4
        have O5 := Lib.hid o5
        obtain ⟨ai0, ci0, rfl⟩ := own_slice o3
        obtain ⟨an0, cn0, rfl⟩ := own_slice o2
        clear o1 o2 o3 o4 o5
        have hw1 : IntKind.i64.wrap (D - 1) = D - 1 := IntWalk.i64_in _ ⟨by omega, by omega⟩
        go_wp2_with fail
        refine HV.out.mono ?_
        rintro e w6 ⟨x, an, ln, cn, ai, li, ci, p6, us6, rfl, h6, a6, k6, hok⟩
        have t6 := k6.hd O1.out (by omega)
        clear e0 e1 e2 e3 e4 ef c0 c1 c2 cf
        obtain ⟨e0, e1, e2, e3, e4, ef⟩ := Js.five_cells t6
        have hJlt := t6.lt
        go_upto_region 15 with fail
        have HX6 := Lib.hid (Hd.new w6 (.cells #[.int .i64 x.kind, .int .i64 x.num, .string ⟨x.text.toArray⟩, .slice an ln cn, .slice ai li ci] 25))
        have HO6 := Lib.hid ((own_ch k6 O3.out (fun b hb e => by have := (O3.out.lt b hb).1; omega)).alloc (.cells #[.int .i64 x.kind, .int .i64 x.num, .string ⟨x.text.toArray⟩, .slice an ln cn, .slice ai li ci] 25))
        have HB67 := Lib.hid ((Below.refl w6.heap.size w6).alloc (Nat.le_refl _) (.cells #[.int .i64 x.kind, .int .i64 x.num, .string ⟨x.text.toArray⟩, .slice an ln cn, .slice ai li ci] 25))
        have HJ6 := Lib.hid (t6.al (.cells #[.int .i64 x.kind, .int .i64 x.num, .string ⟨x.text.toArray⟩, .slice an ln cn, .slice ai li ci] 25))
        obtain ⟨w7, hw7⟩ : ∃ w7, w7 = w6.alloc (.cells #[.int .i64 x.kind, .int .i64 x.num, .string ⟨x.text.toArray⟩, .slice an ln cn, .slice ai li ci] 25) := ⟨_, rfl⟩
        have hz7 : w7.heap.size = w6.heap.size + 1 := by rw [hw7]; simp
        obtain ⟨bX, hbX⟩ : ∃ bX, w6.heap.size = bX := ⟨_, rfl⟩
        rw [← hw7] at HX6 HO6 HB67 HJ6 ⊢
        rw [hbX] at HX6 ⊢
        have HZ7 := Lib.hid hz7
        have hsz0 := HS5.out.ch.size
        have hsz6 := k6.size
        have hxl : xs.length ≤ 12 := by omega
        have hlx : (xs.length : Int) < (xs.length : Int) + 1 := by omega
        have hvl : vals.length = xs.length * 5 := O3.out.1
        have HBASE := Lib.hid (show W0.heap.size ≤ (w7.alloc (.cells zJ.toArray 25)).heap.size from by simp; omega)
        have HZR := Lib.hid (fun (gg ccap : Nat) (w8 : World) (hh : w8.ownsRow W0.heap.size 25 5 (.slice (some ⟨gg, 0, none⟩) (xs.length + 1) ccap) (xs.length + 1) (vals ++ zJ)) => zrow hh hvl)
        have HJG := Lib.hid (fun (w8 : World) (hg : (w7.alloc (.cells zJ.toArray 25)).drew.grownBy w8 (Value.slice ai0 xs.length ci0).ownBlock) => show Hd w8 Jb (jbO 6 (.slice an0 (ns ++ [s]).length cn0) (.slice ai0 xs.length ci0)) from Hd.grown (w := (w7.alloc (.cells zJ.toArray 25)).drew) (HJ6.out.al _) hg (fun e => O5.out e.symm))
        have HGJ := Lib.hid (fun (gg : Nat) (hat : (Value.slice ai0 xs.length ci0).ownBlock = some gg ∨ gg = w7.heap.size + 1) => show gg ≠ Jb from fun e => by subst e; rcases hat with h | h; exact O5.out h; have := HJ6.out.lt; omega)
        have HFIN := Lib.hid (fun (gg ccap : Nat) (w8 wf : World) (hown8 : w8.ownsRow W0.heap.size 25 5 (.slice (some ⟨gg, 0, none⟩) (xs.length + 1) ccap) (xs.length + 1) (vals ++ zJ)) (hg : (w7.alloc (.cells zJ.toArray 25)).drew.grownBy w8 (Value.slice ai0 xs.length ci0).ownBlock) (hat : (Value.slice ai0 xs.length ci0).ownBlock = some gg ∨ gg = w7.heap.size + 1)
            (hwf : wf = (set5 w8 gg (xs.length * 5) (.int .i64 x.kind) (.int .i64 x.num) (.string ⟨x.text.toArray⟩) (.slice an ln cn) (.slice ai li ci)).setCell ⟨Jb, 4, none⟩ (.slice (some ⟨gg, 0, none⟩) (xs.length + 1) ccap) ∨ wf = set5 (w8.setCell ⟨Jb, 4, none⟩ (.slice (some ⟨gg, 0, none⟩) (xs.length + 1) ccap)) gg (xs.length * 5) (.int .i64 x.kind) (.int .i64 x.num) (.string ⟨x.text.toArray⟩) (.slice an ln cn) (.slice ai li ci)) => show FinP R Jb t 6 W0 (ns ++ [s]) xs an0 (ns ++ [s]).length cn0 (rd us5) p6 us6 wf from by
          have hb78 : Below w6.heap.size w6 (w7.alloc (.cells zJ.toArray 25)).drew := (HB67.out.alloc (by omega) _).drew
          have hp : (Value.slice ai0 xs.length ci0).ownBlock = some gg ∨ (w7.alloc (.cells zJ.toArray 25)).drew.heap.size ≤ gg := by
            rcases hat with h | h
            · exact .inl h
            · refine .inr ?_
              show (w7.alloc (.cells zJ.toArray 25)).heap.size ≤ gg
              simp; omega
          obtain ⟨f1, f2, f3⟩ := je_item HS5.out hR hJ O1.out O3.out O5.out k6 h6 a6 hb78 hown8 hg hp hwf
          refine ⟨fun h0 => ?_, f1, ⟨gg, ccap, f3⟩, f2, a6⟩
          obtain ⟨rfl, rfl, hfj, S, hoj⟩ := hok h0
          have := js_item HS5.out hR hJ O1.out O2.out O3.out O4.out O5.out k6 h6 a6 hoj hfj hb78 hown8 hg hp hwf
          rw [h0] at this
          exact this)
        clear hw7 e0 e1 e2 e3 e4 ef t6 hJlt hbX hz7 hok h6 a6 k6
        obtain ⟨e0, e1, e2, e3, e4, ef⟩ := Js.five_cells HJ6.out
        obtain ⟨x0, x1, x2, x3, x4, xf⟩ := Js.five_cells HX6.out
        have hJlt := HJ6.out.lt
        have hXlt := HX6.out.lt
        go_cut [] from 70 to 80 (fun wx => FinP R Jb t 6 W0 (ns ++ [s]) xs an0 (ns ++ [s]).length cn0 (rd us5) p6 us6 wx)
        case first =>
          go_region_law (refine step_append_lies _ (by rfl) _ _ _ (by rfl) W0.heap.size 25 i0 _ 5 80 Tryd.underlying23 hi hz0 hz1 hz2 rfl (by omega) (.slice ai0 xs.length ci0) xs.length vals (by rfl) (HO6.out.alloc _) ⟨w7.heap.size, 0, none⟩ 1 1 zJ (by rfl) (by rfl) (World.news_of_block (cs := zJ.toArray) (t := 25) (fr := (0, 0)) (heap_alloc_new w7 _)) (by simp [Value.oneCell']) (by omega) (by unfold maxLen; omega) (by omega) HBASE.out (w7.heap.size + 1) (by simp) ?_; intro gg ccap w8 hown8 hgrow hat hlt8; obtain ⟨y0, y1, y2, y3, y4, yf, ylt⟩ := HZR.out gg ccap w8 hown8; have hJ8 := HJG.out w8 hgrow; have hgJ := HGJ.out gg hat; have hJg := Ne.symm hgJ; obtain ⟨v0, v1, v2, v3, v4, vf⟩ := Js.five_cells hJ8; have hJ8lt := hJ8.lt)
          all_goals
            have HFF := Lib.hid (fun wf hwf => HFIN.out gg ccap w8 wf hown8 hgrow hat hwf)
            clear hown8 hgrow hat y0 y1 y2 y3 y4 yf v0 v1 v2 v3 v4 vf hJ8
            go_wp2_with fail
            go_meet
            exact HFF.out _ (by first | (left; with_reducible rfl) | (right; with_reducible rfl))
        case rest =>
          clear e0 e1 e2 e3 e4 ef x0 x1 x2 x3 x4 xf hJlt hXlt HFIN HGJ HJG HZR HBASE HX6 HO6 HB67 HJ6 O1 O2 O3 O4 O5 HV
          obtain ⟨hjs, hje, ⟨g9, c9, hb9⟩, hr9, ha9⟩ := hcut
          generalize wc = wx at *
          obtain ⟨e0, e1, e2, e3, e4, ef⟩ := Js.five_cells hb9
          obtain ⟨xl, hxl⟩ : ∃ xl, xs.length = xl := ⟨_, rfl⟩
          have HXL := Lib.hid hxl
          have HHJS := Lib.hid hjs
          have HHJE := Lib.hid hje
          have HR9 := Lib.hid hr9
          have HA9 := Lib.hid ha9
          have HIR := HIR
          clear hjs hje hb9 hr9 ha9 hlx hvl
          rw [hxl] at hn e4
          clear hxl
          have hl12 : ¬ 9223372036854775807 < xl + 1 := by omega
          obtain ⟨vr, hvr⟩ : ∃ vr, rd us5 = vr := ⟨_, rfl⟩
          rw [hvr] at HHJS HHJE HR9 HIR
          clear hvr
          by_cases h0 : vr.1 = 0
          · have hi0 : (itemR rd true ns us4).1 = 0 := by rw [HIR.out]; exact h0
            have HJ9 := Lib.hid (HHJS.out h0)
            cases n with
            | zero =>
              have h6 := items_many (close := 125) (xs := xs) hi0
              rw [hE] at h6
              have g12 : 12 < xl + 1 := by omega
              have HF9 := Lib.hid (fail_any R t p6 vr.1 6 wx HR9.out)
              rw [h0] at HF9
              have HRC := Lib.hid h6
              have HNC := Lib.hid (show ((6 : Int) == 0) = false by decide)
              have HNZ := Lib.hid (show (6 : Int) ≠ 0 by decide)
              have HFK := Lib.hid (show failC 6 3 = 6 by decide)
              clear h6 hE
              go_wp2_with fail
              refine HF9.out.mono ?_
              rintro e w9 ⟨rfl, h9, k9⟩
              have HJE9 := Lib.hid (HJ9.out.je.step hR hJ k9 h9 HA9.out)
              rw [show failC 0 6 = 6 from rfl] at HJE9
              clear h9 k9 e0 e1 e2 e3 e4 ef
              obtain ⟨⟨p8, u8', r8, a8⟩, -, -⟩ := HJE9.out
              have HB8 := Lib.hid (blanks_any R t u8' p8 6 w9 r8 a8 hl)
              clear r8 a8
              go_wp2_with fail
              refine HB8.out.mono ?_
              rintro e wa ⟨rfl, pa, ha, aa, ka⟩
              have HJa := Lib.hid (HJE9.out.step hR hJ ka ha aa)
              have HSa := Lib.hid (skip_any R t (trim u8') pa 6 125 false wa ha aa hl (by rw [HNC.out]; rfl))
              clear ha aa ka
              go_wp2_with fail
              refine HSa.out.mono ?_
              rintro e wb ⟨rfl, pb, hb, ab, kb⟩
              have HJb := Lib.hid (HJa.out.step hR hJ kb hb ab)
              have HSb := Lib.hid (skip_any R t _ pb 6 44 false wb hb ab hl (by rw [HNC.out]; rfl))
              clear hb ab kb
              go_wp2_with fail
              refine HSb.out.mono ?_
              rintro e wc ⟨rfl, pc, hc, ac, kc⟩
              have HJc := Lib.hid (HJb.out.step hR hJ kc hc ac)
              have HFc := Lib.hid (fail_any R t pc 6 3 wc hc)
              go_wp2_with fail
              refine HFc.out.mono ?_
              rintro e wd ⟨rfl, hd, kd⟩
              have HJd := Lib.hid (HJc.out.step hR hJ kd hd ac)
              rw [show failC 6 3 = 6 from HFK.out] at HJd
              have HJd' := Lib.hid (show res.1 ≠ 0 ∧ JE R Jb t 6 W0 res.1 wd from by rw [HRC.out]; exact ⟨HNZ.out, HJd.out⟩)
              clear hc ac kc hd kd
              go_wp2
              go_roundw
              case rel => exact .inr HJd'.out
              case measure => rw [mu_je HJd'.out.2 HJd'.out.1, HMU.out]; omega
            | succ n =>
              have g12 : ¬ 12 < xl + 1 := by omega
              have HB9 := Lib.hid (blanks_any R t us6 p6 vr.1 wx HR9.out HA9.out hl)
              rw [h0] at HB9
              go_wp2_with fail
              refine HB9.out.mono ?_
              rintro e wa ⟨rfl, pa, ha, aa, ka⟩
              have HUS := Lib.hid (show us6 = vr.2.2 from (at_same HJ9.out.at_ HA9.out).symm)
              rw [HUS.out] at aa
              have HJa := Lib.hid (HJ9.out.step hR hJ ka ha aa)
              obtain ⟨q1, hq1⟩ : ∃ q, Lib.hasPrefix (trim vr.2.2) [125] = q := ⟨_, rfl⟩
              have HSa := Lib.hid (skip_any R t (trim vr.2.2) pa 0 125 q1 wa ha aa hl (by rw [hq1]; rfl))
              clear ha aa ka e0 e1 e2 e3 e4 ef
              go_wp2_with fail
              refine HSa.out.mono ?_
              rintro e wb ⟨rfl, pb, hb, ab, kb⟩
              cases q1 with
              | true =>
                have hEE := items_end (close := 125) (xs := xs) n hi0 (by rw [HIR.out]; exact hq1)
                rw [hE, HIR.out] at hEE
                simp only [if_true] at ab
                have HJb := Lib.hid (HJa.out.step hR hJ kb hb ab)
                have HF := Lib.hid (show IsP R Jb t 6 W0 res (.returned (.tuple #[])) wb from by rw [hEE]; exact ⟨rfl, fun _ => ⟨pb, HJb.out⟩, HJb.out.je⟩)
                clear hEE hb ab kb hE
                go_wp2
                exact bodyPost_ret (results_none Tryd.results52 _ _ _) rfl HF.out
              | false =>
                simp only [Bool.false_eq_true, if_false] at ab
                have HJb := Lib.hid (HJa.out.step hR hJ kb hb ab)
                obtain ⟨q2, hq2⟩ : ∃ q, Lib.hasPrefix (trim vr.2.2) [44] = q := ⟨_, rfl⟩
                have HSb := Lib.hid (skip_any R t (trim vr.2.2) pb 0 44 q2 wb hb ab hl (by rw [hq2]; rfl))
                clear hb ab kb
                go_wp2_with fail
                refine HSb.out.mono ?_
                rintro e wc ⟨rfl, pc, hc, ac, kc⟩
                cases q2 with
                | true =>
                  have hEE := items_next (close := 125) (xs := xs) n hi0 (by rw [HIR.out]; exact hq1) (by rw [HIR.out]; exact hq2)
                  rw [hE, HIR.out] at hEE
                  simp only [if_true] at ac
                  have HJc := Lib.hid (HJb.out.step hR hJ kc hc ac)
                  have HEE := Lib.hid (show itemsR rd true 125 n (ns ++ [s]) (xs ++ [vr.2.1]) (trim vr.2.2).tail = res from hEE.symm)
                  clear hEE hc ac kc hE
                  go_wp2
                  go_roundw
                  case rel => exact .inl ⟨n, (ns ++ [s]), xs ++ [vr.2.1], pc, (trim vr.2.2).tail, by rw [List.length_append, HXL.out]; simp; omega, by have := HNX.out; simp; omega, HJc.out, HEE.out⟩
                  case measure => rw [mu_js HJc.out, HMU.out]; simp; have := HXL.out; omega
                | false =>
                  have hEE := items_form (close := 125) (xs := xs) n hi0 (by rw [HIR.out]; exact hq1) (by rw [HIR.out]; exact hq2)
                  rw [hE] at hEE
                  simp only [Bool.false_eq_true, if_false] at ac
                  have HJc := Lib.hid (HJb.out.step hR hJ kc hc ac)
                  have HFc := Lib.hid (fail_any R t pc 0 3 wc hc)
                  go_wp2_with fail
                  refine HFc.out.mono ?_
                  rintro e wd ⟨rfl, hd, kd⟩
                  have HJd := Lib.hid (HJc.out.je.step hR hJ kd hd ac)
                  rw [show failC 0 3 = 3 from rfl] at HJd
                  have HJd' := Lib.hid (show res.1 ≠ 0 ∧ JE R Jb t 6 W0 res.1 wd from by rw [hEE]; exact ⟨by decide, HJd.out⟩)
                  clear hEE hc ac kc hd kd hE
                  go_wp2
                  go_roundw
                  case rel => exact .inr HJd'.out
                  case measure => rw [mu_je HJd'.out.2 HJd'.out.1, HMU.out]; have := HXL.out; omega
          · have hb := items_bad (rd := rd) (obj := true) (close := 125) (ns := ns) (xs := xs) (bs := us4) (by rw [HIR.out]; exact h0) n
            rw [hE, HIR.out] at hb
            obtain ⟨cc, hcc⟩ : ∃ cc, vr.1 = cc := ⟨_, rfl⟩
            rw [hcc] at HHJE HR9 h0
            have HRC := Lib.hid (show res.1 = cc from hb.trans hcc)
            have HNC := Lib.hid (show (cc == 0) = false by simpa using h0)
            have HNZ := Lib.hid h0
            have HFK := Lib.hid (show failC cc 3 = cc by unfold failC; rw [if_neg h0])
            have HFK6 := Lib.hid (show failC cc 6 = cc by unfold failC; rw [if_neg h0])
            clear hb hcc hE h0
            by_cases g12 : 12 < xl + 1
            · have HF9 := Lib.hid (fail_any R t p6 cc 6 wx HR9.out)
              go_wp2_with fail
              refine HF9.out.mono ?_
              rintro e w9 ⟨rfl, h9, k9⟩
              have HJE9 := Lib.hid (HHJE.out.step hR hJ k9 h9 HA9.out)
              rw [show failC cc 6 = cc from HFK6.out] at HJE9
              clear h9 k9 e0 e1 e2 e3 e4 ef
              obtain ⟨⟨p8, u8', r8, a8⟩, -, -⟩ := HJE9.out
              have HB8 := Lib.hid (blanks_any R t u8' p8 cc w9 r8 a8 hl)
              clear r8 a8
              go_wp2_with fail
              refine HB8.out.mono ?_
              rintro e wa ⟨rfl, pa, ha, aa, ka⟩
              have HJa := Lib.hid (HJE9.out.step hR hJ ka ha aa)
              have HSa := Lib.hid (skip_any R t (trim u8') pa cc 125 false wa ha aa hl (by rw [HNC.out]; rfl))
              clear ha aa ka
              go_wp2_with fail
              refine HSa.out.mono ?_
              rintro e wb ⟨rfl, pb, hb, ab, kb⟩
              have HJb := Lib.hid (HJa.out.step hR hJ kb hb ab)
              have HSb := Lib.hid (skip_any R t _ pb cc 44 false wb hb ab hl (by rw [HNC.out]; rfl))
              clear hb ab kb
              go_wp2_with fail
              refine HSb.out.mono ?_
              rintro e wc ⟨rfl, pc, hc, ac, kc⟩
              have HJc := Lib.hid (HJb.out.step hR hJ kc hc ac)
              have HFc := Lib.hid (fail_any R t pc cc 3 wc hc)
              go_wp2_with fail
              refine HFc.out.mono ?_
              rintro e wd ⟨rfl, hd, kd⟩
              have HJd := Lib.hid (HJc.out.step hR hJ kd hd ac)
              rw [show failC cc 3 = cc from HFK.out] at HJd
              have HJd' := Lib.hid (show res.1 ≠ 0 ∧ JE R Jb t 6 W0 res.1 wd from by rw [HRC.out]; exact ⟨HNZ.out, HJd.out⟩)
              clear hc ac kc hd kd
              go_wp2
              go_roundw
              case rel => exact .inr HJd'.out
              case measure => rw [mu_je HJd'.out.2 HJd'.out.1, HMU.out]; omega
            · have HJE9 := HHJE
              obtain ⟨⟨p8, u8', r8, a8⟩, -, -⟩ := HJE9.out
              have HB8 := Lib.hid (blanks_any R t u8' p8 cc wx r8 a8 hl)
              clear r8 a8
              go_wp2_with fail
              refine HB8.out.mono ?_
              rintro e wa ⟨rfl, pa, ha, aa, ka⟩
              have HJa := Lib.hid (HJE9.out.step hR hJ ka ha aa)
              have HSa := Lib.hid (skip_any R t (trim u8') pa cc 125 false wa ha aa hl (by rw [HNC.out]; rfl))
              clear ha aa ka
              go_wp2_with fail
              refine HSa.out.mono ?_
              rintro e wb ⟨rfl, pb, hb, ab, kb⟩
              have HJb := Lib.hid (HJa.out.step hR hJ kb hb ab)
              have HSb := Lib.hid (skip_any R t _ pb cc 44 false wb hb ab hl (by rw [HNC.out]; rfl))
              clear hb ab kb
              go_wp2_with fail
              refine HSb.out.mono ?_
              rintro e wc ⟨rfl, pc, hc, ac, kc⟩
              have HJc := Lib.hid (HJb.out.step hR hJ kc hc ac)
              have HFc := Lib.hid (fail_any R t pc cc 3 wc hc)
              go_wp2_with fail
              refine HFc.out.mono ?_
              rintro e wd ⟨rfl, hd, kd⟩
              have HJd := Lib.hid (HJc.out.step hR hJ kd hd ac)
              rw [show failC cc 3 = cc from HFK.out] at HJd
              have HJd' := Lib.hid (show res.1 ≠ 0 ∧ JE R Jb t 6 W0 res.1 wd from by rw [HRC.out]; exact ⟨HNZ.out, HJd.out⟩)
              clear hc ac kc hd kd
              go_wp2
              go_roundw
              case rel => exact .inr HJd'.out
              case measure => rw [mu_je HJd'.out.2 HJd'.out.1, HMU.out]; omega
      · have HJE0 := Lib.hid hJE
        have HNE0 := Lib.hid hne
        obtain ⟨⟨p8, u8', r8, a8⟩, -, -⟩ := hJE
        obtain ⟨c0, c1, c2, cf⟩ := r8.three
        have g0 : (res.1 == 0) = false := by simpa using hne
        have HF := Lib.hid (show IsP R Jb t 6 W0 res (.returned (.tuple #[])) wr from ⟨rfl, fun h => absurd h HNE0.out, HJE0.out⟩)
        have HRES0 := Lib.hid (rfl : res.1 = res.1)
        clear r8 a8 hne
        obtain ⟨rc, hrc⟩ : ∃ rc, res.1 = rc := ⟨_, rfl⟩
        rw [hrc] at c2 g0
        clear hrc HNE0 HJE0
        go_wp2
        go_end0
        exact HF.out
end Go.Proofs.YtjakkmjipglkiaaDoor.Rd
