
/-
  EntriesOf of the model and of the program, walked. (Made by fta.py.)
-/
import Derived.Test.YtmaknkbmilcanaaGreatDoorFtM
namespace Go.Proofs.YtmaknkbmilcanaaGreatDoor.Ft
open Go.RowKit
open Go.Proofs.YtmaknkbmilcanaaGreatDoor.Tx (TxtsIn ret_b)
open Go.Proofs.YtmaknkbmilcanaaGreatDoor.Gr (Tg Gp TgIn ret_i)
open Go.Proofs.YtmaknkbmilcanaaGreatDoor.Pe (Pr PrIn)
open Go.Proofs.YtmaknkbmilcanaaGreatDoor.Qu (Rep Q RpIn IntsIn OI Hd intV)
open Go.Proofs.YtmaknkbmilcanaaGreatDoor.Po (Pl RlIn)
open Go.Proofs.YtmaknkbmilcanaaGreatDoor.Gr (belI_step belI_alloc)
open Go.Proofs.YtmaknkbmilcanaaGreatDoor.Pi (Cn En Wi Pp EnIn WiIn CnIn PpN PV pV8 ppV eV)
open Go.Proofs.YtmaknkbmilcanaaGreatDoor.Ul (Tab MaxL in_any)
open Go.Proofs.YtmaknkbmilcanaaGreatDoor.Pi (Sm ppB)
open Go.Proofs.YtmaknkbmilcanaaGreatDoor.Mk (below_grownBy own_slice own_base)

theorem enR_len (p : Pp) (id : Int) (h : p.log.length ≤ 1048576) : (enR p id).length ≤ 1048576 := by
  unfold enR
  split
  · have := List.length_filter_le (fun x : En => decide (x.id = id)) p.log
    unfold ofId
    omega
  · exact Nat.zero_le _
set_option maxRecDepth 100000 in
set_option maxHeartbeats 4000000 in
theorem entriesOfS_any (B : Nat) (w0 : World) (p : Pp) (u : PV) (h : PpN (· < B) w0 u p) (sm : Sm p) (hlg : p.log.length ≤ 1048576) (id : Int) (W : World) (hb : Below B w0 W) (hB : B ≤ W.heap.size) :
    Calls Tryz.prog 19 #[pV8 p u, .int .i64 id] W (NewEC W (enR p id) (enCo p)) := by
  obtain ⟨r, hr⟩ : ∃ r, ppB p = r := ⟨_, rfl⟩
  have HOK := Lib.hid (fun (W' : World) (hb : Below B w0 W') (hB : B ≤ W'.heap.size) => show Calls Tryz.prog 61 #[pV8 p u] W' (fun e w' => e = .returned (.bool r) ∧ Below W'.heap.size W' w') from by subst hr; exact Pi.ok08_any B w0 p u h sm W' hb hB)
  have HC := Lib.hid (show enCo p = if r = true then 0 else 1 by subst hr; rfl)
  have HR := Lib.hid (show enR p id = if r = true then ofId p.log id else [] by subst hr; rfl)
  have HB := Lib.hid hb
  clear hr hb sm
  generalize enCo p = C at *
  generalize enR p id = R at *
  obtain ⟨chs, ⟨rp, uris, rules⟩, now, next, log, ws⟩ := p
  obtain ⟨u1, u2, u3, u4, u5⟩ := u
  obtain ⟨h1, h2, h3, h4, h5⟩ := h
  simp only at h1 h2 h3 h4 h5 hlg HR
  have HF := Lib.hid (fun W' a b => entriesS_any B w0 log u4 h4 hlg u1 rp u2 u3 now next u5 id W' a b)
  obtain ⟨a1, l1, c1, rfl⟩ := h1.slice
  obtain ⟨a2, l2, c2, rfl⟩ := h2.slice
  obtain ⟨a3, l3, c3, rfl⟩ := h3.slice
  obtain ⟨a4, l4, c4, rfl⟩ := h4.slice
  obtain ⟨a5, l5, c5, rfl⟩ := h5.slice
  clear h1 h2 h3 h4 h5
  have BA := Lib.hid ((Below.refl W.heap.size W).alloc (Nat.le_refl _) (.cells #[.slice a1 l1 c1, .string ⟨rp.toArray⟩, .slice a2 l2 c2, .slice a3 l3 c3, .int .i64 now, .int .i64 next, .slice a4 l4 c4, .slice a5 l5 c5] 41))
  have K := Lib.hid (Hd.new W (.cells #[.slice a1 l1 c1, .string ⟨rp.toArray⟩, .slice a2 l2 c2, .slice a3 l3 c3, .int .i64 now, .int .i64 next, .slice a4 l4 c4, .slice a5 l5 c5] 41))
  go_enter Tryz.func19, Tryz.ntmps19
  go_wp2_with fail
  refine (HOK.out _ (HB.out.trans (BA.out.mono hB)) (Nat.le_trans hB BA.out.size)).mono ?_
  rintro e w1 ⟨rfl, hb1⟩
  have B1 := Lib.hid (belI_step BA.out hb1)
  have K1 := Lib.hid (K.out.blw hb1)
  clear hb1 K BA
  cases r
  · have HFIN := Lib.hid (newEC_mk (W := W) (w := w1) (show R = [] by rw [HR.out]; rfl) (show C = 1 by rw [HC.out]; rfl) B1.out rfl rfl)
    go_wp2
    exact bodyPost_ret (ret_2 Tryz.results19) rfl HFIN.out
  · have HC0 := Lib.hid (show C = 0 by rw [HC.out]; rfl)
    have HR0 := Lib.hid (show R = ofId log id by rw [HR.out]; rfl)
    have kk := K1.out
    have m0 := cell_of_row w1 W.heap.size 0 _ _ _ kk
    have m1 := cell_of_row w1 W.heap.size 1 _ _ _ kk
    have m2 := cell_of_row w1 W.heap.size 2 _ _ _ kk
    have m3 := cell_of_row w1 W.heap.size 3 _ _ _ kk
    have m4 := cell_of_row w1 W.heap.size 4 _ _ _ kk
    have m5 := cell_of_row w1 W.heap.size 5 _ _ _ kk
    have m6 := cell_of_row w1 W.heap.size 6 _ _ _ kk
    have m7 := cell_of_row w1 W.heap.size 7 _ _ _ kk
    clear kk
    go_wp2_with fail
    refine (HF.out w1 (HB.out.trans (B1.out.mono hB)) (Nat.le_trans hB B1.out.size)).mono ?_
    rintro e w3 ⟨v, rfl, hO, hb3⟩
    have HFIN := Lib.hid (show NewEC W R C (.returned (.tuple #[v, .int .i64 0])) w3 by
      rw [HC0.out, HR0.out]; exact ⟨_, rfl, own_base hO B1.out.size, belI_step B1.out hb3⟩)
    obtain ⟨a9, c9, rfl⟩ := OE.slice hO
    clear hb3 hO
    go_wp2
    exact bodyPost_ret (ret_2 Tryz.results19) rfl HFIN.out
set_option maxRecDepth 100000 in
set_option maxHeartbeats 4000000 in
theorem entriesOfI_any (B : Nat) (w0 : World) (p : Pp) (u : PV) (h : PpN (· < B) w0 u p) (sm : Sm p) (hlg : p.log.length ≤ 1048576) (id : Int) (W : World) (hb : Below B w0 W) (hB : B ≤ W.heap.size) (hT : Tab W) (hM : MaxL W) :
    Calls Tryz.prog 20 #[pV8 p u, .int .i64 id] W (NewEC W (enR p id) (enCo p)) := by
  obtain ⟨r, hr⟩ : ∃ r, ppB p = r := ⟨_, rfl⟩
  have HOK := Lib.hid (fun (W' : World) (hb : Below B w0 W') (hB : B ≤ W'.heap.size) (h2 : Tab W') (h3 : MaxL W') => show Calls Tryz.prog 67 #[pV8 p u] W' (fun e w' => e = .returned (.bool r) ∧ Below W'.heap.size W' w') from by subst hr; exact Pi.ppI_any B w0 p u h sm W' hb hB h2 h3)
  have HC := Lib.hid (show enCo p = if r = true then 0 else 1 by subst hr; rfl)
  have HR := Lib.hid (show enR p id = if r = true then ofId p.log id else [] by subst hr; rfl)
  have HB := Lib.hid hb
  have HT := Lib.hid hT
  have HM := Lib.hid hM
  clear hr hb sm hT hM
  generalize enCo p = C at *
  generalize enR p id = R at *
  obtain ⟨chs, ⟨rp, uris, rules⟩, now, next, log, ws⟩ := p
  obtain ⟨u1, u2, u3, u4, u5⟩ := u
  obtain ⟨h1, h2, h3, h4, h5⟩ := h
  simp only at h1 h2 h3 h4 h5 hlg HR
  have H4 := Lib.hid h4
  obtain ⟨a1, l1, c1, rfl⟩ := h1.slice
  obtain ⟨a2, l2, c2, rfl⟩ := h2.slice
  obtain ⟨a3, l3, c3, rfl⟩ := h3.slice
  obtain ⟨a4, c4, rfl⟩ := h4.slice2
  obtain ⟨a5, l5, c5, rfl⟩ := h5.slice
  clear h1 h2 h3 h4 h5
  obtain ⟨i0, hi, hz0, hz1, hz2⟩ := info_parts Pi.Tryz.infoEn
  have BA := Lib.hid ((Below.refl W.heap.size W).alloc (Nat.le_refl _) (.cells #[.slice a1 l1 c1, .string ⟨rp.toArray⟩, .slice a2 l2 c2, .slice a3 l3 c3, .int .i64 now, .int .i64 next, .slice a4 log.length c4, .slice a5 l5 c5] 41))
  have K := Lib.hid (Hd.new W (.cells #[.slice a1 l1 c1, .string ⟨rp.toArray⟩, .slice a2 l2 c2, .slice a3 l3 c3, .int .i64 now, .int .i64 next, .slice a4 log.length c4, .slice a5 l5 c5] 41))
  go_enter Tryz.func20, Tryz.ntmps20
  go_wp2_with fail
  refine (HOK.out _ (HB.out.trans (BA.out.mono hB)) (Nat.le_trans hB BA.out.size) (HT.out.below BA.out) (HM.out.below BA.out)).mono ?_
  rintro e w1 ⟨rfl, hb1⟩
  have B1 := Lib.hid (belI_step BA.out hb1)
  have K1 := Lib.hid (K.out.blw hb1)
  clear hb1 K BA
  cases r
  · have HFIN := Lib.hid (newEC_nil (W := W) (w' := w1) (show R = [] by rw [HR.out]; rfl) (show C = 1 by rw [HC.out]; rfl) B1.out)
    go_wp2
    exact bodyPost_ret (ret_2 Tryz.results20) rfl HFIN.out
  · have HC0 := Lib.hid (show C = 0 by rw [HC.out]; rfl)
    have HR0 := Lib.hid (show R = ofId log id by rw [HR.out]; rfl)
    have m6 := cell_of_row w1 W.heap.size 6 _ _ _ K1.out
    obtain ⟨ao, capo, b, off, e, hcap, hm, -, ha, hc⟩ := H4.out.blw (HB.out.trans (B1.out.mono hB))
    injection e with e1 e2 e3
    subst e1 e3
    have HCC := Lib.hid hc
    have HA := Lib.hid ha
    have hn : (log.length : Int) ≤ 9223372036854775807 := by omega
    have O0 := Lib.hid (show OE w1 w1.heap.size (.slice none 0 0) (ofId (log.take 0) id) from OE.nil w1 _)
    clear hc ha hcap hm e2 HT HM
    go_wp2
    go_loopw [6, 15] (fun v i wr => ∃ k : Nat, k ≤ log.length ∧ i = .int .i64 k ∧ OE wr w1.heap.size v (ofId (log.take k) id) ∧ Below w1.heap.size w1 wr) (fun _ i _ => log.length - (intOf i).toNat)
    case atStart => exact ⟨0, by omega, rfl, O0.out, Below.refl _ _⟩
    case round =>
      obtain ⟨k, hk, rfl, hO, hRr⟩ := hrel
      have HRr := Lib.hid hRr
      have HO := Lib.hid hO
      have z1 : W.heap.size ≤ w1.heap.size := B1.out.size
      clear hRr hO
      by_cases hlt : k < log.length
      · obtain ⟨ea, hlb⟩ := HA.out (by omega)
        subst ea
        obtain ⟨c0, c1, c2⟩ := HCC.out k hlt
        have hW := HRr.out.mono (Nat.le_trans hB z1)
        have q0 := (hW.cell (p := ⟨b, off + k * 3, none⟩) hlb).trans c0
        have q1 := (hW.cell (p := ⟨b, off + k * 3 + 1, none⟩) hlb).trans c1
        have q2 := (hW.cell (p := ⟨b, off + k * 3 + 2, none⟩) hlb).trans c2
        have D := Lib.hid (of_take id k hlt)
        have hln := of_len log id k
        clear c0 c1 c2 hW
        generalize log.getD k default = x at *
        generalize ofId (log.take k) id = ds at *
        obtain ⟨kd, xid, tm⟩ := x
        simp only at q0 q1 q2 D
        obtain ⟨a9, c9, rfl⟩ := HO.out.slice
        obtain ⟨wa, hwa⟩ : ∃ wa, wa = wr.alloc (.cells #[.int .i64 kd, .int .i64 xid, .int .i64 tm] 107) := ⟨_, rfl⟩
        have BW := Lib.hid (show Below w1.heap.size w1 wa by rw [hwa]; exact belI_alloc HRr.out)
        have OA := Lib.hid (show OE wa w1.heap.size (.slice a9 ds.length c9) ds by rw [hwa]; exact own_al HO.out _)
        have hkx : Hd wa wr.heap.size (.cells #[.int .i64 kd, .int .i64 xid, .int .i64 tm] 107) := by rw [hwa]; exact Hd.new wr _
        have x0 := cell_of_row wa wr.heap.size 0 _ _ _ hkx
        have x1 := cell_of_row wa wr.heap.size 1 _ _ _ hkx
        have x2 := cell_of_row wa wr.heap.size 2 _ _ _ hkx
        clear hkx
        by_cases he : xid = id
        · subst he
          have he1 : (xid == xid) = true := by simp
          have F := Lib.hid (show ofId (log.take (k + 1)) xid = ds ++ [⟨kd, xid, tm⟩] by rw [D.out, if_pos rfl])
          clear D
          have OB := Lib.hid (own_al OA.out (.cells #[.int .i64 kd, .int .i64 xid, .int .i64 tm] 107))
          have BB := Lib.hid (belI_alloc (o := .cells #[.int .i64 kd, .int .i64 xid, .int .i64 tm] 107) BW.out)
          have z2 := BW.out.size
          go_upto_region 7 with fail
          rw [← hwa]
          clear hwa
          go_wp2_with (at_builtin; refine App.wpList_app _ rfl _ _ 38 rfl w1.heap.size 107 i0 _ 3 24 Tryz.underlying38 hi hz0 hz1 hz2 rfl (by omega) _ ds.length (enC ds) rfl OB.out ⟨wa.heap.size, 0, none⟩ 1 _ [.int .i64 kd, .int .i64 xid, .int .i64 tm] rfl (by omega) rfl (one_row3 wa _ _ _ _) (by intro u hu; simp at hu; rcases hu with rfl | rfl | rfl <;> rfl) (by omega) (by omega) (by simp; omega) ?_; intro l' w4 hown' hgrow hplace; have O4 := Lib.hid (show OE w4 w1.heap.size l' (ds ++ [⟨kd, xid, tm⟩]) by unfold OE; rw [List.length_append, enC_app]; exact hown'); have B4 := Lib.hid (show Below w1.heap.size w1 w4 from BB.out.grown hgrow (by simp; omega) (fun g e => (World.ownsRow.lt OB.out g e).1)); obtain ⟨a7, c7, rfl⟩ := O4.out.slice; clear hown' hgrow hplace)
          go_roundw
          case rel => exact ⟨k + 1, by omega, by go_num, by rw [F.out]; simpa using O4.out, B4.out⟩
          case measure => simp [intOf]; omega
        · have he1 : (xid == id) = false := by simp [he]
          have F := Lib.hid (show ofId (log.take (k + 1)) id = ds by rw [D.out, if_neg he, List.append_nil])
          clear D
          go_upto_region 7 with fail
          rw [← hwa]
          clear hwa
          go_wp2
          go_roundw
          case rel => exact ⟨k + 1, by omega, by go_num, by rw [F.out]; exact OA.out, BW.out⟩
          case measure => simp [intOf]; omega
      · obtain rfl : k = log.length := by omega
        have HFIN := Lib.hid (show NewEC W R C (.returned (.tuple #[u6, .int .i64 0])) wr by
          rw [HC0.out, HR0.out]; exact ⟨_, rfl, by have := own_base HO.out z1; rwa [List.take_length] at this, B1.out.trans (HRr.out.mono z1)⟩)
        obtain ⟨a9, c9, rfl⟩ := HO.out.slice
        clear HO
        go_wp2
        exact bodyPost_ret (ret_2 Tryz.results20) rfl HFIN.out
end Go.Proofs.YtmaknkbmilcanaaGreatDoor.Ft
