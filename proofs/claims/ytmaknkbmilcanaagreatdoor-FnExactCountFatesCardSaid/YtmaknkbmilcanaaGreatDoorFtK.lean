
/-
  CountFates of the model and of the program, walked. (Made by fta.py.)
-/
import Derived.Test.YtmaknkbmilcanaaGreatDoorFtM
namespace Go.Proofs.YtmaknkbmilcanaaGreatDoor.Ft
open Go.RowKit
open Go.Proofs.YtmaknkbmilcanaaGreatDoor.Tx (TxtsIn ret_b)
open Go.Proofs.YtmaknkbmilcanaaGreatDoor.Gr (Tg Gp TgIn ret_i)
open Go.Proofs.YtmaknkbmilcanaaGreatDoor.Pe (Pr PrIn)
open Go.Proofs.YtmaknkbmilcanaaGreatDoor.Qu (Rep Q RpIn IntsIn OI Hd intV)
open Go.Proofs.YtmaknkbmilcanaaGreatDoor.Po (Pl RlIn)
open Go.Proofs.YtmaknkbmilcanaaGreatDoor.Gr (belI_step belI_alloc)
open Go.Proofs.YtmaknkbmilcanaaGreatDoor.Pi (Cn En Wi Pp EnIn WiIn CnIn PpN PV pV8 ppV eV)
open Go.Proofs.YtmaknkbmilcanaaGreatDoor.Ul (Tab MaxL in_any)
open Go.Proofs.YtmaknkbmilcanaaGreatDoor.Pi (Sm ppB)
open Go.Proofs.YtmaknkbmilcanaaGreatDoor.Pf (Cl Fr cl_row)
open Go.Proofs.YtmaknkbmilcanaaGreatDoor.Mk (below_grownBy own_slice own_base)

/-- how many Ids below n have the fates 1 to m -/
def cfP (xs : List En) (n m : Nat) : List Int := (List.range m).map fun j => ((idsZ xs ((j + 1 : Nat) : Int) n).length : Int)
theorem cfP_succ (xs : List En) (n m : Nat) : cfP xs n (m + 1) = cfP xs n m ++ [((idsZ xs ((m + 1 : Nat) : Int) n).length : Int)] := by
  simp [cfP, List.range_succ]
theorem cfP_len (xs : List En) (n m : Nat) : (cfP xs n m).length = m := by simp [cfP]
def cfR (p : Pp) : List Int := if asC p = 0 then cfP p.log p.next.toNat 7 else []
theorem cfR_len (p : Pp) : (cfR p).length ≤ 1048576 := by
  unfold cfR
  split
  · rw [cfP_len]; omega
  · exact Nat.zero_le _
def NewFC (W : World) (R : List Int) (C : Int) (e : Ending) (w' : World) : Prop := ∃ v, e = .returned (.tuple #[v, .int .i64 C]) ∧ IFr w' W.heap.size v R ∧ Below W.heap.size W w'
set_option maxRecDepth 100000 in
set_option maxHeartbeats 4000000 in
theorem countS_any (B : Nat) (w0 : World) (p : Pp) (u : PV) (h : PpN (· < B) w0 u p) (sm : Sm p) (W : World) (hb : Below B w0 W) (hB : B ≤ W.heap.size) :
    Calls Tryz.prog 30 #[pV8 p u] W (NewIC W (cfR p) (asC p)) := by
  obtain ⟨c, hc⟩ : ∃ c, asC p = c := ⟨_, rfl⟩
  have HAS := Lib.hid (fun (W' : World) (hb : Below B w0 W') (hB : B ≤ W'.heap.size) => show Calls Tryz.prog 77 #[pV8 p u] W' (fun e w' => e = .returned (.int .i64 c) ∧ Below W'.heap.size W' w') from hc ▸ askS_any B w0 p u h sm W' hb hB)
  have HR := Lib.hid (show cfR p = if asC p = 0 then cfP p.log p.next.toNat 7 else [] from rfl)
  have HG := Lib.hid (show c = 0 → p.next ≤ 4096 ∧ 1 ≤ p.next ∧ ∀ x ∈ p.log, (1 ≤ x.kind ∧ x.kind ≤ 7) ∧ (1 ≤ x.id ∧ x.id ≤ p.next - 1) from fun e => by
    have hh := asC_at (hc.trans e)
    exact ⟨hh.2.1, hh.2.2, pp_log hh.1⟩)
  have HB := Lib.hid hb
  rw [hc] at HR ⊢
  clear hc hb sm
  generalize cfR p = R at *
  obtain ⟨chs, ⟨rp, uris, rules⟩, now, next, log, ws⟩ := p
  obtain ⟨u1, u2, u3, u4, u5⟩ := u
  obtain ⟨h1, h2, h3, h4, h5⟩ := h
  simp only at h1 h2 h3 h4 h5 HR HG
  have HID := Lib.hid (fun (n : Nat) (e : next = (n : Int)) (hn : n ≤ 4096) (hn1 : 1 ≤ n) (kd : Int) (h0 : fateB log 0 log.length ≠ kd) W' a b => e ▸ idsS_any B w0 log u4 h4 u1 rp u2 u3 now n hn hn1 u5 kd h0 W' a b)
  obtain ⟨a1, l1, c1, rfl⟩ := h1.slice
  obtain ⟨a2, l2, c2, rfl⟩ := h2.slice
  obtain ⟨a3, l3, c3, rfl⟩ := h3.slice
  obtain ⟨a4, l4, c4, rfl⟩ := h4.slice
  obtain ⟨a5, l5, c5, rfl⟩ := h5.slice
  clear h1 h2 h3 h4 h5
  obtain ⟨i0, hi0, hz0, hz1, hz2⟩ := info_parts Pi.Tryz.infoInt
  have BA := Lib.hid ((Below.refl W.heap.size W).alloc (Nat.le_refl _) (.cells #[.slice a1 l1 c1, .string ⟨rp.toArray⟩, .slice a2 l2 c2, .slice a3 l3 c3, .int .i64 now, .int .i64 next, .slice a4 l4 c4, .slice a5 l5 c5] 41))
  have K := Lib.hid (Hd.new W (.cells #[.slice a1 l1 c1, .string ⟨rp.toArray⟩, .slice a2 l2 c2, .slice a3 l3 c3, .int .i64 now, .int .i64 next, .slice a4 l4 c4, .slice a5 l5 c5] 41))
  go_enter Tryz.func30, Tryz.ntmps30
  go_wp2_with fail
  refine (HAS.out _ (HB.out.trans (BA.out.mono hB)) (Nat.le_trans hB BA.out.size)).mono ?_
  rintro e w1 ⟨rfl, hb1⟩
  have B1 := Lib.hid (belI_step BA.out hb1)
  have K1 := Lib.hid (K.out.blw hb1)
  clear hb1 K BA
  by_cases hc0 : c = 0
  · have cne : (c != 0) = false := by simp [hc0]
    have hg := HG.out hc0
    obtain ⟨n, hn⟩ : ∃ n : Nat, next = (n : Int) := ⟨next.toNat, by omega⟩
    have HR0 := Lib.hid (show R = cfP log n 7 by rw [HR.out, if_pos hc0, hn]; rfl)
    have HC0 := Lib.hid hc0
    have hn4 : n ≤ 4096 := by omega
    have hn1 : 1 ≤ n := by omega
    have hz : fateB log 0 log.length = 0 := fate_zero (fun x hx => (hg.2.2 x hx).2.1)
    have HI := Lib.hid (fun (kd : Int) (hk : 1 ≤ kd) => HID.out n hn hn4 hn1 kd (by rw [hz]; omega))
    have O0 := Lib.hid (show OI (w1.alloc (.cells #[] 3)) w1.heap.size (.slice (some ⟨w1.heap.size, 0, none⟩) 0 0) (cfP log n 0) from OI_made w1)
    have b0 := Lib.hid ((Below.refl w1.heap.size w1).alloc (Nat.le_refl _) (.cells #[] 3))
    clear HG HID hg hc0 hz hn hn1
    go_wp2
    go_loopw [5, 6] (fun v iv wr => ∃ i : Nat, i ≤ 7 ∧ iv = .int .i64 ((i : Int) + 1) ∧ OI wr w1.heap.size v (cfP log n i) ∧ Below w1.heap.size w1 wr) (fun _ iv _ => 8 - (intOf iv).toNat)
    case atStart => exact ⟨0, by omega, rfl, O0.out, b0.out⟩
    case round =>
      obtain ⟨i, hi, rfl, hO, hRr⟩ := hrel
      have HRr := Lib.hid hRr
      have HO := Lib.hid hO
      have hK := K1.out.blw hRr
      have B2 := Lib.hid (belI_step B1.out hRr)
      clear hRr hO
      have HLC := Lib.hid (cfP_len log n i)
      obtain ⟨a9, c9, rfl⟩ := OI.slice HO.out
      by_cases hlt : i < 7
      · have hltI : (i : Int) + 1 ≤ 7 := by omega
        have m0 := cell_of_row wr W.heap.size 0 _ _ _ hK
        have m1 := cell_of_row wr W.heap.size 1 _ _ _ hK
        have m2 := cell_of_row wr W.heap.size 2 _ _ _ hK
        have m3 := cell_of_row wr W.heap.size 3 _ _ _ hK
        have m4 := cell_of_row wr W.heap.size 4 _ _ _ hK
        have m5 := cell_of_row wr W.heap.size 5 _ _ _ hK
        have m6 := cell_of_row wr W.heap.size 6 _ _ _ hK
        have m7 := cell_of_row wr W.heap.size 7 _ _ _ hK
        clear hK
        have D := Lib.hid (cfP_succ log n i)
        have hil := idsZ_len log ((i : Int) + 1) n
        have eii : ((i + 1 : Nat) : Int) = (i : Int) + 1 := by omega
        rw [eii] at D
        clear eii
        generalize cfP log n i = ds at *
        have HI1 := Lib.hid (HI.out ((i : Int) + 1) (by omega))
        generalize idsZ log ((i : Int) + 1) n = ys at *
        go_wp2_with fail
        refine (HI1.out wr (HB.out.trans (B2.out.mono hB)) (Nat.le_trans hB B2.out.size)).mono ?_
        rintro e w2 ⟨vi, rfl, hOi, hb2⟩
        obtain ⟨a8, c8, rfl⟩ := OI.slice hOi
        have O2 := Lib.hid (OI.below HO.out hb2)
        have B3 := Lib.hid (show Below w1.heap.size w1 w2 from belI_step HRr.out hb2)
        have OB := Lib.hid (own_al O2.out (.cells #[.int .i64 (ys.length : Int)] 3))
        have BB := Lib.hid (belI_alloc (o := .cells #[.int .i64 (ys.length : Int)] 3) B3.out)
        have z2 := B3.out.size
        clear hOi hb2 m0 m1 m2 m3 m4 m5 m6 m7 HI1 hil
        go_wp2_with (at_builtin; refine wpList_append_own _ rfl _ _ 50 rfl w1.heap.size 3 i0 (.int .i64 0) 1 8 Tryz.underlying50 hi0 hz0 hz1 hz2 rfl (by decide) _ _ _ rfl OB.out ⟨w2.heap.size, 0, none⟩ 1 1 [.int .i64 (ys.length : Int)] rfl rfl (cell_one_new _ _ _) (one_int _) (by have := HLC.out; unfold maxLen; omega) (by have := HLC.out; omega) (by simp; omega) ?_; intro v' w4 hown' hgrow hplace; have HN := Lib.hid (D.out ▸ oi_snoc hown'); have HB4 := Lib.hid (BB.out.grown hgrow (by simp; omega) (fun g e => (World.ownsRow.lt OB.out g e).1)); obtain ⟨a7, c7, rfl⟩ := own_slice hown'; clear hown' hgrow hplace)
        go_roundw
        case rel => exact ⟨i + 1, by omega, by go_num, HN.out, HB4.out⟩
        case measure => simp [intOf]; omega
      · obtain rfl : i = 7 := by omega
        have HFIN := Lib.hid (show NewIC W R c (.returned (.tuple #[.slice a9 (cfP log n 7).length c9, .int .i64 0])) wr by
          rw [HR0.out, HC0.out]; exact ⟨_, rfl, own_base HO.out B1.out.size, B2.out⟩)
        clear HO hK
        go_wp2
        exact bodyPost_ret (ret_2 Tryz.results30) rfl HFIN.out
  · have cne : (c != 0) = true := by simp [hc0]
    have HFIN := Lib.hid (newIC_mk (W := W) (w := w1) (C := c) (show R = [] by rw [HR.out, if_neg hc0]) rfl B1.out rfl rfl)
    clear HG
    go_wp2
    exact bodyPost_ret (ret_2 Tryz.results30) rfl HFIN.out
/-- what the counts hold behind k records -/
def CF (xs : List En) (k j : Nat) : Value := .int .i64 ((idsZ xs (j : Int) k).length : Int)
theorem CF_step (xs : List En) (k f : Nat) (hf : fateB xs (k : Int) xs.length = (f : Int)) (j : Nat) : (if j = f then Value.int .i64 (((idsZ xs (f : Int) k).length : Int) + 1) else CF xs k j) = CF xs (k + 1) j := by
  unfold CF
  rw [idsZ_step, hf, List.length_append]
  by_cases e : j = f
  · subst e
    rw [if_pos rfl, if_pos rfl]
    congr 1
  · rw [if_neg e, if_neg (by omega)]
    simp
theorem fate_nat {xs : List En} (h : ∀ x ∈ xs, 1 ≤ x.kind ∧ x.kind ≤ 7) (id : Int) : 0 ≤ fateB xs id xs.length ∧ fateB xs id xs.length ≤ 7 := by
  have h1 := fateB_last xs id xs.length (Nat.le_refl _)
  rw [List.take_length] at h1
  have h2 := lastK_in (ofId_all h id)
  rw [← h1] at h2
  omega
set_option maxRecDepth 100000 in
set_option maxHeartbeats 4000000 in
theorem countI_any (B : Nat) (w0 : World) (p : Pp) (u : PV) (h : PpN (· < B) w0 u p) (sm : Sm p) (hlg : p.log.length ≤ 1048576) (W : World) (hb : Below B w0 W) (hB : B ≤ W.heap.size) (hT : Tab W) (hM : MaxL W) :
    Calls Tryz.prog 31 #[pV8 p u] W (NewFC W (cfR p) (asC p)) := by
  obtain ⟨c, hc⟩ : ∃ c, asC p = c := ⟨_, rfl⟩
  have HAS := Lib.hid (fun (W' : World) (hb : Below B w0 W') (hB : B ≤ W'.heap.size) (h2 : Tab W') (h3 : MaxL W') => show Calls Tryz.prog 80 #[pV8 p u] W' (fun e w' => e = .returned (.int .i64 c) ∧ Below W'.heap.size W' w') from hc ▸ askI_any B w0 p u h sm W' hb hB h2 h3)
  have HR := Lib.hid (show cfR p = if asC p = 0 then cfP p.log p.next.toNat 7 else [] from rfl)
  have HG := Lib.hid (show c = 0 → p.next ≤ 4096 ∧ 1 ≤ p.next ∧ ∀ x ∈ p.log, (1 ≤ x.kind ∧ x.kind ≤ 7) ∧ (1 ≤ x.id ∧ x.id ≤ p.next - 1) from fun e => by
    have hh := asC_at (hc.trans e)
    exact ⟨hh.2.1, hh.2.2, pp_log hh.1⟩)
  have HB := Lib.hid hb
  have HT := Lib.hid hT
  have HM := Lib.hid hM
  clear hT hM
  rw [hc] at HR ⊢
  clear hc hb sm
  generalize cfR p = R at *
  obtain ⟨chs, ⟨rp, uris, rules⟩, now, next, log, ws⟩ := p
  obtain ⟨u1, u2, u3, u4, u5⟩ := u
  obtain ⟨h1, h2, h3, h4, h5⟩ := h
  simp only at h1 h2 h3 h4 h5 hlg HR HG
  have HRC := Lib.hid (fun (n : Nat) (e : next = (n : Int)) (hn : n ≤ 4096) (hx : ∀ x ∈ log, (1 ≤ x.kind ∧ x.kind ≤ 7) ∧ (1 ≤ x.id ∧ x.id ≤ (n : Int) - 1)) W' a b => e ▸ recs_any B w0 log u4 h4 hlg u1 rp u2 u3 now n hn u5 hx W' a b)
  obtain ⟨a1, l1, c1, rfl⟩ := h1.slice
  obtain ⟨a2, l2, c2, rfl⟩ := h2.slice
  obtain ⟨a3, l3, c3, rfl⟩ := h3.slice
  obtain ⟨a4, l4, c4, rfl⟩ := h4.slice
  obtain ⟨a5, l5, c5, rfl⟩ := h5.slice
  clear h1 h2 h3 h4 h5
  have BA := Lib.hid ((Below.refl W.heap.size W).alloc (Nat.le_refl _) (.cells #[.slice a1 l1 c1, .string ⟨rp.toArray⟩, .slice a2 l2 c2, .slice a3 l3 c3, .int .i64 now, .int .i64 next, .slice a4 l4 c4, .slice a5 l5 c5] 41))
  have K := Lib.hid (Hd.new W (.cells #[.slice a1 l1 c1, .string ⟨rp.toArray⟩, .slice a2 l2 c2, .slice a3 l3 c3, .int .i64 now, .int .i64 next, .slice a4 l4 c4, .slice a5 l5 c5] 41))
  go_enter Tryz.func31, Tryz.ntmps31
  go_wp2_with fail
  refine (HAS.out _ (HB.out.trans (BA.out.mono hB)) (Nat.le_trans hB BA.out.size) (HT.out.below BA.out) (HM.out.below BA.out)).mono ?_
  rintro e w1 ⟨rfl, hb1⟩
  have B1 := Lib.hid (belI_step BA.out hb1)
  have K1 := Lib.hid (K.out.blw hb1)
  clear hb1 K BA
  by_cases hc0 : c = 0
  · have cne : (c != 0) = false := by simp [hc0]
    have hg := HG.out hc0
    obtain ⟨n, hn⟩ : ∃ n : Nat, next = (n : Int) := ⟨next.toNat, by omega⟩
    have HR0 := Lib.hid (show R = cfP log n 7 by rw [HR.out, if_pos hc0, hn]; rfl)
    have HC0 := Lib.hid hc0
    have hn4 : n ≤ 4096 := by omega
    have hgl := hg.2.2
    rw [hn] at hgl
    have HRC1 := Lib.hid (HRC.out n hn hn4 hgl)
    have HFN := Lib.hid (fate_nat (xs := log) (fun x hx => (hgl x hx).1))
    obtain ⟨x1, hx1⟩ : ∃ x1, x1 = w1.alloc (.cells #[.int .i64 0, .int .i64 0, .int .i64 0, .int .i64 0, .int .i64 0, .int .i64 0, .int .i64 0, .int .i64 0] 124) := ⟨_, rfl⟩
    have CR := Lib.hid (show x1.rowIs w1.heap.size 124 8 (CF log 0) by
      rw [hx1]
      refine ⟨_, heap_alloc_new _ _, rfl, fun i hi => ?_⟩
      rcases (show i = 0 ∨ i = 1 ∨ i = 2 ∨ i = 3 ∨ i = 4 ∨ i = 5 ∨ i = 6 ∨ i = 7 by omega) with rfl | rfl | rfl | rfl | rfl | rfl | rfl | rfl <;> rfl)
    have BX := Lib.hid (show Below W.heap.size W x1 by rw [hx1]; exact belI_alloc B1.out)
    have KX := Lib.hid (show Hd x1 W.heap.size (.cells #[.slice a1 l1 c1, .string ⟨rp.toArray⟩, .slice a2 l2 c2, .slice a3 l3 c3, .int .i64 now, .int .i64 next, .slice a4 l4 c4, .slice a5 l5 c5] 41) by rw [hx1]; exact K1.out.al _)
    have hcz : W.heap.size ≤ w1.heap.size := B1.out.size
    have kk := KX.out
    have m0 := cell_of_row x1 W.heap.size 0 _ _ _ kk
    have m1 := cell_of_row x1 W.heap.size 1 _ _ _ kk
    have m2 := cell_of_row x1 W.heap.size 2 _ _ _ kk
    have m3 := cell_of_row x1 W.heap.size 3 _ _ _ kk
    have m4 := cell_of_row x1 W.heap.size 4 _ _ _ kk
    have m5 := cell_of_row x1 W.heap.size 5 _ _ _ kk
    have m6 := cell_of_row x1 W.heap.size 6 _ _ _ kk
    have m7 := cell_of_row x1 W.heap.size 7 _ _ _ kk
    clear kk HG HRC hg hc0 hn hgl
    go_upto_region 5 with fail
    rw [← hx1]
    clear hx1
    go_wp2_with fail
    refine (HRC1.out x1 (HB.out.trans (BX.out.mono hB)) (Nat.le_trans hB BX.out.size)).mono ?_
    rintro e w2 ⟨g, hgW, rfl, hrow, hb2⟩
    have hgc : g ≠ w1.heap.size := by have := CR.out.lt; omega
    have R2 := Lib.hid hrow
    have C2 := Lib.hid (CR.out.of_block (hb2.block _ CR.out.lt))
    have B2 := Lib.hid (belI_step BX.out hb2)
    clear hrow hb2 m0 m1 m2 m3 m4 m5 m6 m7 CR
    go_wp2
    go_loopw [16] (fun iv wr => ∃ k : Nat, k ≤ n ∧ iv = .int .i64 k ∧ wr.rowIs w1.heap.size 124 8 (CF log k) ∧ wr.rowIs g 126 (n * 9) (RF log log.length) ∧ Below W.heap.size W wr) (fun iv _ => n - (intOf iv).toNat)
    case atStart => exact ⟨0, by omega, rfl, C2.out, R2.out, B2.out⟩
    case round =>
      obtain ⟨k, hk, rfl, hC, hr, hRr⟩ := hrel
      have HRr := Lib.hid hRr
      clear hRr
      by_cases hlt : k < n
      · obtain ⟨q0, q1, q2, q3, q4, q5, q6, q7, q8⟩ := rec_cells hr hlt
        have hfn := HFN.out (k : Int)
        obtain ⟨f, hf⟩ : ∃ f : Nat, fateB log (k : Int) log.length = (f : Int) := ⟨(fateB log (k : Int) log.length).toNat, by omega⟩
        have hf8 : f < 8 := by omega
        have ST := Lib.hid (CF_step log k f hf)
        have hil := idsZ_len log (f : Int) k
        have eC : CF log k f = .int .i64 ((idsZ log (f : Int) k).length : Int) := rfl
        rw [hf] at q0
        generalize (idsZ log (f : Int) k).length = cn at *
        generalize cntB log (k : Int) 0 log.length = y0 at *
        generalize cntB log (k : Int) 1 log.length = y1 at *
        generalize cntB log (k : Int) 2 log.length = y2 at *
        generalize cntB log (k : Int) 3 log.length = y3 at *
        generalize cntB log (k : Int) 4 log.length = y4 at *
        generalize cntB log (k : Int) 5 log.length = y5 at *
        generalize cntB log (k : Int) 6 log.length = y6 at *
        generalize cntB log (k : Int) 7 log.length = y7 at *
        obtain ⟨wa, hwa⟩ : ∃ wa, wa = wr.alloc (.cells #[.int .i64 (f : Int), .int .i64 y0, .int .i64 y1, .int .i64 y2, .int .i64 y3, .int .i64 y4, .int .i64 y5, .int .i64 y6, .int .i64 y7] 126) := ⟨_, rfl⟩
        have BW := Lib.hid (show Below W.heap.size W wa by rw [hwa]; exact belI_alloc HRr.out)
        have CW := Lib.hid (show wa.rowIs w1.heap.size 124 8 (CF log k) by rw [hwa]; exact hC.of_block (heap_alloc_old _ _ hC.lt))
        have RW := Lib.hid (show wa.rowIs g 126 (n * 9) (RF log log.length) by rw [hwa]; exact hr.of_block (heap_alloc_old _ _ hr.lt))
        have x0 := cell_of_row wa wr.heap.size 0 _ _ _ (show Hd wa wr.heap.size _ by rw [hwa]; exact Hd.new wr _)
        have p0 := CW.out.cell (i := f) (by omega)
        rw [eC] at p0
        have pf := CW.out.frozen
        have HN := Lib.hid ((CW.out.set f (.int .i64 ((cn : Int) + 1))).congr (g := CF log (k + 1)) (fun j _ => ST.out j))
        have RN := Lib.hid (show (wa.setCell ⟨w1.heap.size, f, none⟩ (.int .i64 ((cn : Int) + 1))).rowIs g 126 (n * 9) (RF log log.length) from RW.out.of_block (heap_setCell_other _ ⟨w1.heap.size, f, none⟩ g _ hgc))
        have BN := Lib.hid (BW.out.setCell (p := ⟨w1.heap.size, f, none⟩) hcz (.int .i64 ((cn : Int) + 1)))
        clear ST eC hC hr hf hfn CW RW BW
        go_upto_region 8 with fail
        rw [← hwa]
        clear hwa
        go_wp2
        go_roundw
        case rel => exact ⟨k + 1, by omega, by go_num, HN.out, RN.out, BN.out⟩
        case measure => simp [intOf]; omega
      · obtain rfl : k = n := by omega
        have HFIN := Lib.hid (show NewFC W R c (.returned (.tuple #[.slice (some ⟨w1.heap.size, 1, none⟩) 7 7, .int .i64 0])) wr by
          rw [HR0.out, HC0.out]
          refine ⟨_, rfl, ⟨some ⟨w1.heap.size, 1, none⟩, 7, w1.heap.size, 1, by rw [cfP_len], by rw [cfP_len]; omega, by omega, fun _ => ⟨rfl, hcz, hC.lt, cl_row hC⟩, fun i hi => ?_⟩, HRr.out⟩
          rw [cfP_len] at hi
          rw [hC.cell (by omega)]
          simp only [CF, cfP]
          congr 2
          simp [hi, Nat.add_comm])
        clear hC hr
        go_wp2
        exact bodyPost_ret (ret_2 Tryz.results31) rfl HFIN.out
  · have cne : (c != 0) = true := by simp [hc0]
    have HFIN := Lib.hid (show NewFC W R c (.returned (.tuple #[.slice none 0 0, .int .i64 c])) w1 by
      rw [HR.out, if_neg hc0]
      exact ⟨_, rfl, ⟨none, 0, 0, 0, rfl, by simp, by simp, by simp, by simp⟩, B1.out⟩)
    clear HG
    go_wp2
    exact bodyPost_ret (ret_2 Tryz.results31) rfl HFIN.out
end Go.Proofs.YtmaknkbmilcanaaGreatDoor.Ft
