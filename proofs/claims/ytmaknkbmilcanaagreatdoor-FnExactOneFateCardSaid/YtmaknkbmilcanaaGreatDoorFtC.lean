
/-
  IdsOf and EntriesOf of the model and of the program, walked. (Made by fta.py.)
-/
import Derived.Test.YtmaknkbmilcanaaGreatDoorFtB
import Derived.Test.YtmaknkbmilcanaaGreatDoorFtF
namespace Go.Proofs.YtmaknkbmilcanaaGreatDoor.Ft
open Go.RowKit
open Go.Proofs.YtmaknkbmilcanaaGreatDoor.Tx (TxtsIn ret_b)
open Go.Proofs.YtmaknkbmilcanaaGreatDoor.Gr (Tg Gp TgIn ret_i)
open Go.Proofs.YtmaknkbmilcanaaGreatDoor.Pe (Pr PrIn)
open Go.Proofs.YtmaknkbmilcanaaGreatDoor.Qu (Rep Q RpIn IntsIn OI Hd intV)
open Go.Proofs.YtmaknkbmilcanaaGreatDoor.Po (Pl RlIn)
open Go.Proofs.YtmaknkbmilcanaaGreatDoor.Gr (belI_step belI_alloc)
open Go.Proofs.YtmaknkbmilcanaaGreatDoor.Pi (Cn En Wi Pp EnIn WiIn CnIn PpN PV pV8 ppV eV)
open Go.Proofs.YtmaknkbmilcanaaGreatDoor.Ul (Tab MaxL in_any)
open Go.Proofs.YtmaknkbmilcanaaGreatDoor.Pi (Sm ppB)
open Go.Proofs.YtmaknkbmilcanaaGreatDoor.Mk (below_grownBy own_slice own_base)

/-- the code of a look at every Id -/
def asC (p : Pp) : Int := if ppB p = true then (if 4096 < p.next then 6 else 0) else 1
def kC (p : Pp) (kd : Int) : Int := if asC p = 0 then (if 1 ≤ kd ∧ kd ≤ 7 then 0 else 9) else asC p
def kR (p : Pp) (kd : Int) : List Int := if kC p kd = 0 then idsZ p.log kd p.next.toNat else []
def enCo (p : Pp) : Int := if ppB p = true then 0 else 1
def enR (p : Pp) (id : Int) : List En := if ppB p = true then ofId p.log id else []
def NewIC (W : World) (R : List Int) (C : Int) (e : Ending) (w' : World) : Prop := ∃ v, e = .returned (.tuple #[v, .int .i64 C]) ∧ OI w' W.heap.size v R ∧ Below W.heap.size W w'
def NewEC (W : World) (R : List En) (C : Int) (e : Ending) (w' : World) : Prop := ∃ v, e = .returned (.tuple #[v, .int .i64 C]) ∧ OE w' W.heap.size v R ∧ Below W.heap.size W w'
theorem newIC_nil {W w' : World} {R : List Int} {C D : Int} (hR : R = []) (hC : C = D) (hb : Below W.heap.size W w') : NewIC W R C (.returned (.tuple #[.slice none 0 0, .int .i64 D])) w' := by
  subst hR hC; exact ⟨_, rfl, OI.nil _ _, hb⟩
theorem newIC_mk {W w w' : World} {R : List Int} {C D : Int} {n : Nat} (hR : R = []) (hC : C = D) (hb : Below W.heap.size W w) (hn : n = w.heap.size) (hw : w' = w.alloc (.cells #[] 3)) : NewIC W R C (.returned (.tuple #[.slice (some ⟨n, 0, none⟩) 0 0, .int .i64 D])) w' := by
  subst hR hC hn hw; exact ⟨_, rfl, own_base (OI_made w) hb.size, belI_alloc hb⟩
theorem newEC_nil {W w' : World} {R : List En} {C D : Int} (hR : R = []) (hC : C = D) (hb : Below W.heap.size W w') : NewEC W R C (.returned (.tuple #[.slice none 0 0, .int .i64 D])) w' := by
  subst hR hC; exact ⟨_, rfl, OE.nil _ _, hb⟩
theorem newEC_mk {W w w' : World} {R : List En} {C D : Int} {n : Nat} (hR : R = []) (hC : C = D) (hb : Below W.heap.size W w) (hn : n = w.heap.size) (hw : w' = w.alloc (.cells #[] 107)) : NewEC W R C (.returned (.tuple #[.slice (some ⟨n, 0, none⟩) 0 0, .int .i64 D])) w' := by
  subst hR hC hn hw; exact ⟨_, rfl, own_base (OE.made w) hb.size, belI_alloc hb⟩
theorem asC_at {p : Pp} (h : asC p = 0) : ppB p = true ∧ p.next ≤ 4096 ∧ 1 ≤ p.next := by
  unfold asC at h
  split at h
  · rename_i hp
    split at h
    · omega
    · refine ⟨hp, by omega, ?_⟩
      simp only [ppB, Bool.and_eq_true, decide_eq_true_eq] at hp
      exact hp.2.1.1
  · omega
theorem fate_zero {xs : List En} (h : ∀ x ∈ xs, 1 ≤ x.id) : fateB xs 0 xs.length = 0 :=
  fate_none _ fun j hj => by have := h _ (getD_mem hj); omega
set_option maxRecDepth 100000 in
set_option maxHeartbeats 4000000 in
theorem askS_any (B : Nat) (w0 : World) (p : Pp) (u : PV) (h : PpN (· < B) w0 u p) (sm : Sm p) (W : World) (hb : Below B w0 W) (hB : B ≤ W.heap.size) :
    Calls Tryz.prog 77 #[pV8 p u] W fun e w' => e = .returned (.int .i64 (asC p)) ∧ Below W.heap.size W w' := by
  obtain ⟨r, hr⟩ : ∃ r, ppB p = r := ⟨_, rfl⟩
  have HOK := Lib.hid (fun (W' : World) (hb : Below B w0 W') (hB : B ≤ W'.heap.size) => show Calls Tryz.prog 61 #[pV8 p u] W' (fun e w' => e = .returned (.bool r) ∧ Below W'.heap.size W' w') from by subst hr; exact Pi.ok08_any B w0 p u h sm W' hb hB)
  have HC := Lib.hid (show asC p = if r = true then (if 4096 < p.next then 6 else 0) else 1 by subst hr; rfl)
  have HB := Lib.hid hb
  clear hr hb sm
  generalize asC p = C at *
  obtain ⟨chs, ⟨rp, uris, rules⟩, now, next, log, ws⟩ := p
  obtain ⟨u1, u2, u3, u4, u5⟩ := u
  obtain ⟨h1, h2, h3, h4, h5⟩ := h
  simp only at h1 h2 h3 h4 h5 HC
  obtain ⟨a1, l1, c1, rfl⟩ := h1.slice
  obtain ⟨a2, l2, c2, rfl⟩ := h2.slice
  obtain ⟨a3, l3, c3, rfl⟩ := h3.slice
  obtain ⟨a4, l4, c4, rfl⟩ := h4.slice
  obtain ⟨a5, l5, c5, rfl⟩ := h5.slice
  clear h1 h2 h3 h4 h5
  have BA := Lib.hid ((Below.refl W.heap.size W).alloc (Nat.le_refl _) (.cells #[.slice a1 l1 c1, .string ⟨rp.toArray⟩, .slice a2 l2 c2, .slice a3 l3 c3, .int .i64 now, .int .i64 next, .slice a4 l4 c4, .slice a5 l5 c5] 41))
  have K := Lib.hid (Hd.new W (.cells #[.slice a1 l1 c1, .string ⟨rp.toArray⟩, .slice a2 l2 c2, .slice a3 l3 c3, .int .i64 now, .int .i64 next, .slice a4 l4 c4, .slice a5 l5 c5] 41))
  go_enter Tryz.func77, Tryz.ntmps77
  go_wp2_with fail
  refine (HOK.out _ (HB.out.trans (BA.out.mono hB)) (Nat.le_trans hB BA.out.size)).mono ?_
  rintro e w1 ⟨rfl, hb1⟩
  have B1 := Lib.hid (belI_step BA.out hb1)
  have K1 := Lib.hid (K.out.blw hb1)
  clear hb1 K BA
  cases r
  · have HZ := Lib.hid (show C = 1 by rw [HC.out]; rfl)
    go_wp2
    go_ret
    exact ⟨ret_i HZ.out.symm, B1.out⟩
  · have m5 := cell_of_row w1 W.heap.size 5 _ _ _ K1.out
    by_cases h4 : 4096 < next
    · have HZ := Lib.hid (show C = 6 by rw [HC.out, if_pos rfl, if_pos h4])
      go_wp2
      go_ret
      exact ⟨ret_i HZ.out.symm, B1.out⟩
    · have HZ := Lib.hid (show C = 0 by rw [HC.out, if_pos rfl, if_neg h4])
      go_wp2
      go_ret
      exact ⟨ret_i HZ.out.symm, B1.out⟩
set_option maxRecDepth 100000 in
set_option maxHeartbeats 4000000 in
theorem askI_any (B : Nat) (w0 : World) (p : Pp) (u : PV) (h : PpN (· < B) w0 u p) (sm : Sm p) (W : World) (hb : Below B w0 W) (hB : B ≤ W.heap.size) (hT : Tab W) (hM : MaxL W) :
    Calls Tryz.prog 80 #[pV8 p u] W fun e w' => e = .returned (.int .i64 (asC p)) ∧ Below W.heap.size W w' := by
  obtain ⟨r, hr⟩ : ∃ r, ppB p = r := ⟨_, rfl⟩
  have HOK := Lib.hid (fun (W' : World) (hb : Below B w0 W') (hB : B ≤ W'.heap.size) (h2 : Tab W') (h3 : MaxL W') => show Calls Tryz.prog 67 #[pV8 p u] W' (fun e w' => e = .returned (.bool r) ∧ Below W'.heap.size W' w') from by subst hr; exact Pi.ppI_any B w0 p u h sm W' hb hB h2 h3)
  have HC := Lib.hid (show asC p = if r = true then (if 4096 < p.next then 6 else 0) else 1 by subst hr; rfl)
  have HB := Lib.hid hb
  have HT := Lib.hid hT
  have HM := Lib.hid hM
  clear hr hb hT hM sm
  generalize asC p = C at *
  obtain ⟨chs, ⟨rp, uris, rules⟩, now, next, log, ws⟩ := p
  obtain ⟨u1, u2, u3, u4, u5⟩ := u
  obtain ⟨h1, h2, h3, h4, h5⟩ := h
  simp only at h1 h2 h3 h4 h5 HC
  obtain ⟨a1, l1, c1, rfl⟩ := h1.slice
  obtain ⟨a2, l2, c2, rfl⟩ := h2.slice
  obtain ⟨a3, l3, c3, rfl⟩ := h3.slice
  obtain ⟨a4, l4, c4, rfl⟩ := h4.slice
  obtain ⟨a5, l5, c5, rfl⟩ := h5.slice
  clear h1 h2 h3 h4 h5
  have BA := Lib.hid ((Below.refl W.heap.size W).alloc (Nat.le_refl _) (.cells #[.slice a1 l1 c1, .string ⟨rp.toArray⟩, .slice a2 l2 c2, .slice a3 l3 c3, .int .i64 now, .int .i64 next, .slice a4 l4 c4, .slice a5 l5 c5] 41))
  have K := Lib.hid (Hd.new W (.cells #[.slice a1 l1 c1, .string ⟨rp.toArray⟩, .slice a2 l2 c2, .slice a3 l3 c3, .int .i64 now, .int .i64 next, .slice a4 l4 c4, .slice a5 l5 c5] 41))
  go_enter Tryz.func80, Tryz.ntmps80
  go_wp2_with fail
  refine (HOK.out _ (HB.out.trans (BA.out.mono hB)) (Nat.le_trans hB BA.out.size) (HT.out.below BA.out) (HM.out.below BA.out)).mono ?_
  rintro e w1 ⟨rfl, hb1⟩
  have B1 := Lib.hid (belI_step BA.out hb1)
  have K1 := Lib.hid (K.out.blw hb1)
  clear hb1 K BA
  cases r
  · have HZ := Lib.hid (show C = 1 by rw [HC.out]; rfl)
    go_wp2
    go_ret
    exact ⟨ret_i HZ.out.symm, B1.out⟩
  · have m5 := cell_of_row w1 W.heap.size 5 _ _ _ K1.out
    by_cases h4 : 4096 < next
    · have HZ := Lib.hid (show C = 6 by rw [HC.out, if_pos rfl, if_pos h4])
      go_wp2
      go_ret
      exact ⟨ret_i HZ.out.symm, B1.out⟩
    · have HZ := Lib.hid (show C = 0 by rw [HC.out, if_pos rfl, if_neg h4])
      go_wp2
      go_ret
      exact ⟨ret_i HZ.out.symm, B1.out⟩

set_option maxRecDepth 100000 in
set_option maxHeartbeats 4000000 in
theorem idsS_any (B : Nat) (w0 : World) (xs : List En) (u : Value) (h : EnIn (· < B) w0 u xs) (cv : Value) (rp : List UInt8) (uv rv : Value) (now : Int) (n : Nat) (hn : n ≤ 4096) (hn1 : 1 ≤ n) (wv : Value) (kd : Int) (h0 : fateB xs 0 xs.length ≠ kd) (W : World) (hb : Below B w0 W) (hB : B ≤ W.heap.size) :
    Calls Tryz.prog 79 #[rawP cv rp uv rv now (n : Int) u wv, .int .i64 kd] W (NewI W (idsZ xs kd n)) := by
  have HF := Lib.hid (fun (id : Int) W' a b => fateS_any B w0 xs u h cv rp uv rv now (n : Int) wv id W' a b)
  obtain ⟨a, l, c, rfl⟩ := h.slice
  have HB := Lib.hid hb
  have e1 : idsZ xs kd 1 = [] := by rw [idsZ_step]; simp [idsZ, h0]
  clear h hb h0
  obtain ⟨i0, hi0, hz0, hz1, hz2⟩ := info_parts Pi.Tryz.infoInt
  obtain ⟨W1, hW1⟩ : ∃ W1, W1 = W.alloc (.cells #[cv, .string ⟨rp.toArray⟩, uv, rv, .int .i64 now, .int .i64 (n : Int), .slice a l c, wv] 41) := ⟨_, rfl⟩
  have B1 := Lib.hid (show Below W.heap.size W W1 by rw [hW1]; exact (Below.refl W.heap.size W).alloc (Nat.le_refl _) _)
  have K1 := Lib.hid (show Hd W1 W.heap.size (.cells #[cv, .string ⟨rp.toArray⟩, uv, rv, .int .i64 now, .int .i64 (n : Int), .slice a l c, wv] 41) by rw [hW1]; exact Hd.new W _)
  have BA := Lib.hid (belI_alloc (o := .cells #[] 3) B1.out)
  have K := Lib.hid (K1.out.al (.cells #[] 3))
  have O0 := Lib.hid (show OI (W1.alloc (.cells #[] 3)) (W.heap.size + 1) (.slice (some ⟨W1.heap.size, 0, none⟩) 0 0) (idsZ xs kd 1) from by rw [e1]; exact own_base (OI_made W1) (K1.out.lt))
  clear e1
  go_enter Tryz.func79, Tryz.ntmps79
  go_upto_region 1 with fail
  rw [← hW1]
  clear hW1
  go_wp2
  go_loopw [5, 6] (fun v i wr => ∃ k : Nat, k ≤ n ∧ i = .int .i64 k ∧ OI wr (W.heap.size + 1) v (idsZ xs kd k) ∧ Hd wr W.heap.size (.cells #[cv, .string ⟨rp.toArray⟩, uv, rv, .int .i64 now, .int .i64 (n : Int), .slice a l c, wv] 41) ∧ Below W.heap.size W wr) (fun _ i _ => n - (intOf i).toNat)
  case atStart => exact ⟨1, hn1, rfl, O0.out, K.out, BA.out⟩
  case round =>
    obtain ⟨k, hk, rfl, hO, hK, hR⟩ := hrel
    have HR := Lib.hid hR
    have HK := Lib.hid hK
    have HO := Lib.hid hO
    clear hR hO
    have m0 := cell_of_row wr W.heap.size 0 _ _ _ hK
    have m1 := cell_of_row wr W.heap.size 1 _ _ _ hK
    have m2 := cell_of_row wr W.heap.size 2 _ _ _ hK
    have m3 := cell_of_row wr W.heap.size 3 _ _ _ hK
    have m4 := cell_of_row wr W.heap.size 4 _ _ _ hK
    have m5 := cell_of_row wr W.heap.size 5 _ _ _ hK
    have m6 := cell_of_row wr W.heap.size 6 _ _ _ hK
    have m7 := cell_of_row wr W.heap.size 7 _ _ _ hK
    clear hK
    obtain ⟨a5, c5, rfl⟩ := OI.slice HO.out
    by_cases hlt : k < n
    · have hkI : (k : Int) < (n : Int) := by omega
      have D := Lib.hid (idsZ_step xs kd k)
      have hln := idsZ_len xs kd k
      generalize idsZ xs kd k = ds at *
      have HF1 := Lib.hid (HF.out (k : Int))
      generalize fateB xs (k : Int) xs.length = f at *
      go_wp2_with fail
      refine (HF1.out wr (HB.out.trans (HR.out.mono hB)) (Nat.le_trans hB HR.out.size)).mono ?_
      rintro e w2 ⟨rfl, hb2⟩
      have B2 := Lib.hid (belI_step HR.out hb2)
      have K2 := Lib.hid (HK.out.blw hb2)
      have O2 := Lib.hid (OI.below HO.out hb2)
      clear hb2 m0 m1 m2 m3 m4 m5 m6 m7 HF1
      by_cases he : f = kd
      · subst he
        have he1 : (f == f) = true := by simp
        have F := Lib.hid (show idsZ xs f (k + 1) = ds ++ [(k : Int)] by rw [D.out, if_pos rfl])
        have OB := Lib.hid (own_al O2.out (.cells #[.int .i64 (k : Int)] 3))
        have BB := Lib.hid (belI_alloc (o := .cells #[.int .i64 (k : Int)] 3) B2.out)
        have KB := Lib.hid (K2.out.al (.cells #[.int .i64 (k : Int)] 3))
        have z2 := K2.out.lt
        clear D
        go_wp2_with (at_builtin; refine wpList_append_own _ rfl _ _ 50 rfl (W.heap.size + 1) 3 i0 (.int .i64 0) 1 8 Tryz.underlying50 hi0 hz0 hz1 hz2 rfl (by decide) _ _ _ rfl OB.out ⟨w2.heap.size, 0, none⟩ 1 1 [.int .i64 (k : Int)] rfl rfl (cell_one_new _ _ _) (one_int _) (by unfold maxLen; omega) (by omega) (by simp; omega) ?_; intro v' w4 hown' hgrow hplace; have HN := Lib.hid (F.out ▸ oi_snoc hown'); have HB4 := Lib.hid (BB.out.grown hgrow (by simp; omega) (fun g e => by have := (World.ownsRow.lt OB.out g e).1; omega)); have K4 := Lib.hid (KB.out.grown hgrow (fun e => by have := (World.ownsRow.lt OB.out _ e.symm).1; omega)); obtain ⟨a7, c7, rfl⟩ := own_slice hown'; clear hown' hgrow hplace)
        go_roundw
        case rel => exact ⟨k + 1, by omega, by go_num, HN.out, K4.out, HB4.out⟩
        case measure => simp [intOf]; omega
      · have he1 : (f == kd) = false := by simp [he]
        have F := Lib.hid (show idsZ xs kd (k + 1) = ds by rw [D.out, if_neg he, List.append_nil])
        clear D
        go_wp2
        go_roundw
        case rel => exact ⟨k + 1, by omega, by go_num, by rw [F.out]; exact O2.out, K2.out, B2.out⟩
        case measure => simp [intOf]; omega
    · obtain rfl : k = n := by omega
      have hkI : ¬ ((k : Int) < (k : Int)) := by omega
      have HF := Lib.hid (show NewI W (idsZ xs kd k) (.returned (.slice a5 (idsZ xs kd k).length c5)) wr from ⟨_, rfl, own_base HO.out (Nat.le_succ _), HR.out⟩)
      clear HO
      go_wp2
      go_ret
      exact HF.out
set_option maxRecDepth 100000 in
set_option maxHeartbeats 4000000 in
theorem idsOfS_any (B : Nat) (w0 : World) (p : Pp) (u : PV) (h : PpN (· < B) w0 u p) (sm : Sm p) (hlg : p.log.length ≤ 1048576) (kd : Int) (W : World) (hb : Below B w0 W) (hB : B ≤ W.heap.size) :
    Calls Tryz.prog 25 #[pV8 p u, .int .i64 kd] W (NewIC W (kR p kd) (kC p kd)) := by
  obtain ⟨c, hc⟩ : ∃ c, asC p = c := ⟨_, rfl⟩
  have HAS := Lib.hid (fun (W' : World) (hb : Below B w0 W') (hB : B ≤ W'.heap.size) => show Calls Tryz.prog 77 #[pV8 p u] W' (fun e w' => e = .returned (.int .i64 c) ∧ Below W'.heap.size W' w') from hc ▸ askS_any B w0 p u h sm W' hb hB)
  have HC := Lib.hid (show kC p kd = if c = 0 then (if 1 ≤ kd ∧ kd ≤ 7 then 0 else 9) else c by subst hc; rfl)
  have HR := Lib.hid (show kR p kd = if kC p kd = 0 then idsZ p.log kd p.next.toNat else [] from rfl)
  have HG := Lib.hid (show c = 0 → p.next ≤ 4096 ∧ 1 ≤ p.next ∧ ∀ x ∈ p.log, (1 ≤ x.kind ∧ x.kind ≤ 7) ∧ (1 ≤ x.id ∧ x.id ≤ p.next - 1) from fun e => by
    have hh := asC_at (hc.trans e)
    exact ⟨hh.2.1, hh.2.2, pp_log hh.1⟩)
  have HB := Lib.hid hb
  clear hc hb sm
  generalize kC p kd = C at *
  generalize kR p kd = R at *
  obtain ⟨chs, ⟨rp, uris, rules⟩, now, next, log, ws⟩ := p
  obtain ⟨u1, u2, u3, u4, u5⟩ := u
  obtain ⟨h1, h2, h3, h4, h5⟩ := h
  simp only at h1 h2 h3 h4 h5 hlg HR HG
  have H4 := Lib.hid h4
  have HID := Lib.hid (fun (n : Nat) (e : next = (n : Int)) (hn : n ≤ 4096) (hn1 : 1 ≤ n) (h0 : fateB log 0 log.length ≠ kd) W' a b => e ▸ idsS_any B w0 log u4 h4 u1 rp u2 u3 now n hn hn1 u5 kd h0 W' a b)
  obtain ⟨a1, l1, c1, rfl⟩ := h1.slice
  obtain ⟨a2, l2, c2, rfl⟩ := h2.slice
  obtain ⟨a3, l3, c3, rfl⟩ := h3.slice
  obtain ⟨a4, l4, c4, rfl⟩ := h4.slice
  obtain ⟨a5, l5, c5, rfl⟩ := h5.slice
  clear h1 h2 h3 h4 h5
  have BA := Lib.hid ((Below.refl W.heap.size W).alloc (Nat.le_refl _) (.cells #[.slice a1 l1 c1, .string ⟨rp.toArray⟩, .slice a2 l2 c2, .slice a3 l3 c3, .int .i64 now, .int .i64 next, .slice a4 l4 c4, .slice a5 l5 c5] 41))
  have K := Lib.hid (Hd.new W (.cells #[.slice a1 l1 c1, .string ⟨rp.toArray⟩, .slice a2 l2 c2, .slice a3 l3 c3, .int .i64 now, .int .i64 next, .slice a4 l4 c4, .slice a5 l5 c5] 41))
  go_enter Tryz.func25, Tryz.ntmps25
  go_wp2_with fail
  refine (HAS.out _ (HB.out.trans (BA.out.mono hB)) (Nat.le_trans hB BA.out.size)).mono ?_
  rintro e w1 ⟨rfl, hb1⟩
  have B1 := Lib.hid (belI_step BA.out hb1)
  have K1 := Lib.hid (K.out.blw hb1)
  clear hb1 K BA
  by_cases hc0 : c = 0
  · have c1 : (c != 0) = false := by simp [hc0]
    have hg := HG.out hc0
    have HF := Lib.hid (fun W' => show Calls Tryz.prog 78 #[.int .i64 kd, .int .i64 1, .int .i64 7] W' (fun e w' => e = .returned (.bool (decide (1 ≤ kd ∧ kd ≤ 7))) ∧ W' = w') from in_any kd 1 7 W')
    by_cases hk : 1 ≤ kd ∧ kd ≤ 7
    · rw [decide_eq_true hk] at HF
      have HC0 := Lib.hid (show C = 0 by rw [HC.out, if_pos hc0, if_pos hk])
      obtain ⟨n, hn⟩ : ∃ n : Nat, next = (n : Int) := ⟨next.toNat, by omega⟩
      have HR0 := Lib.hid (show R = idsZ log kd n by rw [HR.out, if_pos HC0.out, hn]; rfl)
      have hn4 : n ≤ 4096 := by omega
      have hn1 : 1 ≤ n := by omega
      have hgl := hg.2.2
      rw [hn] at hgl
      have HID1 := Lib.hid (HID.out n hn hn4 hn1 (by rw [fate_zero (fun x hx => (hgl x hx).2.1)]; omega))
      clear HG hg hgl hk hn
      go_wp2_with fail
      refine (HF.out _).mono ?_
      rintro e wx ⟨rfl, rfl⟩
      have kk := K1.out
      have m0 := cell_of_row w1 W.heap.size 0 _ _ _ kk
      have m1 := cell_of_row w1 W.heap.size 1 _ _ _ kk
      have m2 := cell_of_row w1 W.heap.size 2 _ _ _ kk
      have m3 := cell_of_row w1 W.heap.size 3 _ _ _ kk
      have m4 := cell_of_row w1 W.heap.size 4 _ _ _ kk
      have m5 := cell_of_row w1 W.heap.size 5 _ _ _ kk
      have m6 := cell_of_row w1 W.heap.size 6 _ _ _ kk
      have m7 := cell_of_row w1 W.heap.size 7 _ _ _ kk
      clear kk
      go_wp2_with fail
      refine (HID1.out w1 (HB.out.trans (B1.out.mono hB)) (Nat.le_trans hB B1.out.size)).mono ?_
      rintro e w3 ⟨v, rfl, hO, hb3⟩
      have HFIN := Lib.hid (show NewIC W R C (.returned (.tuple #[v, .int .i64 0])) w3 by
        rw [HC0.out, HR0.out]; exact ⟨_, rfl, own_base hO B1.out.size, belI_step B1.out hb3⟩)
      obtain ⟨a9, c9, rfl⟩ := OI.slice hO
      clear hb3 hO
      go_wp2
      exact bodyPost_ret (ret_2 Tryz.results25) rfl HFIN.out
    · rw [decide_eq_false hk] at HF
      have HC0 := Lib.hid (show C = 9 by rw [HC.out, if_pos hc0, if_neg hk])
      have HR0 := Lib.hid (show R = [] by rw [HR.out, if_neg (by rw [HC0.out]; decide)])
      have HFIN := Lib.hid (newIC_mk (W := W) (w := w1) HR0.out HC0.out B1.out rfl rfl)
      clear HG hg hk
      go_wp2_with fail
      refine (HF.out _).mono ?_
      rintro e wx ⟨rfl, rfl⟩
      go_wp2
      exact bodyPost_ret (ret_2 Tryz.results25) rfl HFIN.out
  · have c1 : (c != 0) = true := by simp [hc0]
    have HC0 := Lib.hid (show C = c by rw [HC.out, if_neg hc0])
    have HR0 := Lib.hid (show R = [] by rw [HR.out, if_neg (by rw [HC0.out]; exact hc0)])
    have HFIN := Lib.hid (newIC_mk (W := W) (w := w1) HR0.out HC0.out B1.out rfl rfl)
    clear HG
    go_wp2
    exact bodyPost_ret (ret_2 Tryz.results25) rfl HFIN.out
set_option maxRecDepth 100000 in
set_option maxHeartbeats 4000000 in
theorem idsOfI_any (B : Nat) (w0 : World) (p : Pp) (u : PV) (h : PpN (· < B) w0 u p) (sm : Sm p) (hlg : p.log.length ≤ 1048576) (kd : Int) (W : World) (hb : Below B w0 W) (hB : B ≤ W.heap.size) (hT : Tab W) (hM : MaxL W) :
    Calls Tryz.prog 26 #[pV8 p u, .int .i64 kd] W (NewIC W (kR p kd) (kC p kd)) := by
  obtain ⟨c, hc⟩ : ∃ c, asC p = c := ⟨_, rfl⟩
  have HAS := Lib.hid (fun (W' : World) (hb : Below B w0 W') (hB : B ≤ W'.heap.size) (h2 : Tab W') (h3 : MaxL W') => show Calls Tryz.prog 80 #[pV8 p u] W' (fun e w' => e = .returned (.int .i64 c) ∧ Below W'.heap.size W' w') from hc ▸ askI_any B w0 p u h sm W' hb hB h2 h3)
  have HC := Lib.hid (show kC p kd = if c = 0 then (if 1 ≤ kd ∧ kd ≤ 7 then 0 else 9) else c by subst hc; rfl)
  have HR := Lib.hid (show kR p kd = if kC p kd = 0 then idsZ p.log kd p.next.toNat else [] from rfl)
  have HG := Lib.hid (show c = 0 → p.next ≤ 4096 ∧ 1 ≤ p.next ∧ ∀ x ∈ p.log, (1 ≤ x.kind ∧ x.kind ≤ 7) ∧ (1 ≤ x.id ∧ x.id ≤ p.next - 1) from fun e => by
    have hh := asC_at (hc.trans e)
    exact ⟨hh.2.1, hh.2.2, pp_log hh.1⟩)
  have HB := Lib.hid hb
  have HT := Lib.hid hT
  have HM := Lib.hid hM
  clear hT hM
  clear hc hb sm
  generalize kC p kd = C at *
  generalize kR p kd = R at *
  obtain ⟨chs, ⟨rp, uris, rules⟩, now, next, log, ws⟩ := p
  obtain ⟨u1, u2, u3, u4, u5⟩ := u
  obtain ⟨h1, h2, h3, h4, h5⟩ := h
  simp only at h1 h2 h3 h4 h5 hlg HR HG
  have H4 := Lib.hid h4
  have HRC := Lib.hid (fun (n : Nat) (e : next = (n : Int)) (hn : n ≤ 4096) (hx : ∀ x ∈ log, (1 ≤ x.kind ∧ x.kind ≤ 7) ∧ (1 ≤ x.id ∧ x.id ≤ (n : Int) - 1)) W' a b => e ▸ recs_any B w0 log u4 h4 hlg u1 rp u2 u3 now n hn u5 hx W' a b)
  obtain ⟨a1, l1, c1, rfl⟩ := h1.slice
  obtain ⟨a2, l2, c2, rfl⟩ := h2.slice
  obtain ⟨a3, l3, c3, rfl⟩ := h3.slice
  obtain ⟨a4, l4, c4, rfl⟩ := h4.slice
  obtain ⟨a5, l5, c5, rfl⟩ := h5.slice
  clear h1 h2 h3 h4 h5
  have BA := Lib.hid ((Below.refl W.heap.size W).alloc (Nat.le_refl _) (.cells #[.slice a1 l1 c1, .string ⟨rp.toArray⟩, .slice a2 l2 c2, .slice a3 l3 c3, .int .i64 now, .int .i64 next, .slice a4 l4 c4, .slice a5 l5 c5] 41))
  have K := Lib.hid (Hd.new W (.cells #[.slice a1 l1 c1, .string ⟨rp.toArray⟩, .slice a2 l2 c2, .slice a3 l3 c3, .int .i64 now, .int .i64 next, .slice a4 l4 c4, .slice a5 l5 c5] 41))
  go_enter Tryz.func26, Tryz.ntmps26
  go_wp2_with fail
  refine (HAS.out _ (HB.out.trans (BA.out.mono hB)) (Nat.le_trans hB BA.out.size) (HT.out.below BA.out) (HM.out.below BA.out)).mono ?_
  rintro e w1 ⟨rfl, hb1⟩
  have B1 := Lib.hid (belI_step BA.out hb1)
  have K1 := Lib.hid (K.out.blw hb1)
  clear hb1 K BA
  by_cases hc0 : c = 0
  · have c1 : (c != 0) = false := by simp [hc0]
    have hg := HG.out hc0
    have HF := Lib.hid (fun W' => show Calls Tryz.prog 81 #[.int .i64 kd] W' (fun e w' => e = .returned (.bool (decide (1 ≤ kd ∧ kd ≤ 7))) ∧ W' = w') from Pi.fateI_any kd W')
    by_cases hk : 1 ≤ kd ∧ kd ≤ 7
    · rw [decide_eq_true hk] at HF
      have HC0 := Lib.hid (show C = 0 by rw [HC.out, if_pos hc0, if_pos hk])
      obtain ⟨n, hn⟩ : ∃ n : Nat, next = (n : Int) := ⟨next.toNat, by omega⟩
      have HR0 := Lib.hid (show R = idsZ log kd n by rw [HR.out, if_pos HC0.out, hn]; rfl)
      have hn4 : n ≤ 4096 := by omega
      have hn1 : 1 ≤ n := by omega
      have hgl := hg.2.2
      rw [hn] at hgl
      have HRC1 := Lib.hid (HRC.out n hn hn4 hgl)
      have HNX := Lib.hid hn
      clear HG hg hgl hk hn
      go_wp2_with fail
      refine (HF.out _).mono ?_
      rintro e wx ⟨rfl, rfl⟩
      have kk := K1.out
      have m0 := cell_of_row w1 W.heap.size 0 _ _ _ kk
      have m1 := cell_of_row w1 W.heap.size 1 _ _ _ kk
      have m2 := cell_of_row w1 W.heap.size 2 _ _ _ kk
      have m3 := cell_of_row w1 W.heap.size 3 _ _ _ kk
      have m4 := cell_of_row w1 W.heap.size 4 _ _ _ kk
      have m5 := cell_of_row w1 W.heap.size 5 _ _ _ kk
      have m6 := cell_of_row w1 W.heap.size 6 _ _ _ kk
      have m7 := cell_of_row w1 W.heap.size 7 _ _ _ kk
      clear kk
      go_wp2_with fail
      refine (HRC1.out w1 (HB.out.trans (B1.out.mono hB)) (Nat.le_trans hB B1.out.size)).mono ?_
      rintro e w2 ⟨g, hgW, rfl, hrow, hb2⟩
      have B2 := Lib.hid (belI_step B1.out hb2)
      have HI := Lib.hid (idsI_any log g n hn4 kd w2 hrow)
      clear hb2 hrow m0 m1 m2 m3 m4 m5 m6 m7
      go_wp2_with fail
      refine HI.out.mono ?_
      rintro e w3 ⟨v, rfl, hO, hb3⟩
      have HFIN := Lib.hid (show NewIC W R C (.returned (.tuple #[v, .int .i64 0])) w3 by
        rw [HC0.out, HR0.out]; exact ⟨_, rfl, own_base hO B2.out.size, belI_step B2.out hb3⟩)
      obtain ⟨a9, c9, rfl⟩ := OI.slice hO
      clear hb3 hO
      go_wp2
      exact bodyPost_ret (ret_2 Tryz.results26) rfl HFIN.out
    · rw [decide_eq_false hk] at HF
      have HC0 := Lib.hid (show C = 9 by rw [HC.out, if_pos hc0, if_neg hk])
      have HR0 := Lib.hid (show R = [] by rw [HR.out, if_neg (by rw [HC0.out]; decide)])
      have HFIN := Lib.hid (newIC_nil (W := W) (w' := w1) HR0.out HC0.out B1.out)
      clear HG hg hk
      go_wp2_with fail
      refine (HF.out _).mono ?_
      rintro e wx ⟨rfl, rfl⟩
      go_wp2
      exact bodyPost_ret (ret_2 Tryz.results26) rfl HFIN.out
  · have c1 : (c != 0) = true := by simp [hc0]
    have HC0 := Lib.hid (show C = c by rw [HC.out, if_neg hc0])
    have HR0 := Lib.hid (show R = [] by rw [HR.out, if_neg (by rw [HC0.out]; exact hc0)])
    have HFIN := Lib.hid (newIC_nil (W := W) (w' := w1) HR0.out HC0.out B1.out)
    clear HG
    go_wp2
    exact bodyPost_ret (ret_2 Tryz.results26) rfl HFIN.out
end Go.Proofs.YtmaknkbmilcanaaGreatDoor.Ft
