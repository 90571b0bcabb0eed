
/-
  The model's Member, walked: the place of a name, and the answer with what it owns.
-/
import Derived.Test.YtniflfgnelfpbaaJoC
import Derived.Test.YtniflfgnelfpbaaJsOk
namespace Go.Proofs.Ytniflfgnelfpbaa.Js
open Go.RowKit
/-- what l02Member answers: the item as it lies there, or nothing -/
def MemS (W : World) (xs : List J) (vn vi : Nat → Value) (ix : Option Nat) (e : Ending) (w' : World) : Prop :=
  (∃ i, ix = some i ∧ i < xs.length ∧ e = .returned (.tuple #[jV (xs.getD i default) (vn i) (vi i), .bool true]) ∧ Below W.heap.size W w') ∨
  (ix = none ∧ e = .returned (.tuple #[.agg z5, .bool false]) ∧ Below W.heap.size W w')
set_option maxRecDepth 100000 in
set_option maxHeartbeats 2000000 in
theorem memS_any (B : Nat) (w0 : World) (k n : Int) (t : List UInt8) (ns : List (List UInt8)) (xs : List J) (u : List UInt8) (nv : Value) (hN : TxtsIn (· < B) w0 nv ns) (hnl : ns.length = xs.length)
    (a : Option Addr) (cap b off : Nat) (vn vi : Nat → Value) (ha : 0 < xs.length → a = some ⟨b, off, none⟩ ∧ b < B)
    (hc : ∀ i, i < xs.length → w0.cell? ⟨b, off + i * 5, none⟩ = some (.int .i64 (xs.getD i default).kind) ∧ w0.cell? ⟨b, off + i * 5 + 1, none⟩ = some (.int .i64 (xs.getD i default).num) ∧ w0.cell? ⟨b, off + i * 5 + 2, none⟩ = some (.string ⟨(xs.getD i default).text.toArray⟩) ∧ w0.cell? ⟨b, off + i * 5 + 3, none⟩ = some (vn i) ∧ w0.cell? ⟨b, off + i * 5 + 4, none⟩ = some (vi i))
    (hd : ∀ i, i < xs.length → JIn (· < B) w0 (xs.getD i default) (vn i) (vi i)) (W : World) (hb : Below B w0 W) (hB : B ≤ W.heap.size) :
    Calls Try.prog 22 #[.agg #[.int .i64 k, .int .i64 n, .string ⟨t.toArray⟩, nv, .slice a xs.length cap], .string ⟨u.toArray⟩] W (MemS W xs vn vi (atT u 0 ns)) := by
  have HB := Lib.hid hb
  have HC := Lib.hid hc
  have HA := Lib.hid ha
  have HD := Lib.hid hd
  obtain ⟨a', cap', b', off', rfl, hcap', hm', hlen', ha', hc'⟩ := hN
  have HC' := Lib.hid hc'
  have HA' := Lib.hid ha'
  rw [hnl] at hcap' ⊢
  have HNL := Lib.hid hnl
  obtain ⟨W2, hW2⟩ : ∃ W2, (W.alloc (.cells #[.int .i64 k, .int .i64 n, .string ⟨t.toArray⟩, .slice a' xs.length cap', .slice a xs.length cap] 36)).alloc (.cells z5 36) = W2 := ⟨_, rfl⟩
  have HB2 := Lib.hid (show Below W.heap.size W W2 by rw [← hW2]; exact ((Below.refl _ _).alloc (Nat.le_refl _) _).alloc (by simp) _)
  have hZ2 : W2.heap.size = W.heap.size + 2 := by rw [← hW2]; simp
  have k0 : W2.heap[W.heap.size]? = some (.cells #[.int .i64 k, .int .i64 n, .string ⟨t.toArray⟩, .slice a' xs.length cap', .slice a xs.length cap] 36 (0, 0)) := hW2 ▸ alloc2_0 W _ _
  have k1 : W2.heap[W.heap.size + 1]? = some (.cells z5 36 (0, 0)) := hW2 ▸ alloc2_1 W _ _
  have K1 := Lib.hid k1
  obtain ⟨-, -, -, c3, c4, cf⟩ := five_cells k0
  obtain ⟨r0, r1, r2, r3, r4, rf⟩ := five_cells k1
  have hsz : xs.length ≤ 9223372036854775807 := by omega
  obtain ⟨ix, hix⟩ : ∃ ix, atT u 0 ns = ix := ⟨_, rfl⟩
  have HIX := Lib.hid hix
  have HW2 := Lib.hid hW2
  rw [hix]
  clear hb hc ha hd hc' ha' hlen' hnl k0 k1 hix hW2
  go_enter Try.func22, Try.ntmps22
  go_wp2_with fail
  go_loopw [6] (fun i wr => ∃ q : Nat, q ≤ xs.length ∧ i = .int .i64 q ∧ atT u q (ns.drop q) = ix ∧ wr = W2) (fun i _ => xs.length - (intOf i).toNat)
  case atStart => exact ⟨0, by omega, rfl, HIX.out, HW2.out⟩
  case round =>
    obtain ⟨q, hq, rfl, hE, rfl⟩ := hrel
    have HE := Lib.hid hE
    clear hE
    by_cases hlt : q < xs.length
    · obtain ⟨ea, hlb⟩ := HA.out (by omega)
      obtain ⟨ea', hlb'⟩ := HA'.out (by have := HNL.out; omega)
      subst ea
      subst ea'
      have hW : Below B w0 wr := HB.out.trans (HB2.out.mono hB)
      obtain ⟨d0, d1, d2, d3, d4⟩ := HC.out q hlt
      have q0 := (hW.cell (p := ⟨b, off + q * 5, none⟩) hlb).trans d0
      have q1 := (hW.cell (p := ⟨b, off + q * 5 + 1, none⟩) hlb).trans d1
      have q2 := (hW.cell (p := ⟨b, off + q * 5 + 2, none⟩) hlb).trans d2
      have q3 := (hW.cell (p := ⟨b, off + q * 5 + 3, none⟩) hlb).trans d3
      have q4 := (hW.cell (p := ⟨b, off + q * 5 + 4, none⟩) hlb).trans d4
      have n0 := (hW.cell (p := ⟨b', off' + q, none⟩) hlb').trans (HC'.out q (by have := HNL.out; omega))
      obtain ⟨⟨an, ln, cn, en⟩, ⟨ai, li, ci, ei⟩⟩ := (HD.out q hlt).slices
      rw [en] at q3
      rw [ei] at q4
      have EN := Lib.hid en
      have EI := Lib.hid ei
      have hD := Lib.hid (atT_drop u (ns := ns) q (by have := HNL.out; omega))
      clear d0 d1 d2 d3 d4 hW en ei
      obtain ⟨tq, htq⟩ : ∃ tq, ns.getD q [] = tq := ⟨_, rfl⟩
      rw [htq] at hD n0
      have HTQ := Lib.hid htq
      clear htq
      generalize hx : xs.getD q default = x at *
      have HX := Lib.hid hx
      clear hx
      by_cases htu : tq = u
      · have hxi : ix = some q := by rw [← HE.out, hD.out, if_pos htu]
        have HP := Lib.hid (fun (w' : World) (h : Below W.heap.size W w') => show MemS W xs vn vi ix (.returned (.tuple #[.agg #[.int .i64 x.kind, .int .i64 x.num, .string ⟨x.text.toArray⟩, .slice an ln cn, .slice ai li ci], .bool true])) w' from .inl ⟨q, hxi, hlt, by rw [HX.out, EN.out, EI.out], h⟩)
        clear hxi
        subst htu
        go_wp2
        exact bodyPost_ret (ret_JC (c := .bool true) Try.results22 rfl rfl (heap_set5 K1.out (.int .i64 x.kind) (.int .i64 x.num) (.string ⟨x.text.toArray⟩) (.slice an ln cn) (.slice ai li ci))) rfl (HP.out _ (set5_below1 HB2.out (.int .i64 x.kind) (.int .i64 x.num) (.string ⟨x.text.toArray⟩) (.slice an ln cn) (.slice ai li ci)))
      · have hne : ¬ ((⟨tq.toArray⟩ : ByteArray) = ⟨u.toArray⟩) := fun e => htu (by have := congrArg (fun b : ByteArray => b.data.toList) e; simpa using this)
        have HN := Lib.hid (show atT u (q + 1) (ns.drop (q + 1)) = ix by rw [← HE.out, hD.out, if_neg htu])
        clear q0 q1 q2 q3 q4
        have f2 : (tq.toArray == u.toArray) = false := beq_eq_false_iff_ne.2 fun e => htu (by simpa using e)
        have f1 : ((⟨tq.toArray⟩ : ByteArray) == ⟨u.toArray⟩) = false := f2
        have f4 : (tq == u) = false := beq_eq_false_iff_ne.2 htu
        go_wp2
        go_roundw
        case rel => exact ⟨q + 1, by omega, by go_num, HN.out, by simp⟩
        case measure => simp [intOf]; omega
    · obtain rfl : q = xs.length := by omega
      have hxi : ix = none := by
        rw [← HE.out, List.drop_of_length_le (by have := HNL.out; omega)]
        rfl
      have HP := Lib.hid (fun (w' : World) (h : Below W.heap.size W w') => show MemS W xs vn vi ix (.returned (.tuple #[.agg #[.int .i64 0, .int .i64 0, .string ⟨#[]⟩, .slice none 0 0, .slice none 0 0], .bool false])) w' from .inr ⟨hxi, rfl, h⟩)
      clear hxi
      go_wp2
      exact bodyPost_ret (ret_JC (c := .bool false) Try.results22 rfl rfl (heap_set5 K1.out (.int .i64 0) (.int .i64 0) (.string ⟨#[]⟩) (.slice none 0 0) (.slice none 0 0))) rfl (HP.out _ (set5_below1 HB2.out (.int .i64 0) (.int .i64 0) (.string ⟨#[]⟩) (.slice none 0 0) (.slice none 0 0)))
set_option maxRecDepth 100000 in
set_option maxHeartbeats 4000000 in
theorem memM_any (B : Nat) (w0 : World) (j : J) (u : List UInt8) (nv iv : Value) (h : JIn (· < B) w0 j nv iv) (hs : szJ j ≤ 1048576) (W : World) (hb : Below B w0 W) (hB : B ≤ W.heap.size) :
    Calls Try.prog 10 #[jV j nv iv, .string ⟨u.toArray⟩] W (MemO W j u) := by
  have HO := Lib.hid (fun W hb hB => okS_at j nv iv W B w0 h hb hB)
  have HB := Lib.hid hb
  have HJ := Lib.hid h
  obtain ⟨⟨an, ln, cn, rfl⟩, ⟨ai, li, ci, rfl⟩⟩ := h.slices
  have HB1 := Lib.hid (((Below.refl W.heap.size W).alloc (Nat.le_refl _) (.cells #[.int .i64 j.kind, .int .i64 j.num, .string ⟨j.text.toArray⟩, .slice an ln cn, .slice ai li ci] 36)).alloc (by simp) (.cells z5 36))
  have HK := Lib.hid (heap_alloc2_new W (.cells #[.int .i64 j.kind, .int .i64 j.num, .string ⟨j.text.toArray⟩, .slice an ln cn, .slice ai li ci] 36) (.cells z5 36))
  have HK0 := Lib.hid (alloc2_0 W (.cells #[.int .i64 j.kind, .int .i64 j.num, .string ⟨j.text.toArray⟩, .slice an ln cn, .slice ai li ci] 36) (.cells z5 36))
  clear h hb
  by_cases hu : 65536 < u.length
  · have HZ := Lib.hid (fun (w' : World) hb => memO_zero (W := W) (w' := w') (j := j) (u := u) (c := 2) (by simp [MR, hu]) (by simp [MC, hu]) hb)
    go_enter Try.func10, Try.ntmps10
    go_wp2
    exact bodyPost_ret (ret_JC Try.results10 rfl rfl HK.out) rfl (HZ.out _ HB1.out)
  obtain ⟨r, hr⟩ : ∃ r, okJ j 5 = r := ⟨_, rfl⟩
  have HR := Lib.hid hr
  rw [hr] at HO
  cases r with
  | false =>
    have HZ := Lib.hid (fun (w' : World) hb => memO_zero (W := W) (w' := w') (j := j) (u := u) (c := 1) (by simp [MR, hu, hr]) (by simp [MC, hu, hr]) hb)
    clear hr
    go_enter Try.func10, Try.ntmps10
    go_wp2_with fail
    refine (HO.out _ (HB.out.trans (HB1.out.mono hB)) (by simp; omega)).mono ?_
    rintro e w2 ⟨rfl, hb2⟩
    have k2 := (hb2.block (W.heap.size + 1) (by simp)).trans HK.out
    obtain ⟨p0, p1, p2, p3, p4, pf⟩ := five_cells k2
    have K2 := Lib.hid k2
    have HB2 := Lib.hid (HB1.out.trans (hb2.mono (by simp; omega)))
    clear hb2 k2
    go_wp2
    exact bodyPost_ret (ret_JC (c := .int .i64 1) Try.results10 rfl rfl (heap_set5 K2.out (.int .i64 0) (.int .i64 0) (.string ⟨#[]⟩) (.slice none 0 0) (.slice none 0 0))) rfl (HZ.out _ (set5_below1 HB2.out (.int .i64 0) (.int .i64 0) (.string ⟨#[]⟩) (.slice none 0 0) (.slice none 0 0)))
  | true =>
    obtain ⟨k, n, t, ns, xs⟩ := j
    have HZ9 := Lib.hid (fun (hk : k ≠ 6) (w' : World) hb => memO_zero (W := W) (w' := w') (j := .mk k n t ns xs) (u := u) (c := 9) (by simp [MR, hu, hr, J.kind, hk]) (by simp [MC, hu, hr, J.kind, hk]) hb)
    have HZ5 := Lib.hid (fun (hk : k = 6) (ha : atT u 0 ns = none) (w' : World) hb => memO_zero (W := W) (w' := w') (j := .mk k n t ns xs) (u := u) (c := 5) (by subst hk; simp [MR, hu, hr, J.kind, J.names, ha]) (by subst hk; simp [MC, hu, hr, J.kind, J.names, ha]) hb)
    have HZ0 := Lib.hid (fun (hk : k = 6) (i : Nat) (ha : atT u 0 ns = some i) => show MR (.mk k n t ns xs) u = xs.getD i default ∧ MC (.mk k n t ns xs) u = 0 from ⟨by subst hk; simp [MR, hu, hr, J.kind, J.names, J.items, ha], by subst hk; simp [MC, hu, hr, J.kind, J.names, ha]⟩)
    have HKN := Lib.hid (fun (hk : k = 6) => show ns.length = xs.length from by subst hk; exact ok_six hr)
    clear hr
    simp only [J.kind, J.num, J.text] at HB1 HK HK0 HO ⊢
    show Calls _ _ #[.agg #[.int .i64 k, .int .i64 n, .string ⟨t.toArray⟩, .slice an ln cn, .slice ai li ci], .string ⟨u.toArray⟩] _ _
    by_cases hk6 : k = 6
    · subst hk6
      have HZ5' := Lib.hid (HZ5.out rfl)
      have HZ0' := Lib.hid (HZ0.out rfl)
      obtain ⟨hL, hN, -⟩ := HJ.out.inv
      obtain ⟨a, cap, b, off, vn, vi, e, -, -, ha, hc, hd⟩ := hL
      injection e with e1 e2 e3
      subst e1 e2 e3
      have HS := Lib.hid (fun W => memS_any B w0 6 n t ns xs u (.slice an ln cn) hN (HKN.out rfl) ai ci b off vn vi ha hc hd W)
      have HD := Lib.hid hd
      clear hN ha hc hd HZ9 HZ5 HZ0 HJ
      obtain ⟨ix, hix⟩ : ∃ ix, atT u 0 ns = ix := ⟨_, rfl⟩
      rw [hix] at HS HZ5'
      have HIX := Lib.hid hix
      clear hix
      go_enter Try.func10, Try.ntmps10
      go_wp2_with fail
      refine (HO.out _ (HB.out.trans (HB1.out.mono hB)) (by simp; omega)).mono ?_
      rintro e w2 ⟨rfl, hb2⟩
      have hz2 : W.heap.size + 1 < w2.heap.size := by have := hb2.size; simp at this; omega
      have k2 := (hb2.block (W.heap.size + 1) (by simp)).trans HK.out
      have k0 := (hb2.block W.heap.size (by simp; omega)).trans HK0.out
      obtain ⟨c0, c1, c2, c3, c4, cf⟩ := five_cells k0
      have K2 := Lib.hid k2
      have HB2 := Lib.hid (HB1.out.trans (hb2.mono (by simp; omega)))
      clear hb2 k2 k0
      go_wp2_with fail
      refine (HS.out _ (HB.out.trans (HB2.out.mono hB)) (by omega)).mono ?_
      rintro e w3 (⟨i, hi, hlt, rfl, hb3⟩ | ⟨hi, rfl, hb3⟩)
      · have HZ := Lib.hid (HZ0'.out i (HIX.out.trans hi))
        have k3 := (hb3.block (W.heap.size + 1) hz2).trans K2.out
        have hz3 : W.heap.size + 1 < w3.heap.size := Nat.lt_of_lt_of_le hz2 hb3.size
        have HB3 := Lib.hid (HB2.out.trans (hb3.mono (by omega)))
        have K3 := Lib.hid k3
        have HCP := Lib.hid (copyO_go B w0 _ _ _ (HD.out i hlt) (by unfold szJ at hs; have := szL_len xs (xs.getD i default) (by simp [hlt]); omega))
        obtain ⟨⟨an1, ln1, cn1, en⟩, ⟨ai1, li1, ci1, ei⟩⟩ := (HD.out i hlt).slices
        rw [en, ei] at HCP ⊢
        clear hb3 k3 hi en ei c0 c1 c2 c3 c4 cf
        generalize xs.getD i default = x at *
        go_wp2_with fail
        refine (HCP.out _ (HB.out.trans ((HB3.out.alloc (by omega) _).mono hB)) (by simp; omega)).mono ?_
        rintro e w4 ⟨nv, iv, S, rfl, ho, hf, hb4⟩
        obtain ⟨⟨an2, ln2, cn2, rfl⟩, ⟨ai2, li2, ci2, rfl⟩⟩ := ho.slices
        have k4 := (hb4.block (W.heap.size + 1) (by simp; omega)).trans ((heap_alloc_old w3 _ hz3).trans K3.out)
        have K4 := Lib.hid k4
        obtain ⟨p0, p1, p2, p3, p4, pf⟩ := five_cells k4
        have HP := Lib.hid (fun a b c d e => memO_some (a := a) (b := b) (c := c) (d := d) (e := e) HZ.out.1 HZ.out.2 ho hf (by simp; omega) ((HB3.out.alloc (by omega) _).trans (hb4.mono (by simp; omega))))
        clear k4 ho hb4 hf
        go_wp2
        exact bodyPost_ret (ret_JC (c := .int .i64 0) Try.results10 rfl rfl (heap_set5 K4.out (.int .i64 x.kind) (.int .i64 x.num) (.string ⟨x.text.toArray⟩) (.slice an2 ln2 cn2) (.slice ai2 li2 ci2))) rfl (HP.out (.int .i64 x.kind) (.int .i64 x.num) (.string ⟨x.text.toArray⟩) (.slice an2 ln2 cn2) (.slice ai2 li2 ci2))
      · have HZ := Lib.hid (HZ5'.out hi)
        have k3 := (hb3.block (W.heap.size + 1) hz2).trans K2.out
        have hz3 : W.heap.size + 1 < w3.heap.size := Nat.lt_of_lt_of_le hz2 hb3.size
        have HB3 := Lib.hid (HB2.out.trans (hb3.mono (by omega)))
        obtain ⟨p0, p1, p2, p3, p4, pf⟩ := five_cells k3
        have KS := Lib.hid (fun o : Obj => (heap_alloc_old (set5 w3 (W.heap.size + 1) 0 (.int .i64 0) (.int .i64 0) (.string ⟨#[]⟩) (.slice none 0 0) (.slice none 0 0)) o (by rw [set5_size]; exact hz3)).trans (heap_set5 k3 (.int .i64 0) (.int .i64 0) (.string ⟨#[]⟩) (.slice none 0 0) (.slice none 0 0)))
        have HBS := Lib.hid (fun o : Obj => (set5_below1 HB3.out (.int .i64 0) (.int .i64 0) (.string ⟨#[]⟩) (.slice none 0 0) (.slice none 0 0)).alloc (by rw [set5_size]; omega) o)
        clear hb3 k3 hi c0 c1 c2 c3 c4 cf
        go_wp2
        exact bodyPost_ret (ret_JC (c := .int .i64 5) Try.results10 rfl rfl (KS.out _)) rfl (HZ.out _ (HBS.out _))
    · have HZ := Lib.hid (HZ9.out hk6)
      have f6 : (k != 6) = true := by simp [hk6]
      clear HZ9 HZ5 HZ0 HJ HKN
      go_enter Try.func10, Try.ntmps10
      go_wp2_with fail
      refine (HO.out _ (HB.out.trans (HB1.out.mono hB)) (by simp; omega)).mono ?_
      rintro e w2 ⟨rfl, hb2⟩
      have k2 := (hb2.block (W.heap.size + 1) (by simp)).trans HK.out
      have k0 := (hb2.block W.heap.size (by simp; omega)).trans HK0.out
      obtain ⟨c0, c1, c2, c3, c4, cf⟩ := five_cells k0
      obtain ⟨p0, p1, p2, p3, p4, pf⟩ := five_cells k2
      have K2 := Lib.hid k2
      have HB2 := Lib.hid (HB1.out.trans (hb2.mono (by simp; omega)))
      clear hb2 k2 k0
      go_wp2
      exact bodyPost_ret (ret_JC (c := .int .i64 9) Try.results10 rfl rfl (heap_set5 K2.out (.int .i64 0) (.int .i64 0) (.string ⟨#[]⟩) (.slice none 0 0) (.slice none 0 0))) rfl (HZ.out _ (set5_below1 HB2.out (.int .i64 0) (.int .i64 0) (.string ⟨#[]⟩) (.slice none 0 0) (.slice none 0 0)))
end Go.Proofs.Ytniflfgnelfpbaa.Js
