
/-
  The program's Member, walked, with what its answer owns.
-/
import Derived.Test.YtniflfgnelfpbaaJoN
import Derived.Test.YtniflfgnelfpbaaJoV
namespace Go.Proofs.Ytniflfgnelfpbaa.Js
open Go.RowKit
theorem okJ_normM {j : J} (h : okJ j 5 = true) : normJ j = j := by
  rw [ok_split] at h
  simp only [Bool.and_eq_true] at h
  exact (sameJ_eq j _ h.2).symm
theorem ok_six {n : Int} {t : List UInt8} {ns : List (List UInt8)} {xs : List J} (h : okJ (.mk 6 n t ns xs) 5 = true) : ns.length = xs.length := by
  unfold okJ at h
  simp at h
  exact h.1.1.2
def MemO (W : World) (j : J) (u : List UInt8) (e : Ending) (w' : World) : Prop := ∃ nv iv S, e = .returned (.tuple #[jV (MR j u) nv iv, .int .i64 (MC j u)]) ∧ OJ w' W.heap.size S (MR j u) nv iv ∧ FitJ (MR j u) ∧ Below W.heap.size W w'
theorem memO_zero {W w' : World} {j : J} {u : List UInt8} {c : Int} (h1 : MR j u = zeroJ) (h2 : MC j u = c) (hb : Below W.heap.size W w') : MemO W j u (.returned (.tuple #[.agg #[.int .i64 0, .int .i64 0, .string ⟨#[]⟩, .slice none 0 0, .slice none 0 0], .int .i64 c])) w' := by
  unfold MemO
  rw [h1, h2]
  exact ⟨_, _, _, rfl, .of (o1_nil _ _) (by simp) (by simp) (OL.nil _ _) (fun b hb => hb.elim), ⟨by simp [zeroJ, J.kind], by simp [zeroJ, J.num], by simp [zeroJ, J.text]⟩, hb⟩
theorem set5_below1 {W w : World} (h : Below W.heap.size W w) (a b c d e : Value) : Below W.heap.size W (set5 w (W.heap.size + 1) 0 a b c d e) :=
  ((((h.setCell (p := ⟨W.heap.size + 1, 0, none⟩) (Nat.le_succ _) _).setCell (p := ⟨W.heap.size + 1, 0 + 1, none⟩) (Nat.le_succ _) _).setCell (p := ⟨W.heap.size + 1, 0 + 2, none⟩) (Nat.le_succ _) _).setCell (p := ⟨W.heap.size + 1, 0 + 3, none⟩) (Nat.le_succ _) _).setCell (p := ⟨W.heap.size + 1, 0 + 4, none⟩) (Nat.le_succ _) _
theorem memO_some {W w1 : World} {m : Nat} {j x : J} {u : List UInt8} {S : Nat → Prop} {nv iv a b c d e : Value} (h1 : MR j u = x) (h2 : MC j u = 0) (ho : OJ w1 m S x nv iv) (hf : FitJ x) (hm : W.heap.size + 1 < m) (hb : Below W.heap.size W w1) :
    MemO W j u (.returned (.tuple #[jV x nv iv, .int .i64 0])) (set5 w1 (W.heap.size + 1) 0 a b c d e) := by
  unfold MemO
  rw [h1, h2]
  refine ⟨_, _, _, rfl, (ho.base (by omega)).same fun b hS => set5_far _ _ _ _ _ _ _ _ _ (by have := ho.lt b hS; omega), hf, ?_⟩
  exact set5_below1 hb _ _ _ _ _
theorem ret_JC {fn : Func} {a s B : Nat} {tmps : Array Value} {X : World} {c0 c1 c2 c3 c4 c : Value} {T : TypeId} (hres : fn.results = #[.cell a 36, .tmp s]) (ha : tmps[a]?.getD undef = .pointer (some ⟨B, 0, none⟩)) (hs : tmps[s]?.getD undef = c) (h : X.heap[B]? = some (.cells #[c0, c1, c2, c3, c4] T (0, 0))) :
    (results fn tmps).run Try.prog X = .ok (.tuple #[.agg #[c0, c1, c2, c3, c4], c]) X := by
  obtain ⟨k0, k1, k2, k3, k4, _⟩ := five_cells h
  simp [results, hres, ha, hs, go_sem, k0, k1, k2, k3, k4]
attribute [local go_sem] ta_0_o ta_1_o ta_2_o ta_3_o ta_4_o ta_5_5
abbrev z5 : Array Value := #[.int .i64 0, .int .i64 0, .string ⟨#[]⟩, .slice none 0 0, .slice none 0 0]
def idxZ : Option Nat → Int
  | some i => (i : Int)
  | none => -1
theorem idx_atZ (u : List UInt8) (ns : List (List UInt8)) (k : Nat) : (Lib.idxFromS (ns.map fun t => (⟨t.toArray⟩ : ByteArray)) ⟨u.toArray⟩ k) = idxZ (atT u k ns) := by
  rw [idx_at]
  cases atT u k ns <;> rfl
theorem idxI_any (S : Nat → Prop) (ns : List (List UInt8)) (u : List UInt8) (v : Value) (w : World) (h : TxtsIn S w v ns) :
    Calls Try.prog 27 #[v, .string ⟨u.toArray⟩] w fun e w' => e = .returned (.int .i64 (idxZ (atT u 0 ns))) ∧ w = w' := by
  rw [← idx_atZ u ns 0]
  obtain ⟨a, cap, b, off, rfl, hcap, hm, _, ha, hc⟩ := h
  by_cases h0 : ns = []
  · subst h0
    exact (Try.slices_Index_string_empty a cap ⟨u.toArray⟩ w).mono fun e w' ⟨he, hw⟩ => ⟨he, hw.symm⟩
  · have hp : 0 < ns.length := List.length_pos_iff.2 h0
    obtain ⟨rfl, _⟩ := ha hp
    have hlen : (ns.map fun t => (⟨t.toArray⟩ : ByteArray)).length = ns.length := by simp
    refine (Try.slices_Index_string b off ns.length cap (ns.map fun t => (⟨t.toArray⟩ : ByteArray)) ⟨u.toArray⟩ w (by rw [hlen]; exact Nat.le_refl _) (by omega) (fun j hj => ?_)).mono fun e w' ⟨he, hw⟩ => ⟨?_, hw.symm⟩
    · rw [hlen] at hj
      rw [hc j hj]
      simp [hj]
    · rw [he, ← hlen, List.take_length]
      rfl
set_option maxRecDepth 100000 in
set_option maxHeartbeats 4000000 in
theorem memI_any (B : Nat) (w0 : World) (j : J) (u : List UInt8) (nv iv : Value) (h : JIn (· < B) w0 j nv iv) (hs : szJ j ≤ 1048576) (W : World) (hb : Below B w0 W) (hB : B ≤ W.heap.size) :
    Calls Try.prog 12 #[jV j nv iv, .string ⟨u.toArray⟩] W (MemO W j u) := by
  have HV := Lib.hid (valueOf_any B w0 j nv iv h hs)
  have HB := Lib.hid hb
  obtain ⟨⟨an, ln, cn, rfl⟩, ⟨ai, li, ci, rfl⟩⟩ := h.slices
  have HB1 := Lib.hid (((Below.refl W.heap.size W).alloc (Nat.le_refl _) (.cells #[.int .i64 j.kind, .int .i64 j.num, .string ⟨j.text.toArray⟩, .slice an ln cn, .slice ai li ci] 36)).alloc (by simp) (.cells z5 36))
  have HK := Lib.hid (heap_alloc2_new W (.cells #[.int .i64 j.kind, .int .i64 j.num, .string ⟨j.text.toArray⟩, .slice an ln cn, .slice ai li ci] 36) (.cells z5 36))
  clear h hb
  by_cases hu : 65536 < u.length
  · have HZ := Lib.hid (fun (w' : World) hb => memO_zero (W := W) (w' := w') (j := j) (u := u) (c := 2) (by simp [MR, hu]) (by simp [MC, hu]) hb)
    go_enter Try.func12, Try.ntmps12
    go_wp2
    exact bodyPost_ret (ret_JC Try.results12 rfl rfl HK.out) rfl (HZ.out _ HB1.out)
  obtain ⟨r, hr⟩ : ∃ r, okJ j 5 = r := ⟨_, rfl⟩
  have HR := Lib.hid hr
  rw [hr] at HV
  cases r with
  | false =>
    have HZ := Lib.hid (fun (w' : World) hb => memO_zero (W := W) (w' := w') (j := j) (u := u) (c := 1) (by simp [MR, hu, hr]) (by simp [MC, hu, hr]) hb)
    clear hr
    go_enter Try.func12, Try.ntmps12
    go_wp2_with fail
    refine (HV.out _ (HB.out.trans (HB1.out.mono hB)) (by simp; omega)).mono ?_
    rintro e w2 ⟨v, rfl, _, hb2⟩
    have k2 := (hb2.block (W.heap.size + 1) (by simp)).trans HK.out
    obtain ⟨p0, p1, p2, p3, p4, pf⟩ := five_cells k2
    have K2 := Lib.hid k2
    have HB2 := Lib.hid (HB1.out.trans (hb2.mono (by simp; omega)))
    clear hb2 k2
    go_wp2
    exact bodyPost_ret (ret_JC (c := .int .i64 1) Try.results12 rfl rfl (heap_set5 K2.out (.int .i64 0) (.int .i64 0) (.string ⟨#[]⟩) (.slice none 0 0) (.slice none 0 0))) rfl (HZ.out _ (set5_below1 HB2.out (.int .i64 0) (.int .i64 0) (.string ⟨#[]⟩) (.slice none 0 0) (.slice none 0 0)))
  | true =>
    have HN := Lib.hid (okJ_normM hr)
    obtain ⟨k, n, t, ns, xs⟩ := j
    have HZ9 := Lib.hid (fun (hk : k ≠ 6) (w' : World) hb => memO_zero (W := W) (w' := w') (j := .mk k n t ns xs) (u := u) (c := 9) (by simp [MR, hu, hr, J.kind, hk]) (by simp [MC, hu, hr, J.kind, hk]) hb)
    have HZ5 := Lib.hid (fun (hk : k = 6) (ha : atT u 0 ns = none) (w' : World) hb => memO_zero (W := W) (w' := w') (j := .mk k n t ns xs) (u := u) (c := 5) (by subst hk; simp [MR, hu, hr, J.kind, J.names, ha]) (by subst hk; simp [MC, hu, hr, J.kind, J.names, ha]) hb)
    have HZ0 := Lib.hid (fun (hk : k = 6) (i : Nat) (ha : atT u 0 ns = some i) => show MR (.mk k n t ns xs) u = xs.getD i default ∧ MC (.mk k n t ns xs) u = 0 from ⟨by subst hk; simp [MR, hu, hr, J.kind, J.names, J.items, ha], by subst hk; simp [MC, hu, hr, J.kind, J.names, ha]⟩)
    have HKN := Lib.hid (fun (hk : k = 6) => show ns.length = xs.length from by subst hk; exact ok_six hr)
    clear hr
    simp only [J.kind, J.num, J.text] at HB1 HK HV ⊢
    show Calls _ _ #[.agg #[.int .i64 k, .int .i64 n, .string ⟨t.toArray⟩, .slice an ln cn, .slice ai li ci], .string ⟨u.toArray⟩] _ _
    go_enter Try.func12, Try.ntmps12
    go_wp2_with fail
    refine (HV.out _ (HB.out.trans (HB1.out.mono hB)) (by simp; omega)).mono ?_
    rintro e w2 ⟨v, rfl, hv, hb2⟩
    have hv2 := hv rfl
    rw [HN.out] at hv2
    have k2 := (hb2.block (W.heap.size + 1) (by simp)).trans HK.out
    have hz2 : W.heap.size + 1 < w2.heap.size := by have := hb2.size; simp at this; omega
    obtain ⟨p0, p1, p2, p3, p4, pf⟩ := five_cells k2
    have K2 := Lib.hid (fun o : Obj => (heap_alloc_old w2 o hz2).trans k2)
    have KS := Lib.hid (fun o : Obj => (heap_alloc_old (set5 w2 (W.heap.size + 1) 0 (.int .i64 0) (.int .i64 0) (.string ⟨#[]⟩) (.slice none 0 0) (.slice none 0 0)) o (by rw [set5_size]; exact hz2)).trans (heap_set5 k2 (.int .i64 0) (.int .i64 0) (.string ⟨#[]⟩) (.slice none 0 0) (.slice none 0 0)))
    have HBS := Lib.hid (fun o : Obj => (set5_below1 (HB1.out.trans (hb2.mono (by simp; omega))) (.int .i64 0) (.int .i64 0) (.string ⟨#[]⟩) (.slice none 0 0) (.slice none 0 0)).alloc (by rw [set5_size]; omega) o)
    have HB2 := Lib.hid (HB1.out.trans (hb2.mono (by simp; omega)))
    have HB3 := Lib.hid (fun o : Obj => HB2.out.alloc (by omega) o)
    have HV2 := Lib.hid (hv2.mono' (S' := (· < w2.heap.size)) fun b hb => by rcases hb with h | h <;> (try simp at h) <;> omega)
    clear hb2 k2 hv hv2
    have hv := HV2.out
    cases hv with
    | null =>
      go_wp2
      exact bodyPost_ret (ret_JC (c := .int .i64 9) Try.results12 rfl rfl (KS.out _)) rfl (HZ9.out (by decide) _ (HBS.out _))
    | bool q =>
      cases q
      all_goals
        go_wp2
        exact bodyPost_ret (ret_JC (c := .int .i64 9) Try.results12 rfl rfl (KS.out _)) rfl (HZ9.out (by decide) _ (HBS.out _))
    | num _ hn =>
      go_wp2
      exact bodyPost_ret (ret_JC (c := .int .i64 9) Try.results12 rfl rfl (KS.out _)) rfl (HZ9.out (by decide) _ (HBS.out _))
    | text _ ht =>
      go_wp2
      exact bodyPost_ret (ret_JC (c := .int .i64 9) Try.results12 rfl rfl (KS.out _)) rfl (HZ9.out (by decide) _ (HBS.out _))
    | list a cap b off vs hcap hm ha hc deep =>
      go_wp2
      exact bodyPost_ret (ret_JC (c := .int .i64 9) Try.results12 rfl rfl (KS.out _)) rfl (HZ9.out (by decide) _ (HBS.out _))
    | obj a cap b off vs names hcap hm ha hc deep =>
      rename_i nv
      obtain ⟨a', cap', b', off', rfl, hcap', hm', hlen', ha', hc'⟩ := names
      have HI := Lib.hid (fun o : Obj => idxI_any (· < w2.heap.size) ns u (.slice a' ns.length cap') (w2.alloc o) (TxtsIn.same (w := w2) ⟨a', cap', b', off', rfl, hcap', hm', hlen', ha', hc'⟩ fun b hb => ⟨hb, heap_alloc_old _ _ hb⟩))
      have HC := Lib.hid hc
      have HD := Lib.hid deep
      have HA := Lib.hid ha
      clear hc deep ha hc' ha' hlen'
      obtain ⟨ix, hix⟩ : ∃ ix, atT u 0 ns = ix := ⟨_, rfl⟩
      have HIX := Lib.hid hix
      rw [hix] at HI
      cases ix with
      | none =>
        have HZ := Lib.hid (HZ5.out rfl hix)
        simp only [idxZ] at HI
        go_wp2_with fail
        refine (HI.out _).mono ?_
        rintro e w3 ⟨rfl, rfl⟩
        go_wp2
        exact bodyPost_ret (ret_JC (c := .int .i64 5) Try.results12 rfl rfl (KS.out _)) rfl (HZ.out _ (HBS.out _))
      | some i =>
        have HZ := Lib.hid (HZ0.out rfl i hix)
        have hi := (atT_lt u ns 0 i hix).2
        have hi2 : i < xs.length := by have := HKN.out rfl; omega
        have hi3 : i < cap := by omega
        obtain ⟨ea, hlb⟩ := HA.out (by omega)
        subst ea
        have q0 := HC.out i hi2
        have HOF := Lib.hid (ofO_go w2.heap.size w2 _ _ (HD.out i hi2) (by unfold szJ at hs; have := szL_len xs (xs.getD i default) (by simp [hi2]); omega))
        simp only [idxZ] at HI
        clear hix
        generalize xs.getD i default = x at *
        generalize vs i = v1 at *
        go_wp2_with fail
        refine (HI.out _).mono ?_
        rintro e w3 ⟨rfl, rfl⟩
        go_wp2_with fail
        refine (HOF.out _ ((Below.refl _ _).alloc (Nat.le_refl _) _) (by simp)).mono ?_
        rintro e w4 ⟨nv, iv, S, rfl, ho, hf, hb4⟩
        obtain ⟨⟨an2, ln2, cn2, rfl⟩, ⟨ai2, li2, ci2, rfl⟩⟩ := ho.slices
        have k4 := (hb4.block (W.heap.size + 1) (by simp; omega)).trans (K2.out _)
        have K4 := Lib.hid k4
        clear p0 p1 p2 p3 p4 pf
        obtain ⟨p0, p1, p2, p3, p4, pf⟩ := five_cells k4
        have HP := Lib.hid (fun a b c d e => memO_some (a := a) (b := b) (c := c) (d := d) (e := e) HZ.out.1 HZ.out.2 ho hf (by simp; omega) ((HB3.out _).trans (hb4.mono (by simp; omega))))
        clear k4 ho hb4 hf
        go_wp2
        exact bodyPost_ret (ret_JC (c := .int .i64 0) Try.results12 rfl rfl (heap_set5 K4.out (.int .i64 x.kind) (.int .i64 x.num) (.string ⟨x.text.toArray⟩) (.slice an2 ln2 cn2) (.slice ai2 li2 ci2))) rfl (HP.out (.int .i64 x.kind) (.int .i64 x.num) (.string ⟨x.text.toArray⟩) (.slice an2 ln2 cn2) (.slice ai2 li2 ci2))
end Go.Proofs.Ytniflfgnelfpbaa.Js
