
/-
  The model's l06Offer, walked.
-/
import Derived.Test.YtakiigddbdapaaaChn
import Derived.Test.YtakiigddbdapaaaQvP
import Derived.Deep.Cut
namespace Go.Proofs.Ytakiigddbdapaaa.Qu
open Go.RowKit
open Go.Proofs.Ytakiigddbdapaaa.Tx
open Go.Proofs.Ytakiigddbdapaaa.Chn
theorem run_dropT (w : World) (a : Option Addr) (l c n : Nat) (h1 : n ≤ l) :
    (Instr.slice 25 (.slice a l c) (some (.int .i64 (n : Int))) none none).run Try.prog w = .ok (.slice (if c = n then a else a.map (fun x => x.add (n * 1))) (l - n) (c - n)) w := by
  have hn : (n : Int) ≤ (l : Int) := by omega
  simp [Instr.slice, Instr.sliceBounds, go_sem, hn]
theorem TxtsIn.drop {S : Nat → Prop} {w : World} {a : Option Addr} {l cap : Nat} {xs : List (List UInt8)} (h : TxtsIn S w (.slice a l cap) xs) (n : Nat) (hn : n ≤ xs.length) :
    TxtsIn S w (.slice (if cap = n then a else a.map (fun x => x.add (n * 1))) (l - n) (cap - n)) (xs.drop n) := by
  obtain ⟨a', cap', b, off, e, h1, h2, h3, h4, h5⟩ := h
  obtain ⟨rfl, rfl, rfl⟩ := by simpa using e
  have hg : ∀ i, (xs.drop n).getD i [] = xs.getD (n + i) [] := fun i => by simp [List.getD]
  refine ⟨_, cap - n, b, off + n, by rw [List.length_drop], by rw [List.length_drop]; omega, by omega, ?_, ?_, ?_⟩
  · intro i hi
    rw [List.length_drop] at hi
    rw [hg]; exact h3 _ (by omega)
  · intro hp
    rw [List.length_drop] at hp
    obtain ⟨ea, hS⟩ := h4 (by omega)
    refine ⟨?_, hS⟩
    rw [if_neg (by omega), ea]
    simp [Addr.add]
  · intro i hi
    rw [List.length_drop] at hi
    rw [hg, Nat.add_assoc]
    exact h5 _ (by omega)
theorem own_ty {w : World} {base k m : Nat} {T T' : TypeId} {v : Value} {ys : List Value} (h : w.ownsRow base T m v k ys) (hT : T ≠ T') : ∀ g, v.ownBlock = some g → ∃ C T'', Hd w g (.cells C T'') ∧ T'' ≠ T' := by
  intro g e
  rcases h.2 with ⟨rfl, _⟩ | ⟨g', cap, cur, rfl, _, hg', _⟩
  · cases e
  · simp only [Value.ownBlock, Option.some.injEq] at e
    subst e
    exact ⟨cur, T, hg', hT⟩
theorem one_row4 {w : World} {g : Nat} {a b c d : Value} {T : TypeId} (h : Hd w g (.cells #[a, b, c, d] T)) : ∀ (j : Nat) (u : Value), [a, b, c, d][j]? = some u → w.cell? ((⟨g, 0, none⟩ : Addr).add j) = some u := by
  intro j u hj
  rw [add_at, Nat.zero_add]
  obtain ⟨k0, k1, k2, k3, -⟩ := h.four
  have hlt : j < 4 := by have := (List.getElem?_eq_some_iff.1 hj).1; simpa using this
  rcases (show j = 0 ∨ j = 1 ∨ j = 2 ∨ j = 3 by omega) with rfl | rfl | rfl | rfl
  · simp at hj; subst hj; exact k0
  · simp at hj; subst hj; exact k1
  · simp at hj; subst hj; exact k2
  · simp at hj; subst hj; exact k3
theorem one_rowS {w : World} {g : Nat} {a : Value} {T : TypeId} (h : Hd w g (.cells #[a] T)) : ∀ (j : Nat) (u : Value), [a][j]? = some u → w.cell? ((⟨g, 0, none⟩ : Addr).add j) = some u := by
  intro j u hj
  rw [add_at, Nat.zero_add]
  have hlt : j < 1 := by have := (List.getElem?_eq_some_iff.1 hj).1; simpa using this
  obtain rfl : j = 0 := by omega
  simp at hj; subst hj
  exact cell_of_row w g 0 _ _ _ h
theorem lo_new {W w1 w : World} {q : Q} {r : Rep} {xs : List Rep} {ns : List (List UInt8)} {b : Int} (hc : ¬ q.recent.contains r.body = true) (he : b = (olR q.items).id) (hx : adR q.items r = xs ++ [r]) (hn : adT q.recent r.body = ns ++ [r.body])
    (hfx : ∀ i, i < (adR q.items r).length → Fit ((adR q.items r).getD i default)) (hft : ∀ i, i < (adT q.recent r.body).length → ((adT q.recent r.body).getD i []).length ≤ 9223372036854775807)
    (BF : Below W.heap.size W w1) (z1 : W.heap.size + 1 + 1 < w1.heap.size) (a7 : Option Addr) (c7 : Nat) (a8 : Option Addr) (c8 : Nat)
    (hI : w.ownsRow w1.heap.size 38 4 (.slice a7 (xs.length + 1) c7) (xs.length + 1) (rpC xs ++ (rC r).toList)) (hR : w.ownsRow w1.heap.size 9 1 (.slice a8 (ns.length + 1) c8) (ns.length + 1) (strV ns ++ [.string ⟨r.body.toArray⟩])) (BB : Below w1.heap.size w1 w) :
    NewL W (loR q r) (loB q r) (loE q r) (.returned (.tuple #[qV (.slice a7 (xs.length + 1) c7) (.slice a8 (ns.length + 1) c8), .bool true, .int .i64 b])) (set2 w (W.heap.size + 1 + 1) 0 (.slice a7 (xs.length + 1) c7) (.slice a8 (ns.length + 1) c8)) := by
  have hz := BB.size
  have h4 : O4 w w1.heap.size (.slice a7 (xs.length + 1) c7) (adR q.items r) := by
    rw [hx]; unfold O4; rw [List.length_append, rpC_app]; exact hI
  have h5 : O1 w w1.heap.size (.slice a8 (ns.length + 1) c8) (adT q.recent r.body) := by
    rw [hn]; unfold O1; rw [List.length_append, show strV (ns ++ [r.body]) = strV ns ++ [Value.string ⟨r.body.toArray⟩] by simp [strV]]; exact hR
  have CH := far2 (w := w) (B := W.heap.size + 1 + 1) (.slice a7 (xs.length + 1) c7) (.slice a8 (ns.length + 1) c8)
  refine ⟨.slice a7 (xs.length + 1) c7, .slice a8 (ns.length + 1) c8, ?_, ?_, ?_, CH.below (BF.trans (BB.mono BF.size)) (by omega) (fun b e => by omega)⟩
  · unfold loB loE; rw [if_neg hc, if_neg hc, he]
  · unfold loR; rw [if_neg hc]
    exact (CH.rp (h4.rp hfx) (fun b hb => ⟨hb.2, fun e => by omega⟩)).mono fun b hb => by rw [set2_size]; exact hb.2
  · unfold loR; rw [if_neg hc]
    exact (CH.txts (h5.txts hft) (fun b hb => ⟨hb.2, fun e => by omega⟩)).mono fun b hb => by rw [set2_size]; exact hb.2
theorem newL_same {W w' : World} {q : Q} {r : Rep} {iv rv : Value} (hc : q.recent.contains r.body = true) (h1 : RpIn (· < w'.heap.size) w' iv q.items) (h2 : TxtsIn (· < w'.heap.size) w' rv q.recent) (hb : Below W.heap.size W w') : NewL W (loR q r) (loB q r) (loE q r) (.returned (.tuple #[qV iv rv, .bool false, .int .i64 0])) w' := by
  refine ⟨iv, rv, ?_, ?_, ?_, hb⟩
  · unfold loB loE; rw [if_pos hc, if_pos hc]
  · unfold loR; rw [if_pos hc]; exact h1
  · unfold loR; rw [if_pos hc]; exact h2
theorem newL_new {W w' : World} {q : Q} {r : Rep} {iv rv : Value} {b : Int} (hc : ¬ q.recent.contains r.body = true) (he : b = (olR q.items).id) (h1 : RpIn (· < w'.heap.size) w' iv (adR q.items r)) (h2 : TxtsIn (· < w'.heap.size) w' rv (adT q.recent r.body)) (hb : Below W.heap.size W w') : NewL W (loR q r) (loB q r) (loE q r) (.returned (.tuple #[qV iv rv, .bool true, .int .i64 b])) w' := by
  refine ⟨iv, rv, ?_, ?_, ?_, hb⟩
  · unfold loB loE; rw [if_neg hc, if_neg hc, he]
  · unfold loR; rw [if_neg hc]; exact h1
  · unfold loR; rw [if_neg hc]; exact h2
set_option maxRecDepth 100000 in
set_option maxHeartbeats 8000000 in
theorem lo_any (q : Q) (r : Rep) (hf : Fit r) (B : Nat) (w0 : World) (iv rv : Value) (hi : RpIn (· < B) w0 iv q.items) (hr : TxtsIn (· < B) w0 rv q.recent) (hq : QSm q) (W : World) (hb : Below B w0 W) (hB : B ≤ W.heap.size) :
    Calls Try.prog 22 #[qV iv rv, rV r] W (NewL W (loR q r) (loB q r) (loE q r)) := by
  have HB := Lib.hid hb
  obtain ⟨a1, c1, rfl⟩ := hi.slice2
  obtain ⟨a2, l2, c2, rfl⟩ := hr.slice
  obtain ⟨rfl, -⟩ := tx_row hr
  have HI := Lib.hid hi
  have HR := Lib.hid hr
  have HHAS := Lib.hid (fun W' (h : Below B w0 W') => hasS_any (· < B) q.recent r.body _ W' (hr.blw h))
  have hn5 := hq.i
  have hn6 := hq.r
  have HQ := Lib.hid hq
  have HFT := Lib.hid hf
  clear hb hi hr hq hf
  obtain ⟨w1, hw1⟩ : ∃ w1, w1 = ((W.alloc (iqO (.slice a1 q.items.length c1) (.slice a2 q.recent.length c2))).alloc (.cells (rC r) 38)).alloc zqO := ⟨_, rfl⟩
  have H0 := Lib.hid (show Hd w1 W.heap.size (iqO (.slice a1 q.items.length c1) (.slice a2 q.recent.length c2)) by rw [hw1]; exact alloc3_0 W _ _ _)
  have H1 := Lib.hid (show Hd w1 (W.heap.size + 1) (.cells (rC r) 38) by rw [hw1]; exact alloc3_1 W _ _ _)
  have H2 := Lib.hid (show Hd w1 (W.heap.size + 1 + 1) zqO by rw [hw1]; exact alloc3_2 W _ _ _)
  have BF := Lib.hid (show Below W.heap.size W w1 by rw [hw1]; exact (((Below.refl W.heap.size W).alloc (Nat.le_refl _) _).alloc (by simp) _).alloc (by simp; omega) _)
  have HB1 := Lib.hid (HB.out.trans (BF.out.mono hB))
  have HI1 := Lib.hid (HI.out.blw HB1.out)
  have HR1 := Lib.hid (HR.out.blw HB1.out)
  have z1 := H2.out.lt
  have hBw1 : B ≤ w1.heap.size := by omega
  obtain ⟨m0, m1, -⟩ := H0.out.two
  obtain ⟨r0, r1, r2, r3, -⟩ := H1.out.four
  obtain ⟨s0, s1, sf⟩ := H2.out.two
  have HH := Lib.hid (HHAS.out w1 HB1.out)
  clear HHAS
  by_cases hc : q.recent.contains r.body = true
  · have HF := Lib.hid (fun w' h1 h2 h3 => newL_same (W := W) (w' := w') (r := r) (iv := .slice a1 q.items.length c1) (rv := .slice a2 q.recent.length c2) hc h1 h2 h3)
    have HS := Lib.hid (H2.out.set2 (.slice a1 q.items.length c1) (.slice a2 q.recent.length c2))
    have CH := Lib.hid (far2 (w := w1) (B := W.heap.size + 1 + 1) (.slice a1 q.items.length c1) (.slice a2 q.recent.length c2))
    rw [hc] at HH
    go_enter Try.func22, Try.ntmps22
    go_wp2_with fail
    rw [← hw1]
    clear hw1
    refine HH.out.mono ?_
    rintro e _ ⟨rfl, rfl⟩
    have HF2 := Lib.hid (HF.out (set2 w1 (W.heap.size + 1 + 1) 0 (.slice a1 q.items.length c1) (.slice a2 q.recent.length c2))
      ((CH.out.rp HI1.out (fun b hb => ⟨by omega, fun e => by omega⟩)).mono fun b hb => by rw [set2_size]; omega)
      ((CH.out.txts HR1.out (fun b hb => ⟨by omega, fun e => by omega⟩)).mono fun b hb => by rw [set2_size]; omega)
      (CH.out.below BF.out (by omega) (fun b e => by omega)))
    go_wp2
    exact bodyPost_ret (ret_S Try.results22 rfl rfl rfl HS.out) rfl HF2.out
  have HFX := Lib.hid (gdR_of (P := fun r => Fit r) (adR_all (gdR_all (P := fun r => Fit r) HI.out.fit) HFT.out))
  have HFTT := Lib.hid (fun i (hi : i < (adT q.recent r.body).length) => show ((adT q.recent r.body).getD i []).length ≤ 9223372036854775807 from gdT_of (P := fun t => t.length ≤ 9223372036854775807) (adT_all (gdT_all (P := fun t => t.length ≤ 9223372036854775807) (TxtsIn_lens HR.out)) HFT.out.m) i hi)
  have hc' : q.recent.contains r.body = false := by simpa using hc
  rw [hc'] at HH
  by_cases h5 : q.items.length = 5
  · by_cases h6 : q.recent.length = 6
    · have hDI := RpIn.drop HI1.out 1 (by omega)
      rw [List.drop_one] at hDI
      have hsi := fun w => run_dropR w a1 q.items.length c1 1 (by omega)
      obtain ⟨aI, cI, bI, oI, eI, -, hcm, -, hAI, hCI⟩ := HI1.out
      obtain ⟨rfl, -⟩ := hAI (by omega)
      injection eI with eI1 eI2 eI3
      obtain ⟨k0, -⟩ := hCI 0 (by omega)
      rw [Nat.zero_mul, Nat.add_zero] at k0
      subst eI1
      obtain ⟨aX, hax⟩ : ∃ x, (if c1 = 1 then (some ⟨bI, oI, none⟩ : Option Addr) else (some ⟨bI, oI, none⟩ : Option Addr).map (fun x => x.add (1 * 4))) = x := ⟨_, rfl⟩
      rw [hax] at hDI hsi
      have HXI := Lib.hid hDI
      have hlx : q.items.tail.length = q.items.length - 1 := by simp
      obtain ⟨gid, hgid⟩ : ∃ g, (q.items.getD 0 default).id = g := ⟨_, rfl⟩
      rw [hgid] at k0
      have HGE := Lib.hid (show gid = (olR q.items).id by unfold olR; rw [if_pos h5]; exact hgid.symm)
      have HADR := Lib.hid (show adR q.items r = q.items.tail ++ [r] by unfold adR; rw [if_pos h5])
      rw [show ((1 : Nat) : Int) = 1 from rfl] at hsi
      have hpos : (0 : Int) < (q.items.length : Int) := by omega
      clear hax hDI hgid hCI hAI eI2 eI3
      have hDR := TxtsIn.drop HR1.out 1 (by omega)
      rw [List.drop_one] at hDR
      have hsr := fun w => run_dropT w a2 q.recent.length c2 1 (by omega)
      obtain ⟨aY, hay⟩ : ∃ x, (if c2 = 1 then a2 else a2.map (fun x => x.add (1 * 1))) = x := ⟨_, rfl⟩
      rw [hay] at hDR hsr
      have HXR := Lib.hid hDR
      have hly : q.recent.tail.length = q.recent.length - 1 := by simp
      rw [show ((1 : Nat) : Int) = 1 from rfl] at hsr
      clear hay hDR
      have g5 : ((q.items.length : Int) == 5) = true := by simp; omega
      have g6 : ((q.recent.length : Int) == 6) = true := by simp; omega
      have H5 := Lib.hid h5
      have H6 := Lib.hid h6
      clear h5 h6
      go_enter Try.func22, Try.ntmps22
      go_wp2_with fail
      rw [← hw1]
      clear hw1
      refine HH.out.mono ?_
      rintro e _ ⟨rfl, rfl⟩
      go_upto_region 11 with fail
      rw [← hlx] at HXI ⊢
      rw [← hly] at HXR ⊢
      have HNEW := Lib.hid (fun (w : World) a7 c7 a8 c8 h1 h2 h3 => lo_new (W := W) (w1 := w1) (w := w) (q := q) (r := r) (xs := q.items.tail) (ns := q.recent.tail) (b := gid) hc HGE.out (by unfold adR; rw [if_pos H5.out]) (by unfold adT; rw [if_pos H6.out]) HFX.out HFTT.out BF.out z1 a7 c7 a8 c8 h1 h2 h3)
      clear g5 g6
      have hxl : q.items.tail.length ≤ 5 := by omega
      clear hlx hsi
      generalize q.items.tail = xt at *
      have hnl : q.recent.tail.length ≤ 6 := by omega
      clear hly hsr
      generalize q.recent.tail = nt at *
      obtain ⟨i0, hii, hz0, hz1, hz2⟩ := info_parts Try.infoRp
      obtain ⟨j0, hjj, hy0, hy1, hy2⟩ := info_parts Try.infoTxt
      have HR1C := Lib.hid (rpC_one xt)
      have HT1C := Lib.hid (strV_one nt)
      refine wp_region_any (by kernel_rfl) ?_
      refine Inv.wpAny_inv (fun l a w => ∃ (f0 f1 f2 f3 f4 f5 f6 f7 f8 f9 f10 f11 f12 f14 : Bool) (u34 u35 u36 u37 u38 u39 u40 u41 u42 u43 u44 u45 u46 u48 : Value), l = #[f0, f1, f2, f3, f4, f5, f6, f7, f8, f9, f10, f11, f12, false, f14, false, false, false] ∧ a = { tmps := #[qV (.slice (some ⟨bI, oI, none⟩) q.items.length c1) (.slice a2 q.recent.length c2), rV r, .pointer (some ⟨W.heap.size, 0, none⟩), .pointer (some ⟨W.heap.size + 1, 0, none⟩), .pointer (some ⟨W.heap.size + 1 + 1, 0, none⟩), .bool false, .int .i64 0, .int .i64 gid, .slice aX xt.length (c1 - 1), .slice aY nt.length (c2 - 1), .pointer (some ⟨W.heap.size, 1, none⟩), .slice a2 q.recent.length c2, .pointer (some ⟨W.heap.size + 1, 3, none⟩), .string ⟨r.body.toArray⟩, .bool false, undef, .pointer (some ⟨W.heap.size, 0, none⟩), .slice (some ⟨bI, oI, none⟩) q.items.length c1, .slice (some ⟨bI, oI, none⟩) q.items.length c1, .int .i64 (q.items.length : Int), .bool true, .slice (some ⟨bI, oI, none⟩) q.items.length c1, .pointer (some ⟨bI, oI, none⟩), .pointer (some ⟨bI, oI, none⟩), .int .i64 gid, .slice (some ⟨bI, oI, none⟩) q.items.length c1, .slice aX xt.length (c1 - 1), .pointer (some ⟨W.heap.size, 1, none⟩), .slice a2 q.recent.length c2, .slice a2 q.recent.length c2, .int .i64 (q.recent.length : Int), .bool true, .slice a2 q.recent.length c2, .slice aY nt.length (c2 - 1), u34, u35, u36, u37, u38, u39, u40, u41, u42, u43, u44, u45, u46, undef, u48], defers := [] } ∧ (Chn.Ch w w1.heap.size 38 4 xt.length (rpC xt) (rC r).toList f0 f2 f4 f5 u34 u36 u38 u39 ∧ Chn.Ch w w1.heap.size 9 1 nt.length (strV nt) [.string ⟨r.body.toArray⟩] f6 f8 f11 f12 u40 u42 u45 u46) ∧ ((f2 = true → f0 = true ∧ f1 = true) ∧ (f4 = true → f3 = true) ∧ (f5 = true → f2 = true ∧ f4 = true) ∧ (f8 = true → f6 = true ∧ f7 = true ∧ f5 = true) ∧ (f10 = true → f9 = true) ∧ (f11 = true → f10 = true) ∧ (f12 = true → f8 = true ∧ f11 = true)) ∧ ((f1 = true → u35 = .slice aX xt.length (c1 - 1)) ∧ (f3 = true → u37 = rV r) ∧ (f7 = true → u41 = .slice aY nt.length (c2 - 1)) ∧ (f9 = true → u43 = .pointer (some ⟨W.heap.size + 1, 3, none⟩)) ∧ (f10 = true → u44 = .string ⟨r.body.toArray⟩) ∧ (f14 = true → u48 = .int .i64 gid)) ∧ Below w1.heap.size w1 w) 12 (of_decide_eq_true (by kernel_rfl)) (by kernel_rfl) ?_ ?_ ?_ _ _ _ _ (by kernel_rfl) ?_
      · rintro l a w ⟨f0, f1, f2, f3, f4, f5, f6, f7, f8, f9, f10, f11, f12, f14, u34, u35, u36, u37, u38, u39, u40, u41, u42, u43, u44, u45, u46, u48, rfl, -⟩
        rfl
      · rintro l a w ⟨f0, f1, f2, f3, f4, f5, f6, f7, f8, f9, f10, f11, f12, f14, u34, u35, u36, u37, u38, u39, u40, u41, u42, u43, u44, u45, u46, u48, rfl, rfl, ⟨C1, C2⟩, ⟨i2, i4, i5, i8, i10, i11, i12⟩, ⟨v1, v3, v7, v9, v10, v14⟩, BB⟩ hD i hi
        obtain rfl : f12 = false := hD
        obtain ⟨h0, op, ho, hall⟩ := mem_ready.1 hi
        have hlt : i < 18 := (Array.getElem?_eq_some_iff.1 ho).1
        have hw1 : w1.heap.size ≤ w.heap.size := BB.size
        have hd14 : op = op := rfl
        clear hi
        rcases (show i = 0 ∨ i = 1 ∨ i = 2 ∨ i = 3 ∨ i = 4 ∨ i = 5 ∨ i = 6 ∨ i = 7 ∨ i = 8 ∨ i = 9 ∨ i = 10 ∨ i = 11 ∨ i = 12 ∨ i = 13 ∨ i = 14 ∨ i = 15 ∨ i = 16 ∨ i = 17 by omega) with rfl | rfl | rfl | rfl | rfl | rfl | rfl | rfl | rfl | rfl | rfl | rfl | rfl | rfl | rfl | rfl | rfl | rfl
        · obtain rfl := Option.some.inj ho
          obtain rfl : f0 = false := h0
          obtain rfl : f2 = false := Bool.eq_false_iff.2 fun h => by cases (i2 h).1
          refine wpOp_step rfl (fun K hK => ?_)
          go_simp
          refine hK _ _ ⟨_, _, _, _, _, _, _, _, _, _, _, _, _, _, _, _, _, _, _, _, _, _, _, _, _, _, _, _, rfl, rfl, ⟨C1.s0 hw1 _ rfl rfl, C2.alloc _⟩, ⟨fun h => (by cases h), i4, i5, i8, i10, i11, i12⟩, ⟨v1, v3, v7, v9, v10, v14⟩, BB.alloc hw1 _⟩
        · obtain rfl := Option.some.inj ho
          obtain rfl : f1 = false := h0
          obtain rfl : f2 = false := Bool.eq_false_iff.2 fun h => by cases (i2 h).2
          refine wpOp_step rfl (fun K hK => ?_)
          go_simp
          refine hK _ _ ⟨_, _, _, _, _, _, _, _, _, _, _, _, _, _, _, _, _, _, _, _, _, _, _, _, _, _, _, _, rfl, rfl, ⟨C1, C2⟩, ⟨fun h => (by cases h), i4, i5, i8, i10, i11, i12⟩, ⟨fun _ => rfl, v3, v7, v9, v10, v14⟩, BB⟩
        · obtain rfl := Option.some.inj ho
          obtain rfl : f2 = false := h0
          obtain rfl : f0 = true := hall ⟨0, .data⟩ (by simp) rfl
          obtain rfl : f1 = true := hall ⟨1, .data⟩ (by simp) rfl
          obtain rfl : f5 = false := Bool.eq_false_iff.2 fun h => by cases (i5 h).1
          obtain rfl := v1 rfl
          have hown := C1.e0 rfl rfl
          refine wpOp_step rfl (fun K hK => ?_)
          refine Chn.op_app w rfl _ _ 32 rfl w1.heap.size 38 i0 _ 4 40 Try.underlying32 hii hz0 hz1 hz2 rfl (by omega) _ 0 [] rfl hown aX xt.length (c1 - 1) (rpC xt) rfl (rp_row (HXI.out.blw (BB.mono hBw1))) (rpC_len _) HR1C.out (by omega) (by omega) hw1 ?_
          intro v4 w4 ho4 hg4 hp4
          rw [Nat.zero_add] at ho4
          refine hK _ _ ⟨_, _, _, _, _, _, _, _, _, _, _, _, _, _, _, _, _, _, _, _, _, _, _, _, _, _, _, _, rfl, rfl, ⟨C1.s1 v4 ho4 hg4 hp4, C2.kept hg4 (own_ty hown (by decide))⟩, ⟨fun _ => ⟨rfl, rfl⟩, i4, fun h => (by cases h), i8, i10, i11, i12⟩, ⟨fun _ => rfl, v3, v7, v9, v10, v14⟩, BB.grown hg4 hw1 (fun g e => (World.ownsRow.lt hown g e).1)⟩
        · obtain rfl := Option.some.inj ho
          obtain rfl : f3 = false := h0
          obtain rfl : f4 = false := Bool.eq_false_iff.2 fun h => by cases i4 h
          have k0 := (BB.cell (p := ⟨W.heap.size + 1, 0, none⟩) (show W.heap.size + 1 < w1.heap.size by omega)).trans r0
          have k1 := (BB.cell (p := ⟨W.heap.size + 1, 1, none⟩) (show W.heap.size + 1 < w1.heap.size by omega)).trans r1
          have k2 := (BB.cell (p := ⟨W.heap.size + 1, 2, none⟩) (show W.heap.size + 1 < w1.heap.size by omega)).trans r2
          have k3 := (BB.cell (p := ⟨W.heap.size + 1, 3, none⟩) (show W.heap.size + 1 < w1.heap.size by omega)).trans r3
          refine wpOp_step rfl (fun K hK => ?_)
          go_simp
          refine hK _ _ ⟨_, _, _, _, _, _, _, _, _, _, _, _, _, _, _, _, _, _, _, _, _, _, _, _, _, _, _, _, rfl, rfl, ⟨C1, C2⟩, ⟨i2, fun h => (by cases h), i5, i8, i10, i11, i12⟩, ⟨v1, fun _ => rfl, v7, v9, v10, v14⟩, BB⟩
        · obtain rfl := Option.some.inj ho
          obtain rfl : f4 = false := h0
          obtain rfl : f3 = true := hall ⟨3, .data⟩ (by simp) rfl
          obtain rfl : f5 = false := Bool.eq_false_iff.2 fun h => by cases (i5 h).2
          obtain rfl := v3 rfl
          refine wpOp_step rfl (fun K hK => ?_)
          go_simp
          refine hK _ _ ⟨_, _, _, _, _, _, _, _, _, _, _, _, _, _, _, _, _, _, _, _, _, _, _, _, _, _, _, _, rfl, rfl, ⟨C1.s2 _ _ rfl rfl, C2.alloc _⟩, ⟨i2, fun _ => rfl, fun h => (by cases h), i8, i10, i11, i12⟩, ⟨v1, fun _ => rfl, v7, v9, v10, v14⟩, BB.alloc hw1 _⟩
        · obtain rfl := Option.some.inj ho
          obtain rfl : f5 = false := h0
          obtain rfl : f2 = true := hall ⟨2, .data⟩ (by simp) rfl
          obtain rfl : f4 = true := hall ⟨4, .data⟩ (by simp) rfl
          obtain rfl : f8 = false := Bool.eq_false_iff.2 fun h => by cases (i8 h).2.2
          obtain ⟨rfl, rfl⟩ := i2 rfl
          have hown := C1.e1 rfl rfl
          obtain ⟨g, c, rfl, hg, -, -⟩ := C1.e2 rfl rfl
          refine wpOp_step rfl (fun K hK => ?_)
          refine Chn.op_app w rfl _ _ 32 rfl w1.heap.size 38 i0 _ 4 40 Try.underlying32 hii hz0 hz1 hz2 rfl (by omega) _ xt.length (rpC xt) rfl hown (some ⟨g, 0, none⟩) 1 c (rC r).toList rfl (fun _ => ⟨_, rfl, one_row4 hg⟩) rfl (by intro u hu; simp at hu; rcases hu with rfl | rfl | rfl | rfl <;> rfl) (by omega) (by omega) hw1 ?_
          intro v4 w4 ho4 hg4 _
          refine hK _ _ ⟨_, _, _, _, _, _, _, _, _, _, _, _, _, _, _, _, _, _, _, _, _, _, _, _, _, _, _, _, rfl, rfl, ⟨Chn.Ch.s3 v4 ho4, C2.kept hg4 (own_ty hown (by decide))⟩, ⟨fun _ => ⟨rfl, rfl⟩, i4, fun _ => ⟨rfl, rfl⟩, fun h => (by cases h), i10, i11, i12⟩, ⟨v1, v3, v7, v9, v10, v14⟩, BB.grown hg4 hw1 (fun g e => (World.ownsRow.lt hown g e).1)⟩
        · obtain rfl := Option.some.inj ho
          obtain rfl : f6 = false := h0
          obtain rfl : f8 = false := Bool.eq_false_iff.2 fun h => by cases (i8 h).1
          refine wpOp_step rfl (fun K hK => ?_)
          go_simp
          refine hK _ _ ⟨_, _, _, _, _, _, _, _, _, _, _, _, _, _, _, _, _, _, _, _, _, _, _, _, _, _, _, _, rfl, rfl, ⟨C1.alloc _, C2.s0 hw1 _ rfl rfl⟩, ⟨i2, i4, i5, fun h => (by cases h), i10, i11, i12⟩, ⟨v1, v3, v7, v9, v10, v14⟩, BB.alloc hw1 _⟩
        · obtain rfl := Option.some.inj ho
          obtain rfl : f7 = false := h0
          obtain rfl : f8 = false := Bool.eq_false_iff.2 fun h => by cases (i8 h).2.1
          refine wpOp_step rfl (fun K hK => ?_)
          go_simp
          refine hK _ _ ⟨_, _, _, _, _, _, _, _, _, _, _, _, _, _, _, _, _, _, _, _, _, _, _, _, _, _, _, _, rfl, rfl, ⟨C1, C2⟩, ⟨i2, i4, i5, fun h => (by cases h), i10, i11, i12⟩, ⟨v1, v3, fun _ => rfl, v9, v10, v14⟩, BB⟩
        · obtain rfl := Option.some.inj ho
          obtain rfl : f8 = false := h0
          obtain rfl : f6 = true := hall ⟨6, .data⟩ (by simp) rfl
          obtain rfl : f7 = true := hall ⟨7, .data⟩ (by simp) rfl
          obtain rfl : f5 = true := hall ⟨5, .chain⟩ (by simp) rfl
          obtain rfl := v7 rfl
          have hown := C2.e0 rfl rfl
          refine wpOp_step rfl (fun K hK => ?_)
          refine Chn.op_app w rfl _ _ 25 rfl w1.heap.size 9 j0 _ 1 16 Try.underlying25 hjj hy0 hy1 hy2 rfl (by omega) _ 0 [] rfl hown aY nt.length (c2 - 1) (strV nt) rfl (tx_row (HXR.out.blw (BB.mono hBw1))).2 (by rw [strV_len, Nat.mul_one]) HT1C.out (by omega) (by omega) hw1 ?_
          intro v4 w4 ho4 hg4 hp4
          rw [Nat.zero_add] at ho4
          refine hK _ _ ⟨_, _, _, _, _, _, _, _, _, _, _, _, _, _, _, _, _, _, _, _, _, _, _, _, _, _, _, _, rfl, rfl, ⟨C1.kept hg4 (own_ty hown (by decide)), C2.s1 v4 ho4 hg4 hp4⟩, ⟨i2, i4, i5, fun _ => ⟨rfl, rfl, rfl⟩, i10, i11, fun h => (by cases h)⟩, ⟨v1, v3, fun _ => rfl, v9, v10, v14⟩, BB.grown hg4 hw1 (fun g e => (World.ownsRow.lt hown g e).1)⟩
        · obtain rfl := Option.some.inj ho
          obtain rfl : f9 = false := h0
          obtain rfl : f10 = false := Bool.eq_false_iff.2 fun h => by cases i10 h
          refine wpOp_step rfl (fun K hK => ?_)
          go_simp
          refine hK _ _ ⟨_, _, _, _, _, _, _, _, _, _, _, _, _, _, _, _, _, _, _, _, _, _, _, _, _, _, _, _, rfl, rfl, ⟨C1, C2⟩, ⟨i2, i4, i5, i8, fun h => (by cases h), i11, i12⟩, ⟨v1, v3, v7, fun _ => rfl, v10, v14⟩, BB⟩
        · obtain rfl := Option.some.inj ho
          obtain rfl : f10 = false := h0
          obtain rfl : f9 = true := hall ⟨9, .data⟩ (by simp) rfl
          obtain rfl : f11 = false := Bool.eq_false_iff.2 fun h => by cases i11 h
          obtain rfl := v9 rfl
          have k3 := (BB.cell (p := ⟨W.heap.size + 1, 3, none⟩) (show W.heap.size + 1 < w1.heap.size by omega)).trans r3
          refine wpOp_step rfl (fun K hK => ?_)
          go_simp
          refine hK _ _ ⟨_, _, _, _, _, _, _, _, _, _, _, _, _, _, _, _, _, _, _, _, _, _, _, _, _, _, _, _, rfl, rfl, ⟨C1, C2⟩, ⟨i2, i4, i5, i8, fun _ => rfl, fun h => (by cases h), i12⟩, ⟨v1, v3, v7, fun _ => rfl, fun _ => rfl, v14⟩, BB⟩
        · obtain rfl := Option.some.inj ho
          obtain rfl : f11 = false := h0
          obtain rfl : f10 = true := hall ⟨10, .data⟩ (by simp) rfl
          obtain rfl := v10 rfl
          refine wpOp_step rfl (fun K hK => ?_)
          go_simp
          refine hK _ _ ⟨_, _, _, _, _, _, _, _, _, _, _, _, _, _, _, _, _, _, _, _, _, _, _, _, _, _, _, _, rfl, rfl, ⟨C1.alloc _, C2.s2 _ _ rfl rfl⟩, ⟨i2, i4, i5, i8, i10, fun _ => rfl, fun h => (by cases h)⟩, ⟨v1, v3, v7, fun _ => rfl, fun _ => rfl, v14⟩, BB.alloc hw1 _⟩
        · obtain rfl := Option.some.inj ho
          obtain rfl : f8 = true := hall ⟨8, .data⟩ (by simp) rfl
          obtain rfl : f11 = true := hall ⟨11, .data⟩ (by simp) rfl
          obtain ⟨rfl, rfl, rfl⟩ := i8 rfl
          have hown := C2.e1 rfl rfl
          obtain ⟨g, c, rfl, hg, -, -⟩ := C2.e2 rfl rfl
          refine wpOp_step rfl (fun K hK => ?_)
          refine Chn.op_app w rfl _ _ 25 rfl w1.heap.size 9 j0 _ 1 16 Try.underlying25 hjj hy0 hy1 hy2 rfl (by omega) _ nt.length (strV nt) rfl hown (some ⟨g, 0, none⟩) 1 c [.string ⟨r.body.toArray⟩] rfl (fun _ => ⟨_, rfl, one_rowS hg⟩) rfl (by intro u hu; simp at hu; subst hu; rfl) (by omega) (by omega) hw1 ?_
          intro v4 w4 ho4 hg4 _
          refine hK _ _ ⟨_, _, _, _, _, _, _, _, _, _, _, _, _, _, _, _, _, _, _, _, _, _, _, _, _, _, _, _, rfl, rfl, ⟨C1.kept hg4 (own_ty hown (by decide)), Chn.Ch.s3 v4 ho4⟩, ⟨i2, i4, i5, fun _ => ⟨rfl, rfl, rfl⟩, i10, i11, fun _ => ⟨rfl, rfl⟩⟩, ⟨v1, v3, v7, v9, v10, v14⟩, BB.grown hg4 hw1 (fun g e => (World.ownsRow.lt hown g e).1)⟩
        · obtain rfl := Option.some.inj ho
          exact absurd (show false = true from hall ⟨12, .data⟩ (by simp) rfl) (by simp)
        · obtain rfl := Option.some.inj ho
          obtain rfl : f14 = false := h0
          refine wpOp_step rfl (fun K hK => ?_)
          go_simp
          refine hK _ _ ⟨_, _, _, _, _, _, _, _, _, _, _, _, _, _, _, _, _, _, _, _, _, _, _, _, _, _, _, _, rfl, rfl, ⟨C1, C2⟩, ⟨i2, i4, i5, i8, i10, i11, i12⟩, ⟨v1, v3, v7, v9, v10, fun _ => rfl⟩, BB⟩
        · obtain rfl := Option.some.inj ho
          exact absurd (show false = true from hall ⟨13, .data⟩ (by simp) rfl) (by simp)
        · obtain rfl := Option.some.inj ho
          exact absurd (show false = true from hall ⟨13, .phase⟩ (by simp) rfl) (by simp)
        · obtain rfl := Option.some.inj ho
          exact absurd (show false = true from hall ⟨13, .phase⟩ (by simp) rfl) (by simp)
      · rintro l a w ⟨f0, f1, f2, f3, f4, f5, f6, f7, f8, f9, f10, f11, f12, f14, u34, u35, u36, u37, u38, u39, u40, u41, u42, u43, u44, u45, u46, u48, rfl, rfl, ⟨C1, C2⟩, ⟨i2, i4, i5, i8, i10, i11, i12⟩, ⟨v1, v3, v7, v9, v10, v14⟩, BB⟩ hD
        obtain rfl : f12 = true := hD
        obtain ⟨rfl, rfl⟩ := i12 rfl
        obtain ⟨rfl, rfl, rfl⟩ := i8 rfl
        obtain ⟨rfl, rfl⟩ := i5 rfl
        obtain ⟨rfl, rfl⟩ := i2 rfl
        obtain rfl := i4 rfl
        obtain rfl := i11 rfl
        obtain rfl := i10 rfl
        have hI := C1.e3 rfl
        have hR := C2.e3 rfl
        have k0 := (BB.cell (p := ⟨W.heap.size + 1 + 1, 0, none⟩) z1).trans s0
        have k1 := (BB.cell (p := ⟨W.heap.size + 1 + 1, 1, none⟩) z1).trans s1
        have kf := fun o => (BB.frozen (p := ⟨W.heap.size + 1 + 1, o, none⟩) z1).trans (sf o)
        have hHd := (BB.block (W.heap.size + 1 + 1) z1).trans H2.out
        obtain ⟨a7, c7, rfl⟩ := own_slice hI
        obtain ⟨a8, c8, rfl⟩ := own_slice hR
        have HIF := Lib.hid hI
        have HRF := Lib.hid hR
        have HBB := Lib.hid BB
        have HHD := Lib.hid hHd
        clear C1 C2 hI hR hHd i2 i4 i5 i8 i10 i11 i12 v1 v3 v7 v9 v10
        cases f14 with
        | false =>
          change wpAny _ _ _ _ 5 _ _ _
          refine wpAny_take (i := 14) (v := .int .i64 gid) rfl (by kernel_rfl) (by kernel_rfl) (by kernel_rfl) (fun _ _ _ h => h) (Or.inl ⟨by rfl, fun _ => rfl⟩) ?_
          change wpAny _ _ _ _ 4 #[true, true, true, true, true, true, true, true, true, true, true, true, true, false, true, false, false, false] { tmps := #[qV (.slice (some ⟨bI, oI, none⟩) q.items.length c1) (.slice a2 q.recent.length c2), rV r, .pointer (some ⟨W.heap.size, 0, none⟩), .pointer (some ⟨W.heap.size + 1, 0, none⟩), .pointer (some ⟨W.heap.size + 1 + 1, 0, none⟩), .bool false, .int .i64 0, .int .i64 gid, .slice aX xt.length (c1 - 1), .slice aY nt.length (c2 - 1), .pointer (some ⟨W.heap.size, 1, none⟩), .slice a2 q.recent.length c2, .pointer (some ⟨W.heap.size + 1, 3, none⟩), .string ⟨r.body.toArray⟩, .bool false, undef, .pointer (some ⟨W.heap.size, 0, none⟩), .slice (some ⟨bI, oI, none⟩) q.items.length c1, .slice (some ⟨bI, oI, none⟩) q.items.length c1, .int .i64 (q.items.length : Int), .bool true, .slice (some ⟨bI, oI, none⟩) q.items.length c1, .pointer (some ⟨bI, oI, none⟩), .pointer (some ⟨bI, oI, none⟩), .int .i64 gid, .slice (some ⟨bI, oI, none⟩) q.items.length c1, .slice aX xt.length (c1 - 1), .pointer (some ⟨W.heap.size, 1, none⟩), .slice a2 q.recent.length c2, .slice a2 q.recent.length c2, .int .i64 (q.recent.length : Int), .bool true, .slice a2 q.recent.length c2, .slice aY nt.length (c2 - 1), u34, u35, u36, u37, u38, .slice a7 (xt.length + 1) c7, u40, u41, u42, u43, u44, u45, .slice a8 (nt.length + 1) c8, undef, .int .i64 gid], defers := [] } w
          refine wpAny_take (i := 13) (v := .agg #[.slice a7 (xt.length + 1) c7, .slice a8 (nt.length + 1) c8]) rfl (by kernel_rfl) (by kernel_rfl) (by kernel_rfl) (fun _ _ _ h => h) (Or.inl ⟨by rfl, fun _ => by go_simp⟩) ?_
          try simp only [Act.put, List.setIfInBounds_toArray, List.set_cons_zero, List.set_cons_succ]
          refine wpAny_ready (rs := [15]) (by kernel_rfl) (by simp) (AllReady.cons rfl (fun K hK => ?_) AllReady.nil)
          go_simp
          refine hK _ _ ?_
          refine wpAny_take (i := 16) (v := .bool true) rfl (by kernel_rfl) (by kernel_rfl) (by kernel_rfl) (fun _ _ _ h => h) (Or.inl ⟨by rfl, fun _ => rfl⟩) ?_
          refine wpAny_take (i := 17) (v := .int .i64 gid) rfl (by kernel_rfl) (by kernel_rfl) (by kernel_rfl) (fun _ _ _ h => h) (Or.inl ⟨by rfl, fun _ => rfl⟩) ?_
          refine wpAny_done (by kernel_rfl) ?_ _
          try simp only [Act.put, List.setIfInBounds_toArray]
          have HHF := Lib.hid (show Hd (set2 w (W.heap.size + 1 + 1) 0 (.slice a7 (xt.length + 1) c7) (.slice a8 (nt.length + 1) c8)) (W.heap.size + 1 + 1) (iqO (.slice a7 (xt.length + 1) c7) (.slice a8 (nt.length + 1) c8)) from Hd.set2 HHD.out _ _)
          have HNF := Lib.hid (HNEW.out w _ _ _ _ HIF.out HRF.out HBB.out)
          go_wp2
          exact bodyPost_ret (ret_S Try.results22 rfl rfl rfl HHF.out) rfl HNF.out
        | true =>
          obtain rfl := v14 rfl
          change wpAny _ _ _ _ 4 #[true, true, true, true, true, true, true, true, true, true, true, true, true, false, true, false, false, false] { tmps := #[qV (.slice (some ⟨bI, oI, none⟩) q.items.length c1) (.slice a2 q.recent.length c2), rV r, .pointer (some ⟨W.heap.size, 0, none⟩), .pointer (some ⟨W.heap.size + 1, 0, none⟩), .pointer (some ⟨W.heap.size + 1 + 1, 0, none⟩), .bool false, .int .i64 0, .int .i64 gid, .slice aX xt.length (c1 - 1), .slice aY nt.length (c2 - 1), .pointer (some ⟨W.heap.size, 1, none⟩), .slice a2 q.recent.length c2, .pointer (some ⟨W.heap.size + 1, 3, none⟩), .string ⟨r.body.toArray⟩, .bool false, undef, .pointer (some ⟨W.heap.size, 0, none⟩), .slice (some ⟨bI, oI, none⟩) q.items.length c1, .slice (some ⟨bI, oI, none⟩) q.items.length c1, .int .i64 (q.items.length : Int), .bool true, .slice (some ⟨bI, oI, none⟩) q.items.length c1, .pointer (some ⟨bI, oI, none⟩), .pointer (some ⟨bI, oI, none⟩), .int .i64 gid, .slice (some ⟨bI, oI, none⟩) q.items.length c1, .slice aX xt.length (c1 - 1), .pointer (some ⟨W.heap.size, 1, none⟩), .slice a2 q.recent.length c2, .slice a2 q.recent.length c2, .int .i64 (q.recent.length : Int), .bool true, .slice a2 q.recent.length c2, .slice aY nt.length (c2 - 1), u34, u35, u36, u37, u38, .slice a7 (xt.length + 1) c7, u40, u41, u42, u43, u44, u45, .slice a8 (nt.length + 1) c8, undef, .int .i64 gid], defers := [] } w
          refine wpAny_take (i := 13) (v := .agg #[.slice a7 (xt.length + 1) c7, .slice a8 (nt.length + 1) c8]) rfl (by kernel_rfl) (by kernel_rfl) (by kernel_rfl) (fun _ _ _ h => h) (Or.inl ⟨by rfl, fun _ => by go_simp⟩) ?_
          try simp only [Act.put, List.setIfInBounds_toArray, List.set_cons_zero, List.set_cons_succ]
          refine wpAny_ready (rs := [15]) (by kernel_rfl) (by simp) (AllReady.cons rfl (fun K hK => ?_) AllReady.nil)
          go_simp
          refine hK _ _ ?_
          refine wpAny_take (i := 16) (v := .bool true) rfl (by kernel_rfl) (by kernel_rfl) (by kernel_rfl) (fun _ _ _ h => h) (Or.inl ⟨by rfl, fun _ => rfl⟩) ?_
          refine wpAny_take (i := 17) (v := .int .i64 gid) rfl (by kernel_rfl) (by kernel_rfl) (by kernel_rfl) (fun _ _ _ h => h) (Or.inl ⟨by rfl, fun _ => rfl⟩) ?_
          refine wpAny_done (by kernel_rfl) ?_ _
          try simp only [Act.put, List.setIfInBounds_toArray]
          have HHF := Lib.hid (show Hd (set2 w (W.heap.size + 1 + 1) 0 (.slice a7 (xt.length + 1) c7) (.slice a8 (nt.length + 1) c8)) (W.heap.size + 1 + 1) (iqO (.slice a7 (xt.length + 1) c7) (.slice a8 (nt.length + 1) c8)) from Hd.set2 HHD.out _ _)
          have HNF := Lib.hid (HNEW.out w _ _ _ _ HIF.out HRF.out HBB.out)
          go_wp2
          exact bodyPost_ret (ret_S Try.results22 rfl rfl rfl HHF.out) rfl HNF.out
      · exact ⟨false, false, false, false, false, false, false, false, false, false, false, false, false, false, undef, undef, undef, undef, undef, undef, undef, undef, undef, undef, undef, undef, undef, undef, rfl, rfl, ⟨Chn.Ch.none _ _ _ _ _ _ _ _ _ _ _, Chn.Ch.none _ _ _ _ _ _ _ _ _ _ _⟩, ⟨fun h => (by cases h), fun h => (by cases h), fun h => (by cases h), fun h => (by cases h), fun h => (by cases h), fun h => (by cases h), fun h => (by cases h)⟩, ⟨fun h => (by cases h), fun h => (by cases h), fun h => (by cases h), fun h => (by cases h), fun h => (by cases h), fun h => (by cases h)⟩, Below.drew (Below.refl _ _)⟩
    · have hDI := RpIn.drop HI1.out 1 (by omega)
      rw [List.drop_one] at hDI
      have hsi := fun w => run_dropR w a1 q.items.length c1 1 (by omega)
      obtain ⟨aI, cI, bI, oI, eI, -, hcm, -, hAI, hCI⟩ := HI1.out
      obtain ⟨rfl, -⟩ := hAI (by omega)
      injection eI with eI1 eI2 eI3
      obtain ⟨k0, -⟩ := hCI 0 (by omega)
      rw [Nat.zero_mul, Nat.add_zero] at k0
      subst eI1
      obtain ⟨aX, hax⟩ : ∃ x, (if c1 = 1 then (some ⟨bI, oI, none⟩ : Option Addr) else (some ⟨bI, oI, none⟩ : Option Addr).map (fun x => x.add (1 * 4))) = x := ⟨_, rfl⟩
      rw [hax] at hDI hsi
      have HXI := Lib.hid hDI
      have hlx : q.items.tail.length = q.items.length - 1 := by simp
      obtain ⟨gid, hgid⟩ : ∃ g, (q.items.getD 0 default).id = g := ⟨_, rfl⟩
      rw [hgid] at k0
      have HGE := Lib.hid (show gid = (olR q.items).id by unfold olR; rw [if_pos h5]; exact hgid.symm)
      have HADR := Lib.hid (show adR q.items r = q.items.tail ++ [r] by unfold adR; rw [if_pos h5])
      rw [show ((1 : Nat) : Int) = 1 from rfl] at hsi
      have hpos : (0 : Int) < (q.items.length : Int) := by omega
      clear hax hDI hgid hCI hAI eI2 eI3
      have HXR := Lib.hid HR1.out
      have g5 : ((q.items.length : Int) == 5) = true := by simp; omega
      have g6 : ((q.recent.length : Int) == 6) = false := by simp; omega
      have H5 := Lib.hid h5
      have H6 := Lib.hid h6
      clear h5 h6
      go_enter Try.func22, Try.ntmps22
      go_wp2_with fail
      rw [← hw1]
      clear hw1
      refine HH.out.mono ?_
      rintro e _ ⟨rfl, rfl⟩
      go_upto_region 11 with fail
      rw [← hlx] at HXI ⊢
      have HNEW := Lib.hid (fun (w : World) a7 c7 a8 c8 h1 h2 h3 => lo_new (W := W) (w1 := w1) (w := w) (q := q) (r := r) (xs := q.items.tail) (ns := q.recent) (b := gid) hc HGE.out (by unfold adR; rw [if_pos H5.out]) (by unfold adT; rw [if_neg H6.out]) HFX.out HFTT.out BF.out z1 a7 c7 a8 c8 h1 h2 h3)
      clear g5 g6
      have hxl : q.items.tail.length ≤ 5 := by omega
      clear hlx hsi
      generalize q.items.tail = xt at *
      obtain ⟨i0, hii, hz0, hz1, hz2⟩ := info_parts Try.infoRp
      obtain ⟨j0, hjj, hy0, hy1, hy2⟩ := info_parts Try.infoTxt
      have HR1C := Lib.hid (rpC_one xt)
      have HT1C := Lib.hid (strV_one q.recent)
      refine wp_region_any (by kernel_rfl) ?_
      refine Inv.wpAny_inv (fun l a w => ∃ (f0 f1 f2 f3 f4 f5 f6 f7 f8 f9 f10 f11 f12 f14 : Bool) (u34 u35 u36 u37 u38 u39 u40 u41 u42 u43 u44 u45 u46 u48 : Value), l = #[f0, f1, f2, f3, f4, f5, f6, f7, f8, f9, f10, f11, f12, false, f14, false, false, false] ∧ a = { tmps := #[qV (.slice (some ⟨bI, oI, none⟩) q.items.length c1) (.slice a2 q.recent.length c2), rV r, .pointer (some ⟨W.heap.size, 0, none⟩), .pointer (some ⟨W.heap.size + 1, 0, none⟩), .pointer (some ⟨W.heap.size + 1 + 1, 0, none⟩), .bool false, .int .i64 0, .int .i64 gid, .slice aX xt.length (c1 - 1), .slice a2 q.recent.length c2, .pointer (some ⟨W.heap.size, 1, none⟩), .slice a2 q.recent.length c2, .pointer (some ⟨W.heap.size + 1, 3, none⟩), .string ⟨r.body.toArray⟩, .bool false, undef, .pointer (some ⟨W.heap.size, 0, none⟩), .slice (some ⟨bI, oI, none⟩) q.items.length c1, .slice (some ⟨bI, oI, none⟩) q.items.length c1, .int .i64 (q.items.length : Int), .bool true, .slice (some ⟨bI, oI, none⟩) q.items.length c1, .pointer (some ⟨bI, oI, none⟩), .pointer (some ⟨bI, oI, none⟩), .int .i64 gid, .slice (some ⟨bI, oI, none⟩) q.items.length c1, .slice aX xt.length (c1 - 1), .pointer (some ⟨W.heap.size, 1, none⟩), .slice a2 q.recent.length c2, .slice a2 q.recent.length c2, .int .i64 (q.recent.length : Int), .bool false, undef, undef, u34, u35, u36, u37, u38, u39, u40, u41, u42, u43, u44, u45, u46, undef, u48], defers := [] } ∧ (Chn.Ch w w1.heap.size 38 4 xt.length (rpC xt) (rC r).toList f0 f2 f4 f5 u34 u36 u38 u39 ∧ Chn.Ch w w1.heap.size 9 1 q.recent.length (strV q.recent) [.string ⟨r.body.toArray⟩] f6 f8 f11 f12 u40 u42 u45 u46) ∧ ((f2 = true → f0 = true ∧ f1 = true) ∧ (f4 = true → f3 = true) ∧ (f5 = true → f2 = true ∧ f4 = true) ∧ (f8 = true → f6 = true ∧ f7 = true ∧ f5 = true) ∧ (f10 = true → f9 = true) ∧ (f11 = true → f10 = true) ∧ (f12 = true → f8 = true ∧ f11 = true)) ∧ ((f1 = true → u35 = .slice aX xt.length (c1 - 1)) ∧ (f3 = true → u37 = rV r) ∧ (f7 = true → u41 = .slice a2 q.recent.length c2) ∧ (f9 = true → u43 = .pointer (some ⟨W.heap.size + 1, 3, none⟩)) ∧ (f10 = true → u44 = .string ⟨r.body.toArray⟩) ∧ (f14 = true → u48 = .int .i64 gid)) ∧ Below w1.heap.size w1 w) 12 (of_decide_eq_true (by kernel_rfl)) (by kernel_rfl) ?_ ?_ ?_ _ _ _ _ (by kernel_rfl) ?_
      · rintro l a w ⟨f0, f1, f2, f3, f4, f5, f6, f7, f8, f9, f10, f11, f12, f14, u34, u35, u36, u37, u38, u39, u40, u41, u42, u43, u44, u45, u46, u48, rfl, -⟩
        rfl
      · rintro l a w ⟨f0, f1, f2, f3, f4, f5, f6, f7, f8, f9, f10, f11, f12, f14, u34, u35, u36, u37, u38, u39, u40, u41, u42, u43, u44, u45, u46, u48, rfl, rfl, ⟨C1, C2⟩, ⟨i2, i4, i5, i8, i10, i11, i12⟩, ⟨v1, v3, v7, v9, v10, v14⟩, BB⟩ hD i hi
        obtain rfl : f12 = false := hD
        obtain ⟨h0, op, ho, hall⟩ := mem_ready.1 hi
        have hlt : i < 18 := (Array.getElem?_eq_some_iff.1 ho).1
        have hw1 : w1.heap.size ≤ w.heap.size := BB.size
        have hd14 : op = op := rfl
        clear hi
        rcases (show i = 0 ∨ i = 1 ∨ i = 2 ∨ i = 3 ∨ i = 4 ∨ i = 5 ∨ i = 6 ∨ i = 7 ∨ i = 8 ∨ i = 9 ∨ i = 10 ∨ i = 11 ∨ i = 12 ∨ i = 13 ∨ i = 14 ∨ i = 15 ∨ i = 16 ∨ i = 17 by omega) with rfl | rfl | rfl | rfl | rfl | rfl | rfl | rfl | rfl | rfl | rfl | rfl | rfl | rfl | rfl | rfl | rfl | rfl
        · obtain rfl := Option.some.inj ho
          obtain rfl : f0 = false := h0
          obtain rfl : f2 = false := Bool.eq_false_iff.2 fun h => by cases (i2 h).1
          refine wpOp_step rfl (fun K hK => ?_)
          go_simp
          refine hK _ _ ⟨_, _, _, _, _, _, _, _, _, _, _, _, _, _, _, _, _, _, _, _, _, _, _, _, _, _, _, _, rfl, rfl, ⟨C1.s0 hw1 _ rfl rfl, C2.alloc _⟩, ⟨fun h => (by cases h), i4, i5, i8, i10, i11, i12⟩, ⟨v1, v3, v7, v9, v10, v14⟩, BB.alloc hw1 _⟩
        · obtain rfl := Option.some.inj ho
          obtain rfl : f1 = false := h0
          obtain rfl : f2 = false := Bool.eq_false_iff.2 fun h => by cases (i2 h).2
          refine wpOp_step rfl (fun K hK => ?_)
          go_simp
          refine hK _ _ ⟨_, _, _, _, _, _, _, _, _, _, _, _, _, _, _, _, _, _, _, _, _, _, _, _, _, _, _, _, rfl, rfl, ⟨C1, C2⟩, ⟨fun h => (by cases h), i4, i5, i8, i10, i11, i12⟩, ⟨fun _ => rfl, v3, v7, v9, v10, v14⟩, BB⟩
        · obtain rfl := Option.some.inj ho
          obtain rfl : f2 = false := h0
          obtain rfl : f0 = true := hall ⟨0, .data⟩ (by simp) rfl
          obtain rfl : f1 = true := hall ⟨1, .data⟩ (by simp) rfl
          obtain rfl : f5 = false := Bool.eq_false_iff.2 fun h => by cases (i5 h).1
          obtain rfl := v1 rfl
          have hown := C1.e0 rfl rfl
          refine wpOp_step rfl (fun K hK => ?_)
          refine Chn.op_app w rfl _ _ 32 rfl w1.heap.size 38 i0 _ 4 40 Try.underlying32 hii hz0 hz1 hz2 rfl (by omega) _ 0 [] rfl hown aX xt.length (c1 - 1) (rpC xt) rfl (rp_row (HXI.out.blw (BB.mono hBw1))) (rpC_len _) HR1C.out (by omega) (by omega) hw1 ?_
          intro v4 w4 ho4 hg4 hp4
          rw [Nat.zero_add] at ho4
          refine hK _ _ ⟨_, _, _, _, _, _, _, _, _, _, _, _, _, _, _, _, _, _, _, _, _, _, _, _, _, _, _, _, rfl, rfl, ⟨C1.s1 v4 ho4 hg4 hp4, C2.kept hg4 (own_ty hown (by decide))⟩, ⟨fun _ => ⟨rfl, rfl⟩, i4, fun h => (by cases h), i8, i10, i11, i12⟩, ⟨fun _ => rfl, v3, v7, v9, v10, v14⟩, BB.grown hg4 hw1 (fun g e => (World.ownsRow.lt hown g e).1)⟩
        · obtain rfl := Option.some.inj ho
          obtain rfl : f3 = false := h0
          obtain rfl : f4 = false := Bool.eq_false_iff.2 fun h => by cases i4 h
          have k0 := (BB.cell (p := ⟨W.heap.size + 1, 0, none⟩) (show W.heap.size + 1 < w1.heap.size by omega)).trans r0
          have k1 := (BB.cell (p := ⟨W.heap.size + 1, 1, none⟩) (show W.heap.size + 1 < w1.heap.size by omega)).trans r1
          have k2 := (BB.cell (p := ⟨W.heap.size + 1, 2, none⟩) (show W.heap.size + 1 < w1.heap.size by omega)).trans r2
          have k3 := (BB.cell (p := ⟨W.heap.size + 1, 3, none⟩) (show W.heap.size + 1 < w1.heap.size by omega)).trans r3
          refine wpOp_step rfl (fun K hK => ?_)
          go_simp
          refine hK _ _ ⟨_, _, _, _, _, _, _, _, _, _, _, _, _, _, _, _, _, _, _, _, _, _, _, _, _, _, _, _, rfl, rfl, ⟨C1, C2⟩, ⟨i2, fun h => (by cases h), i5, i8, i10, i11, i12⟩, ⟨v1, fun _ => rfl, v7, v9, v10, v14⟩, BB⟩
        · obtain rfl := Option.some.inj ho
          obtain rfl : f4 = false := h0
          obtain rfl : f3 = true := hall ⟨3, .data⟩ (by simp) rfl
          obtain rfl : f5 = false := Bool.eq_false_iff.2 fun h => by cases (i5 h).2
          obtain rfl := v3 rfl
          refine wpOp_step rfl (fun K hK => ?_)
          go_simp
          refine hK _ _ ⟨_, _, _, _, _, _, _, _, _, _, _, _, _, _, _, _, _, _, _, _, _, _, _, _, _, _, _, _, rfl, rfl, ⟨C1.s2 _ _ rfl rfl, C2.alloc _⟩, ⟨i2, fun _ => rfl, fun h => (by cases h), i8, i10, i11, i12⟩, ⟨v1, fun _ => rfl, v7, v9, v10, v14⟩, BB.alloc hw1 _⟩
        · obtain rfl := Option.some.inj ho
          obtain rfl : f5 = false := h0
          obtain rfl : f2 = true := hall ⟨2, .data⟩ (by simp) rfl
          obtain rfl : f4 = true := hall ⟨4, .data⟩ (by simp) rfl
          obtain rfl : f8 = false := Bool.eq_false_iff.2 fun h => by cases (i8 h).2.2
          obtain ⟨rfl, rfl⟩ := i2 rfl
          have hown := C1.e1 rfl rfl
          obtain ⟨g, c, rfl, hg, -, -⟩ := C1.e2 rfl rfl
          refine wpOp_step rfl (fun K hK => ?_)
          refine Chn.op_app w rfl _ _ 32 rfl w1.heap.size 38 i0 _ 4 40 Try.underlying32 hii hz0 hz1 hz2 rfl (by omega) _ xt.length (rpC xt) rfl hown (some ⟨g, 0, none⟩) 1 c (rC r).toList rfl (fun _ => ⟨_, rfl, one_row4 hg⟩) rfl (by intro u hu; simp at hu; rcases hu with rfl | rfl | rfl | rfl <;> rfl) (by omega) (by omega) hw1 ?_
          intro v4 w4 ho4 hg4 _
          refine hK _ _ ⟨_, _, _, _, _, _, _, _, _, _, _, _, _, _, _, _, _, _, _, _, _, _, _, _, _, _, _, _, rfl, rfl, ⟨Chn.Ch.s3 v4 ho4, C2.kept hg4 (own_ty hown (by decide))⟩, ⟨fun _ => ⟨rfl, rfl⟩, i4, fun _ => ⟨rfl, rfl⟩, fun h => (by cases h), i10, i11, i12⟩, ⟨v1, v3, v7, v9, v10, v14⟩, BB.grown hg4 hw1 (fun g e => (World.ownsRow.lt hown g e).1)⟩
        · obtain rfl := Option.some.inj ho
          obtain rfl : f6 = false := h0
          obtain rfl : f8 = false := Bool.eq_false_iff.2 fun h => by cases (i8 h).1
          refine wpOp_step rfl (fun K hK => ?_)
          go_simp
          refine hK _ _ ⟨_, _, _, _, _, _, _, _, _, _, _, _, _, _, _, _, _, _, _, _, _, _, _, _, _, _, _, _, rfl, rfl, ⟨C1.alloc _, C2.s0 hw1 _ rfl rfl⟩, ⟨i2, i4, i5, fun h => (by cases h), i10, i11, i12⟩, ⟨v1, v3, v7, v9, v10, v14⟩, BB.alloc hw1 _⟩
        · obtain rfl := Option.some.inj ho
          obtain rfl : f7 = false := h0
          obtain rfl : f8 = false := Bool.eq_false_iff.2 fun h => by cases (i8 h).2.1
          refine wpOp_step rfl (fun K hK => ?_)
          go_simp
          refine hK _ _ ⟨_, _, _, _, _, _, _, _, _, _, _, _, _, _, _, _, _, _, _, _, _, _, _, _, _, _, _, _, rfl, rfl, ⟨C1, C2⟩, ⟨i2, i4, i5, fun h => (by cases h), i10, i11, i12⟩, ⟨v1, v3, fun _ => rfl, v9, v10, v14⟩, BB⟩
        · obtain rfl := Option.some.inj ho
          obtain rfl : f8 = false := h0
          obtain rfl : f6 = true := hall ⟨6, .data⟩ (by simp) rfl
          obtain rfl : f7 = true := hall ⟨7, .data⟩ (by simp) rfl
          obtain rfl : f5 = true := hall ⟨5, .chain⟩ (by simp) rfl
          obtain rfl := v7 rfl
          have hown := C2.e0 rfl rfl
          refine wpOp_step rfl (fun K hK => ?_)
          refine Chn.op_app w rfl _ _ 25 rfl w1.heap.size 9 j0 _ 1 16 Try.underlying25 hjj hy0 hy1 hy2 rfl (by omega) _ 0 [] rfl hown a2 q.recent.length c2 (strV q.recent) rfl (tx_row (HXR.out.blw (BB.mono hBw1))).2 (by rw [strV_len, Nat.mul_one]) HT1C.out (by omega) (by omega) hw1 ?_
          intro v4 w4 ho4 hg4 hp4
          rw [Nat.zero_add] at ho4
          refine hK _ _ ⟨_, _, _, _, _, _, _, _, _, _, _, _, _, _, _, _, _, _, _, _, _, _, _, _, _, _, _, _, rfl, rfl, ⟨C1.kept hg4 (own_ty hown (by decide)), C2.s1 v4 ho4 hg4 hp4⟩, ⟨i2, i4, i5, fun _ => ⟨rfl, rfl, rfl⟩, i10, i11, fun h => (by cases h)⟩, ⟨v1, v3, fun _ => rfl, v9, v10, v14⟩, BB.grown hg4 hw1 (fun g e => (World.ownsRow.lt hown g e).1)⟩
        · obtain rfl := Option.some.inj ho
          obtain rfl : f9 = false := h0
          obtain rfl : f10 = false := Bool.eq_false_iff.2 fun h => by cases i10 h
          refine wpOp_step rfl (fun K hK => ?_)
          go_simp
          refine hK _ _ ⟨_, _, _, _, _, _, _, _, _, _, _, _, _, _, _, _, _, _, _, _, _, _, _, _, _, _, _, _, rfl, rfl, ⟨C1, C2⟩, ⟨i2, i4, i5, i8, fun h => (by cases h), i11, i12⟩, ⟨v1, v3, v7, fun _ => rfl, v10, v14⟩, BB⟩
        · obtain rfl := Option.some.inj ho
          obtain rfl : f10 = false := h0
          obtain rfl : f9 = true := hall ⟨9, .data⟩ (by simp) rfl
          obtain rfl : f11 = false := Bool.eq_false_iff.2 fun h => by cases i11 h
          obtain rfl := v9 rfl
          have k3 := (BB.cell (p := ⟨W.heap.size + 1, 3, none⟩) (show W.heap.size + 1 < w1.heap.size by omega)).trans r3
          refine wpOp_step rfl (fun K hK => ?_)
          go_simp
          refine hK _ _ ⟨_, _, _, _, _, _, _, _, _, _, _, _, _, _, _, _, _, _, _, _, _, _, _, _, _, _, _, _, rfl, rfl, ⟨C1, C2⟩, ⟨i2, i4, i5, i8, fun _ => rfl, fun h => (by cases h), i12⟩, ⟨v1, v3, v7, fun _ => rfl, fun _ => rfl, v14⟩, BB⟩
        · obtain rfl := Option.some.inj ho
          obtain rfl : f11 = false := h0
          obtain rfl : f10 = true := hall ⟨10, .data⟩ (by simp) rfl
          obtain rfl := v10 rfl
          refine wpOp_step rfl (fun K hK => ?_)
          go_simp
          refine hK _ _ ⟨_, _, _, _, _, _, _, _, _, _, _, _, _, _, _, _, _, _, _, _, _, _, _, _, _, _, _, _, rfl, rfl, ⟨C1.alloc _, C2.s2 _ _ rfl rfl⟩, ⟨i2, i4, i5, i8, i10, fun _ => rfl, fun h => (by cases h)⟩, ⟨v1, v3, v7, fun _ => rfl, fun _ => rfl, v14⟩, BB.alloc hw1 _⟩
        · obtain rfl := Option.some.inj ho
          obtain rfl : f8 = true := hall ⟨8, .data⟩ (by simp) rfl
          obtain rfl : f11 = true := hall ⟨11, .data⟩ (by simp) rfl
          obtain ⟨rfl, rfl, rfl⟩ := i8 rfl
          have hown := C2.e1 rfl rfl
          obtain ⟨g, c, rfl, hg, -, -⟩ := C2.e2 rfl rfl
          refine wpOp_step rfl (fun K hK => ?_)
          refine Chn.op_app w rfl _ _ 25 rfl w1.heap.size 9 j0 _ 1 16 Try.underlying25 hjj hy0 hy1 hy2 rfl (by omega) _ q.recent.length (strV q.recent) rfl hown (some ⟨g, 0, none⟩) 1 c [.string ⟨r.body.toArray⟩] rfl (fun _ => ⟨_, rfl, one_rowS hg⟩) rfl (by intro u hu; simp at hu; subst hu; rfl) (by omega) (by omega) hw1 ?_
          intro v4 w4 ho4 hg4 _
          refine hK _ _ ⟨_, _, _, _, _, _, _, _, _, _, _, _, _, _, _, _, _, _, _, _, _, _, _, _, _, _, _, _, rfl, rfl, ⟨C1.kept hg4 (own_ty hown (by decide)), Chn.Ch.s3 v4 ho4⟩, ⟨i2, i4, i5, fun _ => ⟨rfl, rfl, rfl⟩, i10, i11, fun _ => ⟨rfl, rfl⟩⟩, ⟨v1, v3, v7, v9, v10, v14⟩, BB.grown hg4 hw1 (fun g e => (World.ownsRow.lt hown g e).1)⟩
        · obtain rfl := Option.some.inj ho
          exact absurd (show false = true from hall ⟨12, .data⟩ (by simp) rfl) (by simp)
        · obtain rfl := Option.some.inj ho
          obtain rfl : f14 = false := h0
          refine wpOp_step rfl (fun K hK => ?_)
          go_simp
          refine hK _ _ ⟨_, _, _, _, _, _, _, _, _, _, _, _, _, _, _, _, _, _, _, _, _, _, _, _, _, _, _, _, rfl, rfl, ⟨C1, C2⟩, ⟨i2, i4, i5, i8, i10, i11, i12⟩, ⟨v1, v3, v7, v9, v10, fun _ => rfl⟩, BB⟩
        · obtain rfl := Option.some.inj ho
          exact absurd (show false = true from hall ⟨13, .data⟩ (by simp) rfl) (by simp)
        · obtain rfl := Option.some.inj ho
          exact absurd (show false = true from hall ⟨13, .phase⟩ (by simp) rfl) (by simp)
        · obtain rfl := Option.some.inj ho
          exact absurd (show false = true from hall ⟨13, .phase⟩ (by simp) rfl) (by simp)
      · rintro l a w ⟨f0, f1, f2, f3, f4, f5, f6, f7, f8, f9, f10, f11, f12, f14, u34, u35, u36, u37, u38, u39, u40, u41, u42, u43, u44, u45, u46, u48, rfl, rfl, ⟨C1, C2⟩, ⟨i2, i4, i5, i8, i10, i11, i12⟩, ⟨v1, v3, v7, v9, v10, v14⟩, BB⟩ hD
        obtain rfl : f12 = true := hD
        obtain ⟨rfl, rfl⟩ := i12 rfl
        obtain ⟨rfl, rfl, rfl⟩ := i8 rfl
        obtain ⟨rfl, rfl⟩ := i5 rfl
        obtain ⟨rfl, rfl⟩ := i2 rfl
        obtain rfl := i4 rfl
        obtain rfl := i11 rfl
        obtain rfl := i10 rfl
        have hI := C1.e3 rfl
        have hR := C2.e3 rfl
        have k0 := (BB.cell (p := ⟨W.heap.size + 1 + 1, 0, none⟩) z1).trans s0
        have k1 := (BB.cell (p := ⟨W.heap.size + 1 + 1, 1, none⟩) z1).trans s1
        have kf := fun o => (BB.frozen (p := ⟨W.heap.size + 1 + 1, o, none⟩) z1).trans (sf o)
        have hHd := (BB.block (W.heap.size + 1 + 1) z1).trans H2.out
        obtain ⟨a7, c7, rfl⟩ := own_slice hI
        obtain ⟨a8, c8, rfl⟩ := own_slice hR
        have HIF := Lib.hid hI
        have HRF := Lib.hid hR
        have HBB := Lib.hid BB
        have HHD := Lib.hid hHd
        clear C1 C2 hI hR hHd i2 i4 i5 i8 i10 i11 i12 v1 v3 v7 v9 v10
        cases f14 with
        | false =>
          change wpAny _ _ _ _ 5 _ _ _
          refine wpAny_take (i := 14) (v := .int .i64 gid) rfl (by kernel_rfl) (by kernel_rfl) (by kernel_rfl) (fun _ _ _ h => h) (Or.inl ⟨by rfl, fun _ => rfl⟩) ?_
          change wpAny _ _ _ _ 4 #[true, true, true, true, true, true, true, true, true, true, true, true, true, false, true, false, false, false] { tmps := #[qV (.slice (some ⟨bI, oI, none⟩) q.items.length c1) (.slice a2 q.recent.length c2), rV r, .pointer (some ⟨W.heap.size, 0, none⟩), .pointer (some ⟨W.heap.size + 1, 0, none⟩), .pointer (some ⟨W.heap.size + 1 + 1, 0, none⟩), .bool false, .int .i64 0, .int .i64 gid, .slice aX xt.length (c1 - 1), .slice a2 q.recent.length c2, .pointer (some ⟨W.heap.size, 1, none⟩), .slice a2 q.recent.length c2, .pointer (some ⟨W.heap.size + 1, 3, none⟩), .string ⟨r.body.toArray⟩, .bool false, undef, .pointer (some ⟨W.heap.size, 0, none⟩), .slice (some ⟨bI, oI, none⟩) q.items.length c1, .slice (some ⟨bI, oI, none⟩) q.items.length c1, .int .i64 (q.items.length : Int), .bool true, .slice (some ⟨bI, oI, none⟩) q.items.length c1, .pointer (some ⟨bI, oI, none⟩), .pointer (some ⟨bI, oI, none⟩), .int .i64 gid, .slice (some ⟨bI, oI, none⟩) q.items.length c1, .slice aX xt.length (c1 - 1), .pointer (some ⟨W.heap.size, 1, none⟩), .slice a2 q.recent.length c2, .slice a2 q.recent.length c2, .int .i64 (q.recent.length : Int), .bool false, undef, undef, u34, u35, u36, u37, u38, .slice a7 (xt.length + 1) c7, u40, u41, u42, u43, u44, u45, .slice a8 (q.recent.length + 1) c8, undef, .int .i64 gid], defers := [] } w
          refine wpAny_take (i := 13) (v := .agg #[.slice a7 (xt.length + 1) c7, .slice a8 (q.recent.length + 1) c8]) rfl (by kernel_rfl) (by kernel_rfl) (by kernel_rfl) (fun _ _ _ h => h) (Or.inl ⟨by rfl, fun _ => by go_simp⟩) ?_
          try simp only [Act.put, List.setIfInBounds_toArray, List.set_cons_zero, List.set_cons_succ]
          refine wpAny_ready (rs := [15]) (by kernel_rfl) (by simp) (AllReady.cons rfl (fun K hK => ?_) AllReady.nil)
          go_simp
          refine hK _ _ ?_
          refine wpAny_take (i := 16) (v := .bool true) rfl (by kernel_rfl) (by kernel_rfl) (by kernel_rfl) (fun _ _ _ h => h) (Or.inl ⟨by rfl, fun _ => rfl⟩) ?_
          refine wpAny_take (i := 17) (v := .int .i64 gid) rfl (by kernel_rfl) (by kernel_rfl) (by kernel_rfl) (fun _ _ _ h => h) (Or.inl ⟨by rfl, fun _ => rfl⟩) ?_
          refine wpAny_done (by kernel_rfl) ?_ _
          try simp only [Act.put, List.setIfInBounds_toArray]
          have HHF := Lib.hid (show Hd (set2 w (W.heap.size + 1 + 1) 0 (.slice a7 (xt.length + 1) c7) (.slice a8 (q.recent.length + 1) c8)) (W.heap.size + 1 + 1) (iqO (.slice a7 (xt.length + 1) c7) (.slice a8 (q.recent.length + 1) c8)) from Hd.set2 HHD.out _ _)
          have HNF := Lib.hid (HNEW.out w _ _ _ _ HIF.out HRF.out HBB.out)
          go_wp2
          exact bodyPost_ret (ret_S Try.results22 rfl rfl rfl HHF.out) rfl HNF.out
        | true =>
          obtain rfl := v14 rfl
          change wpAny _ _ _ _ 4 #[true, true, true, true, true, true, true, true, true, true, true, true, true, false, true, false, false, false] { tmps := #[qV (.slice (some ⟨bI, oI, none⟩) q.items.length c1) (.slice a2 q.recent.length c2), rV r, .pointer (some ⟨W.heap.size, 0, none⟩), .pointer (some ⟨W.heap.size + 1, 0, none⟩), .pointer (some ⟨W.heap.size + 1 + 1, 0, none⟩), .bool false, .int .i64 0, .int .i64 gid, .slice aX xt.length (c1 - 1), .slice a2 q.recent.length c2, .pointer (some ⟨W.heap.size, 1, none⟩), .slice a2 q.recent.length c2, .pointer (some ⟨W.heap.size + 1, 3, none⟩), .string ⟨r.body.toArray⟩, .bool false, undef, .pointer (some ⟨W.heap.size, 0, none⟩), .slice (some ⟨bI, oI, none⟩) q.items.length c1, .slice (some ⟨bI, oI, none⟩) q.items.length c1, .int .i64 (q.items.length : Int), .bool true, .slice (some ⟨bI, oI, none⟩) q.items.length c1, .pointer (some ⟨bI, oI, none⟩), .pointer (some ⟨bI, oI, none⟩), .int .i64 gid, .slice (some ⟨bI, oI, none⟩) q.items.length c1, .slice aX xt.length (c1 - 1), .pointer (some ⟨W.heap.size, 1, none⟩), .slice a2 q.recent.length c2, .slice a2 q.recent.length c2, .int .i64 (q.recent.length : Int), .bool false, undef, undef, u34, u35, u36, u37, u38, .slice a7 (xt.length + 1) c7, u40, u41, u42, u43, u44, u45, .slice a8 (q.recent.length + 1) c8, undef, .int .i64 gid], defers := [] } w
          refine wpAny_take (i := 13) (v := .agg #[.slice a7 (xt.length + 1) c7, .slice a8 (q.recent.length + 1) c8]) rfl (by kernel_rfl) (by kernel_rfl) (by kernel_rfl) (fun _ _ _ h => h) (Or.inl ⟨by rfl, fun _ => by go_simp⟩) ?_
          try simp only [Act.put, List.setIfInBounds_toArray, List.set_cons_zero, List.set_cons_succ]
          refine wpAny_ready (rs := [15]) (by kernel_rfl) (by simp) (AllReady.cons rfl (fun K hK => ?_) AllReady.nil)
          go_simp
          refine hK _ _ ?_
          refine wpAny_take (i := 16) (v := .bool true) rfl (by kernel_rfl) (by kernel_rfl) (by kernel_rfl) (fun _ _ _ h => h) (Or.inl ⟨by rfl, fun _ => rfl⟩) ?_
          refine wpAny_take (i := 17) (v := .int .i64 gid) rfl (by kernel_rfl) (by kernel_rfl) (by kernel_rfl) (fun _ _ _ h => h) (Or.inl ⟨by rfl, fun _ => rfl⟩) ?_
          refine wpAny_done (by kernel_rfl) ?_ _
          try simp only [Act.put, List.setIfInBounds_toArray]
          have HHF := Lib.hid (show Hd (set2 w (W.heap.size + 1 + 1) 0 (.slice a7 (xt.length + 1) c7) (.slice a8 (q.recent.length + 1) c8)) (W.heap.size + 1 + 1) (iqO (.slice a7 (xt.length + 1) c7) (.slice a8 (q.recent.length + 1) c8)) from Hd.set2 HHD.out _ _)
          have HNF := Lib.hid (HNEW.out w _ _ _ _ HIF.out HRF.out HBB.out)
          go_wp2
          exact bodyPost_ret (ret_S Try.results22 rfl rfl rfl HHF.out) rfl HNF.out
      · exact ⟨false, false, false, false, false, false, false, false, false, false, false, false, false, false, undef, undef, undef, undef, undef, undef, undef, undef, undef, undef, undef, undef, undef, undef, rfl, rfl, ⟨Chn.Ch.none _ _ _ _ _ _ _ _ _ _ _, Chn.Ch.none _ _ _ _ _ _ _ _ _ _ _⟩, ⟨fun h => (by cases h), fun h => (by cases h), fun h => (by cases h), fun h => (by cases h), fun h => (by cases h), fun h => (by cases h), fun h => (by cases h)⟩, ⟨fun h => (by cases h), fun h => (by cases h), fun h => (by cases h), fun h => (by cases h), fun h => (by cases h), fun h => (by cases h)⟩, Below.drew (Below.refl _ _)⟩
  · by_cases h6 : q.recent.length = 6
    · have HXI := Lib.hid HI1.out
      have hDR := TxtsIn.drop HR1.out 1 (by omega)
      rw [List.drop_one] at hDR
      have hsr := fun w => run_dropT w a2 q.recent.length c2 1 (by omega)
      obtain ⟨aY, hay⟩ : ∃ x, (if c2 = 1 then a2 else a2.map (fun x => x.add (1 * 1))) = x := ⟨_, rfl⟩
      rw [hay] at hDR hsr
      have HXR := Lib.hid hDR
      have hly : q.recent.tail.length = q.recent.length - 1 := by simp
      rw [show ((1 : Nat) : Int) = 1 from rfl] at hsr
      clear hay hDR
      have g5 : ((q.items.length : Int) == 5) = false := by simp; omega
      have g6 : ((q.recent.length : Int) == 6) = true := by simp; omega
      have H5 := Lib.hid h5
      have H6 := Lib.hid h6
      clear h5 h6
      go_enter Try.func22, Try.ntmps22
      go_wp2_with fail
      rw [← hw1]
      clear hw1
      refine HH.out.mono ?_
      rintro e _ ⟨rfl, rfl⟩
      go_upto_region 11 with fail
      rw [← hly] at HXR ⊢
      have HNEW := Lib.hid (fun (w : World) a7 c7 a8 c8 h1 h2 h3 => lo_new (W := W) (w1 := w1) (w := w) (q := q) (r := r) (xs := q.items) (ns := q.recent.tail) (b := 0) hc (by unfold olR; rw [if_neg H5.out]; rfl) (by unfold adR; rw [if_neg H5.out]) (by unfold adT; rw [if_pos H6.out]) HFX.out HFTT.out BF.out z1 a7 c7 a8 c8 h1 h2 h3)
      clear g5 g6
      have hnl : q.recent.tail.length ≤ 6 := by omega
      clear hly hsr
      generalize q.recent.tail = nt at *
      obtain ⟨i0, hii, hz0, hz1, hz2⟩ := info_parts Try.infoRp
      obtain ⟨j0, hjj, hy0, hy1, hy2⟩ := info_parts Try.infoTxt
      have HR1C := Lib.hid (rpC_one q.items)
      have HT1C := Lib.hid (strV_one nt)
      refine wp_region_any (by kernel_rfl) ?_
      refine Inv.wpAny_inv (fun l a w => ∃ (f0 f1 f2 f3 f4 f5 f6 f7 f8 f9 f10 f11 f12 f14 : Bool) (u34 u35 u36 u37 u38 u39 u40 u41 u42 u43 u44 u45 u46 u48 : Value), l = #[f0, f1, f2, f3, f4, f5, f6, f7, f8, f9, f10, f11, f12, false, f14, false, false, false] ∧ a = { tmps := #[qV (.slice a1 q.items.length c1) (.slice a2 q.recent.length c2), rV r, .pointer (some ⟨W.heap.size, 0, none⟩), .pointer (some ⟨W.heap.size + 1, 0, none⟩), .pointer (some ⟨W.heap.size + 1 + 1, 0, none⟩), .bool false, .int .i64 0, .int .i64 0, .slice a1 q.items.length c1, .slice aY nt.length (c2 - 1), .pointer (some ⟨W.heap.size, 1, none⟩), .slice a2 q.recent.length c2, .pointer (some ⟨W.heap.size + 1, 3, none⟩), .string ⟨r.body.toArray⟩, .bool false, undef, .pointer (some ⟨W.heap.size, 0, none⟩), .slice a1 q.items.length c1, .slice a1 q.items.length c1, .int .i64 (q.items.length : Int), .bool false, undef, undef, undef, undef, undef, undef, .pointer (some ⟨W.heap.size, 1, none⟩), .slice a2 q.recent.length c2, .slice a2 q.recent.length c2, .int .i64 (q.recent.length : Int), .bool true, .slice a2 q.recent.length c2, .slice aY nt.length (c2 - 1), u34, u35, u36, u37, u38, u39, u40, u41, u42, u43, u44, u45, u46, undef, u48], defers := [] } ∧ (Chn.Ch w w1.heap.size 38 4 q.items.length (rpC q.items) (rC r).toList f0 f2 f4 f5 u34 u36 u38 u39 ∧ Chn.Ch w w1.heap.size 9 1 nt.length (strV nt) [.string ⟨r.body.toArray⟩] f6 f8 f11 f12 u40 u42 u45 u46) ∧ ((f2 = true → f0 = true ∧ f1 = true) ∧ (f4 = true → f3 = true) ∧ (f5 = true → f2 = true ∧ f4 = true) ∧ (f8 = true → f6 = true ∧ f7 = true ∧ f5 = true) ∧ (f10 = true → f9 = true) ∧ (f11 = true → f10 = true) ∧ (f12 = true → f8 = true ∧ f11 = true)) ∧ ((f1 = true → u35 = .slice a1 q.items.length c1) ∧ (f3 = true → u37 = rV r) ∧ (f7 = true → u41 = .slice aY nt.length (c2 - 1)) ∧ (f9 = true → u43 = .pointer (some ⟨W.heap.size + 1, 3, none⟩)) ∧ (f10 = true → u44 = .string ⟨r.body.toArray⟩) ∧ (f14 = true → u48 = .int .i64 0)) ∧ Below w1.heap.size w1 w) 12 (of_decide_eq_true (by kernel_rfl)) (by kernel_rfl) ?_ ?_ ?_ _ _ _ _ (by kernel_rfl) ?_
      · rintro l a w ⟨f0, f1, f2, f3, f4, f5, f6, f7, f8, f9, f10, f11, f12, f14, u34, u35, u36, u37, u38, u39, u40, u41, u42, u43, u44, u45, u46, u48, rfl, -⟩
        rfl
      · rintro l a w ⟨f0, f1, f2, f3, f4, f5, f6, f7, f8, f9, f10, f11, f12, f14, u34, u35, u36, u37, u38, u39, u40, u41, u42, u43, u44, u45, u46, u48, rfl, rfl, ⟨C1, C2⟩, ⟨i2, i4, i5, i8, i10, i11, i12⟩, ⟨v1, v3, v7, v9, v10, v14⟩, BB⟩ hD i hi
        obtain rfl : f12 = false := hD
        obtain ⟨h0, op, ho, hall⟩ := mem_ready.1 hi
        have hlt : i < 18 := (Array.getElem?_eq_some_iff.1 ho).1
        have hw1 : w1.heap.size ≤ w.heap.size := BB.size
        have hd14 : op = op := rfl
        clear hi
        rcases (show i = 0 ∨ i = 1 ∨ i = 2 ∨ i = 3 ∨ i = 4 ∨ i = 5 ∨ i = 6 ∨ i = 7 ∨ i = 8 ∨ i = 9 ∨ i = 10 ∨ i = 11 ∨ i = 12 ∨ i = 13 ∨ i = 14 ∨ i = 15 ∨ i = 16 ∨ i = 17 by omega) with rfl | rfl | rfl | rfl | rfl | rfl | rfl | rfl | rfl | rfl | rfl | rfl | rfl | rfl | rfl | rfl | rfl | rfl
        · obtain rfl := Option.some.inj ho
          obtain rfl : f0 = false := h0
          obtain rfl : f2 = false := Bool.eq_false_iff.2 fun h => by cases (i2 h).1
          refine wpOp_step rfl (fun K hK => ?_)
          go_simp
          refine hK _ _ ⟨_, _, _, _, _, _, _, _, _, _, _, _, _, _, _, _, _, _, _, _, _, _, _, _, _, _, _, _, rfl, rfl, ⟨C1.s0 hw1 _ rfl rfl, C2.alloc _⟩, ⟨fun h => (by cases h), i4, i5, i8, i10, i11, i12⟩, ⟨v1, v3, v7, v9, v10, v14⟩, BB.alloc hw1 _⟩
        · obtain rfl := Option.some.inj ho
          obtain rfl : f1 = false := h0
          obtain rfl : f2 = false := Bool.eq_false_iff.2 fun h => by cases (i2 h).2
          refine wpOp_step rfl (fun K hK => ?_)
          go_simp
          refine hK _ _ ⟨_, _, _, _, _, _, _, _, _, _, _, _, _, _, _, _, _, _, _, _, _, _, _, _, _, _, _, _, rfl, rfl, ⟨C1, C2⟩, ⟨fun h => (by cases h), i4, i5, i8, i10, i11, i12⟩, ⟨fun _ => rfl, v3, v7, v9, v10, v14⟩, BB⟩
        · obtain rfl := Option.some.inj ho
          obtain rfl : f2 = false := h0
          obtain rfl : f0 = true := hall ⟨0, .data⟩ (by simp) rfl
          obtain rfl : f1 = true := hall ⟨1, .data⟩ (by simp) rfl
          obtain rfl : f5 = false := Bool.eq_false_iff.2 fun h => by cases (i5 h).1
          obtain rfl := v1 rfl
          have hown := C1.e0 rfl rfl
          refine wpOp_step rfl (fun K hK => ?_)
          refine Chn.op_app w rfl _ _ 32 rfl w1.heap.size 38 i0 _ 4 40 Try.underlying32 hii hz0 hz1 hz2 rfl (by omega) _ 0 [] rfl hown a1 q.items.length c1 (rpC q.items) rfl (rp_row (HXI.out.blw (BB.mono hBw1))) (rpC_len _) HR1C.out (by omega) (by omega) hw1 ?_
          intro v4 w4 ho4 hg4 hp4
          rw [Nat.zero_add] at ho4
          refine hK _ _ ⟨_, _, _, _, _, _, _, _, _, _, _, _, _, _, _, _, _, _, _, _, _, _, _, _, _, _, _, _, rfl, rfl, ⟨C1.s1 v4 ho4 hg4 hp4, C2.kept hg4 (own_ty hown (by decide))⟩, ⟨fun _ => ⟨rfl, rfl⟩, i4, fun h => (by cases h), i8, i10, i11, i12⟩, ⟨fun _ => rfl, v3, v7, v9, v10, v14⟩, BB.grown hg4 hw1 (fun g e => (World.ownsRow.lt hown g e).1)⟩
        · obtain rfl := Option.some.inj ho
          obtain rfl : f3 = false := h0
          obtain rfl : f4 = false := Bool.eq_false_iff.2 fun h => by cases i4 h
          have k0 := (BB.cell (p := ⟨W.heap.size + 1, 0, none⟩) (show W.heap.size + 1 < w1.heap.size by omega)).trans r0
          have k1 := (BB.cell (p := ⟨W.heap.size + 1, 1, none⟩) (show W.heap.size + 1 < w1.heap.size by omega)).trans r1
          have k2 := (BB.cell (p := ⟨W.heap.size + 1, 2, none⟩) (show W.heap.size + 1 < w1.heap.size by omega)).trans r2
          have k3 := (BB.cell (p := ⟨W.heap.size + 1, 3, none⟩) (show W.heap.size + 1 < w1.heap.size by omega)).trans r3
          refine wpOp_step rfl (fun K hK => ?_)
          go_simp
          refine hK _ _ ⟨_, _, _, _, _, _, _, _, _, _, _, _, _, _, _, _, _, _, _, _, _, _, _, _, _, _, _, _, rfl, rfl, ⟨C1, C2⟩, ⟨i2, fun h => (by cases h), i5, i8, i10, i11, i12⟩, ⟨v1, fun _ => rfl, v7, v9, v10, v14⟩, BB⟩
        · obtain rfl := Option.some.inj ho
          obtain rfl : f4 = false := h0
          obtain rfl : f3 = true := hall ⟨3, .data⟩ (by simp) rfl
          obtain rfl : f5 = false := Bool.eq_false_iff.2 fun h => by cases (i5 h).2
          obtain rfl := v3 rfl
          refine wpOp_step rfl (fun K hK => ?_)
          go_simp
          refine hK _ _ ⟨_, _, _, _, _, _, _, _, _, _, _, _, _, _, _, _, _, _, _, _, _, _, _, _, _, _, _, _, rfl, rfl, ⟨C1.s2 _ _ rfl rfl, C2.alloc _⟩, ⟨i2, fun _ => rfl, fun h => (by cases h), i8, i10, i11, i12⟩, ⟨v1, fun _ => rfl, v7, v9, v10, v14⟩, BB.alloc hw1 _⟩
        · obtain rfl := Option.some.inj ho
          obtain rfl : f5 = false := h0
          obtain rfl : f2 = true := hall ⟨2, .data⟩ (by simp) rfl
          obtain rfl : f4 = true := hall ⟨4, .data⟩ (by simp) rfl
          obtain rfl : f8 = false := Bool.eq_false_iff.2 fun h => by cases (i8 h).2.2
          obtain ⟨rfl, rfl⟩ := i2 rfl
          have hown := C1.e1 rfl rfl
          obtain ⟨g, c, rfl, hg, -, -⟩ := C1.e2 rfl rfl
          refine wpOp_step rfl (fun K hK => ?_)
          refine Chn.op_app w rfl _ _ 32 rfl w1.heap.size 38 i0 _ 4 40 Try.underlying32 hii hz0 hz1 hz2 rfl (by omega) _ q.items.length (rpC q.items) rfl hown (some ⟨g, 0, none⟩) 1 c (rC r).toList rfl (fun _ => ⟨_, rfl, one_row4 hg⟩) rfl (by intro u hu; simp at hu; rcases hu with rfl | rfl | rfl | rfl <;> rfl) (by omega) (by omega) hw1 ?_
          intro v4 w4 ho4 hg4 _
          refine hK _ _ ⟨_, _, _, _, _, _, _, _, _, _, _, _, _, _, _, _, _, _, _, _, _, _, _, _, _, _, _, _, rfl, rfl, ⟨Chn.Ch.s3 v4 ho4, C2.kept hg4 (own_ty hown (by decide))⟩, ⟨fun _ => ⟨rfl, rfl⟩, i4, fun _ => ⟨rfl, rfl⟩, fun h => (by cases h), i10, i11, i12⟩, ⟨v1, v3, v7, v9, v10, v14⟩, BB.grown hg4 hw1 (fun g e => (World.ownsRow.lt hown g e).1)⟩
        · obtain rfl := Option.some.inj ho
          obtain rfl : f6 = false := h0
          obtain rfl : f8 = false := Bool.eq_false_iff.2 fun h => by cases (i8 h).1
          refine wpOp_step rfl (fun K hK => ?_)
          go_simp
          refine hK _ _ ⟨_, _, _, _, _, _, _, _, _, _, _, _, _, _, _, _, _, _, _, _, _, _, _, _, _, _, _, _, rfl, rfl, ⟨C1.alloc _, C2.s0 hw1 _ rfl rfl⟩, ⟨i2, i4, i5, fun h => (by cases h), i10, i11, i12⟩, ⟨v1, v3, v7, v9, v10, v14⟩, BB.alloc hw1 _⟩
        · obtain rfl := Option.some.inj ho
          obtain rfl : f7 = false := h0
          obtain rfl : f8 = false := Bool.eq_false_iff.2 fun h => by cases (i8 h).2.1
          refine wpOp_step rfl (fun K hK => ?_)
          go_simp
          refine hK _ _ ⟨_, _, _, _, _, _, _, _, _, _, _, _, _, _, _, _, _, _, _, _, _, _, _, _, _, _, _, _, rfl, rfl, ⟨C1, C2⟩, ⟨i2, i4, i5, fun h => (by cases h), i10, i11, i12⟩, ⟨v1, v3, fun _ => rfl, v9, v10, v14⟩, BB⟩
        · obtain rfl := Option.some.inj ho
          obtain rfl : f8 = false := h0
          obtain rfl : f6 = true := hall ⟨6, .data⟩ (by simp) rfl
          obtain rfl : f7 = true := hall ⟨7, .data⟩ (by simp) rfl
          obtain rfl : f5 = true := hall ⟨5, .chain⟩ (by simp) rfl
          obtain rfl := v7 rfl
          have hown := C2.e0 rfl rfl
          refine wpOp_step rfl (fun K hK => ?_)
          refine Chn.op_app w rfl _ _ 25 rfl w1.heap.size 9 j0 _ 1 16 Try.underlying25 hjj hy0 hy1 hy2 rfl (by omega) _ 0 [] rfl hown aY nt.length (c2 - 1) (strV nt) rfl (tx_row (HXR.out.blw (BB.mono hBw1))).2 (by rw [strV_len, Nat.mul_one]) HT1C.out (by omega) (by omega) hw1 ?_
          intro v4 w4 ho4 hg4 hp4
          rw [Nat.zero_add] at ho4
          refine hK _ _ ⟨_, _, _, _, _, _, _, _, _, _, _, _, _, _, _, _, _, _, _, _, _, _, _, _, _, _, _, _, rfl, rfl, ⟨C1.kept hg4 (own_ty hown (by decide)), C2.s1 v4 ho4 hg4 hp4⟩, ⟨i2, i4, i5, fun _ => ⟨rfl, rfl, rfl⟩, i10, i11, fun h => (by cases h)⟩, ⟨v1, v3, fun _ => rfl, v9, v10, v14⟩, BB.grown hg4 hw1 (fun g e => (World.ownsRow.lt hown g e).1)⟩
        · obtain rfl := Option.some.inj ho
          obtain rfl : f9 = false := h0
          obtain rfl : f10 = false := Bool.eq_false_iff.2 fun h => by cases i10 h
          refine wpOp_step rfl (fun K hK => ?_)
          go_simp
          refine hK _ _ ⟨_, _, _, _, _, _, _, _, _, _, _, _, _, _, _, _, _, _, _, _, _, _, _, _, _, _, _, _, rfl, rfl, ⟨C1, C2⟩, ⟨i2, i4, i5, i8, fun h => (by cases h), i11, i12⟩, ⟨v1, v3, v7, fun _ => rfl, v10, v14⟩, BB⟩
        · obtain rfl := Option.some.inj ho
          obtain rfl : f10 = false := h0
          obtain rfl : f9 = true := hall ⟨9, .data⟩ (by simp) rfl
          obtain rfl : f11 = false := Bool.eq_false_iff.2 fun h => by cases i11 h
          obtain rfl := v9 rfl
          have k3 := (BB.cell (p := ⟨W.heap.size + 1, 3, none⟩) (show W.heap.size + 1 < w1.heap.size by omega)).trans r3
          refine wpOp_step rfl (fun K hK => ?_)
          go_simp
          refine hK _ _ ⟨_, _, _, _, _, _, _, _, _, _, _, _, _, _, _, _, _, _, _, _, _, _, _, _, _, _, _, _, rfl, rfl, ⟨C1, C2⟩, ⟨i2, i4, i5, i8, fun _ => rfl, fun h => (by cases h), i12⟩, ⟨v1, v3, v7, fun _ => rfl, fun _ => rfl, v14⟩, BB⟩
        · obtain rfl := Option.some.inj ho
          obtain rfl : f11 = false := h0
          obtain rfl : f10 = true := hall ⟨10, .data⟩ (by simp) rfl
          obtain rfl := v10 rfl
          refine wpOp_step rfl (fun K hK => ?_)
          go_simp
          refine hK _ _ ⟨_, _, _, _, _, _, _, _, _, _, _, _, _, _, _, _, _, _, _, _, _, _, _, _, _, _, _, _, rfl, rfl, ⟨C1.alloc _, C2.s2 _ _ rfl rfl⟩, ⟨i2, i4, i5, i8, i10, fun _ => rfl, fun h => (by cases h)⟩, ⟨v1, v3, v7, fun _ => rfl, fun _ => rfl, v14⟩, BB.alloc hw1 _⟩
        · obtain rfl := Option.some.inj ho
          obtain rfl : f8 = true := hall ⟨8, .data⟩ (by simp) rfl
          obtain rfl : f11 = true := hall ⟨11, .data⟩ (by simp) rfl
          obtain ⟨rfl, rfl, rfl⟩ := i8 rfl
          have hown := C2.e1 rfl rfl
          obtain ⟨g, c, rfl, hg, -, -⟩ := C2.e2 rfl rfl
          refine wpOp_step rfl (fun K hK => ?_)
          refine Chn.op_app w rfl _ _ 25 rfl w1.heap.size 9 j0 _ 1 16 Try.underlying25 hjj hy0 hy1 hy2 rfl (by omega) _ nt.length (strV nt) rfl hown (some ⟨g, 0, none⟩) 1 c [.string ⟨r.body.toArray⟩] rfl (fun _ => ⟨_, rfl, one_rowS hg⟩) rfl (by intro u hu; simp at hu; subst hu; rfl) (by omega) (by omega) hw1 ?_
          intro v4 w4 ho4 hg4 _
          refine hK _ _ ⟨_, _, _, _, _, _, _, _, _, _, _, _, _, _, _, _, _, _, _, _, _, _, _, _, _, _, _, _, rfl, rfl, ⟨C1.kept hg4 (own_ty hown (by decide)), Chn.Ch.s3 v4 ho4⟩, ⟨i2, i4, i5, fun _ => ⟨rfl, rfl, rfl⟩, i10, i11, fun _ => ⟨rfl, rfl⟩⟩, ⟨v1, v3, v7, v9, v10, v14⟩, BB.grown hg4 hw1 (fun g e => (World.ownsRow.lt hown g e).1)⟩
        · obtain rfl := Option.some.inj ho
          exact absurd (show false = true from hall ⟨12, .data⟩ (by simp) rfl) (by simp)
        · obtain rfl := Option.some.inj ho
          obtain rfl : f14 = false := h0
          refine wpOp_step rfl (fun K hK => ?_)
          go_simp
          refine hK _ _ ⟨_, _, _, _, _, _, _, _, _, _, _, _, _, _, _, _, _, _, _, _, _, _, _, _, _, _, _, _, rfl, rfl, ⟨C1, C2⟩, ⟨i2, i4, i5, i8, i10, i11, i12⟩, ⟨v1, v3, v7, v9, v10, fun _ => rfl⟩, BB⟩
        · obtain rfl := Option.some.inj ho
          exact absurd (show false = true from hall ⟨13, .data⟩ (by simp) rfl) (by simp)
        · obtain rfl := Option.some.inj ho
          exact absurd (show false = true from hall ⟨13, .phase⟩ (by simp) rfl) (by simp)
        · obtain rfl := Option.some.inj ho
          exact absurd (show false = true from hall ⟨13, .phase⟩ (by simp) rfl) (by simp)
      · rintro l a w ⟨f0, f1, f2, f3, f4, f5, f6, f7, f8, f9, f10, f11, f12, f14, u34, u35, u36, u37, u38, u39, u40, u41, u42, u43, u44, u45, u46, u48, rfl, rfl, ⟨C1, C2⟩, ⟨i2, i4, i5, i8, i10, i11, i12⟩, ⟨v1, v3, v7, v9, v10, v14⟩, BB⟩ hD
        obtain rfl : f12 = true := hD
        obtain ⟨rfl, rfl⟩ := i12 rfl
        obtain ⟨rfl, rfl, rfl⟩ := i8 rfl
        obtain ⟨rfl, rfl⟩ := i5 rfl
        obtain ⟨rfl, rfl⟩ := i2 rfl
        obtain rfl := i4 rfl
        obtain rfl := i11 rfl
        obtain rfl := i10 rfl
        have hI := C1.e3 rfl
        have hR := C2.e3 rfl
        have k0 := (BB.cell (p := ⟨W.heap.size + 1 + 1, 0, none⟩) z1).trans s0
        have k1 := (BB.cell (p := ⟨W.heap.size + 1 + 1, 1, none⟩) z1).trans s1
        have kf := fun o => (BB.frozen (p := ⟨W.heap.size + 1 + 1, o, none⟩) z1).trans (sf o)
        have hHd := (BB.block (W.heap.size + 1 + 1) z1).trans H2.out
        obtain ⟨a7, c7, rfl⟩ := own_slice hI
        obtain ⟨a8, c8, rfl⟩ := own_slice hR
        have HIF := Lib.hid hI
        have HRF := Lib.hid hR
        have HBB := Lib.hid BB
        have HHD := Lib.hid hHd
        clear C1 C2 hI hR hHd i2 i4 i5 i8 i10 i11 i12 v1 v3 v7 v9 v10
        cases f14 with
        | false =>
          change wpAny _ _ _ _ 5 _ _ _
          refine wpAny_take (i := 14) (v := .int .i64 0) rfl (by kernel_rfl) (by kernel_rfl) (by kernel_rfl) (fun _ _ _ h => h) (Or.inl ⟨by rfl, fun _ => rfl⟩) ?_
          change wpAny _ _ _ _ 4 #[true, true, true, true, true, true, true, true, true, true, true, true, true, false, true, false, false, false] { tmps := #[qV (.slice a1 q.items.length c1) (.slice a2 q.recent.length c2), rV r, .pointer (some ⟨W.heap.size, 0, none⟩), .pointer (some ⟨W.heap.size + 1, 0, none⟩), .pointer (some ⟨W.heap.size + 1 + 1, 0, none⟩), .bool false, .int .i64 0, .int .i64 0, .slice a1 q.items.length c1, .slice aY nt.length (c2 - 1), .pointer (some ⟨W.heap.size, 1, none⟩), .slice a2 q.recent.length c2, .pointer (some ⟨W.heap.size + 1, 3, none⟩), .string ⟨r.body.toArray⟩, .bool false, undef, .pointer (some ⟨W.heap.size, 0, none⟩), .slice a1 q.items.length c1, .slice a1 q.items.length c1, .int .i64 (q.items.length : Int), .bool false, undef, undef, undef, undef, undef, undef, .pointer (some ⟨W.heap.size, 1, none⟩), .slice a2 q.recent.length c2, .slice a2 q.recent.length c2, .int .i64 (q.recent.length : Int), .bool true, .slice a2 q.recent.length c2, .slice aY nt.length (c2 - 1), u34, u35, u36, u37, u38, .slice a7 (q.items.length + 1) c7, u40, u41, u42, u43, u44, u45, .slice a8 (nt.length + 1) c8, undef, .int .i64 0], defers := [] } w
          refine wpAny_take (i := 13) (v := .agg #[.slice a7 (q.items.length + 1) c7, .slice a8 (nt.length + 1) c8]) rfl (by kernel_rfl) (by kernel_rfl) (by kernel_rfl) (fun _ _ _ h => h) (Or.inl ⟨by rfl, fun _ => by go_simp⟩) ?_
          try simp only [Act.put, List.setIfInBounds_toArray, List.set_cons_zero, List.set_cons_succ]
          refine wpAny_ready (rs := [15]) (by kernel_rfl) (by simp) (AllReady.cons rfl (fun K hK => ?_) AllReady.nil)
          go_simp
          refine hK _ _ ?_
          refine wpAny_take (i := 16) (v := .bool true) rfl (by kernel_rfl) (by kernel_rfl) (by kernel_rfl) (fun _ _ _ h => h) (Or.inl ⟨by rfl, fun _ => rfl⟩) ?_
          refine wpAny_take (i := 17) (v := .int .i64 0) rfl (by kernel_rfl) (by kernel_rfl) (by kernel_rfl) (fun _ _ _ h => h) (Or.inl ⟨by rfl, fun _ => rfl⟩) ?_
          refine wpAny_done (by kernel_rfl) ?_ _
          try simp only [Act.put, List.setIfInBounds_toArray]
          have HHF := Lib.hid (show Hd (set2 w (W.heap.size + 1 + 1) 0 (.slice a7 (q.items.length + 1) c7) (.slice a8 (nt.length + 1) c8)) (W.heap.size + 1 + 1) (iqO (.slice a7 (q.items.length + 1) c7) (.slice a8 (nt.length + 1) c8)) from Hd.set2 HHD.out _ _)
          have HNF := Lib.hid (HNEW.out w _ _ _ _ HIF.out HRF.out HBB.out)
          go_wp2
          exact bodyPost_ret (ret_S Try.results22 rfl rfl rfl HHF.out) rfl HNF.out
        | true =>
          obtain rfl := v14 rfl
          change wpAny _ _ _ _ 4 #[true, true, true, true, true, true, true, true, true, true, true, true, true, false, true, false, false, false] { tmps := #[qV (.slice a1 q.items.length c1) (.slice a2 q.recent.length c2), rV r, .pointer (some ⟨W.heap.size, 0, none⟩), .pointer (some ⟨W.heap.size + 1, 0, none⟩), .pointer (some ⟨W.heap.size + 1 + 1, 0, none⟩), .bool false, .int .i64 0, .int .i64 0, .slice a1 q.items.length c1, .slice aY nt.length (c2 - 1), .pointer (some ⟨W.heap.size, 1, none⟩), .slice a2 q.recent.length c2, .pointer (some ⟨W.heap.size + 1, 3, none⟩), .string ⟨r.body.toArray⟩, .bool false, undef, .pointer (some ⟨W.heap.size, 0, none⟩), .slice a1 q.items.length c1, .slice a1 q.items.length c1, .int .i64 (q.items.length : Int), .bool false, undef, undef, undef, undef, undef, undef, .pointer (some ⟨W.heap.size, 1, none⟩), .slice a2 q.recent.length c2, .slice a2 q.recent.length c2, .int .i64 (q.recent.length : Int), .bool true, .slice a2 q.recent.length c2, .slice aY nt.length (c2 - 1), u34, u35, u36, u37, u38, .slice a7 (q.items.length + 1) c7, u40, u41, u42, u43, u44, u45, .slice a8 (nt.length + 1) c8, undef, .int .i64 0], defers := [] } w
          refine wpAny_take (i := 13) (v := .agg #[.slice a7 (q.items.length + 1) c7, .slice a8 (nt.length + 1) c8]) rfl (by kernel_rfl) (by kernel_rfl) (by kernel_rfl) (fun _ _ _ h => h) (Or.inl ⟨by rfl, fun _ => by go_simp⟩) ?_
          try simp only [Act.put, List.setIfInBounds_toArray, List.set_cons_zero, List.set_cons_succ]
          refine wpAny_ready (rs := [15]) (by kernel_rfl) (by simp) (AllReady.cons rfl (fun K hK => ?_) AllReady.nil)
          go_simp
          refine hK _ _ ?_
          refine wpAny_take (i := 16) (v := .bool true) rfl (by kernel_rfl) (by kernel_rfl) (by kernel_rfl) (fun _ _ _ h => h) (Or.inl ⟨by rfl, fun _ => rfl⟩) ?_
          refine wpAny_take (i := 17) (v := .int .i64 0) rfl (by kernel_rfl) (by kernel_rfl) (by kernel_rfl) (fun _ _ _ h => h) (Or.inl ⟨by rfl, fun _ => rfl⟩) ?_
          refine wpAny_done (by kernel_rfl) ?_ _
          try simp only [Act.put, List.setIfInBounds_toArray]
          have HHF := Lib.hid (show Hd (set2 w (W.heap.size + 1 + 1) 0 (.slice a7 (q.items.length + 1) c7) (.slice a8 (nt.length + 1) c8)) (W.heap.size + 1 + 1) (iqO (.slice a7 (q.items.length + 1) c7) (.slice a8 (nt.length + 1) c8)) from Hd.set2 HHD.out _ _)
          have HNF := Lib.hid (HNEW.out w _ _ _ _ HIF.out HRF.out HBB.out)
          go_wp2
          exact bodyPost_ret (ret_S Try.results22 rfl rfl rfl HHF.out) rfl HNF.out
      · exact ⟨false, false, false, false, false, false, false, false, false, false, false, false, false, false, undef, undef, undef, undef, undef, undef, undef, undef, undef, undef, undef, undef, undef, undef, rfl, rfl, ⟨Chn.Ch.none _ _ _ _ _ _ _ _ _ _ _, Chn.Ch.none _ _ _ _ _ _ _ _ _ _ _⟩, ⟨fun h => (by cases h), fun h => (by cases h), fun h => (by cases h), fun h => (by cases h), fun h => (by cases h), fun h => (by cases h), fun h => (by cases h)⟩, ⟨fun h => (by cases h), fun h => (by cases h), fun h => (by cases h), fun h => (by cases h), fun h => (by cases h), fun h => (by cases h)⟩, Below.drew (Below.refl _ _)⟩
    · have HXI := Lib.hid HI1.out
      have HXR := Lib.hid HR1.out
      have g5 : ((q.items.length : Int) == 5) = false := by simp; omega
      have g6 : ((q.recent.length : Int) == 6) = false := by simp; omega
      have H5 := Lib.hid h5
      have H6 := Lib.hid h6
      clear h5 h6
      go_enter Try.func22, Try.ntmps22
      go_wp2_with fail
      rw [← hw1]
      clear hw1
      refine HH.out.mono ?_
      rintro e _ ⟨rfl, rfl⟩
      go_upto_region 11 with fail
      have HNEW := Lib.hid (fun (w : World) a7 c7 a8 c8 h1 h2 h3 => lo_new (W := W) (w1 := w1) (w := w) (q := q) (r := r) (xs := q.items) (ns := q.recent) (b := 0) hc (by unfold olR; rw [if_neg H5.out]; rfl) (by unfold adR; rw [if_neg H5.out]) (by unfold adT; rw [if_neg H6.out]) HFX.out HFTT.out BF.out z1 a7 c7 a8 c8 h1 h2 h3)
      clear g5 g6
      obtain ⟨i0, hii, hz0, hz1, hz2⟩ := info_parts Try.infoRp
      obtain ⟨j0, hjj, hy0, hy1, hy2⟩ := info_parts Try.infoTxt
      have HR1C := Lib.hid (rpC_one q.items)
      have HT1C := Lib.hid (strV_one q.recent)
      refine wp_region_any (by kernel_rfl) ?_
      refine Inv.wpAny_inv (fun l a w => ∃ (f0 f1 f2 f3 f4 f5 f6 f7 f8 f9 f10 f11 f12 f14 : Bool) (u34 u35 u36 u37 u38 u39 u40 u41 u42 u43 u44 u45 u46 u48 : Value), l = #[f0, f1, f2, f3, f4, f5, f6, f7, f8, f9, f10, f11, f12, false, f14, false, false, false] ∧ a = { tmps := #[qV (.slice a1 q.items.length c1) (.slice a2 q.recent.length c2), rV r, .pointer (some ⟨W.heap.size, 0, none⟩), .pointer (some ⟨W.heap.size + 1, 0, none⟩), .pointer (some ⟨W.heap.size + 1 + 1, 0, none⟩), .bool false, .int .i64 0, .int .i64 0, .slice a1 q.items.length c1, .slice a2 q.recent.length c2, .pointer (some ⟨W.heap.size, 1, none⟩), .slice a2 q.recent.length c2, .pointer (some ⟨W.heap.size + 1, 3, none⟩), .string ⟨r.body.toArray⟩, .bool false, undef, .pointer (some ⟨W.heap.size, 0, none⟩), .slice a1 q.items.length c1, .slice a1 q.items.length c1, .int .i64 (q.items.length : Int), .bool false, undef, undef, undef, undef, undef, undef, .pointer (some ⟨W.heap.size, 1, none⟩), .slice a2 q.recent.length c2, .slice a2 q.recent.length c2, .int .i64 (q.recent.length : Int), .bool false, undef, undef, u34, u35, u36, u37, u38, u39, u40, u41, u42, u43, u44, u45, u46, undef, u48], defers := [] } ∧ (Chn.Ch w w1.heap.size 38 4 q.items.length (rpC q.items) (rC r).toList f0 f2 f4 f5 u34 u36 u38 u39 ∧ Chn.Ch w w1.heap.size 9 1 q.recent.length (strV q.recent) [.string ⟨r.body.toArray⟩] f6 f8 f11 f12 u40 u42 u45 u46) ∧ ((f2 = true → f0 = true ∧ f1 = true) ∧ (f4 = true → f3 = true) ∧ (f5 = true → f2 = true ∧ f4 = true) ∧ (f8 = true → f6 = true ∧ f7 = true ∧ f5 = true) ∧ (f10 = true → f9 = true) ∧ (f11 = true → f10 = true) ∧ (f12 = true → f8 = true ∧ f11 = true)) ∧ ((f1 = true → u35 = .slice a1 q.items.length c1) ∧ (f3 = true → u37 = rV r) ∧ (f7 = true → u41 = .slice a2 q.recent.length c2) ∧ (f9 = true → u43 = .pointer (some ⟨W.heap.size + 1, 3, none⟩)) ∧ (f10 = true → u44 = .string ⟨r.body.toArray⟩) ∧ (f14 = true → u48 = .int .i64 0)) ∧ Below w1.heap.size w1 w) 12 (of_decide_eq_true (by kernel_rfl)) (by kernel_rfl) ?_ ?_ ?_ _ _ _ _ (by kernel_rfl) ?_
      · rintro l a w ⟨f0, f1, f2, f3, f4, f5, f6, f7, f8, f9, f10, f11, f12, f14, u34, u35, u36, u37, u38, u39, u40, u41, u42, u43, u44, u45, u46, u48, rfl, -⟩
        rfl
      · rintro l a w ⟨f0, f1, f2, f3, f4, f5, f6, f7, f8, f9, f10, f11, f12, f14, u34, u35, u36, u37, u38, u39, u40, u41, u42, u43, u44, u45, u46, u48, rfl, rfl, ⟨C1, C2⟩, ⟨i2, i4, i5, i8, i10, i11, i12⟩, ⟨v1, v3, v7, v9, v10, v14⟩, BB⟩ hD i hi
        obtain rfl : f12 = false := hD
        obtain ⟨h0, op, ho, hall⟩ := mem_ready.1 hi
        have hlt : i < 18 := (Array.getElem?_eq_some_iff.1 ho).1
        have hw1 : w1.heap.size ≤ w.heap.size := BB.size
        have hd14 : op = op := rfl
        clear hi
        rcases (show i = 0 ∨ i = 1 ∨ i = 2 ∨ i = 3 ∨ i = 4 ∨ i = 5 ∨ i = 6 ∨ i = 7 ∨ i = 8 ∨ i = 9 ∨ i = 10 ∨ i = 11 ∨ i = 12 ∨ i = 13 ∨ i = 14 ∨ i = 15 ∨ i = 16 ∨ i = 17 by omega) with rfl | rfl | rfl | rfl | rfl | rfl | rfl | rfl | rfl | rfl | rfl | rfl | rfl | rfl | rfl | rfl | rfl | rfl
        · obtain rfl := Option.some.inj ho
          obtain rfl : f0 = false := h0
          obtain rfl : f2 = false := Bool.eq_false_iff.2 fun h => by cases (i2 h).1
          refine wpOp_step rfl (fun K hK => ?_)
          go_simp
          refine hK _ _ ⟨_, _, _, _, _, _, _, _, _, _, _, _, _, _, _, _, _, _, _, _, _, _, _, _, _, _, _, _, rfl, rfl, ⟨C1.s0 hw1 _ rfl rfl, C2.alloc _⟩, ⟨fun h => (by cases h), i4, i5, i8, i10, i11, i12⟩, ⟨v1, v3, v7, v9, v10, v14⟩, BB.alloc hw1 _⟩
        · obtain rfl := Option.some.inj ho
          obtain rfl : f1 = false := h0
          obtain rfl : f2 = false := Bool.eq_false_iff.2 fun h => by cases (i2 h).2
          refine wpOp_step rfl (fun K hK => ?_)
          go_simp
          refine hK _ _ ⟨_, _, _, _, _, _, _, _, _, _, _, _, _, _, _, _, _, _, _, _, _, _, _, _, _, _, _, _, rfl, rfl, ⟨C1, C2⟩, ⟨fun h => (by cases h), i4, i5, i8, i10, i11, i12⟩, ⟨fun _ => rfl, v3, v7, v9, v10, v14⟩, BB⟩
        · obtain rfl := Option.some.inj ho
          obtain rfl : f2 = false := h0
          obtain rfl : f0 = true := hall ⟨0, .data⟩ (by simp) rfl
          obtain rfl : f1 = true := hall ⟨1, .data⟩ (by simp) rfl
          obtain rfl : f5 = false := Bool.eq_false_iff.2 fun h => by cases (i5 h).1
          obtain rfl := v1 rfl
          have hown := C1.e0 rfl rfl
          refine wpOp_step rfl (fun K hK => ?_)
          refine Chn.op_app w rfl _ _ 32 rfl w1.heap.size 38 i0 _ 4 40 Try.underlying32 hii hz0 hz1 hz2 rfl (by omega) _ 0 [] rfl hown a1 q.items.length c1 (rpC q.items) rfl (rp_row (HXI.out.blw (BB.mono hBw1))) (rpC_len _) HR1C.out (by omega) (by omega) hw1 ?_
          intro v4 w4 ho4 hg4 hp4
          rw [Nat.zero_add] at ho4
          refine hK _ _ ⟨_, _, _, _, _, _, _, _, _, _, _, _, _, _, _, _, _, _, _, _, _, _, _, _, _, _, _, _, rfl, rfl, ⟨C1.s1 v4 ho4 hg4 hp4, C2.kept hg4 (own_ty hown (by decide))⟩, ⟨fun _ => ⟨rfl, rfl⟩, i4, fun h => (by cases h), i8, i10, i11, i12⟩, ⟨fun _ => rfl, v3, v7, v9, v10, v14⟩, BB.grown hg4 hw1 (fun g e => (World.ownsRow.lt hown g e).1)⟩
        · obtain rfl := Option.some.inj ho
          obtain rfl : f3 = false := h0
          obtain rfl : f4 = false := Bool.eq_false_iff.2 fun h => by cases i4 h
          have k0 := (BB.cell (p := ⟨W.heap.size + 1, 0, none⟩) (show W.heap.size + 1 < w1.heap.size by omega)).trans r0
          have k1 := (BB.cell (p := ⟨W.heap.size + 1, 1, none⟩) (show W.heap.size + 1 < w1.heap.size by omega)).trans r1
          have k2 := (BB.cell (p := ⟨W.heap.size + 1, 2, none⟩) (show W.heap.size + 1 < w1.heap.size by omega)).trans r2
          have k3 := (BB.cell (p := ⟨W.heap.size + 1, 3, none⟩) (show W.heap.size + 1 < w1.heap.size by omega)).trans r3
          refine wpOp_step rfl (fun K hK => ?_)
          go_simp
          refine hK _ _ ⟨_, _, _, _, _, _, _, _, _, _, _, _, _, _, _, _, _, _, _, _, _, _, _, _, _, _, _, _, rfl, rfl, ⟨C1, C2⟩, ⟨i2, fun h => (by cases h), i5, i8, i10, i11, i12⟩, ⟨v1, fun _ => rfl, v7, v9, v10, v14⟩, BB⟩
        · obtain rfl := Option.some.inj ho
          obtain rfl : f4 = false := h0
          obtain rfl : f3 = true := hall ⟨3, .data⟩ (by simp) rfl
          obtain rfl : f5 = false := Bool.eq_false_iff.2 fun h => by cases (i5 h).2
          obtain rfl := v3 rfl
          refine wpOp_step rfl (fun K hK => ?_)
          go_simp
          refine hK _ _ ⟨_, _, _, _, _, _, _, _, _, _, _, _, _, _, _, _, _, _, _, _, _, _, _, _, _, _, _, _, rfl, rfl, ⟨C1.s2 _ _ rfl rfl, C2.alloc _⟩, ⟨i2, fun _ => rfl, fun h => (by cases h), i8, i10, i11, i12⟩, ⟨v1, fun _ => rfl, v7, v9, v10, v14⟩, BB.alloc hw1 _⟩
        · obtain rfl := Option.some.inj ho
          obtain rfl : f5 = false := h0
          obtain rfl : f2 = true := hall ⟨2, .data⟩ (by simp) rfl
          obtain rfl : f4 = true := hall ⟨4, .data⟩ (by simp) rfl
          obtain rfl : f8 = false := Bool.eq_false_iff.2 fun h => by cases (i8 h).2.2
          obtain ⟨rfl, rfl⟩ := i2 rfl
          have hown := C1.e1 rfl rfl
          obtain ⟨g, c, rfl, hg, -, -⟩ := C1.e2 rfl rfl
          refine wpOp_step rfl (fun K hK => ?_)
          refine Chn.op_app w rfl _ _ 32 rfl w1.heap.size 38 i0 _ 4 40 Try.underlying32 hii hz0 hz1 hz2 rfl (by omega) _ q.items.length (rpC q.items) rfl hown (some ⟨g, 0, none⟩) 1 c (rC r).toList rfl (fun _ => ⟨_, rfl, one_row4 hg⟩) rfl (by intro u hu; simp at hu; rcases hu with rfl | rfl | rfl | rfl <;> rfl) (by omega) (by omega) hw1 ?_
          intro v4 w4 ho4 hg4 _
          refine hK _ _ ⟨_, _, _, _, _, _, _, _, _, _, _, _, _, _, _, _, _, _, _, _, _, _, _, _, _, _, _, _, rfl, rfl, ⟨Chn.Ch.s3 v4 ho4, C2.kept hg4 (own_ty hown (by decide))⟩, ⟨fun _ => ⟨rfl, rfl⟩, i4, fun _ => ⟨rfl, rfl⟩, fun h => (by cases h), i10, i11, i12⟩, ⟨v1, v3, v7, v9, v10, v14⟩, BB.grown hg4 hw1 (fun g e => (World.ownsRow.lt hown g e).1)⟩
        · obtain rfl := Option.some.inj ho
          obtain rfl : f6 = false := h0
          obtain rfl : f8 = false := Bool.eq_false_iff.2 fun h => by cases (i8 h).1
          refine wpOp_step rfl (fun K hK => ?_)
          go_simp
          refine hK _ _ ⟨_, _, _, _, _, _, _, _, _, _, _, _, _, _, _, _, _, _, _, _, _, _, _, _, _, _, _, _, rfl, rfl, ⟨C1.alloc _, C2.s0 hw1 _ rfl rfl⟩, ⟨i2, i4, i5, fun h => (by cases h), i10, i11, i12⟩, ⟨v1, v3, v7, v9, v10, v14⟩, BB.alloc hw1 _⟩
        · obtain rfl := Option.some.inj ho
          obtain rfl : f7 = false := h0
          obtain rfl : f8 = false := Bool.eq_false_iff.2 fun h => by cases (i8 h).2.1
          refine wpOp_step rfl (fun K hK => ?_)
          go_simp
          refine hK _ _ ⟨_, _, _, _, _, _, _, _, _, _, _, _, _, _, _, _, _, _, _, _, _, _, _, _, _, _, _, _, rfl, rfl, ⟨C1, C2⟩, ⟨i2, i4, i5, fun h => (by cases h), i10, i11, i12⟩, ⟨v1, v3, fun _ => rfl, v9, v10, v14⟩, BB⟩
        · obtain rfl := Option.some.inj ho
          obtain rfl : f8 = false := h0
          obtain rfl : f6 = true := hall ⟨6, .data⟩ (by simp) rfl
          obtain rfl : f7 = true := hall ⟨7, .data⟩ (by simp) rfl
          obtain rfl : f5 = true := hall ⟨5, .chain⟩ (by simp) rfl
          obtain rfl := v7 rfl
          have hown := C2.e0 rfl rfl
          refine wpOp_step rfl (fun K hK => ?_)
          refine Chn.op_app w rfl _ _ 25 rfl w1.heap.size 9 j0 _ 1 16 Try.underlying25 hjj hy0 hy1 hy2 rfl (by omega) _ 0 [] rfl hown a2 q.recent.length c2 (strV q.recent) rfl (tx_row (HXR.out.blw (BB.mono hBw1))).2 (by rw [strV_len, Nat.mul_one]) HT1C.out (by omega) (by omega) hw1 ?_
          intro v4 w4 ho4 hg4 hp4
          rw [Nat.zero_add] at ho4
          refine hK _ _ ⟨_, _, _, _, _, _, _, _, _, _, _, _, _, _, _, _, _, _, _, _, _, _, _, _, _, _, _, _, rfl, rfl, ⟨C1.kept hg4 (own_ty hown (by decide)), C2.s1 v4 ho4 hg4 hp4⟩, ⟨i2, i4, i5, fun _ => ⟨rfl, rfl, rfl⟩, i10, i11, fun h => (by cases h)⟩, ⟨v1, v3, fun _ => rfl, v9, v10, v14⟩, BB.grown hg4 hw1 (fun g e => (World.ownsRow.lt hown g e).1)⟩
        · obtain rfl := Option.some.inj ho
          obtain rfl : f9 = false := h0
          obtain rfl : f10 = false := Bool.eq_false_iff.2 fun h => by cases i10 h
          refine wpOp_step rfl (fun K hK => ?_)
          go_simp
          refine hK _ _ ⟨_, _, _, _, _, _, _, _, _, _, _, _, _, _, _, _, _, _, _, _, _, _, _, _, _, _, _, _, rfl, rfl, ⟨C1, C2⟩, ⟨i2, i4, i5, i8, fun h => (by cases h), i11, i12⟩, ⟨v1, v3, v7, fun _ => rfl, v10, v14⟩, BB⟩
        · obtain rfl := Option.some.inj ho
          obtain rfl : f10 = false := h0
          obtain rfl : f9 = true := hall ⟨9, .data⟩ (by simp) rfl
          obtain rfl : f11 = false := Bool.eq_false_iff.2 fun h => by cases i11 h
          obtain rfl := v9 rfl
          have k3 := (BB.cell (p := ⟨W.heap.size + 1, 3, none⟩) (show W.heap.size + 1 < w1.heap.size by omega)).trans r3
          refine wpOp_step rfl (fun K hK => ?_)
          go_simp
          refine hK _ _ ⟨_, _, _, _, _, _, _, _, _, _, _, _, _, _, _, _, _, _, _, _, _, _, _, _, _, _, _, _, rfl, rfl, ⟨C1, C2⟩, ⟨i2, i4, i5, i8, fun _ => rfl, fun h => (by cases h), i12⟩, ⟨v1, v3, v7, fun _ => rfl, fun _ => rfl, v14⟩, BB⟩
        · obtain rfl := Option.some.inj ho
          obtain rfl : f11 = false := h0
          obtain rfl : f10 = true := hall ⟨10, .data⟩ (by simp) rfl
          obtain rfl := v10 rfl
          refine wpOp_step rfl (fun K hK => ?_)
          go_simp
          refine hK _ _ ⟨_, _, _, _, _, _, _, _, _, _, _, _, _, _, _, _, _, _, _, _, _, _, _, _, _, _, _, _, rfl, rfl, ⟨C1.alloc _, C2.s2 _ _ rfl rfl⟩, ⟨i2, i4, i5, i8, i10, fun _ => rfl, fun h => (by cases h)⟩, ⟨v1, v3, v7, fun _ => rfl, fun _ => rfl, v14⟩, BB.alloc hw1 _⟩
        · obtain rfl := Option.some.inj ho
          obtain rfl : f8 = true := hall ⟨8, .data⟩ (by simp) rfl
          obtain rfl : f11 = true := hall ⟨11, .data⟩ (by simp) rfl
          obtain ⟨rfl, rfl, rfl⟩ := i8 rfl
          have hown := C2.e1 rfl rfl
          obtain ⟨g, c, rfl, hg, -, -⟩ := C2.e2 rfl rfl
          refine wpOp_step rfl (fun K hK => ?_)
          refine Chn.op_app w rfl _ _ 25 rfl w1.heap.size 9 j0 _ 1 16 Try.underlying25 hjj hy0 hy1 hy2 rfl (by omega) _ q.recent.length (strV q.recent) rfl hown (some ⟨g, 0, none⟩) 1 c [.string ⟨r.body.toArray⟩] rfl (fun _ => ⟨_, rfl, one_rowS hg⟩) rfl (by intro u hu; simp at hu; subst hu; rfl) (by omega) (by omega) hw1 ?_
          intro v4 w4 ho4 hg4 _
          refine hK _ _ ⟨_, _, _, _, _, _, _, _, _, _, _, _, _, _, _, _, _, _, _, _, _, _, _, _, _, _, _, _, rfl, rfl, ⟨C1.kept hg4 (own_ty hown (by decide)), Chn.Ch.s3 v4 ho4⟩, ⟨i2, i4, i5, fun _ => ⟨rfl, rfl, rfl⟩, i10, i11, fun _ => ⟨rfl, rfl⟩⟩, ⟨v1, v3, v7, v9, v10, v14⟩, BB.grown hg4 hw1 (fun g e => (World.ownsRow.lt hown g e).1)⟩
        · obtain rfl := Option.some.inj ho
          exact absurd (show false = true from hall ⟨12, .data⟩ (by simp) rfl) (by simp)
        · obtain rfl := Option.some.inj ho
          obtain rfl : f14 = false := h0
          refine wpOp_step rfl (fun K hK => ?_)
          go_simp
          refine hK _ _ ⟨_, _, _, _, _, _, _, _, _, _, _, _, _, _, _, _, _, _, _, _, _, _, _, _, _, _, _, _, rfl, rfl, ⟨C1, C2⟩, ⟨i2, i4, i5, i8, i10, i11, i12⟩, ⟨v1, v3, v7, v9, v10, fun _ => rfl⟩, BB⟩
        · obtain rfl := Option.some.inj ho
          exact absurd (show false = true from hall ⟨13, .data⟩ (by simp) rfl) (by simp)
        · obtain rfl := Option.some.inj ho
          exact absurd (show false = true from hall ⟨13, .phase⟩ (by simp) rfl) (by simp)
        · obtain rfl := Option.some.inj ho
          exact absurd (show false = true from hall ⟨13, .phase⟩ (by simp) rfl) (by simp)
      · rintro l a w ⟨f0, f1, f2, f3, f4, f5, f6, f7, f8, f9, f10, f11, f12, f14, u34, u35, u36, u37, u38, u39, u40, u41, u42, u43, u44, u45, u46, u48, rfl, rfl, ⟨C1, C2⟩, ⟨i2, i4, i5, i8, i10, i11, i12⟩, ⟨v1, v3, v7, v9, v10, v14⟩, BB⟩ hD
        obtain rfl : f12 = true := hD
        obtain ⟨rfl, rfl⟩ := i12 rfl
        obtain ⟨rfl, rfl, rfl⟩ := i8 rfl
        obtain ⟨rfl, rfl⟩ := i5 rfl
        obtain ⟨rfl, rfl⟩ := i2 rfl
        obtain rfl := i4 rfl
        obtain rfl := i11 rfl
        obtain rfl := i10 rfl
        have hI := C1.e3 rfl
        have hR := C2.e3 rfl
        have k0 := (BB.cell (p := ⟨W.heap.size + 1 + 1, 0, none⟩) z1).trans s0
        have k1 := (BB.cell (p := ⟨W.heap.size + 1 + 1, 1, none⟩) z1).trans s1
        have kf := fun o => (BB.frozen (p := ⟨W.heap.size + 1 + 1, o, none⟩) z1).trans (sf o)
        have hHd := (BB.block (W.heap.size + 1 + 1) z1).trans H2.out
        obtain ⟨a7, c7, rfl⟩ := own_slice hI
        obtain ⟨a8, c8, rfl⟩ := own_slice hR
        have HIF := Lib.hid hI
        have HRF := Lib.hid hR
        have HBB := Lib.hid BB
        have HHD := Lib.hid hHd
        clear C1 C2 hI hR hHd i2 i4 i5 i8 i10 i11 i12 v1 v3 v7 v9 v10
        cases f14 with
        | false =>
          change wpAny _ _ _ _ 5 _ _ _
          refine wpAny_take (i := 14) (v := .int .i64 0) rfl (by kernel_rfl) (by kernel_rfl) (by kernel_rfl) (fun _ _ _ h => h) (Or.inl ⟨by rfl, fun _ => rfl⟩) ?_
          change wpAny _ _ _ _ 4 #[true, true, true, true, true, true, true, true, true, true, true, true, true, false, true, false, false, false] { tmps := #[qV (.slice a1 q.items.length c1) (.slice a2 q.recent.length c2), rV r, .pointer (some ⟨W.heap.size, 0, none⟩), .pointer (some ⟨W.heap.size + 1, 0, none⟩), .pointer (some ⟨W.heap.size + 1 + 1, 0, none⟩), .bool false, .int .i64 0, .int .i64 0, .slice a1 q.items.length c1, .slice a2 q.recent.length c2, .pointer (some ⟨W.heap.size, 1, none⟩), .slice a2 q.recent.length c2, .pointer (some ⟨W.heap.size + 1, 3, none⟩), .string ⟨r.body.toArray⟩, .bool false, undef, .pointer (some ⟨W.heap.size, 0, none⟩), .slice a1 q.items.length c1, .slice a1 q.items.length c1, .int .i64 (q.items.length : Int), .bool false, undef, undef, undef, undef, undef, undef, .pointer (some ⟨W.heap.size, 1, none⟩), .slice a2 q.recent.length c2, .slice a2 q.recent.length c2, .int .i64 (q.recent.length : Int), .bool false, undef, undef, u34, u35, u36, u37, u38, .slice a7 (q.items.length + 1) c7, u40, u41, u42, u43, u44, u45, .slice a8 (q.recent.length + 1) c8, undef, .int .i64 0], defers := [] } w
          refine wpAny_take (i := 13) (v := .agg #[.slice a7 (q.items.length + 1) c7, .slice a8 (q.recent.length + 1) c8]) rfl (by kernel_rfl) (by kernel_rfl) (by kernel_rfl) (fun _ _ _ h => h) (Or.inl ⟨by rfl, fun _ => by go_simp⟩) ?_
          try simp only [Act.put, List.setIfInBounds_toArray, List.set_cons_zero, List.set_cons_succ]
          refine wpAny_ready (rs := [15]) (by kernel_rfl) (by simp) (AllReady.cons rfl (fun K hK => ?_) AllReady.nil)
          go_simp
          refine hK _ _ ?_
          refine wpAny_take (i := 16) (v := .bool true) rfl (by kernel_rfl) (by kernel_rfl) (by kernel_rfl) (fun _ _ _ h => h) (Or.inl ⟨by rfl, fun _ => rfl⟩) ?_
          refine wpAny_take (i := 17) (v := .int .i64 0) rfl (by kernel_rfl) (by kernel_rfl) (by kernel_rfl) (fun _ _ _ h => h) (Or.inl ⟨by rfl, fun _ => rfl⟩) ?_
          refine wpAny_done (by kernel_rfl) ?_ _
          try simp only [Act.put, List.setIfInBounds_toArray]
          have HHF := Lib.hid (show Hd (set2 w (W.heap.size + 1 + 1) 0 (.slice a7 (q.items.length + 1) c7) (.slice a8 (q.recent.length + 1) c8)) (W.heap.size + 1 + 1) (iqO (.slice a7 (q.items.length + 1) c7) (.slice a8 (q.recent.length + 1) c8)) from Hd.set2 HHD.out _ _)
          have HNF := Lib.hid (HNEW.out w _ _ _ _ HIF.out HRF.out HBB.out)
          go_wp2
          exact bodyPost_ret (ret_S Try.results22 rfl rfl rfl HHF.out) rfl HNF.out
        | true =>
          obtain rfl := v14 rfl
          change wpAny _ _ _ _ 4 #[true, true, true, true, true, true, true, true, true, true, true, true, true, false, true, false, false, false] { tmps := #[qV (.slice a1 q.items.length c1) (.slice a2 q.recent.length c2), rV r, .pointer (some ⟨W.heap.size, 0, none⟩), .pointer (some ⟨W.heap.size + 1, 0, none⟩), .pointer (some ⟨W.heap.size + 1 + 1, 0, none⟩), .bool false, .int .i64 0, .int .i64 0, .slice a1 q.items.length c1, .slice a2 q.recent.length c2, .pointer (some ⟨W.heap.size, 1, none⟩), .slice a2 q.recent.length c2, .pointer (some ⟨W.heap.size + 1, 3, none⟩), .string ⟨r.body.toArray⟩, .bool false, undef, .pointer (some ⟨W.heap.size, 0, none⟩), .slice a1 q.items.length c1, .slice a1 q.items.length c1, .int .i64 (q.items.length : Int), .bool false, undef, undef, undef, undef, undef, undef, .pointer (some ⟨W.heap.size, 1, none⟩), .slice a2 q.recent.length c2, .slice a2 q.recent.length c2, .int .i64 (q.recent.length : Int), .bool false, undef, undef, u34, u35, u36, u37, u38, .slice a7 (q.items.length + 1) c7, u40, u41, u42, u43, u44, u45, .slice a8 (q.recent.length + 1) c8, undef, .int .i64 0], defers := [] } w
          refine wpAny_take (i := 13) (v := .agg #[.slice a7 (q.items.length + 1) c7, .slice a8 (q.recent.length + 1) c8]) rfl (by kernel_rfl) (by kernel_rfl) (by kernel_rfl) (fun _ _ _ h => h) (Or.inl ⟨by rfl, fun _ => by go_simp⟩) ?_
          try simp only [Act.put, List.setIfInBounds_toArray, List.set_cons_zero, List.set_cons_succ]
          refine wpAny_ready (rs := [15]) (by kernel_rfl) (by simp) (AllReady.cons rfl (fun K hK => ?_) AllReady.nil)
          go_simp
          refine hK _ _ ?_
          refine wpAny_take (i := 16) (v := .bool true) rfl (by kernel_rfl) (by kernel_rfl) (by kernel_rfl) (fun _ _ _ h => h) (Or.inl ⟨by rfl, fun _ => rfl⟩) ?_
          refine wpAny_take (i := 17) (v := .int .i64 0) rfl (by kernel_rfl) (by kernel_rfl) (by kernel_rfl) (fun _ _ _ h => h) (Or.inl ⟨by rfl, fun _ => rfl⟩) ?_
          refine wpAny_done (by kernel_rfl) ?_ _
          try simp only [Act.put, List.setIfInBounds_toArray]
          have HHF := Lib.hid (show Hd (set2 w (W.heap.size + 1 + 1) 0 (.slice a7 (q.items.length + 1) c7) (.slice a8 (q.recent.length + 1) c8)) (W.heap.size + 1 + 1) (iqO (.slice a7 (q.items.length + 1) c7) (.slice a8 (q.recent.length + 1) c8)) from Hd.set2 HHD.out _ _)
          have HNF := Lib.hid (HNEW.out w _ _ _ _ HIF.out HRF.out HBB.out)
          go_wp2
          exact bodyPost_ret (ret_S Try.results22 rfl rfl rfl HHF.out) rfl HNF.out
      · exact ⟨false, false, false, false, false, false, false, false, false, false, false, false, false, false, undef, undef, undef, undef, undef, undef, undef, undef, undef, undef, undef, undef, undef, undef, rfl, rfl, ⟨Chn.Ch.none _ _ _ _ _ _ _ _ _ _ _, Chn.Ch.none _ _ _ _ _ _ _ _ _ _ _⟩, ⟨fun h => (by cases h), fun h => (by cases h), fun h => (by cases h), fun h => (by cases h), fun h => (by cases h), fun h => (by cases h), fun h => (by cases h)⟩, ⟨fun h => (by cases h), fun h => (by cases h), fun h => (by cases h), fun h => (by cases h), fun h => (by cases h), fun h => (by cases h)⟩, Below.drew (Below.refl _ _)⟩
end Go.Proofs.Ytakiigddbdapaaa.Qu
