
/-
  The program's peersCode, ownTarget, openedPeers, walked.
-/
import Derived.Test.YtakiigddbdapaaaGreatDoorPeJ
import Derived.Test.YtakiigddbdapaaaGreatDoorPeG
namespace Go.Proofs.YtakiigddbdapaaaGreatDoor.Pe
open Go.RowKit
open Go.Proofs.YtakiigddbdapaaaGreatDoor.Gr (Tg tV TgIn tgB tgsB belI_step belI_alloc ret_b ret_i heap_set)
open Go.Proofs.YtakiigddbdapaaaGreatDoor.Ul (Tab MaxL)
open Go.Proofs.YtakiigddbdapaaaGreatDoor.Mk
def pcC (xs : List Pr) : Int := if 4096 < xs.length then 2 else if plB xs = true then 0 else 1
theorem askC_pc (xs : List Pr) (k : Int) : askC xs k = if pcC xs = 0 then (if 0 ≤ k ∧ k < xs.length then 0 else 5) else pcC xs := by
  unfold askC pcC
  by_cases h1 : 4096 < xs.length
  · rw [if_pos h1, if_pos h1]; rfl
  · rw [if_neg h1, if_neg h1]
    by_cases h2 : plB xs = true
    · rw [if_pos h2, if_pos h2, if_pos rfl]
    · rw [if_neg h2, if_neg h2]; rfl
theorem pcC_pl {xs : List Pr} (h : pcC xs = 0) : plB xs = true := by
  unfold pcC at h
  split at h
  · omega
  · split at h
    · assumption
    · omega
set_option maxRecDepth 100000 in
set_option maxHeartbeats 1000000 in
theorem pcI_any (B : Nat) (w0 : World) (xs : List Pr) (v : Value) (h : PrIn (· < B) w0 v xs) (W : World) (hb : Below B w0 W) (hB : B ≤ W.heap.size) (hT : Tab W) (hM : MaxL W) :
    Calls Tryz.prog 43 #[v] W fun e w' => e = .returned (.int .i64 (pcC xs)) ∧ Below W.heap.size W w' := by
  have HK := Lib.hid (okI_any B w0 xs v h W hb hB hT hM)
  obtain ⟨a, c, rfl⟩ := h.slice2
  clear h hb
  unfold pcC
  by_cases h1 : 4096 < xs.length
  · have g1 : (4096 : Int) < (xs.length : Int) := by omega
    rw [if_pos h1]
    go_enter Tryz.func43, Tryz.ntmps43
    go_wp2
    go_ret
    exact ⟨rfl, Below.refl _ _⟩
  · have g1 : ¬ ((4096 : Int) < (xs.length : Int)) := by omega
    rw [if_neg h1]
    obtain ⟨p, hp⟩ : ∃ p, plB xs = p := ⟨_, rfl⟩
    rw [hp] at HK ⊢
    clear hp
    cases p
    all_goals
      go_enter Tryz.func43, Tryz.ntmps43
      go_wp2_with fail
      refine HK.out.mono ?_
      rintro e w1 ⟨rfl, hb1⟩
      go_wp2
      go_ret
      exact ⟨rfl, hb1⟩
theorem ret_T3 {fn : Func} {a B : Nat} {tmps : Array Value} {X : World} {c0 c1 c2 : Value} {T : TypeId} (hres : fn.results = #[.cell a 55]) (ha : tmps[a]?.getD undef = .pointer (some ⟨B, 0, none⟩)) (h : Hd X B (.cells #[c0, c1, c2] T)) :
    (results fn tmps).run Tryz.prog X = .ok (.agg #[c0, c1, c2]) X := by
  obtain ⟨k0, k1, k2, _⟩ := h.three
  simp [results, hres, ha, go_sem, k0, k1, k2]
abbrev itO (u : List UInt8) (p q : Int) : Obj := .cells #[.string ⟨u.toArray⟩, .int .i64 p, .int .i64 q] 55
abbrev ztO : Obj := .cells #[.string ⟨#[]⟩, .int .i64 0, .int .i64 0] 55
set_option maxRecDepth 100000 in
set_option maxHeartbeats 2000000 in
theorem ownT_any (u : List UInt8) (p q : Int) (hl : u.length ≤ 1048576) (W : World) :
    Calls Tryz.prog 56 #[.agg #[.string ⟨u.toArray⟩, .int .i64 p, .int .i64 q]] W fun e w' => e = .returned (.agg #[.string ⟨u.toArray⟩, .int .i64 p, .int .i64 q]) ∧ Below W.heap.size W w' := by
  have HCL := Lib.hid (fun W' => cloneS_any u W' hl)
  obtain ⟨w1, hw1⟩ : ∃ w1, w1 = (W.alloc (itO u p q)).alloc ztO := ⟨_, rfl⟩
  have H0 := Lib.hid (show Hd w1 W.heap.size (itO u p q) by rw [hw1]; exact (Hd.new W _).al _)
  have H1 := Lib.hid (show Hd w1 (W.heap.size + 1) ztO by rw [hw1]; have := Hd.new (W.alloc (itO u p q)) ztO; simpa using this)
  have BF := Lib.hid (show Below W.heap.size W w1 by rw [hw1]; exact belI_alloc (belI_alloc (Below.refl _ _)))
  go_enter Tryz.func56, Tryz.ntmps56
  go_wp2_with fail
  rw [← hw1]
  clear hw1
  refine (HCL.out _).mono ?_
  rintro e w2 ⟨rfl, hb2⟩
  have A0 := Lib.hid (H0.out.blw hb2)
  have A1 := Lib.hid (H1.out.blw hb2)
  have B2 := Lib.hid (belI_step BF.out hb2)
  obtain ⟨m0, m1, m2, mf⟩ := A0.out.three
  clear hb2 H0 H1 BF
  go_upto_region 2 with fail
  obtain ⟨w3, hw3⟩ : ∃ w3, w3 = w2.setCell ⟨W.heap.size, 0, none⟩ (.string ⟨u.toArray⟩) := ⟨_, rfl⟩
  have C0 := Lib.hid (show Hd w3 W.heap.size (itO u p q) by rw [hw3]; exact heap_set A0.out 0 _)
  have C1 := Lib.hid (show Hd w3 (W.heap.size + 1) ztO by rw [hw3]; exact (heap_setCell_other _ ⟨W.heap.size, 0, none⟩ _ _ (by simp)).trans A1.out)
  have B3 := Lib.hid (show Below W.heap.size W w3 by rw [hw3]; exact B2.out.setCell (p := ⟨W.heap.size, 0, none⟩) (Nat.le_refl _) _)
  rw [← hw3]
  clear hw3 m0 m1 m2 mf
  obtain ⟨m0, m1, m2, mf⟩ := C0.out.three
  obtain ⟨n0, n1, n2, nf⟩ := C1.out.three
  have HR := Lib.hid (show Hd (Gr.set3 w3 (W.heap.size + 1) 0 (.string ⟨u.toArray⟩) (.int .i64 p) (.int .i64 q)) (W.heap.size + 1) (itO u p q) from heap_set (heap_set (heap_set C1.out 0 _) 1 _) 2 _)
  have HB := Lib.hid (show Below W.heap.size W (Gr.set3 w3 (W.heap.size + 1) 0 (.string ⟨u.toArray⟩) (.int .i64 p) (.int .i64 q)) from
    ((B3.out.setCell (p := ⟨W.heap.size + 1, 0, none⟩) (by simp) _).setCell (p := ⟨W.heap.size + 1, 1, none⟩) (by simp) _).setCell (p := ⟨W.heap.size + 1, 2, none⟩) (by simp) _)
  go_wp2
  exact bodyPost_ret (ret_T3 Tryz.results56 rfl HR.out) rfl ⟨rfl, HB.out⟩
theorem prC_same : ∀ (xs : List Pr) (k : Nat), k < xs.length → (((prC xs).set (k * 6) (.string ⟨(xs.getD k default).url.toArray⟩)).set (k * 6 + 1) (.int .i64 (xs.getD k default).pri)).set (k * 6 + 2) (.int .i64 (xs.getD k default).wt) = prC xs
  | [], k, h => by simp at h
  | t :: r, 0, _ => rfl
  | t :: r, k + 1, h => by
    have ih := prC_same r k (by simpa using h)
    have e : (k + 1) * 6 = k * 6 + 1 + 1 + 1 + 1 + 1 + 1 := by omega
    rw [e]
    simpa [prC] using ih
theorem O6.same {w : World} {base g cap k : Nat} {xs : List Pr} (h : O6 w base (.slice (some ⟨g, 0, none⟩) xs.length cap) xs) (hk : k < xs.length) : O6 (Gr.set3 w g (k * 6) (.string ⟨(xs.getD k default).url.toArray⟩) (.int .i64 (xs.getD k default).pri) (.int .i64 (xs.getD k default).wt)) base (.slice (some ⟨g, 0, none⟩) xs.length cap) xs := by
  have h6 := own_set (own_set (own_set h (k * 6) (.string ⟨(xs.getD k default).url.toArray⟩)) (k * 6 + 1) (.int .i64 (xs.getD k default).pri)) (k * 6 + 2) (.int .i64 (xs.getD k default).wt)
  rw [prC_same xs k hk] at h6
  exact h6
def Opn (W : World) (xs : List Pr) (k C : Int) (e : Ending) (w' : World) : Prop :=
  Below W.heap.size W w' ∧ (C ≠ 0 → e = .returned (.tuple #[.slice none 0 0, .pointer none, .int .i64 C])) ∧
  (C = 0 → ∃ g cap, e = .returned (.tuple #[.slice (some ⟨g, 0, none⟩) xs.length cap, .pointer (some ⟨g, k.toNat * 6, none⟩), .int .i64 0]) ∧ O6 w' W.heap.size (.slice (some ⟨g, 0, none⟩) xs.length cap) xs)
theorem opn_bad {W w : World} {xs : List Pr} {k C D : Int} (hC : C = D) (h0 : D ≠ 0) (hb : Below W.heap.size W w) : Opn W xs k C (.returned (.tuple #[.slice none 0 0, .pointer none, .int .i64 D])) w := by
  subst hC; exact ⟨hb, fun _ => rfl, fun h => absurd h h0⟩
theorem ret_3 {fn : Func} {a b c : Nat} {tmps : Array Value} {X : World} (hres : fn.results = #[.tmp a, .tmp b, .tmp c]) : (results fn tmps).run Tryz.prog X = .ok (.tuple #[tmps[a]?.getD undef, tmps[b]?.getD undef, tmps[c]?.getD undef]) X := by simp [results, hres, go_sem]
set_option maxRecDepth 100000 in
set_option maxHeartbeats 4000000 in
theorem opnI_any (B : Nat) (w0 : World) (xs : List Pr) (v : Value) (h : PrIn (· < B) w0 v xs) (hl : ∀ i, i < xs.length → (xs.getD i default).url.length ≤ 1048576) (k : Int) (W : World) (hb : Below B w0 W) (hB : B ≤ W.heap.size) (hT : Tab W) (hM : MaxL W) :
    Calls Tryz.prog 50 #[v, .int .i64 k] W (Opn W xs k (askC xs k)) := by
  have HP := Lib.hid (pcI_any B w0 xs v h W hb hB hT hM)
  have HCL := Lib.hid (fun (hsz : xs.length ≤ 1048576) W' h1 h2 => cloneP_any B w0 xs v h hsz W' h1 h2)
  have HL := Lib.hid hl
  have HB := Lib.hid hb
  obtain ⟨a, c, rfl⟩ := h.slice2
  have EA := Lib.hid (askC_pc xs k)
  clear h hb hl hT hM
  obtain ⟨A, hA⟩ : ∃ A, pcC xs = A := ⟨_, rfl⟩
  by_cases hA0 : A = 0
  · subst hA0
    have hpl := pcC_pl hA
    have hsz := (plB_at hpl).1
    rw [hA] at HP EA
    by_cases hk : 0 ≤ k ∧ k < xs.length
    · have EC : askC xs k = 0 := by rw [EA.out, if_pos rfl, if_pos hk]
      rw [EC]
      obtain ⟨kn, rfl⟩ : ∃ kn : Nat, k = (kn : Int) := ⟨k.toNat, by omega⟩
      have hkn : kn < xs.length := by omega
      have hk0 : ¬ ((kn : Int) < 0) := by omega
      have hk1 : ¬ ((xs.length : Int) ≤ (kn : Int)) := by omega
      clear hA hpl EC EA
      go_enter Tryz.func50, Tryz.ntmps50
      go_wp2_with fail
      refine HP.out.mono ?_
      rintro e w1 ⟨rfl, hb1⟩
      have B1 := Lib.hid hb1
      clear hb1
      go_wp2_with fail
      refine (HCL.out (by omega) w1 (HB.out.trans (B1.out.mono hB)) (Nat.le_trans hB B1.out.size)).mono ?_
      rintro e w2 ⟨v2, rfl, ho2, hb2⟩
      have B2 := Lib.hid (below_chain B1.out hb2)
      obtain ⟨g, cap, rfl, hg1, hg2⟩ := O6.isRow ho2 (by omega)
      have O2 := Lib.hid (O6.base ho2 B1.out.size)
      have hgW : W.heap.size ≤ g := Nat.le_trans B1.out.size hg1
      clear ho2 hb2
      go_wp2
      go_loopw [29] (fun i wr => ∃ j : Nat, j ≤ xs.length ∧ i = .int .i64 j ∧ O6 wr W.heap.size (.slice (some ⟨g, 0, none⟩) xs.length cap) xs ∧ Below W.heap.size W wr ∧ g < wr.heap.size) (fun i _ => xs.length - (intOf i).toNat)
      case atStart => exact ⟨0, by omega, rfl, O2.out, B2.out, hg2⟩
      case round =>
        obtain ⟨j, hj, rfl, hO, hR, hgl⟩ := hrel
        have HO := Lib.hid hO
        have HR := Lib.hid hR
        clear hO hR
        by_cases hlt : j < xs.length
        · obtain ⟨q0, q1, q2, q3, q4, q5, -⟩ := HO.out.at hlt
          have HOT := Lib.hid (fun W' => ownT_any (xs.getD j default).url (xs.getD j default).pri (xs.getD j default).wt (HL.out j hlt) W')
          have HSM := Lib.hid (fun w (h : O6 w W.heap.size (.slice (some ⟨g, 0, none⟩) xs.length cap) xs) => O6.same h hlt)
          have HAT := Lib.hid (fun w (h : O6 w W.heap.size (.slice (some ⟨g, 0, none⟩) xs.length cap) xs) => O6.at h hlt)
          generalize xs.getD j default = x at *
          obtain ⟨u, p, q, f, r, gn⟩ := x
          simp only at q0 q1 q2 q3 q4 q5
          obtain ⟨w3, hw3⟩ : ∃ w3, w3 = wr.alloc (ipO ⟨u, p, q, f, r, gn⟩) := ⟨_, rfl⟩
          have H3 := Lib.hid (show Hd w3 wr.heap.size (ipO ⟨u, p, q, f, r, gn⟩) by rw [hw3]; exact Hd.new _ _)
          have B3 := Lib.hid (show Below W.heap.size W w3 by rw [hw3]; exact belI_alloc HR.out)
          have O3 := Lib.hid (show O6 w3 W.heap.size (.slice (some ⟨g, 0, none⟩) xs.length cap) xs by rw [hw3]; exact HO.out.below ((Below.refl _ _).alloc (Nat.le_refl _) _))
          have z3 : g < w3.heap.size := by rw [hw3]; simp; omega
          go_upto_region 10 with fail
          rw [← hw3]
          clear hw3 q0 q1 q2 q3 q4 q5
          obtain ⟨q0, q1, q2, q3, q4, q5, -⟩ := H3.out.six
          go_wp2_with fail
          refine (HOT.out _).mono ?_
          rintro e w4 ⟨rfl, hb4⟩
          have O4 := Lib.hid (O3.out.below hb4)
          have B4 := Lib.hid (belI_step B3.out hb4)
          have z4 : g < w4.heap.size := Nat.lt_of_lt_of_le z3 hb4.size
          have HF := Lib.hid (And.intro (HSM.out w4 O4.out) (And.intro (show Below W.heap.size W (Gr.set3 w4 g (j * 6) (.string ⟨u.toArray⟩) (.int .i64 p) (.int .i64 q)) from ((B4.out.setCell (p := ⟨g, j * 6, none⟩) hgW _).setCell (p := ⟨g, j * 6 + 1, none⟩) hgW _).setCell (p := ⟨g, j * 6 + 2, none⟩) hgW _) (show g < (Gr.set3 w4 g (j * 6) (.string ⟨u.toArray⟩) (.int .i64 p) (.int .i64 q)).heap.size by rw [Gr.set3_size]; exact z4)))
          obtain ⟨p0, p1, p2, p3, p4, p5, pf⟩ := HAT.out w4 O4.out
          clear hb4 q0 q1 q2 q3 q4 q5 H3 O3 HO HSM HAT
          go_wp2
          go_roundw
          case rel => exact ⟨j + 1, by omega, by go_num, HF.out.1, HF.out.2.1, HF.out.2.2⟩
          case measure => simp [intOf]; omega
        · have hkl : (kn : Int) < (xs.length : Int) := by omega
          go_wp2_with fail
          go_quiet (fail)
          have HF := Lib.hid (show Opn W xs (kn : Int) 0 (.returned (.tuple #[.slice (some ⟨g, 0, none⟩) xs.length cap, .pointer (some ⟨g, kn * 6, none⟩), .int .i64 0])) (wr.drewN nq) from
            ⟨belDrew HR.out nq, fun h => absurd rfl h, fun _ => ⟨g, cap, rfl, HO.out⟩⟩)
          go_wp2
          exact bodyPost_ret (ret_3 Tryz.results50) rfl HF.out
    · have EC : askC xs k = 5 := by rw [EA.out, if_pos rfl, if_neg hk]
      have HFN := Lib.hid (fun w (h : Below W.heap.size W w) => opn_bad (xs := xs) (k := k) EC (by decide) h)
      clear hA hpl EC EA
      go_enter Tryz.func50, Tryz.ntmps50
      go_wp2_with fail
      refine HP.out.mono ?_
      rintro e w1 ⟨rfl, hb1⟩
      have HF := Lib.hid (HFN.out w1 hb1)
      clear hb1 HFN
      by_cases hk0 : k < 0
      · go_wp2
        exact bodyPost_ret (ret_3 Tryz.results50) rfl HF.out
      · have hk1 : (xs.length : Int) ≤ k := by omega
        go_wp2
        exact bodyPost_ret (ret_3 Tryz.results50) rfl HF.out
  · have EC : askC xs k = A := by rw [EA.out, hA, if_neg hA0]
    have HFN := Lib.hid (fun w (h : Below W.heap.size W w) => opn_bad (xs := xs) (k := k) EC hA0 h)
    have hA1 : (A != 0) = true := by simpa using hA0
    rw [hA] at HP
    clear hA EC EA
    go_enter Tryz.func50, Tryz.ntmps50
    go_wp2_with fail
    refine HP.out.mono ?_
    rintro e w1 ⟨rfl, hb1⟩
    have HF := Lib.hid (HFN.out w1 hb1)
    clear hb1 HFN
    go_wp2
    exact bodyPost_ret (ret_3 Tryz.results50) rfl HF.out
end Go.Proofs.YtakiigddbdapaaaGreatDoor.Pe
