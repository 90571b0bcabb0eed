
/-
  Expire, the model's.
-/
import Derived.Test.YtkdmlpclioeniaaQvF
namespace Go.Proofs.Ytkdmlpclioeniaa.Qu
open Go.RowKit
open Go.Proofs.Ytkdmlpclioeniaa.Tx
theorem fol_last {pre : List Rep} {l r : Rep} (h : folB (pre ++ [l]) r = true) : l.born ≤ r.born := by
  unfold folB at h
  simp at h
  exact h.2
theorem ex_none (now age : Int) : ∀ (xs pre : List Rep) (l : Rep), itB (pre ++ [l]) xs = true → exP now age l = false → xs.filter (exP now age) = [] ∧ xs.filter (fun r => !exP now age r) = xs
  | [], _, _, _, _ => ⟨rfl, rfl⟩
  | x :: xs, pre, l, h, hl => by
    simp only [itB, Bool.and_eq_true] at h
    have h1 := fol_last h.1.2
    have hx : exP now age x = false := by
      unfold exP at hl ⊢
      simp only [decide_eq_false_iff_not] at hl ⊢
      omega
    obtain ⟨e1, e2⟩ := ex_none now age xs (pre ++ [l]) x h.2 hx
    rw [List.filter_cons, List.filter_cons, hx, e1, e2]
    exact ⟨rfl, rfl⟩
theorem ex_split (now age : Int) : ∀ (xs pre : List Rep), itB pre xs = true → xs.filter (exP now age) = xs.take (xs.takeWhile (exP now age)).length ∧ xs.filter (fun r => !exP now age r) = xs.drop (xs.takeWhile (exP now age)).length
  | [], _, _ => ⟨rfl, rfl⟩
  | x :: xs, pre, h => by
    simp only [itB, Bool.and_eq_true] at h
    cases hx : exP now age x with
    | true =>
      obtain ⟨e1, e2⟩ := ex_split now age xs _ h.2
      rw [List.filter_cons, List.filter_cons, List.takeWhile_cons, hx, e1, e2]
      exact ⟨rfl, rfl⟩
    | false =>
      obtain ⟨e1, e2⟩ := ex_none now age xs pre x h.2 hx
      rw [List.filter_cons, List.filter_cons, List.takeWhile_cons, hx, e1, e2]
      exact ⟨rfl, rfl⟩
theorem quB_split {q : Q} (h : quB q = true) (now age : Int) : q.items.filter (exP now age) = q.items.take (exN q now age) ∧ q.items.filter (fun r => !exP now age r) = q.items.drop (exN q now age) := by
  unfold quB at h
  simp only [Bool.and_eq_true, decide_eq_true_eq] at h
  exact ex_split now age _ _ h.2.2.1
/-- the two lists being made, with the argument's box and the result's -/
structure ExS (W : World) (o : Obj) (xs : List Rep) (ds : List Int) (vd vi : Value) (w : World) : Prop where
  H : Hd w W.heap.size o
  Z : Hd w (W.heap.size + 1) zqO
  I : OI w (W.heap.size + 2) vd ds
  R : O4 w (W.heap.size + 2) vi xs
  b : Below W.heap.size W w
theorem ExS.blw {W w w' : World} {o : Obj} {xs : List Rep} {ds : List Int} {vd vi : Value} (h : ExS W o xs ds vd vi w) (hb : Below w.heap.size w w') : ExS W o xs ds vd vi w' :=
  ⟨h.H.blw hb, h.Z.blw hb, OI.below h.I hb, O4.below h.R hb, below_chain h.b hb⟩
theorem ExS.al {W w : World} {o : Obj} {xs : List Rep} {ds : List Int} {vd vi : Value} (h : ExS W o xs ds vd vi w) (x : Obj) : ExS W o xs ds vd vi (w.alloc x) :=
  h.blw ((Below.refl w.heap.size w).alloc (Nat.le_refl _) x)
theorem ExS.appI {W w w' : World} {o : Obj} {xs : List Rep} {ds ds' : List Int} {vd vd' vi : Value} (h : ExS W o xs ds vd vi w) (hg : w.grownBy w' vd.ownBlock) (hI : OI w' (W.heap.size + 2) vd' ds') : ExS W o xs ds' vd' vi w' := by
  have hne : ∀ b, b < W.heap.size + 2 → some b ≠ vd.ownBlock := fun b hb e => by have := (World.ownsRow.lt h.I b e.symm).1; omega
  exact ⟨h.H.grown hg (hne _ (by omega)), h.Z.grown hg (hne _ (by omega)), hI, World.ownsRow.kept h.R hg (own_apart h.R h.I (by decide)), h.b.grown hg h.b.size (fun b e => by have := (World.ownsRow.lt h.I b e).1; omega)⟩
theorem ExS.appR {W w w' : World} {o : Obj} {xs xs' : List Rep} {ds : List Int} {vd vi vi' : Value} (h : ExS W o xs ds vd vi w) (hg : w.grownBy w' vi.ownBlock) (hR : O4 w' (W.heap.size + 2) vi' xs') : ExS W o xs' ds vd vi' w' := by
  have hne : ∀ b, b < W.heap.size + 2 → some b ≠ vi.ownBlock := fun b hb e => by have := (World.ownsRow.lt h.R b e.symm).1; omega
  exact ⟨h.H.grown hg (hne _ (by omega)), h.Z.grown hg (hne _ (by omega)), World.ownsRow.kept h.I hg (own_apart h.I h.R (by decide)), hR, h.b.grown hg h.b.size (fun b e => by have := (World.ownsRow.lt h.R b e).1; omega)⟩
theorem O4.snoc {w : World} {base : Nat} {v : Value} {xs : List Rep} {x : Rep} (h : w.ownsRow base 26 4 v (xs.length + 1) (rpC xs ++ [.int .i64 x.id, .int .i64 x.born, .int .i64 x.tries, .string ⟨x.body.toArray⟩])) : O4 w base v (xs ++ [x]) := by
  unfold O4
  rw [rpC_app, List.length_append]
  exact h
theorem one_rep (a b c : Int) (t : ByteArray) : ∀ u ∈ [Value.int .i64 a, .int .i64 b, .int .i64 c, .string t], u.oneCell' = true := by
  intro u hu
  simp only [List.mem_cons, List.not_mem_nil, or_false] at hu
  rcases hu with rfl | rfl | rfl | rfl <;> rfl
theorem ret_X {fn : Func} {a b B : Nat} {tmps : Array Value} {X : World} {c0 c1 u : Value} {T : TypeId} (hres : fn.results = #[.cell a 37, .tmp b]) (ha : tmps[a]?.getD undef = .pointer (some ⟨B, 0, none⟩)) (hb : tmps[b]?.getD undef = u) (h : Hd X B (.cells #[c0, c1] T)) :
    (results fn tmps).run Try.prog X = .ok (.tuple #[.agg #[c0, c1], u]) X := by
  obtain ⟨k0, k1, _⟩ := h.two
  simp [results, hres, ha, hb, go_sem, k0, k1]
def NewX (W : World) (rv : Value) (xs : List Rep) (ds : List Int) (e : Ending) (w' : World) : Prop := ∃ vi vd, e = .returned (.tuple #[qV vi rv, vd]) ∧ O4 w' W.heap.size vi xs ∧ OI w' W.heap.size vd ds ∧ Below W.heap.size W w'
set_option maxRecDepth 100000 in
set_option maxHeartbeats 4000000 in
theorem lExpire_any (B : Nat) (w0 : World) (q : Q) (now age : Int) (iv rv : Value) (hi : RpIn (· < B) w0 iv q.items) (hr : TxtsIn (· < B) w0 rv q.recent) (hq : quB q = true) (hg : exG now age) (W : World) (hb : Below B w0 W) (hB : B ≤ W.heap.size) :
    Calls Try.prog 71 #[qV iv rv, .int .i64 now, .int .i64 age] W (NewX W rv (q.items.filter (fun r => !exP now age r)) (idsOf (q.items.filter (exP now age)))) := by
  have HBO := Lib.hid (quB_born hq)
  have hl5 := (quB_small hq).i
  obtain ⟨a1, c1, rfl⟩ := hi.slice2
  obtain ⟨a2, l2, c2, rfl⟩ := hr.slice
  have HI := Lib.hid (hi.blw hb)
  obtain ⟨w1, hw1⟩ : ∃ w1, w1 = (W.alloc (iqO (.slice a1 q.items.length c1) (.slice a2 l2 c2))).alloc zqO := ⟨_, rfl⟩
  have HBX := Lib.hid (show Hd w1 W.heap.size (iqO (.slice a1 q.items.length c1) (.slice a2 l2 c2)) from hw1 ▸ (Hd.new W _).al _)
  have HG := Lib.hid (show Hd w1 (W.heap.size + 1) zqO from by
    have := Hd.new (W.alloc (iqO (.slice a1 q.items.length c1) (.slice a2 l2 c2))) zqO
    rw [hw1]; simpa using this)
  have BF := Lib.hid (show Below W.heap.size W w1 from hw1 ▸ ((Below.refl W.heap.size W).alloc (Nat.le_refl _) _).alloc (by simp) _)
  have hw1s : w1.heap.size = W.heap.size + 2 := by rw [hw1]; simp
  obtain ⟨x1, hx1⟩ : ∃ x1, x1 = (w1.alloc (.cells #[] 3)).alloc (.cells #[] 26) := ⟨_, rfl⟩
  have HS1 := Lib.hid (show ExS W (iqO (.slice a1 q.items.length c1) (.slice a2 l2 c2)) ((q.items.take 0).filter (fun r => !exP now age r)) (idsOf ((q.items.take 0).filter (exP now age))) (.slice (some ⟨W.heap.size + 2, 0, none⟩) 0 0) (.slice (some ⟨W.heap.size + 2 + 1, 0, none⟩) 0 0) x1 from by
    rw [hx1]
    exact ⟨(HBX.out.al _).al _, (HG.out.al _).al _, own_al (hw1s ▸ OI_made w1 : OI (w1.alloc (.cells #[] 3)) (W.heap.size + 2) (.slice (some ⟨W.heap.size + 2, 0, none⟩) 0 0) []) _, O4_mk (by simp [hw1s]) (by simp [hw1s]), belI_alloc (belI_alloc BF.out)⟩)
  obtain ⟨i0, hi0, hz0, hz1, hz2⟩ := info_parts Try.infoRp
  obtain ⟨j0, hj0, hy0, hy1, hy2⟩ := info_parts Try.infoInt
  have HFIN := Lib.hid (fun (w' : World) (vi vd : Value) (h4 : O4 w' W.heap.size vi (q.items.filter (fun r => !exP now age r))) (hI : OI w' W.heap.size vd (idsOf (q.items.filter (exP now age)))) (hb : Below W.heap.size W w') => show NewX W (.slice a2 l2 c2) (q.items.filter (fun r => !exP now age r)) (idsOf (q.items.filter (exP now age))) (.returned (.tuple #[qV vi (.slice a2 l2 c2), vd])) w' from ⟨vi, vd, rfl, h4, hI, hb⟩)
  generalize NewX W (.slice a2 l2 c2) (q.items.filter (fun r => !exP now age r)) (idsOf (q.items.filter (exP now age))) = PST at *
  clear hi hr hb hq
  go_enter Try.func71, Try.ntmps71
  go_wp2
  rw [← hw1, ← hx1]
  clear hx1 hw1 hw1s HBX HG BF
  go_loopw [8, 9, 10] (fun vd vi iv wr => ∃ k : Nat, k ≤ q.items.length ∧ iv = .int .i64 k ∧ ExS W (iqO (.slice a1 q.items.length c1) (.slice a2 l2 c2)) ((q.items.take k).filter (fun r => !exP now age r)) (idsOf ((q.items.take k).filter (exP now age))) vd vi wr) (fun _ _ iv _ => q.items.length - (intOf iv).toNat)
  case atStart => exact ⟨0, by omega, rfl, HS1.out⟩
  case round =>
    obtain ⟨k, hk, rfl, hS⟩ := hrel
    have HS := Lib.hid hS
    obtain ⟨m0, m1, -⟩ := hS.H.two
    by_cases hlt : k < q.items.length
    · obtain ⟨a, cap, b, off, e, e7, hcm, -, h4', h5'⟩ := HI.out.blw (hS.b.mono hB)
      injection e with e1 e2 e3
      subst e3
      obtain ⟨rfl, -⟩ := h4' (by omega)
      subst e1
      obtain ⟨q0, q1, q2, q3⟩ := h5' k hlt
      have hbo := HBO.out k hlt
      have hPK : exP now age (q.items.getD k default) = decide (age < now - (q.items.getD k default).born) := rfl
      have HTK := Lib.hid (show ∀ f : Rep → Bool, (q.items.take (k + 1)).filter f = (q.items.take k).filter f ++ (if f (q.items.getD k default) = true then [q.items.getD k default] else []) from fun f => by
        rw [List.take_succ_eq_append_getElem hlt, List.filter_append, List.filter_cons, List.filter_nil]
        simp [List.getD, hlt])
      have hE1 : (q.items.take (k + 1)).filter (fun r => !exP now age r) = (q.items.take k).filter (fun r => !exP now age r) ++ (if (!exP now age (q.items.getD k default)) = true then [q.items.getD k default] else []) := HTK.out _
      have h1l : ((q.items.take k).filter (fun r => !exP now age r)).length ≤ 5 := Nat.le_trans (List.length_filter_le _ _) (by simp; omega)
      have h2l : (idsOf ((q.items.take k).filter (exP now age))).length ≤ 5 := by
        simp only [idsOf, List.length_map]
        exact Nat.le_trans (List.length_filter_le _ _) (by simp; omega)
      clear h4' h5' e2
      generalize q.items.getD k default = x at *
      generalize (q.items.take k).filter (fun r => !exP now age r) = xs at *
      have hw : IntKind.i64.wrap (now - x.born) = now - x.born := by
        have := hg.1
        exact IntWalk.i64_in _ (by omega)
      by_cases hp : age < now - x.born
      · have hp2 : exP now age x = true := by rw [hPK]; exact decide_eq_true hp
        have E1 := Lib.hid (show (q.items.take (k + 1)).filter (fun r => !exP now age r) = xs by rw [hE1, hp2]; simp)
        have E2 := Lib.hid (show idsOf ((q.items.take (k + 1)).filter (exP now age)) = idsOf ((q.items.take k).filter (exP now age)) ++ [x.id] by rw [HTK.out, if_pos hp2]; simp [idsOf])
        generalize idsOf ((q.items.take k).filter (exP now age)) = ds at *
        obtain ⟨a5, c5, rfl⟩ := hS.I.slice
        obtain ⟨a6, c6, rfl⟩ := hS.R.slice
        have HA := Lib.hid (HS.out.al (.cells #[.int .i64 x.id] 3))
        have HL := Lib.hid h2l
        clear hS HTK hE1 hp2 hPK h1l h2l
        go_wp2_with (at_builtin; refine wpList_append_own _ rfl _ _ 47 rfl (W.heap.size + 2) 3 j0 (.int .i64 0) 1 8 Try.underlying47 hj0 hy0 hy1 hy2 rfl (by decide) _ _ _ rfl HA.out.I ⟨wr.heap.size, 0, none⟩ 1 1 [.int .i64 x.id] rfl rfl (cell_one_new _ _ _) (one_int _) (by have := HL.out; unfold maxLen; omega) (by have := HL.out; omega) (by have := HA.out.Z.lt; omega) ?_; intro v' w4 hown' hgrow hplace; have HN := Lib.hid (HA.out.appI hgrow (E2.out ▸ OI.snoc hown')); obtain ⟨a7, c7, rfl⟩ := own_slice hown'; clear hown' hgrow hplace)
        go_roundw
        case rel => exact ⟨k + 1, by omega, by go_num, by rw [E1.out]; exact HN.out⟩
        case measure => simp [intOf]; omega
      · have hp2 : exP now age x = false := by rw [hPK]; exact decide_eq_false hp
        have E1 := Lib.hid (show (q.items.take (k + 1)).filter (fun r => !exP now age r) = xs ++ [x] by rw [hE1, if_pos (by rw [hp2]; rfl)])
        have E2 := Lib.hid (show idsOf ((q.items.take (k + 1)).filter (exP now age)) = idsOf ((q.items.take k).filter (exP now age)) by rw [HTK.out, hp2]; simp)
        generalize idsOf ((q.items.take k).filter (exP now age)) = ds at *
        obtain ⟨a5, c5, rfl⟩ := hS.I.slice
        obtain ⟨a6, c6, rfl⟩ := hS.R.slice
        have HA := Lib.hid (HS.out.al (.cells #[.int .i64 x.id, .int .i64 x.born, .int .i64 x.tries, .string ⟨x.body.toArray⟩] 26))
        have HNB := Lib.hid (World.news_of_block (Hd.new wr (.cells #[.int .i64 x.id, .int .i64 x.born, .int .i64 x.tries, .string ⟨x.body.toArray⟩] 26)))
        have HL := Lib.hid h1l
        clear hS HTK hE1 hp2 hPK h1l h2l
        go_wp2_with (at_builtin; refine wpList_append_own _ rfl _ _ 35 rfl (W.heap.size + 2) 26 i0 _ 4 40 Try.underlying35 hi0 hz0 hz1 hz2 rfl (by decide) _ _ _ rfl HA.out.R ⟨wr.heap.size, 0, none⟩ 1 1 [.int .i64 x.id, .int .i64 x.born, .int .i64 x.tries, .string ⟨x.body.toArray⟩] rfl rfl HNB.out (one_rep _ _ _ _) (by have := HL.out; unfold maxLen; omega) (by have := HL.out; omega) (by have := HA.out.Z.lt; omega) ?_; intro v' w4 hown' hgrow hplace; have HN := Lib.hid (HA.out.appR hgrow (E1.out ▸ O4.snoc hown')); obtain ⟨a7, c7, rfl⟩ := own_slice hown'; clear hown' hgrow hplace)
        go_roundw
        case rel => exact ⟨k + 1, by omega, by go_num, by rw [E2.out]; exact HN.out⟩
        case measure => simp [intOf]; omega
    · obtain rfl : k = q.items.length := by omega
      rw [List.take_length] at hS HS
      generalize q.items.filter (fun r => !exP now age r) = xs at *
      generalize idsOf (q.items.filter (exP now age)) = ds at *
      obtain ⟨a5, c5, rfl⟩ := hS.I.slice
      obtain ⟨a6, c6, rfl⟩ := hS.R.slice
      have hz := hS.Z.lt
      obtain ⟨p0, p1, pf⟩ := hS.Z.two
      have HF := Lib.hid (And.intro (hS.Z.set2 (.slice a6 xs.length c6) (.slice a2 l2 c2)) (HFIN.out (set2 wr (W.heap.size + 1) 0 (.slice a6 xs.length c6) (.slice a2 l2 c2)) (.slice a6 xs.length c6) (.slice a5 ds.length c5)
        (own_ch (far2 _ _) (own_base hS.R (by omega)) (fun b e x => by have := (World.ownsRow.lt hS.R b e).1; omega)) (own_ch (far2 _ _) (own_base hS.I (by omega)) (fun b e x => by have := (World.ownsRow.lt hS.I b e).1; omega)) ((far2 _ _).below hS.b hS.b.size (fun b e => by omega))))
      clear hS
      go_wp2
      exact bodyPost_ret (ret_X Try.results71 rfl rfl HF.out.1) rfl HF.out.2
end Go.Proofs.Ytkdmlpclioeniaa.Qu
