
/-
  The program's jsonOf and jsonItems, with what the answer owns, walked.
-/
import Derived.Test.YtjakkmjipglkiaaDoorJoT
import Derived.Test.YtjakkmjipglkiaaDoorJsVal
namespace Go.Proofs.YtjakkmjipglkiaaDoor.Js
open Go.RowKit
/-- what has been taken back after k rounds -/
def ORO (W : World) (xs : List J) (k : Nat) (l : Value) (wr : World) : Prop :=
  ∃ (vals : List Value) (vn vi : Nat → Value) (Sc : Nat → Nat → Prop), wr.ownsRow W.heap.size 25 5 l k vals ∧
    (∀ i, i < k → ∀ c, c < 5 → vals[i * 5 + c]? = some (cellJ (xs.getD i default) (vn i) (vi i) c)) ∧ (∀ i, i < k → FitJ (xs.getD i default)) ∧
    (∀ i, i < k → OJ wr W.heap.size (Sc i) (xs.getD i default) (vn i) (vi i)) ∧ (∀ i, i < k → ∀ b, Sc i b → l.ownBlock ≠ some b) ∧ (∀ i j, i < k → j < k → i ≠ j → ∀ b, Sc i b → ¬ Sc j b) ∧ Below W.heap.size W wr
theorem oRO_start (W : World) (xs : List J) : ORO W xs 0 (.slice none 0 0) W :=
  ⟨[], fun _ => undef, fun _ => undef, fun _ _ => False, World.ownsRow_nil W _ _ _, fun i hi => by omega, fun i hi => by omega, fun i hi => by omega, fun i hi => by omega, fun i j hi => by omega, Below.refl _ _⟩
theorem row_of_own {w : World} {base n : Nat} {l : Value} {vals : List Value} {D : Nat → J} {vn vi : Nat → Value} (h : w.ownsRow base 25 5 l n vals) (hf : ∀ i, i < n → ∀ c, c < 5 → vals[i * 5 + c]? = some (cellJ (D i) (vn i) (vi i) c)) : RowJ w l n D vn vi ∧ ∀ b, l.ownBlock = some b → base ≤ b := by
  obtain ⟨hl, ho⟩ := h
  rcases ho with ⟨rfl, h0⟩ | ⟨g, cap, cur, rfl, hg, hblk, hcap, hmc, hcs, htk⟩
  · exact ⟨.inl ⟨rfl, h0⟩, fun b hb => by simp [Value.ownBlock] at hb⟩
  · refine ⟨.inr ⟨g, cap, fun i => cur[i]?.getD undef, rfl, ⟨cur, hblk, hcs, fun i hi => ?_⟩, hcap, by unfold maxLen at hmc; exact hmc, fun j hj c hc => ?_⟩, fun b hb => by simp [Value.ownBlock] at hb; omega⟩
    · have : i < cur.size := by omega
      simp [this]
    · have h1 := hf j hj c hc
      rw [← htk, List.getElem?_take_of_lt (by omega)] at h1
      have h2 : cur[j * 5 + c]? = some (cellJ (D j) (vn j) (vi j) c) := by simpa using h1
      simp only [h2, Option.getD_some]
theorem oRO_end {W w' : World} {xs : List J} {l : Value} (h : ORO W xs xs.length l w') : NewLO W xs (.returned l) w' := by
  obtain ⟨vals, vn, vi, Sc, ho, hf, hft, hj, hne, hd, hb⟩ := h
  obtain ⟨h1, h2⟩ := row_of_own (D := fun j => xs.getD j default) ho hf
  exact ⟨l, fun b => l.ownBlock = some b ∨ ∃ j, j < xs.length ∧ Sc j b, rfl, ⟨Sc, vn, vi, h1, h2, hft, hj, fun b => Iff.rfl, fun j hj b hb e => hne j hj b hb e, hd⟩, hb⟩
theorem oRO_step {W wr wx w2 w4 : World} {xs : List J} {k : Nat} {x : J} {l l' nv iv : Value} {vals : List Value} {vn vi : Nat → Value} {Sc : Nat → Nat → Prop} {S : Nat → Prop} {o : Obj} (hx : xs.getD k default = x) (ho : wr.ownsRow W.heap.size 25 5 l k vals)
    (hf : ∀ i, i < k → ∀ c, c < 5 → vals[i * 5 + c]? = some (cellJ (xs.getD i default) (vn i) (vi i) c)) (hft : ∀ i, i < k → FitJ (xs.getD i default))
    (hd : ∀ i, i < k → OJ wr W.heap.size (Sc i) (xs.getD i default) (vn i) (vi i)) (hne : ∀ i, i < k → ∀ b, Sc i b → l.ownBlock ≠ some b) (hdd : ∀ i j, i < k → j < k → i ≠ j → ∀ b, Sc i b → ¬ Sc j b) (hN : Below W.heap.size W wr)
    (hwx : Below wr.heap.size wr wx) (hb2 : Below wx.heap.size wx w2) (hv : OJ w2 wx.heap.size S x nv iv) (hft2 : FitJ x)
    (h4 : w4.ownsRow W.heap.size 25 5 l' (k + 1) (vals ++ [.int .i64 x.kind, .int .i64 x.num, .string ⟨x.text.toArray⟩, nv, iv])) (hg : (w2.alloc o).grownBy w4 l.ownBlock) (hp : l'.ownBlock = l.ownBlock ∨ l'.ownBlock = some (w2.alloc o).heap.size) : ORO W xs (k + 1) l' w4 := by
  have s1 := hwx.size
  have s2 := hb2.size
  have s0 := hN.size
  have s4 := hg.size
  have hlen : vals.length = k * 5 := ho.1
  have e2 : (w2.alloc o).heap.size = w2.heap.size + 1 := by simp
  have hlt := ho.lt
  have keep : ∀ b, b < w2.heap.size → l.ownBlock ≠ some b → w4.heap[b]? = w2.heap[b]? := fun b hb hne => by
    rw [hg.block b (by omega) (fun e => hne e.symm), heap_alloc_old _ _ hb]
  have hne' : ∀ b, b < w2.heap.size → l.ownBlock ≠ some b → l'.ownBlock ≠ some b := fun b hb hne e => by
    rcases hp with h | h
    · exact hne (h ▸ e)
    · rw [h] at e; simp at e; omega
  have hbW : Below W.heap.size W w2 := (hN.trans (hwx.mono s0)).trans (hb2.mono (by omega))
  have hnew : ∀ b, S b → l.ownBlock ≠ some b := fun b hb e => by have := hlt b e; have := hv.lt b hb; omega
  refine ⟨_, fun i => if i = k then nv else vn i, fun i => if i = k then iv else vi i, fun i => if i = k then S else Sc i, h4, fun i hi c hc => ?_, fun i hi => ?_, fun i hi => ?_, fun i hi b => ?_, fun i j hi hj hij b => ?_, (hbW.alloc (by omega) o).grown hg (by omega) (fun b e => (hlt b e).1)⟩
  · by_cases hik : i = k
    · subst hik
      rw [hx]
      simp only [if_true]
      rw [List.getElem?_append_right (by omega), hlen, show i * 5 + c - i * 5 = c by omega]
      match c, hc with
      | 0, _ => rfl
      | 1, _ => rfl
      | 2, _ => rfl
      | 3, _ => rfl
      | 4, _ => rfl
    · simp only [if_neg hik]
      rw [List.getElem?_append_left (by omega)]
      exact hf i (by omega) c hc
  · by_cases hik : i = k
    · subst hik; rw [hx]; exact hft2
    · exact hft i (by omega)
  · by_cases hik : i = k
    · subst hik
      rw [hx]
      simp only [if_true]
      exact (hv.base (by omega)).same fun b hS => keep b (hv.lt b hS).2 (hnew b hS)
    · simp only [if_neg hik]
      refine (hd i (by omega)).same fun b hS => ?_
      have := (hd i (by omega)).lt b hS
      rw [keep b (by omega) (hne i (by omega) b hS), hb2.block b (by omega), hwx.block b this.2]
  · dsimp only
    by_cases hik : i = k
    · rw [if_pos hik]
      exact fun hS => hne' b (hv.lt b hS).2 (hnew b hS)
    · rw [if_neg hik]
      exact fun hS => hne' b (by have := (hd i (by omega)).lt b hS; omega) (hne i (by omega) b hS)
  · dsimp only
    by_cases e1 : i = k
    · rw [if_pos e1, if_neg (by omega)]
      intro h1 h2
      have := hv.lt b h1
      have := (hd j (by omega)).lt b h2
      omega
    · rw [if_neg e1]
      by_cases e2 : j = k
      · rw [if_pos e2]
        intro h1 h2
        have := hv.lt b h2
        have := (hd i (by omega)).lt b h1
        omega
      · rw [if_neg e2]
        exact hdd i j (by omega) (by omega) hij b
set_option maxRecDepth 100000 in
set_option maxHeartbeats 4000000 in
theorem ofLO_of (B : Nat) (w0 : World) (xs : List J) (v : Value) (h1 : VLn (· < B) w0 v xs) (hsz : xs.length ≤ 1048576)
    (ih : ∀ i, i < xs.length → ∀ (v : Value), VIn (· < B) w0 v (xs.getD i default) → ∀ (W : World), Below B w0 W → B ≤ W.heap.size → Calls Tryd.prog 12 #[v] W (NewJO W (xs.getD i default)))
    (W : World) (hb : Below B w0 W) (hB : B ≤ W.heap.size) : Calls Tryd.prog 28 #[v] W (NewLO W xs) := by
  obtain ⟨a, cap, b, off, vs, rfl, hcap, hm, ha, hc, hdp⟩ := h1
  have hn : xs.length ≤ 9223372036854775807 := by omega
  have HC := Lib.hid hc
  have HA := Lib.hid ha
  have HD := Lib.hid hdp
  have HI := Lib.hid ih
  have HB := Lib.hid hb
  clear hc ha hdp ih hb
  obtain ⟨i0, hi, hz0, hz1, hz2⟩ := info_parts Tryd.infoJ2
  have HST := Lib.hid (oRO_start W xs)
  go_enter Tryd.func28, Tryd.ntmps28
  go_wp2_with fail
  go_loopw [3, 8] (fun l i wr => ∃ k : Nat, k ≤ xs.length ∧ i = .int .i64 k ∧ ORO W xs k l wr) (fun _ i _ => xs.length - (intOf i).toNat)
  case atStart => exact ⟨0, by omega, rfl, HST.out⟩
  case round =>
    obtain ⟨k, hk, rfl, hR⟩ := hrel
    by_cases hlt : k < xs.length
    · obtain ⟨ea, hlb⟩ := HA.out (by omega)
      subst ea
      obtain ⟨vals, vn, vi, Sc, hown, hf, hft, hch, hne, hdd, hRB⟩ := hR
      have HO := Lib.hid hown
      have HF := Lib.hid hf
      have HFT := Lib.hid hft
      have HNE := Lib.hid hne
      have HDD := Lib.hid hdd
      have HCH := Lib.hid hch
      have HRB := Lib.hid hRB
      have hW := HB.out.trans (hRB.mono hB)
      have hWB : B ≤ wr.heap.size := Nat.le_trans hB hRB.size
      have hWr : W.heap.size ≤ wr.heap.size := hRB.size
      have q0 := (hW.cell (p := ⟨b, off + k, none⟩) hlb).trans (HC.out k hlt)
      have HK := Lib.hid (HI.out k hlt _ (HD.out k hlt) wr hW hWB)
      clear hown hf hch hRB hW hft hne hdd
      generalize hx : xs.getD k default = x at *
      have HX := Lib.hid hx
      clear hx
      generalize vs k = v1 at *
      go_wp2_with fail
      refine HK.out.mono ?_
      rintro e w2 ⟨nv, iv, S, rfl, hv, hft2, hb2⟩
      have HFT2 := Lib.hid hft2
      obtain ⟨⟨an, ln, cn, rfl⟩, ⟨ai, li, ci, rfl⟩⟩ := hv.slices
      have HV := Lib.hid hv
      have HB2 := Lib.hid hb2
      have hkeep : w2.ownsRow W.heap.size 25 5 u3 k vals :=
        HO.out.kept (row := none) ⟨hb2.os, hb2.tape, hb2.output, hb2.size, fun b hb _ => hb2.block b hb⟩ (by rcases Classical.em (u3.ownBlock = none) with h | h; exact .inl h; exact .inr h)
      have HO2 := Lib.hid hkeep
      have hWw : W.heap.size ≤ w2.heap.size := Nat.le_trans hWr hb2.size
      clear hv hb2 hkeep hft2
      go_wp2_with (at_builtin; refine App.wpList_app _ rfl _ _ 23 rfl W.heap.size 25 i0 (.agg #[.int .i64 0, .int .i64 0, .string ByteArray.empty, .slice none 0 0, .slice none 0 0]) 5 80 Tryd.underlying23 hi hz0 hz1 hz2 rfl (by decide) _ _ _ rfl (HO2.out.alloc _) ⟨w2.heap.size, 0, none⟩ 1 1 [.int .i64 x.kind, .int .i64 x.num, .string ⟨x.text.toArray⟩, .slice an ln cn, .slice ai li ci] rfl (by decide) rfl (cell_five_new _ _ _ _ _ _ _) (one_five _ _ _ _ _ _ _ _ _) (by omega) (by omega) (by simp; omega) ?_; intro l' w4 hown' hgrow hplace)
      go_roundw
      case rel => exact ⟨k + 1, by omega, by go_num, oRO_step HX.out HO.out HF.out HFT.out HCH.out HNE.out HDD.out HRB.out (Below.refl _ _) HB2.out HV.out HFT2.out hown' hgrow hplace⟩
      case measure => simp [intOf]; omega
    · obtain rfl : k = xs.length := by omega
      have HF := Lib.hid (oRO_end hR)
      clear hR
      go_wp2
      go_ret
      exact HF.out
theorem o1_nil (w : World) (base : Nat) : O1 w base (.slice none 0 0) [] := ⟨rfl, .inl ⟨rfl, rfl⟩⟩
theorem newJO_flat {W w' : World} (k n : Int) (t : List UInt8) (b1 : -9223372036854775808 ≤ k ∧ k ≤ 9223372036854775807) (b2 : -9223372036854775808 ≤ n ∧ n ≤ 9223372036854775807) (b3 : t.length ≤ 9223372036854775807) (hb : Below W.heap.size W w') :
    NewJO W (.mk k n t [] []) (.returned (jV (.mk k n t [] []) (.slice none 0 0) (.slice none 0 0))) w' :=
  ⟨_, _, _, rfl, .of (o1_nil _ _) (by simp) (by simp) (OL.nil _ _) (fun b hb => hb.elim), ⟨b1, b2, b3⟩, hb⟩
theorem newJO_list {W w1 : World} {m : Nat} {S : Nat → Prop} {xs : List J} {iv : Value} (h : OL w1 m S xs iv) (hm : W.heap.size < m) {a b c d e : Value} (hb : Below W.heap.size W (set5 w1 W.heap.size 0 a b c d e)) :
    NewJO W (.mk 5 0 [] [] xs) (.returned (jV (.mk 5 0 [] [] xs) (.slice none 0 0) iv)) (set5 w1 W.heap.size 0 a b c d e) := by
  refine ⟨_, _, _, rfl, .of (o1_nil _ _) (by simp) (by simp) ((h.base (by omega)).same fun b hS => set5_far _ _ _ _ _ _ _ _ _ (by have := h.lt b hS; omega)) (fun b _ e => by simp [Value.ownBlock] at e), ⟨by simp [J.kind], by simp [J.num], by simp [J.text]⟩, hb⟩
theorem nRO_end {W w1 wr : World} {m : Nat} {S : Nat → Prop} {iv cur : Value} {ns : List (List UInt8)} {xs : List J} (hB1 : Below W.heap.size W w1) (hW1 : W.heap.size + 2 ≤ w1.heap.size) (hL : OL w1 m S xs iv) (hm : W.heap.size < m)
    (hlen : ∀ t ∈ ns, t.length ≤ 9223372036854775807) (hnl : ns.length ≤ 9223372036854775807)
    (ho : wr.ownsRow (w1.heap.size + 1) 9 1 cur ns.length ((ns.take ns.length).map fun t => .string ⟨t.toArray⟩)) (hRB : Below w1.heap.size w1 wr) :
    NewJO W (.mk 6 0 [] ns xs) (.returned (jV (.mk 6 0 [] ns xs) cur iv)) (set5 wr W.heap.size 0 (.int .i64 6) (.int .i64 0) (.string ⟨#[]⟩) cur iv) := by
  have hs := hRB.size
  have hbW : Below W.heap.size W wr := hB1.trans (hRB.mono (by omega))
  rw [List.take_length] at ho
  have h1 : O1 wr (w1.heap.size + 1) cur ns := ho
  have h2 : O1 (set5 wr W.heap.size 0 (.int .i64 6) (.int .i64 0) (.string ⟨#[]⟩) cur iv) W.heap.size cur ns := own_low (own_blk h1 fun b hb => set5_far _ _ _ _ _ _ _ _ _ (by have := (h1.blk hb).1; omega)) (by omega)
  exact ⟨_, _, _, rfl, .of h2 hlen hnl ((hL.base (by omega)).same fun b hS => (set5_far _ _ _ _ _ _ _ _ _ (by have := hL.lt b hS; omega)).trans (hRB.block b (hL.lt b hS).2)) (fun b hb e => by have := (h1.blk e).1; have := hL.lt b hb; omega), ⟨by simp [J.kind], by simp [J.num], by simp [J.text]⟩, set5_below hbW _ _ _ _ _ _⟩
attribute [local go_sem] ta_0_0 ta_1_0 ta_1_1 ta_2_0 ta_2_1 ta_2_2 ta_3_0 ta_3_1 ta_3_2 ta_3_3 ta_4_0 ta_4_1 ta_4_2 ta_4_3 ta_4_4 ta_5_0 ta_5_1 ta_5_2 ta_5_3 ta_5_4 ta_5_5
set_option maxRecDepth 100000 in
set_option maxHeartbeats 4000000 in
theorem ofO_go (B : Nat) (w0 : World) (j : J) : ∀ (v : Value), VIn (· < B) w0 v j → szJ j ≤ 1048576 → ∀ (W : World), Below B w0 W → B ≤ W.heap.size →
    Calls Tryd.prog 12 #[v] W (NewJO W j) := by
  induction j using J.ind with
  | h k n t ns xs ih =>
    intro v h hs W hb hB
    have HIH := Lib.hid ih
    have HB := Lib.hid hb
    clear ih hb
    cases h with
    | null =>
      go_enter Tryd.func12, Tryd.ntmps12
      go_wp2
      exact bodyPost_ret (ret_J Tryd.results12 rfl (alloc2_0 W _ _)) rfl (newJO_flat 1 0 [] (by omega) (by omega) (by simp) (((Below.refl _ _).alloc (Nat.le_refl _) _).alloc (by simp) _))
    | bool q =>
      cases q
      · go_enter Tryd.func12, Tryd.ntmps12
        go_wp2
        exact bodyPost_ret (ret_J Tryd.results12 rfl (heap_alloc_new W _)) rfl (newJO_flat 2 0 [] (by omega) (by omega) (by simp) ((Below.refl _ _).alloc (Nat.le_refl _) _))
      · go_enter Tryd.func12, Tryd.ntmps12
        go_wp2
        exact bodyPost_ret (ret_J Tryd.results12 rfl (heap_alloc_new W _)) rfl (newJO_flat 2 1 [] (by omega) (by omega) (by simp) ((Below.refl _ _).alloc (Nat.le_refl _) _))
    | num _ hn =>
      go_enter Tryd.func12, Tryd.ntmps12
      go_wp2
      exact bodyPost_ret (ret_J Tryd.results12 rfl (heap_alloc_new W _)) rfl (newJO_flat 3 n [] (by omega) hn (by simp) ((Below.refl _ _).alloc (Nat.le_refl _) _))
    | text _ ht =>
      have htl : t.length ≤ 281474976710656 := by unfold szJ at hs; omega
      go_enter Tryd.func12, Tryd.ntmps12
      go_wp2_with fail
      refine (clone_any t _ htl).mono ?_
      rintro e w1 ⟨rfl, hb1⟩
      have k0 := (hb1.block _ (by simp)).trans (heap_alloc_new W _)
      have m0 := five_cells k0
      have K0 := Lib.hid k0
      have HB1 := Lib.hid (((Below.refl W.heap.size W).alloc (Nat.le_refl _) _).trans (hb1.mono (by simp)))
      clear hb1 k0
      obtain ⟨m00, m01, m02, m03, m04, m0f⟩ := m0
      go_wp2
      exact bodyPost_ret (ret_J Tryd.results12 rfl (heap_set5 K0.out _ _ _ _ _)) rfl (newJO_flat 4 0 t (by omega) (by omega) ht (set5_below HB1.out _ _ _ _ _ _))
    | list a cap b off vs hcap hm ha hc deep =>
      have HL := Lib.hid (ofLO_of B w0 xs (.slice a xs.length cap) ⟨a, cap, b, off, vs, rfl, hcap, hm, ha, hc, deep⟩ (by unfold szJ at hs; omega) (fun i hi v h' => HIH.out _ (by simp [hi]) v h' (by unfold szJ at hs; have := szL_len xs (xs.getD i default) (by simp [hi]); omega)))
      clear hc deep ha
      go_enter Tryd.func12, Tryd.ntmps12
      go_wp2_with fail
      refine (HL.out _ (HB.out.alloc hB _) (by simp; omega)).mono ?_
      rintro e w1 ⟨v1, SL, rfl, hl1, hb1⟩
      obtain ⟨a1, l1, c1, rfl⟩ := hl1.slice
      have k0 := (hb1.block _ (by simp)).trans (heap_alloc_new W _)
      have m0 := five_cells k0
      have K0 := Lib.hid k0
      have HL1 := Lib.hid hl1
      have HB1 := Lib.hid (((Below.refl W.heap.size W).alloc (Nat.le_refl _) _).trans (hb1.mono (by simp)))
      clear hb1 k0 hl1
      obtain ⟨m00, m01, m02, m03, m04, m0f⟩ := m0
      go_wp2
      exact bodyPost_ret (ret_J Tryd.results12 rfl (heap_set5 K0.out _ _ _ _ _)) rfl (newJO_list HL1.out (by simp) (set5_below HB1.out _ _ _ _ _ _))
    | obj a cap b off vs names hcap hm ha hc deep =>
      rename_i nv
      have hnl : ns.length ≤ 1048576 := by unfold szJ at hs; omega
      have HTL := Lib.hid (fun (t : List UInt8) (ht : t ∈ ns) => show t.length ≤ 281474976710656 by unfold szJ at hs; have := szT_mem ns t ht; omega)
      have HL := Lib.hid (ofLO_of B w0 xs (.slice a xs.length cap) ⟨a, cap, b, off, vs, rfl, hcap, hm, ha, hc, deep⟩ (by unfold szJ at hs; omega) (fun i hi v h' => HIH.out _ (by simp [hi]) v h' (by unfold szJ at hs; have := szL_len xs (xs.getD i default) (by simp [hi]); omega)))
      clear hc deep ha
      obtain ⟨a', cap', b', off', rfl, hcap', hm', hlen', ha', hc'⟩ := names
      have HC' := Lib.hid hc'
      have HA' := Lib.hid ha'
      clear hc' ha' hlen'
      have hn' : ns.length ≤ 9223372036854775807 := by omega
      obtain ⟨i0, hi, hz0, hz1, hz2⟩ := info_parts Tryd.infoTxt
      go_enter Tryd.func12, Tryd.ntmps12
      go_wp2_with fail
      refine (HL.out _ ((HB.out.alloc hB _).alloc (by simp; omega) _) (by simp; omega)).mono ?_
      rintro e w1 ⟨v1, SL, rfl, hl1, hb1⟩
      obtain ⟨a1, l1, c1, rfl⟩ := hl1.slice
      have k0 := (hb1.block _ (by simp; omega)).trans (alloc2_0 W _ _)
      have k1 := (hb1.block _ (by simp)).trans (alloc2_1 W _ _)
      have K0 := Lib.hid k0
      have HL1 := Lib.hid hl1
      have hW1 : W.heap.size + 2 ≤ w1.heap.size := by have := hb1.size; simp at this; omega
      have HB1 := Lib.hid ((((Below.refl W.heap.size W).alloc (Nat.le_refl _) _).alloc (by simp) _).trans (hb1.mono (by simp; omega)))
      have m10 : w1.cell? ⟨W.heap.size + 1, 0, none⟩ = some (.slice a' ns.length cap') := cell_of_row w1 (W.heap.size + 1) 0 _ _ _ k1
      have m11 : w1.cell? ⟨W.heap.size + 1, 1, none⟩ = some (.slice a xs.length cap) := cell_of_row w1 (W.heap.size + 1) 1 _ _ _ k1
      clear hb1 k0 k1 hl1
      have HST := Lib.hid (nRel_start w1 (.slice a1 l1 c1) ns)
      have hz1' : W.heap.size + 1 < w1.heap.size := by omega
      go_wp2_with fail
      go_loopw [50] (fun i wr => ∃ k : Nat, k ≤ ns.length ∧ i = .int .i64 k ∧ NRel w1 (.slice a1 l1 c1) ns k wr) (fun i _ => ns.length - (intOf i).toNat)
      case atStart => exact ⟨0, by omega, rfl, HST.out⟩
      case round =>
        obtain ⟨k, hk, rfl, hR⟩ := hrel
        by_cases hlt : k < ns.length
        · obtain ⟨ea', hlb'⟩ := HA'.out (by omega)
          subst ea'
          obtain ⟨cur, hblk, hown, hRB⟩ := hR
          have hbw : b' < w1.heap.size := by omega
          have q0 := (hRB.cell (p := ⟨b', off' + k, none⟩) hbw).trans ((HB1.out.cell (p := ⟨b', off' + k, none⟩) (Nat.lt_of_lt_of_le hlb' hB)).trans ((HB.out.cell (p := ⟨b', off' + k, none⟩) hlb').trans (HC'.out k hlt)))
          have htl := HTL.out (ns.getD k []) (by simp [hlt])
          have hw1r := hRB.size
          have hGlt : w1.heap.size < wr.heap.size := by
            rcases Nat.lt_or_ge w1.heap.size wr.heap.size with h' | h'
            · exact h'
            · simp [Array.getElem?_eq_none h'] at hblk
          have m0 := five_cells hblk
          obtain ⟨-, -, -, p3, -, pf⟩ := m0
          have pf3 := pf 3
          obtain ⟨ac, lc, cc, rfl⟩ : ∃ a l c, cur = .slice a l c := by
            rcases hown.2 with ⟨rfl, _⟩ | ⟨g, cap, cur, rfl, _⟩ <;> exact ⟨_, _, _, rfl⟩
          have HBLK := Lib.hid hblk
          have HOWN := Lib.hid hown
          have HRB := Lib.hid hRB
          have hlt0 := hown.lt
          have hne : (Value.slice ac lc cc).ownBlock ≠ some w1.heap.size := fun e => by have := hlt0 _ e; omega
          clear hblk hown hRB pf hlt0
          generalize hx : ns.getD k [] = t2 at *
          have HX := Lib.hid hx
          clear hx
          have HCL := Lib.hid (fun w => clone_any t2 w htl)
          go_wp2_with fail
          go_region_law (first
              | (go_simp; go_at_call 27; refine (HCL.out _).mono ?_; rintro e w2 ⟨rfl, hb⟩; have hown2 := nRel_own HOWN.out hb; have zz2 : w1.heap.size < w2.heap.size := Nat.lt_of_lt_of_le hGlt hb.size; have p32 : w2.cell? ⟨w1.heap.size, 3, none⟩ = some (.slice ac lc cc) := (hb.cell (p := ⟨w1.heap.size, 3, none⟩) hGlt).trans p3; have pf32 : w2.frozen? ⟨w1.heap.size, 3, none⟩ = false := (hb.frozen (p := ⟨w1.heap.size, 3, none⟩) hGlt).trans pf3)
              | (refine step_append_lies _ (by rfl) _ _ _ (by rfl) (w1.heap.size + 1) 9 i0 _ 1 16 Tryd.underlying22 hi hz0 hz1 hz2 rfl (by omega) (.slice ac lc cc) k ((ns.take k).map fun t => .string ⟨t.toArray⟩) (by rfl) (hown2.alloc _)
                  ⟨w2.heap.size, 0, none⟩ 1 1 [.string ⟨t2.toArray⟩] (by rfl) (by rfl) (World.news_of_block (cs := #[.string ⟨t2.toArray⟩]) (t := 9) (fr := (0, 0)) (heap_alloc_new w2 _)) (by simp [Value.oneCell'])
                  (by omega) (by unfold maxLen; omega) (by omega) (by simp; omega) (w2.heap.size + 1) (by simp) ?_; intro gg ccap w4 hown4 hgrow hat hlt4; have r3 : w4.cell? ⟨w1.heap.size, 3, none⟩ = some (.slice ac lc cc) := (by rw [hgrow.cell_far _ (by simp; omega) (Ne.symm hne), World.cell?_alloc_past _ _ _ zz2]; exact p32); have r3f : w4.frozen? ⟨w1.heap.size, 3, none⟩ = false := (by rw [hgrow.frozen_far _ (by simp; omega) (Ne.symm hne), World.frozen?_alloc_past _ _ _ zz2]; exact pf32)))
          all_goals
            have HN := Lib.hid (nRel_step hlt HX.out HBLK.out HRB.out hGlt hne HOWN.out hb hown4 hgrow)
            clear hb hown2 hown4 hgrow r3 r3f p32 pf32 hat
            go_wp2
            go_roundw
            case rel => exact ⟨k + 1, by omega, by go_num, HN.out⟩
            case measure => simp [intOf]; omega
        · obtain rfl : k = ns.length := by omega
          obtain ⟨cur, hblk, hown, hRB⟩ := hR
          obtain ⟨ac, lc, cc, rfl⟩ : ∃ a l c, cur = .slice a l c := by
            rcases hown.2 with ⟨rfl, _⟩ | ⟨g, cap, cur, rfl, _⟩ <;> exact ⟨_, _, _, rfl⟩
          have m0 := five_cells hblk
          obtain ⟨m00, m01, m02, m03, m04, m0f⟩ := m0
          have k0 := (hRB.block W.heap.size (by omega)).trans K0.out
          have n0 := five_cells k0
          obtain ⟨n00, n01, n02, n03, n04, n0f⟩ := n0
          have K0' := Lib.hid k0
          have HF := Lib.hid (nRO_end (W := W) HB1.out hW1 HL1.out (by simp; omega) (fun t ht => by have := HTL.out t ht; omega) hn' hown hRB)
          clear hblk hown hRB k0
          go_wp2
          exact bodyPost_ret (ret_J Tryd.results12 rfl (heap_set5 K0'.out _ _ _ _ _)) rfl HF.out
end Go.Proofs.YtjakkmjipglkiaaDoor.Js
