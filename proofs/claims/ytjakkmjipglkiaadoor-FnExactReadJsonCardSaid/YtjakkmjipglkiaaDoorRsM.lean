
/-
  The law FnExactReadJson, walked.
-/
import Derived.Test.YtjakkmjipglkiaaDoorRsL
import Derived.Test.YtjakkmjipglkiaaDoorJoN
namespace Go.Proofs.YtjakkmjipglkiaaDoor.Rd
open Go.RowKit
open Go.Proofs.YtjakkmjipglkiaaDoor.Rm
open Go.Proofs.YtjakkmjipglkiaaDoor.Js (J JIn OJ FitJ jV cellJ strV set5 set5_far set5_size heap_set5 cntJ cntL szJ szL markJ markJ_any heldJ_any markJ_fit Only sameJ sameJ_refl eqJ_go)
theorem cntL_leR : ∀ (xs : List J), (∀ x ∈ xs, cntJ x ≤ 3 * szJ x) → cntL xs ≤ 3 * (xs.length + szL xs)
  | [], _ => by simp [cntL]
  | x :: xs, h => by
    have h1 := h x (by simp)
    have h2 := cntL_leR xs fun y hy => h y (by simp [hy])
    simp only [cntL, szL, List.length_cons]
    omega
theorem cntJ_leR (j : J) : cntJ j ≤ 3 * szJ j := by
  induction j using J.ind with
  | h k n t ns xs ih =>
    have := cntL_leR xs ih
    simp only [cntJ, szJ]
    omega
theorem readP_cnt (t : B) : cntJ (readP t).2 ≤ 3145728 := by
  have hz : cntJ (default : J) ≤ 3145728 := by decide
  unfold readP readR
  split
  · exact hz
  split
  · rename_i h0
    split
    · have h1 := valR_sz 4 t h0
      have h2 := cntJ_leR (valR 4 t).2.1
      show cntJ (valR 4 t).2.1 ≤ _
      omega
    · exact hz
  · exact hz
theorem oj_jinR {w : World} {c : Nat} {S : Nat → Prop} {j : J} {nv iv : Value} (h : OJ w c S j nv iv) (hf : FitJ j) : JIn (· < w.heap.size) w j nv iv := (h.jin hf).mono fun b hb => (h.lt b hb).2
theorem only_chainR {S : Nat → Prop} {W w w' : World} (h : Below W.heap.size W w) (ho : Only S w w') (hS : ∀ b, S b → W.heap.size ≤ b) : Below W.heap.size W w' :=
  ⟨ho.os.trans h.os, ho.tape.trans h.tape, ho.output.trans h.output, Nat.le_trans h.size ho.size, fun b hb => (ho.block b (Nat.lt_of_lt_of_le hb h.size) fun hs => by have := hS b hs; omega).trans (h.block b hb)⟩
/-- the two answers, in their boxes, with what they own -/
structure RH (b3 b5 : Nat) (o3 o5 : Obj) (c3 c5 : Nat) (Sw Sg : Nat → Prop) (jw jg : J) (nw iw ng ig : Value) (w : World) : Prop where
  k3 : Hd w b3 o3
  k5 : Hd w b5 o5
  ow : OJ w c3 Sw jw nw iw
  og : OJ w c5 Sg jg ng ig
theorem RH.below {b3 b5 c3 c5 : Nat} {o3 o5 : Obj} {Sw Sg : Nat → Prop} {jw jg : J} {nw iw ng ig : Value} {w w' : World} (h : RH b3 b5 o3 o5 c3 c5 Sw Sg jw jg nw iw ng ig w) (hb : Below w.heap.size w w') : RH b3 b5 o3 o5 c3 c5 Sw Sg jw jg nw iw ng ig w' :=
  ⟨h.k3.blw hb, h.k5.blw hb, h.ow.same fun b hS => hb.block b (h.ow.lt b hS).2, h.og.same fun b hS => hb.block b (h.og.lt b hS).2⟩
theorem RH.mark {b3 b5 c3 c5 : Nat} {o3 o5 : Obj} {Sw Sg : Nat → Prop} {jw jg jg' : J} {nw iw ng ig : Value} {w w' : World} (h : RH b3 b5 o3 o5 c3 c5 Sw Sg jw jg nw iw ng ig w) (ho : OJ w' c5 Sg jg' ng ig) (hg : Only Sg w w') (hs : ∀ b, Sg b → b3 < b ∧ b < b5) (hw : ∀ b, Sw b → b < b3) (_h35 : b3 < b5) : RH b3 b5 o3 o5 c3 c5 Sw Sg jw jg' nw iw ng ig w' :=
  ⟨(hg.block _ h.k3.lt fun x => by have := hs _ x; omega).trans h.k3, (hg.block _ h.k5.lt fun x => by have := hs _ x; omega).trans h.k5, h.ow.same fun b hS => hg.block b (h.ow.lt b hS).2 fun x => by have := hs _ x; have := hw _ hS; omega, ho⟩
abbrev bxJ (j : J) (nv iv : Value) : Obj := .cells #[.int .i64 j.kind, .int .i64 j.num, .string ⟨j.text.toArray⟩, nv, iv] 25
theorem rh_mk {w1 w2 : World} {j : J} {c3 c5 : Nat} {Sw Sg : Nat → Prop} {nw iw ng ig : Value} (h1 : OJ w1 c3 Sw j nw iw) (hb : Below (w1.alloc (bxJ j nw iw)).heap.size (w1.alloc (bxJ j nw iw)) w2) (h2 : OJ w2 c5 Sg j ng ig) :
    RH w1.heap.size w2.heap.size (bxJ j nw iw) (bxJ j ng ig) c3 c5 Sw Sg j j nw iw ng ig (w2.alloc (bxJ j ng ig)) := by
  have hs := hb.size
  simp at hs
  refine ⟨?_, Hd.new _ _, h1.same fun b hS => ?_, h2.same fun b hS => heap_alloc_old _ _ (h2.lt b hS).2⟩
  · exact ((Hd.new w1 _).blw hb).al _
  · have := h1.lt b hS
    rw [heap_alloc_old _ _ (by omega), hb.block b (by simp; omega), heap_alloc_old _ _ this.2]
theorem below_chainR {W w w' : World} (h : Below W.heap.size W w) (h2 : Below w.heap.size w w') : Below W.heap.size W w' := h.trans (h2.mono h.size)
set_option maxRecDepth 100000 in
set_option maxHeartbeats 4000000 in
theorem readJson_walk (t : B) (W : World) (hs : SynV W) : Calls Tryd.prog 3 #[.string ⟨t.toArray⟩] W fun e w' => e = .returned (.bool true) ∧ Below W.heap.size W w' := by
  by_cases hL : 1048576 < t.length
  · clear hs
    go_enter Tryd.func3, Tryd.ntmps3
    go_wp2
    go_ret
    exact ⟨rfl, Below.refl _ _⟩
  have HS := Lib.hid hs
  have HRS := Lib.hid (readS_any t W)
  have HRI := Lib.hid (fun (w : World) (h : Below W.heap.size W w) => readI_any t w (HS.out.below h))
  have HCN := Lib.hid (readP_cnt t)
  generalize (readP t).1 = c at *
  generalize (readP t).2 = r at *
  have HEQ := Lib.hid (fun (w : World) (nv iv nv' iv' : Value) (h1 : JIn (· < w.heap.size) w r nv iv) (h2 : JIn (· < w.heap.size) w r nv' iv') => sameJ_refl r ▸ eqJ_go w.heap.size w r r nv iv nv' iv' h1 h2 w (Below.refl _ _) (Nat.le_refl _))
  have HEM := Lib.hid (fun (w : World) (nv iv nv' iv' : Value) (h1 : JIn (· < w.heap.size) w r nv iv) (h2 : JIn (· < w.heap.size) w r nv' iv') => HEQ.out w nv iv nv' iv' h1 h2)
  obtain ⟨n2, hn2⟩ : ∃ n2, 1 + cntJ r = n2 := ⟨_, rfl⟩
  have hb2 : ¬ ((n2 : Int) < 0) := by omega
  have HMG := Lib.hid (fun (w : World) (c5 : Nat) (Sg : Nat → Prop) (ng ig : Value) (h : OJ w c5 Sg r ng ig) => show Calls Tryd.prog 7 #[jV r ng ig, .int .i64 1] w (fun e w' => e = .returned (.int .i64 (n2 : Int)) ∧ OJ w' c5 Sg (markJ r 1) ng ig ∧ Only Sg w w') from hn2 ▸ markJ_any c5 Sg r _ _ w 1 h (by decide) (by have := HCN.out; omega))
  have HHG := Lib.hid (fun (w : World) (ng ig : Value) (h : JIn (· < w.heap.size) w (markJ r 1) ng ig) => show Calls Tryd.prog 8 #[jV r ng ig, .int .i64 1] w (fun e w' => e = .returned (.int .i64 (n2 : Int)) ∧ Below w.heap.size w w') from hn2 ▸ heldJ_any (· < w.heap.size) r _ _ w 1 h (fun b hb => hb) (by decide) (by have := HCN.out; omega))
  clear hn2 hs HEM
  go_enter Tryd.func3, Tryd.ntmps3
  go_wp2_with fail
  refine HRS.out.mono ?_
  rintro e w1 ⟨nw, iw, Sw, rfl, hjw, hfr, hb1⟩
  obtain ⟨⟨anw, lnw, cnw, rfl⟩, ⟨aiw, liw, ciw, rfl⟩⟩ := hjw.slices
  have HFR := Lib.hid hfr
  have B1 := Lib.hid (hb1.alloc hb1.size (bxJ r (.slice anw lnw cnw) (.slice aiw liw ciw)))
  have HJW := Lib.hid hjw
  have z1 : W.heap.size ≤ w1.heap.size := hb1.size
  clear hjw hfr hb1
  have HR1 := Lib.hid (HRI.out _ B1.out)
  go_wp2_with fail
  refine HR1.out.mono ?_
  rintro e w2 ⟨ng, ig, Sg, rfl, hjg, -, hb2'⟩
  obtain ⟨⟨ang, lng, cng, rfl⟩, ⟨aig, lig, cig, rfl⟩⟩ := hjg.slices
  have z2 : w1.heap.size + 1 ≤ w2.heap.size := by have := hb2'.size; simp at this; omega
  have H3 := Lib.hid (rh_mk HJW.out hb2' hjg)
  have HRG := Lib.hid (fun b hb => show w1.heap.size < b ∧ b < w2.heap.size from by have := hjg.lt b hb; simp at this; omega)
  have HRW := Lib.hid (fun b hb => show b < w1.heap.size from (HJW.out.lt b hb).2)
  have B3 := Lib.hid ((below_chainR B1.out hb2').alloc (by omega) (bxJ r (.slice ang lng cng) (.slice aig lig cig)))
  clear hb2' hjg HR1
  obtain ⟨m00, m01, m02, m03, m04, -⟩ := Js.five_cells H3.out.k3
  obtain ⟨p00, p01, p02, p03, p04, -⟩ := Js.five_cells H3.out.k5
  have hne : (c != c) = false := by simp
  go_wp2_with fail
  refine (HEQ.out _ _ _ _ _ (oj_jinR H3.out.og HFR.out) (oj_jinR H3.out.ow HFR.out)).mono ?_
  rintro e w4 ⟨rfl, hb4⟩
  have H4 := Lib.hid (H3.out.below hb4)
  have B4 := Lib.hid (below_chainR B3.out hb4)
  clear hb4 m00 m01 m02 m03 m04 p00 p01 p02 p03 p04
  obtain ⟨p00, p01, p02, p03, p04, -⟩ := Js.five_cells H4.out.k5
  go_wp2_with fail
  refine (HMG.out w4 _ _ _ _ H4.out.og).mono ?_
  rintro e w5 ⟨rfl, ho5, hg5⟩
  have H5 := Lib.hid (H4.out.mark ho5 hg5 HRG.out HRW.out (by omega))
  have B5 := Lib.hid (only_chainR B4.out hg5 (fun b hb => by have := HRG.out b hb; omega))
  clear ho5 hg5 p00 p01 p02 p03 p04
  obtain ⟨p00, p01, p02, p03, p04, -⟩ := Js.five_cells H5.out.k5
  go_wp2_with fail
  refine (HHG.out w5 _ _ (oj_jinR H5.out.og (markJ_fit HFR.out 1))).mono ?_
  rintro e w6 ⟨rfl, hb6⟩
  have H6 := Lib.hid (H5.out.below hb6)
  have B6 := Lib.hid (below_chainR B5.out hb6)
  clear hb6 p00 p01 p02 p03 p04
  have HR6 := Lib.hid (HRI.out _ B6.out)
  go_wp2_with fail
  refine HR6.out.mono ?_
  rintro e w7 ⟨nh, ih, Sh, rfl, hjh, -, hb7⟩
  obtain ⟨⟨anh, lnh, cnh, rfl⟩, ⟨aih, lih, cih, rfl⟩⟩ := hjh.slices
  have H8 := Lib.hid ((H6.out.below hb7).below ((Below.refl _ _).alloc (Nat.le_refl _) (bxJ r (.slice anh lnh cnh) (.slice aih lih cih))))
  have HJH := Lib.hid (hjh.same (w' := w7.alloc (bxJ r (.slice anh lnh cnh) (.slice aih lih cih))) fun b hb => heap_alloc_old _ _ (hjh.lt b hb).2)
  have B8 := Lib.hid ((below_chainR B6.out hb7).alloc (below_chainR B6.out hb7).size (bxJ r (.slice anh lnh cnh) (.slice aih lih cih)))
  have k9 := Hd.new w7 (bxJ r (.slice anh lnh cnh) (.slice aih lih cih))
  clear hb7 hjh HR6
  obtain ⟨m00, m01, m02, m03, m04, -⟩ := Js.five_cells H8.out.k3
  obtain ⟨p00, p01, p02, p03, p04, -⟩ := Js.five_cells k9
  clear k9
  go_wp2_with fail
  refine (HEQ.out _ _ _ _ _ (oj_jinR HJH.out HFR.out) (oj_jinR H8.out.ow HFR.out)).mono ?_
  rintro e w9 ⟨rfl, hb9⟩
  have H9 := Lib.hid (H8.out.below hb9)
  have B9 := Lib.hid (below_chainR B8.out hb9)
  clear hb9 m00 m01 m02 m03 m04 p00 p01 p02 p03 p04
  obtain ⟨p00, p01, p02, p03, p04, -⟩ := Js.five_cells H9.out.k5
  go_wp2_with fail
  refine (HHG.out w9 _ _ (oj_jinR H9.out.og (markJ_fit HFR.out 1))).mono ?_
  rintro e wa ⟨rfl, hba⟩
  have Ba := Lib.hid (below_chainR B9.out hba)
  clear hba p00 p01 p02 p03 p04
  go_wp2
  go_ret
  exact ⟨rfl, Ba.out⟩
end Go.Proofs.YtjakkmjipglkiaaDoor.Rd
