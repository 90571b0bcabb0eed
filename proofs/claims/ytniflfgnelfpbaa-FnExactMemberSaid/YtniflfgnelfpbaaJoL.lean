
/-
  The law FnExactMember, walked.
-/
import Derived.Test.YtniflfgnelfpbaaJoD
namespace Go.Proofs.Ytniflfgnelfpbaa.Js
open Go.RowKit
theorem below_chainM {W w w' : World} (h : Below W.heap.size W w) (h2 : Below w.heap.size w w') : Below W.heap.size W w' := h.trans (h2.mono h.size)
theorem cntL_le : ∀ (xs : List J), (∀ x ∈ xs, cntJ x ≤ 3 * szJ x) → cntL xs ≤ 3 * (xs.length + szL xs)
  | [], _ => by simp [cntL]
  | x :: xs, h => by
    have h1 := h x (by simp)
    have h2 := cntL_le xs fun y hy => h y (by simp [hy])
    simp only [cntL, szL, List.length_cons]
    omega
theorem cntJ_le (j : J) : cntJ j ≤ 3 * szJ j := by
  induction j using J.ind with
  | h k n t ns xs ih =>
    have := cntL_le xs ih
    simp only [cntJ, szJ]
    omega
theorem mr_cnt (j : J) (u : List UInt8) (hs : szJ j ≤ 1048576) : cntJ (MR j u) ≤ 3145728 := by
  have hz : cntJ zeroJ ≤ 3145728 := by simp [zeroJ, cntJ, cntL]
  unfold MR
  split
  · exact hz
  split
  · split
    · split
      · rename_i i hi
        have h1 := cntJ_le (j.items.getD i default)
        obtain ⟨k, n, t, ns, xs⟩ := j
        unfold szJ at hs
        simp only [J.items] at h1 ⊢
        by_cases hlt : i < xs.length
        · have := szL_len xs (xs.getD i default) (by simp [hlt])
          omega
        · have e : xs.getD i default = default := by simp [List.getElem?_eq_none (Nat.le_of_not_lt hlt)]
          rw [e]
          decide
      · exact hz
    · exact hz
  · exact hz
/-- what lies there all along: the argument's box, the three answers' boxes, and what they own -/
structure MHeld (bw ba bx bg : Nat) (oB oA oX oG : Obj) (c1 c2 c3 : Nat) (Sm Sx Sg : Nat → Prop) (jm jx jg : J) (nm im nx ix ng ig : Value) (w : World) : Prop where
  kB : w.heap[bw]? = some oB
  kA : w.heap[ba]? = some oA
  kX : w.heap[bx]? = some oX
  kG : w.heap[bg]? = some oG
  m : OJ w c1 Sm jm nm im
  x : OJ w c2 Sx jx nx ix
  g : OJ w c3 Sg jg ng ig
theorem MHeld.below {bw ba bx bg c1 c2 c3 : Nat} {oB oA oX oG : Obj} {Sm Sx Sg : Nat → Prop} {jm jx jg : J} {nm im nx ix ng ig : Value} {w w' : World} (h : MHeld bw ba bx bg oB oA oX oG c1 c2 c3 Sm Sx Sg jm jx jg nm im nx ix ng ig w) (hb : Below w.heap.size w w') :
    MHeld bw ba bx bg oB oA oX oG c1 c2 c3 Sm Sx Sg jm jx jg nm im nx ix ng ig w' :=
  ⟨(hb.block _ (Array.getElem?_eq_some_iff.1 h.kB).1).trans h.kB, (hb.block _ (Array.getElem?_eq_some_iff.1 h.kA).1).trans h.kA, (hb.block _ (Array.getElem?_eq_some_iff.1 h.kX).1).trans h.kX, (hb.block _ (Array.getElem?_eq_some_iff.1 h.kG).1).trans h.kG,
    h.m.same fun b hS => hb.block b (h.m.lt b hS).2, h.x.same fun b hS => hb.block b (h.x.lt b hS).2, h.g.same fun b hS => hb.block b (h.g.lt b hS).2⟩
theorem oj_jin {w : World} {c : Nat} {S : Nat → Prop} {j : J} {nv iv : Value} (h : OJ w c S j nv iv) (hf : FitJ j) : JIn (· < w.heap.size) w j nv iv := (h.jin hf).mono fun b hb => (h.lt b hb).2
theorem only_chain {S : Nat → Prop} {W w w' : World} (h : Below W.heap.size W w) (ho : Only S w w') (hS : ∀ b, S b → W.heap.size ≤ b) : Below W.heap.size W w' :=
  ⟨ho.os.trans h.os, ho.tape.trans h.tape, ho.output.trans h.output, Nat.le_trans h.size ho.size, fun b hb => (ho.block b (Nat.lt_of_lt_of_le hb h.size) fun hs => by have := hS b hs; omega).trans (h.block b hb)⟩
theorem MHeld.markX {bw ba bx bg c1 c2 c3 : Nat} {oB oA oX oG : Obj} {Sm Sx Sg : Nat → Prop} {jm jx jx' jg : J} {nm im nx ix ng ig : Value} {w w' : World} (h : MHeld bw ba bx bg oB oA oX oG c1 c2 c3 Sm Sx Sg jm jx jg nm im nx ix ng ig w) (ho : OJ w' c2 Sx jx' nx ix) (hg : Only Sx w w')
    (hx : ∀ b, Sx b → ba < b ∧ b < bx) (hm : ∀ b, Sm b → b < ba) (hgg : ∀ b, Sg b → bx < b) (hw : bw < ba) (hxg : bx < bg) :
    MHeld bw ba bx bg oB oA oX oG c1 c2 c3 Sm Sx Sg jm jx' jg nm im nx ix ng ig w' :=
  ⟨(hg.block _ (Array.getElem?_eq_some_iff.1 h.kB).1 fun hs => by have := hx _ hs; omega).trans h.kB, (hg.block _ (Array.getElem?_eq_some_iff.1 h.kA).1 fun hs => by have := hx _ hs; omega).trans h.kA,
    (hg.block _ (Array.getElem?_eq_some_iff.1 h.kX).1 fun hs => by have := hx _ hs; omega).trans h.kX, (hg.block _ (Array.getElem?_eq_some_iff.1 h.kG).1 fun hs => by have := hx _ hs; omega).trans h.kG,
    h.m.same fun b hS => hg.block b (h.m.lt b hS).2 fun hs => by have := hx _ hs; have := hm _ hS; omega, ho, h.g.same fun b hS => hg.block b (h.g.lt b hS).2 fun hs => by have := hx _ hs; have := hgg _ hS; omega⟩
theorem MHeld.markG {bw ba bx bg c1 c2 c3 : Nat} {oB oA oX oG : Obj} {Sm Sx Sg : Nat → Prop} {jm jx jg jg' : J} {nm im nx ix ng ig : Value} {w w' : World} (h : MHeld bw ba bx bg oB oA oX oG c1 c2 c3 Sm Sx Sg jm jx jg nm im nx ix ng ig w) (ho : OJ w' c3 Sg jg' ng ig) (hg : Only Sg w w')
    (hx : ∀ b, Sx b → b < bx) (hm : ∀ b, Sm b → b < bx) (hgg : ∀ b, Sg b → bx < b ∧ b < bg) (hw : bw < bx) (ha : ba < bx) :
    MHeld bw ba bx bg oB oA oX oG c1 c2 c3 Sm Sx Sg jm jx jg' nm im nx ix ng ig w' :=
  ⟨(hg.block _ (Array.getElem?_eq_some_iff.1 h.kB).1 fun hs => by have := hgg _ hs; omega).trans h.kB, (hg.block _ (Array.getElem?_eq_some_iff.1 h.kA).1 fun hs => by have := hgg _ hs; omega).trans h.kA,
    (hg.block _ (Array.getElem?_eq_some_iff.1 h.kX).1 fun hs => by have := hgg _ hs; omega).trans h.kX, (hg.block _ (Array.getElem?_eq_some_iff.1 h.kG).1 fun hs => by have := hgg _ hs; omega).trans h.kG,
    h.m.same fun b hS => hg.block b (h.m.lt b hS).2 fun hs => by have := hgg _ hs; have := hm _ hS; omega, h.x.same fun b hS => hg.block b (h.x.lt b hS).2 fun hs => by have := hgg _ hs; have := hx _ hS; omega, ho⟩
theorem mheld_mk {W w3 w4 w5 : World} {oB oA oX : Obj} (oG : Obj) {c1 c2 c3 : Nat} {Sm Sx Sg : Nat → Prop} {jm jx jg : J} {nm im nx ix ng ig : Value} (h3 : W.heap.size < w3.heap.size) (h4 : w3.heap.size + 1 ≤ w4.heap.size) (kB : w4.heap[W.heap.size]? = some oB) (kA : w4.heap[w3.heap.size]? = some oA)
    (hb : Below (w4.alloc oX).heap.size (w4.alloc oX) w5) (m : OJ w4 c1 Sm jm nm im) (x : OJ w4 c2 Sx jx nx ix) (g : OJ w5 c3 Sg jg ng ig) :
    MHeld W.heap.size w3.heap.size w4.heap.size w5.heap.size oB oA oX oG c1 c2 c3 Sm Sx Sg jm jx jg nm im nx ix ng ig (w5.alloc oG) := by
  have hs := hb.size
  simp at hs
  have keep : ∀ b, b < w4.heap.size → (w5.alloc oG).heap[b]? = w4.heap[b]? := fun b h => by
    rw [heap_alloc_old _ _ (by omega), hb.block b (by simp; omega), heap_alloc_old _ _ h]
  refine ⟨(keep _ (by omega)).trans kB, (keep _ (by omega)).trans kA, ?_, heap_alloc_new w5 oG, m.same fun b h => keep b (m.lt b h).2, x.same fun b h => keep b (x.lt b h).2, g.same fun b h => heap_alloc_old _ _ (g.lt b h).2⟩
  rw [heap_alloc_old _ _ (by omega), hb.block _ (by simp), heap_alloc_new]
theorem jin_laterM {w wx : World} {S : Nat → Prop} {j : J} {nv iv : Value} (h : JIn S w j nv iv) (hS : ∀ b, S b → b < w.heap.size) (hx : Below w.heap.size w wx) : JIn (· < wx.heap.size) wx j nv iv :=
  h.same fun b hb => ⟨Nat.lt_of_lt_of_le (hS b hb) hx.size, hx.block b (hS b hb)⟩
theorem hjm4 {w3 w4 : World} {c : Nat} {S : Nat → Prop} {j : J} {nv iv : Value} {o : Obj} (h : OJ w3 c S j nv iv) (hb : Below (w3.alloc o).heap.size (w3.alloc o) w4) : OJ w4 c S j nv iv :=
  h.same fun b hS => by
    have := h.lt b hS
    rw [hb.block b (by simp; omega), heap_alloc_old _ _ this.2]
set_option maxRecDepth 100000 in
set_option maxHeartbeats 4000000 in
theorem member_walk (j : J) (u : List UInt8) (nv iv : Value) (W : World) (h : JIn (· < W.heap.size) W j nv iv) :
    Calls Try.prog 4 #[jV j nv iv, .string ⟨u.toArray⟩] W fun e w' => e = .returned (.bool true) ∧ Below W.heap.size W w' := by
  obtain ⟨⟨an, ln, cn, rfl⟩, ⟨ai, li, ci, rfl⟩⟩ := h.slices
  have HSZ := Lib.hid (fun wx hx => szJ_go W.heap.size W j _ _ h 1048576 wx hx)
  have hb1 : Below W.heap.size W (W.alloc (.cells #[.int .i64 j.kind, .int .i64 j.num, .string ⟨j.text.toArray⟩, .slice an ln cn, .slice ai li ci] 32)) := (Below.refl _ _).alloc (Nat.le_refl _) _
  have hk1 := heap_alloc_new W (.cells #[.int .i64 j.kind, .int .i64 j.num, .string ⟨j.text.toArray⟩, .slice an ln cn, .slice ai li ci] 32)
  have HB1 := Lib.hid hb1
  have HK1 := Lib.hid hk1
  clear hb1 hk1
  by_cases hL : 1048576 < u.length
  · clear h
    go_enter Try.func4, Try.ntmps4
    go_wp2
    go_ret
    exact ⟨rfl, HB1.out⟩
  by_cases hs : szJ j ≤ 1048576
  · have HTO := Lib.hid (fun wx hx => toJO_go W.heap.size W j _ _ h hs wx hx)
    have HMI := Lib.hid (fun (w : World) (nv iv : Value) (h : JIn (· < w.heap.size) w j nv iv) (wx : World) (hx : Below w.heap.size w wx) => memI_any w.heap.size w j u nv iv h hs wx hx hx.size)
    have HMM := Lib.hid (fun (w : World) (nv iv : Value) (h : JIn (· < w.heap.size) w j nv iv) => memM_any w.heap.size w j u nv iv h hs w (Below.refl _ _) (Nat.le_refl _))
    have HCR := Lib.hid (mr_cnt j u hs)
    have HCJ := Lib.hid (show cntJ j ≤ 3145728 by have := cntJ_le j; omega)
    have g1 : ¬ (szR 1048576 (szJ j) < 0) := by rw [szR_in (by omega)]; omega
    clear h
    generalize szR 1048576 (szJ j) = z at *
    unfold MemO at HMI HMM
    generalize MR j u = r at *
    generalize MC j u = c at *
    have HEQ := Lib.hid (fun (w : World) (y : J) (nv iv nv' iv' : Value) (h1 : JIn (· < w.heap.size) w y nv iv) (h2 : JIn (· < w.heap.size) w y nv' iv') => sameJ_refl y ▸ eqJ_go w.heap.size w y y nv iv nv' iv' h1 h2 w (Below.refl _ _) (Nat.le_refl _))
    go_enter Try.func4, Try.ntmps4
    go_wp2_with fail
    refine (HSZ.out _ HB1.out (by simp) (by omega) (by omega)).mono ?_
    rintro e w1 ⟨rfl, hb2⟩
    have k1 := (hb2.block _ (by simp)).trans HK1.out
    obtain ⟨m00, m01, m02, m03, m04, -⟩ := five_cells k1
    have K1 := Lib.hid k1
    have z1 : W.heap.size < w1.heap.size := by have := hb2.size; simp at this; omega
    have B1 := Lib.hid (below_chainM HB1.out hb2)
    clear hb2 k1
    go_wp2_with fail
    refine (HTO.out w1 B1.out (by omega)).mono ?_
    rintro e w2 ⟨nva, iva, Sa, rfl, hja, hfa, hb2⟩
    have K2 := Lib.hid ((hb2.block _ z1).trans K1.out)
    have z2 : W.heap.size < w2.heap.size := Nat.lt_of_lt_of_le z1 hb2.size
    have B2 := Lib.hid (below_chainM B1.out hb2)
    have HM2 := Lib.hid (HMM.out w2 nva iva (oj_jin hja hfa))
    have HFJ := Lib.hid hfa
    clear hb2 hja hfa m00 m01 m02 m03 m04
    go_wp2_with fail
    refine HM2.out.mono ?_
    rintro e w3 ⟨nvm, ivm, Sm, rfl, hjm, hfr, hb3⟩
    obtain ⟨⟨anm, lnm, cnm, rfl⟩, ⟨aim, lim, cim, rfl⟩⟩ := hjm.slices
    have k3 := (hb3.block _ z2).trans K2.out
    obtain ⟨m00, m01, m02, m03, m04, -⟩ := five_cells k3
    have K3 := Lib.hid k3
    have z3 : W.heap.size < w3.heap.size := Nat.lt_of_lt_of_le z2 hb3.size
    have B3 := Lib.hid (below_chainM B2.out hb3)
    have HFR := Lib.hid hfr
    have HJM := Lib.hid hjm
    have z23 : w2.heap.size ≤ w3.heap.size := hb3.size
    clear hb3 k3 hjm hfr
    go_wp2_with fail
    refine (HTO.out (w3.alloc (.cells #[.int .i64 r.kind, .int .i64 r.num, .string ⟨r.text.toArray⟩, .slice anm lnm cnm, .slice aim lim cim] 36)) (B3.out.alloc (by omega) _) (by simp; omega)).mono ?_
    rintro e w4 ⟨nvx, ivx, Sx, rfl, hjx, -, hb4⟩
    obtain ⟨⟨anx, lnx, cnx, rfl⟩, ⟨aix, lix, cix, rfl⟩⟩ := hjx.slices
    have kA4 := (hb4.block w3.heap.size (by simp)).trans (heap_alloc_new w3 _)
    have kB4 := (hb4.block W.heap.size (by simp; omega)).trans ((heap_alloc_old w3 _ z3).trans K3.out)
    have z4 : w3.heap.size + 1 ≤ w4.heap.size := by have := hb4.size; simp at this; omega
    have B4 := Lib.hid ((B3.out.alloc (by omega) _).trans (hb4.mono (by simp; omega)))
    have HJX := Lib.hid hjx
    have HJM4 := Lib.hid (hjm4 HJM.out hb4)
    have KA4 := Lib.hid kA4
    have KB4 := Lib.hid kB4
    have HM4 := Lib.hid (HMI.out w4 _ _ (oj_jin hjx HFJ.out) _ ((Below.refl _ _).alloc (Nat.le_refl _) (.cells #[.int .i64 j.kind, .int .i64 j.num, .string ⟨j.text.toArray⟩, .slice anx lnx cnx, .slice aix lix cix] 36)))
    clear hb4 hjx kA4 kB4 m00 m01 m02 m03 m04
    go_wp2_with fail
    refine HM4.out.mono ?_
    rintro e w5 ⟨nvg, ivg, Sg, rfl, hjg, -, hb5⟩
    obtain ⟨⟨ang, lng, cng, rfl⟩, ⟨aig, lig, cig, rfl⟩⟩ := hjg.slices
    have hzb5 : w4.heap.size + 1 ≤ w5.heap.size := by have := hb5.size; simp at this; omega
    have HJX4 := HJX.out
    have hjx0 : OJ w4 (w3.heap.size + 1) Sx j (.slice anx lnx cnx) (.slice aix lix cix) := HJX4.base (by simp)
    have hjg0 : OJ w5 (w4.heap.size + 1) Sg r (.slice ang lng cng) (.slice aig lig cig) := hjg.base (by simp)
    have HRX := Lib.hid (fun b hb => show w3.heap.size < b ∧ b < w4.heap.size from hjx0.lt b hb)
    have HRG := Lib.hid (fun b hb => show w4.heap.size < b ∧ b < w5.heap.size from hjg0.lt b hb)
    have HRM := Lib.hid (fun b hb => show b < w3.heap.size from (HJM.out.lt b hb).2)
    have MH5 := Lib.hid (mheld_mk (.cells #[.int .i64 r.kind, .int .i64 r.num, .string ⟨r.text.toArray⟩, .slice ang lng cng, .slice aig lig cig] 36) z3 z4 KB4.out KA4.out hb5 HJM4.out hjx0 hjg0)
    have k5 := (hb5.block w3.heap.size (by simp; omega)).trans ((heap_alloc_old w4 _ (by omega)).trans KA4.out)
    obtain ⟨m00, m01, m02, m03, m04, -⟩ := five_cells k5
    have z5' : w3.heap.size < w5.heap.size := by omega
    have B5 := Lib.hid (((B4.out.alloc (by omega) (.cells #[.int .i64 j.kind, .int .i64 j.num, .string ⟨j.text.toArray⟩, .slice anx lnx cnx, .slice aix lix cix] 36)).trans (hb5.mono (by simp; omega))).alloc (by omega) (.cells #[.int .i64 r.kind, .int .i64 r.num, .string ⟨r.text.toArray⟩, .slice ang lng cng, .slice aig lig cig] 36))
    clear hb5 hjg k5 HJX4 hjx0 hjg0
    go_wp2_with fail
    refine (HEQ.out (w5.alloc (.cells #[.int .i64 r.kind, .int .i64 r.num, .string ⟨r.text.toArray⟩, .slice ang lng cng, .slice aig lig cig] 36)) r _ _ _ _ (oj_jin MH5.out.g HFR.out) (oj_jin MH5.out.m HFR.out)).mono ?_
    rintro e w6 ⟨rfl, hb6⟩
    have MH6 := Lib.hid (MH5.out.below hb6)
    have B6 := Lib.hid (below_chainM B5.out hb6)
    have HJX6 := Lib.hid (oj_jin MH6.out.x HFJ.out)
    clear m00 m01 m02 m03 m04
    obtain ⟨m00, m01, m02, m03, m04, -⟩ := five_cells MH6.out.kB
    obtain ⟨p00, p01, p02, p03, p04, -⟩ := five_cells MH6.out.kX
    have y6 : W.heap.size < w6.heap.size := (Array.getElem?_eq_some_iff.1 MH6.out.kB).1
    have x6 : w4.heap.size < w6.heap.size := (Array.getElem?_eq_some_iff.1 MH6.out.kX).1
    have hRR : Below w6.heap.size w6 w6 := Below.refl _ _
    clear hb6
    go_wp2_with fail
    go_region_held3 (fun wx => wx.cell? ⟨W.heap.size, 0, none⟩ = some (.int .i64 j.kind) ∧ wx.cell? ⟨W.heap.size, 1, none⟩ = some (.int .i64 j.num) ∧ wx.cell? ⟨W.heap.size, 2, none⟩ = some (.string ⟨j.text.toArray⟩) ∧ wx.cell? ⟨W.heap.size, 3, none⟩ = some (.slice an ln cn) ∧ wx.cell? ⟨W.heap.size, 4, none⟩ = some (.slice ai li ci) ∧
          wx.cell? ⟨w4.heap.size, 0, none⟩ = some (.int .i64 j.kind) ∧ wx.cell? ⟨w4.heap.size, 1, none⟩ = some (.int .i64 j.num) ∧ wx.cell? ⟨w4.heap.size, 2, none⟩ = some (.string ⟨j.text.toArray⟩) ∧ wx.cell? ⟨w4.heap.size, 3, none⟩ = some (.slice anx lnx cnx) ∧ wx.cell? ⟨w4.heap.size, 4, none⟩ = some (.slice aix lix cix) ∧
          W.heap.size < wx.heap.size ∧ w4.heap.size < wx.heap.size ∧ Below w6.heap.size w6 wx)
        (first
          | (simp [*, Below.drew]; done)
          | (go_split_ands
             refine ⟨?_, ?_, ?_, ?_, ?_, ?_, ?_, ?_, ?_, ?_, Nat.lt_of_lt_of_le (by assumption) hb.size, Nat.lt_of_lt_of_le (by assumption) hb.size, belI_step (by assumption) hb⟩
             · (rw [hb.cell (p := ⟨W.heap.size, 0, none⟩) (by assumption)]; assumption)
             · (rw [hb.cell (p := ⟨W.heap.size, 1, none⟩) (by assumption)]; assumption)
             · (rw [hb.cell (p := ⟨W.heap.size, 2, none⟩) (by assumption)]; assumption)
             · (rw [hb.cell (p := ⟨W.heap.size, 3, none⟩) (by assumption)]; assumption)
             · (rw [hb.cell (p := ⟨W.heap.size, 4, none⟩) (by assumption)]; assumption)
             · (rw [hb.cell (p := ⟨w4.heap.size, 0, none⟩) (by assumption)]; assumption)
             · (rw [hb.cell (p := ⟨w4.heap.size, 1, none⟩) (by assumption)]; assumption)
             · (rw [hb.cell (p := ⟨w4.heap.size, 2, none⟩) (by assumption)]; assumption)
             · (rw [hb.cell (p := ⟨w4.heap.size, 3, none⟩) (by assumption)]; assumption)
             · (rw [hb.cell (p := ⟨w4.heap.size, 4, none⟩) (by assumption)]; assumption)))
        (first
          | (go_split_ands; go_at_call 11; refine (HTO.out _ (below_chainM B6.out (by assumption)) (Nat.le_of_lt (by assumption))).mono ?_; rintro e w6' ⟨nvc, ivc, Sc, rfl, hjc, hfc, hb⟩)
          | (go_split_ands; go_at_call 13; refine (HEQ.out _ j _ _ nvc ivc (jin_laterM HJX6.out (fun _ hb => hb) (by assumption)) (oj_jin hjc hfc)).mono ?_; rintro e w7 ⟨rfl, hb⟩))
    go_split_ands
    rename_i hfin
    have MH7 := Lib.hid (MH6.out.below hfin)
    have B7 := Lib.hid (below_chainM B6.out hfin)
    clear hfin
    clear m00 m01 m02 m03 m04 p00 p01 p02 p03 p04 y6 x6
    obtain ⟨p00, p01, p02, p03, p04, -⟩ := five_cells MH7.out.kX
    obtain ⟨n1, hn1⟩ : ∃ n1, 1 + cntJ j = n1 := ⟨_, rfl⟩
    obtain ⟨n2, hn2⟩ : ∃ n2, 1 + cntJ r = n2 := ⟨_, rfl⟩
    have hb1 : ¬ ((n1 : Int) < 0) := by omega
    have hb2 : ¬ ((n2 : Int) < 0) := by omega
    have HMX := Lib.hid (show Calls Try.prog 14 #[jV j (.slice anx lnx cnx) (.slice aix lix cix), .int .i64 1] w7 (fun e w' => e = .returned (.int .i64 (n1 : Int)) ∧ OJ w' (w3.heap.size + 1) Sx (markJ j 1) (.slice anx lnx cnx) (.slice aix lix cix) ∧ Only Sx w7 w') from hn1 ▸ markJ_any (w3.heap.size + 1) Sx j _ _ w7 1 MH7.out.x (by decide) (by have := HCJ.out; omega))
    have HMG := Lib.hid (fun (w : World) (h : OJ w (w4.heap.size + 1) Sg r (.slice ang lng cng) (.slice aig lig cig)) => show Calls Try.prog 14 #[jV r (.slice ang lng cng) (.slice aig lig cig), .int .i64 1] w (fun e w' => e = .returned (.int .i64 (n2 : Int)) ∧ OJ w' (w4.heap.size + 1) Sg (markJ r 1) (.slice ang lng cng) (.slice aig lig cig) ∧ Only Sg w w') from hn2 ▸ markJ_any (w4.heap.size + 1) Sg r _ _ w 1 h (by decide) (by have := HCR.out; omega))
    have HHG := Lib.hid (fun (w : World) (h : JIn (· < w.heap.size) w (markJ r 1) (.slice ang lng cng) (.slice aig lig cig)) => show Calls Try.prog 15 #[jV r (.slice ang lng cng) (.slice aig lig cig), .int .i64 1] w (fun e w' => e = .returned (.int .i64 (n2 : Int)) ∧ Below w.heap.size w w') from hn2 ▸ heldJ_any (· < w.heap.size) r _ _ w 1 h (fun b hb => hb) (by decide) (by have := HCR.out; omega))
    clear hn1 hn2
    go_wp2_with fail
    refine HMX.out.mono ?_
    rintro e w8 ⟨rfl, ho8, hg8⟩
    have MH8 := Lib.hid (MH7.out.markX ho8 hg8 HRX.out HRM.out (fun b hb => (HRG.out b hb).1) z3 (by omega))
    have B8 := Lib.hid (only_chain B7.out hg8 (fun b hb => by have := HRX.out b hb; omega))
    clear ho8 hg8 p00 p01 p02 p03 p04
    obtain ⟨p00, p01, p02, p03, p04, -⟩ := five_cells MH8.out.kG
    obtain ⟨m00, m01, m02, m03, m04, -⟩ := five_cells MH8.out.kA
    go_wp2_with fail
    refine (HEQ.out w8 r _ _ _ _ (oj_jin MH8.out.g HFR.out) (oj_jin MH8.out.m HFR.out)).mono ?_
    rintro e w9 ⟨rfl, hb9⟩
    have MH9 := Lib.hid (MH8.out.below hb9)
    have B9 := Lib.hid (below_chainM B8.out hb9)
    clear hb9 p00 p01 p02 p03 p04 m00 m01 m02 m03 m04
    obtain ⟨p00, p01, p02, p03, p04, -⟩ := five_cells MH9.out.kG
    go_wp2_with fail
    refine (HMG.out w9 MH9.out.g).mono ?_
    rintro e wa ⟨rfl, hoa, hga⟩
    have MHa := Lib.hid (MH9.out.markG hoa hga (fun b hb => (HRX.out b hb).2) (fun b hb => by have := HRM.out b hb; omega) HRG.out (by omega) (by omega))
    have Ba := Lib.hid (only_chain B9.out hga (fun b hb => by have := HRG.out b hb; omega))
    clear hoa hga p00 p01 p02 p03 p04
    obtain ⟨p00, p01, p02, p03, p04, -⟩ := five_cells MHa.out.kG
    go_wp2_with fail
    refine (HHG.out wa (oj_jin MHa.out.g (markJ_fit HFR.out 1))).mono ?_
    rintro e wb ⟨rfl, hbb⟩
    have MHb := Lib.hid (MHa.out.below hbb)
    have Bb := Lib.hid (below_chainM Ba.out hbb)
    clear hbb p00 p01 p02 p03 p04
    obtain ⟨m00, m01, m02, m03, m04, -⟩ := five_cells MHb.out.kB
    go_wp2_with fail
    refine (HTO.out wb Bb.out Bb.out.size).mono ?_
    rintro e wc ⟨nvy, ivy, Sy, rfl, hjy, hfy, hbc⟩
    have MHc := Lib.hid (MHb.out.below hbc)
    have Bc := Lib.hid (below_chainM Bb.out hbc)
    have HMy := Lib.hid (HMI.out wc _ _ (oj_jin hjy hfy) wc (Below.refl _ _))
    clear hbc hjy hfy m00 m01 m02 m03 m04
    go_wp2_with fail
    refine HMy.out.mono ?_
    rintro e wd ⟨nvh, ivh, Sh, rfl, hjh, -, hbd⟩
    obtain ⟨⟨anh, lnh, cnh, rfl⟩, ⟨aih, lih, cih, rfl⟩⟩ := hjh.slices
    have MHd := Lib.hid (MHc.out.below hbd)
    have Bd := Lib.hid (below_chainM Bc.out hbd)
    have HJH := Lib.hid (hjh.same (w' := wd.alloc (.cells #[.int .i64 r.kind, .int .i64 r.num, .string ⟨r.text.toArray⟩, .slice anh lnh cnh, .slice aih lih cih] 36)) fun b hb => heap_alloc_old _ _ (hjh.lt b hb).2)
    have MHe := Lib.hid (MHd.out.below ((Below.refl _ _).alloc (Nat.le_refl _) (.cells #[.int .i64 r.kind, .int .i64 r.num, .string ⟨r.text.toArray⟩, .slice anh lnh cnh, .slice aih lih cih] 36)))
    have Be := Lib.hid (Bd.out.alloc Bd.out.size (.cells #[.int .i64 r.kind, .int .i64 r.num, .string ⟨r.text.toArray⟩, .slice anh lnh cnh, .slice aih lih cih] 36))
    obtain ⟨m00, m01, m02, m03, m04, -⟩ := five_cells MHd.out.kA
    have zd : w3.heap.size < wd.heap.size := (Array.getElem?_eq_some_iff.1 MHd.out.kA).1
    clear hbd hjh
    go_wp2_with fail
    refine (HEQ.out (wd.alloc (.cells #[.int .i64 r.kind, .int .i64 r.num, .string ⟨r.text.toArray⟩, .slice anh lnh cnh, .slice aih lih cih] 36)) r _ _ _ _ (oj_jin HJH.out HFR.out) (oj_jin MHe.out.m HFR.out)).mono ?_
    rintro e wf ⟨rfl, hbf⟩
    have MHf := Lib.hid (MHe.out.below hbf)
    have Bf := Lib.hid (below_chainM Be.out hbf)
    clear hbf m00 m01 m02 m03 m04
    obtain ⟨p00, p01, p02, p03, p04, -⟩ := five_cells MHf.out.kG
    go_wp2_with fail
    refine (HHG.out wf (oj_jin MHf.out.g (markJ_fit HFR.out 1))).mono ?_
    rintro e wg ⟨rfl, hbg⟩
    have Bg := Lib.hid (below_chainM Bf.out hbg)
    clear hbg p00 p01 p02 p03 p04
    go_wp2
    go_ret
    exact ⟨rfl, Bg.out⟩
  · have g1 : szR 1048576 (szJ j) = -1 := szR_out (by omega)
    rw [g1] at HSZ
    clear h g1
    go_enter Try.func4, Try.ntmps4
    go_wp2_with fail
    refine (HSZ.out _ HB1.out (by simp) (by omega) (by omega)).mono ?_
    rintro e w1 ⟨rfl, hb2⟩
    have B1 := Lib.hid (below_chainM HB1.out hb2)
    clear hb2
    go_wp2
    go_ret
    exact ⟨rfl, B1.out⟩
end Go.Proofs.Ytniflfgnelfpbaa.Js
