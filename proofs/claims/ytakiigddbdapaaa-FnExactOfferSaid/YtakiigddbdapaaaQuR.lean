
/-
  The rings of reports and of texts: made, added to, taken from, listed.
-/
import Derived.Test.YtakiigddbdapaaaQuP
import Derived.Test.YtakiigddbdapaaaCpy
import Derived.Deep.AppendLies
import Derived.Deep.RegionLaw
namespace Go.Proofs.Ytakiigddbdapaaa.Qu
open Go.RowKit
open Go.Proofs.Ytakiigddbdapaaa.Tx
open Go.Proofs.Ytakiigddbdapaaa.Cpy (Ring)
abbrev rgO (cb : Nat) (f n : Int) : Obj := .cells #[.slice (some ⟨cb, 0, none⟩) 5 5, .int .i64 f, .int .i64 n] 76
/-- the ring at rb, its cells at cb, holds xs -/
def RgR (w : World) (rb cb : Nat) (xs : List Rep) : Prop := ∃ (cs : List Rep) (f : Nat), Ring 5 cs xs f ∧ Hd w rb (rgO cb (f : Nat) (xs.length : Nat)) ∧ Hd w cb (.cells (rpC cs).toArray 38)
theorem Hd.three {w : World} {g : Nat} {a b c : Value} {T : TypeId} (h : Hd w g (.cells #[a, b, c] T)) :
    w.cell? ⟨g, 0, none⟩ = some a ∧ w.cell? ⟨g, 1, none⟩ = some b ∧ w.cell? ⟨g, 2, none⟩ = some c ∧ ∀ o, w.frozen? ⟨g, o, none⟩ = false :=
  ⟨cell_of_row w g 0 _ _ _ h, cell_of_row w g 1 _ _ _ h, cell_of_row w g 2 _ _ _ h, fun o => frozen_of_row w g o _ _ h⟩
theorem RgR.blw {w w' : World} {rb cb : Nat} {xs : List Rep} (h : RgR w rb cb xs) (hb : Below w.heap.size w w') : RgR w' rb cb xs := by
  obtain ⟨cs, f, h1, h2, h3⟩ := h
  exact ⟨cs, f, h1, h2.blw hb, h3.blw hb⟩
theorem RgR.ch {S : Nat → Prop} {w w' : World} {rb cb : Nat} {xs : List Rep} (h : RgR w rb cb xs) (hm : Ch S w w') (h1 : ¬ S rb) (h2 : ¬ S cb) : RgR w' rb cb xs := by
  obtain ⟨cs, f, h3, h4, h5⟩ := h
  exact ⟨cs, f, h3, hm.hd h4 h1, hm.hd h5 h2⟩
theorem rpC_cell {w : World} {cb : Nat} {cs : List Rep} (h : Hd w cb (.cells (rpC cs).toArray 38)) {i : Nat} (hi : i < cs.length) :
    w.cell? ⟨cb, i * 4, none⟩ = some (.int .i64 (cs.getD i default).id) ∧ w.cell? ⟨cb, i * 4 + 1, none⟩ = some (.int .i64 (cs.getD i default).born) ∧ w.cell? ⟨cb, i * 4 + 2, none⟩ = some (.int .i64 (cs.getD i default).tries) ∧ w.cell? ⟨cb, i * 4 + 3, none⟩ = some (.string ⟨(cs.getD i default).body.toArray⟩) := by
  obtain ⟨g0, g1, g2, g3⟩ := rpC_get cs i hi
  unfold Hd at h
  refine ⟨?_, ?_, ?_, ?_⟩ <;> simp [World.cell?, *]
def zR : Rep := ⟨0, 0, 0, []⟩
theorem rpC_drop : ∀ (xs : List Rep) (k : Nat), (rpC xs).drop (k * 4) = rpC (xs.drop k)
  | [], k => by simp [rpC]
  | x :: xs, 0 => by simp
  | x :: xs, k + 1 => by
    rw [show (k + 1) * 4 = k * 4 + 4 by omega]
    simpa [rpC] using rpC_drop xs k
theorem rpC_take : ∀ (xs : List Rep) (k : Nat), (rpC xs).take (k * 4) = rpC (xs.take k)
  | [], k => by simp [rpC]
  | x :: xs, 0 => by simp [rpC]
  | x :: xs, k + 1 => by
    rw [show (k + 1) * 4 = k * 4 + 4 by omega]
    simpa [rpC] using rpC_take xs k
theorem Try.sizeRp : (Try.prog.info? 38).map (·.size) = some 4 := by kernel_rfl
theorem made5 : madeCells #[.int .i64 0, .int .i64 0, .int .i64 0, .string ByteArray.empty] (5 * 4) = (rpC (List.replicate 5 zR)).toArray := by kernel_rfl
set_option maxRecDepth 100000 in
set_option maxHeartbeats 2000000 in
theorem ringOfR_any (B : Nat) (w0 : World) (xs : List Rep) (v : Value) (h : RpIn (· < B) w0 v xs) (hl : xs.length ≤ 5) (W : World) (hb : Below B w0 W) (hB : B ≤ W.heap.size) :
    Calls Try.prog 46 #[v, .int .i64 5] W fun e w' => e = .returned (.pointer (some ⟨W.heap.size + 1, 0, none⟩)) ∧ RgR w' (W.heap.size + 1) W.heap.size xs ∧ Below W.heap.size W w' := by
  have hmk : ∀ w : World, (Instr.makeSlice 32 (.int .i64 5) (.int .i64 5)).run Try.prog w = .ok (.slice (some ⟨w.heap.size, 0, none⟩) 5 5) (w.alloc (.cells (rpC (List.replicate 5 zR)).toArray 38)) := fun w => by
    have := run_makeR 5 (by omega) w
    rw [made5] at this
    exact this
  have hal := ((Below.refl W.heap.size W).alloc (Nat.le_refl _) (.cells (rpC (List.replicate 5 zR)).toArray 38)).alloc (by simp) (rgO W.heap.size 0 0)
  have hK0 := (Hd.new W (.cells (rpC (List.replicate 5 zR)).toArray 38)).al (rgO W.heap.size 0 0)
  have hK1 : Hd ((W.alloc (.cells (rpC (List.replicate 5 zR)).toArray 38)).alloc (rgO W.heap.size 0 0)) (W.heap.size + 1) (rgO W.heap.size 0 0) := by
    have := Hd.new (W.alloc (.cells (rpC (List.replicate 5 zR)).toArray 38)) (rgO W.heap.size 0 0)
    simpa using this
  obtain ⟨a, c, rfl, hn⟩ := rp_news ((h.blw hb).same (S' := fun _ => True) (w' := (W.alloc (.cells (rpC (List.replicate 5 zR)).toArray 38)).alloc (rgO W.heap.size 0 0)) fun b hb => ⟨trivial, hal.block b (Nat.lt_of_lt_of_le hb hB)⟩)
  have HN := Lib.hid hn
  have HAL := Lib.hid hal
  have HK0 := Lib.hid hK0
  have HK1 := Lib.hid hK1
  have HRG := Lib.hid (show Ring 5 (xs ++ (List.replicate 5 zR).drop xs.length) xs 0 from Cpy.Ring.start (by omega) hl (by simp; omega))
  have HSP := Lib.hid (show splice (rpC (List.replicate 5 zR)) 0 (rpC xs) = rpC (xs ++ (List.replicate 5 zR).drop xs.length) by
    unfold splice
    rw [List.take_zero, List.nil_append, Nat.zero_add, rpC_len, rpC_drop, ← rpC_app])
  have hmin : Nat.min xs.length 5 = xs.length := Nat.min_eq_left hl
  have HLZ := Lib.hid (show (rpC (List.replicate 5 zR)).length = 20 from by rw [rpC_len]; simp)
  clear h hn hb hal hK0 hK1
  generalize rpC (List.replicate 5 zR) = Z at *
  generalize xs ++ (List.replicate 5 zR).drop xs.length = cs at *
  obtain ⟨w4, hcp, hg4, hb4, hgr⟩ := Cpy.run_copyN (P := Try.prog) _ 32 32 3 38 4 Try.underlying32 Try.sizeRp (by omega) (some ⟨W.heap.size, 0, none⟩) a 5 5 xs.length c W.heap.size 0 Z 38 HK0.out (rpC xs) (by rw [rpC_len, hmin]) (fun hp => ⟨rfl, HN.out (by rw [rpC_len] at hp; omega)⟩) (by rw [rpC_len, HLZ.out]; omega) (rpC_one xs) W.heap.size W HAL.out (Nat.le_refl _)
  rw [hmin] at hcp
  have HK4 := Lib.hid (HK1.out.grown hgr (by simp))
  obtain ⟨r0, r1, r2, rf⟩ := HK4.out.three
  have HG4 := Lib.hid (HSP.out ▸ hg4)
  have HB4 := Lib.hid hb4
  simp only [rgO, goInt] at hcp
  clear hg4 hb4 hgr hmin
  go_enter Try.func46, Try.ntmps46
  go_wp2
  have HF := Lib.hid (show RgR (w4.setCell ⟨W.heap.size + 1, 2, none⟩ (.int .i64 (xs.length : Int))) (W.heap.size + 1) W.heap.size xs ∧ Below W.heap.size W (w4.setCell ⟨W.heap.size + 1, 2, none⟩ (.int .i64 (xs.length : Int))) from
    ⟨⟨cs, 0, HRG.out, heap_set HK4.out 2 _, (heap_setCell_other _ ⟨W.heap.size + 1, 2, none⟩ _ _ (by simp)).trans HG4.out⟩, HB4.out.setCell (by simp) _⟩)
  go_ret
  exact ⟨rfl, HF.out⟩
theorem ch_of {S : Nat → Prop} {w w2 X : World} (hb : Below w.heap.size w w2) (h1 : X.os = w2.os) (h2 : X.tape = w2.tape) (h3 : X.output = w2.output) (h4 : w2.heap.size ≤ X.heap.size) (hh : ∀ b, b < w.heap.size → ¬ S b → X.heap[b]? = w2.heap[b]?) : Ch S w X :=
  ⟨h1.trans hb.os, h2.trans hb.tape, h3.trans hb.output, Nat.le_trans hb.size h4, fun b hl hS => (hh b hl hS).trans (hb.block b hl)⟩
theorem Hd.drew {w : World} {b : Nat} {o : Obj} (h : Hd w b o) : Hd w.drew b o := h
theorem RgR.drew {w : World} {rb cb : Nat} {xs : List Rep} (h : RgR w rb cb xs) : RgR w.drew rb cb xs := h
theorem Ch.drew {S : Nat → Prop} {w w' : World} (h : Ch S w w') : Ch S w w'.drew := ⟨h.os, h.tape, h.output, h.size, h.block⟩
theorem remove_post {w w1 w2 : World} {rb cb f : Nat} {cs t : List Rep} {fz : Int} {a b c d : Value} {T : TypeId} {lz : Int} {m : Int} (hr : Ring 5 cs t ((f + 1) % 5)) (hBA : Below w.heap.size w w1) (hBB : Below w1.heap.size w1 w2)
    (h1 : Hd w2 rb (rgO cb fz lz)) (h2 : Hd w2 cb (.cells (rpC cs).toArray 38)) (hk : Hd w2 w.heap.size (.cells #[a, b, c, d] T)) (hrb : rb < w.heap.size) (hcb : cb < w.heap.size) (hm : (((f + 1) % 5 : Nat) : Int) = m) (i n q : Int) (u : List UInt8) :
    Hd (set4 ((w2.setCell ⟨rb, 1, none⟩ (.int .i64 m)).setCell ⟨rb, 2, none⟩ (.int .i64 (t.length : Int))) w.heap.size 0 (.int .i64 i) (.int .i64 n) (.int .i64 q) (.string ⟨u.toArray⟩)).drew w.heap.size (.cells #[.int .i64 i, .int .i64 n, .int .i64 q, .string ⟨u.toArray⟩] T) ∧
      RgR (set4 ((w2.setCell ⟨rb, 1, none⟩ (.int .i64 m)).setCell ⟨rb, 2, none⟩ (.int .i64 (t.length : Int))) w.heap.size 0 (.int .i64 i) (.int .i64 n) (.int .i64 q) (.string ⟨u.toArray⟩)).drew rb cb t ∧
      Ch (fun b => b = rb ∨ b = cb) w (set4 ((w2.setCell ⟨rb, 1, none⟩ (.int .i64 m)).setCell ⟨rb, 2, none⟩ (.int .i64 (t.length : Int))) w.heap.size 0 (.int .i64 i) (.int .i64 n) (.int .i64 q) (.string ⟨u.toArray⟩)).drew := by
  have hne : cb ≠ rb := fun e => by
    subst e
    unfold Hd at h1 h2
    rw [h1] at h2
    simp at h2
  have far2 : ∀ k, k ≠ rb → ((w2.setCell ⟨rb, 1, none⟩ (.int .i64 m)).setCell ⟨rb, 2, none⟩ (.int .i64 (t.length : Int))).heap[k]? = w2.heap[k]? := fun k hk =>
    (heap_setCell_other _ ⟨rb, 2, none⟩ k _ hk).trans (heap_setCell_other _ ⟨rb, 1, none⟩ k _ hk)
  generalize hv : (w2.setCell ⟨rb, 1, none⟩ (.int .i64 m)).setCell ⟨rb, 2, none⟩ (.int .i64 (t.length : Int)) = v2 at *
  have hr1 : Hd v2 rb (rgO cb m (t.length : Int)) := by rw [← hv]; exact heap_set (heap_set h1 1 (.int .i64 m)) 2 (.int .i64 (t.length : Int))
  have ho : v2.os = w2.os ∧ v2.tape = w2.tape ∧ v2.output = w2.output ∧ v2.heap.size = w2.heap.size := by rw [← hv]; exact ⟨rfl, rfl, rfl, by simp⟩
  clear hv
  have far4 : ∀ k, k ≠ w.heap.size → (set4 v2 w.heap.size 0 (.int .i64 i) (.int .i64 n) (.int .i64 q) (.string ⟨u.toArray⟩)).heap[k]? = v2.heap[k]? := fun k hk => set4_far _ _ _ _ _ _ _ _ hk
  have hs4 := set4_size v2 w.heap.size 0 (.int .i64 i) (.int .i64 n) (.int .i64 q) (.string ⟨u.toArray⟩)
  have hk4 : Hd (set4 v2 w.heap.size 0 (.int .i64 i) (.int .i64 n) (.int .i64 q) (.string ⟨u.toArray⟩)) w.heap.size (.cells #[.int .i64 i, .int .i64 n, .int .i64 q, .string ⟨u.toArray⟩] T) :=
    Hd.set4 (show Hd v2 w.heap.size (.cells #[a, b, c, d] T) from (far2 _ (by omega)).trans hk) _ _ _ _
  have ho4 : (set4 v2 w.heap.size 0 (.int .i64 i) (.int .i64 n) (.int .i64 q) (.string ⟨u.toArray⟩)).os = v2.os ∧ (set4 v2 w.heap.size 0 (.int .i64 i) (.int .i64 n) (.int .i64 q) (.string ⟨u.toArray⟩)).tape = v2.tape ∧ (set4 v2 w.heap.size 0 (.int .i64 i) (.int .i64 n) (.int .i64 q) (.string ⟨u.toArray⟩)).output = v2.output := ⟨rfl, rfl, rfl⟩
  generalize set4 v2 w.heap.size 0 (.int .i64 i) (.int .i64 n) (.int .i64 q) (.string ⟨u.toArray⟩) = v4 at *
  refine ⟨hk4.drew, RgR.drew ⟨cs, (f + 1) % 5, hr, ?_, (far4 _ (by omega)).trans ((far2 _ hne).trans h2)⟩, Ch.drew (ch_of (below_chain hBA hBB) (ho4.1.trans ho.1) (ho4.2.1.trans ho.2.1) (ho4.2.2.trans ho.2.2.1) (by omega) (fun k hk hS => (far4 _ (by omega)).trans (far2 _ (fun e => hS (.inl e)))))⟩
  rw [hm]
  exact (far4 _ (by omega)).trans hr1
theorem tmod5 (f : Nat) : Int.tmod ((f : Int) + 1) 5 = (((f + 1) % 5 : Nat) : Int) := by
  rw [Int.tmod_eq_emod_of_nonneg (by omega)]; omega
set_option maxRecDepth 100000 in
set_option maxHeartbeats 2000000 in
theorem removeR_any (rb cb : Nat) (x : Rep) (t : List Rep) (w : World) (h : RgR w rb cb (x :: t)) :
    Calls Try.prog 53 #[.pointer (some ⟨rb, 0, none⟩)] w fun e w' => e = .returned (rV x) ∧ RgR w' rb cb t ∧ Ch (fun b => b = rb ∨ b = cb) w w' := by
  obtain ⟨cs, f, hr, h1, h2⟩ := h
  obtain ⟨r0, r1, r2, rf⟩ := h1.three
  have hfl := hr.fl
  have hx : cs.getD f default = x := by have := hr.head; simp [List.getD, this]
  obtain ⟨q0, q1, q2, q3⟩ := rpC_cell h2 (show f < cs.length by rw [hr.n]; omega)
  rw [hx] at q0 q1 q2 q3
  have HR := Lib.hid hr.tail
  have H1 := Lib.hid h1
  have H2 := Lib.hid h2
  have M5 := tmod5 f
  have hrb := h1.lt
  have hcb := h2.lt
  have hl : (x :: t).length = t.length + 1 := rfl
  rw [hl] at r2
  have hl4 : t.length ≤ 4 := by have := hr.l; simp at this; omega
  clear hr h1 h2 hx hl
  obtain ⟨i, b, n, u⟩ := x
  simp only at q0 q1 q2 q3
  go_enter Try.func53, Try.ntmps53
  go_wp2_with fail
  have z1 : rb < (w.alloc (.cells #[.int .i64 0, .int .i64 0, .int .i64 0, .string ⟨#[]⟩] 38)).heap.size := by simp; omega
  have z2 : cb < (w.alloc (.cells #[.int .i64 0, .int .i64 0, .int .i64 0, .string ⟨#[]⟩] 38)).heap.size := by simp; omega
  have BA := (Below.refl w.heap.size w).alloc (Nat.le_refl _) (.cells #[.int .i64 0, .int .i64 0, .int .i64 0, .string ⟨#[]⟩] 38)
  have KA := Hd.new w (.cells #[.int .i64 0, .int .i64 0, .int .i64 0, .string ⟨#[]⟩] 38)
  replace r0 := (BA.cell (p := ⟨rb, 0, none⟩) hrb).trans r0
  replace r1 := (BA.cell (p := ⟨rb, 1, none⟩) hrb).trans r1
  replace r2 := (BA.cell (p := ⟨rb, 2, none⟩) hrb).trans r2
  replace rf := fun o => (BA.frozen (p := ⟨rb, o, none⟩) hrb).trans (rf o)
  replace q0 := (BA.cell (p := ⟨cb, f * 4, none⟩) hcb).trans q0
  replace q1 := (BA.cell (p := ⟨cb, f * 4 + 1, none⟩) hcb).trans q1
  replace q2 := (BA.cell (p := ⟨cb, f * 4 + 2, none⟩) hcb).trans q2
  replace q3 := (BA.cell (p := ⟨cb, f * 4 + 3, none⟩) hcb).trans q3
  have HBA := Lib.hid BA
  have HKA := Lib.hid KA
  clear BA KA
  generalize w.alloc (.cells #[.int .i64 0, .int .i64 0, .int .i64 0, .string ⟨#[]⟩] 38) = w1 at *
  have a0 : ∀ o, (w1.alloc o).cell? ⟨rb, 0, none⟩ = some (.slice (some ⟨cb, 0, none⟩) 5 5) := fun o => (past w1 o rb 0 z1).trans r0
  have a1 : ∀ o, (w1.alloc o).cell? ⟨rb, 1, none⟩ = some (.int .i64 (f : Int)) := fun o => (past w1 o rb 1 z1).trans r1
  have a2 : ∀ o, (w1.alloc o).cell? ⟨rb, 2, none⟩ = some (.int .i64 ((t.length + 1 : Nat) : Int)) := fun o => (past w1 o rb 2 z1).trans r2
  have b0 : ∀ o, (w1.alloc o).cell? ⟨cb, f * 4, none⟩ = some (.int .i64 i) := fun o => (past w1 o cb _ z2).trans q0
  have b1 : ∀ o, (w1.alloc o).cell? ⟨cb, f * 4 + 1, none⟩ = some (.int .i64 b) := fun o => (past w1 o cb _ z2).trans q1
  have b2 : ∀ o, (w1.alloc o).cell? ⟨cb, f * 4 + 2, none⟩ = some (.int .i64 n) := fun o => (past w1 o cb _ z2).trans q2
  have b3 : ∀ o, (w1.alloc o).cell? ⟨cb, f * 4 + 3, none⟩ = some (.string ⟨u.toArray⟩) := fun o => (past w1 o cb _ z2).trans q3
  have af : ∀ o k, (w1.alloc o).frozen? ⟨rb, k, none⟩ = false := fun o k => (World.frozen?_alloc_past _ _ _ z1).trans (rf k)
  go_region
  have BB := Below.drew ((Below.refl w1.heap.size w1).alloc (Nat.le_refl _) (.cells #[.int .i64 i, .int .i64 b, .int .i64 n, .string ⟨u.toArray⟩] 38))
  have KX : Hd (w1.alloc (.cells #[.int .i64 i, .int .i64 b, .int .i64 n, .string ⟨u.toArray⟩] 38)).drew w1.heap.size (.cells #[.int .i64 i, .int .i64 b, .int .i64 n, .string ⟨u.toArray⟩] 38) := Hd.new w1 _
  clear a0 a1 a2 b0 b1 b2 b3 af q0 q1 q2 q3
  replace r0 := (BB.cell (p := ⟨rb, 0, none⟩) z1).trans r0
  replace r1 := (BB.cell (p := ⟨rb, 1, none⟩) z1).trans r1
  replace r2 := (BB.cell (p := ⟨rb, 2, none⟩) z1).trans r2
  replace rf := fun o => (BB.frozen (p := ⟨rb, o, none⟩) z1).trans (rf o)
  have HBB := Lib.hid BB
  have z3 := KX.lt
  have z4 : w1.heap.size ≤ _ := BB.size
  have HH1 := Lib.hid ((H1.out.blw HBA.out).blw BB)
  have HH2 := Lib.hid ((H2.out.blw HBA.out).blw BB)
  have HKB := Lib.hid (HKA.out.blw BB)
  have HKX := Lib.hid KX
  obtain ⟨x0, x1, x2, x3, xf⟩ := KX.four
  obtain ⟨y0, y1, y2, y3, yf⟩ := (HKA.out.blw BB).four
  clear BB KX
  generalize (w1.alloc (.cells #[.int .i64 i, .int .i64 b, .int .i64 n, .string ⟨u.toArray⟩] 38)).drew = w2 at *
  go_wp2_with fail
  go_region
  have eM : (((f + 1) % 5 : Nat) : Int) = ((f : Int) + 1) % 5 := by omega
  have hF := remove_post HR.out HBA.out HBB.out HH1.out HH2.out HKB.out hrb hcb eM i b n u
  have HF := Lib.hid hF
  clear hF
  go_wp2
  exact bodyPost_ret (ret_R Try.results53 rfl HF.out.1) rfl ⟨rfl, HF.out.2⟩
theorem rg_ne {w : World} {rb cb c2 : Nat} {f n : Int} {C : Array Value} (h1 : Hd w rb (rgO c2 f n)) (h2 : Hd w cb (.cells C 38)) : rb ≠ cb := fun e => by
  subst e
  unfold Hd at h1 h2
  rw [h1] at h2
  simp at h2
theorem rpC_set (x : Rep) : ∀ (cs : List Rep) (p : Nat), p < cs.length → ((((rpC cs).set (p * 4) (.int .i64 x.id)).set (p * 4 + 1) (.int .i64 x.born)).set (p * 4 + 2) (.int .i64 x.tries)).set (p * 4 + 3) (.string ⟨x.body.toArray⟩) = rpC (cs.set p x)
  | [], p, h => by simp at h
  | c :: r, 0, _ => by simp [rpC]
  | c :: r, p + 1, h => by
    have ih := rpC_set x r p (by simpa using h)
    have e : (p + 1) * 4 = p * 4 + 1 + 1 + 1 + 1 := by omega
    rw [e]
    simpa [rpC] using ih
def olR (xs : List Rep) : Rep := if xs.length = 5 then xs.getD 0 default else zR
def adR (xs : List Rep) (x : Rep) : List Rep := (if xs.length = 5 then xs.tail else xs) ++ [x]
theorem add_post {w w5 : World} {rb cb f p : Nat} {cs ys : List Rep} {x o : Rep} {a b c d : Value} {T : TypeId} (hr : Ring 5 cs ys f) (h1 : Hd w5 rb (rgO cb (f : Nat) (ys.length : Nat))) (h2 : Hd w5 cb (.cells (rpC cs).toArray 38))
    (hk : Hd w5 (w.heap.size + 1) (.cells #[a, b, c, d] T)) (hrb : rb < w.heap.size) (hcb : cb < w.heap.size) (hch : Ch (fun b => b = rb ∨ b = cb) w w5) (hp : p = (f + ys.length) % 5) (hl : ys.length < 5) (m1 : Int) (hm : m1 = (ys.length : Int) + 1) :
    Hd (set4 ((set4 w5 cb (p * 4) (.int .i64 x.id) (.int .i64 x.born) (.int .i64 x.tries) (.string ⟨x.body.toArray⟩)).setCell ⟨rb, 2, none⟩ (.int .i64 m1)) (w.heap.size + 1) 0 (.int .i64 o.id) (.int .i64 o.born) (.int .i64 o.tries) (.string ⟨o.body.toArray⟩)).drew (w.heap.size + 1) (.cells (rC o) T) ∧
      RgR (set4 ((set4 w5 cb (p * 4) (.int .i64 x.id) (.int .i64 x.born) (.int .i64 x.tries) (.string ⟨x.body.toArray⟩)).setCell ⟨rb, 2, none⟩ (.int .i64 m1)) (w.heap.size + 1) 0 (.int .i64 o.id) (.int .i64 o.born) (.int .i64 o.tries) (.string ⟨o.body.toArray⟩)).drew rb cb (ys ++ [x]) ∧
      Ch (fun b => b = rb ∨ b = cb) w (set4 ((set4 w5 cb (p * 4) (.int .i64 x.id) (.int .i64 x.born) (.int .i64 x.tries) (.string ⟨x.body.toArray⟩)).setCell ⟨rb, 2, none⟩ (.int .i64 m1)) (w.heap.size + 1) 0 (.int .i64 o.id) (.int .i64 o.born) (.int .i64 o.tries) (.string ⟨o.body.toArray⟩)).drew := by
  have hne : cb ≠ rb := fun e => by
    subst e
    unfold Hd at h1 h2
    rw [h1] at h2
    simp at h2
  have hc1 : Hd (set4 w5 cb (p * 4) (.int .i64 x.id) (.int .i64 x.born) (.int .i64 x.tries) (.string ⟨x.body.toArray⟩)) cb (.cells (rpC (cs.set p x)).toArray 38) := by
    have h3 := heap_set (heap_set (heap_set (heap_set h2 (p * 4) (.int .i64 x.id)) (p * 4 + 1) (.int .i64 x.born)) (p * 4 + 2) (.int .i64 x.tries)) (p * 4 + 3) (.string ⟨x.body.toArray⟩)
    have h4 := rpC_set x cs p (by rw [hr.n]; omega)
    simp only [List.setIfInBounds_toArray] at h3
    rw [h4] at h3
    exact h3
  have far1 : ∀ k, k ≠ cb → (set4 w5 cb (p * 4) (.int .i64 x.id) (.int .i64 x.born) (.int .i64 x.tries) (.string ⟨x.body.toArray⟩)).heap[k]? = w5.heap[k]? := fun k hk => set4_far _ _ _ _ _ _ _ _ hk
  have hs1 := set4_size w5 cb (p * 4) (.int .i64 x.id) (.int .i64 x.born) (.int .i64 x.tries) (.string ⟨x.body.toArray⟩)
  have ho1 : (set4 w5 cb (p * 4) (.int .i64 x.id) (.int .i64 x.born) (.int .i64 x.tries) (.string ⟨x.body.toArray⟩)).os = w5.os ∧ (set4 w5 cb (p * 4) (.int .i64 x.id) (.int .i64 x.born) (.int .i64 x.tries) (.string ⟨x.body.toArray⟩)).tape = w5.tape ∧ (set4 w5 cb (p * 4) (.int .i64 x.id) (.int .i64 x.born) (.int .i64 x.tries) (.string ⟨x.body.toArray⟩)).output = w5.output := ⟨rfl, rfl, rfl⟩
  generalize set4 w5 cb (p * 4) (.int .i64 x.id) (.int .i64 x.born) (.int .i64 x.tries) (.string ⟨x.body.toArray⟩) = v1 at *
  have hr1 : Hd (v1.setCell ⟨rb, 2, none⟩ (.int .i64 m1)) rb (rgO cb (f : Nat) m1) := heap_set ((far1 _ hne.symm).trans h1) 2 (.int .i64 m1)
  have far2 : ∀ k, k ≠ rb → (v1.setCell ⟨rb, 2, none⟩ (.int .i64 m1)).heap[k]? = v1.heap[k]? := fun k hk => heap_setCell_other _ ⟨rb, 2, none⟩ k _ hk
  have ho2 : (v1.setCell ⟨rb, 2, none⟩ (.int .i64 m1)).os = v1.os ∧ (v1.setCell ⟨rb, 2, none⟩ (.int .i64 m1)).tape = v1.tape ∧ (v1.setCell ⟨rb, 2, none⟩ (.int .i64 m1)).output = v1.output ∧ (v1.setCell ⟨rb, 2, none⟩ (.int .i64 m1)).heap.size = v1.heap.size := ⟨rfl, rfl, rfl, by simp⟩
  generalize v1.setCell ⟨rb, 2, none⟩ (.int .i64 m1) = v2 at *
  have hk2 : Hd v2 (w.heap.size + 1) (.cells #[a, b, c, d] T) := (far2 _ (by omega)).trans ((far1 _ (by omega)).trans hk)
  have far4 : ∀ k, k ≠ w.heap.size + 1 → (set4 v2 (w.heap.size + 1) 0 (.int .i64 o.id) (.int .i64 o.born) (.int .i64 o.tries) (.string ⟨o.body.toArray⟩)).heap[k]? = v2.heap[k]? := fun k hk => set4_far _ _ _ _ _ _ _ _ hk
  have hs4 := set4_size v2 (w.heap.size + 1) 0 (.int .i64 o.id) (.int .i64 o.born) (.int .i64 o.tries) (.string ⟨o.body.toArray⟩)
  have hk4 := hk2.set4 (.int .i64 o.id) (.int .i64 o.born) (.int .i64 o.tries) (.string ⟨o.body.toArray⟩)
  have ho4 : (set4 v2 (w.heap.size + 1) 0 (.int .i64 o.id) (.int .i64 o.born) (.int .i64 o.tries) (.string ⟨o.body.toArray⟩)).os = v2.os ∧ (set4 v2 (w.heap.size + 1) 0 (.int .i64 o.id) (.int .i64 o.born) (.int .i64 o.tries) (.string ⟨o.body.toArray⟩)).tape = v2.tape ∧ (set4 v2 (w.heap.size + 1) 0 (.int .i64 o.id) (.int .i64 o.born) (.int .i64 o.tries) (.string ⟨o.body.toArray⟩)).output = v2.output := ⟨rfl, rfl, rfl⟩
  generalize set4 v2 (w.heap.size + 1) 0 (.int .i64 o.id) (.int .i64 o.born) (.int .i64 o.tries) (.string ⟨o.body.toArray⟩) = v4 at *
  have hring := hr.snoc x hl
  rw [← hp] at hring
  refine ⟨hk4.drew, RgR.drew ⟨cs.set p x, f, hring, ?_, (far4 _ (by omega)).trans ((far2 _ hne).trans hc1)⟩, Ch.drew ⟨?_, ?_, ?_, ?_, fun k hk hS => ?_⟩⟩
  · have e : ((ys ++ [x]).length : Int) = m1 := by rw [hm]; simp
    rw [e]
    exact (far4 _ (by omega)).trans hr1
  · exact ho4.1.trans (ho2.1.trans (ho1.1.trans hch.os))
  · exact ho4.2.1.trans (ho2.2.1.trans (ho1.2.1.trans hch.tape))
  · exact ho4.2.2.trans (ho2.2.2.1.trans (ho1.2.2.trans hch.output))
  · have := hch.size; omega
  · exact (far4 _ (by omega)).trans ((far2 _ (fun e => hS (.inl e))).trans ((far1 _ (fun e => hS (.inr e))).trans (hch.block k hk hS)))
set_option maxRecDepth 100000 in
set_option maxHeartbeats 4000000 in
theorem addR_any (rb cb : Nat) (xs : List Rep) (x : Rep) (w : World) (h : RgR w rb cb xs) :
    Calls Try.prog 31 #[.pointer (some ⟨rb, 0, none⟩), rV x] w fun e w' => e = .returned (rV (olR xs)) ∧ RgR w' rb cb (adR xs x) ∧ Ch (fun b => b = rb ∨ b = cb) w w' := by
  have hrb : rb < w.heap.size := by obtain ⟨_, _, _, h1, _⟩ := h; exact h1.lt
  have hcb : cb < w.heap.size := by obtain ⟨_, _, _, _, h1⟩ := h; exact h1.lt
  have hx5 : xs.length ≤ 5 := by obtain ⟨_, _, h1, _⟩ := h; exact h1.l
  obtain ⟨i, b, n, u⟩ := x
  have hb3 := (((Below.refl w.heap.size w).alloc (Nat.le_refl _) (.cells (rC ⟨i, b, n, u⟩) 38)).alloc (by simp) (.cells #[.int .i64 0, .int .i64 0, .int .i64 0, .string ⟨#[]⟩] 38)).alloc (by simp; omega) (.cells #[.int .i64 0, .int .i64 0, .int .i64 0, .string ⟨#[]⟩] 38)
  have HX0 := Lib.hid (alloc3_0 w (.cells (rC ⟨i, b, n, u⟩) 38) (.cells #[.int .i64 0, .int .i64 0, .int .i64 0, .string ⟨#[]⟩] 38) (.cells #[.int .i64 0, .int .i64 0, .int .i64 0, .string ⟨#[]⟩] 38))
  have HX1 := Lib.hid (alloc3_1 w (.cells (rC ⟨i, b, n, u⟩) 38) (.cells #[.int .i64 0, .int .i64 0, .int .i64 0, .string ⟨#[]⟩] 38) (.cells #[.int .i64 0, .int .i64 0, .int .i64 0, .string ⟨#[]⟩] 38))
  have HX2 := Lib.hid (alloc3_2 w (.cells (rC ⟨i, b, n, u⟩) 38) (.cells #[.int .i64 0, .int .i64 0, .int .i64 0, .string ⟨#[]⟩] 38) (.cells #[.int .i64 0, .int .i64 0, .int .i64 0, .string ⟨#[]⟩] 38))
  have HZ3 := Lib.hid (show (((w.alloc (.cells (rC ⟨i, b, n, u⟩) 38)).alloc (.cells #[.int .i64 0, .int .i64 0, .int .i64 0, .string ⟨#[]⟩] 38)).alloc (.cells #[.int .i64 0, .int .i64 0, .int .i64 0, .string ⟨#[]⟩] 38)).heap.size = w.heap.size + 3 by simp)
  have HB3 := Lib.hid hb3
  have HR0 := Lib.hid (h.blw hb3)
  clear h hb3
  simp only [rC] at HX0 HX1 HX2 HZ3 HB3 HR0
  go_enter Try.func31, Try.ntmps31
  go_wp2_with fail
  generalize ((w.alloc (.cells #[.int .i64 i, .int .i64 b, .int .i64 n, .string ⟨u.toArray⟩] 38)).alloc (.cells #[.int .i64 0, .int .i64 0, .int .i64 0, .string ⟨#[]⟩] 38)).alloc (.cells #[.int .i64 0, .int .i64 0, .int .i64 0, .string ⟨#[]⟩] 38) = w3 at *
  by_cases hfull : xs.length = 5
  · obtain ⟨y, t, rfl⟩ : ∃ y t, xs = y :: t := by
      cases xs with
      | nil => simp at hfull
      | cons y t => exact ⟨y, t, rfl⟩
    have hRR := HR0.out
    obtain ⟨cs0, f0, hr0, h10, h20⟩ := hRR
    obtain ⟨r0, r1, r2, -⟩ := h10.three
    rw [hfull] at r2
    have HLY := Lib.hid (show t.length ≤ 4 by simp at hfull; omega)
    have HEO := Lib.hid (show olR (y :: t) = y by unfold olR; rw [if_pos hfull]; rfl)
    have HEA := Lib.hid (show ∀ x, adR (y :: t) x = t ++ [x] from fun x => by unfold adR; rw [if_pos hfull]; rfl)
    have HRM := Lib.hid (fun W h => removeR_any rb cb y t W h)
    clear hr0 h10 h20 hfull
    go_region
    go_wp2_with fail
    refine (HRM.out _ (HR0.out.drew)).mono ?_
    rintro e w4 ⟨rfl, hrg, hch⟩
    have z3 := HZ3.out
    have hn : ∀ k, w.heap.size ≤ k → ¬ (k = rb ∨ k = cb) := fun k hk e => by rcases e with e | e <;> omega
    have HX4 := Lib.hid (hch.hd HX0.out.drew (hn _ (by omega)))
    have HY4 := Lib.hid (hch.hd HX1.out.drew (hn _ (by omega)))
    have HV4 := Lib.hid (hch.hd HX2.out.drew (hn _ (by omega)))
    have HC4 := Lib.hid ((Ch.of_below (S := fun b => b = rb ∨ b = cb) (Below.drew HB3.out)).trans hch)
    have HG4 := Lib.hid hrg
    obtain ⟨v0, v1, v2, v3, vf⟩ := HV4.out.four
    clear hrg hch r0 r1 r2
    obtain ⟨yi, yb, yn, yu⟩ := y
    go_wp2_with fail
    generalize hw5 : (((w4.setCell ⟨w.heap.size + 1 + 1, 0, none⟩ (.int .i64 yi)).setCell ⟨w.heap.size + 1 + 1, 1, none⟩ (.int .i64 yb)).setCell ⟨w.heap.size + 1 + 1, 2, none⟩ (.int .i64 yn)).setCell ⟨w.heap.size + 1 + 1, 3, none⟩ (.string ⟨yu.toArray⟩) = w5 at *
    have far : ∀ k, k ≠ w.heap.size + 1 + 1 → w5.heap[k]? = w4.heap[k]? := fun k hk => by rw [← hw5]; exact set4_far w4 (w.heap.size + 1 + 1) 0 k _ _ _ _ hk
    have HRG := Lib.hid (show RgR w5 rb cb t from by
      obtain ⟨cs, f, a, b, c⟩ := HG4.out
      exact ⟨cs, f, a, (far _ (by omega)).trans b, (far _ (by omega)).trans c⟩)
    have HX := Lib.hid (show Hd w5 w.heap.size _ from (far _ (by omega)).trans HX4.out)
    have HK1 := Lib.hid (show Hd w5 (w.heap.size + 1) _ from (far _ (by omega)).trans HY4.out)
    have HK2 := Lib.hid (show Hd w5 (w.heap.size + 1 + 1) (.cells (rC ⟨yi, yb, yn, yu⟩) 38) from by rw [← hw5]; exact HV4.out.set4 _ _ _ _)
    have HCH := Lib.hid (show Ch (fun b => b = rb ∨ b = cb) w w5 from ⟨by rw [← hw5]; exact HC4.out.os, by rw [← hw5]; exact HC4.out.tape, by rw [← hw5]; exact HC4.out.output, by have := HC4.out.size; rw [← hw5]; simpa using this, fun k hk hS => (far k (by omega)).trans (HC4.out.block k hk hS)⟩)
    clear hw5 far v0 v1 v2 v3 vf
    obtain ⟨cs, f, hr, h1, h2⟩ := HRG.out
    obtain ⟨r0, r1, r2, rf⟩ := h1.three
    obtain ⟨x0, x1, x2, x3, xf⟩ := HX.out.four
    obtain ⟨y0, y1, y2, y3, yf⟩ := HK1.out.four
    obtain ⟨v0, v1, v2, v3, vf⟩ := HK2.out.four
    have hf5 := hr.fl
    have hrb5 := h1.lt
    have hcb5 := h2.lt
    obtain ⟨p, hp⟩ : ∃ p, p = (f + t.length) % 5 := ⟨_, rfl⟩
    have hp5 : p < 5 := by omega
    obtain ⟨q0, q1, q2, q3⟩ := rpC_cell h2 (show p < cs.length by rw [hr.n]; omega)
    have qf : ∀ o, w5.frozen? ⟨cb, o, none⟩ = false := fun o => frozen_of_row w5 cb o _ _ h2
    have hp1 : ((f : Int) + (t.length : Int)) % 5 = (p : Int) := by omega
    have hp2 : Int.tmod ((f : Int) + (t.length : Int)) 5 = (p : Int) := by rw [Int.tmod_eq_emod_of_nonneg (by omega)]; omega
    have hne1 : rb ≠ cb := rg_ne h1 h2
    have hne2 : cb ≠ rb := hne1.symm
    have hml : t.length ≤ 4 := HLY.out
    have HF := Lib.hid (add_post (x := ⟨i, b, n, u⟩) (o := ⟨yi, yb, yn, yu⟩) hr h1 h2 HK1.out hrb hcb HCH.out hp (by omega) ((t.length : Int) + 1) rfl)
    clear hr h1 h2 hp
    generalize cs.getD p default = z at *
    go_region
    go_wp2
    exact bodyPost_ret (ret_R Try.results31 rfl HF.out.1) rfl ⟨by rw [HEO.out], by rw [HEA.out]; exact HF.out.2.1, HF.out.2.2⟩
  · have r2' := hfull
    have hl4 : xs.length ≤ 4 := by omega
    have HLY := Lib.hid hl4
    have HEO := Lib.hid (show olR xs = zR by unfold olR; rw [if_neg hfull])
    have HEA := Lib.hid (show ∀ x, adR xs x = xs ++ [x] from fun x => by unfold adR; rw [if_neg hfull])
    have hRR := HR0.out
    obtain ⟨cs0, f0, hr0, h10, h20⟩ := hRR
    obtain ⟨r0, r1, r2, -⟩ := h10.three
    have hc5 : ((xs.length : Int) == 5) = false := by simp; omega
    clear hr0 h10 h20 r2'
    go_region
    have HRG := Lib.hid (HR0.out.drew)
    have HX := Lib.hid HX0.out.drew
    have HK1 := Lib.hid HX1.out.drew
    have HK2 := Lib.hid HX2.out.drew
    have HCH := Lib.hid (Ch.of_below (S := fun b => b = rb ∨ b = cb) (Below.drew HB3.out))
    clear r0 r1 r2
    go_wp2_with fail
    generalize w3.drew = w5 at *
    obtain ⟨cs, f, hr, h1, h2⟩ := HRG.out
    obtain ⟨r0, r1, r2, rf⟩ := h1.three
    obtain ⟨x0, x1, x2, x3, xf⟩ := HX.out.four
    obtain ⟨y0, y1, y2, y3, yf⟩ := HK1.out.four
    obtain ⟨v0, v1, v2, v3, vf⟩ := HK2.out.four
    have hf5 := hr.fl
    have hrb5 := h1.lt
    have hcb5 := h2.lt
    obtain ⟨p, hp⟩ : ∃ p, p = (f + xs.length) % 5 := ⟨_, rfl⟩
    have hp5 : p < 5 := by omega
    obtain ⟨q0, q1, q2, q3⟩ := rpC_cell h2 (show p < cs.length by rw [hr.n]; omega)
    have qf : ∀ o, w5.frozen? ⟨cb, o, none⟩ = false := fun o => frozen_of_row w5 cb o _ _ h2
    have hp1 : ((f : Int) + (xs.length : Int)) % 5 = (p : Int) := by omega
    have hp2 : Int.tmod ((f : Int) + (xs.length : Int)) 5 = (p : Int) := by rw [Int.tmod_eq_emod_of_nonneg (by omega)]; omega
    have hne1 : rb ≠ cb := rg_ne h1 h2
    have hne2 : cb ≠ rb := hne1.symm
    have hml : xs.length ≤ 4 := HLY.out
    have HF := Lib.hid (add_post (x := ⟨i, b, n, u⟩) (o := zR) hr h1 h2 HK1.out hrb hcb HCH.out hp (by omega) ((xs.length : Int) + 1) rfl)
    clear hr h1 h2 hp
    generalize cs.getD p default = z at *
    go_region
    go_wp2
    exact bodyPost_ret (ret_R Try.results31 rfl HF.out.1) rfl ⟨by rw [HEO.out], by rw [HEA.out]; exact HF.out.2.1, HF.out.2.2⟩
end Go.Proofs.Ytakiigddbdapaaa.Qu
