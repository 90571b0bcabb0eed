
/-
  The ring of texts: made, added to, taken from, listed.
-/
import Derived.Test.YtakiigddbdapaaaQuU
namespace Go.Proofs.Ytakiigddbdapaaa.Qu
open Go.RowKit
open Go.Proofs.Ytakiigddbdapaaa.Tx
open Go.Proofs.Ytakiigddbdapaaa.Cpy (Ring)
abbrev tgO (cb : Nat) (f n : Int) : Obj := .cells #[.slice (some ⟨cb, 0, none⟩) 6 6, .int .i64 f, .int .i64 n] 79
/-- the ring at rb, its cells at cb, holds xs -/
def RgT (w : World) (rb cb : Nat) (xs : List (List UInt8)) : Prop := ∃ (cs : List (List UInt8)) (f : Nat), Ring 6 cs xs f ∧ Hd w rb (tgO cb (f : Nat) (xs.length : Nat)) ∧ Hd w cb (.cells (strV cs).toArray 9)
theorem RgT.blw {w w' : World} {rb cb : Nat} {xs : List (List UInt8)} (h : RgT w rb cb xs) (hb : Below w.heap.size w w') : RgT w' rb cb xs := by
  obtain ⟨cs, f, h1, h2, h3⟩ := h
  exact ⟨cs, f, h1, h2.blw hb, h3.blw hb⟩
theorem RgT.ch {S : Nat → Prop} {w w' : World} {rb cb : Nat} {xs : List (List UInt8)} (h : RgT w rb cb xs) (hm : Ch S w w') (h1 : ¬ S rb) (h2 : ¬ S cb) : RgT w' rb cb xs := by
  obtain ⟨cs, f, h3, h4, h5⟩ := h
  exact ⟨cs, f, h3, hm.hd h4 h1, hm.hd h5 h2⟩
theorem RgT.drew {w : World} {rb cb : Nat} {xs : List (List UInt8)} (h : RgT w rb cb xs) : RgT w.drew rb cb xs := h
theorem strV_len (xs : List (List UInt8)) : (strV xs).length = xs.length := by simp [strV]
theorem strV_app (a b : List (List UInt8)) : strV (a ++ b) = strV a ++ strV b := by simp [strV]
theorem strV_drop (xs : List (List UInt8)) (k : Nat) : (strV xs).drop k = strV (xs.drop k) := by simp [strV, List.map_drop]
theorem strV_take (xs : List (List UInt8)) (k : Nat) : (strV xs).take k = strV (xs.take k) := by simp [strV, List.map_take]
theorem strV_cell {w : World} {cb : Nat} {cs : List (List UInt8)} (h : Hd w cb (.cells (strV cs).toArray 9)) {i : Nat} (hi : i < cs.length) : w.cell? ⟨cb, i, none⟩ = some (.string ⟨(cs.getD i []).toArray⟩) := by
  unfold Hd at h
  simp [World.cell?, h, strV, hi]
theorem Try.sizeTx : (Try.prog.info? 9).map (·.size) = some 1 := by kernel_rfl
theorem run_makeT (n : Nat) (hn : n ≤ 1048576) (w : World) : (Instr.makeSlice 25 (.int .i64 (n : Int)) (.int .i64 (n : Int))).run Try.prog w = .ok (.slice (some ⟨w.heap.size, 0, none⟩) n n) (w.alloc (.cells (madeCells #[.string ByteArray.empty] n) 9)) :=
  run_make_row' (P := Try.prog) 25 9 (.string ByteArray.empty) 16 Try.underlying25 Try.infoTxt rfl .i64 .i64 n (by omega) (by omega) w
theorem made6 : madeCells #[.string ByteArray.empty] 6 = (strV (List.replicate 6 ([] : List UInt8))).toArray := by kernel_rfl
theorem O1_full {w : World} {g base : Nat} {xs : List (List UInt8)} (h : Hd w g (.cells (strV xs).toArray 9)) (hb : base ≤ g) (hn : xs.length ≤ 1048576) : O1 w base (.slice (some ⟨g, 0, none⟩) xs.length xs.length) xs :=
  ⟨by simp [strV], .inr ⟨g, xs.length, (strV xs).toArray, rfl, hb, h, Nat.le_refl _, by unfold maxLen; omega, by simp [strV], by simp [strV, List.take_of_length_le]⟩⟩
set_option maxRecDepth 100000 in
set_option maxHeartbeats 2000000 in
theorem ringOfT_any (B : Nat) (w0 : World) (xs : List (List UInt8)) (v : Value) (h : TxtsIn (· < B) w0 v xs) (hl : xs.length ≤ 6) (W : World) (hb : Below B w0 W) (hB : B ≤ W.heap.size) :
    Calls Try.prog 47 #[v, .int .i64 6] W fun e w' => e = .returned (.pointer (some ⟨W.heap.size + 1, 0, none⟩)) ∧ RgT w' (W.heap.size + 1) W.heap.size xs ∧ Below W.heap.size W w' := by
  have hmk : ∀ w : World, (Instr.makeSlice 25 (.int .i64 6) (.int .i64 6)).run Try.prog w = .ok (.slice (some ⟨w.heap.size, 0, none⟩) 6 6) (w.alloc (.cells (strV (List.replicate 6 ([] : List UInt8))).toArray 9)) := fun w => by
    have := run_makeT 6 (by omega) w
    rw [made6] at this
    exact this
  have hal := ((Below.refl W.heap.size W).alloc (Nat.le_refl _) (.cells (strV (List.replicate 6 ([] : List UInt8))).toArray 9)).alloc (by simp) (tgO W.heap.size 0 0)
  have hK0 := (Hd.new W (.cells (strV (List.replicate 6 ([] : List UInt8))).toArray 9)).al (tgO W.heap.size 0 0)
  have hK1 : Hd ((W.alloc (.cells (strV (List.replicate 6 ([] : List UInt8))).toArray 9)).alloc (tgO W.heap.size 0 0)) (W.heap.size + 1) (tgO W.heap.size 0 0) := by
    have := Hd.new (W.alloc (.cells (strV (List.replicate 6 ([] : List UInt8))).toArray 9)) (tgO W.heap.size 0 0)
    simpa using this
  obtain ⟨a, c, rfl, hn⟩ := tx_news ((h.blw hb).same (S' := fun _ => True) (w' := (W.alloc (.cells (strV (List.replicate 6 ([] : List UInt8))).toArray 9)).alloc (tgO W.heap.size 0 0)) fun b hb => ⟨trivial, hal.block b (Nat.lt_of_lt_of_le hb hB)⟩)
  have HN := Lib.hid hn
  have HAL := Lib.hid hal
  have HK0 := Lib.hid hK0
  have HK1 := Lib.hid hK1
  have HRG := Lib.hid (show Ring 6 (xs ++ (List.replicate 6 ([] : List UInt8)).drop xs.length) xs 0 from Cpy.Ring.start (by omega) hl (by simp; omega))
  have HSP := Lib.hid (show splice (strV (List.replicate 6 ([] : List UInt8))) 0 (strV xs) = strV (xs ++ (List.replicate 6 ([] : List UInt8)).drop xs.length) by
    unfold splice
    rw [List.take_zero, List.nil_append, Nat.zero_add, strV_len, strV_drop, ← strV_app])
  have hmin : Nat.min xs.length 6 = xs.length := Nat.min_eq_left hl
  have HLZ := Lib.hid (show (strV (List.replicate 6 ([] : List UInt8))).length = 6 from by rw [strV_len]; simp)
  clear h hn hb hal hK0 hK1
  generalize strV (List.replicate 6 ([] : List UInt8)) = Z at *
  generalize xs ++ (List.replicate 6 ([] : List UInt8)).drop xs.length = cs at *
  obtain ⟨w4, hcp, hg4, hb4, hgr⟩ := Cpy.run_copyN (P := Try.prog) _ 25 25 3 9 1 Try.underlying25 Try.sizeTx (by omega) (some ⟨W.heap.size, 0, none⟩) a 6 6 xs.length c W.heap.size 0 Z 9 HK0.out (strV xs) (by rw [strV_len, hmin, Nat.mul_one]) (fun hp => ⟨rfl, HN.out (by rw [strV_len] at hp; omega)⟩) (by rw [strV_len, HLZ.out]; omega) (strV_one xs) W.heap.size W HAL.out (Nat.le_refl _)
  rw [hmin] at hcp
  have HK4 := Lib.hid (HK1.out.grown hgr (by simp))
  obtain ⟨r0, r1, r2, rf⟩ := HK4.out.three
  have HG4 := Lib.hid (HSP.out ▸ hg4)
  have HB4 := Lib.hid hb4
  simp only [tgO, goInt] at hcp
  clear hg4 hb4 hgr hmin
  go_enter Try.func47, Try.ntmps47
  go_wp2
  have HF := Lib.hid (show RgT (w4.setCell ⟨W.heap.size + 1, 2, none⟩ (.int .i64 (xs.length : Int))) (W.heap.size + 1) W.heap.size xs ∧ Below W.heap.size W (w4.setCell ⟨W.heap.size + 1, 2, none⟩ (.int .i64 (xs.length : Int))) from
    ⟨⟨cs, 0, HRG.out, heap_set HK4.out 2 _, (heap_setCell_other _ ⟨W.heap.size + 1, 2, none⟩ _ _ (by simp)).trans HG4.out⟩, HB4.out.setCell (by simp) _⟩)
  go_ret
  exact ⟨rfl, HF.out⟩
set_option maxRecDepth 100000 in
set_option maxHeartbeats 4000000 in
theorem listT_any (rb cb : Nat) (xs : List (List UInt8)) (w : World) (h : RgT w rb cb xs) :
    Calls Try.prog 50 #[.pointer (some ⟨rb, 0, none⟩)] w (NewTs w xs) := by
  obtain ⟨cs, f, hr, h1, h2⟩ := h
  have hrb := h1.lt
  have hcb := h2.lt
  have hl := hr.l
  have hf := hr.fl
  have hcn := hr.n
  have hmk := fun w => run_makeT xs.length (by omega) w
  have BA := (Below.refl w.heap.size w).alloc (Nat.le_refl _) (.cells (madeCells #[.string ByteArray.empty] xs.length) 9)
  have K1 := h1.blw BA
  have K2 := h2.blw BA
  have KG : Hd (w.alloc (.cells (madeCells #[.string ByteArray.empty] xs.length) 9)) w.heap.size (.cells (madeCells #[.string ByteArray.empty] xs.length).toList.toArray 9) := by
    rw [Array.toArray_toList]; exact Hd.new w _
  have hL : (madeCells #[.string ByteArray.empty] xs.length).toList.length = xs.length := by rw [Array.length_toList, size_madeCells]
  generalize hL0 : (madeCells #[.string ByteArray.empty] xs.length).toList = L at *
  clear hL0
  obtain ⟨r0, r1, r2, rf⟩ := h1.three
  have HK1 := Lib.hid K1.drew
  have HK2 := Lib.hid K2.drew
  have HKG := Lib.hid KG.drew
  have HBA := Lib.hid (Below.drew BA)
  have HLS := Lib.hid hr.list
  clear KG K2 h1 h2
  obtain ⟨k, hk⟩ : ∃ k, k = min (6 - f) xs.length := ⟨_, rfl⟩
  have hAl : (((strV cs).drop f).take k).length = k := by rw [List.length_take, List.length_drop, strV_len, hcn]; omega
  obtain ⟨w4, hcp, hg4, hb4, hgr⟩ := Cpy.run_copyN (P := Try.prog) _ 25 25 3 9 1 Try.underlying25 Try.sizeTx (by omega) (some ⟨w.heap.size, 0, none⟩) (some ⟨cb, f, none⟩) xs.length xs.length (6 - f) (6 - f) w.heap.size 0 L 9 HKG.out (((strV cs).drop f).take k) (by rw [hAl]; show _ = min _ _ * 1; rw [← hk, Nat.mul_one]) (fun _ => ⟨rfl, _, rfl, row_src HK2.out f k⟩) (by rw [hAl, hL]; omega) (fun v hv => strV_one cs v (List.mem_of_mem_drop (List.mem_of_mem_take hv))) w.heap.size w HBA.out (Nat.le_refl _)
  rw [show Nat.min (6 - f) xs.length = k from hk.symm] at hcp
  simp only [goInt] at hcp
  have HK14 := Lib.hid (HK1.out.grown hgr (fun e => by injection e with e; omega))
  have HK24 := Lib.hid (HK2.out.grown hgr (fun e => by injection e with e; omega))
  have HG4 := Lib.hid (show Hd w4 w.heap.size _ from hg4)
  have HB4 := Lib.hid hb4
  obtain ⟨s0, s1, s2, sf⟩ := HK14.out.three
  clear hg4 hb4 hgr
  by_cases hA : xs.length ≤ 6 - f
  · obtain rfl : k = xs.length := by omega
    have HO := Lib.hid (show NewTs w xs (.returned (.slice (some ⟨w.heap.size, 0, none⟩) xs.length xs.length)) w4.drew from by
      have h5 := HG4.out.drew
      have e : ((strV cs).drop f).take xs.length = strV xs := by
        have := HLS.out
        rw [← hk, Nat.sub_self, List.take_zero, List.append_nil] at this
        rw [strV_drop, strV_take, this]
      rw [splice_full _ _ (by rw [hAl, hL]), e] at h5
      exact ⟨_, rfl, O1_full h5 (Nat.le_refl _) (by omega), Below.drew HB4.out⟩)
    have hcp2 := Cpy.run_copy_noneN (P := Try.prog) w4.drew 25 25 3 9 1 (some ⟨w.heap.size, 0, none⟩) (some ⟨cb, 0, none⟩) 0 0 6 6 Try.underlying25 Try.sizeTx (by rfl)
    simp only [goInt] at hcp2
    clear hk HLS hAl hL
    go_enter Try.func50, Try.ntmps50
    go_wp2_with fail
    replace r0 := (BA.cell (p := ⟨rb, 0, none⟩) hrb).trans r0
    replace r1 := (BA.cell (p := ⟨rb, 1, none⟩) hrb).trans r1
    replace r2 := (BA.cell (p := ⟨rb, 2, none⟩) hrb).trans r2
    clear BA K1
    generalize w.alloc (.cells (madeCells #[.string ByteArray.empty] xs.length) 9) = w1 at *
    go_region
    clear r0 r1 r2
    go_wp2_with fail
    go_region
    go_wp2
    go_ret
    exact HO.out
  · have hkf : k = 6 - f := by omega
    have hkn : k < xs.length := by omega
    have hCl : ((strV cs).take (xs.length - k)).length = xs.length - k := by rw [List.length_take, strV_len, hcn]; omega
    have h0 : ((strV cs).drop 0).take (xs.length - k) = (strV cs).take (xs.length - k) := by simp
    obtain ⟨w5, hcp2, hg5, hb5, hgr5⟩ := Cpy.run_copyN (P := Try.prog) w4.drew 25 25 3 9 1 Try.underlying25 Try.sizeTx (by omega) (some ⟨w.heap.size, k, none⟩) (some ⟨cb, 0, none⟩) (xs.length - k) (xs.length - k) 6 6 w.heap.size k (splice L 0 (((strV cs).drop f).take k)) 9 HG4.out.drew ((strV cs).take (xs.length - k)) (by rw [hCl, show Nat.min 6 (xs.length - k) = xs.length - k from Nat.min_eq_right (by omega), Nat.mul_one]) (fun _ => ⟨rfl, _, rfl, by have := row_src HK24.out.drew 0 (xs.length - k); rw [h0] at this; exact this⟩) (by rw [length_splice _ _ _ (by rw [hAl, hL]; omega), hL, hCl]; omega) (fun v hv => strV_one cs v (List.mem_of_mem_take hv)) w.heap.size w (Below.drew HB4.out) (Nat.le_refl _)
    simp only [goInt] at hcp2
    have HO := Lib.hid (show NewTs w xs (.returned (.slice (some ⟨w.heap.size, 0, none⟩) xs.length xs.length)) w5 from by
      have e : ((strV cs).drop f).take k ++ (strV cs).take (xs.length - k) = strV xs := by
        have := HLS.out
        rw [← hk] at this
        rw [strV_drop, strV_take, strV_take, ← strV_app, this]
      rw [splice_two _ _ _ _ hAl (by rw [hAl, hCl, hL]; omega), e] at hg5
      exact ⟨_, rfl, O1_full hg5 (Nat.le_refl _) (by omega), hb5⟩)
    have hne : ¬ xs.length = k := by omega
    have hi : (k : Int) ≤ (xs.length : Int) := by omega
    have hk5 : k ≤ 6 := by omega
    clear hk HLS hAl hL hg5 hb5 hgr5 hCl h0 hkf hA
    go_enter Try.func50, Try.ntmps50
    go_wp2_with fail
    replace r0 := (BA.cell (p := ⟨rb, 0, none⟩) hrb).trans r0
    replace r1 := (BA.cell (p := ⟨rb, 1, none⟩) hrb).trans r1
    replace r2 := (BA.cell (p := ⟨rb, 2, none⟩) hrb).trans r2
    clear BA K1
    generalize w.alloc (.cells (madeCells #[.string ByteArray.empty] xs.length) 9) = w1 at *
    go_region
    clear r0 r1 r2
    go_wp2_with fail
    go_region
    go_wp2
    go_ret
    exact HO.out
theorem tg_ne {w : World} {rb cb c2 : Nat} {f n : Int} {C : Array Value} (h1 : Hd w rb (tgO c2 f n)) (h2 : Hd w cb (.cells C 9)) : rb ≠ cb := fun e => by
  subst e
  unfold Hd at h1 h2
  rw [h1] at h2
  simp at h2
set_option maxRecDepth 100000 in
set_option maxHeartbeats 2000000 in
theorem removeT_any (rb cb : Nat) (x : List UInt8) (t : List (List UInt8)) (w : World) (h : RgT w rb cb (x :: t)) :
    Calls Try.prog 54 #[.pointer (some ⟨rb, 0, none⟩)] w fun e w' => e = .returned (.string ⟨x.toArray⟩) ∧ RgT w' rb cb t ∧ Ch (fun b => b = rb ∨ b = cb) w w' := by
  obtain ⟨cs, f, hr, h1, h2⟩ := h
  obtain ⟨r0, r1, r2, rf⟩ := h1.three
  have hfl := hr.fl
  have hx : cs.getD f [] = x := by have := hr.head; simp [List.getD, this]
  have q0 := strV_cell h2 (show f < cs.length by rw [hr.n]; omega)
  rw [hx] at q0
  have M6 : Int.tmod ((f : Int) + 1) 6 = (((f + 1) % 6 : Nat) : Int) := by rw [Int.tmod_eq_emod_of_nonneg (by omega)]; omega
  have hne := tg_ne h1 h2
  have hl : (x :: t).length = t.length + 1 := rfl
  rw [hl] at r2
  have hl5 : t.length ≤ 5 := by have := hr.l; simp at this; omega
  have eM : (((f + 1) % 6 : Nat) : Int) = ((f : Int) + 1) % 6 := by omega
  have HF := Lib.hid (show RgT ((w.setCell ⟨rb, 1, none⟩ (.int .i64 (((f : Int) + 1) % 6))).setCell ⟨rb, 2, none⟩ (.int .i64 (t.length : Int))).drew rb cb t ∧ Ch (fun b => b = rb ∨ b = cb) w ((w.setCell ⟨rb, 1, none⟩ (.int .i64 (((f : Int) + 1) % 6))).setCell ⟨rb, 2, none⟩ (.int .i64 (t.length : Int))).drew from by
    rw [← eM]
    have far : ∀ k, k ≠ rb → ((w.setCell ⟨rb, 1, none⟩ (.int .i64 (((f + 1) % 6 : Nat) : Int))).setCell ⟨rb, 2, none⟩ (.int .i64 (t.length : Int))).heap[k]? = w.heap[k]? := fun k hk => (heap_setCell_other _ ⟨rb, 2, none⟩ k _ hk).trans (heap_setCell_other _ ⟨rb, 1, none⟩ k _ hk)
    exact ⟨RgT.drew ⟨cs, (f + 1) % 6, hr.tail, heap_set (heap_set h1 1 _) 2 _, (far _ hne.symm).trans h2⟩, Ch.drew ⟨rfl, rfl, rfl, by simp, fun k _ hS => far k (fun e => hS (.inl e))⟩⟩)
  clear hr h1 h2 hx hl eM
  go_enter Try.func54, Try.ntmps54
  go_wp2_with fail
  go_region
  go_wp2_with fail
  go_region
  go_wp2
  go_ret
  exact ⟨rfl, HF.out.1.drew, HF.out.2.drew⟩
def adT (xs : List (List UInt8)) (x : List UInt8) : List (List UInt8) := (if xs.length = 6 then xs.tail else xs) ++ [x]
theorem addT_post {w w5 : World} {rb cb f p : Nat} {cs ys : List (List UInt8)} {x : List UInt8} (hr : Ring 6 cs ys f) (h1 : Hd w5 rb (tgO cb (f : Nat) (ys.length : Nat))) (h2 : Hd w5 cb (.cells (strV cs).toArray 9))
    (hch : Ch (fun b => b = rb ∨ b = cb) w w5) (hp : p = (f + ys.length) % 6) (hl : ys.length < 6) (hne : rb ≠ cb) (m1 : Int) (hm : m1 = (ys.length : Int) + 1) :
    RgT ((w5.setCell ⟨cb, p, none⟩ (.string ⟨x.toArray⟩)).setCell ⟨rb, 2, none⟩ (.int .i64 m1)) rb cb (ys ++ [x]) ∧ Ch (fun b => b = rb ∨ b = cb) w ((w5.setCell ⟨cb, p, none⟩ (.string ⟨x.toArray⟩)).setCell ⟨rb, 2, none⟩ (.int .i64 m1)) := by
  have hc1 : Hd (w5.setCell ⟨cb, p, none⟩ (.string ⟨x.toArray⟩)) cb (.cells (strV (cs.set p x)).toArray 9) := by
    have h3 := heap_set h2 p (.string ⟨x.toArray⟩)
    simp only [List.setIfInBounds_toArray] at h3
    rw [show (strV cs).set p (.string ⟨x.toArray⟩) = strV (cs.set p x) by simp [strV, List.map_set]] at h3
    exact h3
  have far1 : ∀ k, k ≠ cb → (w5.setCell ⟨cb, p, none⟩ (.string ⟨x.toArray⟩)).heap[k]? = w5.heap[k]? := fun k hk => heap_setCell_other _ ⟨cb, p, none⟩ k _ hk
  have ho1 : (w5.setCell ⟨cb, p, none⟩ (.string ⟨x.toArray⟩)).os = w5.os ∧ (w5.setCell ⟨cb, p, none⟩ (.string ⟨x.toArray⟩)).tape = w5.tape ∧ (w5.setCell ⟨cb, p, none⟩ (.string ⟨x.toArray⟩)).output = w5.output ∧ (w5.setCell ⟨cb, p, none⟩ (.string ⟨x.toArray⟩)).heap.size = w5.heap.size := ⟨rfl, rfl, rfl, by simp⟩
  generalize w5.setCell ⟨cb, p, none⟩ (.string ⟨x.toArray⟩) = v1 at *
  have hr1 : Hd (v1.setCell ⟨rb, 2, none⟩ (.int .i64 m1)) rb (tgO cb (f : Nat) m1) := heap_set ((far1 _ hne).trans h1) 2 (.int .i64 m1)
  have far2 : ∀ k, k ≠ rb → (v1.setCell ⟨rb, 2, none⟩ (.int .i64 m1)).heap[k]? = v1.heap[k]? := fun k hk => heap_setCell_other _ ⟨rb, 2, none⟩ k _ hk
  have ho2 : (v1.setCell ⟨rb, 2, none⟩ (.int .i64 m1)).os = v1.os ∧ (v1.setCell ⟨rb, 2, none⟩ (.int .i64 m1)).tape = v1.tape ∧ (v1.setCell ⟨rb, 2, none⟩ (.int .i64 m1)).output = v1.output ∧ (v1.setCell ⟨rb, 2, none⟩ (.int .i64 m1)).heap.size = v1.heap.size := ⟨rfl, rfl, rfl, by simp⟩
  generalize v1.setCell ⟨rb, 2, none⟩ (.int .i64 m1) = v2 at *
  have hring := hr.snoc x hl
  rw [← hp] at hring
  refine ⟨⟨cs.set p x, f, hring, ?_, (far2 _ hne.symm).trans hc1⟩, ⟨?_, ?_, ?_, ?_, fun k hk hS => ?_⟩⟩
  · have e : ((ys ++ [x]).length : Int) = m1 := by rw [hm]; simp
    rw [e]
    exact hr1
  · exact ho2.1.trans (ho1.1.trans hch.os)
  · exact ho2.2.1.trans (ho1.2.1.trans hch.tape)
  · exact ho2.2.2.1.trans (ho1.2.2.1.trans hch.output)
  · have := hch.size; omega
  · exact (far2 _ (fun e => hS (.inl e))).trans ((far1 _ (fun e => hS (.inr e))).trans (hch.block k hk hS))
set_option maxRecDepth 100000 in
set_option maxHeartbeats 4000000 in
theorem addT_any (rb cb : Nat) (xs : List (List UInt8)) (x : List UInt8) (w : World) (h : RgT w rb cb xs) :
    Calls Try.prog 32 #[.pointer (some ⟨rb, 0, none⟩), .string ⟨x.toArray⟩] w fun e w' => (∃ t, e = .returned (.string t)) ∧ RgT w' rb cb (adT xs x) ∧ Ch (fun b => b = rb ∨ b = cb) w w' := by
  have HR0 := Lib.hid h
  obtain ⟨cs0, f0, hr0, h10, h20⟩ := h
  obtain ⟨r0, r1, r2, -⟩ := h10.three
  have hx6 := hr0.l
  clear hr0 h10 h20
  by_cases hfull : xs.length = 6
  · obtain ⟨y, t, rfl⟩ : ∃ y t, xs = y :: t := by
      cases xs with
      | nil => simp at hfull
      | cons y t => exact ⟨y, t, rfl⟩
    rw [hfull] at r2
    have HLY := Lib.hid (show t.length ≤ 5 by simp at hfull; omega)
    have HEA := Lib.hid (show ∀ x, adT (y :: t) x = t ++ [x] from fun x => by unfold adT; rw [if_pos hfull]; rfl)
    have HRM := Lib.hid (fun W h => removeT_any rb cb y t W h)
    clear hfull hx6
    go_enter Try.func32, Try.ntmps32
    go_wp2_with fail
    go_region
    go_wp2_with fail
    refine (HRM.out _ (HR0.out.drew)).mono ?_
    rintro e w5 ⟨rfl, hrg, hch⟩
    have HRG := Lib.hid hrg
    have HCH := Lib.hid (show Ch (fun b => b = rb ∨ b = cb) w w5 from (Ch.of_below (S := fun b => b = rb ∨ b = cb) (Below.drew (Below.refl w.heap.size w))).trans hch)
    clear hrg hch r0 r1 r2
    go_wp2_with fail
    obtain ⟨cs, f, hr, h1, h2⟩ := HRG.out
    obtain ⟨r0, r1, r2, rf⟩ := h1.three
    have hf6 := hr.fl
    obtain ⟨p, hp⟩ : ∃ p, p = (f + t.length) % 6 := ⟨_, rfl⟩
    have hp6 : p < 6 := by omega
    have q0 := strV_cell h2 (show p < cs.length by rw [hr.n]; omega)
    have qf : ∀ o, w5.frozen? ⟨cb, o, none⟩ = false := fun o => frozen_of_row w5 cb o _ _ h2
    have hp1 : ((f : Int) + (t.length : Int)) % 6 = (p : Int) := by omega
    have hp2 : Int.tmod ((f : Int) + (t.length : Int)) 6 = (p : Int) := by rw [Int.tmod_eq_emod_of_nonneg (by omega)]; omega
    have hne1 : rb ≠ cb := tg_ne h1 h2
    have hne2 : cb ≠ rb := hne1.symm
    have hml : t.length ≤ 5 := HLY.out
    have HF := Lib.hid (addT_post (x := x) hr h1 h2 HCH.out hp (by omega) hne1 ((t.length : Int) + 1) rfl)
    clear hr h1 h2 hp
    generalize cs.getD p [] = z at *
    go_region
    go_wp2
    go_ret
    exact ⟨⟨_, rfl⟩, by rw [HEA.out]; exact HF.out.1.drew, HF.out.2.drew⟩
  · have HLY := Lib.hid (show xs.length ≤ 5 by omega)
    have HEA := Lib.hid (show ∀ x, adT xs x = xs ++ [x] from fun x => by unfold adT; rw [if_neg hfull])
    have hc5 : ((xs.length : Int) == 6) = false := by simp; omega
    clear hx6
    go_enter Try.func32, Try.ntmps32
    go_wp2_with fail
    go_region
    have HRG := Lib.hid (HR0.out.drew)
    have HCH := Lib.hid (Ch.of_below (S := fun b => b = rb ∨ b = cb) (Below.drew (Below.refl w.heap.size w)))
    clear r0 r1 r2
    go_wp2_with fail
    generalize w.drew = w5 at *
    obtain ⟨cs, f, hr, h1, h2⟩ := HRG.out
    obtain ⟨r0, r1, r2, rf⟩ := h1.three
    have hf6 := hr.fl
    obtain ⟨p, hp⟩ : ∃ p, p = (f + xs.length) % 6 := ⟨_, rfl⟩
    have hp6 : p < 6 := by omega
    have q0 := strV_cell h2 (show p < cs.length by rw [hr.n]; omega)
    have qf : ∀ o, w5.frozen? ⟨cb, o, none⟩ = false := fun o => frozen_of_row w5 cb o _ _ h2
    have hp1 : ((f : Int) + (xs.length : Int)) % 6 = (p : Int) := by omega
    have hp2 : Int.tmod ((f : Int) + (xs.length : Int)) 6 = (p : Int) := by rw [Int.tmod_eq_emod_of_nonneg (by omega)]; omega
    have hne1 : rb ≠ cb := tg_ne h1 h2
    have hne2 : cb ≠ rb := hne1.symm
    have hml : xs.length ≤ 5 := HLY.out
    have HF := Lib.hid (addT_post (x := x) hr h1 h2 HCH.out hp (by omega) hne1 ((xs.length : Int) + 1) rfl)
    clear hr h1 h2 hp
    generalize cs.getD p [] = z at *
    go_region
    go_wp2
    go_ret
    exact ⟨⟨_, rfl⟩, by rw [HEA.out]; exact HF.out.1.drew, HF.out.2.drew⟩
end Go.Proofs.Ytakiigddbdapaaa.Qu
