
/-
  A violation that is checked: checked, which panics, and partOf, which recovers; the blocked part and the source part, the program's and the model's, walked.
-/
import Derived.Test.YtniflfgnelfpbaaDoorViB
import Derived.Test.YtniflfgnelfpbaaDoorViC
import Derived.Defers
import Derived.Recover
namespace Go.Proofs.YtniflfgnelfpbaaDoor.Vi
open Go.RowKit
open Go.Proofs.YtniflfgnelfpbaaDoor.Ul
/-- the variable errViolation holds an error -/
def ErrV (w : World) : Prop := ∃ u x, w.cell? ⟨0, 0, none⟩ = some (.iface u x)
theorem ErrV.below {w w' : World} (h : ErrV w) (hb : Below w.heap.size w w') : ErrV w' := by
  obtain ⟨u, x, h⟩ := h
  exact ⟨u, x, (hb.cell (p := ⟨0, 0, none⟩) (World.block_lt_of_cell? _ _ h)).trans h⟩
theorem heap_setV {w : World} {b : Nat} {C : Array Value} {T : TypeId} {fr : Nat × Nat} (hb : w.heap[b]? = some (.cells C T fr)) (o : Nat) (v : Value) : (w.setCell ⟨b, o, none⟩ v).heap[b]? = some (.cells (C.setIfInBounds o v) T fr) := by
  simp [World.setCell, Array.getElem?_modify, hb]
theorem VAt.of_heap {w : World} {b : Nat} {v : V} {T : TypeId} (h : w.heap[b]? = some (.cells (vC v) T (0, 0))) : VAt w b v :=
  ⟨cell_of_row w b 0 _ _ _ h, cell_of_row w b 1 _ _ _ h, cell_of_row w b 2 _ _ _ h, cell_of_row w b 3 _ _ _ h, cell_of_row w b 4 _ _ _ h, cell_of_row w b 5 _ _ _ h, cell_of_row w b 6 _ _ _ h, cell_of_row w b 7 _ _ _ h, cell_of_row w b 8 _ _ _ h, fun o => frozen_of_row w b o _ _ h⟩
/-- the nine stores of a violation -/
abbrev set9 (w : World) (g : Nat) (v : V) : World := ((((((((w.setCell ⟨g, 0, none⟩ (.string ⟨v.doc.toArray⟩)).setCell ⟨g, 1, none⟩ (.string ⟨v.ref.toArray⟩)).setCell ⟨g, 2, none⟩ (.string ⟨v.blk.toArray⟩)).setCell ⟨g, 3, none⟩ (.string ⟨v.src.toArray⟩)).setCell ⟨g, 4, none⟩ (.string ⟨v.dir.toArray⟩)).setCell ⟨g, 5, none⟩ (.string ⟨v.smp.toArray⟩)).setCell ⟨g, 6, none⟩ (.int .i64 v.line)).setCell ⟨g, 7, none⟩ (.int .i64 v.col)).setCell ⟨g, 8, none⟩ (.bool v.red)
theorem vAt_set9 {w : World} {g : Nat} {v v0 : V} {T : TypeId} (h : w.heap[g]? = some (.cells (vC v0) T (0, 0))) : VAt (set9 w g v) g v := by
  have k0 := cell_of_row w g 0 _ _ _ h
  have k1 := cell_of_row w g 1 _ _ _ h
  have k2 := cell_of_row w g 2 _ _ _ h
  have k3 := cell_of_row w g 3 _ _ _ h
  have k4 := cell_of_row w g 4 _ _ _ h
  have k5 := cell_of_row w g 5 _ _ _ h
  have k6 := cell_of_row w g 6 _ _ _ h
  have k7 := cell_of_row w g 7 _ _ _ h
  have k8 := cell_of_row w g 8 _ _ _ h
  have kf : ∀ o, w.frozen? ⟨g, o, none⟩ = false := fun o => frozen_of_row w g o _ _ h
  clear h
  refine ⟨?_, ?_, ?_, ?_, ?_, ?_, ?_, ?_, ?_, fun o => ?_⟩ <;> simp [go_sem, *]
theorem ret_vi {fn : Func} {a B : Nat} {tmps : Array Value} {X : World} {v : V} (hres : fn.results = #[.cell a 48]) (ha : tmps[a]?.getD undef = .pointer (some ⟨B, 0, none⟩)) (h : VAt X B v) : (results fn tmps).run Tryd.prog X = .ok (vV v) X := by
  simp [results, hres, ha, go_sem, h.k0, h.k1, h.k2, h.k3, h.k4, h.k5, h.k6, h.k7, h.k8]
set_option maxRecDepth 100000 in
set_option maxHeartbeats 1000000 in
theorem checked_yes (v : V) (hf : Fits v) (w : World) (hok : vOK v = true) : Calls Tryd.prog 39 #[vV v] w fun e w' => e = .returned (vV v) ∧ Below w.heap.size w w' := by
  have HI := Lib.hid (fun W => okI_any v hf W)
  rw [hok] at HI
  have hva := (VAt.newT w v 27).alloc (.cells #[.string ⟨#[]⟩, .string ⟨#[]⟩, .string ⟨#[]⟩, .string ⟨#[]⟩, .string ⟨#[]⟩, .string ⟨#[]⟩, .int .i64 0, .int .i64 0, .bool false] 48) (by simp)
  have hz : w.heap.size < ((w.alloc (.cells (vC v) 27)).alloc (.cells #[.string ⟨#[]⟩, .string ⟨#[]⟩, .string ⟨#[]⟩, .string ⟨#[]⟩, .string ⟨#[]⟩, .string ⟨#[]⟩, .int .i64 0, .int .i64 0, .bool false] 48)).heap.size := by simp; omega
  have HVA := Lib.hid (fun w1 hb => VAt.below (w1 := w1) hva hb hz)
  have HZ := Lib.hid (fun (w1 : World) (hb : Below ((w.alloc (.cells (vC v) 27)).alloc (.cells #[.string ⟨#[]⟩, .string ⟨#[]⟩, .string ⟨#[]⟩, .string ⟨#[]⟩, .string ⟨#[]⟩, .string ⟨#[]⟩, .int .i64 0, .int .i64 0, .bool false] 48)).heap.size ((w.alloc (.cells (vC v) 27)).alloc (.cells #[.string ⟨#[]⟩, .string ⟨#[]⟩, .string ⟨#[]⟩, .string ⟨#[]⟩, .string ⟨#[]⟩, .string ⟨#[]⟩, .int .i64 0, .int .i64 0, .bool false] 48)) w1) => (hb.block (w.heap.size + 1) (by simp)).trans (heap_alloc2_new _ _ _))
  clear hok hf hva hz
  obtain ⟨d, rf, b, s, di, sm, l, c, re⟩ := v
  simp only [vV, vC] at HI HVA HZ
  go_enter Tryd.func39, Tryd.ntmps39
  go_wp2_with fail
  refine (HI.out _).mono ?_
  rintro e w1 ⟨rfl, hb⟩
  have hc := bcellI hb
  have hfr := bfrozI hb
  obtain ⟨k0, k1, k2, k3, k4, k5, k6, k7, k8, -⟩ := HVA.out w1 hb
  go_wp2
  exact bodyPost_ret (ret_vi Tryd.results39 rfl (vAt_set9 (v := ⟨d, rf, b, s, di, sm, l, c, re⟩) (v0 := ⟨[], [], [], [], [], [], 0, 0, false⟩) (HZ.out w1 hb))) rfl ⟨rfl, (by repeat (first | (with_reducible exact Below.refl _ _) | (with_reducible refine belI_set ?_ (by first | exact Nat.le_refl _ | simp)) | (with_reducible refine belI_alloc ?_) | (with_reducible refine Below.drew ?_) | (with_reducible refine belI_drewN ?_ _) | (with_reducible refine belI_step ?_ (by assumption))))⟩
set_option maxRecDepth 100000 in
set_option maxHeartbeats 1000000 in
theorem checked_no (v : V) (hf : Fits v) (w : World) (hok : vOK v = false) (u : TypeId) (x : Value) (hcell : w.cell? ⟨0, 0, none⟩ = some (.iface u x)) : Calls Tryd.prog 39 #[vV v] w fun e w' => e = .panicked [{ v := .iface u x, recovered := false }] ∧ Below w.heap.size w w' := by
  have HI := Lib.hid (fun W => okI_any v hf W)
  rw [hok] at HI
  have hlt := World.block_lt_of_cell? _ _ hcell
  have HC := Lib.hid hcell
  clear hok hf hcell
  obtain ⟨d, rf, b, s, di, sm, l, c, re⟩ := v
  simp only [vV] at HI
  go_enter Tryd.func39, Tryd.ntmps39
  go_wp2_with fail
  refine (HI.out _).mono ?_
  rintro e w1 ⟨rfl, hb⟩
  have HD := Lib.hid (belI_step (belI_alloc (belI_alloc (Below.refl w.heap.size w))) hb)
  have hg : w1.cell? ⟨0, 0, none⟩ = some (.iface u x) := (HD.out.cell (p := ⟨0, 0, none⟩) hlt).trans HC.out
  clear hb
  go_wp2
  exact ⟨rfl, rfl, HD.out⟩
theorem catch_panicking (p : Addr) (n : Int) (u : TypeId) (pv : Value) (older : List PanicEntry) (w : World) (hc : w.cell? p = some (.int .i64 n)) (hz : w.frozen? p = false) :
    CallsD Tryd.prog 38 #[.pointer (some p)] (.panicking ({ v := .iface u pv, recovered := false } :: older)) w fun e u' w' =>
      e = .returned (.tuple #[]) ∧ u' = .panicking ({ v := .iface u pv, recovered := true } :: older) ∧ w' = w.setCell p (.int .i64 1) := by
  refine callsD_of_wpS Tryd.func38 rfl fun c₀ cs hu => ?_
  apply wpS_seq
  apply wpS_region
  simp [wpOpsS, go_sem, recoverD, hu, Tryd.ntmps38, Exit.thenS]
  refine wpS_cond (t := true) (by simp [Act.eval, Array.replicate]) ?_
  simp only [if_true]
  apply wpS_region
  simp [wpOpsS, go_sem, hc, hz, bodyPostS, results, Tryd.results38]
theorem catch_idle (p : Addr) (w : World) :
    CallsD Tryd.prog 38 #[.pointer (some p)] .returning w fun e u' w' => e = .returned (.tuple #[]) ∧ u' = .returning ∧ w' = w := by
  refine callsD_of_wpS Tryd.func38 rfl fun c₀ cs hu => ?_
  apply wpS_seq
  apply wpS_region
  simp [wpOpsS, go_sem, recoverD, hu, Tryd.ntmps38, Exit.thenS]
  refine wpS_cond (t := false) (by simp [Act.eval, Array.replicate]) ?_
  simp only [Bool.false_eq_true, if_false]
  refine wpS_of_wp (wp_skip ?_)
  cases c₀
  simp_all [bodyPostS, results, Tryd.results38]
def partL (v : V) (r : List UInt8) : List UInt8 := if vOK v then r else []
def partC (v : V) : Int := if vOK v then 0 else 1
set_option maxRecDepth 100000 in
set_option maxHeartbeats 1000000 in
theorem part_no (F : FuncId) (v : V) (hf : Fits v) (w : World) (hok : vOK v = false) (hE : ErrV w) : Calls Tryd.prog 19 #[vV v, .func (.func F) #[] #[]] w fun e w' => e = .returned (.tuple #[.string ⟨#[]⟩, .int .i64 1]) ∧ Below w.heap.size w w' := by
  obtain ⟨u, x, hcell⟩ := hE
  have hlt := World.block_lt_of_cell? _ _ hcell
  have hmf : ∀ (fn : Fn) (first cap : Array Value) (w : World), (Instr.makeFunc fn first cap).run Tryd.prog w = .ok (.func fn first cap) w := fun _ _ _ _ => rfl
  have HCH := Lib.hid (fun W hc => checked_no v hf W hok u x hc)
  have HC := Lib.hid (show ((w.alloc (.cells (vC v) 27)).alloc (.cells #[.int .i64 0] 3)).cell? ⟨0, 0, none⟩ = some (.iface u x) by rw [World.cell?_alloc_past _ _ _ (Nat.lt_of_lt_of_le hlt (by simp)), World.cell?_alloc_past _ _ _ hlt]; exact hcell)
  have HK := Lib.hid (heap_alloc2_new w (.cells (vC v) 27) (.cells #[.int .i64 0] 3))
  clear hok hf hcell
  obtain ⟨d, rf, b, s, di, sm, l, c, re⟩ := v
  simp only [vV, vC] at HCH HC HK
  go_enter_defers Tryd.func19, Tryd.ntmps19
  go_wp2_with fail
  refine (HCH.out _ HC.out).mono ?_
  rintro e w1 ⟨rfl, hb⟩
  have hk := (hb.block (w.heap.size + 1) (by simp)).trans HK.out
  have k0 : w1.cell? ⟨w.heap.size + 1, 0, none⟩ = some (.int .i64 0) := cell_of_row w1 _ 0 _ _ _ hk
  have kf : w1.frozen? ⟨w.heap.size + 1, 0, none⟩ = false := frozen_of_row w1 _ 0 _ _ hk
  have HD := Lib.hid (belI_step (belI_alloc (belI_alloc (Below.refl w.heap.size w))) hb)
  clear hb hk
  go_wp2
  refine leaves_cons (f := 38) (args := #[.pointer (some ⟨w.heap.size + 1, 0, none⟩)]) (by simp) (by simp [go_sem]) ?_
  refine (catch_panicking ⟨w.heap.size + 1, 0, none⟩ 0 u x [] _ k0 kf).mono ?_
  rintro e u' w'' ⟨rfl, rfl, rfl⟩
  have kk := World.cell?_setCell_same w1 ⟨w.heap.size + 1, 0, none⟩ (.int .i64 1) k0
  have HE := Lib.hid (HD.out.setCell (p := ⟨w.heap.size + 1, 0, none⟩) (by simp) (.int .i64 1))
  simp [Leaves, settle, results, Tryd.results19, go_sem, kk]
  exact HE.out
set_option maxRecDepth 100000 in
set_option maxHeartbeats 1000000 in
theorem part_yesB (v : V) (hf : Fits v) (r : List UInt8) (w : World) (hok : vOK v = true) (hp : ∀ W, Below w.heap.size w W → Calls Tryd.prog 20 #[vV v] W fun e w' => e = .returned (.string ⟨r.toArray⟩) ∧ Below W.heap.size W w') : Calls Tryd.prog 19 #[vV v, .func (.func 20) #[] #[]] w fun e w' => e = .returned (.tuple #[.string ⟨r.toArray⟩, .int .i64 0]) ∧ Below w.heap.size w w' := by
  have hmf : ∀ (fn : Fn) (first cap : Array Value) (w : World), (Instr.makeFunc fn first cap).run Tryd.prog w = .ok (.func fn first cap) w := fun _ _ _ _ => rfl
  have HCH := Lib.hid (fun W => checked_yes v hf W hok)
  have HP := Lib.hid hp
  have HK := Lib.hid (heap_alloc2_new w (.cells (vC v) 27) (.cells #[.int .i64 0] 3))
  clear hok hf hp
  obtain ⟨d, rf, b, s, di, sm, l, c, re⟩ := v
  simp only [vV, vC] at HCH HK HP
  go_enter_defers Tryd.func19, Tryd.ntmps19
  go_wp2_with fail
  refine (HCH.out _).mono ?_
  rintro e w1 ⟨rfl, hb⟩
  have HK1 := Lib.hid ((hb.block (w.heap.size + 1) (by simp)).trans HK.out)
  have HZ1 := Lib.hid (show w.heap.size + 1 < w1.heap.size by have := hb.size; simp at this; omega)
  have HD := Lib.hid (belI_step (belI_alloc (belI_alloc (Below.refl w.heap.size w))) hb)
  clear hb
  go_wp2_with fail
  refine (HP.out _ HD.out).mono ?_
  rintro e w2 ⟨rfl, hb⟩
  have hk := (hb.block (w.heap.size + 1) HZ1.out).trans HK1.out
  have k0 : w2.cell? ⟨w.heap.size + 1, 0, none⟩ = some (.int .i64 0) := cell_of_row w2 _ 0 _ _ _ hk
  have kf : w2.frozen? ⟨w.heap.size + 1, 0, none⟩ = false := frozen_of_row w2 _ 0 _ _ hk
  have HD2 := Lib.hid (belI_step HD.out hb)
  clear hb hk
  go_wp2
  refine leaves_cons (f := 38) (args := #[.pointer (some ⟨w.heap.size + 1, 0, none⟩)]) (by simp) (by simp [go_sem]) ?_
  refine (catch_idle ⟨w.heap.size + 1, 0, none⟩ _).mono ?_
  rintro e u' w'' ⟨rfl, rfl, rfl⟩
  have kk := World.cell?_setCell_same w2 ⟨w.heap.size + 1, 0, none⟩ (.int .i64 0) k0
  have HE := Lib.hid (HD2.out.setCell (p := ⟨w.heap.size + 1, 0, none⟩) (by simp) (.int .i64 0))
  simp [Leaves, settle, results, Tryd.results19, go_sem, kk]
  exact HE.out
set_option maxRecDepth 100000 in
set_option maxHeartbeats 1000000 in
theorem part_yesS (v : V) (hf : Fits v) (r : List UInt8) (w : World) (hok : vOK v = true) (hp : ∀ W, Below w.heap.size w W → Calls Tryd.prog 22 #[vV v] W fun e w' => e = .returned (.string ⟨r.toArray⟩) ∧ Below W.heap.size W w') : Calls Tryd.prog 19 #[vV v, .func (.func 22) #[] #[]] w fun e w' => e = .returned (.tuple #[.string ⟨r.toArray⟩, .int .i64 0]) ∧ Below w.heap.size w w' := by
  have hmf : ∀ (fn : Fn) (first cap : Array Value) (w : World), (Instr.makeFunc fn first cap).run Tryd.prog w = .ok (.func fn first cap) w := fun _ _ _ _ => rfl
  have HCH := Lib.hid (fun W => checked_yes v hf W hok)
  have HP := Lib.hid hp
  have HK := Lib.hid (heap_alloc2_new w (.cells (vC v) 27) (.cells #[.int .i64 0] 3))
  clear hok hf hp
  obtain ⟨d, rf, b, s, di, sm, l, c, re⟩ := v
  simp only [vV, vC] at HCH HK HP
  go_enter_defers Tryd.func19, Tryd.ntmps19
  go_wp2_with fail
  refine (HCH.out _).mono ?_
  rintro e w1 ⟨rfl, hb⟩
  have HK1 := Lib.hid ((hb.block (w.heap.size + 1) (by simp)).trans HK.out)
  have HZ1 := Lib.hid (show w.heap.size + 1 < w1.heap.size by have := hb.size; simp at this; omega)
  have HD := Lib.hid (belI_step (belI_alloc (belI_alloc (Below.refl w.heap.size w))) hb)
  clear hb
  go_wp2_with fail
  refine (HP.out _ HD.out).mono ?_
  rintro e w2 ⟨rfl, hb⟩
  have hk := (hb.block (w.heap.size + 1) HZ1.out).trans HK1.out
  have k0 : w2.cell? ⟨w.heap.size + 1, 0, none⟩ = some (.int .i64 0) := cell_of_row w2 _ 0 _ _ _ hk
  have kf : w2.frozen? ⟨w.heap.size + 1, 0, none⟩ = false := frozen_of_row w2 _ 0 _ _ hk
  have HD2 := Lib.hid (belI_step HD.out hb)
  clear hb hk
  go_wp2
  refine leaves_cons (f := 38) (args := #[.pointer (some ⟨w.heap.size + 1, 0, none⟩)]) (by simp) (by simp [go_sem]) ?_
  refine (catch_idle ⟨w.heap.size + 1, 0, none⟩ _).mono ?_
  rintro e u' w'' ⟨rfl, rfl, rfl⟩
  have kk := World.cell?_setCell_same w2 ⟨w.heap.size + 1, 0, none⟩ (.int .i64 0) k0
  have HE := Lib.hid (HD2.out.setCell (p := ⟨w.heap.size + 1, 0, none⟩) (by simp) (.int .i64 0))
  simp [Leaves, settle, results, Tryd.results19, go_sem, kk]
  exact HE.out
end Go.Proofs.YtniflfgnelfpbaaDoor.Vi
