
/-
  Events plainly, as an argument of the laws, their size and their copy. (Made by eva.py.)
-/
import Derived.Test.YtbkikbhnehjaaaaViC
import Derived.Deep.OwnRows
import Derived.Laws.Rows
namespace Go.Proofs.Ytbkikbhnehjaaaa.Ev
open Go.RowKit
open Go.Proofs.Ytbkikbhnehjaaaa.Vi
open Go.ChangeShapes Go.WideShapes Go.ChangeAt
structure Ev where
  kind : Int
  draw : Int
  st : Int
  ticks : Int
  text : List UInt8
  name : List UInt8
  v : V
  lost : Bool
abbrev eV (e : Ev) : Value := .agg #[.int .i64 e.kind, .int .i64 e.draw, .int .i64 e.st, .int .i64 e.ticks, .string ⟨e.text.toArray⟩, .string ⟨e.name.toArray⟩, .string ⟨e.v.doc.toArray⟩, .string ⟨e.v.ref.toArray⟩, .string ⟨e.v.blk.toArray⟩, .string ⟨e.v.src.toArray⟩, .string ⟨e.v.dir.toArray⟩, .string ⟨e.v.smp.toArray⟩, .int .i64 e.v.line, .int .i64 e.v.col, .bool e.v.red, .bool e.lost]
structure FitsE (e : Ev) : Prop where
  t : e.text.length ≤ 9223372036854775807
  n : e.name.length ≤ 9223372036854775807
  v : Fits e.v
def sizeE (e : Ev) : Nat := e.text.length + (e.name.length + sizeV e.v)
theorem list8 {α : Type} {l : List α} (h : l.length = 8) : ∃ a b c d e f g i, l = [a, b, c, d, e, f, g, i] := by
  match l, h with
  | [a, b, c, d, e, f, g, i], _ => exact ⟨a, b, c, d, e, f, g, i, rfl⟩
theorem list16 {α : Type} {l : List α} (h : l.length = 16) : ∃ a0 a1 a2 a3 a4 a5 a6 a7 a8 a9 a10 a11 a12 a13 a14 a15, l = [a0, a1, a2, a3, a4, a5, a6, a7, a8, a9, a10, a11, a12, a13, a14, a15] := by
  match l, h with
  | [a0, a1, a2, a3, a4, a5, a6, a7, a8, a9, a10, a11, a12, a13, a14, a15], _ => exact ⟨a0, a1, a2, a3, a4, a5, a6, a7, a8, a9, a10, a11, a12, a13, a14, a15, rfl⟩
theorem cellsEv : Try.prog.cellsOf 25 = 16 := by kernel_rfl
section
variable {H : Type} {enc : TypeId × Value → H} {w : World} {base : Nat} {spare : Nat → Bool} {held : Bool}
set_option maxRecDepth 100000 in
theorem open_ev {r : Reach} {b0 : Nat} {v : Value} {d : DataW H} {p : List MemPlace} (hv : Value.okWide Try.prog w r b0 25 v) (h : DataW.Trod enc Try.prog w base spare held 25 v d p) :
    ∃ x : Ev, v = eV x ∧ FitsE x := by
  obtain ⟨cs, rfl, hsz⟩ := okWide_struct Try.underlying25 hv
  obtain ⟨fuel, hf⟩ := h
  obtain ⟨xs, n, _, _, _, hlen, hfs⟩ := DataW.trod_struct Try.underlying25 hf
  rw [cellsEv] at hsz
  have hl : cs.toList.length = 16 := by simpa using hsz
  obtain ⟨c0, c1, c2, c3, c4, c5, c6, c7, c8, c9, c10, c11, c12, c13, c14, c15, hcs⟩ := list16 hl
  have hxl : xs.length = 8 := hlen
  obtain ⟨x0, x1, x2, x3, x4, x5, x6, x7, rfl⟩ := list8 hxl
  have e : cs = #[c0, c1, c2, c3, c4, c5, c6, c7, c8, c9, c10, c11, c12, c13, c14, c15] := by rw [← Array.toArray_toList (xs := cs), hcs]
  subst e
  have g0 := hfs 0 _ rfl
  have g1 := hfs 1 _ rfl
  have g2 := hfs 2 _ rfl
  have g3 := hfs 3 _ rfl
  have g4 := hfs 4 _ rfl
  have g5 := hfs 5 _ rfl
  have g6 := hfs 6 _ rfl
  have g7 := hfs 7 _ rfl
  simp [Value.cells, cellsStr, cellsInt, cellsBool, cellsVi] at g0 g1 g2 g3 g4 g5 g6 g7
  obtain ⟨zs, n2, _, _, _, hzl, hz⟩ := DataW.trod_struct Try.underlying23 g6
  have hzl' : zs.length = 9 := hzl
  obtain ⟨z0, z1, z2, z3, z4, z5, z6, z7, z8, rfl⟩ := list9 hzl'
  have k0 := hz 0 _ rfl
  have k1 := hz 1 _ rfl
  have k2 := hz 2 _ rfl
  have k3 := hz 3 _ rfl
  have k4 := hz 4 _ rfl
  have k5 := hz 5 _ rfl
  have k6 := hz 6 _ rfl
  have k7 := hz 7 _ rfl
  have k8 := hz 8 _ rfl
  simp [cellsStr, cellsInt, cellsBool] at k0 k1 k2 k3 k4 k5 k6 k7 k8
  obtain ⟨i0, a0, -, -⟩ := DataW.trod_int Try.underlying3 g0
  obtain ⟨i1, a1, -, -⟩ := DataW.trod_int Try.underlying3 g1
  obtain ⟨i2, a2, -, -⟩ := DataW.trod_int Try.underlying3 g2
  obtain ⟨i3, a3, -, -⟩ := DataW.trod_int Try.underlying3 g3
  obtain ⟨s4, a4, -, b4⟩ := DataW.trod_string Try.underlying9 g4
  obtain ⟨s5, a5, -, b5⟩ := DataW.trod_string Try.underlying9 g5
  obtain ⟨t7, a7, -⟩ := DataW.trod_bool Try.underlying4 g7
  obtain ⟨s0, e0, -, b0'⟩ := DataW.trod_string Try.underlying9 k0
  obtain ⟨s1, e1, -, b1'⟩ := DataW.trod_string Try.underlying9 k1
  obtain ⟨s2, e2, -, b2'⟩ := DataW.trod_string Try.underlying9 k2
  obtain ⟨s3, e3, -, b3'⟩ := DataW.trod_string Try.underlying9 k3
  obtain ⟨s4', e4, -, b4'⟩ := DataW.trod_string Try.underlying9 k4
  obtain ⟨s5', e5, -, b5'⟩ := DataW.trod_string Try.underlying9 k5
  obtain ⟨n6, e6, -, b6'⟩ := DataW.trod_int Try.underlying3 k6
  obtain ⟨n7, e7, -, b7'⟩ := DataW.trod_int Try.underlying3 k7
  obtain ⟨t8, e8, -⟩ := DataW.trod_bool Try.underlying4 k8
  simp only [List.cons.injEq, and_true] at a0 a1 a2 a3 a4 a5 a7 e0 e1 e2 e3 e4 e5 e6 e7 e8
  subst a0 a1 a2 a3 a4 a5 a7 e0 e1 e2 e3 e4 e5 e6 e7 e8
  have bd6 := bounds_i64 b6'
  have bd7 := bounds_i64 b7'
  exact ⟨⟨i0, i1, i2, i3, s4.data.toList, s5.data.toList, ⟨s0.data.toList, s1.data.toList, s2.data.toList, s3.data.toList, s4'.data.toList, s5'.data.toList, n6, n7, t8⟩, t7⟩, rfl, len_of b4, len_of b5, len_of b0', len_of b1', len_of b2', len_of b3', len_of b4', len_of b5', bd6.1, bd6.2, bd7.1, bd7.2⟩
end
theorem ret_n {a b : Int} (h : a = b) : Ending.returned (.int .i64 a) = .returned (.int .i64 b) := by rw [h]
/-- what a walk of the laws' size tells -/
def szN (L : Int) (s : Nat) : Int := if (s : Int) ≤ L then L - s else -1
set_option maxRecDepth 100000 in
set_option maxHeartbeats 2000000 in
theorem szE_any (x : Ev) (hf : FitsE x) (w : World) :
    Calls Try.prog 4 #[eV x, .int .i64 1048576] w fun e w' => e = .returned (.int .i64 (szN 1048576 (sizeE x))) ∧ Below w.heap.size w w' := by
  obtain ⟨k, dr, st, ti, tx, nm, v, lo⟩ := x
  obtain ⟨f1, f2, f3⟩ := hf
  simp only at f1 f2 f3
  have HB := Lib.hid ((Below.refl w.heap.size w).alloc (Nat.le_refl _) (.cells #[.int .i64 k, .int .i64 dr, .int .i64 st, .int .i64 ti, .string ⟨tx.toArray⟩, .string ⟨nm.toArray⟩, .string ⟨v.doc.toArray⟩, .string ⟨v.ref.toArray⟩, .string ⟨v.blk.toArray⟩, .string ⟨v.src.toArray⟩, .string ⟨v.dir.toArray⟩, .string ⟨v.smp.toArray⟩, .int .i64 v.line, .int .i64 v.col, .bool v.red, .bool lo] 25))
  have EZ := Lib.hid (show sizeE ⟨k, dr, st, ti, tx, nm, v, lo⟩ = tx.length + (nm.length + sizeV v) from rfl)
  by_cases h1 : (tx.length : Int) ≤ 1048576
  · by_cases h2 : (nm.length : Int) ≤ 1048576 - (tx.length : Int)
    · by_cases h3 : (sizeV v : Int) ≤ 1048576 - (tx.length : Int) - (nm.length : Int)
      · have HV := Lib.hid (fun W => szV_in v (1048576 - (tx.length : Int) - (nm.length : Int)) W (by omega) (by omega) h3)
        have G := Lib.hid (show szN 1048576 (sizeE ⟨k, dr, st, ti, tx, nm, v, lo⟩) = 1048576 - (tx.length : Int) - (nm.length : Int) - (sizeV v : Int) by unfold szN; rw [EZ.out, if_pos (by omega)]; omega)
        have g3 : ¬ (1048576 - (tx.length : Int) - (nm.length : Int) - (sizeV v : Int) < 0) := by omega
        clear h3
        go_enter Try.func4, Try.ntmps4
        go_wp2_with fail
        refine (HV.out _).mono ?_
        rintro e w1 ⟨rfl, hb⟩
        have HD := Lib.hid (belI_step HB.out hb)
        clear hb
        go_wp2
        go_ret
        exact ⟨ret_n G.out.symm, HD.out⟩
      · have HV := Lib.hid (fun W => szV_out v (1048576 - (tx.length : Int) - (nm.length : Int)) W (by omega) (by omega) (by omega) f3)
        have G := Lib.hid (show szN 1048576 (sizeE ⟨k, dr, st, ti, tx, nm, v, lo⟩) = -1 by unfold szN; rw [EZ.out, if_neg (by omega)])
        clear h3
        go_enter Try.func4, Try.ntmps4
        go_wp2_with fail
        refine (HV.out _).mono ?_
        rintro e w1 ⟨rfl, hb⟩
        have HD := Lib.hid (belI_step HB.out hb)
        clear hb
        go_wp2
        go_ret
        exact ⟨ret_n G.out.symm, HD.out⟩
    · have G := Lib.hid (show szN 1048576 (sizeE ⟨k, dr, st, ti, tx, nm, v, lo⟩) = -1 by unfold szN; rw [EZ.out, if_neg (by omega)])
      have g2 : 1048576 - (tx.length : Int) - (nm.length : Int) < 0 := by omega
      go_enter Try.func4, Try.ntmps4
      go_wp2
      go_ret
      exact ⟨ret_n G.out.symm, HB.out⟩
  · have G := Lib.hid (show szN 1048576 (sizeE ⟨k, dr, st, ti, tx, nm, v, lo⟩) = -1 by unfold szN; rw [EZ.out, if_neg (by omega)])
    have g2 : 1048576 - (tx.length : Int) < 0 := by omega
    go_enter Try.func4, Try.ntmps4
    go_wp2
    go_ret
    exact ⟨ret_n G.out.symm, HB.out⟩
/-! ### the copy -/
def Hd (w : World) (b : Nat) (o : Obj) : Prop := w.heap[b]? = some o
theorem Hd.lt {w : World} {b : Nat} {o : Obj} (h : Hd w b o) : b < w.heap.size := (Array.getElem?_eq_some_iff.1 h).1
theorem Hd.blw {w w' : World} {b : Nat} {o : Obj} (h : Hd w b o) (hb : Below w.heap.size w w') : Hd w' b o := (hb.block b h.lt).trans h
theorem Hd.al {w : World} {b : Nat} {o : Obj} (h : Hd w b o) (x : Obj) : Hd (w.alloc x) b o := (heap_alloc_old _ _ h.lt).trans h
theorem Hd.new (w : World) (o : Obj) : Hd (w.alloc o) w.heap.size o := heap_alloc_new _ _
theorem Hd.setAt {w : World} {b : Nat} {C : Array Value} {T : TypeId} (h : Hd w b (.cells C T)) (i : Nat) (v : Value) : Hd (w.setCell ⟨b, i, none⟩ v) b (.cells (C.setIfInBounds i v) T) := by
  unfold Hd at h ⊢
  simp [World.setCell, Array.getElem?_modify, h]
theorem Hd.farAt {w : World} {b g : Nat} {o : Obj} (h : Hd w b o) (i : Nat) (v : Value) (hne : b ≠ g) : Hd (w.setCell ⟨g, i, none⟩ v) b o := (heap_setCell_other _ ⟨g, i, none⟩ b v hne).trans h
structure TC (T : TypeId) (W w : World) (rc oc : Array Value) : Prop where
  r : Hd w (W.heap.size + 1) (.cells rc T)
  o : Hd w (W.heap.size + 1 + 1) (.cells oc T)
  b : Below W.heap.size W w
theorem TC.start (T : TypeId) (W : World) (p : Obj) (rc oc : Array Value) : TC T W (((W.alloc p).alloc (.cells rc T)).alloc (.cells oc T)) rc oc :=
  ⟨by have := (Hd.new (W.alloc p) (.cells rc T)).al (.cells oc T); simpa using this, by have := Hd.new ((W.alloc p).alloc (.cells rc T)) (.cells oc T); simpa using this, (((Below.refl _ _).alloc (Nat.le_refl _) _).alloc (by simp) _).alloc (by simp; omega) _⟩
theorem TC.blw {T : TypeId} {W w w' : World} {rc oc : Array Value} (h : TC T W w rc oc) (hb : Below w.heap.size w w') : TC T W w' rc oc := ⟨h.r.blw hb, h.o.blw hb, h.b.trans (hb.mono h.b.size)⟩
theorem TC.set {T : TypeId} {W w : World} {rc oc : Array Value} (h : TC T W w rc oc) (i : Nat) (v : Value) : TC T W (w.setCell ⟨W.heap.size + 1 + 1, i, none⟩ v) rc (oc.setIfInBounds i v) :=
  ⟨Hd.farAt h.r i v (by omega), Hd.setAt h.o i v, h.b.setCell (by simp; omega) _⟩
theorem TC.setr {T : TypeId} {W w : World} {rc oc : Array Value} (h : TC T W w rc oc) (i : Nat) (v : Value) : TC T W (w.setCell ⟨W.heap.size + 1, i, none⟩ v) (rc.setIfInBounds i v) oc :=
  ⟨Hd.setAt h.r i v, Hd.farAt h.o i v (by omega), h.b.setCell (by simp) _⟩
theorem ret_Ev {fn : Func} {a B : Nat} {tmps : Array Value} {X : World} {c0 c1 c2 c3 c4 c5 c6 c7 c8 c9 c10 c11 c12 c13 c14 c15 : Value} {T : TypeId} (hres : fn.results = #[.cell a 30]) (ha : tmps[a]?.getD undef = .pointer (some ⟨B, 0, none⟩)) (h : Hd X B (.cells #[c0, c1, c2, c3, c4, c5, c6, c7, c8, c9, c10, c11, c12, c13, c14, c15] T)) :
    (results fn tmps).run Try.prog X = .ok (.agg #[c0, c1, c2, c3, c4, c5, c6, c7, c8, c9, c10, c11, c12, c13, c14, c15]) X := by
  have k0 := cell_of_row X B 0 _ _ _ h
  have k1 := cell_of_row X B 1 _ _ _ h
  have k2 := cell_of_row X B 2 _ _ _ h
  have k3 := cell_of_row X B 3 _ _ _ h
  have k4 := cell_of_row X B 4 _ _ _ h
  have k5 := cell_of_row X B 5 _ _ _ h
  have k6 := cell_of_row X B 6 _ _ _ h
  have k7 := cell_of_row X B 7 _ _ _ h
  have k8 := cell_of_row X B 8 _ _ _ h
  have k9 := cell_of_row X B 9 _ _ _ h
  have k10 := cell_of_row X B 10 _ _ _ h
  have k11 := cell_of_row X B 11 _ _ _ h
  have k12 := cell_of_row X B 12 _ _ _ h
  have k13 := cell_of_row X B 13 _ _ _ h
  have k14 := cell_of_row X B 14 _ _ _ h
  have k15 := cell_of_row X B 15 _ _ _ h
  simp [results, hres, ha, go_sem, k0, k1, k2, k3, k4, k5, k6, k7, k8, k9, k10, k11, k12, k13, k14, k15]
set_option maxRecDepth 100000 in
set_option maxHeartbeats 4000000 in
theorem toE_any (x : Ev) (W : World) : Calls Try.prog 6 #[eV x] W fun e w' => e = .returned (eV x) ∧ Below W.heap.size W w' := by
  obtain ⟨k, dr, st, ti, tx, nm, ⟨d, r, b, s, di, sm, l, c, re⟩, lo⟩ := x
  have HV := Lib.hid (fun W' => toV_any ⟨d, r, b, s, di, sm, l, c, re⟩ W')
  go_enter Try.func6, Try.ntmps6
  go_wp2_with fail
  obtain ⟨x0, hx⟩ : ∃ x, x = ((W.alloc (.cells #[.int .i64 k, .int .i64 dr, .int .i64 st, .int .i64 ti, .string ⟨tx.toArray⟩, .string ⟨nm.toArray⟩, .string ⟨d.toArray⟩, .string ⟨r.toArray⟩, .string ⟨b.toArray⟩, .string ⟨s.toArray⟩, .string ⟨di.toArray⟩, .string ⟨sm.toArray⟩, .int .i64 l, .int .i64 c, .bool re, .bool lo] 25)).alloc (.cells #[.int .i64 0, .int .i64 0, .int .i64 0, .int .i64 0, .string ⟨#[]⟩, .string ⟨#[]⟩, .string ⟨#[]⟩, .string ⟨#[]⟩, .string ⟨#[]⟩, .string ⟨#[]⟩, .string ⟨#[]⟩, .string ⟨#[]⟩, .int .i64 0, .int .i64 0, .bool false, .bool false] 30)).alloc (.cells #[.int .i64 k, .int .i64 dr, .int .i64 st, .int .i64 ti, .string ⟨tx.toArray⟩, .string ⟨nm.toArray⟩, .string ⟨#[]⟩, .string ⟨#[]⟩, .string ⟨#[]⟩, .string ⟨#[]⟩, .string ⟨#[]⟩, .string ⟨#[]⟩, .int .i64 0, .int .i64 0, .bool false, .bool false] 30) := ⟨_, rfl⟩
  have T0 := Lib.hid (show TC 30 W x0 #[.int .i64 0, .int .i64 0, .int .i64 0, .int .i64 0, .string ⟨#[]⟩, .string ⟨#[]⟩, .string ⟨#[]⟩, .string ⟨#[]⟩, .string ⟨#[]⟩, .string ⟨#[]⟩, .string ⟨#[]⟩, .string ⟨#[]⟩, .int .i64 0, .int .i64 0, .bool false, .bool false] #[.int .i64 k, .int .i64 dr, .int .i64 st, .int .i64 ti, .string ⟨tx.toArray⟩, .string ⟨nm.toArray⟩, .string ⟨#[]⟩, .string ⟨#[]⟩, .string ⟨#[]⟩, .string ⟨#[]⟩, .string ⟨#[]⟩, .string ⟨#[]⟩, .int .i64 0, .int .i64 0, .bool false, .bool false] by rw [hx]; exact TC.start 30 W _ #[.int .i64 0, .int .i64 0, .int .i64 0, .int .i64 0, .string ⟨#[]⟩, .string ⟨#[]⟩, .string ⟨#[]⟩, .string ⟨#[]⟩, .string ⟨#[]⟩, .string ⟨#[]⟩, .string ⟨#[]⟩, .string ⟨#[]⟩, .int .i64 0, .int .i64 0, .bool false, .bool false] #[.int .i64 k, .int .i64 dr, .int .i64 st, .int .i64 ti, .string ⟨tx.toArray⟩, .string ⟨nm.toArray⟩, .string ⟨#[]⟩, .string ⟨#[]⟩, .string ⟨#[]⟩, .string ⟨#[]⟩, .string ⟨#[]⟩, .string ⟨#[]⟩, .int .i64 0, .int .i64 0, .bool false, .bool false])
  have hp := Lib.hid (show Hd x0 W.heap.size (.cells #[.int .i64 k, .int .i64 dr, .int .i64 st, .int .i64 ti, .string ⟨tx.toArray⟩, .string ⟨nm.toArray⟩, .string ⟨d.toArray⟩, .string ⟨r.toArray⟩, .string ⟨b.toArray⟩, .string ⟨s.toArray⟩, .string ⟨di.toArray⟩, .string ⟨sm.toArray⟩, .int .i64 l, .int .i64 c, .bool re, .bool lo] 25) by rw [hx]; exact ((Hd.new W (.cells #[.int .i64 k, .int .i64 dr, .int .i64 st, .int .i64 ti, .string ⟨tx.toArray⟩, .string ⟨nm.toArray⟩, .string ⟨d.toArray⟩, .string ⟨r.toArray⟩, .string ⟨b.toArray⟩, .string ⟨s.toArray⟩, .string ⟨di.toArray⟩, .string ⟨sm.toArray⟩, .int .i64 l, .int .i64 c, .bool re, .bool lo] 25)).al _).al _)
  rw [← hx]
  clear hx
  refine (HV.out x0).mono ?_
  rintro e y0 ⟨rfl, hb2⟩
  have U := T0.out.blw hb2
  have kp := hp.out.blw hb2
  have kr := U.r
  have ko := U.o
  have mp0 := cell_of_row y0 W.heap.size 0 _ _ _ kp
  have mp1 := cell_of_row y0 W.heap.size 1 _ _ _ kp
  have mp2 := cell_of_row y0 W.heap.size 2 _ _ _ kp
  have mp3 := cell_of_row y0 W.heap.size 3 _ _ _ kp
  have mp4 := cell_of_row y0 W.heap.size 4 _ _ _ kp
  have mp5 := cell_of_row y0 W.heap.size 5 _ _ _ kp
  have mp6 := cell_of_row y0 W.heap.size 6 _ _ _ kp
  have mp7 := cell_of_row y0 W.heap.size 7 _ _ _ kp
  have mp8 := cell_of_row y0 W.heap.size 8 _ _ _ kp
  have mp9 := cell_of_row y0 W.heap.size 9 _ _ _ kp
  have mp10 := cell_of_row y0 W.heap.size 10 _ _ _ kp
  have mp11 := cell_of_row y0 W.heap.size 11 _ _ _ kp
  have mp12 := cell_of_row y0 W.heap.size 12 _ _ _ kp
  have mp13 := cell_of_row y0 W.heap.size 13 _ _ _ kp
  have mp14 := cell_of_row y0 W.heap.size 14 _ _ _ kp
  have mp15 := cell_of_row y0 W.heap.size 15 _ _ _ kp
  have mo0 := cell_of_row y0 (W.heap.size + 1 + 1) 0 _ _ _ ko
  have mo1 := cell_of_row y0 (W.heap.size + 1 + 1) 1 _ _ _ ko
  have mo2 := cell_of_row y0 (W.heap.size + 1 + 1) 2 _ _ _ ko
  have mo3 := cell_of_row y0 (W.heap.size + 1 + 1) 3 _ _ _ ko
  have mo4 := cell_of_row y0 (W.heap.size + 1 + 1) 4 _ _ _ ko
  have mo5 := cell_of_row y0 (W.heap.size + 1 + 1) 5 _ _ _ ko
  have mo6 := cell_of_row y0 (W.heap.size + 1 + 1) 6 _ _ _ ko
  have mo7 := cell_of_row y0 (W.heap.size + 1 + 1) 7 _ _ _ ko
  have mo8 := cell_of_row y0 (W.heap.size + 1 + 1) 8 _ _ _ ko
  have mo9 := cell_of_row y0 (W.heap.size + 1 + 1) 9 _ _ _ ko
  have mo10 := cell_of_row y0 (W.heap.size + 1 + 1) 10 _ _ _ ko
  have mo11 := cell_of_row y0 (W.heap.size + 1 + 1) 11 _ _ _ ko
  have mo12 := cell_of_row y0 (W.heap.size + 1 + 1) 12 _ _ _ ko
  have mo13 := cell_of_row y0 (W.heap.size + 1 + 1) 13 _ _ _ ko
  have mo14 := cell_of_row y0 (W.heap.size + 1 + 1) 14 _ _ _ ko
  have mo15 := cell_of_row y0 (W.heap.size + 1 + 1) 15 _ _ _ ko
  have mr0 := cell_of_row y0 (W.heap.size + 1) 0 _ _ _ kr
  have mr1 := cell_of_row y0 (W.heap.size + 1) 1 _ _ _ kr
  have mr2 := cell_of_row y0 (W.heap.size + 1) 2 _ _ _ kr
  have mr3 := cell_of_row y0 (W.heap.size + 1) 3 _ _ _ kr
  have mr4 := cell_of_row y0 (W.heap.size + 1) 4 _ _ _ kr
  have mr5 := cell_of_row y0 (W.heap.size + 1) 5 _ _ _ kr
  have mr6 := cell_of_row y0 (W.heap.size + 1) 6 _ _ _ kr
  have mr7 := cell_of_row y0 (W.heap.size + 1) 7 _ _ _ kr
  have mr8 := cell_of_row y0 (W.heap.size + 1) 8 _ _ _ kr
  have mr9 := cell_of_row y0 (W.heap.size + 1) 9 _ _ _ kr
  have mr10 := cell_of_row y0 (W.heap.size + 1) 10 _ _ _ kr
  have mr11 := cell_of_row y0 (W.heap.size + 1) 11 _ _ _ kr
  have mr12 := cell_of_row y0 (W.heap.size + 1) 12 _ _ _ kr
  have mr13 := cell_of_row y0 (W.heap.size + 1) 13 _ _ _ kr
  have mr14 := cell_of_row y0 (W.heap.size + 1) 14 _ _ _ kr
  have mr15 := cell_of_row y0 (W.heap.size + 1) 15 _ _ _ kr
  have mf : ∀ o, y0.frozen? ⟨W.heap.size + 1 + 1, o, none⟩ = false := fun o => frozen_of_row y0 (W.heap.size + 1 + 1) o _ _ ko
  have mg : ∀ o, y0.frozen? ⟨W.heap.size + 1, o, none⟩ = false := fun o => frozen_of_row y0 (W.heap.size + 1) o _ _ kr
  have U6 : TC 30 W (y0.setCell ⟨W.heap.size + 1 + 1, 6, none⟩ (.string ⟨d.toArray⟩)) #[.int .i64 0, .int .i64 0, .int .i64 0, .int .i64 0, .string ⟨#[]⟩, .string ⟨#[]⟩, .string ⟨#[]⟩, .string ⟨#[]⟩, .string ⟨#[]⟩, .string ⟨#[]⟩, .string ⟨#[]⟩, .string ⟨#[]⟩, .int .i64 0, .int .i64 0, .bool false, .bool false] #[.int .i64 k, .int .i64 dr, .int .i64 st, .int .i64 ti, .string ⟨tx.toArray⟩, .string ⟨nm.toArray⟩, .string ⟨d.toArray⟩, .string ⟨#[]⟩, .string ⟨#[]⟩, .string ⟨#[]⟩, .string ⟨#[]⟩, .string ⟨#[]⟩, .int .i64 0, .int .i64 0, .bool false, .bool false] := U.set 6 (.string ⟨d.toArray⟩)
  have U7 : TC 30 W ((y0.setCell ⟨W.heap.size + 1 + 1, 6, none⟩ (.string ⟨d.toArray⟩)).setCell ⟨W.heap.size + 1 + 1, 7, none⟩ (.string ⟨r.toArray⟩)) #[.int .i64 0, .int .i64 0, .int .i64 0, .int .i64 0, .string ⟨#[]⟩, .string ⟨#[]⟩, .string ⟨#[]⟩, .string ⟨#[]⟩, .string ⟨#[]⟩, .string ⟨#[]⟩, .string ⟨#[]⟩, .string ⟨#[]⟩, .int .i64 0, .int .i64 0, .bool false, .bool false] #[.int .i64 k, .int .i64 dr, .int .i64 st, .int .i64 ti, .string ⟨tx.toArray⟩, .string ⟨nm.toArray⟩, .string ⟨d.toArray⟩, .string ⟨r.toArray⟩, .string ⟨#[]⟩, .string ⟨#[]⟩, .string ⟨#[]⟩, .string ⟨#[]⟩, .int .i64 0, .int .i64 0, .bool false, .bool false] := U6.set 7 (.string ⟨r.toArray⟩)
  have U8 : TC 30 W (((y0.setCell ⟨W.heap.size + 1 + 1, 6, none⟩ (.string ⟨d.toArray⟩)).setCell ⟨W.heap.size + 1 + 1, 7, none⟩ (.string ⟨r.toArray⟩)).setCell ⟨W.heap.size + 1 + 1, 8, none⟩ (.string ⟨b.toArray⟩)) #[.int .i64 0, .int .i64 0, .int .i64 0, .int .i64 0, .string ⟨#[]⟩, .string ⟨#[]⟩, .string ⟨#[]⟩, .string ⟨#[]⟩, .string ⟨#[]⟩, .string ⟨#[]⟩, .string ⟨#[]⟩, .string ⟨#[]⟩, .int .i64 0, .int .i64 0, .bool false, .bool false] #[.int .i64 k, .int .i64 dr, .int .i64 st, .int .i64 ti, .string ⟨tx.toArray⟩, .string ⟨nm.toArray⟩, .string ⟨d.toArray⟩, .string ⟨r.toArray⟩, .string ⟨b.toArray⟩, .string ⟨#[]⟩, .string ⟨#[]⟩, .string ⟨#[]⟩, .int .i64 0, .int .i64 0, .bool false, .bool false] := U7.set 8 (.string ⟨b.toArray⟩)
  have U9 : TC 30 W ((((y0.setCell ⟨W.heap.size + 1 + 1, 6, none⟩ (.string ⟨d.toArray⟩)).setCell ⟨W.heap.size + 1 + 1, 7, none⟩ (.string ⟨r.toArray⟩)).setCell ⟨W.heap.size + 1 + 1, 8, none⟩ (.string ⟨b.toArray⟩)).setCell ⟨W.heap.size + 1 + 1, 9, none⟩ (.string ⟨s.toArray⟩)) #[.int .i64 0, .int .i64 0, .int .i64 0, .int .i64 0, .string ⟨#[]⟩, .string ⟨#[]⟩, .string ⟨#[]⟩, .string ⟨#[]⟩, .string ⟨#[]⟩, .string ⟨#[]⟩, .string ⟨#[]⟩, .string ⟨#[]⟩, .int .i64 0, .int .i64 0, .bool false, .bool false] #[.int .i64 k, .int .i64 dr, .int .i64 st, .int .i64 ti, .string ⟨tx.toArray⟩, .string ⟨nm.toArray⟩, .string ⟨d.toArray⟩, .string ⟨r.toArray⟩, .string ⟨b.toArray⟩, .string ⟨s.toArray⟩, .string ⟨#[]⟩, .string ⟨#[]⟩, .int .i64 0, .int .i64 0, .bool false, .bool false] := U8.set 9 (.string ⟨s.toArray⟩)
  have U10 : TC 30 W (((((y0.setCell ⟨W.heap.size + 1 + 1, 6, none⟩ (.string ⟨d.toArray⟩)).setCell ⟨W.heap.size + 1 + 1, 7, none⟩ (.string ⟨r.toArray⟩)).setCell ⟨W.heap.size + 1 + 1, 8, none⟩ (.string ⟨b.toArray⟩)).setCell ⟨W.heap.size + 1 + 1, 9, none⟩ (.string ⟨s.toArray⟩)).setCell ⟨W.heap.size + 1 + 1, 10, none⟩ (.string ⟨di.toArray⟩)) #[.int .i64 0, .int .i64 0, .int .i64 0, .int .i64 0, .string ⟨#[]⟩, .string ⟨#[]⟩, .string ⟨#[]⟩, .string ⟨#[]⟩, .string ⟨#[]⟩, .string ⟨#[]⟩, .string ⟨#[]⟩, .string ⟨#[]⟩, .int .i64 0, .int .i64 0, .bool false, .bool false] #[.int .i64 k, .int .i64 dr, .int .i64 st, .int .i64 ti, .string ⟨tx.toArray⟩, .string ⟨nm.toArray⟩, .string ⟨d.toArray⟩, .string ⟨r.toArray⟩, .string ⟨b.toArray⟩, .string ⟨s.toArray⟩, .string ⟨di.toArray⟩, .string ⟨#[]⟩, .int .i64 0, .int .i64 0, .bool false, .bool false] := U9.set 10 (.string ⟨di.toArray⟩)
  have U11 : TC 30 W ((((((y0.setCell ⟨W.heap.size + 1 + 1, 6, none⟩ (.string ⟨d.toArray⟩)).setCell ⟨W.heap.size + 1 + 1, 7, none⟩ (.string ⟨r.toArray⟩)).setCell ⟨W.heap.size + 1 + 1, 8, none⟩ (.string ⟨b.toArray⟩)).setCell ⟨W.heap.size + 1 + 1, 9, none⟩ (.string ⟨s.toArray⟩)).setCell ⟨W.heap.size + 1 + 1, 10, none⟩ (.string ⟨di.toArray⟩)).setCell ⟨W.heap.size + 1 + 1, 11, none⟩ (.string ⟨sm.toArray⟩)) #[.int .i64 0, .int .i64 0, .int .i64 0, .int .i64 0, .string ⟨#[]⟩, .string ⟨#[]⟩, .string ⟨#[]⟩, .string ⟨#[]⟩, .string ⟨#[]⟩, .string ⟨#[]⟩, .string ⟨#[]⟩, .string ⟨#[]⟩, .int .i64 0, .int .i64 0, .bool false, .bool false] #[.int .i64 k, .int .i64 dr, .int .i64 st, .int .i64 ti, .string ⟨tx.toArray⟩, .string ⟨nm.toArray⟩, .string ⟨d.toArray⟩, .string ⟨r.toArray⟩, .string ⟨b.toArray⟩, .string ⟨s.toArray⟩, .string ⟨di.toArray⟩, .string ⟨sm.toArray⟩, .int .i64 0, .int .i64 0, .bool false, .bool false] := U10.set 11 (.string ⟨sm.toArray⟩)
  have U12 : TC 30 W (((((((y0.setCell ⟨W.heap.size + 1 + 1, 6, none⟩ (.string ⟨d.toArray⟩)).setCell ⟨W.heap.size + 1 + 1, 7, none⟩ (.string ⟨r.toArray⟩)).setCell ⟨W.heap.size + 1 + 1, 8, none⟩ (.string ⟨b.toArray⟩)).setCell ⟨W.heap.size + 1 + 1, 9, none⟩ (.string ⟨s.toArray⟩)).setCell ⟨W.heap.size + 1 + 1, 10, none⟩ (.string ⟨di.toArray⟩)).setCell ⟨W.heap.size + 1 + 1, 11, none⟩ (.string ⟨sm.toArray⟩)).setCell ⟨W.heap.size + 1 + 1, 12, none⟩ (.int .i64 l)) #[.int .i64 0, .int .i64 0, .int .i64 0, .int .i64 0, .string ⟨#[]⟩, .string ⟨#[]⟩, .string ⟨#[]⟩, .string ⟨#[]⟩, .string ⟨#[]⟩, .string ⟨#[]⟩, .string ⟨#[]⟩, .string ⟨#[]⟩, .int .i64 0, .int .i64 0, .bool false, .bool false] #[.int .i64 k, .int .i64 dr, .int .i64 st, .int .i64 ti, .string ⟨tx.toArray⟩, .string ⟨nm.toArray⟩, .string ⟨d.toArray⟩, .string ⟨r.toArray⟩, .string ⟨b.toArray⟩, .string ⟨s.toArray⟩, .string ⟨di.toArray⟩, .string ⟨sm.toArray⟩, .int .i64 l, .int .i64 0, .bool false, .bool false] := U11.set 12 (.int .i64 l)
  have U13 : TC 30 W ((((((((y0.setCell ⟨W.heap.size + 1 + 1, 6, none⟩ (.string ⟨d.toArray⟩)).setCell ⟨W.heap.size + 1 + 1, 7, none⟩ (.string ⟨r.toArray⟩)).setCell ⟨W.heap.size + 1 + 1, 8, none⟩ (.string ⟨b.toArray⟩)).setCell ⟨W.heap.size + 1 + 1, 9, none⟩ (.string ⟨s.toArray⟩)).setCell ⟨W.heap.size + 1 + 1, 10, none⟩ (.string ⟨di.toArray⟩)).setCell ⟨W.heap.size + 1 + 1, 11, none⟩ (.string ⟨sm.toArray⟩)).setCell ⟨W.heap.size + 1 + 1, 12, none⟩ (.int .i64 l)).setCell ⟨W.heap.size + 1 + 1, 13, none⟩ (.int .i64 c)) #[.int .i64 0, .int .i64 0, .int .i64 0, .int .i64 0, .string ⟨#[]⟩, .string ⟨#[]⟩, .string ⟨#[]⟩, .string ⟨#[]⟩, .string ⟨#[]⟩, .string ⟨#[]⟩, .string ⟨#[]⟩, .string ⟨#[]⟩, .int .i64 0, .int .i64 0, .bool false, .bool false] #[.int .i64 k, .int .i64 dr, .int .i64 st, .int .i64 ti, .string ⟨tx.toArray⟩, .string ⟨nm.toArray⟩, .string ⟨d.toArray⟩, .string ⟨r.toArray⟩, .string ⟨b.toArray⟩, .string ⟨s.toArray⟩, .string ⟨di.toArray⟩, .string ⟨sm.toArray⟩, .int .i64 l, .int .i64 c, .bool false, .bool false] := U12.set 13 (.int .i64 c)
  have U14 : TC 30 W (((((((((y0.setCell ⟨W.heap.size + 1 + 1, 6, none⟩ (.string ⟨d.toArray⟩)).setCell ⟨W.heap.size + 1 + 1, 7, none⟩ (.string ⟨r.toArray⟩)).setCell ⟨W.heap.size + 1 + 1, 8, none⟩ (.string ⟨b.toArray⟩)).setCell ⟨W.heap.size + 1 + 1, 9, none⟩ (.string ⟨s.toArray⟩)).setCell ⟨W.heap.size + 1 + 1, 10, none⟩ (.string ⟨di.toArray⟩)).setCell ⟨W.heap.size + 1 + 1, 11, none⟩ (.string ⟨sm.toArray⟩)).setCell ⟨W.heap.size + 1 + 1, 12, none⟩ (.int .i64 l)).setCell ⟨W.heap.size + 1 + 1, 13, none⟩ (.int .i64 c)).setCell ⟨W.heap.size + 1 + 1, 14, none⟩ (.bool re)) #[.int .i64 0, .int .i64 0, .int .i64 0, .int .i64 0, .string ⟨#[]⟩, .string ⟨#[]⟩, .string ⟨#[]⟩, .string ⟨#[]⟩, .string ⟨#[]⟩, .string ⟨#[]⟩, .string ⟨#[]⟩, .string ⟨#[]⟩, .int .i64 0, .int .i64 0, .bool false, .bool false] #[.int .i64 k, .int .i64 dr, .int .i64 st, .int .i64 ti, .string ⟨tx.toArray⟩, .string ⟨nm.toArray⟩, .string ⟨d.toArray⟩, .string ⟨r.toArray⟩, .string ⟨b.toArray⟩, .string ⟨s.toArray⟩, .string ⟨di.toArray⟩, .string ⟨sm.toArray⟩, .int .i64 l, .int .i64 c, .bool re, .bool false] := U13.set 14 (.bool re)
  have U15 : TC 30 W ((((((((((y0.setCell ⟨W.heap.size + 1 + 1, 6, none⟩ (.string ⟨d.toArray⟩)).setCell ⟨W.heap.size + 1 + 1, 7, none⟩ (.string ⟨r.toArray⟩)).setCell ⟨W.heap.size + 1 + 1, 8, none⟩ (.string ⟨b.toArray⟩)).setCell ⟨W.heap.size + 1 + 1, 9, none⟩ (.string ⟨s.toArray⟩)).setCell ⟨W.heap.size + 1 + 1, 10, none⟩ (.string ⟨di.toArray⟩)).setCell ⟨W.heap.size + 1 + 1, 11, none⟩ (.string ⟨sm.toArray⟩)).setCell ⟨W.heap.size + 1 + 1, 12, none⟩ (.int .i64 l)).setCell ⟨W.heap.size + 1 + 1, 13, none⟩ (.int .i64 c)).setCell ⟨W.heap.size + 1 + 1, 14, none⟩ (.bool re)).setCell ⟨W.heap.size + 1 + 1, 15, none⟩ (.bool lo)) #[.int .i64 0, .int .i64 0, .int .i64 0, .int .i64 0, .string ⟨#[]⟩, .string ⟨#[]⟩, .string ⟨#[]⟩, .string ⟨#[]⟩, .string ⟨#[]⟩, .string ⟨#[]⟩, .string ⟨#[]⟩, .string ⟨#[]⟩, .int .i64 0, .int .i64 0, .bool false, .bool false] #[.int .i64 k, .int .i64 dr, .int .i64 st, .int .i64 ti, .string ⟨tx.toArray⟩, .string ⟨nm.toArray⟩, .string ⟨d.toArray⟩, .string ⟨r.toArray⟩, .string ⟨b.toArray⟩, .string ⟨s.toArray⟩, .string ⟨di.toArray⟩, .string ⟨sm.toArray⟩, .int .i64 l, .int .i64 c, .bool re, .bool lo] := U14.set 15 (.bool lo)
  have R0 : TC 30 W (((((((((((y0.setCell ⟨W.heap.size + 1 + 1, 6, none⟩ (.string ⟨d.toArray⟩)).setCell ⟨W.heap.size + 1 + 1, 7, none⟩ (.string ⟨r.toArray⟩)).setCell ⟨W.heap.size + 1 + 1, 8, none⟩ (.string ⟨b.toArray⟩)).setCell ⟨W.heap.size + 1 + 1, 9, none⟩ (.string ⟨s.toArray⟩)).setCell ⟨W.heap.size + 1 + 1, 10, none⟩ (.string ⟨di.toArray⟩)).setCell ⟨W.heap.size + 1 + 1, 11, none⟩ (.string ⟨sm.toArray⟩)).setCell ⟨W.heap.size + 1 + 1, 12, none⟩ (.int .i64 l)).setCell ⟨W.heap.size + 1 + 1, 13, none⟩ (.int .i64 c)).setCell ⟨W.heap.size + 1 + 1, 14, none⟩ (.bool re)).setCell ⟨W.heap.size + 1 + 1, 15, none⟩ (.bool lo)).setCell ⟨W.heap.size + 1, 0, none⟩ (.int .i64 k)) #[.int .i64 k, .int .i64 0, .int .i64 0, .int .i64 0, .string ⟨#[]⟩, .string ⟨#[]⟩, .string ⟨#[]⟩, .string ⟨#[]⟩, .string ⟨#[]⟩, .string ⟨#[]⟩, .string ⟨#[]⟩, .string ⟨#[]⟩, .int .i64 0, .int .i64 0, .bool false, .bool false] #[.int .i64 k, .int .i64 dr, .int .i64 st, .int .i64 ti, .string ⟨tx.toArray⟩, .string ⟨nm.toArray⟩, .string ⟨d.toArray⟩, .string ⟨r.toArray⟩, .string ⟨b.toArray⟩, .string ⟨s.toArray⟩, .string ⟨di.toArray⟩, .string ⟨sm.toArray⟩, .int .i64 l, .int .i64 c, .bool re, .bool lo] := U15.setr 0 (.int .i64 k)
  have R1 : TC 30 W ((((((((((((y0.setCell ⟨W.heap.size + 1 + 1, 6, none⟩ (.string ⟨d.toArray⟩)).setCell ⟨W.heap.size + 1 + 1, 7, none⟩ (.string ⟨r.toArray⟩)).setCell ⟨W.heap.size + 1 + 1, 8, none⟩ (.string ⟨b.toArray⟩)).setCell ⟨W.heap.size + 1 + 1, 9, none⟩ (.string ⟨s.toArray⟩)).setCell ⟨W.heap.size + 1 + 1, 10, none⟩ (.string ⟨di.toArray⟩)).setCell ⟨W.heap.size + 1 + 1, 11, none⟩ (.string ⟨sm.toArray⟩)).setCell ⟨W.heap.size + 1 + 1, 12, none⟩ (.int .i64 l)).setCell ⟨W.heap.size + 1 + 1, 13, none⟩ (.int .i64 c)).setCell ⟨W.heap.size + 1 + 1, 14, none⟩ (.bool re)).setCell ⟨W.heap.size + 1 + 1, 15, none⟩ (.bool lo)).setCell ⟨W.heap.size + 1, 0, none⟩ (.int .i64 k)).setCell ⟨W.heap.size + 1, 1, none⟩ (.int .i64 dr)) #[.int .i64 k, .int .i64 dr, .int .i64 0, .int .i64 0, .string ⟨#[]⟩, .string ⟨#[]⟩, .string ⟨#[]⟩, .string ⟨#[]⟩, .string ⟨#[]⟩, .string ⟨#[]⟩, .string ⟨#[]⟩, .string ⟨#[]⟩, .int .i64 0, .int .i64 0, .bool false, .bool false] #[.int .i64 k, .int .i64 dr, .int .i64 st, .int .i64 ti, .string ⟨tx.toArray⟩, .string ⟨nm.toArray⟩, .string ⟨d.toArray⟩, .string ⟨r.toArray⟩, .string ⟨b.toArray⟩, .string ⟨s.toArray⟩, .string ⟨di.toArray⟩, .string ⟨sm.toArray⟩, .int .i64 l, .int .i64 c, .bool re, .bool lo] := R0.setr 1 (.int .i64 dr)
  have R2 : TC 30 W (((((((((((((y0.setCell ⟨W.heap.size + 1 + 1, 6, none⟩ (.string ⟨d.toArray⟩)).setCell ⟨W.heap.size + 1 + 1, 7, none⟩ (.string ⟨r.toArray⟩)).setCell ⟨W.heap.size + 1 + 1, 8, none⟩ (.string ⟨b.toArray⟩)).setCell ⟨W.heap.size + 1 + 1, 9, none⟩ (.string ⟨s.toArray⟩)).setCell ⟨W.heap.size + 1 + 1, 10, none⟩ (.string ⟨di.toArray⟩)).setCell ⟨W.heap.size + 1 + 1, 11, none⟩ (.string ⟨sm.toArray⟩)).setCell ⟨W.heap.size + 1 + 1, 12, none⟩ (.int .i64 l)).setCell ⟨W.heap.size + 1 + 1, 13, none⟩ (.int .i64 c)).setCell ⟨W.heap.size + 1 + 1, 14, none⟩ (.bool re)).setCell ⟨W.heap.size + 1 + 1, 15, none⟩ (.bool lo)).setCell ⟨W.heap.size + 1, 0, none⟩ (.int .i64 k)).setCell ⟨W.heap.size + 1, 1, none⟩ (.int .i64 dr)).setCell ⟨W.heap.size + 1, 2, none⟩ (.int .i64 st)) #[.int .i64 k, .int .i64 dr, .int .i64 st, .int .i64 0, .string ⟨#[]⟩, .string ⟨#[]⟩, .string ⟨#[]⟩, .string ⟨#[]⟩, .string ⟨#[]⟩, .string ⟨#[]⟩, .string ⟨#[]⟩, .string ⟨#[]⟩, .int .i64 0, .int .i64 0, .bool false, .bool false] #[.int .i64 k, .int .i64 dr, .int .i64 st, .int .i64 ti, .string ⟨tx.toArray⟩, .string ⟨nm.toArray⟩, .string ⟨d.toArray⟩, .string ⟨r.toArray⟩, .string ⟨b.toArray⟩, .string ⟨s.toArray⟩, .string ⟨di.toArray⟩, .string ⟨sm.toArray⟩, .int .i64 l, .int .i64 c, .bool re, .bool lo] := R1.setr 2 (.int .i64 st)
  have R3 : TC 30 W ((((((((((((((y0.setCell ⟨W.heap.size + 1 + 1, 6, none⟩ (.string ⟨d.toArray⟩)).setCell ⟨W.heap.size + 1 + 1, 7, none⟩ (.string ⟨r.toArray⟩)).setCell ⟨W.heap.size + 1 + 1, 8, none⟩ (.string ⟨b.toArray⟩)).setCell ⟨W.heap.size + 1 + 1, 9, none⟩ (.string ⟨s.toArray⟩)).setCell ⟨W.heap.size + 1 + 1, 10, none⟩ (.string ⟨di.toArray⟩)).setCell ⟨W.heap.size + 1 + 1, 11, none⟩ (.string ⟨sm.toArray⟩)).setCell ⟨W.heap.size + 1 + 1, 12, none⟩ (.int .i64 l)).setCell ⟨W.heap.size + 1 + 1, 13, none⟩ (.int .i64 c)).setCell ⟨W.heap.size + 1 + 1, 14, none⟩ (.bool re)).setCell ⟨W.heap.size + 1 + 1, 15, none⟩ (.bool lo)).setCell ⟨W.heap.size + 1, 0, none⟩ (.int .i64 k)).setCell ⟨W.heap.size + 1, 1, none⟩ (.int .i64 dr)).setCell ⟨W.heap.size + 1, 2, none⟩ (.int .i64 st)).setCell ⟨W.heap.size + 1, 3, none⟩ (.int .i64 ti)) #[.int .i64 k, .int .i64 dr, .int .i64 st, .int .i64 ti, .string ⟨#[]⟩, .string ⟨#[]⟩, .string ⟨#[]⟩, .string ⟨#[]⟩, .string ⟨#[]⟩, .string ⟨#[]⟩, .string ⟨#[]⟩, .string ⟨#[]⟩, .int .i64 0, .int .i64 0, .bool false, .bool false] #[.int .i64 k, .int .i64 dr, .int .i64 st, .int .i64 ti, .string ⟨tx.toArray⟩, .string ⟨nm.toArray⟩, .string ⟨d.toArray⟩, .string ⟨r.toArray⟩, .string ⟨b.toArray⟩, .string ⟨s.toArray⟩, .string ⟨di.toArray⟩, .string ⟨sm.toArray⟩, .int .i64 l, .int .i64 c, .bool re, .bool lo] := R2.setr 3 (.int .i64 ti)
  have R4 : TC 30 W (((((((((((((((y0.setCell ⟨W.heap.size + 1 + 1, 6, none⟩ (.string ⟨d.toArray⟩)).setCell ⟨W.heap.size + 1 + 1, 7, none⟩ (.string ⟨r.toArray⟩)).setCell ⟨W.heap.size + 1 + 1, 8, none⟩ (.string ⟨b.toArray⟩)).setCell ⟨W.heap.size + 1 + 1, 9, none⟩ (.string ⟨s.toArray⟩)).setCell ⟨W.heap.size + 1 + 1, 10, none⟩ (.string ⟨di.toArray⟩)).setCell ⟨W.heap.size + 1 + 1, 11, none⟩ (.string ⟨sm.toArray⟩)).setCell ⟨W.heap.size + 1 + 1, 12, none⟩ (.int .i64 l)).setCell ⟨W.heap.size + 1 + 1, 13, none⟩ (.int .i64 c)).setCell ⟨W.heap.size + 1 + 1, 14, none⟩ (.bool re)).setCell ⟨W.heap.size + 1 + 1, 15, none⟩ (.bool lo)).setCell ⟨W.heap.size + 1, 0, none⟩ (.int .i64 k)).setCell ⟨W.heap.size + 1, 1, none⟩ (.int .i64 dr)).setCell ⟨W.heap.size + 1, 2, none⟩ (.int .i64 st)).setCell ⟨W.heap.size + 1, 3, none⟩ (.int .i64 ti)).setCell ⟨W.heap.size + 1, 4, none⟩ (.string ⟨tx.toArray⟩)) #[.int .i64 k, .int .i64 dr, .int .i64 st, .int .i64 ti, .string ⟨tx.toArray⟩, .string ⟨#[]⟩, .string ⟨#[]⟩, .string ⟨#[]⟩, .string ⟨#[]⟩, .string ⟨#[]⟩, .string ⟨#[]⟩, .string ⟨#[]⟩, .int .i64 0, .int .i64 0, .bool false, .bool false] #[.int .i64 k, .int .i64 dr, .int .i64 st, .int .i64 ti, .string ⟨tx.toArray⟩, .string ⟨nm.toArray⟩, .string ⟨d.toArray⟩, .string ⟨r.toArray⟩, .string ⟨b.toArray⟩, .string ⟨s.toArray⟩, .string ⟨di.toArray⟩, .string ⟨sm.toArray⟩, .int .i64 l, .int .i64 c, .bool re, .bool lo] := R3.setr 4 (.string ⟨tx.toArray⟩)
  have R5 : TC 30 W ((((((((((((((((y0.setCell ⟨W.heap.size + 1 + 1, 6, none⟩ (.string ⟨d.toArray⟩)).setCell ⟨W.heap.size + 1 + 1, 7, none⟩ (.string ⟨r.toArray⟩)).setCell ⟨W.heap.size + 1 + 1, 8, none⟩ (.string ⟨b.toArray⟩)).setCell ⟨W.heap.size + 1 + 1, 9, none⟩ (.string ⟨s.toArray⟩)).setCell ⟨W.heap.size + 1 + 1, 10, none⟩ (.string ⟨di.toArray⟩)).setCell ⟨W.heap.size + 1 + 1, 11, none⟩ (.string ⟨sm.toArray⟩)).setCell ⟨W.heap.size + 1 + 1, 12, none⟩ (.int .i64 l)).setCell ⟨W.heap.size + 1 + 1, 13, none⟩ (.int .i64 c)).setCell ⟨W.heap.size + 1 + 1, 14, none⟩ (.bool re)).setCell ⟨W.heap.size + 1 + 1, 15, none⟩ (.bool lo)).setCell ⟨W.heap.size + 1, 0, none⟩ (.int .i64 k)).setCell ⟨W.heap.size + 1, 1, none⟩ (.int .i64 dr)).setCell ⟨W.heap.size + 1, 2, none⟩ (.int .i64 st)).setCell ⟨W.heap.size + 1, 3, none⟩ (.int .i64 ti)).setCell ⟨W.heap.size + 1, 4, none⟩ (.string ⟨tx.toArray⟩)).setCell ⟨W.heap.size + 1, 5, none⟩ (.string ⟨nm.toArray⟩)) #[.int .i64 k, .int .i64 dr, .int .i64 st, .int .i64 ti, .string ⟨tx.toArray⟩, .string ⟨nm.toArray⟩, .string ⟨#[]⟩, .string ⟨#[]⟩, .string ⟨#[]⟩, .string ⟨#[]⟩, .string ⟨#[]⟩, .string ⟨#[]⟩, .int .i64 0, .int .i64 0, .bool false, .bool false] #[.int .i64 k, .int .i64 dr, .int .i64 st, .int .i64 ti, .string ⟨tx.toArray⟩, .string ⟨nm.toArray⟩, .string ⟨d.toArray⟩, .string ⟨r.toArray⟩, .string ⟨b.toArray⟩, .string ⟨s.toArray⟩, .string ⟨di.toArray⟩, .string ⟨sm.toArray⟩, .int .i64 l, .int .i64 c, .bool re, .bool lo] := R4.setr 5 (.string ⟨nm.toArray⟩)
  have R6 : TC 30 W (((((((((((((((((y0.setCell ⟨W.heap.size + 1 + 1, 6, none⟩ (.string ⟨d.toArray⟩)).setCell ⟨W.heap.size + 1 + 1, 7, none⟩ (.string ⟨r.toArray⟩)).setCell ⟨W.heap.size + 1 + 1, 8, none⟩ (.string ⟨b.toArray⟩)).setCell ⟨W.heap.size + 1 + 1, 9, none⟩ (.string ⟨s.toArray⟩)).setCell ⟨W.heap.size + 1 + 1, 10, none⟩ (.string ⟨di.toArray⟩)).setCell ⟨W.heap.size + 1 + 1, 11, none⟩ (.string ⟨sm.toArray⟩)).setCell ⟨W.heap.size + 1 + 1, 12, none⟩ (.int .i64 l)).setCell ⟨W.heap.size + 1 + 1, 13, none⟩ (.int .i64 c)).setCell ⟨W.heap.size + 1 + 1, 14, none⟩ (.bool re)).setCell ⟨W.heap.size + 1 + 1, 15, none⟩ (.bool lo)).setCell ⟨W.heap.size + 1, 0, none⟩ (.int .i64 k)).setCell ⟨W.heap.size + 1, 1, none⟩ (.int .i64 dr)).setCell ⟨W.heap.size + 1, 2, none⟩ (.int .i64 st)).setCell ⟨W.heap.size + 1, 3, none⟩ (.int .i64 ti)).setCell ⟨W.heap.size + 1, 4, none⟩ (.string ⟨tx.toArray⟩)).setCell ⟨W.heap.size + 1, 5, none⟩ (.string ⟨nm.toArray⟩)).setCell ⟨W.heap.size + 1, 6, none⟩ (.string ⟨d.toArray⟩)) #[.int .i64 k, .int .i64 dr, .int .i64 st, .int .i64 ti, .string ⟨tx.toArray⟩, .string ⟨nm.toArray⟩, .string ⟨d.toArray⟩, .string ⟨#[]⟩, .string ⟨#[]⟩, .string ⟨#[]⟩, .string ⟨#[]⟩, .string ⟨#[]⟩, .int .i64 0, .int .i64 0, .bool false, .bool false] #[.int .i64 k, .int .i64 dr, .int .i64 st, .int .i64 ti, .string ⟨tx.toArray⟩, .string ⟨nm.toArray⟩, .string ⟨d.toArray⟩, .string ⟨r.toArray⟩, .string ⟨b.toArray⟩, .string ⟨s.toArray⟩, .string ⟨di.toArray⟩, .string ⟨sm.toArray⟩, .int .i64 l, .int .i64 c, .bool re, .bool lo] := R5.setr 6 (.string ⟨d.toArray⟩)
  have R7 : TC 30 W ((((((((((((((((((y0.setCell ⟨W.heap.size + 1 + 1, 6, none⟩ (.string ⟨d.toArray⟩)).setCell ⟨W.heap.size + 1 + 1, 7, none⟩ (.string ⟨r.toArray⟩)).setCell ⟨W.heap.size + 1 + 1, 8, none⟩ (.string ⟨b.toArray⟩)).setCell ⟨W.heap.size + 1 + 1, 9, none⟩ (.string ⟨s.toArray⟩)).setCell ⟨W.heap.size + 1 + 1, 10, none⟩ (.string ⟨di.toArray⟩)).setCell ⟨W.heap.size + 1 + 1, 11, none⟩ (.string ⟨sm.toArray⟩)).setCell ⟨W.heap.size + 1 + 1, 12, none⟩ (.int .i64 l)).setCell ⟨W.heap.size + 1 + 1, 13, none⟩ (.int .i64 c)).setCell ⟨W.heap.size + 1 + 1, 14, none⟩ (.bool re)).setCell ⟨W.heap.size + 1 + 1, 15, none⟩ (.bool lo)).setCell ⟨W.heap.size + 1, 0, none⟩ (.int .i64 k)).setCell ⟨W.heap.size + 1, 1, none⟩ (.int .i64 dr)).setCell ⟨W.heap.size + 1, 2, none⟩ (.int .i64 st)).setCell ⟨W.heap.size + 1, 3, none⟩ (.int .i64 ti)).setCell ⟨W.heap.size + 1, 4, none⟩ (.string ⟨tx.toArray⟩)).setCell ⟨W.heap.size + 1, 5, none⟩ (.string ⟨nm.toArray⟩)).setCell ⟨W.heap.size + 1, 6, none⟩ (.string ⟨d.toArray⟩)).setCell ⟨W.heap.size + 1, 7, none⟩ (.string ⟨r.toArray⟩)) #[.int .i64 k, .int .i64 dr, .int .i64 st, .int .i64 ti, .string ⟨tx.toArray⟩, .string ⟨nm.toArray⟩, .string ⟨d.toArray⟩, .string ⟨r.toArray⟩, .string ⟨#[]⟩, .string ⟨#[]⟩, .string ⟨#[]⟩, .string ⟨#[]⟩, .int .i64 0, .int .i64 0, .bool false, .bool false] #[.int .i64 k, .int .i64 dr, .int .i64 st, .int .i64 ti, .string ⟨tx.toArray⟩, .string ⟨nm.toArray⟩, .string ⟨d.toArray⟩, .string ⟨r.toArray⟩, .string ⟨b.toArray⟩, .string ⟨s.toArray⟩, .string ⟨di.toArray⟩, .string ⟨sm.toArray⟩, .int .i64 l, .int .i64 c, .bool re, .bool lo] := R6.setr 7 (.string ⟨r.toArray⟩)
  have R8 : TC 30 W (((((((((((((((((((y0.setCell ⟨W.heap.size + 1 + 1, 6, none⟩ (.string ⟨d.toArray⟩)).setCell ⟨W.heap.size + 1 + 1, 7, none⟩ (.string ⟨r.toArray⟩)).setCell ⟨W.heap.size + 1 + 1, 8, none⟩ (.string ⟨b.toArray⟩)).setCell ⟨W.heap.size + 1 + 1, 9, none⟩ (.string ⟨s.toArray⟩)).setCell ⟨W.heap.size + 1 + 1, 10, none⟩ (.string ⟨di.toArray⟩)).setCell ⟨W.heap.size + 1 + 1, 11, none⟩ (.string ⟨sm.toArray⟩)).setCell ⟨W.heap.size + 1 + 1, 12, none⟩ (.int .i64 l)).setCell ⟨W.heap.size + 1 + 1, 13, none⟩ (.int .i64 c)).setCell ⟨W.heap.size + 1 + 1, 14, none⟩ (.bool re)).setCell ⟨W.heap.size + 1 + 1, 15, none⟩ (.bool lo)).setCell ⟨W.heap.size + 1, 0, none⟩ (.int .i64 k)).setCell ⟨W.heap.size + 1, 1, none⟩ (.int .i64 dr)).setCell ⟨W.heap.size + 1, 2, none⟩ (.int .i64 st)).setCell ⟨W.heap.size + 1, 3, none⟩ (.int .i64 ti)).setCell ⟨W.heap.size + 1, 4, none⟩ (.string ⟨tx.toArray⟩)).setCell ⟨W.heap.size + 1, 5, none⟩ (.string ⟨nm.toArray⟩)).setCell ⟨W.heap.size + 1, 6, none⟩ (.string ⟨d.toArray⟩)).setCell ⟨W.heap.size + 1, 7, none⟩ (.string ⟨r.toArray⟩)).setCell ⟨W.heap.size + 1, 8, none⟩ (.string ⟨b.toArray⟩)) #[.int .i64 k, .int .i64 dr, .int .i64 st, .int .i64 ti, .string ⟨tx.toArray⟩, .string ⟨nm.toArray⟩, .string ⟨d.toArray⟩, .string ⟨r.toArray⟩, .string ⟨b.toArray⟩, .string ⟨#[]⟩, .string ⟨#[]⟩, .string ⟨#[]⟩, .int .i64 0, .int .i64 0, .bool false, .bool false] #[.int .i64 k, .int .i64 dr, .int .i64 st, .int .i64 ti, .string ⟨tx.toArray⟩, .string ⟨nm.toArray⟩, .string ⟨d.toArray⟩, .string ⟨r.toArray⟩, .string ⟨b.toArray⟩, .string ⟨s.toArray⟩, .string ⟨di.toArray⟩, .string ⟨sm.toArray⟩, .int .i64 l, .int .i64 c, .bool re, .bool lo] := R7.setr 8 (.string ⟨b.toArray⟩)
  have R9 : TC 30 W ((((((((((((((((((((y0.setCell ⟨W.heap.size + 1 + 1, 6, none⟩ (.string ⟨d.toArray⟩)).setCell ⟨W.heap.size + 1 + 1, 7, none⟩ (.string ⟨r.toArray⟩)).setCell ⟨W.heap.size + 1 + 1, 8, none⟩ (.string ⟨b.toArray⟩)).setCell ⟨W.heap.size + 1 + 1, 9, none⟩ (.string ⟨s.toArray⟩)).setCell ⟨W.heap.size + 1 + 1, 10, none⟩ (.string ⟨di.toArray⟩)).setCell ⟨W.heap.size + 1 + 1, 11, none⟩ (.string ⟨sm.toArray⟩)).setCell ⟨W.heap.size + 1 + 1, 12, none⟩ (.int .i64 l)).setCell ⟨W.heap.size + 1 + 1, 13, none⟩ (.int .i64 c)).setCell ⟨W.heap.size + 1 + 1, 14, none⟩ (.bool re)).setCell ⟨W.heap.size + 1 + 1, 15, none⟩ (.bool lo)).setCell ⟨W.heap.size + 1, 0, none⟩ (.int .i64 k)).setCell ⟨W.heap.size + 1, 1, none⟩ (.int .i64 dr)).setCell ⟨W.heap.size + 1, 2, none⟩ (.int .i64 st)).setCell ⟨W.heap.size + 1, 3, none⟩ (.int .i64 ti)).setCell ⟨W.heap.size + 1, 4, none⟩ (.string ⟨tx.toArray⟩)).setCell ⟨W.heap.size + 1, 5, none⟩ (.string ⟨nm.toArray⟩)).setCell ⟨W.heap.size + 1, 6, none⟩ (.string ⟨d.toArray⟩)).setCell ⟨W.heap.size + 1, 7, none⟩ (.string ⟨r.toArray⟩)).setCell ⟨W.heap.size + 1, 8, none⟩ (.string ⟨b.toArray⟩)).setCell ⟨W.heap.size + 1, 9, none⟩ (.string ⟨s.toArray⟩)) #[.int .i64 k, .int .i64 dr, .int .i64 st, .int .i64 ti, .string ⟨tx.toArray⟩, .string ⟨nm.toArray⟩, .string ⟨d.toArray⟩, .string ⟨r.toArray⟩, .string ⟨b.toArray⟩, .string ⟨s.toArray⟩, .string ⟨#[]⟩, .string ⟨#[]⟩, .int .i64 0, .int .i64 0, .bool false, .bool false] #[.int .i64 k, .int .i64 dr, .int .i64 st, .int .i64 ti, .string ⟨tx.toArray⟩, .string ⟨nm.toArray⟩, .string ⟨d.toArray⟩, .string ⟨r.toArray⟩, .string ⟨b.toArray⟩, .string ⟨s.toArray⟩, .string ⟨di.toArray⟩, .string ⟨sm.toArray⟩, .int .i64 l, .int .i64 c, .bool re, .bool lo] := R8.setr 9 (.string ⟨s.toArray⟩)
  have R10 : TC 30 W (((((((((((((((((((((y0.setCell ⟨W.heap.size + 1 + 1, 6, none⟩ (.string ⟨d.toArray⟩)).setCell ⟨W.heap.size + 1 + 1, 7, none⟩ (.string ⟨r.toArray⟩)).setCell ⟨W.heap.size + 1 + 1, 8, none⟩ (.string ⟨b.toArray⟩)).setCell ⟨W.heap.size + 1 + 1, 9, none⟩ (.string ⟨s.toArray⟩)).setCell ⟨W.heap.size + 1 + 1, 10, none⟩ (.string ⟨di.toArray⟩)).setCell ⟨W.heap.size + 1 + 1, 11, none⟩ (.string ⟨sm.toArray⟩)).setCell ⟨W.heap.size + 1 + 1, 12, none⟩ (.int .i64 l)).setCell ⟨W.heap.size + 1 + 1, 13, none⟩ (.int .i64 c)).setCell ⟨W.heap.size + 1 + 1, 14, none⟩ (.bool re)).setCell ⟨W.heap.size + 1 + 1, 15, none⟩ (.bool lo)).setCell ⟨W.heap.size + 1, 0, none⟩ (.int .i64 k)).setCell ⟨W.heap.size + 1, 1, none⟩ (.int .i64 dr)).setCell ⟨W.heap.size + 1, 2, none⟩ (.int .i64 st)).setCell ⟨W.heap.size + 1, 3, none⟩ (.int .i64 ti)).setCell ⟨W.heap.size + 1, 4, none⟩ (.string ⟨tx.toArray⟩)).setCell ⟨W.heap.size + 1, 5, none⟩ (.string ⟨nm.toArray⟩)).setCell ⟨W.heap.size + 1, 6, none⟩ (.string ⟨d.toArray⟩)).setCell ⟨W.heap.size + 1, 7, none⟩ (.string ⟨r.toArray⟩)).setCell ⟨W.heap.size + 1, 8, none⟩ (.string ⟨b.toArray⟩)).setCell ⟨W.heap.size + 1, 9, none⟩ (.string ⟨s.toArray⟩)).setCell ⟨W.heap.size + 1, 10, none⟩ (.string ⟨di.toArray⟩)) #[.int .i64 k, .int .i64 dr, .int .i64 st, .int .i64 ti, .string ⟨tx.toArray⟩, .string ⟨nm.toArray⟩, .string ⟨d.toArray⟩, .string ⟨r.toArray⟩, .string ⟨b.toArray⟩, .string ⟨s.toArray⟩, .string ⟨di.toArray⟩, .string ⟨#[]⟩, .int .i64 0, .int .i64 0, .bool false, .bool false] #[.int .i64 k, .int .i64 dr, .int .i64 st, .int .i64 ti, .string ⟨tx.toArray⟩, .string ⟨nm.toArray⟩, .string ⟨d.toArray⟩, .string ⟨r.toArray⟩, .string ⟨b.toArray⟩, .string ⟨s.toArray⟩, .string ⟨di.toArray⟩, .string ⟨sm.toArray⟩, .int .i64 l, .int .i64 c, .bool re, .bool lo] := R9.setr 10 (.string ⟨di.toArray⟩)
  have R11 : TC 30 W ((((((((((((((((((((((y0.setCell ⟨W.heap.size + 1 + 1, 6, none⟩ (.string ⟨d.toArray⟩)).setCell ⟨W.heap.size + 1 + 1, 7, none⟩ (.string ⟨r.toArray⟩)).setCell ⟨W.heap.size + 1 + 1, 8, none⟩ (.string ⟨b.toArray⟩)).setCell ⟨W.heap.size + 1 + 1, 9, none⟩ (.string ⟨s.toArray⟩)).setCell ⟨W.heap.size + 1 + 1, 10, none⟩ (.string ⟨di.toArray⟩)).setCell ⟨W.heap.size + 1 + 1, 11, none⟩ (.string ⟨sm.toArray⟩)).setCell ⟨W.heap.size + 1 + 1, 12, none⟩ (.int .i64 l)).setCell ⟨W.heap.size + 1 + 1, 13, none⟩ (.int .i64 c)).setCell ⟨W.heap.size + 1 + 1, 14, none⟩ (.bool re)).setCell ⟨W.heap.size + 1 + 1, 15, none⟩ (.bool lo)).setCell ⟨W.heap.size + 1, 0, none⟩ (.int .i64 k)).setCell ⟨W.heap.size + 1, 1, none⟩ (.int .i64 dr)).setCell ⟨W.heap.size + 1, 2, none⟩ (.int .i64 st)).setCell ⟨W.heap.size + 1, 3, none⟩ (.int .i64 ti)).setCell ⟨W.heap.size + 1, 4, none⟩ (.string ⟨tx.toArray⟩)).setCell ⟨W.heap.size + 1, 5, none⟩ (.string ⟨nm.toArray⟩)).setCell ⟨W.heap.size + 1, 6, none⟩ (.string ⟨d.toArray⟩)).setCell ⟨W.heap.size + 1, 7, none⟩ (.string ⟨r.toArray⟩)).setCell ⟨W.heap.size + 1, 8, none⟩ (.string ⟨b.toArray⟩)).setCell ⟨W.heap.size + 1, 9, none⟩ (.string ⟨s.toArray⟩)).setCell ⟨W.heap.size + 1, 10, none⟩ (.string ⟨di.toArray⟩)).setCell ⟨W.heap.size + 1, 11, none⟩ (.string ⟨sm.toArray⟩)) #[.int .i64 k, .int .i64 dr, .int .i64 st, .int .i64 ti, .string ⟨tx.toArray⟩, .string ⟨nm.toArray⟩, .string ⟨d.toArray⟩, .string ⟨r.toArray⟩, .string ⟨b.toArray⟩, .string ⟨s.toArray⟩, .string ⟨di.toArray⟩, .string ⟨sm.toArray⟩, .int .i64 0, .int .i64 0, .bool false, .bool false] #[.int .i64 k, .int .i64 dr, .int .i64 st, .int .i64 ti, .string ⟨tx.toArray⟩, .string ⟨nm.toArray⟩, .string ⟨d.toArray⟩, .string ⟨r.toArray⟩, .string ⟨b.toArray⟩, .string ⟨s.toArray⟩, .string ⟨di.toArray⟩, .string ⟨sm.toArray⟩, .int .i64 l, .int .i64 c, .bool re, .bool lo] := R10.setr 11 (.string ⟨sm.toArray⟩)
  have R12 : TC 30 W (((((((((((((((((((((((y0.setCell ⟨W.heap.size + 1 + 1, 6, none⟩ (.string ⟨d.toArray⟩)).setCell ⟨W.heap.size + 1 + 1, 7, none⟩ (.string ⟨r.toArray⟩)).setCell ⟨W.heap.size + 1 + 1, 8, none⟩ (.string ⟨b.toArray⟩)).setCell ⟨W.heap.size + 1 + 1, 9, none⟩ (.string ⟨s.toArray⟩)).setCell ⟨W.heap.size + 1 + 1, 10, none⟩ (.string ⟨di.toArray⟩)).setCell ⟨W.heap.size + 1 + 1, 11, none⟩ (.string ⟨sm.toArray⟩)).setCell ⟨W.heap.size + 1 + 1, 12, none⟩ (.int .i64 l)).setCell ⟨W.heap.size + 1 + 1, 13, none⟩ (.int .i64 c)).setCell ⟨W.heap.size + 1 + 1, 14, none⟩ (.bool re)).setCell ⟨W.heap.size + 1 + 1, 15, none⟩ (.bool lo)).setCell ⟨W.heap.size + 1, 0, none⟩ (.int .i64 k)).setCell ⟨W.heap.size + 1, 1, none⟩ (.int .i64 dr)).setCell ⟨W.heap.size + 1, 2, none⟩ (.int .i64 st)).setCell ⟨W.heap.size + 1, 3, none⟩ (.int .i64 ti)).setCell ⟨W.heap.size + 1, 4, none⟩ (.string ⟨tx.toArray⟩)).setCell ⟨W.heap.size + 1, 5, none⟩ (.string ⟨nm.toArray⟩)).setCell ⟨W.heap.size + 1, 6, none⟩ (.string ⟨d.toArray⟩)).setCell ⟨W.heap.size + 1, 7, none⟩ (.string ⟨r.toArray⟩)).setCell ⟨W.heap.size + 1, 8, none⟩ (.string ⟨b.toArray⟩)).setCell ⟨W.heap.size + 1, 9, none⟩ (.string ⟨s.toArray⟩)).setCell ⟨W.heap.size + 1, 10, none⟩ (.string ⟨di.toArray⟩)).setCell ⟨W.heap.size + 1, 11, none⟩ (.string ⟨sm.toArray⟩)).setCell ⟨W.heap.size + 1, 12, none⟩ (.int .i64 l)) #[.int .i64 k, .int .i64 dr, .int .i64 st, .int .i64 ti, .string ⟨tx.toArray⟩, .string ⟨nm.toArray⟩, .string ⟨d.toArray⟩, .string ⟨r.toArray⟩, .string ⟨b.toArray⟩, .string ⟨s.toArray⟩, .string ⟨di.toArray⟩, .string ⟨sm.toArray⟩, .int .i64 l, .int .i64 0, .bool false, .bool false] #[.int .i64 k, .int .i64 dr, .int .i64 st, .int .i64 ti, .string ⟨tx.toArray⟩, .string ⟨nm.toArray⟩, .string ⟨d.toArray⟩, .string ⟨r.toArray⟩, .string ⟨b.toArray⟩, .string ⟨s.toArray⟩, .string ⟨di.toArray⟩, .string ⟨sm.toArray⟩, .int .i64 l, .int .i64 c, .bool re, .bool lo] := R11.setr 12 (.int .i64 l)
  have R13 : TC 30 W ((((((((((((((((((((((((y0.setCell ⟨W.heap.size + 1 + 1, 6, none⟩ (.string ⟨d.toArray⟩)).setCell ⟨W.heap.size + 1 + 1, 7, none⟩ (.string ⟨r.toArray⟩)).setCell ⟨W.heap.size + 1 + 1, 8, none⟩ (.string ⟨b.toArray⟩)).setCell ⟨W.heap.size + 1 + 1, 9, none⟩ (.string ⟨s.toArray⟩)).setCell ⟨W.heap.size + 1 + 1, 10, none⟩ (.string ⟨di.toArray⟩)).setCell ⟨W.heap.size + 1 + 1, 11, none⟩ (.string ⟨sm.toArray⟩)).setCell ⟨W.heap.size + 1 + 1, 12, none⟩ (.int .i64 l)).setCell ⟨W.heap.size + 1 + 1, 13, none⟩ (.int .i64 c)).setCell ⟨W.heap.size + 1 + 1, 14, none⟩ (.bool re)).setCell ⟨W.heap.size + 1 + 1, 15, none⟩ (.bool lo)).setCell ⟨W.heap.size + 1, 0, none⟩ (.int .i64 k)).setCell ⟨W.heap.size + 1, 1, none⟩ (.int .i64 dr)).setCell ⟨W.heap.size + 1, 2, none⟩ (.int .i64 st)).setCell ⟨W.heap.size + 1, 3, none⟩ (.int .i64 ti)).setCell ⟨W.heap.size + 1, 4, none⟩ (.string ⟨tx.toArray⟩)).setCell ⟨W.heap.size + 1, 5, none⟩ (.string ⟨nm.toArray⟩)).setCell ⟨W.heap.size + 1, 6, none⟩ (.string ⟨d.toArray⟩)).setCell ⟨W.heap.size + 1, 7, none⟩ (.string ⟨r.toArray⟩)).setCell ⟨W.heap.size + 1, 8, none⟩ (.string ⟨b.toArray⟩)).setCell ⟨W.heap.size + 1, 9, none⟩ (.string ⟨s.toArray⟩)).setCell ⟨W.heap.size + 1, 10, none⟩ (.string ⟨di.toArray⟩)).setCell ⟨W.heap.size + 1, 11, none⟩ (.string ⟨sm.toArray⟩)).setCell ⟨W.heap.size + 1, 12, none⟩ (.int .i64 l)).setCell ⟨W.heap.size + 1, 13, none⟩ (.int .i64 c)) #[.int .i64 k, .int .i64 dr, .int .i64 st, .int .i64 ti, .string ⟨tx.toArray⟩, .string ⟨nm.toArray⟩, .string ⟨d.toArray⟩, .string ⟨r.toArray⟩, .string ⟨b.toArray⟩, .string ⟨s.toArray⟩, .string ⟨di.toArray⟩, .string ⟨sm.toArray⟩, .int .i64 l, .int .i64 c, .bool false, .bool false] #[.int .i64 k, .int .i64 dr, .int .i64 st, .int .i64 ti, .string ⟨tx.toArray⟩, .string ⟨nm.toArray⟩, .string ⟨d.toArray⟩, .string ⟨r.toArray⟩, .string ⟨b.toArray⟩, .string ⟨s.toArray⟩, .string ⟨di.toArray⟩, .string ⟨sm.toArray⟩, .int .i64 l, .int .i64 c, .bool re, .bool lo] := R12.setr 13 (.int .i64 c)
  have R14 : TC 30 W (((((((((((((((((((((((((y0.setCell ⟨W.heap.size + 1 + 1, 6, none⟩ (.string ⟨d.toArray⟩)).setCell ⟨W.heap.size + 1 + 1, 7, none⟩ (.string ⟨r.toArray⟩)).setCell ⟨W.heap.size + 1 + 1, 8, none⟩ (.string ⟨b.toArray⟩)).setCell ⟨W.heap.size + 1 + 1, 9, none⟩ (.string ⟨s.toArray⟩)).setCell ⟨W.heap.size + 1 + 1, 10, none⟩ (.string ⟨di.toArray⟩)).setCell ⟨W.heap.size + 1 + 1, 11, none⟩ (.string ⟨sm.toArray⟩)).setCell ⟨W.heap.size + 1 + 1, 12, none⟩ (.int .i64 l)).setCell ⟨W.heap.size + 1 + 1, 13, none⟩ (.int .i64 c)).setCell ⟨W.heap.size + 1 + 1, 14, none⟩ (.bool re)).setCell ⟨W.heap.size + 1 + 1, 15, none⟩ (.bool lo)).setCell ⟨W.heap.size + 1, 0, none⟩ (.int .i64 k)).setCell ⟨W.heap.size + 1, 1, none⟩ (.int .i64 dr)).setCell ⟨W.heap.size + 1, 2, none⟩ (.int .i64 st)).setCell ⟨W.heap.size + 1, 3, none⟩ (.int .i64 ti)).setCell ⟨W.heap.size + 1, 4, none⟩ (.string ⟨tx.toArray⟩)).setCell ⟨W.heap.size + 1, 5, none⟩ (.string ⟨nm.toArray⟩)).setCell ⟨W.heap.size + 1, 6, none⟩ (.string ⟨d.toArray⟩)).setCell ⟨W.heap.size + 1, 7, none⟩ (.string ⟨r.toArray⟩)).setCell ⟨W.heap.size + 1, 8, none⟩ (.string ⟨b.toArray⟩)).setCell ⟨W.heap.size + 1, 9, none⟩ (.string ⟨s.toArray⟩)).setCell ⟨W.heap.size + 1, 10, none⟩ (.string ⟨di.toArray⟩)).setCell ⟨W.heap.size + 1, 11, none⟩ (.string ⟨sm.toArray⟩)).setCell ⟨W.heap.size + 1, 12, none⟩ (.int .i64 l)).setCell ⟨W.heap.size + 1, 13, none⟩ (.int .i64 c)).setCell ⟨W.heap.size + 1, 14, none⟩ (.bool re)) #[.int .i64 k, .int .i64 dr, .int .i64 st, .int .i64 ti, .string ⟨tx.toArray⟩, .string ⟨nm.toArray⟩, .string ⟨d.toArray⟩, .string ⟨r.toArray⟩, .string ⟨b.toArray⟩, .string ⟨s.toArray⟩, .string ⟨di.toArray⟩, .string ⟨sm.toArray⟩, .int .i64 l, .int .i64 c, .bool re, .bool false] #[.int .i64 k, .int .i64 dr, .int .i64 st, .int .i64 ti, .string ⟨tx.toArray⟩, .string ⟨nm.toArray⟩, .string ⟨d.toArray⟩, .string ⟨r.toArray⟩, .string ⟨b.toArray⟩, .string ⟨s.toArray⟩, .string ⟨di.toArray⟩, .string ⟨sm.toArray⟩, .int .i64 l, .int .i64 c, .bool re, .bool lo] := R13.setr 14 (.bool re)
  have R15 : TC 30 W ((((((((((((((((((((((((((y0.setCell ⟨W.heap.size + 1 + 1, 6, none⟩ (.string ⟨d.toArray⟩)).setCell ⟨W.heap.size + 1 + 1, 7, none⟩ (.string ⟨r.toArray⟩)).setCell ⟨W.heap.size + 1 + 1, 8, none⟩ (.string ⟨b.toArray⟩)).setCell ⟨W.heap.size + 1 + 1, 9, none⟩ (.string ⟨s.toArray⟩)).setCell ⟨W.heap.size + 1 + 1, 10, none⟩ (.string ⟨di.toArray⟩)).setCell ⟨W.heap.size + 1 + 1, 11, none⟩ (.string ⟨sm.toArray⟩)).setCell ⟨W.heap.size + 1 + 1, 12, none⟩ (.int .i64 l)).setCell ⟨W.heap.size + 1 + 1, 13, none⟩ (.int .i64 c)).setCell ⟨W.heap.size + 1 + 1, 14, none⟩ (.bool re)).setCell ⟨W.heap.size + 1 + 1, 15, none⟩ (.bool lo)).setCell ⟨W.heap.size + 1, 0, none⟩ (.int .i64 k)).setCell ⟨W.heap.size + 1, 1, none⟩ (.int .i64 dr)).setCell ⟨W.heap.size + 1, 2, none⟩ (.int .i64 st)).setCell ⟨W.heap.size + 1, 3, none⟩ (.int .i64 ti)).setCell ⟨W.heap.size + 1, 4, none⟩ (.string ⟨tx.toArray⟩)).setCell ⟨W.heap.size + 1, 5, none⟩ (.string ⟨nm.toArray⟩)).setCell ⟨W.heap.size + 1, 6, none⟩ (.string ⟨d.toArray⟩)).setCell ⟨W.heap.size + 1, 7, none⟩ (.string ⟨r.toArray⟩)).setCell ⟨W.heap.size + 1, 8, none⟩ (.string ⟨b.toArray⟩)).setCell ⟨W.heap.size + 1, 9, none⟩ (.string ⟨s.toArray⟩)).setCell ⟨W.heap.size + 1, 10, none⟩ (.string ⟨di.toArray⟩)).setCell ⟨W.heap.size + 1, 11, none⟩ (.string ⟨sm.toArray⟩)).setCell ⟨W.heap.size + 1, 12, none⟩ (.int .i64 l)).setCell ⟨W.heap.size + 1, 13, none⟩ (.int .i64 c)).setCell ⟨W.heap.size + 1, 14, none⟩ (.bool re)).setCell ⟨W.heap.size + 1, 15, none⟩ (.bool lo)) #[.int .i64 k, .int .i64 dr, .int .i64 st, .int .i64 ti, .string ⟨tx.toArray⟩, .string ⟨nm.toArray⟩, .string ⟨d.toArray⟩, .string ⟨r.toArray⟩, .string ⟨b.toArray⟩, .string ⟨s.toArray⟩, .string ⟨di.toArray⟩, .string ⟨sm.toArray⟩, .int .i64 l, .int .i64 c, .bool re, .bool lo] #[.int .i64 k, .int .i64 dr, .int .i64 st, .int .i64 ti, .string ⟨tx.toArray⟩, .string ⟨nm.toArray⟩, .string ⟨d.toArray⟩, .string ⟨r.toArray⟩, .string ⟨b.toArray⟩, .string ⟨s.toArray⟩, .string ⟨di.toArray⟩, .string ⟨sm.toArray⟩, .int .i64 l, .int .i64 c, .bool re, .bool lo] := R14.setr 15 (.bool lo)
  have HFIN := Lib.hid R15.r
  have HBEL := Lib.hid R15.b
  clear hb2 U kp kr ko U6 U7 U8 U9 U10 U11 U12 U13 U14 U15 R0 R1 R2 R3 R4 R5 R6 R7 R8 R9 R10 R11 R12 R13 R14 R15
  go_wp2
  exact bodyPost_ret (ret_Ev Try.results6 rfl HFIN.out) rfl ⟨rfl, HBEL.out⟩
end Go.Proofs.Ytbkikbhnehjaaaa.Ev
