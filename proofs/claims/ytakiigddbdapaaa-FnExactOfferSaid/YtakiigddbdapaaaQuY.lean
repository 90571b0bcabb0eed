
/-
  The first reports removed from an open queue.
-/
import Derived.Test.YtakiigddbdapaaaQuX
namespace Go.Proofs.Ytakiigddbdapaaa.Qu
open Go.RowKit
open Go.Proofs.Ytakiigddbdapaaa.Tx
theorem Try.infoInt : (Try.prog.info? 3).map (fun i => (i.zero, i.size, i.bytes)) = some (some (.int .i64 0), 1, 8) := by kernel_rfl
theorem Try.fldRp0 (a b c d : Value) (w : World) : (Instr.field 38 (.agg #[a, b, c, d]) 0).run Try.prog w = .ok a w := by kernel_rfl
theorem one_int (a : Int) : ∀ u ∈ [Value.int .i64 a], u.oneCell' = true := by
  intro u hu
  rw [List.mem_singleton.1 hu]
  rfl
theorem Ch.grown {S : Nat → Prop} {W w w' : World} {row : Option Nat} (h : Ch S W w) (hg : w.grownBy w' row) (hr : ∀ g, row = some g → W.heap.size ≤ g) : Ch S W w' :=
  ⟨hg.os.trans h.os, hg.tape.trans h.tape, hg.output.trans h.output, Nat.le_trans h.size hg.size, fun b hb hS => (hg.block b (Nat.lt_of_lt_of_le hb h.size) (fun e => by have := hr b e.symm; omega)).trans (h.block b hb hS)⟩
theorem Ch.al {S : Nat → Prop} {W w : World} (h : Ch S W w) (o : Obj) : Ch S W (w.alloc o) := h.grown (row := none) (World.grownBy_alloc w o none) (fun g e => by cases e)
theorem RgR.gr {w w' : World} {row : Option Nat} {rb cb : Nat} {xs : List Rep} (h : RgR w rb cb xs) (hg : w.grownBy w' row) (h1 : some rb ≠ row) (h2 : some cb ≠ row) : RgR w' rb cb xs := by
  obtain ⟨cs, f, h3, h4, h5⟩ := h
  exact ⟨cs, f, h3, h4.grown hg h1, h5.grown hg h2⟩
theorem RgT.gr {w w' : World} {row : Option Nat} {rb cb : Nat} {xs : List (List UInt8)} (h : RgT w rb cb xs) (hg : w.grownBy w' row) (h1 : some rb ≠ row) (h2 : some cb ≠ row) : RgT w' rb cb xs := by
  obtain ⟨cs, f, h3, h4, h5⟩ := h
  exact ⟨cs, f, h3, h4.grown hg h1, h5.grown hg h2⟩
abbrev idsOf (xs : List Rep) : List Int := xs.map fun r => r.id
/-- k reports are removed, their Ids are owned -/
structure Rf (W : World) (ra ca rb cb : Nat) (xs : List Rep) (ys : List (List UInt8)) (ds : List Int) (v : Value) (w : World) : Prop where
  H : Hd w W.heap.size (oO ra rb)
  R : RgR w ra ca xs
  T : RgT w rb cb ys
  I : OI w (W.heap.size + 1) v ds
  m : Ch (fun b => b = ra ∨ b = ca) W w
  l : ra < W.heap.size ∧ ca < W.heap.size ∧ rb < W.heap.size ∧ cb < W.heap.size
  n1 : ra ≠ rb
  n2 : ra ≠ cb
  n3 : ca ≠ rb
  n4 : ca ≠ cb
theorem Rf.rem {W w w3 : World} {ra ca rb cb : Nat} {xs t : List Rep} {ys : List (List UInt8)} {ds : List Int} {v : Value} (h : Rf W ra ca rb cb xs ys ds v w) (hR : RgR w3 ra ca t) (hm : Ch (fun b => b = ra ∨ b = ca) w w3) : Rf W ra ca rb cb t ys ds v w3 := by
  have hl := h.l
  have n1 := h.n1
  have n2 := h.n2
  have n3 := h.n3
  have n4 := h.n4
  refine ⟨hm.hd h.H (by omega), hR, h.T.ch hm (by omega) (by omega), own_ch hm h.I (fun b e x => by have := (World.ownsRow.lt h.I b e).1; omega), ?_, h.l, h.n1, h.n2, h.n3, h.n4⟩
  exact ⟨hm.os.trans h.m.os, hm.tape.trans h.m.tape, hm.output.trans h.m.output, Nat.le_trans h.m.size hm.size, fun b hb hS => (hm.block b (Nat.lt_of_lt_of_le hb h.m.size) hS).trans (h.m.block b hb hS)⟩
theorem Rf.al {W w : World} {ra ca rb cb : Nat} {xs : List Rep} {ys : List (List UInt8)} {ds : List Int} {v : Value} (h : Rf W ra ca rb cb xs ys ds v w) (o : Obj) : Rf W ra ca rb cb xs ys ds v (w.alloc o) :=
  have hb := (Below.refl w.heap.size w).alloc (Nat.le_refl _) o
  ⟨h.H.blw hb, h.R.blw hb, h.T.blw hb, OI.below h.I hb, h.m.al o, h.l, h.n1, h.n2, h.n3, h.n4⟩
theorem Rf.app {W w w' : World} {ra ca rb cb : Nat} {xs : List Rep} {ys : List (List UInt8)} {ds ds' : List Int} {v v' : Value} (h : Rf W ra ca rb cb xs ys ds v w) (hg : w.grownBy w' v.ownBlock) (hI : OI w' (W.heap.size + 1) v' ds') : Rf W ra ca rb cb xs ys ds' v' w' := by
  have hl := h.l
  have hne : ∀ b, b ≤ W.heap.size → some b ≠ v.ownBlock := fun b hb e => by have := (World.ownsRow.lt h.I b e.symm).1; omega
  exact ⟨h.H.grown hg (hne _ (by omega)), h.R.gr hg (hne _ (by omega)) (hne _ (by omega)), h.T.gr hg (hne _ (by omega)) (hne _ (by omega)), hI, h.m.grown hg (fun g e => by have := (World.ownsRow.lt h.I g e).1; omega), h.l, h.n1, h.n2, h.n3, h.n4⟩
theorem OI.snoc {w : World} {base : Nat} {v : Value} {ds : List Int} {x : Int} (h : w.ownsRow base 3 1 v (ds.length + 1) (intV ds ++ [.int .i64 x])) : OI w base v (ds ++ [x]) := by
  unfold OI
  simpa [intV] using h
/-- the open queue behind the call, and the Ids -/
def NewIds (W : World) (base ra ca rb cb : Nat) (q : Q) (n : Nat) (e : Ending) (w' : World) : Prop := ∃ v, e = .returned v ∧ OI w' W.heap.size v (idsOf (q.items.take n)) ∧ OpQ base w' ra ca rb cb ⟨q.items.drop n, q.recent⟩ ∧ Ch (fun b => b = ra ∨ b = ca) W w'
theorem OpQ.lts {base : Nat} {w : World} {ra ca rb cb : Nat} {q : Q} (h : OpQ base w ra ca rb cb q) : ra < w.heap.size ∧ ca < w.heap.size ∧ rb < w.heap.size ∧ cb < w.heap.size := by
  have h1 := h.R.lts
  have h2 := h.T.lts
  omega
end Go.Proofs.Ytakiigddbdapaaa.Qu
