
/-
  Blocks and owned rows, generally; what has changed between two worlds, whatever the types of a seat.
-/
import Derived.Test.YtjakkmjipglkiaaDoorJsAt
namespace Go.Proofs.YtjakkmjipglkiaaDoor.Rm
open Go.RowKit
open Go.Proofs.YtjakkmjipglkiaaDoor.Js (heap_set)
theorem below_chain {W w w' : World} (h : Below W.heap.size W w) (h2 : Below w.heap.size w w') : Below W.heap.size W w' := h.trans (h2.mono h.size)
theorem below_grownBy {w w' : World} (h : Below w.heap.size w w') (row : Option Nat) : w.grownBy w' row := ⟨h.os, h.tape, h.output, h.size, fun k hk _ => h.block k hk⟩
theorem own_base {B C n s : Nat} {T : TypeId} {w : World} {v : Value} {xs : List Value} (h : w.ownsRow B T s v n xs) (hBC : C ≤ B) : w.ownsRow C T s v n xs := by
  obtain ⟨h1, h2⟩ := h
  refine ⟨h1, ?_⟩
  rcases h2 with hn | ⟨g, cap, cur, rfl, hb, rest⟩
  · exact .inl hn
  · exact .inr ⟨g, cap, cur, rfl, Nat.le_trans hBC hb, rest⟩
theorem own_slice {w : World} {B m n : Nat} {T : TypeId} {v : Value} {xs : List Value} (h : w.ownsRow B T m v n xs) : ∃ a c, v = .slice a n c := by
  rcases h.2 with ⟨rfl, h0⟩ | ⟨g, cap, cur, rfl, _⟩
  · exact ⟨none, 0, by rw [h0]⟩
  · exact ⟨_, _, rfl⟩
theorem own_apart {w : World} {b b' s s' n n' : Nat} {T T' : TypeId} {v v' : Value} {xs xs' : List Value} (h : w.ownsRow b T s v n xs) (h' : w.ownsRow b' T' s' v' n' xs') (hT : T ≠ T') : v.ownBlock = none ∨ v.ownBlock ≠ v'.ownBlock := by
  rcases h.2 with ⟨rfl, _⟩ | ⟨g, cap, cur, rfl, _, hg, _⟩
  · exact .inl rfl
  · rcases h'.2 with ⟨rfl, _⟩ | ⟨g', cap', cur', rfl, _, hg', _⟩
    · exact .inr (by simp [Value.ownBlock])
    · refine .inr fun e => ?_
      simp only [Value.ownBlock, Option.some.injEq] at e
      subst e
      rw [hg] at hg'
      simp only [Option.some.injEq, Obj.cells.injEq] at hg'
      exact hT hg'.2.1
def Hd (w : World) (b : Nat) (o : Obj) : Prop := w.heap[b]? = some o
theorem Hd.lt {w : World} {b : Nat} {o : Obj} (h : Hd w b o) : b < w.heap.size := (Array.getElem?_eq_some_iff.1 h).1
theorem Hd.blw {w w' : World} {b : Nat} {o : Obj} (h : Hd w b o) (hb : Below w.heap.size w w') : Hd w' b o := (hb.block b h.lt).trans h
theorem Hd.al {w : World} {b : Nat} {o : Obj} (h : Hd w b o) (x : Obj) : Hd (w.alloc x) b o := (heap_alloc_old _ _ h.lt).trans h
theorem Hd.new (w : World) (o : Obj) : Hd (w.alloc o) w.heap.size o := heap_alloc_new _ _
theorem Hd.grown {w w' : World} {row : Option Nat} {b : Nat} {o : Obj} (h : Hd w b o) (hg : w.grownBy w' row) (hne : some b ≠ row) : Hd w' b o := (hg.block b h.lt hne).trans h
theorem Hd.two {w : World} {g : Nat} {a b : Value} {T : TypeId} (h : Hd w g (.cells #[a, b] T)) :
    w.cell? ⟨g, 0, none⟩ = some a ∧ w.cell? ⟨g, 1, none⟩ = some b ∧ ∀ o, w.frozen? ⟨g, o, none⟩ = false :=
  ⟨cell_of_row w g 0 _ _ _ h, cell_of_row w g 1 _ _ _ h, fun o => frozen_of_row w g o _ _ h⟩
theorem Hd.three {w : World} {g : Nat} {a b c : Value} {T : TypeId} (h : Hd w g (.cells #[a, b, c] T)) :
    w.cell? ⟨g, 0, none⟩ = some a ∧ w.cell? ⟨g, 1, none⟩ = some b ∧ w.cell? ⟨g, 2, none⟩ = some c ∧ ∀ o, w.frozen? ⟨g, o, none⟩ = false :=
  ⟨cell_of_row w g 0 _ _ _ h, cell_of_row w g 1 _ _ _ h, cell_of_row w g 2 _ _ _ h, fun o => frozen_of_row w g o _ _ h⟩
theorem Hd.drewN {w : World} {b : Nat} {o : Obj} (h : Hd w b o) (n : Nat) : Hd (w.drewN n) b o := h
theorem belDrew {B : Nat} {a w : World} (h : Below B a w) (n : Nat) : Below B a (w.drewN n) := ⟨h.os, h.tape, h.output, h.size, h.block⟩
theorem grown_below {w w1 w2 : World} {row : Option Nat} (h : w.grownBy w1 row) (hb : Below w1.heap.size w1 w2) : w.grownBy w2 row :=
  ⟨hb.os.trans h.os, hb.tape.trans h.tape, hb.output.trans h.output, Nat.le_trans h.size hb.size, fun b hlt hne => (hb.block b (Nat.lt_of_lt_of_le hlt h.size)).trans (h.block b hlt hne)⟩
theorem grown_set {w w1 : World} {g o : Nat} (h : w.grownBy w1 (some g)) (x : Value) : w.grownBy (w1.setCell ⟨g, o, none⟩ x) (some g) :=
  ⟨h.os, h.tape, h.output, by simpa using h.size, fun b hlt hne => (heap_setCell_other w1 ⟨g, o, none⟩ b x (fun e => hne (by rw [e]))).trans (h.block b hlt hne)⟩
/-- w' is w but for what lies in the blocks of S -/
structure Ch (S : Nat → Prop) (w w' : World) : Prop where
  os : w'.os = w.os
  tape : w'.tape = w.tape
  output : w'.output = w.output
  size : w.heap.size ≤ w'.heap.size
  block : ∀ b, b < w.heap.size → ¬ S b → w'.heap[b]? = w.heap[b]?
theorem Ch.refl (S : Nat → Prop) (w : World) : Ch S w w := ⟨rfl, rfl, rfl, Nat.le_refl _, fun _ _ _ => rfl⟩
theorem Ch.trans {S : Nat → Prop} {w w1 w2 : World} (h : Ch S w w1) (h2 : Ch S w1 w2) : Ch S w w2 :=
  ⟨h2.os.trans h.os, h2.tape.trans h.tape, h2.output.trans h.output, Nat.le_trans h.size h2.size, fun b hb hS => (h2.block b (Nat.lt_of_lt_of_le hb h.size) hS).trans (h.block b hb hS)⟩
theorem Ch.of_grown {S : Nat → Prop} {w w' : World} {row : Option Nat} (h : w.grownBy w' row) (hr : ∀ g, row = some g → S g) : Ch S w w' :=
  ⟨h.os, h.tape, h.output, h.size, fun b hb hS => h.block b hb (fun e => hS (hr b e.symm))⟩
theorem Ch.of_below {S : Nat → Prop} {w w' : World} (h : Below w.heap.size w w') : Ch S w w' := ⟨h.os, h.tape, h.output, h.size, fun b hb _ => h.block b hb⟩
theorem Ch.below {S : Nat → Prop} {B : Nat} {a w w' : World} (hm : Ch S w w') (h : Below B a w) (hB : B ≤ w.heap.size) (hS : ∀ b, S b → B ≤ b) : Below B a w' :=
  ⟨hm.os.trans h.os, hm.tape.trans h.tape, hm.output.trans h.output, Nat.le_trans h.size hm.size, fun b hb => (hm.block b (by omega) (fun e => by have := hS b e; omega)).trans (h.block b hb)⟩
theorem Ch.hd {S : Nat → Prop} {w w' : World} {b : Nat} {o : Obj} (hm : Ch S w w') (h : Hd w b o) (hS : ¬ S b) : Hd w' b o := (hm.block b h.lt hS).trans h
theorem own_ch {S : Nat → Prop} {w w' : World} {B s n : Nat} {T : TypeId} {v : Value} {xs : List Value} (hm : Ch S w w') (h : w.ownsRow B T s v n xs) (hS : ∀ b, v.ownBlock = some b → ¬ S b) : w'.ownsRow B T s v n xs := by
  obtain ⟨h1, h2⟩ := h
  refine ⟨h1, ?_⟩
  rcases h2 with hn | ⟨g, cap, cur, rfl, hb, hgg, rest⟩
  · exact .inl hn
  · exact .inr ⟨g, cap, cur, rfl, hb, (hm.block g (Array.getElem?_eq_some_iff.1 hgg).1 (hS g rfl)).trans hgg, rest⟩
theorem Hd.set {w : World} {b : Nat} {C : Array Value} {T : TypeId} (h : Hd w b (.cells C T)) (o : Nat) (v : Value) : Hd (w.setCell ⟨b, o, none⟩ v) b (.cells (C.setIfInBounds o v) T) := heap_set h o v
theorem Hd.far {w : World} {b : Nat} {ob : Obj} (h : Hd w b ob) {g o : Nat} {x : Value} (hne : b ≠ g) : Hd (w.setCell ⟨g, o, none⟩ x) b ob := (heap_setCell_other w ⟨g, o, none⟩ b x hne).trans h
theorem Hd.one {w : World} {g : Nat} {a : Value} {T : TypeId} (h : Hd w g (.cells #[a] T)) : w.cell? ⟨g, 0, none⟩ = some a ∧ ∀ o, w.frozen? ⟨g, o, none⟩ = false :=
  ⟨cell_of_row w g 0 _ _ _ h, fun o => frozen_of_row w g o _ _ h⟩
theorem Hd.set1 {w : World} {b : Nat} {a : Value} {T : TypeId} (h : Hd w b (.cells #[a] T)) (v : Value) : Hd (w.setCell ⟨b, 0, none⟩ v) b (.cells #[v] T) := heap_set h 0 v
theorem Ch.set {S : Nat → Prop} {w w1 : World} (h : Ch S w w1) {g o : Nat} {x : Value} (hS : S g) : Ch S w (w1.setCell ⟨g, o, none⟩ x) :=
  ⟨h.os, h.tape, h.output, by simpa using h.size, fun b hb hn => (heap_setCell_other w1 ⟨g, o, none⟩ b x (fun e => hn (e ▸ hS))).trans (h.block b hb hn)⟩
theorem Ch.newer {S : Nat → Prop} {w w1 : World} (h : Ch S w w1) {g o : Nat} {x : Value} (hg : w.heap.size ≤ g) : Ch S w (w1.setCell ⟨g, o, none⟩ x) :=
  ⟨h.os, h.tape, h.output, by simpa using h.size, fun b hb hn => (heap_setCell_other w1 ⟨g, o, none⟩ b x (fun e => by simp only at e; omega)).trans (h.block b hb hn)⟩
theorem Ch.alloc {S : Nat → Prop} {w w1 : World} (h : Ch S w w1) (o : Obj) : Ch S w (w1.alloc o) := h.trans (.of_below ((Below.refl _ _).alloc (Nat.le_refl _) o))
theorem Ch.drewN {S : Nat → Prop} {w w1 : World} (h : Ch S w w1) (n : Nat) : Ch S w (w1.drewN n) := ⟨h.os, h.tape, h.output, h.size, h.block⟩
theorem Ch.bel {S : Nat → Prop} {w w1 w2 : World} (h : Ch S w w1) (hb : Below w1.heap.size w1 w2) : Ch S w w2 := h.trans (.of_below hb)
theorem Ch.mono {S T : Nat → Prop} {w w1 : World} (h : Ch S w w1) (hS : ∀ b, b < w.heap.size → S b → T b) : Ch T w w1 := ⟨h.os, h.tape, h.output, h.size, fun b hb hT => h.block b hb fun hs => hT (hS b hb hs)⟩
/-- a change of blocks that are new since a is no change of what a has -/
theorem Ch.back {S T : Nat → Prop} {a w w1 : World} (h : Ch S a w) (h2 : Ch T w w1) (hT : ∀ b, T b → S b ∨ a.heap.size ≤ b) : Ch S a w1 :=
  ⟨h2.os.trans h.os, h2.tape.trans h.tape, h2.output.trans h.output, Nat.le_trans h.size h2.size, fun b hb hS => (h2.block b (Nat.lt_of_lt_of_le hb h.size) fun ht => by rcases hT b ht with h' | h'; exact hS h'; omega).trans (h.block b hb hS)⟩
end Go.Proofs.YtjakkmjipglkiaaDoor.Rm
