
/-
  What the laws on queues carry from world to world: the argument's box, the model's answer, the program's answer with what it owns; plain facts on sizes.
-/
import Derived.Test.YtakiigddbdapaaaQuL
import Derived.Test.YtakiigddbdapaaaQuM
namespace Go.Proofs.Ytakiigddbdapaaa.Qu
open Go.RowKit
open Go.Proofs.Ytakiigddbdapaaa.Tx
/-- the argument's box and the model's answer: all of it in blocks below s -/
structure St0 (W : World) (a1 a2 : Value) (s pb : Nat) (po : Obj) (pi pr pd : Value) (R : Q) (D : List Int) (w : World) : Prop where
  A : Hd w W.heap.size (lqO a1 a2)
  B : Below W.heap.size W w
  P : Hd w pb po
  f1 : RpIn (· < s) w pi R.items
  f2 : TxtsIn (· < s) w pr R.recent
  f3 : IntsIn (· < s) w pd D
  zA : W.heap.size < s
  zP : pb < s
  z : s ≤ w.heap.size
theorem St0.below {W w w' : World} {a1 a2 : Value} {s pb : Nat} {po : Obj} {pi pr pd : Value} {R : Q} {D : List Int} (h : St0 W a1 a2 s pb po pi pr pd R D w) (hb : Below w.heap.size w w') : St0 W a1 a2 s pb po pi pr pd R D w' :=
  ⟨h.A.blw hb, below_chain h.B hb, h.P.blw hb, h.f1.blw (hb.mono h.z), h.f2.blw (hb.mono h.z), h.f3.same fun b hlt => ⟨hlt, hb.block b (Nat.lt_of_lt_of_le hlt h.z)⟩, h.zA, h.zP, Nat.le_trans h.z hb.size⟩
theorem St0.ch {S : Nat → Prop} {W w w' : World} {a1 a2 : Value} {s pb : Nat} {po : Obj} {pi pr pd : Value} {R : Q} {D : List Int} (h : St0 W a1 a2 s pb po pi pr pd R D w) (hm : Ch S w w') (hS : ∀ b, S b → s ≤ b) : St0 W a1 a2 s pb po pi pr pd R D w' := by
  have hn : ∀ b, b < s → b < w.heap.size ∧ ¬ S b := fun b hb => ⟨Nat.lt_of_lt_of_le hb h.z, fun e => by have := hS b e; omega⟩
  exact ⟨hm.hd h.A (hn _ h.zA).2, hm.below h.B (Nat.le_trans (Nat.le_of_lt h.zA) h.z) (fun b e => Nat.le_trans (Nat.le_of_lt h.zA) (hS b e)), hm.hd h.P (hn _ h.zP).2, hm.rp h.f1 hn, hm.txts h.f2 hn, hm.ints h.f3 hn, h.zA, h.zP, Nat.le_trans h.z hm.size⟩
/-- besides: the program's answer, owned from s2 on -/
structure St (W : World) (a1 a2 : Value) (s pb : Nat) (po : Obj) (pi pr pd : Value) (R : Q) (D : List Int) (s2 gb : Nat) (go : Obj) (gi gr gd : Value) (G : Q) (E : List Int) (w : World) : Prop where
  o : St0 W a1 a2 s pb po pi pr pd R D w
  z : s ≤ s2
  z2 : s2 ≤ w.heap.size
  g1 : O4 w s2 gi G.items
  g2 : O1 w s2 gr G.recent
  g3 : OI w s2 gd E
  H : Hd w gb go
  n1 : ∀ b, gi.ownBlock = some b → b ≠ gb
  n2 : ∀ b, gr.ownBlock = some b → b ≠ gb
  n3 : ∀ b, gd.ownBlock = some b → b ≠ gb
section
variable {W w w' : World} {a1 a2 : Value} {s pb : Nat} {po : Obj} {pi pr pd : Value} {R : Q} {D : List Int} {s2 gb : Nat} {go : Obj} {gi gr gd : Value} {G G' : Q} {E E' : List Int}
theorem St.below (h : St W a1 a2 s pb po pi pr pd R D s2 gb go gi gr gd G E w) (hb : Below w.heap.size w w') : St W a1 a2 s pb po pi pr pd R D s2 gb go gi gr gd G E w' :=
  ⟨h.o.below hb, h.z, Nat.le_trans h.z2 hb.size, h.g1.below hb, h.g2.below hb, h.g3.below hb, h.H.blw hb, h.n1, h.n2, h.n3⟩
/-- the argument's copy is marked -/
theorem St.markX {S : Nat → Prop} (h : St W a1 a2 s pb po pi pr pd R D s2 gb go gi gr gd G E w) (hm : Ch S w w') (hS : ∀ b, S b → s ≤ b ∧ b < s2) (hg : s2 ≤ gb ∨ gb < s) : St W a1 a2 s pb po pi pr pd R D s2 gb go gi gr gd G E w' := by
  have hn : ∀ {T : TypeId} {k : Nat} {v : Value} {n : Nat} {xs : List Value}, w.ownsRow s2 T k v n xs → ∀ b, v.ownBlock = some b → ¬ S b := fun h1 b e hb => by
    have h2 := (World.ownsRow.lt h1 b e).1
    have h3 := (hS b hb).2
    omega
  exact ⟨h.o.ch hm fun b hb => (hS b hb).1, h.z, Nat.le_trans h.z2 hm.size, own_ch hm h.g1 (hn h.g1), own_ch hm h.g2 (hn h.g2), own_ch hm h.g3 (hn h.g3), hm.hd h.H (fun e => by have := hS _ e; omega), h.n1, h.n2, h.n3⟩
/-- the answer is marked -/
theorem St.markG {S : Nat → Prop} (h : St W a1 a2 s pb po pi pr pd R D s2 gb go gi gr gd G E w) (hm : Ch S w w') (hS : ∀ b, S b → s2 ≤ b ∧ b ≠ gb) (k1 : O4 w' s2 gi G'.items) (k2 : O1 w' s2 gr G'.recent) (k3 : OI w' s2 gd E') : St W a1 a2 s pb po pi pr pd R D s2 gb go gi gr gd G' E' w' :=
  ⟨h.o.ch hm fun b hb => Nat.le_trans h.z (hS b hb).1, h.z, Nat.le_trans h.z2 hm.size, k1, k2, k3, hm.hd h.H (fun e => (hS _ e).2 rfl), h.n1, h.n2, h.n3⟩
/-- only its reports are marked -/
theorem St.markR {ts : List Rep} (h : St W a1 a2 s pb po pi pr pd R D s2 gb go gi gr gd G E w) (hg : w.grownBy w' gi.ownBlock) (k1 : O4 w' s2 gi ts) : St W a1 a2 s pb po pi pr pd R D s2 gb go gi gr gd ⟨ts, G.recent⟩ E w' :=
  h.markG (S := fun b => gi.ownBlock = some b) (Ch.of_grown hg fun g e => e) (fun b e => ⟨(World.ownsRow.lt h.g1 b e).1, h.n1 b e⟩) k1
    (World.ownsRow.kept h.g2 hg (own_apart h.g2 h.g1 (by decide))) (World.ownsRow.kept h.g3 hg (own_apart h.g3 h.g1 (by decide)))
/-- its numbers are marked -/
theorem St.markI {ds : List Int} (h : St W a1 a2 s pb po pi pr pd R D s2 gb go gi gr gd G E w) (hg : w.grownBy w' gd.ownBlock) (k3 : OI w' s2 gd ds) : St W a1 a2 s pb po pi pr pd R D s2 gb go gi gr gd G ds w' :=
  h.markG (S := fun b => gd.ownBlock = some b) (Ch.of_grown hg fun g e => e) (fun b e => ⟨(World.ownsRow.lt h.g3 b e).1, h.n3 b e⟩)
    (World.ownsRow.kept h.g1 hg (own_apart h.g1 h.g3 (by decide))) (World.ownsRow.kept h.g2 hg (own_apart h.g2 h.g3 (by decide))) k3
/-- its queue is marked -/
theorem St.markQ {G' : Q} (h : St W a1 a2 s pb po pi pr pd R D s2 gb go gi gr gd G E w) (hm : Ch (fun b => gi.ownBlock = some b ∨ gr.ownBlock = some b) w w') (k1 : O4 w' s2 gi G'.items) (k2 : O1 w' s2 gr G'.recent) : St W a1 a2 s pb po pi pr pd R D s2 gb go gi gr gd G' E w' :=
  h.markG hm (fun b e => e.elim (fun e => ⟨(World.ownsRow.lt h.g1 b e).1, h.n1 b e⟩) (fun e => ⟨(World.ownsRow.lt h.g2 b e).1, h.n2 b e⟩)) k1 k2
    (own_ch hm h.g3 fun b e x => by
      rcases x with x | x
      · rcases own_apart h.g3 h.g1 (by decide) with e1 | e1
        · rw [e] at e1; cases e1
        · exact e1 (e.trans x.symm)
      · rcases own_apart h.g3 h.g2 (by decide) with e1 | e1
        · rw [e] at e1; cases e1
        · exact e1 (e.trans x.symm))
end
end Go.Proofs.Ytakiigddbdapaaa.Qu
