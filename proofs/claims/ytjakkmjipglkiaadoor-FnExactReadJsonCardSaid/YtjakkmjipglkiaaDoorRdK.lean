
/-
  The reader of an object, so far; its closure, walked.
-/
import Derived.Test.YtjakkmjipglkiaaDoorRdG
import Derived.Test.YtjakkmjipglkiaaDoorJoA
namespace Go.Proofs.YtjakkmjipglkiaaDoor.Rd
open Go.RowKit
open Go.Proofs.YtjakkmjipglkiaaDoor.Rm
open Go.Proofs.YtjakkmjipglkiaaDoor.Js (J VIn VLn TxtsIn strV)
/-- the reader of an object, so far -/
structure OS (R Br O Bo : Nat) (oi : Int) (W0 : World) (ns : List B) (xs : List J) (rs : B) (w : World) : Prop where
  rd : Hd w R (rdO rs)
  br : Hd w Br (.cells #[ptI R] 45)
  bo : Hd w Bo (.cells #[.int .i64 oi] 3)
  short : ∀ t ∈ ns, t.length ≤ 120
  ob : ∃ nv iv vals, Hd w O (.cells #[nv, iv] 60) ∧ w.ownsRow W0.heap.size 9 1 nv ns.length (strV ns) ∧ w.ownsRow W0.heap.size 33 1 iv xs.length vals ∧ Vs (fun b => nv.ownBlock = some b ∨ iv.ownBlock = some b ∨ b = O) W0.heap.size w vals xs
  ch : Ch (· = R) W0 w
/-- ended by a code -/
structure OE (R O : Nat) (W0 w : World) : Prop where
  rd : ∃ rs, Hd w R (rdO rs)
  ob : ∃ an ln cn ai li ci, Hd w O (.cells #[.slice an ln cn, .slice ai li ci] 60)
  ch : Ch (· = R) W0 w
theorem OS.oe {R Br O Bo : Nat} {oi : Int} {W0 w : World} {ns : List B} {xs : List J} {rs : B} (h : OS R Br O Bo oi W0 ns xs rs w) : OE R O W0 w := by
  obtain ⟨nv, iv, vals, h1, h2, h3, _⟩ := h.ob
  obtain ⟨a, c, rfl⟩ := own_slice h2
  obtain ⟨a', c', rfl⟩ := own_slice h3
  exact ⟨⟨rs, h.rd⟩, ⟨_, _, _, _, _, _, h1⟩, h.ch⟩
theorem OS.step {R Br O Bo : Nat} {oi : Int} {W0 w w' : World} {ns : List B} {xs : List J} {rs rs' : B} (h : OS R Br O Bo oi W0 ns xs rs w) (hR : R < W0.heap.size) (hBr : W0.heap.size ≤ Br) (hBo : W0.heap.size ≤ Bo) (hO : W0.heap.size ≤ O) (hc : Ch (· = R) w w') (h' : Hd w' R (rdO rs')) : OS R Br O Bo oi W0 ns xs rs' w' := by
  obtain ⟨nv, iv, vals, h1, h2, h3, h4⟩ := h.ob
  exact ⟨h', hc.hd h.br (by omega), hc.hd h.bo (by omega), h.short, ⟨nv, iv, vals, hc.hd h1 (by omega), own_ch hc h2 (fun b hb e => by have := (h2.lt b hb).1; omega), own_ch hc h3 (fun b hb e => by have := (h3.lt b hb).1; omega), h4.move hc.size fun b hb hlt hD => ⟨hD, hc.block b hlt (by omega)⟩⟩, h.ch.trans hc⟩
/-- the names as texts -/
theorem names_in {w : World} {base : Nat} {nv : Value} {ns : List B} (h : w.ownsRow base 9 1 nv ns.length (strV ns)) (hl : ∀ t ∈ ns, t.length ≤ 120) : TxtsIn (fun b => nv.ownBlock = some b) w nv ns :=
  Js.O1.txts (base := base) h (fun t ht => by have := hl t ht; omega)
theorem os_add {R Br O Bo : Nat} {oi : Int} {W0 w w3 w4 w6 : World} {ns : List B} {xs : List J} {rs r3 t : B} {nv nv' iv iv' v : Value} {vals : List Value} {j : J} {o o' : Obj} (h : OS R Br O Bo oi W0 ns xs rs w) (hR : R < W0.heap.size) (hBr : W0.heap.size ≤ Br) (hBo : W0.heap.size ≤ Bo) (hO : W0.heap.size ≤ O) (hne1 : Br ≠ O) (hne2 : Bo ≠ O) (ht : t.length ≤ 120)
    (ho : Hd w O (.cells #[nv, iv] 60)) (hn : w.ownsRow W0.heap.size 9 1 nv ns.length (strV ns)) (hi : w.ownsRow W0.heap.size 33 1 iv xs.length vals) (hvs : Vs (fun b => nv.ownBlock = some b ∨ iv.ownBlock = some b ∨ b = O) W0.heap.size w vals xs)
    (hc : Ch (· = R) w w3) (h3 : Hd w3 R (rdO r3)) (hv : VIn (fun b => w.heap.size ≤ b ∧ b < w3.heap.size) w3 v j)
    (hn4 : w4.ownsRow W0.heap.size 9 1 nv' (ns.length + 1) (strV ns ++ [.string ⟨t.toArray⟩])) (hg4 : (w3.alloc o).grownBy w4 nv.ownBlock) (hp4 : nv'.ownBlock = nv.ownBlock ∨ nv'.ownBlock = some (w3.alloc o).heap.size)
    (hi6 : w6.ownsRow W0.heap.size 33 1 iv' (xs.length + 1) (vals ++ [v])) (hg6 : ((w4.setCell ⟨O, 0, none⟩ nv').alloc o').grownBy w6 iv.ownBlock) (hp6 : iv'.ownBlock = iv.ownBlock ∨ iv'.ownBlock = some ((w4.setCell ⟨O, 0, none⟩ nv').alloc o').heap.size) :
    OS R Br O Bo oi W0 (ns ++ [t]) (xs ++ [j]) r3 (w6.setCell ⟨O, 1, none⟩ iv') := by
  have s0 := h.ch.size
  have s1 := hc.size
  have s4 := hg4.size
  have s6 := hg6.size
  have e3 : (w3.alloc o).heap.size = w3.heap.size + 1 := by simp
  have e5 : ((w4.setCell ⟨O, 0, none⟩ nv').alloc o').heap.size = w4.heap.size + 1 := by simp
  have e7 : (w6.setCell ⟨O, 1, none⟩ iv').heap.size = w6.heap.size := by simp
  have hltn := hn.lt
  have hlti := hi.lt
  have hOw := ho.lt
  have aO := hd_apart ho hn (by decide)
  have aO2 := hd_apart ho hi (by decide)
  have aBr := hd_apart h.br hn (by decide)
  have aBr2 := hd_apart h.br hi (by decide)
  have aBo := hd_apart h.bo hn (by decide)
  have aBo2 := hd_apart h.bo hi (by decide)
  have ani := own_apart hn hi (by decide)
  have ani' : ∀ b, nv.ownBlock = some b → iv.ownBlock ≠ some b := fun b e e2 => by
    rcases ani with h' | h'
    · rw [h'] at e; cases e
    · exact h' (e.trans e2.symm)
  have hRn : nv.ownBlock ≠ some R := fun e => by have := (hltn R e).1; omega
  have hRi : iv.ownBlock ≠ some R := fun e => by have := (hlti R e).1; omega
  have keep4 : ∀ b, b < w3.heap.size → nv.ownBlock ≠ some b → w4.heap[b]? = w3.heap[b]? := fun b hb h1 => by
    rw [hg4.block b (by omega) (fun e => h1 e.symm), heap_alloc_old _ _ hb]
  have keep : ∀ b, b < w3.heap.size → nv.ownBlock ≠ some b → iv.ownBlock ≠ some b → b ≠ O → (w6.setCell ⟨O, 1, none⟩ iv').heap[b]? = w3.heap[b]? := fun b hb h1 h2 h3 => by
    rw [heap_setCell_other _ ⟨O, 1, none⟩ b iv' (by simpa using h3), hg6.block b (by omega) (fun e => h2 e.symm), heap_alloc_old _ _ (by simp; omega), heap_setCell_other _ ⟨O, 0, none⟩ b nv' (by simpa using h3), keep4 b hb h1]
  have hn' : ∀ b, b < w3.heap.size → nv.ownBlock ≠ some b → nv'.ownBlock ≠ some b := fun b hb hne e => by
    rcases hp4 with h | h
    · exact hne (h ▸ e)
    · rw [h] at e; simp at e; omega
  have hi' : ∀ b, b < w3.heap.size → iv.ownBlock ≠ some b → iv'.ownBlock ≠ some b := fun b hb hne e => by
    rcases hp6 with h | h
    · exact hne (h ▸ e)
    · rw [h] at e; simp at e; omega
  have hd : ∀ {b : Nat} {ob : Obj}, Hd w3 b ob → nv.ownBlock ≠ some b → iv.ownBlock ≠ some b → b ≠ O → Hd (w6.setCell ⟨O, 1, none⟩ iv') b ob := fun {b ob} hh h1 h2 h3 => (keep b hh.lt h1 h2 h3).trans hh
  have hO4 : Hd w4 O (.cells #[nv, iv] 60) := ((hc.hd ho (by omega)).al o).grown hg4 (fun e => aO e.symm)
  have hO5 : Hd (w4.setCell ⟨O, 0, none⟩ nv') O (.cells #[nv', iv] 60) := hO4.set 0 nv'
  have hO6 : Hd w6 O (.cells #[nv', iv] 60) := (hO5.al o').grown hg6 (fun e => aO2 e.symm)
  have hO7 : Hd (w6.setCell ⟨O, 1, none⟩ iv') O (.cells #[nv', iv'] 60) := hO6.set 1 iv'
  have hn5 : (w4.setCell ⟨O, 0, none⟩ nv').ownsRow W0.heap.size 9 1 nv' (ns.length + 1) (strV ns ++ [.string ⟨t.toArray⟩]) :=
    own_ch (S := (· = O)) ((Ch.refl _ w4).set rfl) hn4 (fun b hb e => hd_apart hO4 hn4 (by decide) (e ▸ hb))
  have hn6 : w6.ownsRow W0.heap.size 9 1 nv' (ns.length + 1) (strV ns ++ [.string ⟨t.toArray⟩]) :=
    own_ch (S := fun b => iv.ownBlock = some b) (Ch.of_grown hg6 (fun _ e => e)) (hn5.alloc o') (fun b hb e => by
      rcases hp4 with hp | hp
      · exact ani' b (hp ▸ hb) e
      · rw [hp] at hb
        simp at hb
        have := (hlti b e).2
        omega)
  have hn7 : (w6.setCell ⟨O, 1, none⟩ iv').ownsRow W0.heap.size 9 1 nv' (ns.length + 1) (strV ns ++ [.string ⟨t.toArray⟩]) :=
    own_ch (S := (· = O)) ((Ch.refl _ w6).set rfl) hn6 (fun b hb e => hd_apart hO6 hn6 (by decide) (e ▸ hb))
  have hi7 : (w6.setCell ⟨O, 1, none⟩ iv').ownsRow W0.heap.size 33 1 iv' (xs.length + 1) (vals ++ [v]) :=
    own_ch (S := (· = O)) ((Ch.refl _ w6).set rfl) hi6 (fun b hb e => hd_apart hO6 hi6 (by decide) (e ▸ hb))
  refine ⟨hd h3 hRn hRi (by omega), hd (hc.hd h.br (by omega)) aBr aBr2 hne1, hd (hc.hd h.bo (by omega)) aBo aBo2 hne2, fun u hu => ?_, ⟨nv', iv', vals ++ [v], hO7, by simpa using hn7, by simpa using hi7, ?_⟩, ?_⟩
  · rcases List.mem_append.1 hu with hu | hu
    · exact h.short u hu
    · simp at hu; subst hu; exact ht
  · refine Vs.snoc (hvs.move (by omega) fun b h1 h2 h3 => ?_) (hv.same fun b hS => ?_)
    · have hn1 : nv.ownBlock ≠ some b := fun e => h3 (.inl e)
      have hn2 : iv.ownBlock ≠ some b := fun e => h3 (.inr (.inl e))
      have hn3 : b ≠ O := fun e => h3 (.inr (.inr e))
      refine ⟨fun hh => by rcases hh with hh | hh | hh; exact hn' b (by omega) hn1 hh; exact hi' b (by omega) hn2 hh; exact hn3 hh, ?_⟩
      rw [keep b (by omega) hn1 hn2 hn3]
      exact hc.block b h2 (by omega)
    · have hn1 : nv.ownBlock ≠ some b := fun e => by have := (hltn b e).2; omega
      have hn2 : iv.ownBlock ≠ some b := fun e => by have := (hlti b e).2; omega
      have hn3 : b ≠ O := by omega
      exact ⟨⟨by omega, by omega, fun hh => by rcases hh with hh | hh | hh; exact hn' b hS.2 hn1 hh; exact hi' b hS.2 hn2 hh; exact hn3 hh⟩, keep b hS.2 hn1 hn2 hn3⟩
  · have c4 : Ch (· = R) W0 w4 := Ch.row (h.ch.trans hc) hg4 (fun b e => (hltn b e).1)
    exact (Ch.row (c4.newer hO) hg6 (fun b e => (hlti b e).1)).newer hO
end Go.Proofs.YtjakkmjipglkiaaDoor.Rd
