
/-
  The program's readList with its closure, and readItems of it, walked.
-/
import Derived.Test.YtjakkmjipglkiaaDoorRdC
namespace Go.Proofs.YtjakkmjipglkiaaDoor.Rd
open Go.RowKit
open Go.Proofs.YtjakkmjipglkiaaDoor.Rm
open Go.Proofs.YtjakkmjipglkiaaDoor.Js (J VIn)
/-- what readValue says -/
def ValP (R : Nat) (W : World) (res : Int × J × B) (e : Ending) (w' : World) : Prop :=
  ∃ v r, e = .returned (.tuple #[v, .int .i64 res.1]) ∧ (res.1 = 0 → r = res.2.2 ∧ VIn (fun b => W.heap.size ≤ b ∧ b < w'.heap.size) w' v res.2.1) ∧ (v = .nilIface ∨ ∃ T x, v = .iface T x) ∧ Hd w' R (rdO r) ∧ Ch (· = R) W w'
theorem hd_apart {w : World} {g B s n : Nat} {C : Array Value} {T T' : TypeId} {v : Value} {xs : List Value} (h : Hd w g (.cells C T)) (h' : w.ownsRow B T' s v n xs) (hT : T ≠ T') : v.ownBlock ≠ some g := by
  intro e
  rcases h'.2 with ⟨rfl, _⟩ | ⟨g', cap', cur', rfl, _, hg', _⟩
  · simp [Value.ownBlock] at e
  · simp only [Value.ownBlock, Option.some.injEq] at e
    subst e
    unfold Hd at h
    rw [h] at hg'
    simp only [Option.some.injEq, Obj.cells.injEq] at hg'
    exact hT hg'.2.1
/-- the values xs, of which those of D hold none -/
structure Vs (D : Nat → Prop) (lo : Nat) (w : World) (vals : List Value) (xs : List J) : Prop where
  len : vals.length = xs.length
  at_ : ∀ i, i < xs.length → VIn (fun b => lo ≤ b ∧ b < w.heap.size ∧ ¬ D b) w (vals.getD i undef) (xs.getD i default)
theorem Vs.nil (D : Nat → Prop) (lo : Nat) (w : World) : Vs D lo w [] [] := ⟨rfl, fun i hi => by simp at hi⟩
theorem Vs.move {D D' : Nat → Prop} {lo : Nat} {w w' : World} {vals : List Value} {xs : List J} (h : Vs D lo w vals xs) (hs : w.heap.size ≤ w'.heap.size) (hk : ∀ b, lo ≤ b → b < w.heap.size → ¬ D b → ¬ D' b ∧ w'.heap[b]? = w.heap[b]?) : Vs D' lo w' vals xs :=
  ⟨h.len, fun i hi => (h.at_ i hi).same fun b ⟨h1, h2, h3⟩ => ⟨⟨h1, by omega, (hk b h1 h2 h3).1⟩, (hk b h1 h2 h3).2⟩⟩
theorem Vs.snoc {D : Nat → Prop} {lo : Nat} {w : World} {vals : List Value} {xs : List J} {v : Value} {j : J} (h : Vs D lo w vals xs) (hv : VIn (fun b => lo ≤ b ∧ b < w.heap.size ∧ ¬ D b) w v j) : Vs D lo w (vals ++ [v]) (xs ++ [j]) := by
  have hl := h.len
  refine ⟨by simp [hl], fun i hi => ?_⟩
  by_cases hik : i < xs.length
  · have e1 : (vals ++ [v]).getD i undef = vals.getD i undef := by simp [List.getD, List.getElem?_append_left (show i < vals.length by omega)]
    have e2 : (xs ++ [j]).getD i default = xs.getD i default := by simp [List.getD, List.getElem?_append_left hik]
    rw [e1, e2]
    exact h.at_ i hik
  · have hi2 : i = xs.length := by simp at hi; omega
    subst hi2
    have e1 : (vals ++ [v]).getD xs.length undef = v := by rw [← hl]; simp [List.getD]
    have e2 : (xs ++ [j]).getD xs.length default = j := by simp [List.getD]
    rw [e1, e2]
    exact hv
/-- the reader of a list, so far -/
structure LS (R Br Bo L : Nat) (oi : Int) (W0 : World) (xs : List J) (rs : B) (w : World) : Prop where
  rd : Hd w R (rdO rs)
  br : Hd w Br (.cells #[ptI R] 45)
  bo : Hd w Bo (.cells #[.int .i64 oi] 3)
  li : ∃ lv vals, Hd w L (.cells #[lv] 57) ∧ w.ownsRow W0.heap.size 33 1 lv xs.length vals ∧ Vs (fun b => lv.ownBlock = some b ∨ b = L) W0.heap.size w vals xs
  ch : Ch (· = R) W0 w
/-- ended by a code -/
structure LE (R L : Nat) (W0 w : World) : Prop where
  rd : ∃ rs, Hd w R (rdO rs)
  li : ∃ lv, Hd w L (.cells #[lv] 57)
  ch : Ch (· = R) W0 w
theorem LS.le {R Br Bo L : Nat} {oi : Int} {W0 w : World} {xs : List J} {rs : B} (h : LS R Br Bo L oi W0 xs rs w) : LE R L W0 w := by
  obtain ⟨lv, _, h1, _⟩ := h.li
  exact ⟨⟨rs, h.rd⟩, ⟨lv, h1⟩, h.ch⟩
theorem LS.step {R Br Bo L : Nat} {oi : Int} {W0 w w' : World} {xs : List J} {rs rs' : B} (h : LS R Br Bo L oi W0 xs rs w) (hR : R < W0.heap.size) (hBr : W0.heap.size ≤ Br) (hBo : W0.heap.size ≤ Bo) (hL : W0.heap.size ≤ L) (hc : Ch (· = R) w w') (h' : Hd w' R (rdO rs')) : LS R Br Bo L oi W0 xs rs' w' := by
  obtain ⟨lv, vals, h1, h2, h3⟩ := h.li
  refine ⟨h', hc.hd h.br (by omega), hc.hd h.bo (by omega), ⟨lv, vals, hc.hd h1 (by omega), own_ch hc h2 (fun b hb e => by have := (h2.lt b hb).1; omega), h3.move hc.size fun b hb hlt hD => ⟨hD, hc.block b hlt (by omega)⟩⟩, h.ch.trans hc⟩
theorem ls_add {R Br Bo L : Nat} {oi : Int} {W0 w w2 w4 : World} {xs : List J} {rs r2 : B} {lv l' v : Value} {vals : List Value} {j : J} {o : Obj} (h : LS R Br Bo L oi W0 xs rs w) (hR : R < W0.heap.size) (hBr : W0.heap.size ≤ Br) (hBo : W0.heap.size ≤ Bo) (hL : W0.heap.size ≤ L) (hne1 : Br ≠ L) (hne2 : Bo ≠ L)
    (hl : Hd w L (.cells #[lv] 57)) (ho : w.ownsRow W0.heap.size 33 1 lv xs.length vals) (hvs : Vs (fun b => lv.ownBlock = some b ∨ b = L) W0.heap.size w vals xs)
    (hc : Ch (· = R) w w2) (h2 : Hd w2 R (rdO r2)) (hv : VIn (fun b => w.heap.size ≤ b ∧ b < w2.heap.size) w2 v j)
    (h4 : w4.ownsRow W0.heap.size 33 1 l' (xs.length + 1) (vals ++ [v])) (hg : (w2.alloc o).grownBy w4 lv.ownBlock) (hp : l'.ownBlock = lv.ownBlock ∨ l'.ownBlock = some (w2.alloc o).heap.size) :
    LS R Br Bo L oi W0 (xs ++ [j]) r2 (w4.setCell ⟨L, 0, none⟩ l') := by
  have s0 := h.ch.size
  have s1 := hc.size
  have s4 := hg.size
  have e2 : (w2.alloc o).heap.size = w2.heap.size + 1 := by simp
  have hlt := ho.lt
  have hLw := hl.lt
  have aL := hd_apart hl ho (by decide)
  have aBr := hd_apart h.br ho (by decide)
  have aBo := hd_apart h.bo ho (by decide)
  have keep : ∀ b, b < w2.heap.size → lv.ownBlock ≠ some b → b ≠ L → (w4.setCell ⟨L, 0, none⟩ l').heap[b]? = w2.heap[b]? := fun b hb hne hneL => by
    rw [heap_setCell_other _ ⟨L, 0, none⟩ b l' (by simpa using hneL), hg.block b (by omega) (fun e => hne e.symm), heap_alloc_old _ _ hb]
  have hne' : ∀ b, b < w2.heap.size → lv.ownBlock ≠ some b → l'.ownBlock ≠ some b := fun b hb hne e => by
    rcases hp with h | h
    · exact hne (h ▸ e)
    · rw [h] at e; simp at e; omega
  have hRlv : lv.ownBlock ≠ some R := fun e => by have := (hlt R e).1; omega
  have hd : ∀ {b : Nat} {ob : Obj}, Hd w2 b ob → lv.ownBlock ≠ some b → b ≠ L → Hd (w4.setCell ⟨L, 0, none⟩ l') b ob := fun {b ob} hh h1 h2 => (keep b hh.lt h1 h2).trans hh
  have hL4 : Hd w4 L (.cells #[lv] 57) := ((hc.hd hl (by omega)).al o).grown hg (fun e => aL e.symm)
  have hsz : (w4.setCell ⟨L, 0, none⟩ l').heap.size = w4.heap.size := by simp
  refine ⟨hd h2 hRlv (by omega), hd (hc.hd h.br (by omega)) aBr hne1, hd (hc.hd h.bo (by omega)) aBo hne2, ⟨l', vals ++ [v], hL4.set1 _, ?_, ?_⟩, ?_⟩
  · have := own_ch (S := (· = L)) ((Ch.refl _ w4).set (o := 0) (x := l') rfl) h4 (fun b hb e => by
      rcases hp with hp | hp
      · rw [hp, e] at hb; exact aL hb
      · rw [hp] at hb; simp at hb; omega)
    simpa using this
  · refine Vs.snoc (hvs.move (by omega) fun b h1 h2 h3 => ?_) (hv.same fun b hS => ?_)
    · have hn1 : lv.ownBlock ≠ some b := fun e => h3 (.inl e)
      have hn2 : b ≠ L := fun e => h3 (.inr e)
      refine ⟨fun hh => by rcases hh with hh | hh; exact hne' b (by omega) hn1 hh; exact hn2 hh, ?_⟩
      rw [keep b (by omega) hn1 hn2]
      exact hc.block b h2 (by omega)
    · have hn1 : lv.ownBlock ≠ some b := fun e => by have := (hlt b e).2; omega
      have hn2 : b ≠ L := by omega
      exact ⟨⟨by omega, by omega, fun hh => by rcases hh with hh | hh; exact hne' b hS.2 hn1 hh; exact hn2 hh⟩, keep b hS.2 hn1 hn2⟩
  · exact (Ch.row (h.ch.trans hc) hg (fun b e => (hlt b e).1)).newer hL
end Go.Proofs.YtjakkmjipglkiaaDoor.Rd
