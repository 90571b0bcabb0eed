
/-
  The model's reader within a list or an object: the state, a name added, an item added.
-/
import Derived.Test.YtjakkmjipglkiaaDoorRsE
import Derived.Test.YtjakkmjipglkiaaDoorRdL
namespace Go.Proofs.YtjakkmjipglkiaaDoor.Rd
open Go.RowKit
open Go.Proofs.YtjakkmjipglkiaaDoor.Rm
open Go.Proofs.YtjakkmjipglkiaaDoor.Js (J OJ FitJ jV cellJ strV set5 set5_far set5_size heap_set5)
abbrev jbO (kd : Int) (nv iv : Value) : Obj := .cells #[.int .i64 kd, .int .i64 0, .string ⟨#[]⟩, nv, iv] 25
theorem set5_os (w : World) (g o : Nat) (a b c d e : Value) : (set5 w g o a b c d e).os = w.os ∧ (set5 w g o a b c d e).tape = w.tape ∧ (set5 w g o a b c d e).output = w.output := by
  have k1 : ∀ (w : World) (p : Addr) (v : Value), (w.setCell p v).os = w.os := fun _ _ _ => rfl
  have k2 : ∀ (w : World) (p : Addr) (v : Value), (w.setCell p v).tape = w.tape := fun _ _ _ => rfl
  have k3 : ∀ (w : World) (p : Addr) (v : Value), (w.setCell p v).output = w.output := fun _ _ _ => rfl
  unfold set5
  rw [k1, k1, k1, k1, k1, k2, k2, k2, k2, k2, k3, k3, k3, k3, k3]
  exact ⟨rfl, rfl, rfl⟩
theorem set5_hd {w : World} {g o b : Nat} {ob : Obj} (h : Hd w b ob) (hne : b ≠ g) (a0 a1 a2 a3 a4 : Value) : Hd (set5 w g o a0 a1 a2 a3 a4) b ob := (set5_far w g o b a0 a1 a2 a3 a4 hne).trans h
structure JS (R Jb : Nat) (t : B) (kd : Int) (W0 : World) (c : Int) (ns : List B) (xs : List J) (p : Nat) (us : B) (w : World) : Prop where
  rd : Hd w R (rsO t p c)
  at_ : At t p us
  short : ∀ u ∈ ns, u.length ≤ 120
  ob : ∃ nv iv vals vn vi Sc, Hd w Jb (jbO kd nv iv) ∧ w.ownsRow W0.heap.size 9 1 nv ns.length (strV ns) ∧ w.ownsRow W0.heap.size 25 5 iv xs.length vals ∧ Es (fun b => nv.ownBlock = some b ∨ iv.ownBlock = some b ∨ b = Jb) W0.heap.size w vals xs vn vi Sc ∧ iv.ownBlock ≠ some Jb
  ch : Ch (· = R) W0 w
/-- ended by a code -/
structure JE (R Jb : Nat) (t : B) (kd : Int) (W0 : World) (c : Int) (w : World) : Prop where
  rd : ∃ p us, Hd w R (rsO t p c) ∧ At t p us
  ob : ∃ an ln cn ai li ci, Hd w Jb (jbO kd (.slice an ln cn) (.slice ai li ci))
  ch : Ch (· = R) W0 w
theorem JS.je {R Jb : Nat} {t : B} {kd c : Int} {W0 w : World} {ns : List B} {xs : List J} {p : Nat} {us : B} (h : JS R Jb t kd W0 c ns xs p us w) : JE R Jb t kd W0 c w := by
  obtain ⟨nv, iv, vals, vn, vi, Sc, h1, h2, h3, _⟩ := h.ob
  obtain ⟨a, k, rfl⟩ := own_slice h2
  obtain ⟨a', k', rfl⟩ := own_slice h3
  exact ⟨⟨p, us, h.rd, h.at_⟩, ⟨_, _, _, _, _, _, h1⟩, h.ch⟩
theorem JS.step {R Jb : Nat} {t : B} {kd c c' : Int} {W0 w w' : World} {ns : List B} {xs : List J} {p p' : Nat} {us us' : B} (h : JS R Jb t kd W0 c ns xs p us w) (hR : R < W0.heap.size) (hJ : W0.heap.size ≤ Jb) (hc : Ch (· = R) w w') (h' : Hd w' R (rsO t p' c')) (ha : At t p' us') : JS R Jb t kd W0 c' ns xs p' us' w' := by
  obtain ⟨nv, iv, vals, vn, vi, Sc, h1, h2, h3, h4, h5⟩ := h.ob
  exact ⟨h', ha, h.short, ⟨nv, iv, vals, vn, vi, Sc, hc.hd h1 (by omega), own_ch hc h2 (fun b hb e => by have := (h2.lt b hb).1; omega), own_ch hc h3 (fun b hb e => by have := (h3.lt b hb).1; omega), h4.move fun b hb hlt hD => ⟨hD, hc.block b hlt (by omega)⟩, h5⟩, h.ch.trans hc⟩
theorem js_name {R Jb : Nat} {t : B} {kd c : Int} {W0 w w4 : World} {ns : List B} {xs : List J} {p : Nat} {us s : B} {nv nv' iv : Value} {vals : List Value} {vn vi : Nat → Value} {Sc : Nat → Nat → Prop} {o : Obj} (h : JS R Jb t kd W0 c ns xs p us w) (hR : R < W0.heap.size) (hJ : W0.heap.size ≤ Jb) (hs : s.length ≤ 120)
    (h1 : Hd w Jb (jbO kd nv iv)) (h2 : w.ownsRow W0.heap.size 9 1 nv ns.length (strV ns)) (h3 : w.ownsRow W0.heap.size 25 5 iv xs.length vals) (he : Es (fun b => nv.ownBlock = some b ∨ iv.ownBlock = some b ∨ b = Jb) W0.heap.size w vals xs vn vi Sc) (h5 : iv.ownBlock ≠ some Jb)
    (hn4 : w4.ownsRow W0.heap.size 9 1 nv' (ns.length + 1) (strV ns ++ [.string ⟨s.toArray⟩])) (hg : (w.alloc o).grownBy w4 nv.ownBlock) (hp : nv'.ownBlock = nv.ownBlock ∨ nv'.ownBlock = some (w.alloc o).heap.size) : JS R Jb t kd W0 c (ns ++ [s]) xs p us (w4.setCell ⟨Jb, 3, none⟩ nv') := by
  have s4 := hg.size
  have e1 : (w.alloc o).heap.size = w.heap.size + 1 := by simp
  have hlt := h2.lt
  have aJ := hd_apart h1 h2 (by decide)
  have ani := own_apart h2 h3 (by decide)
  have ani' : ∀ b, nv.ownBlock = some b → iv.ownBlock ≠ some b := fun b e e2 => by
    rcases ani with h' | h'
    · rw [h'] at e; cases e
    · exact h' (e.trans e2.symm)
  have keep : ∀ b, b < w.heap.size → nv.ownBlock ≠ some b → b ≠ Jb → (w4.setCell ⟨Jb, 3, none⟩ nv').heap[b]? = w.heap[b]? := fun b hb hx hy => by
    rw [heap_setCell_other _ ⟨Jb, 3, none⟩ b nv' (by simpa using hy), hg.block b (by omega) (fun e => hx e.symm), heap_alloc_old _ _ hb]
  have hn' : ∀ b, b < w.heap.size → nv.ownBlock ≠ some b → nv'.ownBlock ≠ some b := fun b hb hne e => by
    rcases hp with h | h
    · exact hne (h ▸ e)
    · rw [h] at e; simp at e; omega
  have hRn : nv.ownBlock ≠ some R := fun e => by have := (hlt R e).1; omega
  have hJ4 : Hd w4 Jb (jbO kd nv iv) := (h1.al o).grown hg (fun e => aJ e.symm)
  refine ⟨(keep R h.rd.lt hRn (by omega)).trans h.rd, h.at_, fun u hu => ?_, ⟨nv', iv, vals, vn, vi, Sc, hJ4.set 3 nv', ?_, ?_, ?_, h5⟩, (Ch.row h.ch hg (fun b e => (hlt b e).1)).newer hJ⟩
  · rcases List.mem_append.1 hu with hu | hu
    · exact h.short u hu
    · simp at hu; subst hu; exact hs
  · have := own_ch (S := (· = Jb)) ((Ch.refl _ w4).set (o := 3) (x := nv') rfl) hn4 (fun b hb e => hd_apart hJ4 hn4 (by decide) (e ▸ hb))
    simpa using this
  · have h34 := own_ch (S := fun b => nv.ownBlock = some b) (Ch.of_grown hg (fun _ e => e)) (h3.alloc o) (fun b hb e => ani' b e hb)
    exact own_ch (S := (· = Jb)) ((Ch.refl _ w4).set (o := 3) (x := nv') rfl) h34 (fun b hb e => h5 (e ▸ hb))
  · refine he.move fun b hb1 hb2 hD => ?_
    have hx : nv.ownBlock ≠ some b := fun e => hD (.inl e)
    have hy : b ≠ Jb := fun e => hD (.inr (.inr e))
    exact ⟨fun hh => by rcases hh with hh | hh | hh; exact hn' b hb2 hx hh; exact hD (.inr (.inl hh)); exact hy hh, keep b hb2 hx hy⟩
set_option maxHeartbeats 1000000 in
theorem item_facts {Jb g cc n lo : Nat} {kd : Int} {w4 wf : World} {nv iv nvx ivx z0 z1 z2 z3 z4 : Value} {vals : List Value} {x : J} (hgJ : g ≠ Jb) (hJ4 : Hd w4 Jb (jbO kd nv iv)) (hvl : vals.length = n * 5)
    (h4 : w4.ownsRow lo 25 5 (.slice (some ⟨g, 0, none⟩) (n + 1) cc) (n + 1) (vals ++ [z0, z1, z2, z3, z4]))
    (hwf : wf = (set5 w4 g (n * 5) (.int .i64 x.kind) (.int .i64 x.num) (.string ⟨x.text.toArray⟩) nvx ivx).setCell ⟨Jb, 4, none⟩ (.slice (some ⟨g, 0, none⟩) (n + 1) cc) ∨ wf = set5 (w4.setCell ⟨Jb, 4, none⟩ (.slice (some ⟨g, 0, none⟩) (n + 1) cc)) g (n * 5) (.int .i64 x.kind) (.int .i64 x.num) (.string ⟨x.text.toArray⟩) nvx ivx) :
    Hd wf Jb (jbO kd nv (.slice (some ⟨g, 0, none⟩) (n + 1) cc)) ∧ wf.ownsRow lo 25 5 (.slice (some ⟨g, 0, none⟩) (n + 1) cc) (n + 1) (vals ++ [.int .i64 x.kind, .int .i64 x.num, .string ⟨x.text.toArray⟩, nvx, ivx]) ∧ (∀ b, b ≠ Jb → b ≠ g → wf.heap[b]? = w4.heap[b]?) ∧ wf.heap.size = w4.heap.size ∧ (wf.os = w4.os ∧ wf.tape = w4.tape ∧ wf.output = w4.output) := by
  obtain ⟨iw, hiw⟩ : ∃ iw, iw = Value.slice (some ⟨g, 0, none⟩) (n + 1) cc := ⟨_, rfl⟩
  have hib : ∀ b, iw.ownBlock = some b → b = g := fun b hb => by rw [hiw] at hb; simp [Value.ownBlock] at hb; exact hb.symm
  rcases hwf with hwf | hwf
  · have h6 := own_set5 h4 hvl (.int .i64 x.kind) (.int .i64 x.num) (.string ⟨x.text.toArray⟩) nvx ivx
    have hJ5 : Hd (set5 w4 g (n * 5) (.int .i64 x.kind) (.int .i64 x.num) (.string ⟨x.text.toArray⟩) nvx ivx) Jb (jbO kd nv iv) := set5_hd hJ4 (fun e => hgJ e.symm) _ _ _ _ _
    have hfar : ∀ b, b ≠ g → (set5 w4 g (n * 5) (.int .i64 x.kind) (.int .i64 x.num) (.string ⟨x.text.toArray⟩) nvx ivx).heap[b]? = w4.heap[b]? := fun b hb => set5_far _ _ _ _ _ _ _ _ _ hb
    have hsz : (set5 w4 g (n * 5) (.int .i64 x.kind) (.int .i64 x.num) (.string ⟨x.text.toArray⟩) nvx ivx).heap.size = w4.heap.size := set5_size _ _ _ _ _ _ _ _
    have hos : (set5 w4 g (n * 5) (.int .i64 x.kind) (.int .i64 x.num) (.string ⟨x.text.toArray⟩) nvx ivx).os = w4.os ∧ (set5 w4 g (n * 5) (.int .i64 x.kind) (.int .i64 x.num) (.string ⟨x.text.toArray⟩) nvx ivx).tape = w4.tape ∧ (set5 w4 g (n * 5) (.int .i64 x.kind) (.int .i64 x.num) (.string ⟨x.text.toArray⟩) nvx ivx).output = w4.output := set5_os _ _ _ _ _ _ _ _
    generalize set5 w4 g (n * 5) (.int .i64 x.kind) (.int .i64 x.num) (.string ⟨x.text.toArray⟩) nvx ivx = w5 at *
    rw [← hiw] at h6 hwf ⊢
    subst hwf
    refine ⟨hJ5.set 4 iw, own_ch (S := (· = Jb)) ((Ch.refl _ w5).set (o := 4) (x := iw) rfl) h6 (fun b hb e => hgJ ((hib b hb).symm.trans e)), fun b hb1 hb2 => ?_, by simpa using hsz, hos⟩
    rw [heap_setCell_other w5 ⟨Jb, 4, none⟩ b iw (by simpa using hb1), hfar b hb2]
  · rw [← hiw] at h4 hwf ⊢
    have h4' := own_ch (S := (· = Jb)) ((Ch.refl _ w4).set (o := 4) (x := iw) rfl) h4 (fun b hb e => hgJ ((hib b hb).symm.trans e))
    have hJ5 : Hd (w4.setCell ⟨Jb, 4, none⟩ iw) Jb (jbO kd nv iw) := hJ4.set 4 iw
    have hfar : ∀ b, b ≠ Jb → (w4.setCell ⟨Jb, 4, none⟩ iw).heap[b]? = w4.heap[b]? := fun b hb => heap_setCell_other w4 ⟨Jb, 4, none⟩ b iw (by simpa using hb)
    have hsz : (w4.setCell ⟨Jb, 4, none⟩ iw).heap.size = w4.heap.size := by simp
    have hos : (w4.setCell ⟨Jb, 4, none⟩ iw).os = w4.os ∧ (w4.setCell ⟨Jb, 4, none⟩ iw).tape = w4.tape ∧ (w4.setCell ⟨Jb, 4, none⟩ iw).output = w4.output := ⟨rfl, rfl, rfl⟩
    generalize w4.setCell ⟨Jb, 4, none⟩ iw = w5 at *
    rw [hiw] at h4'
    have h6 := own_set5 h4' hvl (.int .i64 x.kind) (.int .i64 x.num) (.string ⟨x.text.toArray⟩) nvx ivx
    have hJ6 : Hd (set5 w5 g (n * 5) (.int .i64 x.kind) (.int .i64 x.num) (.string ⟨x.text.toArray⟩) nvx ivx) Jb (jbO kd nv iw) := set5_hd hJ5 (fun e => hgJ e.symm) _ _ _ _ _
    have hfar6 : ∀ b, b ≠ g → (set5 w5 g (n * 5) (.int .i64 x.kind) (.int .i64 x.num) (.string ⟨x.text.toArray⟩) nvx ivx).heap[b]? = w5.heap[b]? := fun b hb => set5_far _ _ _ _ _ _ _ _ _ hb
    have hsz6 : (set5 w5 g (n * 5) (.int .i64 x.kind) (.int .i64 x.num) (.string ⟨x.text.toArray⟩) nvx ivx).heap.size = w5.heap.size := set5_size _ _ _ _ _ _ _ _
    have hos6 : (set5 w5 g (n * 5) (.int .i64 x.kind) (.int .i64 x.num) (.string ⟨x.text.toArray⟩) nvx ivx).os = w5.os ∧ (set5 w5 g (n * 5) (.int .i64 x.kind) (.int .i64 x.num) (.string ⟨x.text.toArray⟩) nvx ivx).tape = w5.tape ∧ (set5 w5 g (n * 5) (.int .i64 x.kind) (.int .i64 x.num) (.string ⟨x.text.toArray⟩) nvx ivx).output = w5.output := set5_os _ _ _ _ _ _ _ _
    generalize set5 w5 g (n * 5) (.int .i64 x.kind) (.int .i64 x.num) (.string ⟨x.text.toArray⟩) nvx ivx = w6 at *
    subst hwf
    rw [← hiw] at h6
    exact ⟨hJ6, h6, fun b hb1 hb2 => (hfar6 b hb2).trans (hfar b hb1), hsz6.trans hsz, hos6.1.trans hos.1, hos6.2.1.trans hos.2.1, hos6.2.2.trans hos.2.2⟩
set_option maxHeartbeats 1000000 in
theorem js_item {R Jb : Nat} {t : B} {kd c2 : Int} {W0 w w2 w3 w4 wf : World} {ns : List B} {xs : List J} {p p2 g cc : Nat} {us us2 : B} {nv iv nvx ivx : Value} {vals : List Value} {vn vi : Nat → Value} {Sc : Nat → Nat → Prop} {S : Nat → Prop} {x : J} {z0 z1 z2 z3 z4 : Value} (h : JS R Jb t kd W0 0 ns xs p us w) (hR : R < W0.heap.size) (hJ : W0.heap.size ≤ Jb)
    (h1 : Hd w Jb (jbO kd nv iv)) (h2 : w.ownsRow W0.heap.size 9 1 nv ns.length (strV ns)) (h3 : w.ownsRow W0.heap.size 25 5 iv xs.length vals) (he : Es (fun b => nv.ownBlock = some b ∨ iv.ownBlock = some b ∨ b = Jb) W0.heap.size w vals xs vn vi Sc) (h5 : iv.ownBlock ≠ some Jb)
    (hc : Ch (· = R) w w2) (hr2 : Hd w2 R (rsO t p2 c2)) (ha2 : At t p2 us2) (hx : OJ w2 w.heap.size S x nvx ivx) (hf : FitJ x) (h23 : Below w2.heap.size w2 w3)
    (h4 : w4.ownsRow W0.heap.size 25 5 (.slice (some ⟨g, 0, none⟩) (xs.length + 1) cc) (xs.length + 1) (vals ++ [z0, z1, z2, z3, z4])) (hg : w3.grownBy w4 iv.ownBlock) (hp : iv.ownBlock = some g ∨ w3.heap.size ≤ g)
    (hwf : wf = (set5 w4 g (xs.length * 5) (.int .i64 x.kind) (.int .i64 x.num) (.string ⟨x.text.toArray⟩) nvx ivx).setCell ⟨Jb, 4, none⟩ (.slice (some ⟨g, 0, none⟩) (xs.length + 1) cc) ∨ wf = set5 (w4.setCell ⟨Jb, 4, none⟩ (.slice (some ⟨g, 0, none⟩) (xs.length + 1) cc)) g (xs.length * 5) (.int .i64 x.kind) (.int .i64 x.num) (.string ⟨x.text.toArray⟩) nvx ivx) :
    JS R Jb t kd W0 c2 ns (xs ++ [x]) p2 us2 wf := by
  have s0 := h.ch.size
  have s2 := hc.size
  have s3 := h23.size
  have s4 := hg.size
  have hvl : vals.length = xs.length * 5 := h3.1
  have hlti := h3.lt
  have hltn := h2.lt
  have hJw := h1.lt
  have hgJ : g ≠ Jb := fun e => by
    subst e
    rcases hp with hp | hp
    · exact h5 hp
    · omega
  have aJ := hd_apart h1 h2 (by decide)
  have ani := own_apart h2 h3 (by decide)
  have hRi : iv.ownBlock ≠ some R := fun e => by have := (hlti R e).1; omega
  have keep4 : ∀ b, b < w2.heap.size → iv.ownBlock ≠ some b → w4.heap[b]? = w2.heap[b]? := fun b hb hx => by
    rw [hg.block b (by omega) (fun e => hx e.symm), h23.block b hb]
  have gne : ∀ b, b < w2.heap.size → iv.ownBlock ≠ some b → b ≠ g := fun b hb hx e => by
    subst e
    rcases hp with hp | hp
    · exact hx hp
    · omega
  have hJ4 : Hd w4 Jb (jbO kd nv iv) := (keep4 Jb (by omega) h5).trans (hc.hd h1 (by omega))
  have facts := item_facts hgJ hJ4 hvl h4 hwf
  obtain ⟨f1, f2, f3, f4, f5, f6, f7⟩ := facts
  have keep : ∀ b, b < w2.heap.size → iv.ownBlock ≠ some b → b ≠ Jb → wf.heap[b]? = w2.heap[b]? := fun b hb hx hy => (f3 b hy (gne b hb hx)).trans (keep4 b hb hx)
  have hn2 := own_ch hc h2 (fun b hb e => by have := (h2.lt b hb).1; omega)
  refine ⟨(keep R hr2.lt hRi (by omega)).trans hr2, ha2, h.short, ⟨nv, _, _, _, _, _, f1, ?_, by simpa using f2, Es.snoc (he.move fun b hb1 hb2 hD => ?_) hvl (S := S) ((hx.base (by omega)).same fun b hS => ?_) hf (fun b hS => ?_) (fun i hi b hb hS => ?_), fun e => hgJ (by simp [Value.ownBlock] at e; exact e)⟩, ?_⟩
  · obtain ⟨hl, h'⟩ := hn2
    refine ⟨hl, ?_⟩
    rcases h' with h' | ⟨g', cap, cur, rfl, hb, hgg, rest⟩
    · exact .inl h'
    · refine .inr ⟨g', cap, cur, rfl, hb, (keep g' (Array.getElem?_eq_some_iff.1 hgg).1 (fun e => ?_) (fun e => aJ (by rw [e]; rfl))).trans hgg, rest⟩
      rcases ani with hh | hh
      · simp [Value.ownBlock] at hh
      · exact hh e.symm
  · have hy1 : iv.ownBlock ≠ some b := fun e => hD (.inr (.inl e))
    have hy2 : b ≠ Jb := fun e => hD (.inr (.inr e))
    refine ⟨fun hh => ?_, ?_⟩
    · rcases hh with hh | hh | hh
      · exact hD (.inl hh)
      · simp only [Value.ownBlock, Option.some.injEq] at hh
        exact gne b (by omega) hy1 hh.symm
      · exact hy2 hh
    · rw [keep b (by omega) hy1 hy2]
      exact hc.block b hb2 (by omega)
  · have := hx.lt b hS
    exact keep b this.2 (fun e => by have := (hlti b e).2; omega) (by omega)
  · have := hx.lt b hS
    intro hh
    rcases hh with hh | hh | hh
    · have := (hltn b hh).2; omega
    · simp only [Value.ownBlock, Option.some.injEq] at hh
      exact gne b this.2 (fun e => by have := (hlti b e).2; omega) hh.symm
    · omega
  · have := hx.lt b hS
    have := (he.deep i hi).lt b hb
    omega
  · have c4 : Ch (· = R) W0 w4 := ((h.ch.trans hc).bel h23).back (Ch.of_grown (S := fun b => iv.ownBlock = some b) hg (fun _ e => e)) (fun b e => .inr (hlti b e).1)
    refine ⟨f5.trans c4.os, f6.trans c4.tape, f7.trans c4.output, by rw [f4]; exact c4.size, fun b hb hS => ?_⟩
    rw [f3 b (by omega) (fun e => by subst e; rcases hp with hp | hp; have := (hlti b hp).1; omega; omega)]
    exact c4.block b hb hS
theorem je_item {R Jb : Nat} {t : B} {kd c2 : Int} {W0 w w2 w3 w4 wf : World} {ns : List B} {xs : List J} {p p2 g cc : Nat} {us us2 : B} {iv nvx ivx : Value} {an : Option Addr} {ln cn : Nat} {vals : List Value} {x : J} {z0 z1 z2 z3 z4 : Value} (h : JS R Jb t kd W0 0 ns xs p us w) (hR : R < W0.heap.size) (hJ : W0.heap.size ≤ Jb)
    (h1 : Hd w Jb (jbO kd (.slice an ln cn) iv)) (h3 : w.ownsRow W0.heap.size 25 5 iv xs.length vals) (h5 : iv.ownBlock ≠ some Jb)
    (hc : Ch (· = R) w w2) (hr2 : Hd w2 R (rsO t p2 c2)) (ha2 : At t p2 us2) (h23 : Below w2.heap.size w2 w3)
    (h4 : w4.ownsRow W0.heap.size 25 5 (.slice (some ⟨g, 0, none⟩) (xs.length + 1) cc) (xs.length + 1) (vals ++ [z0, z1, z2, z3, z4])) (hg : w3.grownBy w4 iv.ownBlock) (hp : iv.ownBlock = some g ∨ w3.heap.size ≤ g)
    (hwf : wf = (set5 w4 g (xs.length * 5) (.int .i64 x.kind) (.int .i64 x.num) (.string ⟨x.text.toArray⟩) nvx ivx).setCell ⟨Jb, 4, none⟩ (.slice (some ⟨g, 0, none⟩) (xs.length + 1) cc) ∨ wf = set5 (w4.setCell ⟨Jb, 4, none⟩ (.slice (some ⟨g, 0, none⟩) (xs.length + 1) cc)) g (xs.length * 5) (.int .i64 x.kind) (.int .i64 x.num) (.string ⟨x.text.toArray⟩) nvx ivx) :
    JE R Jb t kd W0 c2 wf ∧ Hd wf R (rsO t p2 c2) ∧ Hd wf Jb (jbO kd (.slice an ln cn) (.slice (some ⟨g, 0, none⟩) (xs.length + 1) cc)) := by
  have s0 := h.ch.size
  have s2 := hc.size
  have s3 := h23.size
  have s4 := hg.size
  have hvl : vals.length = xs.length * 5 := h3.1
  have hlti := h3.lt
  have hJw := h1.lt
  have hgJ : g ≠ Jb := fun e => by
    subst e
    rcases hp with hp | hp
    · exact h5 hp
    · omega
  have keep4 : ∀ b, b < w2.heap.size → iv.ownBlock ≠ some b → w4.heap[b]? = w2.heap[b]? := fun b hb hx => by
    rw [hg.block b (by omega) (fun e => hx e.symm), h23.block b hb]
  have hJ4 : Hd w4 Jb (jbO kd (.slice an ln cn) iv) := (keep4 Jb (by omega) h5).trans (hc.hd h1 (by omega))
  obtain ⟨f1, f2, f3, f4, f5, f6, f7⟩ := item_facts hgJ hJ4 hvl h4 hwf
  have hgR : R ≠ g := fun e => by
    subst e
    rcases hp with hp | hp
    · have := (hlti R hp).1; omega
    · omega
  have hRf : Hd wf R (rsO t p2 c2) := ((f3 R (by omega) hgR).trans (keep4 R hr2.lt (fun e => by have := (hlti R e).1; omega))).trans hr2
  have c4 : Ch (· = R) W0 w4 := ((h.ch.trans hc).bel h23).back (Ch.of_grown (S := fun b => iv.ownBlock = some b) hg (fun _ e => e)) (fun b e => .inr (hlti b e).1)
  refine ⟨⟨⟨p2, us2, hRf, ha2⟩, ⟨an, ln, cn, _, _, _, f1⟩, f5.trans c4.os, f6.trans c4.tape, f7.trans c4.output, by rw [f4]; exact c4.size, fun b hb hS => ?_⟩, hRf, f1⟩
  rw [f3 b (by omega) (fun e => by subst e; rcases hp with hp | hp; have := (hlti b hp).1; omega; omega)]
  exact c4.block b hb hS
end Go.Proofs.YtjakkmjipglkiaaDoor.Rd
