
/-
  The laws' copies of a pipe once more: each block that they make is a row of cells, not frozen (what marks written into it want). (Made by mkpf.py.)
-/
import Derived.Test.YtmaknkbmilcanaaGreatDoorPiA
import Derived.Test.YtmaknkbmilcanaaGreatDoorPoA
import Derived.Test.YtmaknkbmilcanaaGreatDoorPoW
namespace Go.Proofs.YtmaknkbmilcanaaGreatDoor.Pf
open Go.RowKit
open Go.Proofs.YtmaknkbmilcanaaGreatDoor.Tx (TxtsIn)
open Go.Proofs.YtmaknkbmilcanaaGreatDoor.Gr (Tg Gp TgIn gV)
open Go.Proofs.YtmaknkbmilcanaaGreatDoor.Pe (Pr PrIn)
open Go.Proofs.YtmaknkbmilcanaaGreatDoor.Qu (Rep Q RpIn IntsIn qV)
open Go.Proofs.YtmaknkbmilcanaaGreatDoor.Po (Pl RlIn)
/-- block b is a row of cells, none of them frozen -/
def Cl (w : World) (b : Nat) : Prop := ∃ C T, w.heap[b]? = some (.cells C T)
theorem Cl.same {w w' : World} {b : Nat} (h : Cl w b) (e : w'.heap[b]? = w.heap[b]?) : Cl w' b := by
  obtain ⟨C, T, h⟩ := h; exact ⟨C, T, e.trans h⟩
theorem Cl.lt {w : World} {b : Nat} (h : Cl w b) : b < w.heap.size := by
  obtain ⟨C, T, h⟩ := h; exact (Array.getElem?_eq_some_iff.1 h).1
theorem cl_row {w : World} {g n : Nat} {t : TypeId} {f : Nat → Value} (h : w.rowIs g t n f) : Cl w g := by
  obtain ⟨c, h1, _⟩ := h; exact ⟨c, t, h1⟩
abbrev Fr (B : Nat) (w : World) (b : Nat) : Prop := B ≤ b ∧ b < w.heap.size ∧ Cl w b
theorem own_cl {w : World} {B s n : Nat} {T : TypeId} {v : Value} {xs : List Value} (h : w.ownsRow B T s v n xs) : ∀ g, v.ownBlock = some g → Cl w g := by
  intro g hg
  obtain ⟨hlen, h⟩ := h
  rcases h with ⟨rfl, h0⟩ | ⟨g', cap, cur, rfl, hbg, hgg, hnc, hcm, hs, ht⟩
  · simp [Value.ownBlock] at hg
  · obtain rfl : g' = g := by simpa [Value.ownBlock] using hg
    exact ⟨cur, T, hgg⟩
theorem tg_cl {S : Nat → Prop} {w : World} {v : Value} {xs : List Tg} (h : TgIn S w v xs) (hc : ∀ g, v.ownBlock = some g → Cl w g) : TgIn (fun b => S b ∧ Cl w b) w v xs := by
  obtain ⟨a, cap, b, off, rfl, h1, h2, h3, h4, h5⟩ := h
  exact ⟨a, cap, b, off, rfl, h1, h2, h3, fun hp => ⟨(h4 hp).1, (h4 hp).2, hc b (by rw [(h4 hp).1]; rfl)⟩, h5⟩
theorem pr_cl {S : Nat → Prop} {w : World} {v : Value} {xs : List Pr} (h : PrIn S w v xs) (hc : ∀ g, v.ownBlock = some g → Cl w g) : PrIn (fun b => S b ∧ Cl w b) w v xs := by
  obtain ⟨a, cap, b, off, rfl, h1, h2, h3, h4, h5⟩ := h
  exact ⟨a, cap, b, off, rfl, h1, h2, h3, fun hp => ⟨(h4 hp).1, (h4 hp).2, hc b (by rw [(h4 hp).1]; rfl)⟩, h5⟩
theorem rp_cl {S : Nat → Prop} {w : World} {v : Value} {xs : List Rep} (h : RpIn S w v xs) (hc : ∀ g, v.ownBlock = some g → Cl w g) : RpIn (fun b => S b ∧ Cl w b) w v xs := by
  obtain ⟨a, cap, b, off, rfl, h1, h2, h3, h4, h5⟩ := h
  exact ⟨a, cap, b, off, rfl, h1, h2, h3, fun hp => ⟨(h4 hp).1, (h4 hp).2, hc b (by rw [(h4 hp).1]; rfl)⟩, h5⟩
theorem tx_cl {S : Nat → Prop} {w : World} {v : Value} {xs : List (List UInt8)} (h : TxtsIn S w v xs) (hc : ∀ g, v.ownBlock = some g → Cl w g) : TxtsIn (fun b => S b ∧ Cl w b) w v xs := by
  obtain ⟨a, cap, b, off, rfl, h1, h2, h3, h4, h5⟩ := h
  exact ⟨a, cap, b, off, rfl, h1, h2, h3, fun hp => ⟨(h4 hp).1, (h4 hp).2, hc b (by rw [(h4 hp).1]; rfl)⟩, h5⟩
theorem tx_slice2 {S : Nat → Prop} {w : World} {v : Value} {xs : List (List UInt8)} (h : TxtsIn S w v xs) : ∃ a c, v = .slice a xs.length c := by
  obtain ⟨a, cap, _, _, rfl, _⟩ := h; exact ⟨_, _, rfl⟩
theorem ownS_cl {S : Nat → Prop} {w : World} {v : Value} {n : Nat} (h : Pm.OwnS S w v n) : ∀ g, v.ownBlock = some g → Cl w g := by
  obtain ⟨g, rfl, _, f, hf⟩ := h
  intro g' hg
  obtain rfl : g = g' := by simpa [Value.ownBlock] using hg
  exact cl_row hf
theorem rl_cl {S : Nat → Prop} {w : World} {v : Value} {xs : List Po.Rl} {ns : Nat → Nat} (h : RlIn S w v xs) (ho : Pm.OwnR S w v xs.length ns) : RlIn (fun b => S b ∧ Cl w b) w v xs := by
  obtain ⟨a, cap, b, off, vs, rfl, h1, h2, h3, h4, h5⟩ := h
  obtain ⟨g, us, e, hg, ⟨F, hF, hv⟩, hw⟩ := ho
  refine ⟨a, cap, b, off, vs, rfl, h1, h2, h3, fun hp => ⟨(h4 hp).1, (h4 hp).2, ?_⟩, fun i hi => ?_⟩
  · have e0 := (h4 hp).1
    subst e0
    cases e
    exact cl_row hF
  · obtain ⟨c0, c1, ct⟩ := h5 i hi
    have e0 := (h4 (by omega)).1
    subst e0
    cases e
    refine ⟨c0, c1, ?_⟩
    have c2 := hF.cell (i := i * 2 + 1) (by omega)
    rw [hv i hi] at c2
    have c3 := c1
    rw [Nat.zero_add] at c3
    have ev : vs i = us i := by rw [c3] at c2; exact Option.some.inj c2
    rw [ev] at ct ⊢
    exact tx_cl ct (ownS_cl (hw i hi))
theorem toG_fr (B : Nat) (w0 : World) (g : Gp) (tv : Value) (h : TgIn (· < B) w0 tv g.tgs) (hsz : g.tgs.length ≤ 1048576) (W : World) (hb : Below B w0 W) (hB : B ≤ W.heap.size) :
    Calls Tryz.prog 204 #[gV g tv] W fun e w' => ∃ v, e = .returned (gV g v) ∧ TgIn (Fr W.heap.size w') w' v g.tgs ∧ Below W.heap.size W w' := by
  have hl : ∀ i, i < g.tgs.length → (g.tgs.getD i default).url.length ≤ 9223372036854775807 := by obtain ⟨_, _, _, _, _, _, _, h3, _⟩ := h; exact h3
  refine (Pe.toG3_any B w0 g tv h hsz W hb hB).mono ?_
  rintro e w' ⟨v, rfl, ho, hbw⟩
  exact ⟨v, rfl, (tg_cl (ho.tg hl) (own_cl ho)).mono fun b hb => ⟨hb.1.1, hb.1.2, hb.2⟩, hbw⟩
theorem toPrs_fr (B : Nat) (w0 : World) (xs : List Pr) (v : Value) (h : PrIn (· < B) w0 v xs) (hsz : xs.length ≤ 1048576) (W : World) (hb : Below B w0 W) (hB : B ≤ W.heap.size) :
    Calls Tryz.prog 205 #[v] W fun e w' => ∃ v, e = .returned v ∧ PrIn (Fr W.heap.size w') w' v xs ∧ Below W.heap.size W w' := by
  have hl := h.lens
  refine (Pe.toPrs_any B w0 xs v h hsz W hb hB).mono ?_
  rintro e w' ⟨v, rfl, ho, hbw⟩
  exact ⟨v, rfl, (pr_cl (ho.pr hl) (own_cl ho)).mono fun b hb => ⟨hb.1.1, hb.1.2, hb.2⟩, hbw⟩
theorem toQ_fr (B : Nat) (w0 : World) (q : Q) (iv rv : Value) (hi : RpIn (· < B) w0 iv q.items) (hr : TxtsIn (· < B) w0 rv q.recent) (hsi : q.items.length ≤ 1048576) (hsr : q.recent.length ≤ 1048576) (W : World) (hb : Below B w0 W) (hB : B ≤ W.heap.size) :
    Calls Tryz.prog 206 #[qV iv rv] W fun e w' => ∃ iv rv, e = .returned (qV iv rv) ∧ RpIn (Fr W.heap.size w') w' iv q.items ∧ TxtsIn (Fr W.heap.size w') w' rv q.recent ∧ Below W.heap.size W w' := by
  have hl1 : ∀ i, i < q.items.length → Qu.Fit (q.items.getD i default) := by obtain ⟨_, _, _, _, _, _, _, h3, _⟩ := hi; exact h3
  have hl2 : ∀ i, i < q.recent.length → (q.recent.getD i []).length ≤ 9223372036854775807 := by obtain ⟨_, _, _, _, _, _, _, h3, _⟩ := hr; exact h3
  refine (Qu.toQ_any B w0 q iv rv hi hr hsi hsr W hb hB).mono ?_
  rintro e w' ⟨v, u, rfl, ho, hu, hbw⟩
  exact ⟨v, u, rfl, (rp_cl (ho.rp hl1) (own_cl ho)).mono fun b hb => ⟨hb.1.1, hb.1.2, hb.2⟩, (tx_cl (hu.txts hl2) (own_cl hu)).mono fun b hb => ⟨hb.1.1, hb.1.2, hb.2⟩, hbw⟩
theorem toP_fr (B : Nat) (w0 : World) (p : Pl) (uv rv : Value) (hu : TxtsIn (· < B) w0 uv p.uris) (hr : RlIn (· < B) w0 rv p.rules) (hsu : p.uris.length ≤ 1048576) (hsr : p.rules.length ≤ 1048576) (hsw : ∀ i, i < p.rules.length → (p.rules.getD i default).words.length ≤ 1048576) (W : World) (hb : Below B w0 W) (hB : B ≤ W.heap.size) :
    Calls Tryz.prog 64 #[Po.pV p uv rv] W fun e w' => ∃ uv rv, e = .returned (Po.pV p uv rv) ∧ TxtsIn (Fr W.heap.size w') w' uv p.uris ∧ RlIn (Fr W.heap.size w') w' rv p.rules ∧ Below W.heap.size W w' := by
  refine (Pm.toP_own B w0 p uv rv hu hr hsu hsr hsw W hb hB).mono ?_
  rintro e w' ⟨v, u, rfl, ht, hrl, hbw, ho, hor⟩
  exact ⟨v, u, rfl, (tx_cl ht (ownS_cl ho)).mono fun b hb => ⟨hb.1.1, hb.1.2, hb.2⟩, (rl_cl hrl hor).mono fun b hb => ⟨hb.1.1, hb.1.2, hb.2⟩, hbw⟩
end Go.Proofs.YtmaknkbmilcanaaGreatDoor.Pf
namespace Go.Proofs.YtmaknkbmilcanaaGreatDoor.Pf
open Go.RowKit
open Go.Proofs.YtmaknkbmilcanaaGreatDoor.Pi hiding TC TC.start TC.blw TC.set TC.setr Hd.setAt Hd.farAt set6
open Go.Proofs.YtmaknkbmilcanaaGreatDoor.Tx (TxtsIn)
open Go.Proofs.YtmaknkbmilcanaaGreatDoor.Gr (Tg Gp TgIn gV)
open Go.Proofs.YtmaknkbmilcanaaGreatDoor.Pe (Pr PrIn)
open Go.Proofs.YtmaknkbmilcanaaGreatDoor.Qu (Rep Q RpIn IntsIn qV Hd)
open Go.Proofs.YtmaknkbmilcanaaGreatDoor.Po (Pl RlIn)
theorem Hd.setAt {w : World} {b : Nat} {C : Array Value} {T : TypeId} (h : Hd w b (.cells C T)) (i : Nat) (v : Value) : Hd (w.setCell ⟨b, i, none⟩ v) b (.cells (C.setIfInBounds i v) T) := Tx.heap_set h i v
theorem Hd.farAt {w : World} {b g : Nat} {o : Obj} (h : Hd w b o) (i : Nat) (v : Value) (hne : b ≠ g) : Hd (w.setCell ⟨g, i, none⟩ v) b o := (heap_setCell_other _ ⟨g, i, none⟩ b v hne).trans h
/-- the blocks of a copy function: its argument, its answer, its variable -/
structure TC (PT RT : TypeId) (W w : World) (pc rc oc : Array Value) : Prop where
  p : Hd w W.heap.size (.cells pc PT)
  r : Hd w (W.heap.size + 1) (.cells rc RT)
  o : Hd w (W.heap.size + 1 + 1) (.cells oc RT)
  b : Below W.heap.size W w
  z : W.heap.size + 3 ≤ w.heap.size
theorem TC.start (PT RT : TypeId) (W : World) (pc rc oc : Array Value) : TC PT RT W (((W.alloc (.cells pc PT)).alloc (.cells rc RT)).alloc (.cells oc RT)) pc rc oc :=
  ⟨Qu.alloc3_0 _ _ _ _, Qu.alloc3_1 _ _ _ _, Qu.alloc3_2 _ _ _ _, (((Below.refl _ _).alloc (Nat.le_refl _) _).alloc (by simp) _).alloc (by simp; omega) _, by simp⟩
theorem TC.blw {PT RT : TypeId} {W w w' : World} {pc rc oc : Array Value} (h : TC PT RT W w pc rc oc) (hb : Below w.heap.size w w') : TC PT RT W w' pc rc oc :=
  ⟨h.p.blw hb, h.r.blw hb, h.o.blw hb, h.b.trans (hb.mono h.b.size), Nat.le_trans h.z hb.size⟩
theorem TC.set {PT RT : TypeId} {W w : World} {pc rc oc : Array Value} (h : TC PT RT W w pc rc oc) (i : Nat) (v : Value) : TC PT RT W (w.setCell ⟨W.heap.size + 1 + 1, i, none⟩ v) pc rc (oc.setIfInBounds i v) :=
  ⟨Hd.farAt h.p i v (by omega), Hd.farAt h.r i v (by omega), Hd.setAt h.o i v, h.b.setCell (by simp; omega) _, by simpa using h.z⟩
theorem TC.setr {PT RT : TypeId} {W w : World} {pc rc oc : Array Value} (h : TC PT RT W w pc rc oc) (i : Nat) (v : Value) : TC PT RT W (w.setCell ⟨W.heap.size + 1, i, none⟩ v) pc (rc.setIfInBounds i v) oc :=
  ⟨Hd.farAt h.p i v (by omega), Hd.setAt h.r i v, Hd.farAt h.o i v (by omega), h.b.setCell (by simp) _, by simpa using h.z⟩
abbrev set3 (w : World) (g o : Nat) (x0 x1 x2 : Value) : World := ((w.setCell ⟨g, o, none⟩ x0).setCell ⟨g, o + 1, none⟩ x1).setCell ⟨g, o + 2, none⟩ x2
theorem bel3 {B g o : Nat} {a w : World} (h : Below B a w) (hB : B ≤ g) (x0 x1 x2 : Value) : Below B a (set3 w g o x0 x1 x2) := (((h.setCell hB _).setCell hB _).setCell hB _)
abbrev set6 (w : World) (g o : Nat) (x0 x1 x2 x3 x4 x5 : Value) : World := (((((w.setCell ⟨g, o, none⟩ x0).setCell ⟨g, o + 1, none⟩ x1).setCell ⟨g, o + 2, none⟩ x2).setCell ⟨g, o + 3, none⟩ x3).setCell ⟨g, o + 4, none⟩ x4).setCell ⟨g, o + 5, none⟩ x5
theorem set6_far (w : World) (g o b : Nat) (x0 x1 x2 x3 x4 x5 : Value) (h : b ≠ g) : (set6 w g o x0 x1 x2 x3 x4 x5).heap[b]? = w.heap[b]? := ((heap_setCell_other _ ⟨g, o + 5, none⟩ b x5 h).trans ((heap_setCell_other _ ⟨g, o + 4, none⟩ b x4 h).trans ((heap_setCell_other _ ⟨g, o + 3, none⟩ b x3 h).trans ((heap_setCell_other _ ⟨g, o + 2, none⟩ b x2 h).trans ((heap_setCell_other _ ⟨g, o + 1, none⟩ b x1 h).trans (heap_setCell_other _ ⟨g, o, none⟩ b x0 h))))))
theorem set6_size (w : World) (g o : Nat) (x0 x1 x2 x3 x4 x5 : Value) : (set6 w g o x0 x1 x2 x3 x4 x5).heap.size = w.heap.size := by simp [set6]
theorem bel6 {B g o : Nat} {a w : World} (h : Below B a w) (hB : B ≤ g) (x0 x1 x2 x3 x4 x5 : Value) : Below B a (set6 w g o x0 x1 x2 x3 x4 x5) := ((((((h.setCell hB _).setCell hB _).setCell hB _).setCell hB _).setCell hB _).setCell hB _)
abbrev set7 (w : World) (g o : Nat) (x0 x1 x2 x3 x4 x5 x6 : Value) : World := ((((((w.setCell ⟨g, o, none⟩ x0).setCell ⟨g, o + 1, none⟩ x1).setCell ⟨g, o + 2, none⟩ x2).setCell ⟨g, o + 3, none⟩ x3).setCell ⟨g, o + 4, none⟩ x4).setCell ⟨g, o + 5, none⟩ x5).setCell ⟨g, o + 6, none⟩ x6
theorem set7_far (w : World) (g o b : Nat) (x0 x1 x2 x3 x4 x5 x6 : Value) (h : b ≠ g) : (set7 w g o x0 x1 x2 x3 x4 x5 x6).heap[b]? = w.heap[b]? := ((heap_setCell_other _ ⟨g, o + 6, none⟩ b x6 h).trans ((heap_setCell_other _ ⟨g, o + 5, none⟩ b x5 h).trans ((heap_setCell_other _ ⟨g, o + 4, none⟩ b x4 h).trans ((heap_setCell_other _ ⟨g, o + 3, none⟩ b x3 h).trans ((heap_setCell_other _ ⟨g, o + 2, none⟩ b x2 h).trans ((heap_setCell_other _ ⟨g, o + 1, none⟩ b x1 h).trans (heap_setCell_other _ ⟨g, o, none⟩ b x0 h)))))))
theorem set7_size (w : World) (g o : Nat) (x0 x1 x2 x3 x4 x5 x6 : Value) : (set7 w g o x0 x1 x2 x3 x4 x5 x6).heap.size = w.heap.size := by simp [set7]
theorem bel7 {B g o : Nat} {a w : World} (h : Below B a w) (hB : B ≤ g) (x0 x1 x2 x3 x4 x5 x6 : Value) : Below B a (set7 w g o x0 x1 x2 x3 x4 x5 x6) := (((((((h.setCell hB _).setCell hB _).setCell hB _).setCell hB _).setCell hB _).setCell hB _).setCell hB _)
abbrev set8 (w : World) (g o : Nat) (x0 x1 x2 x3 x4 x5 x6 x7 : Value) : World := (((((((w.setCell ⟨g, o, none⟩ x0).setCell ⟨g, o + 1, none⟩ x1).setCell ⟨g, o + 2, none⟩ x2).setCell ⟨g, o + 3, none⟩ x3).setCell ⟨g, o + 4, none⟩ x4).setCell ⟨g, o + 5, none⟩ x5).setCell ⟨g, o + 6, none⟩ x6).setCell ⟨g, o + 7, none⟩ x7
theorem set8_far (w : World) (g o b : Nat) (x0 x1 x2 x3 x4 x5 x6 x7 : Value) (h : b ≠ g) : (set8 w g o x0 x1 x2 x3 x4 x5 x6 x7).heap[b]? = w.heap[b]? := ((heap_setCell_other _ ⟨g, o + 7, none⟩ b x7 h).trans ((heap_setCell_other _ ⟨g, o + 6, none⟩ b x6 h).trans ((heap_setCell_other _ ⟨g, o + 5, none⟩ b x5 h).trans ((heap_setCell_other _ ⟨g, o + 4, none⟩ b x4 h).trans ((heap_setCell_other _ ⟨g, o + 3, none⟩ b x3 h).trans ((heap_setCell_other _ ⟨g, o + 2, none⟩ b x2 h).trans ((heap_setCell_other _ ⟨g, o + 1, none⟩ b x1 h).trans (heap_setCell_other _ ⟨g, o, none⟩ b x0 h))))))))
theorem set8_size (w : World) (g o : Nat) (x0 x1 x2 x3 x4 x5 x6 x7 : Value) : (set8 w g o x0 x1 x2 x3 x4 x5 x6 x7).heap.size = w.heap.size := by simp [set8]
theorem ret_En {fn : Func} {a B : Nat} {tmps : Array Value} {X : World} {c0 c1 c2 : Value} {T : TypeId} (hres : fn.results = #[.cell a 107]) (ha : tmps[a]?.getD undef = .pointer (some ⟨B, 0, none⟩)) (h : Hd X B (.cells #[c0, c1, c2] T)) :
    (results fn tmps).run Tryz.prog X = .ok (.agg #[c0, c1, c2]) X := by
  have k0 := cell_of_row X B 0 _ _ _ h
  have k1 := cell_of_row X B 1 _ _ _ h
  have k2 := cell_of_row X B 2 _ _ _ h
  simp [results, hres, ha, go_sem, k0, k1, k2]
theorem ret_Wi {fn : Func} {a B : Nat} {tmps : Array Value} {X : World} {c0 c1 c2 c3 c4 c5 c6 : Value} {T : TypeId} (hres : fn.results = #[.cell a 142]) (ha : tmps[a]?.getD undef = .pointer (some ⟨B, 0, none⟩)) (h : Hd X B (.cells #[c0, c1, c2, c3, c4, c5, c6] T)) :
    (results fn tmps).run Tryz.prog X = .ok (.agg #[c0, c1, c2, c3, c4, c5, c6]) X := by
  have k0 := cell_of_row X B 0 _ _ _ h
  have k1 := cell_of_row X B 1 _ _ _ h
  have k2 := cell_of_row X B 2 _ _ _ h
  have k3 := cell_of_row X B 3 _ _ _ h
  have k4 := cell_of_row X B 4 _ _ _ h
  have k5 := cell_of_row X B 5 _ _ _ h
  have k6 := cell_of_row X B 6 _ _ _ h
  simp [results, hres, ha, go_sem, k0, k1, k2, k3, k4, k5, k6]
theorem ret_Cn {fn : Func} {a B : Nat} {tmps : Array Value} {X : World} {c0 c1 c2 c3 c4 c5 : Value} {T : TypeId} (hres : fn.results = #[.cell a 132]) (ha : tmps[a]?.getD undef = .pointer (some ⟨B, 0, none⟩)) (h : Hd X B (.cells #[c0, c1, c2, c3, c4, c5] T)) :
    (results fn tmps).run Tryz.prog X = .ok (.agg #[c0, c1, c2, c3, c4, c5]) X := by
  have k0 := cell_of_row X B 0 _ _ _ h
  have k1 := cell_of_row X B 1 _ _ _ h
  have k2 := cell_of_row X B 2 _ _ _ h
  have k3 := cell_of_row X B 3 _ _ _ h
  have k4 := cell_of_row X B 4 _ _ _ h
  have k5 := cell_of_row X B 5 _ _ _ h
  simp [results, hres, ha, go_sem, k0, k1, k2, k3, k4, k5]
theorem ret_Pp {fn : Func} {a B : Nat} {tmps : Array Value} {X : World} {c0 c1 c2 c3 c4 c5 c6 c7 : Value} {T : TypeId} (hres : fn.results = #[.cell a 41]) (ha : tmps[a]?.getD undef = .pointer (some ⟨B, 0, none⟩)) (h : Hd X B (.cells #[c0, c1, c2, c3, c4, c5, c6, c7] T)) :
    (results fn tmps).run Tryz.prog X = .ok (.agg #[c0, c1, c2, c3, c4, c5, c6, c7]) X := by
  have k0 := cell_of_row X B 0 _ _ _ h
  have k1 := cell_of_row X B 1 _ _ _ h
  have k2 := cell_of_row X B 2 _ _ _ h
  have k3 := cell_of_row X B 3 _ _ _ h
  have k4 := cell_of_row X B 4 _ _ _ h
  have k5 := cell_of_row X B 5 _ _ _ h
  have k6 := cell_of_row X B 6 _ _ _ h
  have k7 := cell_of_row X B 7 _ _ _ h
  simp [results, hres, ha, go_sem, k0, k1, k2, k3, k4, k5, k6, k7]
/-! ### numbers -/
theorem Tryz.infoInt : (Tryz.prog.info? 3).map (fun i => (i.zero, i.size, i.bytes)) = some (some (.int .i64 0), 1, 8) := by kernel_rfl
def intF (ns : List Int) (k i : Nat) : Value := if i < k then .int .i64 (ns.getD i 0) else .int .i64 0
theorem intF_step (ns : List Int) (k j : Nat) : (if j = k then Value.int .i64 (ns.getD k 0) else intF ns k j) = intF ns (k + 1) j := by
  unfold intF
  by_cases e : j = k
  · subst e; rw [if_pos rfl, if_pos (by omega)]
  · rw [if_neg e]
    by_cases h : j < k
    · rw [if_pos h, if_pos (by omega)]
    · rw [if_neg h, if_neg (by omega)]
def NewIs (W : World) (ns : List Int) (e : Ending) (w' : World) : Prop := ∃ v, e = .returned v ∧ IntsIn (Fr W.heap.size w') w' v ns ∧ Below W.heap.size W w'
set_option maxHeartbeats 1000000 in
theorem toIs_any (B : Nat) (w0 : World) (ns : List Int) (v : Value) (h : IntsIn (· < B) w0 v ns) (hsz : ns.length ≤ 1048576) (W : World) (hb : Below B w0 W) (hB : B ≤ W.heap.size) :
    Calls Tryz.prog 208 #[v] W (NewIs W ns) := by
  have h' := h.blw hb
  obtain ⟨a, cap, b, off, rfl, hcap, hm, ha, hc⟩ := h'
  have HC := Lib.hid hc
  have HA := Lib.hid ha
  clear hc ha h hb
  have hmk := fun w => run_make_row' (P := Tryz.prog) 50 3 (.int .i64 0) 8 Tryz.underlying50 Tryz.infoInt rfl .i64 .i64 ns.length (by omega) (by omega) w
  have HR0 := Lib.hid (World.rowIs_made W (.int .i64 0) ns.length 3)
  have HB0 := Lib.hid ((Below.refl W.heap.size W).alloc (Nat.le_refl _) (.cells (madeCells #[.int .i64 0] ns.length) 3))
  go_enter Tryz.func208, Tryz.ntmps208
  go_wp2
  go_loopw [4] (fun i wr => ∃ (k : Nat), k ≤ ns.length ∧ i = .int .i64 k ∧ wr.rowIs W.heap.size 3 ns.length (intF ns k) ∧ Below W.heap.size W wr) (fun i _ => ns.length - (intOf i).toNat)
  case atStart => exact ⟨0, by omega, rfl, HR0.out.congr (fun i _ => by simp [intF]), HB0.out⟩
  case round =>
    obtain ⟨k, hk, rfl, hR, hN⟩ := hrel
    by_cases hlt : k < ns.length
    · obtain ⟨ea, hlb⟩ := HA.out (by omega)
      subst ea
      have q0 := (hN.cell (p := ⟨b, off + k, none⟩) (Nat.lt_of_lt_of_le hlb hB)).trans (HC.out k hlt)
      have q1 := hR.cell hlt
      have q2 := hR.frozen k
      have hR' := Lib.hid ((hR.set k (.int .i64 (ns.getD k 0))).congr (fun j _ => intF_step ns k j))
      have hN' := Lib.hid (hN.setCell (p := ⟨W.heap.size, k, none⟩) (Nat.le_refl _) (.int .i64 (ns.getD k 0)))
      clear hR hN
      generalize ns.getD k 0 = t at *
      generalize intF ns k k = z at *
      go_wp2
      go_roundw
      case rel => exact ⟨k + 1, by omega, by go_num, hR'.out, hN'.out⟩
      case measure => simp [intOf]; omega
    · obtain rfl : k = ns.length := by omega
      have hF : NewIs W ns (.returned (.slice (some ⟨W.heap.size, 0, none⟩) ns.length ns.length)) wr :=
        ⟨_, rfl, ⟨some ⟨W.heap.size, 0, none⟩, ns.length, W.heap.size, 0, rfl, Nat.le_refl _, by omega, fun _ => ⟨rfl, Nat.le_refl _, hR.lt, cl_row hR⟩, fun i hi => by rw [Nat.zero_add, hR.cell hi]; simp [intF, hi]⟩, hN⟩
      go_wp2
      go_ret
      exact hF
/-! ### entries -/
set_option maxHeartbeats 1000000 in
theorem toEn_any (x : En) (W : World) : Calls Tryz.prog 130 #[eV x] W fun e w' => e = .returned (eV x) ∧ Below W.heap.size W w' := by
  obtain ⟨i, b, n⟩ := x
  go_enter Tryz.func130, Tryz.ntmps130
  have hf := Qu.alloc3_1 W (.cells #[.int .i64 i, .int .i64 b, .int .i64 n] 188) (.cells #[.int .i64 i, .int .i64 b, .int .i64 n] 107) (.cells #[.int .i64 i, .int .i64 b, .int .i64 n] 107)
  go_wp2
  exact bodyPost_ret (ret_En Tryz.results130 rfl hf) rfl ⟨rfl, (((Below.refl _ _).alloc (Nat.le_refl _) _).alloc (by simp) _).alloc (by simp; omega) _⟩
theorem Tryz.infoEn : (Tryz.prog.info? 107).map (fun i => (i.zero, i.size, i.bytes)) = some (some (.agg #[.int .i64 0, .int .i64 0, .int .i64 0]), 3, 24) := by kernel_rfl
def NewEns (W : World) (xs : List En) (e : Ending) (w' : World) : Prop := ∃ v, e = .returned v ∧ EnIn (Fr W.heap.size w') w' v xs ∧ Below W.heap.size W w'
def RelEn (W : World) (xs : List En) (k : Nat) (wr : World) : Prop :=
  ∃ (F : Nat → Value), wr.rowIs W.heap.size 107 (xs.length * 3) F ∧ (∀ i, i < k → F (i * 3) = .int .i64 (xs.getD i default).kind ∧ F (i * 3 + 1) = .int .i64 (xs.getD i default).id ∧ F (i * 3 + 2) = .int .i64 (xs.getD i default).tm) ∧ Below W.heap.size W wr
theorem run_makeEn (n : Nat) (hn : n ≤ 1048576) (w : World) : (Instr.makeSlice 38 (.int .i64 (n : Int)) (.int .i64 (n : Int))).run Tryz.prog w = .ok (.slice (some ⟨w.heap.size, 0, none⟩) n n) (w.alloc (.cells (madeCells #[.int .i64 0, .int .i64 0, .int .i64 0] (n * 3)) 107)) := by
  obtain ⟨i0, hi, hz0, hz1, hz2⟩ := info_parts Tryz.infoEn
  have h := run_make (P := Tryz.prog) w 38 107 i0 _ Tryz.underlying38 hi hz0 .i64 .i64 n n (by omega) (by omega) (by rw [hz2]; omega) (by omega)
  rw [hz1] at h
  simpa [Value.cells] using h
theorem relEn_start (W : World) (xs : List En) : RelEn W xs 0 (W.alloc (.cells (madeCells #[.int .i64 0, .int .i64 0, .int .i64 0] (xs.length * 3)) 107)) := by
  refine ⟨fun i => #[.int .i64 0, .int .i64 0, .int .i64 0][i % 3]!, ?_, fun i hi => by omega, (Below.refl _ _).alloc (Nat.le_refl _) _⟩
  exact ⟨_, heap_alloc_new _ _, size_madeCells _ _, fun i hi => by simp [madeCells, hi]⟩
theorem relEn_end {W w' : World} {xs : List En} (h : RelEn W xs xs.length w') (hm : xs.length ≤ 1048576) (hl : ∀ i, i < xs.length → True) : NewEns W xs (.returned (.slice (some ⟨W.heap.size, 0, none⟩) xs.length xs.length)) w' := by
  obtain ⟨F, hr, hf, hb⟩ := h
  refine ⟨_, rfl, ⟨some ⟨W.heap.size, 0, none⟩, xs.length, W.heap.size, 0, rfl, Nat.le_refl _, by omega, hl, fun _ => ⟨rfl, Nat.le_refl _, hr.lt, cl_row hr⟩, fun i hi => ?_⟩, hb⟩
  obtain ⟨f0, f1, f2⟩ := hf i hi
  simp only [Nat.zero_add]
  exact ⟨by rw [hr.cell (by omega), f0], by rw [hr.cell (by omega), f1], by rw [hr.cell (by omega), f2]⟩
theorem relEn_step {W wr w2 : World} {xs : List En} {k : Nat} {x : En} {F : Nat → Value} (hx : xs.getD k default = x) (hr : w2.rowIs W.heap.size 107 (xs.length * 3) F)
    (hf : ∀ i, i < k → F (i * 3) = .int .i64 (xs.getD i default).kind ∧ F (i * 3 + 1) = .int .i64 (xs.getD i default).id ∧ F (i * 3 + 2) = .int .i64 (xs.getD i default).tm) (hN : Below W.heap.size W wr) (hlt : W.heap.size < wr.heap.size) (hb2 : Below wr.heap.size wr w2) :
    RelEn W xs (k + 1) (set3 w2 W.heap.size (k * 3) (.int .i64 x.kind) (.int .i64 x.id) (.int .i64 x.tm)) := by
  have hs := hb2.size
  refine ⟨fun j => if j = k * 3 + 2 then .int .i64 x.tm else if j = k * 3 + 1 then .int .i64 x.id else if j = k * 3 then .int .i64 x.kind else F j, (((hr.set _ _).set _ _).set _ _), fun i hi => ?_, ?_⟩
  · by_cases e : i = k
    · subst e
      rw [hx]
      refine ⟨?_, ?_, ?_⟩ <;> simp
    · obtain ⟨f0, f1, f2⟩ := hf i (by omega)
      refine ⟨?_, ?_, ?_⟩ <;> dsimp only
      · rw [if_neg (by omega), if_neg (by omega), if_neg (by omega), f0]
      · rw [if_neg (by omega), if_neg (by omega), if_neg (by omega), f1]
      · rw [if_neg (by omega), if_neg (by omega), if_neg (by omega), f2]
  · exact bel3 (hN.trans (hb2.mono (by omega))) (Nat.le_refl _) _ _ _
set_option maxRecDepth 100000 in
set_option maxHeartbeats 4000000 in
theorem toEns_any (B : Nat) (w0 : World) (xs : List En) (v : Value) (h : EnIn (· < B) w0 v xs) (hsz : xs.length ≤ 1048576) (W : World) (hb : Below B w0 W) (hB : B ≤ W.heap.size) :
    Calls Tryz.prog 65 #[v] W (NewEns W xs) := by
  obtain ⟨a, cap, b, off, rfl, hcap, hm, hlen, ha, hc⟩ := h
  have HC := Lib.hid hc
  have HL := Lib.hid hlen
  have HA := Lib.hid ha
  have HB := Lib.hid hb
  clear hc ha hb hlen
  have hmk := fun w => run_makeEn xs.length hsz w
  have HR0 := Lib.hid (relEn_start W xs)
  go_enter Tryz.func65, Tryz.ntmps65
  go_wp2
  go_loopw [4] (fun i wr => ∃ (k : Nat), k ≤ xs.length ∧ i = .int .i64 k ∧ RelEn W xs k wr) (fun i _ => xs.length - (intOf i).toNat)
  case atStart => exact ⟨0, by omega, rfl, HR0.out⟩
  case round =>
    obtain ⟨k, hk, rfl, hR⟩ := hrel
    by_cases hlt : k < xs.length
    · obtain ⟨ea, hlb⟩ := HA.out (by omega)
      subst ea
      obtain ⟨F, hr, hf, hN⟩ := hR
      have hW : Below B w0 wr := HB.out.trans (hN.mono hB)
      obtain ⟨d0, d1, d2⟩ := HC.out k hlt
      have q0 := (hW.cell (p := ⟨b, off + k * 3, none⟩) hlb).trans d0
      have q1 := (hW.cell (p := ⟨b, off + k * 3 + 1, none⟩) hlb).trans d1
      have q2 := (hW.cell (p := ⟨b, off + k * 3 + 2, none⟩) hlb).trans d2
      have HK := Lib.hid (toEn_any (xs.getD k default) wr)
      have HLk := Lib.hid (HL.out k hlt)
      clear d0 d1 d2
      have HF := Lib.hid hf
      have HN := Lib.hid hN
      have HR := Lib.hid hr
      clear hf hN hW hr
      generalize hx : xs.getD k default = x at *
      have HX := Lib.hid hx
      clear hx
      go_wp2_with fail
      refine HK.out.mono ?_
      rintro e w2 ⟨rfl, hb2⟩
      have z2 := hb2.size
      have hr2 := HR.out.of_block (hb2.block _ HR.out.lt)
      have p0 := hr2.cell (i := k * 3) (by omega)
      have p1 := hr2.cell (i := k * 3 + 1) (by omega)
      have p2 := hr2.cell (i := k * 3 + 2) (by omega)
      have pf := hr2.frozen
      have HREL := Lib.hid (relEn_step HX.out hr2 HF.out HN.out HR.out.lt hb2)
      clear hr2 hb2
      go_wp2
      go_roundw
      case rel => exact ⟨k + 1, by omega, by go_num, HREL.out⟩
      case measure => simp [intOf]; omega
    · obtain rfl : k = xs.length := by omega
      have hF := Lib.hid (relEn_end hR hsz HL.out)
      go_wp2
      go_ret
      exact hF.out
/-! ### wires -/
theorem Tryz.infoWi : (Tryz.prog.info? 142).map (fun i => (i.zero, i.size, i.bytes)) = some (some (.agg #[.int .i64 0, .int .i64 0, .string ByteArray.empty, .string ByteArray.empty, .slice none 0 0, .string ByteArray.empty, .bool false]), 7, 96) := by kernel_rfl
def NewWi (W : World) (x : Wi) (e : Ending) (w' : World) : Prop := ∃ u, e = .returned (wV x u) ∧ WiN (Fr W.heap.size w') w' u x ∧ Below W.heap.size W w'
def NewWis (W : World) (xs : List Wi) (e : Ending) (w' : World) : Prop := ∃ v, e = .returned v ∧ WiIn (Fr W.heap.size w') w' v xs ∧ Below W.heap.size W w'
def RelWi (W : World) (xs : List Wi) (k : Nat) (wr : World) : Prop :=
  ∃ (F : Nat → Value) (us : Nat → WV), wr.rowIs W.heap.size 142 (xs.length * 7) F ∧ (∀ i, i < k → F (i * 7) = .int .i64 (xs.getD i default).tm ∧ F (i * 7 + 1) = .int .i64 (xs.getD i default).st ∧ F (i * 7 + 2) = .string ⟨(xs.getD i default).grp.toArray⟩ ∧ F (i * 7 + 3) = .string ⟨(xs.getD i default).url.toArray⟩ ∧ F (i * 7 + 4) = (us i).id ∧ F (i * 7 + 5) = .string ⟨(xs.getD i default).body.toArray⟩ ∧ F (i * 7 + 6) = .bool (xs.getD i default).lost) ∧ (∀ i, i < k → WiN (Fr (W.heap.size + 1) wr) wr (us i) (xs.getD i default)) ∧ Below W.heap.size W wr
theorem run_makeWi (n : Nat) (hn : n ≤ 1048576) (w : World) : (Instr.makeSlice 39 (.int .i64 (n : Int)) (.int .i64 (n : Int))).run Tryz.prog w = .ok (.slice (some ⟨w.heap.size, 0, none⟩) n n) (w.alloc (.cells (madeCells #[.int .i64 0, .int .i64 0, .string ByteArray.empty, .string ByteArray.empty, .slice none 0 0, .string ByteArray.empty, .bool false] (n * 7)) 142)) := by
  obtain ⟨i0, hi, hz0, hz1, hz2⟩ := info_parts Tryz.infoWi
  have h := run_make (P := Tryz.prog) w 39 142 i0 _ Tryz.underlying39 hi hz0 .i64 .i64 n n (by omega) (by omega) (by rw [hz2]; omega) (by omega)
  rw [hz1] at h
  simpa [Value.cells] using h
theorem relWi_start (W : World) (xs : List Wi) : RelWi W xs 0 (W.alloc (.cells (madeCells #[.int .i64 0, .int .i64 0, .string ByteArray.empty, .string ByteArray.empty, .slice none 0 0, .string ByteArray.empty, .bool false] (xs.length * 7)) 142)) := by
  refine ⟨fun i => #[.int .i64 0, .int .i64 0, .string ByteArray.empty, .string ByteArray.empty, .slice none 0 0, .string ByteArray.empty, .bool false][i % 7]!, fun _ => default, ?_, fun i hi => by omega, fun i hi => by omega, (Below.refl _ _).alloc (Nat.le_refl _) _⟩
  exact ⟨_, heap_alloc_new _ _, size_madeCells _ _, fun i hi => by simp [madeCells, hi]⟩
theorem relWi_end {W w' : World} {xs : List Wi} (h : RelWi W xs xs.length w') (hm : xs.length ≤ 1048576) (hl : ∀ i, i < xs.length → (xs.getD i default).grp.length ≤ 9223372036854775807 ∧ (xs.getD i default).url.length ≤ 9223372036854775807 ∧ (xs.getD i default).body.length ≤ 9223372036854775807) : NewWis W xs (.returned (.slice (some ⟨W.heap.size, 0, none⟩) xs.length xs.length)) w' := by
  obtain ⟨F, us, hr, hf, hj, hb⟩ := h
  refine ⟨_, rfl, ⟨some ⟨W.heap.size, 0, none⟩, xs.length, W.heap.size, 0, us, rfl, Nat.le_refl _, by omega, hl, fun _ => ⟨rfl, Nat.le_refl _, hr.lt, cl_row hr⟩, fun i hi => ?_⟩, hb⟩
  obtain ⟨f0, f1, f2, f3, f4, f5, f6⟩ := hf i hi
  simp only [Nat.zero_add]
  exact ⟨by rw [hr.cell (by omega), f0], by rw [hr.cell (by omega), f1], by rw [hr.cell (by omega), f2], by rw [hr.cell (by omega), f3], by rw [hr.cell (by omega), f4], by rw [hr.cell (by omega), f5], by rw [hr.cell (by omega), f6], (hj i hi).same fun b hb => ⟨⟨Nat.le_trans (Nat.le_succ _) hb.1, hb.2⟩, rfl⟩⟩
theorem relWi_step {W wr w2 : World} {xs : List Wi} {k : Nat} {x : Wi} {nu : WV} {F : Nat → Value} {un : Nat → WV} (hx : xs.getD k default = x) (hr : w2.rowIs W.heap.size 142 (xs.length * 7) F)
    (hf : ∀ i, i < k → F (i * 7) = .int .i64 (xs.getD i default).tm ∧ F (i * 7 + 1) = .int .i64 (xs.getD i default).st ∧ F (i * 7 + 2) = .string ⟨(xs.getD i default).grp.toArray⟩ ∧ F (i * 7 + 3) = .string ⟨(xs.getD i default).url.toArray⟩ ∧ F (i * 7 + 4) = (un i).id ∧ F (i * 7 + 5) = .string ⟨(xs.getD i default).body.toArray⟩ ∧ F (i * 7 + 6) = .bool (xs.getD i default).lost)
    (hj : ∀ i, i < k → WiN (Fr (W.heap.size + 1) wr) wr (un i) (xs.getD i default)) (hN : Below W.heap.size W wr) (hlt : W.heap.size < wr.heap.size) (hj2 : WiN (Fr wr.heap.size w2) w2 nu x) (hb2 : Below wr.heap.size wr w2) :
    RelWi W xs (k + 1) (set7 w2 W.heap.size (k * 7) (.int .i64 x.tm) (.int .i64 x.st) (.string ⟨x.grp.toArray⟩) (.string ⟨x.url.toArray⟩) (nu.id) (.string ⟨x.body.toArray⟩) (.bool x.lost)) := by
  have hs := hb2.size
  refine ⟨fun j => if j = k * 7 + 6 then .bool x.lost else if j = k * 7 + 5 then .string ⟨x.body.toArray⟩ else if j = k * 7 + 4 then nu.id else if j = k * 7 + 3 then .string ⟨x.url.toArray⟩ else if j = k * 7 + 2 then .string ⟨x.grp.toArray⟩ else if j = k * 7 + 1 then .int .i64 x.st else if j = k * 7 then .int .i64 x.tm else F j, fun i => if i = k then nu else un i, (((((((hr.set _ _).set _ _).set _ _).set _ _).set _ _).set _ _).set _ _), fun i hi => ?_, fun i hi => ?_, ?_⟩
  · by_cases e : i = k
    · subst e
      rw [hx]
      refine ⟨?_, ?_, ?_, ?_, ?_, ?_, ?_⟩ <;> simp
    · obtain ⟨f0, f1, f2, f3, f4, f5, f6⟩ := hf i (by omega)
      refine ⟨?_, ?_, ?_, ?_, ?_, ?_, ?_⟩ <;> dsimp only
      · rw [if_neg (by omega), if_neg (by omega), if_neg (by omega), if_neg (by omega), if_neg (by omega), if_neg (by omega), if_neg (by omega), f0]
      · rw [if_neg (by omega), if_neg (by omega), if_neg (by omega), if_neg (by omega), if_neg (by omega), if_neg (by omega), if_neg (by omega), f1]
      · rw [if_neg (by omega), if_neg (by omega), if_neg (by omega), if_neg (by omega), if_neg (by omega), if_neg (by omega), if_neg (by omega), f2]
      · rw [if_neg (by omega), if_neg (by omega), if_neg (by omega), if_neg (by omega), if_neg (by omega), if_neg (by omega), if_neg (by omega), f3]
      · rw [if_neg (by omega), if_neg (by omega), if_neg (by omega), if_neg (by omega), if_neg (by omega), if_neg (by omega), if_neg (by omega), f4, if_neg e]
      · rw [if_neg (by omega), if_neg (by omega), if_neg (by omega), if_neg (by omega), if_neg (by omega), if_neg (by omega), if_neg (by omega), f5]
      · rw [if_neg (by omega), if_neg (by omega), if_neg (by omega), if_neg (by omega), if_neg (by omega), if_neg (by omega), if_neg (by omega), f6]
  · by_cases e : i = k
    · subst e
      rw [hx]
      simp only [if_true]
      exact hj2.same fun b hb => ⟨⟨by have := hb.1; omega, by rw [set7_size]; exact hb.2.1, hb.2.2.same (set7_far _ _ _ _ _ _ _ _ _ _ _ (by have := hb.1; omega))⟩, set7_far _ _ _ _ _ _ _ _ _ _ _ (by have := hb.1; omega)⟩
    · simp only [if_neg e]
      exact (hj i (by omega)).same fun b hb => ⟨⟨hb.1, by rw [set7_size]; exact Nat.lt_of_lt_of_le hb.2.1 hs, hb.2.2.same (by rw [set7_far _ _ _ _ _ _ _ _ _ _ _ (by have := hb.1; omega)]; exact hb2.block b hb.2.1)⟩, by rw [set7_far _ _ _ _ _ _ _ _ _ _ _ (by have := hb.1; omega)]; exact hb2.block b hb.2.1⟩
  · exact bel7 (hN.trans (hb2.mono (by omega))) (Nat.le_refl _) _ _ _ _ _ _ _
set_option maxRecDepth 100000 in
set_option maxHeartbeats 4000000 in
theorem toWi_any (B : Nat) (w0 : World) (x : Wi) (u : WV) (h : WiN (· < B) w0 u x) (hs : WSm x) (W : World) (hb : Below B w0 W) (hB : B ≤ W.heap.size) :
    Calls Tryz.prog 131 #[wV x u] W (NewWi W x) := by
  obtain ⟨t, s, g, l, ns, d, z⟩ := x
  obtain ⟨u_id⟩ := u
  obtain ⟨hi⟩ := h
  simp only [Pi.WSm] at hi hs
  have SI := Lib.hid (toIs_any B w0 ns u_id hi hs)
  obtain ⟨a1, l1, c1, rfl⟩ := hi.slice
  clear hi
  have HB := Lib.hid hb
  clear hb
  go_enter Tryz.func131, Tryz.ntmps131
  go_wp2_with fail
  obtain ⟨x0, hx⟩ : ∃ x, x = ((W.alloc (.cells #[.int .i64 t, .int .i64 s, .string ⟨g.toArray⟩, .string ⟨l.toArray⟩, .slice a1 l1 c1, .string ⟨d.toArray⟩, .bool z] 179)).alloc (.cells #[.int .i64 0, .int .i64 0, .string ⟨#[]⟩, .string ⟨#[]⟩, .slice none 0 0, .string ⟨#[]⟩, .bool false] 142)).alloc (.cells #[.int .i64 t, .int .i64 s, .string ⟨g.toArray⟩, .string ⟨l.toArray⟩, .slice none 0 0, .string ⟨#[]⟩, .bool false] 142) := ⟨_, rfl⟩
  have T0 := Lib.hid (show TC 179 142 W x0 #[.int .i64 t, .int .i64 s, .string ⟨g.toArray⟩, .string ⟨l.toArray⟩, .slice a1 l1 c1, .string ⟨d.toArray⟩, .bool z] #[.int .i64 0, .int .i64 0, .string ⟨#[]⟩, .string ⟨#[]⟩, .slice none 0 0, .string ⟨#[]⟩, .bool false] #[.int .i64 t, .int .i64 s, .string ⟨g.toArray⟩, .string ⟨l.toArray⟩, .slice none 0 0, .string ⟨#[]⟩, .bool false] by rw [hx]; exact TC.start 179 142 W #[.int .i64 t, .int .i64 s, .string ⟨g.toArray⟩, .string ⟨l.toArray⟩, .slice a1 l1 c1, .string ⟨d.toArray⟩, .bool z] #[.int .i64 0, .int .i64 0, .string ⟨#[]⟩, .string ⟨#[]⟩, .slice none 0 0, .string ⟨#[]⟩, .bool false] #[.int .i64 t, .int .i64 s, .string ⟨g.toArray⟩, .string ⟨l.toArray⟩, .slice none 0 0, .string ⟨#[]⟩, .bool false])
  rw [← hx]
  clear hx
  refine (SI.out x0 (HB.out.trans (T0.out.b.mono hB)) (Nat.le_trans hB T0.out.b.size)).mono ?_
  rintro e y0 ⟨v2, rfl, hi2, hb2⟩
  obtain ⟨a2, l2, c2, rfl⟩ := hi2.slice
  have U0 := Lib.hid (T0.out.blw hb2)
  have Ni := Lib.hid (show IntsIn (Fr (W.heap.size + 3) y0) y0 (.slice a2 l2 c2) ns from hi2.mono (fun b hb => ⟨Nat.le_trans T0.out.z hb.1, hb.2⟩))
  clear hb2
  have kp := U0.out.p
  have kr := U0.out.r
  have ko := U0.out.o
  have mp0_0 := cell_of_row y0 W.heap.size 0 _ _ _ kp
  have mp0_1 := cell_of_row y0 W.heap.size 1 _ _ _ kp
  have mp0_2 := cell_of_row y0 W.heap.size 2 _ _ _ kp
  have mp0_3 := cell_of_row y0 W.heap.size 3 _ _ _ kp
  have mp0_4 := cell_of_row y0 W.heap.size 4 _ _ _ kp
  have mp0_5 := cell_of_row y0 W.heap.size 5 _ _ _ kp
  have mp0_6 := cell_of_row y0 W.heap.size 6 _ _ _ kp
  have mo0_0 := cell_of_row y0 (W.heap.size + 1 + 1) 0 _ _ _ ko
  have mo0_1 := cell_of_row y0 (W.heap.size + 1 + 1) 1 _ _ _ ko
  have mo0_2 := cell_of_row y0 (W.heap.size + 1 + 1) 2 _ _ _ ko
  have mo0_3 := cell_of_row y0 (W.heap.size + 1 + 1) 3 _ _ _ ko
  have mo0_4 := cell_of_row y0 (W.heap.size + 1 + 1) 4 _ _ _ ko
  have mo0_5 := cell_of_row y0 (W.heap.size + 1 + 1) 5 _ _ _ ko
  have mo0_6 := cell_of_row y0 (W.heap.size + 1 + 1) 6 _ _ _ ko
  have mf0 : ∀ o, y0.frozen? ⟨W.heap.size + 1 + 1, o, none⟩ = false := fun o => frozen_of_row y0 (W.heap.size + 1 + 1) o _ _ ko
  have mr0_0 := cell_of_row y0 (W.heap.size + 1) 0 _ _ _ kr
  have mr0_1 := cell_of_row y0 (W.heap.size + 1) 1 _ _ _ kr
  have mr0_2 := cell_of_row y0 (W.heap.size + 1) 2 _ _ _ kr
  have mr0_3 := cell_of_row y0 (W.heap.size + 1) 3 _ _ _ kr
  have mr0_4 := cell_of_row y0 (W.heap.size + 1) 4 _ _ _ kr
  have mr0_5 := cell_of_row y0 (W.heap.size + 1) 5 _ _ _ kr
  have mr0_6 := cell_of_row y0 (W.heap.size + 1) 6 _ _ _ kr
  have mg0 : ∀ o, y0.frozen? ⟨W.heap.size + 1, o, none⟩ = false := fun o => frozen_of_row y0 (W.heap.size + 1) o _ _ kr
  clear kp kr ko
  have TF : TC 179 142 W (((y0.setCell ⟨W.heap.size + 1 + 1, 4, none⟩ (.slice a2 l2 c2)).setCell ⟨W.heap.size + 1 + 1, 5, none⟩ (.string ⟨d.toArray⟩)).setCell ⟨W.heap.size + 1 + 1, 6, none⟩ (.bool z)) #[.int .i64 t, .int .i64 s, .string ⟨g.toArray⟩, .string ⟨l.toArray⟩, .slice a1 l1 c1, .string ⟨d.toArray⟩, .bool z] #[.int .i64 0, .int .i64 0, .string ⟨#[]⟩, .string ⟨#[]⟩, .slice none 0 0, .string ⟨#[]⟩, .bool false] #[.int .i64 t, .int .i64 s, .string ⟨g.toArray⟩, .string ⟨l.toArray⟩, .slice a2 l2 c2, .string ⟨d.toArray⟩, .bool z] := ((U0.out.set 4 (.slice a2 l2 c2)).set 5 (.string ⟨d.toArray⟩)).set 6 (.bool z)
  have TG : TC 179 142 W (set7 (((y0.setCell ⟨W.heap.size + 1 + 1, 4, none⟩ (.slice a2 l2 c2)).setCell ⟨W.heap.size + 1 + 1, 5, none⟩ (.string ⟨d.toArray⟩)).setCell ⟨W.heap.size + 1 + 1, 6, none⟩ (.bool z)) (W.heap.size + 1) 0 (.int .i64 t) (.int .i64 s) (.string ⟨g.toArray⟩) (.string ⟨l.toArray⟩) (.slice a2 l2 c2) (.string ⟨d.toArray⟩) (.bool z)) #[.int .i64 t, .int .i64 s, .string ⟨g.toArray⟩, .string ⟨l.toArray⟩, .slice a1 l1 c1, .string ⟨d.toArray⟩, .bool z] #[.int .i64 t, .int .i64 s, .string ⟨g.toArray⟩, .string ⟨l.toArray⟩, .slice a2 l2 c2, .string ⟨d.toArray⟩, .bool z] #[.int .i64 t, .int .i64 s, .string ⟨g.toArray⟩, .string ⟨l.toArray⟩, .slice a2 l2 c2, .string ⟨d.toArray⟩, .bool z] := (((((((TF.setr 0 (.int .i64 t)).setr 1 (.int .i64 s)).setr 2 (.string ⟨g.toArray⟩)).setr 3 (.string ⟨l.toArray⟩)).setr 4 (.slice a2 l2 c2)).setr 5 (.string ⟨d.toArray⟩)).setr 6 (.bool z))
  have HFIN := Lib.hid TG.r
  have hsz : (set7 (((y0.setCell ⟨W.heap.size + 1 + 1, 4, none⟩ (.slice a2 l2 c2)).setCell ⟨W.heap.size + 1 + 1, 5, none⟩ (.string ⟨d.toArray⟩)).setCell ⟨W.heap.size + 1 + 1, 6, none⟩ (.bool z)) (W.heap.size + 1) 0 (.int .i64 t) (.int .i64 s) (.string ⟨g.toArray⟩) (.string ⟨l.toArray⟩) (.slice a2 l2 c2) (.string ⟨d.toArray⟩) (.bool z)).heap.size = y0.heap.size := by rw [set7_size]; simp
  have hfar : ∀ b, W.heap.size + 3 ≤ b → (set7 (((y0.setCell ⟨W.heap.size + 1 + 1, 4, none⟩ (.slice a2 l2 c2)).setCell ⟨W.heap.size + 1 + 1, 5, none⟩ (.string ⟨d.toArray⟩)).setCell ⟨W.heap.size + 1 + 1, 6, none⟩ (.bool z)) (W.heap.size + 1) 0 (.int .i64 t) (.int .i64 s) (.string ⟨g.toArray⟩) (.string ⟨l.toArray⟩) (.slice a2 l2 c2) (.string ⟨d.toArray⟩) (.bool z)).heap[b]? = y0.heap[b]? := fun b hb3 => (set7_far _ _ _ _ _ _ _ _ _ _ _ (by omega)).trans ((heap_setCell_other _ ⟨W.heap.size + 1 + 1, 6, none⟩ b _ (show b ≠ W.heap.size + 1 + 1 by have := hb3; omega)).trans ((heap_setCell_other _ ⟨W.heap.size + 1 + 1, 5, none⟩ b _ (show b ≠ W.heap.size + 1 + 1 by have := hb3; omega)).trans (heap_setCell_other _ ⟨W.heap.size + 1 + 1, 4, none⟩ b _ (show b ≠ W.heap.size + 1 + 1 by have := hb3; omega))))
  have HP := Lib.hid (show NewWi W ⟨t, s, g, l, ns, d, z⟩ (.returned (wV ⟨t, s, g, l, ns, d, z⟩ ⟨.slice a2 l2 c2⟩)) (set7 (((y0.setCell ⟨W.heap.size + 1 + 1, 4, none⟩ (.slice a2 l2 c2)).setCell ⟨W.heap.size + 1 + 1, 5, none⟩ (.string ⟨d.toArray⟩)).setCell ⟨W.heap.size + 1 + 1, 6, none⟩ (.bool z)) (W.heap.size + 1) 0 (.int .i64 t) (.int .i64 s) (.string ⟨g.toArray⟩) (.string ⟨l.toArray⟩) (.slice a2 l2 c2) (.string ⟨d.toArray⟩) (.bool z)) from ⟨_, rfl, ⟨Ni.out.same (fun b hb => ⟨⟨Nat.le_trans (Nat.le_add_right _ 3) hb.1, by rw [hsz]; exact hb.2.1, hb.2.2.same (hfar b hb.1)⟩, hfar b hb.1⟩)⟩, TG.b⟩)
  clear TF TG hsz hfar
  go_wp2
  exact bodyPost_ret (ret_Wi Tryz.results131 rfl HFIN.out) rfl HP.out
set_option maxRecDepth 100000 in
set_option maxHeartbeats 4000000 in
theorem toWis_any (B : Nat) (w0 : World) (xs : List Wi) (v : Value) (h : WiIn (· < B) w0 v xs) (hsz : xs.length ≤ 1048576) (hsw : ∀ i, i < xs.length → WSm (xs.getD i default)) (W : World) (hb : Below B w0 W) (hB : B ≤ W.heap.size) :
    Calls Tryz.prog 66 #[v] W (NewWis W xs) := by
  obtain ⟨a, cap, b, off, us, rfl, hcap, hm, hlen, ha, hc⟩ := h
  have HC := Lib.hid hc
  have HL := Lib.hid hlen
  have HA := Lib.hid ha
  have HB := Lib.hid hb
  have HS := Lib.hid hsw
  clear hc ha hb hlen hsw
  have hmk := fun w => run_makeWi xs.length hsz w
  have HR0 := Lib.hid (relWi_start W xs)
  go_enter Tryz.func66, Tryz.ntmps66
  go_wp2
  go_loopw [4] (fun i wr => ∃ (k : Nat), k ≤ xs.length ∧ i = .int .i64 k ∧ RelWi W xs k wr) (fun i _ => xs.length - (intOf i).toNat)
  case atStart => exact ⟨0, by omega, rfl, HR0.out⟩
  case round =>
    obtain ⟨k, hk, rfl, hR⟩ := hrel
    by_cases hlt : k < xs.length
    · obtain ⟨ea, hlb⟩ := HA.out (by omega)
      subst ea
      obtain ⟨F, un, hr, hf, hj, hN⟩ := hR
      have hW : Below B w0 wr := HB.out.trans (hN.mono hB)
      obtain ⟨d0, d1, d2, d3, d4, d5, d6, dN⟩ := HC.out k hlt
      have q0 := (hW.cell (p := ⟨b, off + k * 7, none⟩) hlb).trans d0
      have q1 := (hW.cell (p := ⟨b, off + k * 7 + 1, none⟩) hlb).trans d1
      have q2 := (hW.cell (p := ⟨b, off + k * 7 + 2, none⟩) hlb).trans d2
      have q3 := (hW.cell (p := ⟨b, off + k * 7 + 3, none⟩) hlb).trans d3
      have q4 := (hW.cell (p := ⟨b, off + k * 7 + 4, none⟩) hlb).trans d4
      have q5 := (hW.cell (p := ⟨b, off + k * 7 + 5, none⟩) hlb).trans d5
      have q6 := (hW.cell (p := ⟨b, off + k * 7 + 6, none⟩) hlb).trans d6
      have HK := Lib.hid (toWi_any B w0 (xs.getD k default) (us k) dN (HS.out k hlt) wr hW (Nat.le_trans hB hN.size))
      have HLk := Lib.hid (HL.out k hlt)
      clear d0 d1 d2 d3 d4 d5 d6
      have HF := Lib.hid hf
      have HN := Lib.hid hN
      have HR := Lib.hid hr
      have HJ := Lib.hid hj
      clear hf hN hW hr hj
      generalize us k = u at *
      generalize hx : xs.getD k default = x at *
      have HX := Lib.hid hx
      clear hx
      obtain ⟨u_id⟩ := u
      obtain ⟨_, _, _, rfl⟩ : ∃ a l c, u_id = .slice a l c := dN.id.slice
      clear dN
      go_wp2_with fail
      refine HK.out.mono ?_
      rintro e w2 ⟨nu, rfl, hj2, hb2⟩
      have HJ2 := Lib.hid hj2
      obtain ⟨n_id⟩ := nu
      obtain ⟨_, _, _, rfl⟩ : ∃ a l c, n_id = .slice a l c := hj2.id.slice
      clear hj2
      have z2 := hb2.size
      have hr2 := HR.out.of_block (hb2.block _ HR.out.lt)
      have p0 := hr2.cell (i := k * 7) (by omega)
      have p1 := hr2.cell (i := k * 7 + 1) (by omega)
      have p2 := hr2.cell (i := k * 7 + 2) (by omega)
      have p3 := hr2.cell (i := k * 7 + 3) (by omega)
      have p4 := hr2.cell (i := k * 7 + 4) (by omega)
      have p5 := hr2.cell (i := k * 7 + 5) (by omega)
      have p6 := hr2.cell (i := k * 7 + 6) (by omega)
      have pf := hr2.frozen
      have HREL := Lib.hid (relWi_step HX.out hr2 HF.out HJ.out HN.out HR.out.lt HJ2.out hb2)
      clear hr2 hb2
      go_wp2
      go_roundw
      case rel => exact ⟨k + 1, by omega, by go_num, HREL.out⟩
      case measure => simp [intOf]; omega
    · obtain rfl : k = xs.length := by omega
      have hF := Lib.hid (relWi_end hR hsz HL.out)
      go_wp2
      go_ret
      exact hF.out
/-! ### channels -/
theorem Tryz.infoCn : (Tryz.prog.info? 132).map (fun i => (i.zero, i.size, i.bytes)) = some (some (.agg #[.string ByteArray.empty, .int .i64 0, .slice none 0 0, .slice none 0 0, .slice none 0 0, .slice none 0 0]), 6, 120) := by kernel_rfl
def NewCn (W : World) (x : Cn) (e : Ending) (w' : World) : Prop := ∃ u, e = .returned (cV x u) ∧ CnN (Fr W.heap.size w') w' u x ∧ Below W.heap.size W w'
def NewCns (W : World) (xs : List Cn) (e : Ending) (w' : World) : Prop := ∃ v, e = .returned v ∧ CnIn (Fr W.heap.size w') w' v xs ∧ Below W.heap.size W w'
def RelCn (W : World) (xs : List Cn) (k : Nat) (wr : World) : Prop :=
  ∃ (F : Nat → Value) (us : Nat → CV), wr.rowIs W.heap.size 132 (xs.length * 6) F ∧ (∀ i, i < k → F (i * 6) = .string ⟨(xs.getD i default).g.name.toArray⟩ ∧ F (i * 6 + 1) = .int .i64 (xs.getD i default).g.age ∧ F (i * 6 + 2) = (us i).tv ∧ F (i * 6 + 3) = (us i).pv ∧ F (i * 6 + 4) = (us i).iv ∧ F (i * 6 + 5) = (us i).rv) ∧ (∀ i, i < k → CnN (Fr (W.heap.size + 1) wr) wr (us i) (xs.getD i default)) ∧ Below W.heap.size W wr
theorem run_makeCn (n : Nat) (hn : n ≤ 1048576) (w : World) : (Instr.makeSlice 34 (.int .i64 (n : Int)) (.int .i64 (n : Int))).run Tryz.prog w = .ok (.slice (some ⟨w.heap.size, 0, none⟩) n n) (w.alloc (.cells (madeCells #[.string ByteArray.empty, .int .i64 0, .slice none 0 0, .slice none 0 0, .slice none 0 0, .slice none 0 0] (n * 6)) 132)) := by
  obtain ⟨i0, hi, hz0, hz1, hz2⟩ := info_parts Tryz.infoCn
  have h := run_make (P := Tryz.prog) w 34 132 i0 _ Tryz.underlying34 hi hz0 .i64 .i64 n n (by omega) (by omega) (by rw [hz2]; omega) (by omega)
  rw [hz1] at h
  simpa [Value.cells] using h
theorem relCn_start (W : World) (xs : List Cn) : RelCn W xs 0 (W.alloc (.cells (madeCells #[.string ByteArray.empty, .int .i64 0, .slice none 0 0, .slice none 0 0, .slice none 0 0, .slice none 0 0] (xs.length * 6)) 132)) := by
  refine ⟨fun i => #[.string ByteArray.empty, .int .i64 0, .slice none 0 0, .slice none 0 0, .slice none 0 0, .slice none 0 0][i % 6]!, fun _ => default, ?_, fun i hi => by omega, fun i hi => by omega, (Below.refl _ _).alloc (Nat.le_refl _) _⟩
  exact ⟨_, heap_alloc_new _ _, size_madeCells _ _, fun i hi => by simp [madeCells, hi]⟩
theorem relCn_end {W w' : World} {xs : List Cn} (h : RelCn W xs xs.length w') (hm : xs.length ≤ 1048576) (hl : ∀ i, i < xs.length → (xs.getD i default).g.name.length ≤ 9223372036854775807) : NewCns W xs (.returned (.slice (some ⟨W.heap.size, 0, none⟩) xs.length xs.length)) w' := by
  obtain ⟨F, us, hr, hf, hj, hb⟩ := h
  refine ⟨_, rfl, ⟨some ⟨W.heap.size, 0, none⟩, xs.length, W.heap.size, 0, us, rfl, Nat.le_refl _, by omega, hl, fun _ => ⟨rfl, Nat.le_refl _, hr.lt, cl_row hr⟩, fun i hi => ?_⟩, hb⟩
  obtain ⟨f0, f1, f2, f3, f4, f5⟩ := hf i hi
  simp only [Nat.zero_add]
  exact ⟨by rw [hr.cell (by omega), f0], by rw [hr.cell (by omega), f1], by rw [hr.cell (by omega), f2], by rw [hr.cell (by omega), f3], by rw [hr.cell (by omega), f4], by rw [hr.cell (by omega), f5], (hj i hi).same fun b hb => ⟨⟨Nat.le_trans (Nat.le_succ _) hb.1, hb.2⟩, rfl⟩⟩
theorem relCn_step {W wr w2 : World} {xs : List Cn} {k : Nat} {x : Cn} {nu : CV} {F : Nat → Value} {un : Nat → CV} (hx : xs.getD k default = x) (hr : w2.rowIs W.heap.size 132 (xs.length * 6) F)
    (hf : ∀ i, i < k → F (i * 6) = .string ⟨(xs.getD i default).g.name.toArray⟩ ∧ F (i * 6 + 1) = .int .i64 (xs.getD i default).g.age ∧ F (i * 6 + 2) = (un i).tv ∧ F (i * 6 + 3) = (un i).pv ∧ F (i * 6 + 4) = (un i).iv ∧ F (i * 6 + 5) = (un i).rv)
    (hj : ∀ i, i < k → CnN (Fr (W.heap.size + 1) wr) wr (un i) (xs.getD i default)) (hN : Below W.heap.size W wr) (hlt : W.heap.size < wr.heap.size) (hj2 : CnN (Fr wr.heap.size w2) w2 nu x) (hb2 : Below wr.heap.size wr w2) :
    RelCn W xs (k + 1) (set6 w2 W.heap.size (k * 6) (.string ⟨x.g.name.toArray⟩) (.int .i64 x.g.age) (nu.tv) (nu.pv) (nu.iv) (nu.rv)) := by
  have hs := hb2.size
  refine ⟨fun j => if j = k * 6 + 5 then nu.rv else if j = k * 6 + 4 then nu.iv else if j = k * 6 + 3 then nu.pv else if j = k * 6 + 2 then nu.tv else if j = k * 6 + 1 then .int .i64 x.g.age else if j = k * 6 then .string ⟨x.g.name.toArray⟩ else F j, fun i => if i = k then nu else un i, ((((((hr.set _ _).set _ _).set _ _).set _ _).set _ _).set _ _), fun i hi => ?_, fun i hi => ?_, ?_⟩
  · by_cases e : i = k
    · subst e
      rw [hx]
      refine ⟨?_, ?_, ?_, ?_, ?_, ?_⟩ <;> simp
    · obtain ⟨f0, f1, f2, f3, f4, f5⟩ := hf i (by omega)
      refine ⟨?_, ?_, ?_, ?_, ?_, ?_⟩ <;> dsimp only
      · rw [if_neg (by omega), if_neg (by omega), if_neg (by omega), if_neg (by omega), if_neg (by omega), if_neg (by omega), f0]
      · rw [if_neg (by omega), if_neg (by omega), if_neg (by omega), if_neg (by omega), if_neg (by omega), if_neg (by omega), f1]
      · rw [if_neg (by omega), if_neg (by omega), if_neg (by omega), if_neg (by omega), if_neg (by omega), if_neg (by omega), f2, if_neg e]
      · rw [if_neg (by omega), if_neg (by omega), if_neg (by omega), if_neg (by omega), if_neg (by omega), if_neg (by omega), f3, if_neg e]
      · rw [if_neg (by omega), if_neg (by omega), if_neg (by omega), if_neg (by omega), if_neg (by omega), if_neg (by omega), f4, if_neg e]
      · rw [if_neg (by omega), if_neg (by omega), if_neg (by omega), if_neg (by omega), if_neg (by omega), if_neg (by omega), f5, if_neg e]
  · by_cases e : i = k
    · subst e
      rw [hx]
      simp only [if_true]
      exact hj2.same fun b hb => ⟨⟨by have := hb.1; omega, by rw [set6_size]; exact hb.2.1, hb.2.2.same (set6_far _ _ _ _ _ _ _ _ _ _ (by have := hb.1; omega))⟩, set6_far _ _ _ _ _ _ _ _ _ _ (by have := hb.1; omega)⟩
    · simp only [if_neg e]
      exact (hj i (by omega)).same fun b hb => ⟨⟨hb.1, by rw [set6_size]; exact Nat.lt_of_lt_of_le hb.2.1 hs, hb.2.2.same (by rw [set6_far _ _ _ _ _ _ _ _ _ _ (by have := hb.1; omega)]; exact hb2.block b hb.2.1)⟩, by rw [set6_far _ _ _ _ _ _ _ _ _ _ (by have := hb.1; omega)]; exact hb2.block b hb.2.1⟩
  · exact bel6 (hN.trans (hb2.mono (by omega))) (Nat.le_refl _) _ _ _ _ _ _
set_option maxRecDepth 100000 in
set_option maxHeartbeats 4000000 in
theorem toCn_any (B : Nat) (w0 : World) (x : Cn) (u : CV) (h : CnN (· < B) w0 u x) (hs : CSm x) (W : World) (hb : Below B w0 W) (hB : B ≤ W.heap.size) :
    Calls Tryz.prog 127 #[cV x u] W (NewCn W x) := by
  obtain ⟨⟨nm, ag, ts⟩, ps, ⟨rs, bs⟩⟩ := x
  obtain ⟨u_tv, u_pv, u_iv, u_rv⟩ := u
  obtain ⟨ht, hp, hi, hr⟩ := h
  obtain ⟨hst, hsp, hsi, hsr⟩ := hs
  simp only at ht hp hi hr hst hsp hsi hsr
  have SG := Lib.hid (toG_fr B w0 ⟨nm, ag, ts⟩ u_tv ht hst)
  have SP := Lib.hid (toPrs_fr B w0 ps u_pv hp hsp)
  have SQ := Lib.hid (toQ_fr B w0 ⟨rs, bs⟩ u_iv u_rv hi hr hsi hsr)
  obtain ⟨a1, l1, c1, rfl⟩ := ht.slice
  obtain ⟨a2, l2, c2, rfl⟩ := hp.slice
  obtain ⟨a3, l3, c3, rfl⟩ := hi.slice
  obtain ⟨a4, l4, c4, rfl⟩ := hr.slice
  clear ht hp hi hr
  have HB := Lib.hid hb
  clear hb
  go_enter Tryz.func127, Tryz.ntmps127
  go_wp2_with fail
  obtain ⟨x0, hx⟩ : ∃ x, x = ((W.alloc (.cells #[.string ⟨nm.toArray⟩, .int .i64 ag, .slice a1 l1 c1, .slice a2 l2 c2, .slice a3 l3 c3, .slice a4 l4 c4] 176)).alloc (.cells #[.string ⟨#[]⟩, .int .i64 0, .slice none 0 0, .slice none 0 0, .slice none 0 0, .slice none 0 0] 132)).alloc (.cells #[.string ⟨#[]⟩, .int .i64 0, .slice none 0 0, .slice none 0 0, .slice none 0 0, .slice none 0 0] 132) := ⟨_, rfl⟩
  have T0 := Lib.hid (show TC 176 132 W x0 #[.string ⟨nm.toArray⟩, .int .i64 ag, .slice a1 l1 c1, .slice a2 l2 c2, .slice a3 l3 c3, .slice a4 l4 c4] #[.string ⟨#[]⟩, .int .i64 0, .slice none 0 0, .slice none 0 0, .slice none 0 0, .slice none 0 0] #[.string ⟨#[]⟩, .int .i64 0, .slice none 0 0, .slice none 0 0, .slice none 0 0, .slice none 0 0] by rw [hx]; exact TC.start 176 132 W #[.string ⟨nm.toArray⟩, .int .i64 ag, .slice a1 l1 c1, .slice a2 l2 c2, .slice a3 l3 c3, .slice a4 l4 c4] #[.string ⟨#[]⟩, .int .i64 0, .slice none 0 0, .slice none 0 0, .slice none 0 0, .slice none 0 0] #[.string ⟨#[]⟩, .int .i64 0, .slice none 0 0, .slice none 0 0, .slice none 0 0, .slice none 0 0])
  rw [← hx]
  clear hx
  refine (SG.out x0 (HB.out.trans (T0.out.b.mono hB)) (Nat.le_trans hB T0.out.b.size)).mono ?_
  rintro e y0 ⟨v2, rfl, hi2, hb2⟩
  obtain ⟨b1, k1, d1, rfl⟩ := hi2.slice
  have U0 := Lib.hid (T0.out.blw hb2)
  have Nt := Lib.hid (show TgIn (Fr (W.heap.size + 3) y0) y0 (.slice b1 k1 d1) ts from hi2.mono (fun b hb => ⟨Nat.le_trans T0.out.z hb.1, hb.2⟩))
  clear hb2
  have kp := U0.out.p
  have kr := U0.out.r
  have ko := U0.out.o
  have mp0_0 := cell_of_row y0 W.heap.size 0 _ _ _ kp
  have mp0_1 := cell_of_row y0 W.heap.size 1 _ _ _ kp
  have mp0_2 := cell_of_row y0 W.heap.size 2 _ _ _ kp
  have mp0_3 := cell_of_row y0 W.heap.size 3 _ _ _ kp
  have mp0_4 := cell_of_row y0 W.heap.size 4 _ _ _ kp
  have mp0_5 := cell_of_row y0 W.heap.size 5 _ _ _ kp
  have mo0_0 := cell_of_row y0 (W.heap.size + 1 + 1) 0 _ _ _ ko
  have mo0_1 := cell_of_row y0 (W.heap.size + 1 + 1) 1 _ _ _ ko
  have mo0_2 := cell_of_row y0 (W.heap.size + 1 + 1) 2 _ _ _ ko
  have mo0_3 := cell_of_row y0 (W.heap.size + 1 + 1) 3 _ _ _ ko
  have mo0_4 := cell_of_row y0 (W.heap.size + 1 + 1) 4 _ _ _ ko
  have mo0_5 := cell_of_row y0 (W.heap.size + 1 + 1) 5 _ _ _ ko
  have mf0 : ∀ o, y0.frozen? ⟨W.heap.size + 1 + 1, o, none⟩ = false := fun o => frozen_of_row y0 (W.heap.size + 1 + 1) o _ _ ko
  clear kp kr ko
  go_wp2_with fail
  obtain ⟨x1, hx⟩ : ∃ x, x = ((y0.setCell ⟨W.heap.size + 1 + 1, 0, none⟩ (.string ⟨nm.toArray⟩)).setCell ⟨W.heap.size + 1 + 1, 1, none⟩ (.int .i64 ag)).setCell ⟨W.heap.size + 1 + 1, 2, none⟩ (.slice b1 k1 d1) := ⟨_, rfl⟩
  have T1 := Lib.hid (show TC 176 132 W x1 #[.string ⟨nm.toArray⟩, .int .i64 ag, .slice a1 l1 c1, .slice a2 l2 c2, .slice a3 l3 c3, .slice a4 l4 c4] #[.string ⟨#[]⟩, .int .i64 0, .slice none 0 0, .slice none 0 0, .slice none 0 0, .slice none 0 0] #[.string ⟨nm.toArray⟩, .int .i64 ag, .slice b1 k1 d1, .slice none 0 0, .slice none 0 0, .slice none 0 0] by rw [hx]; exact ((U0.out.set 0 (.string ⟨nm.toArray⟩)).set 1 (.int .i64 ag)).set 2 (.slice b1 k1 d1))
  have Nt := Lib.hid (show TgIn (Fr (W.heap.size + 3) x1) x1 (.slice b1 k1 d1) ts by rw [hx]; exact Nt.out.same (fun b hb => ⟨⟨hb.1, by simpa using hb.2.1, hb.2.2.same ((heap_setCell_other _ ⟨W.heap.size + 1 + 1, 2, none⟩ b _ (show b ≠ W.heap.size + 1 + 1 by have := hb.1; omega)).trans ((heap_setCell_other _ ⟨W.heap.size + 1 + 1, 1, none⟩ b _ (show b ≠ W.heap.size + 1 + 1 by have := hb.1; omega)).trans (heap_setCell_other _ ⟨W.heap.size + 1 + 1, 0, none⟩ b _ (show b ≠ W.heap.size + 1 + 1 by have := hb.1; omega))))⟩, ((heap_setCell_other _ ⟨W.heap.size + 1 + 1, 2, none⟩ b _ (show b ≠ W.heap.size + 1 + 1 by have := hb.1; omega)).trans ((heap_setCell_other _ ⟨W.heap.size + 1 + 1, 1, none⟩ b _ (show b ≠ W.heap.size + 1 + 1 by have := hb.1; omega)).trans (heap_setCell_other _ ⟨W.heap.size + 1 + 1, 0, none⟩ b _ (show b ≠ W.heap.size + 1 + 1 by have := hb.1; omega))))⟩))
  rw [← hx]
  clear hx
  refine (SP.out x1 (HB.out.trans (T1.out.b.mono hB)) (Nat.le_trans hB T1.out.b.size)).mono ?_
  rintro e y1 ⟨v2, rfl, hi2, hb2⟩
  obtain ⟨b2, d2, rfl⟩ := hi2.slice2
  have U1 := Lib.hid (T1.out.blw hb2)
  have Nt := Lib.hid (show TgIn (Fr (W.heap.size + 3) y1) y1 (.slice b1 k1 d1) ts from Nt.out.same (fun b hb => ⟨⟨hb.1, Nat.lt_of_lt_of_le hb.2.1 hb2.size, hb.2.2.same (hb2.block b hb.2.1)⟩, hb2.block b hb.2.1⟩))
  have Np := Lib.hid (show PrIn (Fr (W.heap.size + 3) y1) y1 (.slice b2 ps.length d2) ps from hi2.mono (fun b hb => ⟨Nat.le_trans T1.out.z hb.1, hb.2⟩))
  clear hb2
  have kp := U1.out.p
  have kr := U1.out.r
  have ko := U1.out.o
  have mp1_0 := cell_of_row y1 W.heap.size 0 _ _ _ kp
  have mp1_1 := cell_of_row y1 W.heap.size 1 _ _ _ kp
  have mp1_2 := cell_of_row y1 W.heap.size 2 _ _ _ kp
  have mp1_3 := cell_of_row y1 W.heap.size 3 _ _ _ kp
  have mp1_4 := cell_of_row y1 W.heap.size 4 _ _ _ kp
  have mp1_5 := cell_of_row y1 W.heap.size 5 _ _ _ kp
  have mo1_0 := cell_of_row y1 (W.heap.size + 1 + 1) 0 _ _ _ ko
  have mo1_1 := cell_of_row y1 (W.heap.size + 1 + 1) 1 _ _ _ ko
  have mo1_2 := cell_of_row y1 (W.heap.size + 1 + 1) 2 _ _ _ ko
  have mo1_3 := cell_of_row y1 (W.heap.size + 1 + 1) 3 _ _ _ ko
  have mo1_4 := cell_of_row y1 (W.heap.size + 1 + 1) 4 _ _ _ ko
  have mo1_5 := cell_of_row y1 (W.heap.size + 1 + 1) 5 _ _ _ ko
  have mf1 : ∀ o, y1.frozen? ⟨W.heap.size + 1 + 1, o, none⟩ = false := fun o => frozen_of_row y1 (W.heap.size + 1 + 1) o _ _ ko
  clear kp kr ko
  go_wp2_with fail
  obtain ⟨x2, hx⟩ : ∃ x, x = y1.setCell ⟨W.heap.size + 1 + 1, 3, none⟩ (.slice b2 ps.length d2) := ⟨_, rfl⟩
  have T2 := Lib.hid (show TC 176 132 W x2 #[.string ⟨nm.toArray⟩, .int .i64 ag, .slice a1 l1 c1, .slice a2 l2 c2, .slice a3 l3 c3, .slice a4 l4 c4] #[.string ⟨#[]⟩, .int .i64 0, .slice none 0 0, .slice none 0 0, .slice none 0 0, .slice none 0 0] #[.string ⟨nm.toArray⟩, .int .i64 ag, .slice b1 k1 d1, .slice b2 ps.length d2, .slice none 0 0, .slice none 0 0] by rw [hx]; exact U1.out.set 3 (.slice b2 ps.length d2))
  have Nt := Lib.hid (show TgIn (Fr (W.heap.size + 3) x2) x2 (.slice b1 k1 d1) ts by rw [hx]; exact Nt.out.same (fun b hb => ⟨⟨hb.1, by simpa using hb.2.1, hb.2.2.same (heap_setCell_other _ ⟨W.heap.size + 1 + 1, 3, none⟩ b _ (show b ≠ W.heap.size + 1 + 1 by have := hb.1; omega))⟩, (heap_setCell_other _ ⟨W.heap.size + 1 + 1, 3, none⟩ b _ (show b ≠ W.heap.size + 1 + 1 by have := hb.1; omega))⟩))
  have Np := Lib.hid (show PrIn (Fr (W.heap.size + 3) x2) x2 (.slice b2 ps.length d2) ps by rw [hx]; exact Np.out.same (fun b hb => ⟨⟨hb.1, by simpa using hb.2.1, hb.2.2.same (heap_setCell_other _ ⟨W.heap.size + 1 + 1, 3, none⟩ b _ (show b ≠ W.heap.size + 1 + 1 by have := hb.1; omega))⟩, (heap_setCell_other _ ⟨W.heap.size + 1 + 1, 3, none⟩ b _ (show b ≠ W.heap.size + 1 + 1 by have := hb.1; omega))⟩))
  rw [← hx]
  clear hx
  refine (SQ.out x2 (HB.out.trans (T2.out.b.mono hB)) (Nat.le_trans hB T2.out.b.size)).mono ?_
  rintro e y2 ⟨v2, v3, rfl, hi2, hi3, hb2⟩
  obtain ⟨b3, d3, rfl⟩ := hi2.slice2
  obtain ⟨b4, d4, rfl⟩ := tx_slice2 hi3
  have U2 := Lib.hid (T2.out.blw hb2)
  have Nt := Lib.hid (show TgIn (Fr (W.heap.size + 3) y2) y2 (.slice b1 k1 d1) ts from Nt.out.same (fun b hb => ⟨⟨hb.1, Nat.lt_of_lt_of_le hb.2.1 hb2.size, hb.2.2.same (hb2.block b hb.2.1)⟩, hb2.block b hb.2.1⟩))
  have Np := Lib.hid (show PrIn (Fr (W.heap.size + 3) y2) y2 (.slice b2 ps.length d2) ps from Np.out.same (fun b hb => ⟨⟨hb.1, Nat.lt_of_lt_of_le hb.2.1 hb2.size, hb.2.2.same (hb2.block b hb.2.1)⟩, hb2.block b hb.2.1⟩))
  have Nq := Lib.hid (show RpIn (Fr (W.heap.size + 3) y2) y2 (.slice b3 rs.length d3) rs from hi2.mono (fun b hb => ⟨Nat.le_trans T2.out.z hb.1, hb.2⟩))
  have Nr := Lib.hid (show TxtsIn (Fr (W.heap.size + 3) y2) y2 (.slice b4 bs.length d4) bs from hi3.mono (fun b hb => ⟨Nat.le_trans T2.out.z hb.1, hb.2⟩))
  clear hb2
  have kp := U2.out.p
  have kr := U2.out.r
  have ko := U2.out.o
  have mp2_0 := cell_of_row y2 W.heap.size 0 _ _ _ kp
  have mp2_1 := cell_of_row y2 W.heap.size 1 _ _ _ kp
  have mp2_2 := cell_of_row y2 W.heap.size 2 _ _ _ kp
  have mp2_3 := cell_of_row y2 W.heap.size 3 _ _ _ kp
  have mp2_4 := cell_of_row y2 W.heap.size 4 _ _ _ kp
  have mp2_5 := cell_of_row y2 W.heap.size 5 _ _ _ kp
  have mo2_0 := cell_of_row y2 (W.heap.size + 1 + 1) 0 _ _ _ ko
  have mo2_1 := cell_of_row y2 (W.heap.size + 1 + 1) 1 _ _ _ ko
  have mo2_2 := cell_of_row y2 (W.heap.size + 1 + 1) 2 _ _ _ ko
  have mo2_3 := cell_of_row y2 (W.heap.size + 1 + 1) 3 _ _ _ ko
  have mo2_4 := cell_of_row y2 (W.heap.size + 1 + 1) 4 _ _ _ ko
  have mo2_5 := cell_of_row y2 (W.heap.size + 1 + 1) 5 _ _ _ ko
  have mf2 : ∀ o, y2.frozen? ⟨W.heap.size + 1 + 1, o, none⟩ = false := fun o => frozen_of_row y2 (W.heap.size + 1 + 1) o _ _ ko
  have mr2_0 := cell_of_row y2 (W.heap.size + 1) 0 _ _ _ kr
  have mr2_1 := cell_of_row y2 (W.heap.size + 1) 1 _ _ _ kr
  have mr2_2 := cell_of_row y2 (W.heap.size + 1) 2 _ _ _ kr
  have mr2_3 := cell_of_row y2 (W.heap.size + 1) 3 _ _ _ kr
  have mr2_4 := cell_of_row y2 (W.heap.size + 1) 4 _ _ _ kr
  have mr2_5 := cell_of_row y2 (W.heap.size + 1) 5 _ _ _ kr
  have mg2 : ∀ o, y2.frozen? ⟨W.heap.size + 1, o, none⟩ = false := fun o => frozen_of_row y2 (W.heap.size + 1) o _ _ kr
  clear kp kr ko
  have TF : TC 176 132 W ((y2.setCell ⟨W.heap.size + 1 + 1, 4, none⟩ (.slice b3 rs.length d3)).setCell ⟨W.heap.size + 1 + 1, 5, none⟩ (.slice b4 bs.length d4)) #[.string ⟨nm.toArray⟩, .int .i64 ag, .slice a1 l1 c1, .slice a2 l2 c2, .slice a3 l3 c3, .slice a4 l4 c4] #[.string ⟨#[]⟩, .int .i64 0, .slice none 0 0, .slice none 0 0, .slice none 0 0, .slice none 0 0] #[.string ⟨nm.toArray⟩, .int .i64 ag, .slice b1 k1 d1, .slice b2 ps.length d2, .slice b3 rs.length d3, .slice b4 bs.length d4] := (U2.out.set 4 (.slice b3 rs.length d3)).set 5 (.slice b4 bs.length d4)
  have TG : TC 176 132 W (set6 ((y2.setCell ⟨W.heap.size + 1 + 1, 4, none⟩ (.slice b3 rs.length d3)).setCell ⟨W.heap.size + 1 + 1, 5, none⟩ (.slice b4 bs.length d4)) (W.heap.size + 1) 0 (.string ⟨nm.toArray⟩) (.int .i64 ag) (.slice b1 k1 d1) (.slice b2 ps.length d2) (.slice b3 rs.length d3) (.slice b4 bs.length d4)) #[.string ⟨nm.toArray⟩, .int .i64 ag, .slice a1 l1 c1, .slice a2 l2 c2, .slice a3 l3 c3, .slice a4 l4 c4] #[.string ⟨nm.toArray⟩, .int .i64 ag, .slice b1 k1 d1, .slice b2 ps.length d2, .slice b3 rs.length d3, .slice b4 bs.length d4] #[.string ⟨nm.toArray⟩, .int .i64 ag, .slice b1 k1 d1, .slice b2 ps.length d2, .slice b3 rs.length d3, .slice b4 bs.length d4] := ((((((TF.setr 0 (.string ⟨nm.toArray⟩)).setr 1 (.int .i64 ag)).setr 2 (.slice b1 k1 d1)).setr 3 (.slice b2 ps.length d2)).setr 4 (.slice b3 rs.length d3)).setr 5 (.slice b4 bs.length d4))
  have HFIN := Lib.hid TG.r
  have hsz : (set6 ((y2.setCell ⟨W.heap.size + 1 + 1, 4, none⟩ (.slice b3 rs.length d3)).setCell ⟨W.heap.size + 1 + 1, 5, none⟩ (.slice b4 bs.length d4)) (W.heap.size + 1) 0 (.string ⟨nm.toArray⟩) (.int .i64 ag) (.slice b1 k1 d1) (.slice b2 ps.length d2) (.slice b3 rs.length d3) (.slice b4 bs.length d4)).heap.size = y2.heap.size := by rw [set6_size]; simp
  have hfar : ∀ b, W.heap.size + 3 ≤ b → (set6 ((y2.setCell ⟨W.heap.size + 1 + 1, 4, none⟩ (.slice b3 rs.length d3)).setCell ⟨W.heap.size + 1 + 1, 5, none⟩ (.slice b4 bs.length d4)) (W.heap.size + 1) 0 (.string ⟨nm.toArray⟩) (.int .i64 ag) (.slice b1 k1 d1) (.slice b2 ps.length d2) (.slice b3 rs.length d3) (.slice b4 bs.length d4)).heap[b]? = y2.heap[b]? := fun b hb3 => (set6_far _ _ _ _ _ _ _ _ _ _ (by omega)).trans ((heap_setCell_other _ ⟨W.heap.size + 1 + 1, 5, none⟩ b _ (show b ≠ W.heap.size + 1 + 1 by have := hb3; omega)).trans (heap_setCell_other _ ⟨W.heap.size + 1 + 1, 4, none⟩ b _ (show b ≠ W.heap.size + 1 + 1 by have := hb3; omega)))
  have HP := Lib.hid (show NewCn W ⟨⟨nm, ag, ts⟩, ps, ⟨rs, bs⟩⟩ (.returned (cV ⟨⟨nm, ag, ts⟩, ps, ⟨rs, bs⟩⟩ ⟨.slice b1 k1 d1, .slice b2 ps.length d2, .slice b3 rs.length d3, .slice b4 bs.length d4⟩)) (set6 ((y2.setCell ⟨W.heap.size + 1 + 1, 4, none⟩ (.slice b3 rs.length d3)).setCell ⟨W.heap.size + 1 + 1, 5, none⟩ (.slice b4 bs.length d4)) (W.heap.size + 1) 0 (.string ⟨nm.toArray⟩) (.int .i64 ag) (.slice b1 k1 d1) (.slice b2 ps.length d2) (.slice b3 rs.length d3) (.slice b4 bs.length d4)) from ⟨_, rfl, ⟨Nt.out.same (fun b hb => ⟨⟨Nat.le_trans (Nat.le_add_right _ 3) hb.1, by rw [hsz]; exact hb.2.1, hb.2.2.same (hfar b hb.1)⟩, hfar b hb.1⟩), Np.out.same (fun b hb => ⟨⟨Nat.le_trans (Nat.le_add_right _ 3) hb.1, by rw [hsz]; exact hb.2.1, hb.2.2.same (hfar b hb.1)⟩, hfar b hb.1⟩), Nq.out.same (fun b hb => ⟨⟨Nat.le_trans (Nat.le_add_right _ 3) hb.1, by rw [hsz]; exact hb.2.1, hb.2.2.same (hfar b hb.1)⟩, hfar b hb.1⟩), Nr.out.same (fun b hb => ⟨⟨Nat.le_trans (Nat.le_add_right _ 3) hb.1, by rw [hsz]; exact hb.2.1, hb.2.2.same (hfar b hb.1)⟩, hfar b hb.1⟩)⟩, TG.b⟩)
  clear TF TG hsz hfar
  go_wp2
  exact bodyPost_ret (ret_Cn Tryz.results127 rfl HFIN.out) rfl HP.out
set_option maxRecDepth 100000 in
set_option maxHeartbeats 4000000 in
theorem toCns_any (B : Nat) (w0 : World) (xs : List Cn) (v : Value) (h : CnIn (· < B) w0 v xs) (hsz : xs.length ≤ 1048576) (hsw : ∀ i, i < xs.length → CSm (xs.getD i default)) (W : World) (hb : Below B w0 W) (hB : B ≤ W.heap.size) :
    Calls Tryz.prog 63 #[v] W (NewCns W xs) := by
  obtain ⟨a, cap, b, off, us, rfl, hcap, hm, hlen, ha, hc⟩ := h
  have HC := Lib.hid hc
  have HL := Lib.hid hlen
  have HA := Lib.hid ha
  have HB := Lib.hid hb
  have HS := Lib.hid hsw
  clear hc ha hb hlen hsw
  have hmk := fun w => run_makeCn xs.length hsz w
  have HR0 := Lib.hid (relCn_start W xs)
  go_enter Tryz.func63, Tryz.ntmps63
  go_wp2
  go_loopw [4] (fun i wr => ∃ (k : Nat), k ≤ xs.length ∧ i = .int .i64 k ∧ RelCn W xs k wr) (fun i _ => xs.length - (intOf i).toNat)
  case atStart => exact ⟨0, by omega, rfl, HR0.out⟩
  case round =>
    obtain ⟨k, hk, rfl, hR⟩ := hrel
    by_cases hlt : k < xs.length
    · obtain ⟨ea, hlb⟩ := HA.out (by omega)
      subst ea
      obtain ⟨F, un, hr, hf, hj, hN⟩ := hR
      have hW : Below B w0 wr := HB.out.trans (hN.mono hB)
      obtain ⟨d0, d1, d2, d3, d4, d5, dN⟩ := HC.out k hlt
      have q0 := (hW.cell (p := ⟨b, off + k * 6, none⟩) hlb).trans d0
      have q1 := (hW.cell (p := ⟨b, off + k * 6 + 1, none⟩) hlb).trans d1
      have q2 := (hW.cell (p := ⟨b, off + k * 6 + 2, none⟩) hlb).trans d2
      have q3 := (hW.cell (p := ⟨b, off + k * 6 + 3, none⟩) hlb).trans d3
      have q4 := (hW.cell (p := ⟨b, off + k * 6 + 4, none⟩) hlb).trans d4
      have q5 := (hW.cell (p := ⟨b, off + k * 6 + 5, none⟩) hlb).trans d5
      have HK := Lib.hid (toCn_any B w0 (xs.getD k default) (us k) dN (HS.out k hlt) wr hW (Nat.le_trans hB hN.size))
      have HLk := Lib.hid (HL.out k hlt)
      clear d0 d1 d2 d3 d4 d5
      have HF := Lib.hid hf
      have HN := Lib.hid hN
      have HR := Lib.hid hr
      have HJ := Lib.hid hj
      clear hf hN hW hr hj
      generalize us k = u at *
      generalize hx : xs.getD k default = x at *
      have HX := Lib.hid hx
      clear hx
      obtain ⟨u_tv, u_pv, u_iv, u_rv⟩ := u
      obtain ⟨_, _, _, rfl⟩ : ∃ a l c, u_tv = .slice a l c := dN.tv.slice
      obtain ⟨_, _, _, rfl⟩ : ∃ a l c, u_pv = .slice a l c := dN.pv.slice
      obtain ⟨_, _, _, rfl⟩ : ∃ a l c, u_iv = .slice a l c := dN.iv.slice
      obtain ⟨_, _, _, rfl⟩ : ∃ a l c, u_rv = .slice a l c := dN.rv.slice
      clear dN
      go_wp2_with fail
      refine HK.out.mono ?_
      rintro e w2 ⟨nu, rfl, hj2, hb2⟩
      have HJ2 := Lib.hid hj2
      obtain ⟨n_tv, n_pv, n_iv, n_rv⟩ := nu
      obtain ⟨_, _, _, rfl⟩ : ∃ a l c, n_tv = .slice a l c := hj2.tv.slice
      obtain ⟨_, _, _, rfl⟩ : ∃ a l c, n_pv = .slice a l c := hj2.pv.slice
      obtain ⟨_, _, _, rfl⟩ : ∃ a l c, n_iv = .slice a l c := hj2.iv.slice
      obtain ⟨_, _, _, rfl⟩ : ∃ a l c, n_rv = .slice a l c := hj2.rv.slice
      clear hj2
      have z2 := hb2.size
      have hr2 := HR.out.of_block (hb2.block _ HR.out.lt)
      have p0 := hr2.cell (i := k * 6) (by omega)
      have p1 := hr2.cell (i := k * 6 + 1) (by omega)
      have p2 := hr2.cell (i := k * 6 + 2) (by omega)
      have p3 := hr2.cell (i := k * 6 + 3) (by omega)
      have p4 := hr2.cell (i := k * 6 + 4) (by omega)
      have p5 := hr2.cell (i := k * 6 + 5) (by omega)
      have pf := hr2.frozen
      have HREL := Lib.hid (relCn_step HX.out hr2 HF.out HJ.out HN.out HR.out.lt HJ2.out hb2)
      clear hr2 hb2
      go_wp2
      go_roundw
      case rel => exact ⟨k + 1, by omega, by go_num, HREL.out⟩
      case measure => simp [intOf]; omega
    · obtain rfl : k = xs.length := by omega
      have hF := Lib.hid (relCn_end hR hsz HL.out)
      go_wp2
      go_ret
      exact hF.out
/-! ### pipes -/
def NewPp (W : World) (p : Pp) (e : Ending) (w' : World) : Prop := ∃ u, e = .returned (pV8 p u) ∧ PpN (Fr W.heap.size w') w' u p ∧ Below W.heap.size W w'
set_option maxRecDepth 100000 in
set_option maxHeartbeats 4000000 in
theorem toPp_any (B : Nat) (w0 : World) (p : Pp) (u : PV) (h : PpN (· < B) w0 u p) (hs : PSm p) (W : World) (hb : Below B w0 W) (hB : B ≤ W.heap.size) :
    Calls Tryz.prog 16 #[pV8 p u] W (NewPp W p) := by
  obtain ⟨chs, ⟨rp, uris, rules⟩, now, next, log, ws⟩ := p
  obtain ⟨u_cv, u_uv, u_rv, u_lv, u_wv⟩ := u
  obtain ⟨hcv, huv, hrv, hlv, hwv⟩ := h
  simp only at hcv huv hrv hlv hwv
  obtain ⟨s1, s2, s3, s4, s5, s6, s7, s8⟩ := hs
  simp only at s1 s2 s3 s4 s5 s6 s7 s8
  have SC := Lib.hid (toCns_any B w0 chs u_cv hcv s1 s2)
  have SP := Lib.hid (toP_fr B w0 ⟨rp, uris, rules⟩ u_uv u_rv huv hrv s3 s4 s5)
  have SE := Lib.hid (toEns_any B w0 log u_lv hlv s6)
  have SW := Lib.hid (toWis_any B w0 ws u_wv hwv s7 s8)
  obtain ⟨a1, l1, c1, rfl⟩ := hcv.slice
  obtain ⟨a2, l2, c2, rfl⟩ := huv.slice
  obtain ⟨a3, l3, c3, rfl⟩ := hrv.slice
  obtain ⟨a4, l4, c4, rfl⟩ := hlv.slice
  obtain ⟨a5, l5, c5, rfl⟩ := hwv.slice
  clear hcv huv hrv hlv hwv s2 s5 s8
  have HB := Lib.hid hb
  clear hb
  go_enter Tryz.func16, Tryz.ntmps16
  go_wp2_with fail
  obtain ⟨x0, hx⟩ : ∃ x, x = ((W.alloc (.cells #[.slice a1 l1 c1, .string ⟨rp.toArray⟩, .slice a2 l2 c2, .slice a3 l3 c3, .int .i64 now, .int .i64 next, .slice a4 l4 c4, .slice a5 l5 c5] 30)).alloc (.cells #[.slice none 0 0, .string ⟨#[]⟩, .slice none 0 0, .slice none 0 0, .int .i64 0, .int .i64 0, .slice none 0 0, .slice none 0 0] 41)).alloc (.cells #[.slice none 0 0, .string ⟨#[]⟩, .slice none 0 0, .slice none 0 0, .int .i64 0, .int .i64 0, .slice none 0 0, .slice none 0 0] 41) := ⟨_, rfl⟩
  have T0 := Lib.hid (show TC 30 41 W x0 #[.slice a1 l1 c1, .string ⟨rp.toArray⟩, .slice a2 l2 c2, .slice a3 l3 c3, .int .i64 now, .int .i64 next, .slice a4 l4 c4, .slice a5 l5 c5] #[.slice none 0 0, .string ⟨#[]⟩, .slice none 0 0, .slice none 0 0, .int .i64 0, .int .i64 0, .slice none 0 0, .slice none 0 0] #[.slice none 0 0, .string ⟨#[]⟩, .slice none 0 0, .slice none 0 0, .int .i64 0, .int .i64 0, .slice none 0 0, .slice none 0 0] by rw [hx]; exact TC.start 30 41 W #[.slice a1 l1 c1, .string ⟨rp.toArray⟩, .slice a2 l2 c2, .slice a3 l3 c3, .int .i64 now, .int .i64 next, .slice a4 l4 c4, .slice a5 l5 c5] #[.slice none 0 0, .string ⟨#[]⟩, .slice none 0 0, .slice none 0 0, .int .i64 0, .int .i64 0, .slice none 0 0, .slice none 0 0] #[.slice none 0 0, .string ⟨#[]⟩, .slice none 0 0, .slice none 0 0, .int .i64 0, .int .i64 0, .slice none 0 0, .slice none 0 0])
  rw [← hx]
  clear hx
  refine (SC.out x0 (HB.out.trans (T0.out.b.mono hB)) (Nat.le_trans hB T0.out.b.size)).mono ?_
  rintro e y0 ⟨v2, rfl, hi2, hb2⟩
  obtain ⟨b1, k1, d1, rfl⟩ := hi2.slice
  have U0 := Lib.hid (T0.out.blw hb2)
  have Nc := Lib.hid (show CnIn (Fr (W.heap.size + 3) y0) y0 (.slice b1 k1 d1) chs from hi2.mono (fun b hb => ⟨Nat.le_trans T0.out.z hb.1, hb.2⟩))
  clear hb2
  have kp := U0.out.p
  have kr := U0.out.r
  have ko := U0.out.o
  have mp0_0 := cell_of_row y0 W.heap.size 0 _ _ _ kp
  have mp0_1 := cell_of_row y0 W.heap.size 1 _ _ _ kp
  have mp0_2 := cell_of_row y0 W.heap.size 2 _ _ _ kp
  have mp0_3 := cell_of_row y0 W.heap.size 3 _ _ _ kp
  have mp0_4 := cell_of_row y0 W.heap.size 4 _ _ _ kp
  have mp0_5 := cell_of_row y0 W.heap.size 5 _ _ _ kp
  have mp0_6 := cell_of_row y0 W.heap.size 6 _ _ _ kp
  have mp0_7 := cell_of_row y0 W.heap.size 7 _ _ _ kp
  have mo0_0 := cell_of_row y0 (W.heap.size + 1 + 1) 0 _ _ _ ko
  have mo0_1 := cell_of_row y0 (W.heap.size + 1 + 1) 1 _ _ _ ko
  have mo0_2 := cell_of_row y0 (W.heap.size + 1 + 1) 2 _ _ _ ko
  have mo0_3 := cell_of_row y0 (W.heap.size + 1 + 1) 3 _ _ _ ko
  have mo0_4 := cell_of_row y0 (W.heap.size + 1 + 1) 4 _ _ _ ko
  have mo0_5 := cell_of_row y0 (W.heap.size + 1 + 1) 5 _ _ _ ko
  have mo0_6 := cell_of_row y0 (W.heap.size + 1 + 1) 6 _ _ _ ko
  have mo0_7 := cell_of_row y0 (W.heap.size + 1 + 1) 7 _ _ _ ko
  have mf0 : ∀ o, y0.frozen? ⟨W.heap.size + 1 + 1, o, none⟩ = false := fun o => frozen_of_row y0 (W.heap.size + 1 + 1) o _ _ ko
  clear kp kr ko
  go_wp2_with fail
  obtain ⟨x1, hx⟩ : ∃ x, x = y0.setCell ⟨W.heap.size + 1 + 1, 0, none⟩ (.slice b1 k1 d1) := ⟨_, rfl⟩
  have T1 := Lib.hid (show TC 30 41 W x1 #[.slice a1 l1 c1, .string ⟨rp.toArray⟩, .slice a2 l2 c2, .slice a3 l3 c3, .int .i64 now, .int .i64 next, .slice a4 l4 c4, .slice a5 l5 c5] #[.slice none 0 0, .string ⟨#[]⟩, .slice none 0 0, .slice none 0 0, .int .i64 0, .int .i64 0, .slice none 0 0, .slice none 0 0] #[.slice b1 k1 d1, .string ⟨#[]⟩, .slice none 0 0, .slice none 0 0, .int .i64 0, .int .i64 0, .slice none 0 0, .slice none 0 0] by rw [hx]; exact U0.out.set 0 (.slice b1 k1 d1))
  have Nc := Lib.hid (show CnIn (Fr (W.heap.size + 3) x1) x1 (.slice b1 k1 d1) chs by rw [hx]; exact Nc.out.same (fun b hb => ⟨⟨hb.1, by simpa using hb.2.1, hb.2.2.same (heap_setCell_other _ ⟨W.heap.size + 1 + 1, 0, none⟩ b _ (show b ≠ W.heap.size + 1 + 1 by have := hb.1; omega))⟩, (heap_setCell_other _ ⟨W.heap.size + 1 + 1, 0, none⟩ b _ (show b ≠ W.heap.size + 1 + 1 by have := hb.1; omega))⟩))
  rw [← hx]
  clear hx
  refine (SP.out x1 (HB.out.trans (T1.out.b.mono hB)) (Nat.le_trans hB T1.out.b.size)).mono ?_
  rintro e y1 ⟨v2, v3, rfl, hi2, hi3, hb2⟩
  obtain ⟨b2, k2, d2, rfl⟩ := hi2.slice
  obtain ⟨b3, k3, d3, rfl⟩ := hi3.slice
  have U1 := Lib.hid (T1.out.blw hb2)
  have Nc := Lib.hid (show CnIn (Fr (W.heap.size + 3) y1) y1 (.slice b1 k1 d1) chs from Nc.out.same (fun b hb => ⟨⟨hb.1, Nat.lt_of_lt_of_le hb.2.1 hb2.size, hb.2.2.same (hb2.block b hb.2.1)⟩, hb2.block b hb.2.1⟩))
  have Nu := Lib.hid (show TxtsIn (Fr (W.heap.size + 3) y1) y1 (.slice b2 k2 d2) uris from hi2.mono (fun b hb => ⟨Nat.le_trans T1.out.z hb.1, hb.2⟩))
  have Nr := Lib.hid (show RlIn (Fr (W.heap.size + 3) y1) y1 (.slice b3 k3 d3) rules from hi3.mono (fun b hb => ⟨Nat.le_trans T1.out.z hb.1, hb.2⟩))
  clear hb2
  have kp := U1.out.p
  have kr := U1.out.r
  have ko := U1.out.o
  have mp1_0 := cell_of_row y1 W.heap.size 0 _ _ _ kp
  have mp1_1 := cell_of_row y1 W.heap.size 1 _ _ _ kp
  have mp1_2 := cell_of_row y1 W.heap.size 2 _ _ _ kp
  have mp1_3 := cell_of_row y1 W.heap.size 3 _ _ _ kp
  have mp1_4 := cell_of_row y1 W.heap.size 4 _ _ _ kp
  have mp1_5 := cell_of_row y1 W.heap.size 5 _ _ _ kp
  have mp1_6 := cell_of_row y1 W.heap.size 6 _ _ _ kp
  have mp1_7 := cell_of_row y1 W.heap.size 7 _ _ _ kp
  have mo1_0 := cell_of_row y1 (W.heap.size + 1 + 1) 0 _ _ _ ko
  have mo1_1 := cell_of_row y1 (W.heap.size + 1 + 1) 1 _ _ _ ko
  have mo1_2 := cell_of_row y1 (W.heap.size + 1 + 1) 2 _ _ _ ko
  have mo1_3 := cell_of_row y1 (W.heap.size + 1 + 1) 3 _ _ _ ko
  have mo1_4 := cell_of_row y1 (W.heap.size + 1 + 1) 4 _ _ _ ko
  have mo1_5 := cell_of_row y1 (W.heap.size + 1 + 1) 5 _ _ _ ko
  have mo1_6 := cell_of_row y1 (W.heap.size + 1 + 1) 6 _ _ _ ko
  have mo1_7 := cell_of_row y1 (W.heap.size + 1 + 1) 7 _ _ _ ko
  have mf1 : ∀ o, y1.frozen? ⟨W.heap.size + 1 + 1, o, none⟩ = false := fun o => frozen_of_row y1 (W.heap.size + 1 + 1) o _ _ ko
  clear kp kr ko
  go_wp2_with fail
  obtain ⟨x2, hx⟩ : ∃ x, x = ((((y1.setCell ⟨W.heap.size + 1 + 1, 1, none⟩ (.string ⟨rp.toArray⟩)).setCell ⟨W.heap.size + 1 + 1, 2, none⟩ (.slice b2 k2 d2)).setCell ⟨W.heap.size + 1 + 1, 3, none⟩ (.slice b3 k3 d3)).setCell ⟨W.heap.size + 1 + 1, 4, none⟩ (.int .i64 now)).setCell ⟨W.heap.size + 1 + 1, 5, none⟩ (.int .i64 next) := ⟨_, rfl⟩
  have T2 := Lib.hid (show TC 30 41 W x2 #[.slice a1 l1 c1, .string ⟨rp.toArray⟩, .slice a2 l2 c2, .slice a3 l3 c3, .int .i64 now, .int .i64 next, .slice a4 l4 c4, .slice a5 l5 c5] #[.slice none 0 0, .string ⟨#[]⟩, .slice none 0 0, .slice none 0 0, .int .i64 0, .int .i64 0, .slice none 0 0, .slice none 0 0] #[.slice b1 k1 d1, .string ⟨rp.toArray⟩, .slice b2 k2 d2, .slice b3 k3 d3, .int .i64 now, .int .i64 next, .slice none 0 0, .slice none 0 0] by rw [hx]; exact ((((U1.out.set 1 (.string ⟨rp.toArray⟩)).set 2 (.slice b2 k2 d2)).set 3 (.slice b3 k3 d3)).set 4 (.int .i64 now)).set 5 (.int .i64 next))
  have Nc := Lib.hid (show CnIn (Fr (W.heap.size + 3) x2) x2 (.slice b1 k1 d1) chs by rw [hx]; exact Nc.out.same (fun b hb => ⟨⟨hb.1, by simpa using hb.2.1, hb.2.2.same ((heap_setCell_other _ ⟨W.heap.size + 1 + 1, 5, none⟩ b _ (show b ≠ W.heap.size + 1 + 1 by have := hb.1; omega)).trans ((heap_setCell_other _ ⟨W.heap.size + 1 + 1, 4, none⟩ b _ (show b ≠ W.heap.size + 1 + 1 by have := hb.1; omega)).trans ((heap_setCell_other _ ⟨W.heap.size + 1 + 1, 3, none⟩ b _ (show b ≠ W.heap.size + 1 + 1 by have := hb.1; omega)).trans ((heap_setCell_other _ ⟨W.heap.size + 1 + 1, 2, none⟩ b _ (show b ≠ W.heap.size + 1 + 1 by have := hb.1; omega)).trans (heap_setCell_other _ ⟨W.heap.size + 1 + 1, 1, none⟩ b _ (show b ≠ W.heap.size + 1 + 1 by have := hb.1; omega))))))⟩, ((heap_setCell_other _ ⟨W.heap.size + 1 + 1, 5, none⟩ b _ (show b ≠ W.heap.size + 1 + 1 by have := hb.1; omega)).trans ((heap_setCell_other _ ⟨W.heap.size + 1 + 1, 4, none⟩ b _ (show b ≠ W.heap.size + 1 + 1 by have := hb.1; omega)).trans ((heap_setCell_other _ ⟨W.heap.size + 1 + 1, 3, none⟩ b _ (show b ≠ W.heap.size + 1 + 1 by have := hb.1; omega)).trans ((heap_setCell_other _ ⟨W.heap.size + 1 + 1, 2, none⟩ b _ (show b ≠ W.heap.size + 1 + 1 by have := hb.1; omega)).trans (heap_setCell_other _ ⟨W.heap.size + 1 + 1, 1, none⟩ b _ (show b ≠ W.heap.size + 1 + 1 by have := hb.1; omega))))))⟩))
  have Nu := Lib.hid (show TxtsIn (Fr (W.heap.size + 3) x2) x2 (.slice b2 k2 d2) uris by rw [hx]; exact Nu.out.same (fun b hb => ⟨⟨hb.1, by simpa using hb.2.1, hb.2.2.same ((heap_setCell_other _ ⟨W.heap.size + 1 + 1, 5, none⟩ b _ (show b ≠ W.heap.size + 1 + 1 by have := hb.1; omega)).trans ((heap_setCell_other _ ⟨W.heap.size + 1 + 1, 4, none⟩ b _ (show b ≠ W.heap.size + 1 + 1 by have := hb.1; omega)).trans ((heap_setCell_other _ ⟨W.heap.size + 1 + 1, 3, none⟩ b _ (show b ≠ W.heap.size + 1 + 1 by have := hb.1; omega)).trans ((heap_setCell_other _ ⟨W.heap.size + 1 + 1, 2, none⟩ b _ (show b ≠ W.heap.size + 1 + 1 by have := hb.1; omega)).trans (heap_setCell_other _ ⟨W.heap.size + 1 + 1, 1, none⟩ b _ (show b ≠ W.heap.size + 1 + 1 by have := hb.1; omega))))))⟩, ((heap_setCell_other _ ⟨W.heap.size + 1 + 1, 5, none⟩ b _ (show b ≠ W.heap.size + 1 + 1 by have := hb.1; omega)).trans ((heap_setCell_other _ ⟨W.heap.size + 1 + 1, 4, none⟩ b _ (show b ≠ W.heap.size + 1 + 1 by have := hb.1; omega)).trans ((heap_setCell_other _ ⟨W.heap.size + 1 + 1, 3, none⟩ b _ (show b ≠ W.heap.size + 1 + 1 by have := hb.1; omega)).trans ((heap_setCell_other _ ⟨W.heap.size + 1 + 1, 2, none⟩ b _ (show b ≠ W.heap.size + 1 + 1 by have := hb.1; omega)).trans (heap_setCell_other _ ⟨W.heap.size + 1 + 1, 1, none⟩ b _ (show b ≠ W.heap.size + 1 + 1 by have := hb.1; omega))))))⟩))
  have Nr := Lib.hid (show RlIn (Fr (W.heap.size + 3) x2) x2 (.slice b3 k3 d3) rules by rw [hx]; exact Nr.out.same (fun b hb => ⟨⟨hb.1, by simpa using hb.2.1, hb.2.2.same ((heap_setCell_other _ ⟨W.heap.size + 1 + 1, 5, none⟩ b _ (show b ≠ W.heap.size + 1 + 1 by have := hb.1; omega)).trans ((heap_setCell_other _ ⟨W.heap.size + 1 + 1, 4, none⟩ b _ (show b ≠ W.heap.size + 1 + 1 by have := hb.1; omega)).trans ((heap_setCell_other _ ⟨W.heap.size + 1 + 1, 3, none⟩ b _ (show b ≠ W.heap.size + 1 + 1 by have := hb.1; omega)).trans ((heap_setCell_other _ ⟨W.heap.size + 1 + 1, 2, none⟩ b _ (show b ≠ W.heap.size + 1 + 1 by have := hb.1; omega)).trans (heap_setCell_other _ ⟨W.heap.size + 1 + 1, 1, none⟩ b _ (show b ≠ W.heap.size + 1 + 1 by have := hb.1; omega))))))⟩, ((heap_setCell_other _ ⟨W.heap.size + 1 + 1, 5, none⟩ b _ (show b ≠ W.heap.size + 1 + 1 by have := hb.1; omega)).trans ((heap_setCell_other _ ⟨W.heap.size + 1 + 1, 4, none⟩ b _ (show b ≠ W.heap.size + 1 + 1 by have := hb.1; omega)).trans ((heap_setCell_other _ ⟨W.heap.size + 1 + 1, 3, none⟩ b _ (show b ≠ W.heap.size + 1 + 1 by have := hb.1; omega)).trans ((heap_setCell_other _ ⟨W.heap.size + 1 + 1, 2, none⟩ b _ (show b ≠ W.heap.size + 1 + 1 by have := hb.1; omega)).trans (heap_setCell_other _ ⟨W.heap.size + 1 + 1, 1, none⟩ b _ (show b ≠ W.heap.size + 1 + 1 by have := hb.1; omega))))))⟩))
  rw [← hx]
  clear hx
  refine (SE.out x2 (HB.out.trans (T2.out.b.mono hB)) (Nat.le_trans hB T2.out.b.size)).mono ?_
  rintro e y2 ⟨v2, rfl, hi2, hb2⟩
  obtain ⟨b4, k4, d4, rfl⟩ := hi2.slice
  have U2 := Lib.hid (T2.out.blw hb2)
  have Nc := Lib.hid (show CnIn (Fr (W.heap.size + 3) y2) y2 (.slice b1 k1 d1) chs from Nc.out.same (fun b hb => ⟨⟨hb.1, Nat.lt_of_lt_of_le hb.2.1 hb2.size, hb.2.2.same (hb2.block b hb.2.1)⟩, hb2.block b hb.2.1⟩))
  have Nu := Lib.hid (show TxtsIn (Fr (W.heap.size + 3) y2) y2 (.slice b2 k2 d2) uris from Nu.out.same (fun b hb => ⟨⟨hb.1, Nat.lt_of_lt_of_le hb.2.1 hb2.size, hb.2.2.same (hb2.block b hb.2.1)⟩, hb2.block b hb.2.1⟩))
  have Nr := Lib.hid (show RlIn (Fr (W.heap.size + 3) y2) y2 (.slice b3 k3 d3) rules from Nr.out.same (fun b hb => ⟨⟨hb.1, Nat.lt_of_lt_of_le hb.2.1 hb2.size, hb.2.2.same (hb2.block b hb.2.1)⟩, hb2.block b hb.2.1⟩))
  have Nl := Lib.hid (show EnIn (Fr (W.heap.size + 3) y2) y2 (.slice b4 k4 d4) log from hi2.mono (fun b hb => ⟨Nat.le_trans T2.out.z hb.1, hb.2⟩))
  clear hb2
  have kp := U2.out.p
  have kr := U2.out.r
  have ko := U2.out.o
  have mp2_0 := cell_of_row y2 W.heap.size 0 _ _ _ kp
  have mp2_1 := cell_of_row y2 W.heap.size 1 _ _ _ kp
  have mp2_2 := cell_of_row y2 W.heap.size 2 _ _ _ kp
  have mp2_3 := cell_of_row y2 W.heap.size 3 _ _ _ kp
  have mp2_4 := cell_of_row y2 W.heap.size 4 _ _ _ kp
  have mp2_5 := cell_of_row y2 W.heap.size 5 _ _ _ kp
  have mp2_6 := cell_of_row y2 W.heap.size 6 _ _ _ kp
  have mp2_7 := cell_of_row y2 W.heap.size 7 _ _ _ kp
  have mo2_0 := cell_of_row y2 (W.heap.size + 1 + 1) 0 _ _ _ ko
  have mo2_1 := cell_of_row y2 (W.heap.size + 1 + 1) 1 _ _ _ ko
  have mo2_2 := cell_of_row y2 (W.heap.size + 1 + 1) 2 _ _ _ ko
  have mo2_3 := cell_of_row y2 (W.heap.size + 1 + 1) 3 _ _ _ ko
  have mo2_4 := cell_of_row y2 (W.heap.size + 1 + 1) 4 _ _ _ ko
  have mo2_5 := cell_of_row y2 (W.heap.size + 1 + 1) 5 _ _ _ ko
  have mo2_6 := cell_of_row y2 (W.heap.size + 1 + 1) 6 _ _ _ ko
  have mo2_7 := cell_of_row y2 (W.heap.size + 1 + 1) 7 _ _ _ ko
  have mf2 : ∀ o, y2.frozen? ⟨W.heap.size + 1 + 1, o, none⟩ = false := fun o => frozen_of_row y2 (W.heap.size + 1 + 1) o _ _ ko
  clear kp kr ko
  go_wp2_with fail
  obtain ⟨x3, hx⟩ : ∃ x, x = y2.setCell ⟨W.heap.size + 1 + 1, 6, none⟩ (.slice b4 k4 d4) := ⟨_, rfl⟩
  have T3 := Lib.hid (show TC 30 41 W x3 #[.slice a1 l1 c1, .string ⟨rp.toArray⟩, .slice a2 l2 c2, .slice a3 l3 c3, .int .i64 now, .int .i64 next, .slice a4 l4 c4, .slice a5 l5 c5] #[.slice none 0 0, .string ⟨#[]⟩, .slice none 0 0, .slice none 0 0, .int .i64 0, .int .i64 0, .slice none 0 0, .slice none 0 0] #[.slice b1 k1 d1, .string ⟨rp.toArray⟩, .slice b2 k2 d2, .slice b3 k3 d3, .int .i64 now, .int .i64 next, .slice b4 k4 d4, .slice none 0 0] by rw [hx]; exact U2.out.set 6 (.slice b4 k4 d4))
  have Nc := Lib.hid (show CnIn (Fr (W.heap.size + 3) x3) x3 (.slice b1 k1 d1) chs by rw [hx]; exact Nc.out.same (fun b hb => ⟨⟨hb.1, by simpa using hb.2.1, hb.2.2.same (heap_setCell_other _ ⟨W.heap.size + 1 + 1, 6, none⟩ b _ (show b ≠ W.heap.size + 1 + 1 by have := hb.1; omega))⟩, (heap_setCell_other _ ⟨W.heap.size + 1 + 1, 6, none⟩ b _ (show b ≠ W.heap.size + 1 + 1 by have := hb.1; omega))⟩))
  have Nu := Lib.hid (show TxtsIn (Fr (W.heap.size + 3) x3) x3 (.slice b2 k2 d2) uris by rw [hx]; exact Nu.out.same (fun b hb => ⟨⟨hb.1, by simpa using hb.2.1, hb.2.2.same (heap_setCell_other _ ⟨W.heap.size + 1 + 1, 6, none⟩ b _ (show b ≠ W.heap.size + 1 + 1 by have := hb.1; omega))⟩, (heap_setCell_other _ ⟨W.heap.size + 1 + 1, 6, none⟩ b _ (show b ≠ W.heap.size + 1 + 1 by have := hb.1; omega))⟩))
  have Nr := Lib.hid (show RlIn (Fr (W.heap.size + 3) x3) x3 (.slice b3 k3 d3) rules by rw [hx]; exact Nr.out.same (fun b hb => ⟨⟨hb.1, by simpa using hb.2.1, hb.2.2.same (heap_setCell_other _ ⟨W.heap.size + 1 + 1, 6, none⟩ b _ (show b ≠ W.heap.size + 1 + 1 by have := hb.1; omega))⟩, (heap_setCell_other _ ⟨W.heap.size + 1 + 1, 6, none⟩ b _ (show b ≠ W.heap.size + 1 + 1 by have := hb.1; omega))⟩))
  have Nl := Lib.hid (show EnIn (Fr (W.heap.size + 3) x3) x3 (.slice b4 k4 d4) log by rw [hx]; exact Nl.out.same (fun b hb => ⟨⟨hb.1, by simpa using hb.2.1, hb.2.2.same (heap_setCell_other _ ⟨W.heap.size + 1 + 1, 6, none⟩ b _ (show b ≠ W.heap.size + 1 + 1 by have := hb.1; omega))⟩, (heap_setCell_other _ ⟨W.heap.size + 1 + 1, 6, none⟩ b _ (show b ≠ W.heap.size + 1 + 1 by have := hb.1; omega))⟩))
  rw [← hx]
  clear hx
  refine (SW.out x3 (HB.out.trans (T3.out.b.mono hB)) (Nat.le_trans hB T3.out.b.size)).mono ?_
  rintro e y3 ⟨v2, rfl, hi2, hb2⟩
  obtain ⟨b5, k5, d5, rfl⟩ := hi2.slice
  have U3 := Lib.hid (T3.out.blw hb2)
  have Nc := Lib.hid (show CnIn (Fr (W.heap.size + 3) y3) y3 (.slice b1 k1 d1) chs from Nc.out.same (fun b hb => ⟨⟨hb.1, Nat.lt_of_lt_of_le hb.2.1 hb2.size, hb.2.2.same (hb2.block b hb.2.1)⟩, hb2.block b hb.2.1⟩))
  have Nu := Lib.hid (show TxtsIn (Fr (W.heap.size + 3) y3) y3 (.slice b2 k2 d2) uris from Nu.out.same (fun b hb => ⟨⟨hb.1, Nat.lt_of_lt_of_le hb.2.1 hb2.size, hb.2.2.same (hb2.block b hb.2.1)⟩, hb2.block b hb.2.1⟩))
  have Nr := Lib.hid (show RlIn (Fr (W.heap.size + 3) y3) y3 (.slice b3 k3 d3) rules from Nr.out.same (fun b hb => ⟨⟨hb.1, Nat.lt_of_lt_of_le hb.2.1 hb2.size, hb.2.2.same (hb2.block b hb.2.1)⟩, hb2.block b hb.2.1⟩))
  have Nl := Lib.hid (show EnIn (Fr (W.heap.size + 3) y3) y3 (.slice b4 k4 d4) log from Nl.out.same (fun b hb => ⟨⟨hb.1, Nat.lt_of_lt_of_le hb.2.1 hb2.size, hb.2.2.same (hb2.block b hb.2.1)⟩, hb2.block b hb.2.1⟩))
  have Nw := Lib.hid (show WiIn (Fr (W.heap.size + 3) y3) y3 (.slice b5 k5 d5) ws from hi2.mono (fun b hb => ⟨Nat.le_trans T3.out.z hb.1, hb.2⟩))
  clear hb2
  have kp := U3.out.p
  have kr := U3.out.r
  have ko := U3.out.o
  have mp3_0 := cell_of_row y3 W.heap.size 0 _ _ _ kp
  have mp3_1 := cell_of_row y3 W.heap.size 1 _ _ _ kp
  have mp3_2 := cell_of_row y3 W.heap.size 2 _ _ _ kp
  have mp3_3 := cell_of_row y3 W.heap.size 3 _ _ _ kp
  have mp3_4 := cell_of_row y3 W.heap.size 4 _ _ _ kp
  have mp3_5 := cell_of_row y3 W.heap.size 5 _ _ _ kp
  have mp3_6 := cell_of_row y3 W.heap.size 6 _ _ _ kp
  have mp3_7 := cell_of_row y3 W.heap.size 7 _ _ _ kp
  have mo3_0 := cell_of_row y3 (W.heap.size + 1 + 1) 0 _ _ _ ko
  have mo3_1 := cell_of_row y3 (W.heap.size + 1 + 1) 1 _ _ _ ko
  have mo3_2 := cell_of_row y3 (W.heap.size + 1 + 1) 2 _ _ _ ko
  have mo3_3 := cell_of_row y3 (W.heap.size + 1 + 1) 3 _ _ _ ko
  have mo3_4 := cell_of_row y3 (W.heap.size + 1 + 1) 4 _ _ _ ko
  have mo3_5 := cell_of_row y3 (W.heap.size + 1 + 1) 5 _ _ _ ko
  have mo3_6 := cell_of_row y3 (W.heap.size + 1 + 1) 6 _ _ _ ko
  have mo3_7 := cell_of_row y3 (W.heap.size + 1 + 1) 7 _ _ _ ko
  have mf3 : ∀ o, y3.frozen? ⟨W.heap.size + 1 + 1, o, none⟩ = false := fun o => frozen_of_row y3 (W.heap.size + 1 + 1) o _ _ ko
  have mr3_0 := cell_of_row y3 (W.heap.size + 1) 0 _ _ _ kr
  have mr3_1 := cell_of_row y3 (W.heap.size + 1) 1 _ _ _ kr
  have mr3_2 := cell_of_row y3 (W.heap.size + 1) 2 _ _ _ kr
  have mr3_3 := cell_of_row y3 (W.heap.size + 1) 3 _ _ _ kr
  have mr3_4 := cell_of_row y3 (W.heap.size + 1) 4 _ _ _ kr
  have mr3_5 := cell_of_row y3 (W.heap.size + 1) 5 _ _ _ kr
  have mr3_6 := cell_of_row y3 (W.heap.size + 1) 6 _ _ _ kr
  have mr3_7 := cell_of_row y3 (W.heap.size + 1) 7 _ _ _ kr
  have mg3 : ∀ o, y3.frozen? ⟨W.heap.size + 1, o, none⟩ = false := fun o => frozen_of_row y3 (W.heap.size + 1) o _ _ kr
  clear kp kr ko
  have TF : TC 30 41 W (y3.setCell ⟨W.heap.size + 1 + 1, 7, none⟩ (.slice b5 k5 d5)) #[.slice a1 l1 c1, .string ⟨rp.toArray⟩, .slice a2 l2 c2, .slice a3 l3 c3, .int .i64 now, .int .i64 next, .slice a4 l4 c4, .slice a5 l5 c5] #[.slice none 0 0, .string ⟨#[]⟩, .slice none 0 0, .slice none 0 0, .int .i64 0, .int .i64 0, .slice none 0 0, .slice none 0 0] #[.slice b1 k1 d1, .string ⟨rp.toArray⟩, .slice b2 k2 d2, .slice b3 k3 d3, .int .i64 now, .int .i64 next, .slice b4 k4 d4, .slice b5 k5 d5] := U3.out.set 7 (.slice b5 k5 d5)
  have TG : TC 30 41 W (set8 (y3.setCell ⟨W.heap.size + 1 + 1, 7, none⟩ (.slice b5 k5 d5)) (W.heap.size + 1) 0 (.slice b1 k1 d1) (.string ⟨rp.toArray⟩) (.slice b2 k2 d2) (.slice b3 k3 d3) (.int .i64 now) (.int .i64 next) (.slice b4 k4 d4) (.slice b5 k5 d5)) #[.slice a1 l1 c1, .string ⟨rp.toArray⟩, .slice a2 l2 c2, .slice a3 l3 c3, .int .i64 now, .int .i64 next, .slice a4 l4 c4, .slice a5 l5 c5] #[.slice b1 k1 d1, .string ⟨rp.toArray⟩, .slice b2 k2 d2, .slice b3 k3 d3, .int .i64 now, .int .i64 next, .slice b4 k4 d4, .slice b5 k5 d5] #[.slice b1 k1 d1, .string ⟨rp.toArray⟩, .slice b2 k2 d2, .slice b3 k3 d3, .int .i64 now, .int .i64 next, .slice b4 k4 d4, .slice b5 k5 d5] := ((((((((TF.setr 0 (.slice b1 k1 d1)).setr 1 (.string ⟨rp.toArray⟩)).setr 2 (.slice b2 k2 d2)).setr 3 (.slice b3 k3 d3)).setr 4 (.int .i64 now)).setr 5 (.int .i64 next)).setr 6 (.slice b4 k4 d4)).setr 7 (.slice b5 k5 d5))
  have HFIN := Lib.hid TG.r
  have hsz : (set8 (y3.setCell ⟨W.heap.size + 1 + 1, 7, none⟩ (.slice b5 k5 d5)) (W.heap.size + 1) 0 (.slice b1 k1 d1) (.string ⟨rp.toArray⟩) (.slice b2 k2 d2) (.slice b3 k3 d3) (.int .i64 now) (.int .i64 next) (.slice b4 k4 d4) (.slice b5 k5 d5)).heap.size = y3.heap.size := by rw [set8_size]; simp
  have hfar : ∀ b, W.heap.size + 3 ≤ b → (set8 (y3.setCell ⟨W.heap.size + 1 + 1, 7, none⟩ (.slice b5 k5 d5)) (W.heap.size + 1) 0 (.slice b1 k1 d1) (.string ⟨rp.toArray⟩) (.slice b2 k2 d2) (.slice b3 k3 d3) (.int .i64 now) (.int .i64 next) (.slice b4 k4 d4) (.slice b5 k5 d5)).heap[b]? = y3.heap[b]? := fun b hb3 => (set8_far _ _ _ _ _ _ _ _ _ _ _ _ (by omega)).trans (heap_setCell_other _ ⟨W.heap.size + 1 + 1, 7, none⟩ b _ (show b ≠ W.heap.size + 1 + 1 by have := hb3; omega))
  have HP := Lib.hid (show NewPp W ⟨chs, ⟨rp, uris, rules⟩, now, next, log, ws⟩ (.returned (pV8 ⟨chs, ⟨rp, uris, rules⟩, now, next, log, ws⟩ ⟨.slice b1 k1 d1, .slice b2 k2 d2, .slice b3 k3 d3, .slice b4 k4 d4, .slice b5 k5 d5⟩)) (set8 (y3.setCell ⟨W.heap.size + 1 + 1, 7, none⟩ (.slice b5 k5 d5)) (W.heap.size + 1) 0 (.slice b1 k1 d1) (.string ⟨rp.toArray⟩) (.slice b2 k2 d2) (.slice b3 k3 d3) (.int .i64 now) (.int .i64 next) (.slice b4 k4 d4) (.slice b5 k5 d5)) from ⟨_, rfl, ⟨Nc.out.same (fun b hb => ⟨⟨Nat.le_trans (Nat.le_add_right _ 3) hb.1, by rw [hsz]; exact hb.2.1, hb.2.2.same (hfar b hb.1)⟩, hfar b hb.1⟩), Nu.out.same (fun b hb => ⟨⟨Nat.le_trans (Nat.le_add_right _ 3) hb.1, by rw [hsz]; exact hb.2.1, hb.2.2.same (hfar b hb.1)⟩, hfar b hb.1⟩), Nr.out.same (fun b hb => ⟨⟨Nat.le_trans (Nat.le_add_right _ 3) hb.1, by rw [hsz]; exact hb.2.1, hb.2.2.same (hfar b hb.1)⟩, hfar b hb.1⟩), Nl.out.same (fun b hb => ⟨⟨Nat.le_trans (Nat.le_add_right _ 3) hb.1, by rw [hsz]; exact hb.2.1, hb.2.2.same (hfar b hb.1)⟩, hfar b hb.1⟩), Nw.out.same (fun b hb => ⟨⟨Nat.le_trans (Nat.le_add_right _ 3) hb.1, by rw [hsz]; exact hb.2.1, hb.2.2.same (hfar b hb.1)⟩, hfar b hb.1⟩)⟩, TG.b⟩)
  clear TF TG hsz hfar
  go_wp2
  exact bodyPost_ret (ret_Pp Tryz.results16 rfl HFIN.out) rfl HP.out
end Go.Proofs.YtmaknkbmilcanaaGreatDoor.Pf
