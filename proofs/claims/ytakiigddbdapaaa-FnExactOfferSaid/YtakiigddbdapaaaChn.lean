
/-
  A chain 'a row of no element; append of a row onto it; a row of one element; append of that': how far it has come, and what its rows hold meanwhile. No program is named here.
-/
import Derived.Test.YtakiigddbdapaaaInv
import Derived.Test.YtakiigddbdapaaaQuZ
namespace Go.Proofs.Ytakiigddbdapaaa.Chn
open Go.RowKit
open Go.Proofs.Ytakiigddbdapaaa.Qu (Hd)
structure Ch (w : World) (base : Nat) (T : TypeId) (m n : Nat) (xs one : List Value) (f0 f1 f2 f3 : Bool) (v0 v1 v2 v3 : Value) : Prop where
  e0 : f0 = true → f1 = false → w.ownsRow base T m v0 0 []
  e1 : f1 = true → f3 = false → w.ownsRow base T m v1 n xs
  e2 : f2 = true → f3 = false → ∃ g c, v2 = .slice (some ⟨g, 0, none⟩) 1 c ∧ Hd w g (.cells one.toArray T) ∧ (f0 = true → f1 = false → v0.ownBlock ≠ some g) ∧ (f1 = true → v1.ownBlock ≠ some g)
  e3 : f3 = true → w.ownsRow base T m v3 (n + 1) (xs ++ one)
section
variable {w w' : World} {base m n : Nat} {T : TypeId} {xs one : List Value} {f0 f1 f2 f3 : Bool} {v0 v1 v2 v3 : Value}
theorem own_foreign {k : Nat} {v : Value} {ys : List Value} {g : Nat} {C : Array Value} {T' : TypeId} (h : w.ownsRow base T m v k ys) (hg : Hd w g (.cells C T')) (hT : T' ≠ T) : v.ownBlock = none ∨ v.ownBlock ≠ some g := by
  rcases h.2 with ⟨rfl, _⟩ | ⟨g', cap, cur, rfl, _, hg', _⟩
  · exact .inl rfl
  · refine .inr fun e => ?_
    simp only [Value.ownBlock, Option.some.injEq] at e
    subst e
    unfold Hd at hg
    rw [hg] at hg'
    simp only [Option.some.injEq, Obj.cells.injEq] at hg'
    exact hT hg'.2.1
/-- kept where the world grows by a row of another type, or by new blocks alone -/
theorem Ch.kept (h : Ch w base T m n xs one f0 f1 f2 f3 v0 v1 v2 v3) {row : Option Nat} (hg : w.grownBy w' row) (hr : ∀ g, row = some g → ∃ C T', Hd w g (.cells C T') ∧ T' ≠ T) : Ch w' base T m n xs one f0 f1 f2 f3 v0 v1 v2 v3 := by
  have ho : ∀ {k : Nat} {v : Value} {ys : List Value}, w.ownsRow base T m v k ys → w'.ownsRow base T m v k ys := fun h1 => World.ownsRow.kept h1 hg (by
    cases row with
    | none => cases Value.ownBlock _ <;> simp
    | some g =>
      obtain ⟨C, T', h2, h3⟩ := hr g rfl
      exact own_foreign h1 h2 h3)
  refine ⟨fun a b => ho (h.e0 a b), fun a b => ho (h.e1 a b), fun a b => ?_, fun a => ho (h.e3 a)⟩
  obtain ⟨g, c, e, hh, d0, d1⟩ := h.e2 a b
  refine ⟨g, c, e, hh.grown hg (fun e2 => ?_), d0, d1⟩
  obtain ⟨C, T', h2, h3⟩ := hr g e2.symm
  unfold Hd at hh h2
  rw [hh] at h2
  simp only [Option.some.injEq, Obj.cells.injEq] at h2
  exact h3 h2.2.1.symm
theorem Ch.alloc (h : Ch w base T m n xs one f0 f1 f2 f3 v0 v1 v2 v3) (o : Obj) : Ch (w.alloc o) base T m n xs one f0 f1 f2 f3 v0 v1 v2 v3 :=
  h.kept (Qu.below_grownBy ((Below.refl w.heap.size w).alloc (Nat.le_refl _) o) none) (fun g e => by cases e)
theorem Ch.none (w : World) (base : Nat) (T : TypeId) (m n : Nat) (xs one : List Value) (v0 v1 v2 v3 : Value) : Ch w base T m n xs one false false false false v0 v1 v2 v3 :=
  ⟨fun h _ => (by cases h), fun h _ => (by cases h), fun h _ => (by cases h), fun h => (by cases h)⟩
/-- the row of no element is made -/
theorem Ch.s0 (h : Ch w base T m n xs one false false f2 f3 v0 v1 v2 v3) (hb : base ≤ w.heap.size) (v : Value) (hv : v = .slice (some ⟨w.heap.size, 0, Option.none⟩) 0 0) (hm : w.alloc (.cells #[] T) = w') : Ch w' base T m n xs one true false f2 f3 v v1 v2 v3 := by
  subst hv hm
  have h2 := h.alloc (.cells #[] T)
  refine ⟨fun _ _ => Qu.own_base (World.ownsRow_made w #[] 0 (Nat.le_refl _) (by decide) (by simp)) hb, fun a => (by cases a), fun a b => ?_, h2.e3⟩
  obtain ⟨g, c, e, hh, _, d1⟩ := h2.e2 a b
  obtain ⟨g', c', e', hh', _, _⟩ := h.e2 a b
  rw [e] at e'
  injection e' with e1
  injection e1 with e1
  injection e1 with e1
  subst e1
  exact ⟨g, c, e, hh, fun _ _ e2 => by
    simp only [Value.ownBlock, Option.some.injEq] at e2
    have := hh'.lt
    omega, d1⟩
/-- the row of one element is made -/
theorem Ch.s2 (h : Ch w base T m n xs one f0 f1 false false v0 v1 v2 v3) (v : Value) (c : Nat) (hv : v = .slice (some ⟨w.heap.size, 0, Option.none⟩) 1 c) (hm : w.alloc (.cells one.toArray T) = w') : Ch w' base T m n xs one f0 f1 true false v0 v1 v v3 := by
  subst hv hm
  have h2 := h.alloc (.cells one.toArray T)
  refine ⟨h2.e0, h2.e1, fun _ _ => ⟨_, _, rfl, Hd.new _ _, fun a b e => ?_, fun a e => ?_⟩, fun a => (by cases a)⟩
  · have := (World.ownsRow.lt (h.e0 a b) _ e).2; omega
  · have := (World.ownsRow.lt (h.e1 a rfl) _ e).2; omega
/-- the row is appended onto the one of no element -/
theorem Ch.s1 (h : Ch w base T m n xs one true false f2 false v0 v1 v2 v3) (v : Value) (ho : w'.ownsRow base T m v n xs) (hg : w.grownBy w' v0.ownBlock) (hp : v.ownBlock = v0.ownBlock ∨ v.ownBlock = some w.heap.size) : Ch w' base T m n xs one true true f2 false v0 v v2 v3 := by
  refine ⟨fun _ a => (by cases a), fun _ _ => ho, fun a b => ?_, fun a => (by cases a)⟩
  obtain ⟨g, c, e, hh, d0, _⟩ := h.e2 a b
  have hne := d0 rfl rfl
  refine ⟨g, c, e, hh.grown hg (fun e2 => hne e2.symm), fun _ a => (by cases a), fun _ e2 => ?_⟩
  rcases hp with hp | hp
  · exact hne (hp ▸ e2)
  · rw [hp] at e2
    injection e2 with e2
    have := hh.lt
    omega
/-- the row of one element is appended -/
theorem Ch.s3 (v : Value) (ho : w'.ownsRow base T m v (n + 1) (xs ++ one)) : Ch w' base T m n xs one true true true true v0 v1 v2 v :=
  ⟨fun _ a => (by cases a), fun _ a => (by cases a), fun _ a => (by cases a), fun _ => ho⟩
end
section
variable {P : Program} (w : World)
/-- append of a row, empty or not, with where the new row lies -/
theorem run_app_pl (t ty : TypeId) (base : Nat) (e : TypeId) (i : TypeInfo) (z : Value) (size bytes : Nat) (ht : P.underlying t = some (.slice e)) (hi : P.info? e = some i) (hz : i.zero = some z)
    (hsize : i.size = size) (hby : i.bytes = bytes) (hzs : z.cells.size = size) (hsz : 0 < size)
    (v : Value) (n : Nat) (xs : List Value) (hown : w.ownsRow base e size v n xs)
    (xo : Option Addr) (m c : Nat) (news : List Value) (hm : 0 < m → ∃ ad, xo = some ad ∧ ∀ j u, news[j]? = some u → w.cell? (ad.add j) = some u) (hl : news.length = m * size) (h1 : ∀ u ∈ news, u.oneCell' = true)
    (h63 : n + m ≤ 9223372036854775807) (hbytes : (n + m) * bytes ≤ 140737488355328) (hbase : base ≤ w.heap.size) :
    ∃ v' w', (Builtin.append_ #[t, t] ty #[v, .slice xo m c]).run P w = .ok v' w' ∧ w'.ownsRow base e size v' (n + m) (xs ++ news) ∧ w.grownBy w' v.ownBlock ∧ (v'.ownBlock = v.ownBlock ∨ v'.ownBlock = some w.heap.size) := by
  by_cases hm0 : m = 0
  · subst hm0
    have hn0 : news = [] := List.eq_nil_of_length_eq_zero (by rw [hl]; omega)
    subst hn0
    have hsrc : Src P i.size t (.slice xo 0 c) 0 [] w := by
      cases xo with
      | none => exact Src.ofNil w ht c
      | some ad => exact Src.ofSlice w ht ad 0 c [] (by simp) (fun j u h => by simp at h) (fun u h => by cases h)
    have hr : (Builtin.append_ #[t, t] ty #[v, .slice xo 0 c]).run P w = .ok v w := by
      rcases hown.2 with ⟨rfl, rfl⟩ | ⟨g, cap, cur, rfl, _, _, hnc, _⟩
      · exact run_append_nothing w t t ty e i ht hi none 0 0 (Nat.le_refl _) _ hsrc
      · exact run_append_nothing w t t ty e i ht hi _ n cap hnc _ hsrc
    exact ⟨v, w, hr, by simpa using hown, ⟨rfl, rfl, rfl, Nat.le_refl _, fun _ _ _ => rfl⟩, .inl rfl⟩
  · obtain ⟨ad, rfl, hc⟩ := hm (by omega)
    obtain ⟨v', w', hr, h2, h3, _⟩ := run_append_own (P := P) w base t ty e i z size bytes ht hi hz hsize hby hzs hsz v n xs hown ad m c news hl hc h1 (by unfold maxLen; exact h63) hbytes hbase
    exact ⟨v', w', hr, h2, h3, App.place (P := P) w base t ty e i z size bytes ht hi hz hsize hby v n xs hown ad m c news (by omega) hl hc h1 h63 hbytes v' w' hr⟩
theorem op_app {ops : Array Oper} {o : Oper} {a : Act} {K : Act → World → Prop} {Q : Exit → Act → World → Prop} {E : Prop} (hgd : o.guard = none) (s x : Operand) (t : TypeId)
    (ho : o.op = .call { callee := .builtin .append, args := #[s, x], argTypes := #[t, t] })
    (base : Nat) (e : TypeId) (i : TypeInfo) (z : Value) (size bytes : Nat) (ht : P.underlying t = some (.slice e)) (hi : P.info? e = some i) (hz : i.zero = some z)
    (hsize : i.size = size) (hby : i.bytes = bytes) (hzs : z.cells.size = size) (hsz : 0 < size)
    (v : Value) (n : Nat) (xs : List Value) (hs : a.eval s = v) (hown : w.ownsRow base e size v n xs)
    (xo : Option Addr) (m c : Nat) (news : List Value) (hx : a.eval x = .slice xo m c) (hm : 0 < m → ∃ ad, xo = some ad ∧ ∀ j u, news[j]? = some u → w.cell? (ad.add j) = some u) (hl : news.length = m * size) (h1 : ∀ u ∈ news, u.oneCell' = true)
    (h63 : n + m ≤ 9223372036854775807) (hbytes : (n + m) * bytes ≤ 140737488355328) (hbase : base ≤ w.heap.size)
    (h : ∀ v' w', w'.ownsRow base e size v' (n + m) (xs ++ news) → w.grownBy w' v.ownBlock → (v'.ownBlock = v.ownBlock ∨ v'.ownBlock = some w.heap.size) → K (a.put o.dst v') w') :
    if Region.wanted o (yielded ops a.tmps) = true then Oper.wp P o a w K Q else E := by
  have hw : Region.wanted o (yielded ops a.tmps) = true := by simp [Region.wanted, hgd]
  rw [if_pos hw]
  obtain ⟨v', w', hr, h2, h3, h4⟩ := run_app_pl (P := P) w t o.type base e i z size bytes ht hi hz hsize hby hzs hsz v n xs hown xo m c news hm hl h1 h63 hbytes hbase
  unfold Oper.wp execOp
  simp only [ho, resolve, invoke, builtin, Sem.run_bind, Sem.run_pure, Result.andThen_ok, List.map_toArray, List.map_cons, List.map_nil, hs, hx, hr]
  exact h v' w' h2 h3 h4
end
end Go.Proofs.Ytakiigddbdapaaa.Chn
