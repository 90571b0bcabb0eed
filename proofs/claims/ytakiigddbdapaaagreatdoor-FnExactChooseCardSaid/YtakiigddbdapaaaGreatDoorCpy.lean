
/-
  copy of elements of whatever size into an own row, as a law for the walk and as a step of a region; a ring of cells, plainly. No program is named here.
-/
import Derived.Laws.CopyOwn
namespace Go.Proofs.YtakiigddbdapaaaGreatDoor.Cpy
open Go.RowKit
section
variable {P : Program}
theorem run_copy_rowN (w : World) (dT sT ty elem : TypeId) (sz g o dLen dCap : Nat) (a : Addr) (sLen sCap : Nat) (cur : Array Value) (t : TypeId) (cs : List Value)
    (hu : P.underlying dT = some (.slice elem)) (hs : (P.info? elem).map (·.size) = some sz)
    (hg : w.heap[g]? = some (.cells cur t (0, 0))) (hn : cs.length = Nat.min sLen dLen * sz)
    (hsrc : ∀ j v, cs[j]? = some v → w.cell? (a.add j) = some v) (hfit : o + cs.length ≤ cur.size) (h1 : ∀ v ∈ cs, v.oneCell' = true) :
    (Builtin.copy_ #[dT, sT] ty #[.slice (some ⟨g, o, none⟩) dLen dCap, .slice (some a) sLen sCap]).run P w =
      .ok (goInt (Nat.min sLen dLen : Nat)) (w.setRow g (cur.toList.take o ++ cs ++ cur.toList.drop (o + cs.length)).toArray) := by
  have hl := run_loadCells_list (P := P) w a cs hsrc
  have hst := run_storeCells_at P g o t cs 0 cur w hg (by simpa using hfit) h1
  rw [hn] at hl
  cases hq : P.info? elem with
  | none => simp [hq] at hs
  | some i =>
    have hi : i.size = sz := by simpa [hq] using hs
    subst hi
    simp only [Nat.min_def] at hl
    simp [Builtin.copy_, run_underlying hu, Builtin.lenOf, Builtin.firstCells, sizeOf, typeInfo, hq, Nat.min_def, hl, hst]
theorem run_copy_noneN (w : World) (dT sT ty elem : TypeId) (sz : Nat) (d a : Option Addr) (dLen dCap sLen sCap : Nat) (hu : P.underlying dT = some (.slice elem)) (hs : (P.info? elem).map (·.size) = some sz) (hn : Nat.min sLen dLen = 0) :
    (Builtin.copy_ #[dT, sT] ty #[.slice d dLen dCap, .slice a sLen sCap]).run P w = .ok (goInt 0) w := by
  cases hq : P.info? elem with
  | none => simp [hq] at hs
  | some i =>
    have hl : ∀ (x : Addr), (loadCells x 0).run P w = .ok #[] w := fun x => by simpa using run_loadCells_list (P := P) w x [] (by simp)
    cases d <;> cases a <;> simp [Builtin.copy_, run_underlying hu, Builtin.lenOf, Builtin.firstCells, sizeOf, typeInfo, hq, hn, storeCells, hl]
theorem run_copyN (w : World) (dT sT ty elem : TypeId) (sz : Nat) (hu : P.underlying dT = some (.slice elem)) (hs : (P.info? elem).map (·.size) = some sz) (hz : 0 < sz)
    (dp sp : Option Addr) (dLen dCap sLen sCap : Nat) (g off : Nat) (cur : List Value) (t : TypeId) (hg : w.heap[g]? = some (.cells cur.toArray t (0, 0))) (cs : List Value) (hn : cs.length = Nat.min sLen dLen * sz)
    (hpos : 0 < cs.length → dp = some ⟨g, off, none⟩ ∧ ∃ ad, sp = some ad ∧ ∀ j v, cs[j]? = some v → w.cell? (ad.add j) = some v)
    (hfit : off + cs.length ≤ cur.length) (h1 : ∀ v ∈ cs, v.oneCell' = true) (B : Nat) (w0 : World) (hb : Below B w0 w) (hBg : B ≤ g) :
    ∃ w', (Builtin.copy_ #[dT, sT] ty #[.slice dp dLen dCap, .slice sp sLen sCap]).run P w = .ok (goInt (Nat.min sLen dLen : Nat)) w' ∧ w'.heap[g]? = some (.cells (splice cur off cs).toArray t (0, 0)) ∧ Below B w0 w' ∧ w.grownBy w' (some g) := by
  by_cases h0 : cs.length = 0
  · obtain rfl : cs = [] := List.eq_nil_of_length_eq_zero h0
    have hm : Nat.min sLen dLen = 0 := by
      rcases Nat.eq_zero_or_pos (Nat.min sLen dLen) with h | h
      · exact h
      · have := Nat.mul_pos h hz; rw [← hn] at this; simp at this
    exact ⟨w, by rw [hm]; exact run_copy_noneN w dT sT ty elem sz dp sp dLen dCap sLen sCap hu hs hm, by simpa [splice] using hg, hb, ⟨rfl, rfl, rfl, Nat.le_refl _, fun _ _ _ => rfl⟩⟩
  · obtain ⟨rfl, ad, rfl, hsrc⟩ := hpos (by omega)
    refine ⟨_, run_copy_rowN w dT sT ty elem sz g off dLen dCap ad sLen sCap cur.toArray t cs hu hs hg hn hsrc (by simpa using hfit) h1, ?_, below_setRow hb hBg _, ⟨rfl, rfl, rfl, by simp [World.setRow], fun k _ hne => setRow_other w g k _ (fun e => hne (by rw [e]))⟩⟩
    simpa [splice] using setRow_heap w g _ _ t _ hg
theorem min_pos {cs : List Value} {m sz : Nat} (hn : cs.length = m * sz) (hp : 0 < cs.length) : 0 < m := by
  rcases Nat.eq_zero_or_pos m with h | h
  · rw [hn, h, Nat.zero_mul] at hp; omega
  · exact h
theorem wpList_copyN {w : World} {ops : Array Oper} {rest : List Oper} {o : Oper} {a : Act} {Q : Exit → Act → World → Prop} (hgd : o.guard = none) (d s : Operand) (dT sT : TypeId)
    (ho : o.op = .call { callee := .builtin .copy, args := #[d, s], argTypes := #[dT, sT] }) (elem : TypeId) (sz : Nat) (hu : P.underlying dT = some (.slice elem)) (hs : (P.info? elem).map (·.size) = some sz) (hz : 0 < sz)
    (dp sp : Option Addr) (dLen dCap sLen sCap : Nat) (hd : a.eval d = .slice dp dLen dCap) (hsv : a.eval s = .slice sp sLen sCap)
    (g off : Nat) (cur : List Value) (t : TypeId) (hg : w.heap[g]? = some (.cells cur.toArray t (0, 0))) (k : Nat) (hk : Nat.min sLen dLen = k) (cs : List Value) (hn : cs.length = k * sz)
    (hpos : 0 < k → dp = some ⟨g, off, none⟩ ∧ ∃ ad, sp = some ad ∧ ∀ j v, cs[j]? = some v → w.cell? (ad.add j) = some v)
    (hfit : off + cs.length ≤ cur.length) (h1 : ∀ v ∈ cs, v.oneCell' = true) (B : Nat) (w0 : World) (hb : Below B w0 w) (hBg : B ≤ g)
    (h : ∀ w', Hid (w'.heap[g]? = some (.cells (splice cur off cs).toArray t (0, 0))) → Below B w0 w' → w.grownBy w' (some g) → wpList P ops Q rest (a.put o.dst (.int .i64 (k : Int))) w') :
    wpList P ops Q (o :: rest) a w := by
  subst hk
  obtain ⟨w', hr, h2, h3, h4⟩ := run_copyN (P := P) w dT sT o.type elem sz hu hs hz dp sp dLen dCap sLen sCap g off cur t hg cs hn (fun hp => hpos (min_pos hn hp)) hfit h1 B w0 hb hBg
  refine wpList_plain hgd fun K hK => ?_
  unfold Oper.wp
  simp only [execOp, ho, resolve, invoke, builtin, Sem.run_bind, Sem.run_pure, Result.andThen_ok, List.map_toArray, List.map_cons, List.map_nil, hd, hsv, hr]
  exact hK _ _ (h w' h2 h3 h4)
theorem step_copyN {ops : Array Oper} {o : Oper} {a : Act} {w : World} {K : Act → World → Prop} {Q : Exit → Act → World → Prop} {E : Prop} (hgd : o.guard = none) (d s : Operand) (dT sT : TypeId)
    (ho : o.op = .call { callee := .builtin .copy, args := #[d, s], argTypes := #[dT, sT] }) (elem : TypeId) (sz : Nat) (hu : P.underlying dT = some (.slice elem)) (hs : (P.info? elem).map (·.size) = some sz) (hz : 0 < sz)
    (dp sp : Option Addr) (dLen dCap sLen sCap : Nat) (hd : a.eval d = .slice dp dLen dCap) (hsv : a.eval s = .slice sp sLen sCap)
    (g off : Nat) (cur : List Value) (t : TypeId) (hg : w.heap[g]? = some (.cells cur.toArray t (0, 0))) (k : Nat) (hk : Nat.min sLen dLen = k) (cs : List Value) (hn : cs.length = k * sz)
    (hpos : 0 < k → dp = some ⟨g, off, none⟩ ∧ ∃ ad, sp = some ad ∧ ∀ j v, cs[j]? = some v → w.cell? (ad.add j) = some v)
    (hfit : off + cs.length ≤ cur.length) (h1 : ∀ v ∈ cs, v.oneCell' = true) (B : Nat) (w0 : World) (hb : Below B w0 w) (hBg : B ≤ g)
    (h : ∀ w', Hid (w'.heap[g]? = some (.cells (splice cur off cs).toArray t (0, 0))) → Below B w0 w' → w.grownBy w' (some g) → K (a.put o.dst (.int .i64 (k : Int))) w') :
    if Region.wanted o (yielded ops a.tmps) = true then Oper.wp P o a w K Q else E := by
  have hw : Region.wanted o (yielded ops a.tmps) = true := by simp [Region.wanted, hgd]
  rw [if_pos hw]
  subst hk
  obtain ⟨w', hr, h2, h3, h4⟩ := run_copyN (P := P) w dT sT o.type elem sz hu hs hz dp sp dLen dCap sLen sCap g off cur t hg cs hn (fun hp => hpos (min_pos hn hp)) hfit h1 B w0 hb hBg
  unfold Oper.wp
  simp only [execOp, ho, resolve, invoke, builtin, Sem.run_bind, Sem.run_pure, Result.andThen_ok, List.map_toArray, List.map_cons, List.map_nil, hd, hsv, hr]
  exact h w' h2 h3 h4
end
/-! ### a ring -/
/-- the N cells cs hold xs, from f on and around -/
structure Ring {α : Type} (N : Nat) (cs xs : List α) (f : Nat) : Prop where
  n : cs.length = N
  fl : f < N
  l : xs.length ≤ N
  c : ∀ i, i < xs.length → cs[(f + i) % N]? = xs[i]?
theorem md {a N : Nat} (h : a < 2 * N) : a % N = if a < N then a else a - N := by
  split
  · exact Nat.mod_eq_of_lt (by assumption)
  · rw [Nat.mod_eq_sub_mod (by omega), Nat.mod_eq_of_lt (by omega)]
theorem Ring.start {α : Type} {N : Nat} {xs zs : List α} (hN : 0 < N) (hx : xs.length ≤ N) (hz : (xs ++ zs).length = N) : Ring N (xs ++ zs) xs 0 :=
  ⟨hz, hN, hx, fun i hi => by rw [Nat.zero_add, Nat.mod_eq_of_lt (by omega), List.getElem?_append_left hi]⟩
theorem Ring.head {α : Type} {N f : Nat} {cs t : List α} {x : α} (h : Ring N cs (x :: t) f) : cs[f]? = some x := by
  have := h.c 0 (by simp)
  rw [Nat.add_zero, Nat.mod_eq_of_lt h.fl] at this
  simpa using this
theorem Ring.tail {α : Type} {N f : Nat} {cs t : List α} {x : α} (h : Ring N cs (x :: t) f) : Ring N cs t ((f + 1) % N) :=
  ⟨h.n, Nat.mod_lt _ (by have := h.fl; omega), by have := h.l; simp at this; omega, fun i hi => by
    rw [Nat.mod_add_mod, Nat.add_assoc, Nat.add_comm 1 i]
    have := h.c (i + 1) (by simp; omega)
    simpa using this⟩
theorem Ring.snoc {α : Type} {N f : Nat} {cs xs : List α} (h : Ring N cs xs f) (x : α) (hl : xs.length < N) : Ring N (cs.set ((f + xs.length) % N) x) (xs ++ [x]) f := by
  have hf := h.fl
  refine ⟨by rw [List.length_set]; exact h.n, hf, by simp; omega, fun i hi => ?_⟩
  simp at hi
  rw [List.getElem?_set]
  by_cases e : i = xs.length
  · subst e
    rw [if_pos rfl, if_pos (by rw [h.n]; exact Nat.mod_lt _ (by omega))]
    simp
  · have hne : ¬ (f + xs.length) % N = (f + i) % N := by
      rw [md (by omega), md (by omega)]
      split <;> split <;> omega
    rw [if_neg hne, h.c i (by omega), List.getElem?_append_left (by omega)]
/-- what 'list' copies: from f to the end, then from the start -/
theorem Ring.list {α : Type} {N f : Nat} {cs xs : List α} (h : Ring N cs xs f) : (cs.drop f).take (min (N - f) xs.length) ++ cs.take (xs.length - min (N - f) xs.length) = xs := by
  have hf := h.fl
  have hn := h.n
  have hl := h.l
  apply List.ext_getElem?
  intro i
  have hlen : ((cs.drop f).take (min (N - f) xs.length)).length = min (N - f) xs.length := by simp; omega
  by_cases h1 : i < min (N - f) xs.length
  · rw [List.getElem?_append_left (by omega), List.getElem?_take_of_lt h1, List.getElem?_drop]
    have := h.c i (by omega)
    rw [Nat.mod_eq_of_lt (by omega)] at this
    exact this
  · rw [List.getElem?_append_right (by omega), hlen]
    by_cases h2 : i < xs.length
    · rw [List.getElem?_take_of_lt (by omega)]
      have := h.c i h2
      rw [md (by omega), if_neg (by omega)] at this
      rw [← this]
      congr 1; omega
    · rw [List.getElem?_eq_none (by simp; omega), List.getElem?_eq_none (by omega)]
end Go.Proofs.YtakiigddbdapaaaGreatDoor.Cpy
