
/-
  THE FRAME OF A LAW's PROOF, for every law of the seat: where the walk says that the law returns true and that below the heap's old size nothing has turned, the row's 'post' holds. No program is named here.
-/
import Derived.Below
import Derived.Carry
import Derived.ProofKit
import Derived.OpenShut
namespace Go.Proofs.YtjakkmjipglkiaaDoor.Frame
open Go.ChangeShapes Go.WideShapes Go.ChangeAt Go.RowKit
variable {H : Type} {enc : TypeId × Value → H} {P : Program}
def okType (P : Program) (t : TypeId) : Bool := P.readableRec t && decide (t < P.types.size)
theorem trodAll_below (hl : laidOutB P = true) {W W' : World} (hb : Below W.heap.size W W') : ∀ {ts : List TypeId} {vs : List Value} {ds : List (DataW H)} {ps : List MemPlace},
    ts.all (okType P) = true → DataW.TrodAll enc P W 0 (fun _ => true) true ts vs ds ps → (∀ x ∈ ps, x.block < W.heap.size) →
    DataW.TrodAll enc P W' 0 (fun b => decide (b < W.heap.size)) true ts vs ds ps
  | [], _, _, _, _, h, _ => by
    obtain ⟨rfl, rfl, rfl⟩ := trodAll_nil h
    exact trodAll_mk0
  | t :: ts, vs, ds, ps, ha, h, hlt => by
    obtain ⟨v, vs1, d, ds1, a, b, rfl, rfl, rfl, h1, h2⟩ := trodAll_cons h
    simp only [List.all_cons, Bool.and_eq_true] at ha
    obtain ⟨⟨hr, hrow⟩, ha2⟩ := (show (P.readableRec t = true ∧ t < P.types.size) ∧ ts.all (okType P) = true by simpa [okType] using ha)
    exact ⟨a, b, Below.trod hl hr hrow h1 hb (fun x hx => hlt x (List.mem_append_left _ hx)),
      trodAll_below hl hb ha2 h2 (fun x hx => hlt x (List.mem_append_right _ hx)), rfl⟩
def okVar (P : Program) (n : String) : Bool := match P.globalNamed n with
  | some g => (match (P.globals[g]?).map (·.type) with | some t => okType P t | none => true)
  | none => true
theorem trodVars_below (hl : laidOutB P = true) {W W' : World} (hb : Below W.heap.size W W') : ∀ {ns : List String} {gs : List (DataW H)} {ps : List MemPlace},
    ns.all (okVar P) = true → DataW.TrodVars enc P W (fun _ => true) ns gs ps → (∀ x ∈ ps, x.block < W.heap.size) →
    DataW.TrodVars enc P W' (fun b => decide (b < W.heap.size)) ns gs ps
  | [], gs, ps, _, h, _ => by
    obtain ⟨rfl, rfl⟩ := trodVars_none h
    exact rfl
  | n :: ns, [], ps, _, h, _ => h.elim
  | n :: ns, d :: ds, ps, ha, h, hlt => by
    obtain ⟨g, t, cs, fuel, p, q, hg, ht, hv, hd, hrest, rfl⟩ := h
    simp only [List.all_cons, Bool.and_eq_true] at ha
    obtain ⟨h1, h2⟩ := ha
    have h1' : P.readableRec t = true ∧ t < P.types.size := by simpa [okVar, hg, ht, okType] using h1
    have hgB : g < W.heap.size := by
      simp only [World.var?, hg, Option.bind_some] at hv
      rcases Nat.lt_or_ge g W.heap.size with h | h
      · exact h
      · rw [Array.getElem?_eq_none h] at hv; cases hv
    have hv' : W'.var? P n = some cs := by
      unfold World.var? at hv ⊢
      simp only [hg, Option.bind_some] at hv ⊢
      rw [hb.block g hgB]
      exact hv
    refine ⟨g, t, cs, fuel, p, q, hg, ht, hv', ?_, trodVars_below hl hb h2 hrest (fun x hx => hlt x (List.mem_append_right _ hx)), rfl⟩
    exact DataW.trod_stays (kids_book hl h1'.1) (book_sized h1'.1) (fun h => by cases h) ⟨h1'.2, book_self t⟩ hd
      (fun x hx => hb.same (hlt x (List.mem_append_left _ (List.mem_append_right _ hx))))
      (fun x hx => by simpa using hlt x (List.mem_append_left _ (List.mem_append_right _ hx)))
theorem reads_of {α β γ : Type} {o : Option (α × β × γ)} {x : α} {y : β} (h : o.map (fun z => (z.1, z.2.1)) = some (x, y)) : ∃ places, o = some (x, y, places) := by
  cases o with
  | none => cases h
  | some z =>
    obtain ⟨a, b, c⟩ := z
    simp only [Option.map_some, Option.some.injEq, Prod.mk.injEq] at h
    obtain ⟨rfl, rfl⟩ := h
    exact ⟨c, rfl⟩
/-- What a listed variable's cells hold, where its datum is one literal, a row of literals, or a row of rows of literals. -/
def cellOf : DataW Unit → Value
  | .lit (.int k n) => .int k n
  | .lit (.string l) => .string ⟨l.toArray⟩
  | .lit (.bool b) => .bool b
  | _ => .slice none 0 0
def cellRow : DataW Unit → List Value
  | .agg ds => ds.map cellOf
  | d => [cellOf d]
def cellsOf : DataW Unit → Array Value
  | .agg ds => (ds.flatMap cellRow).toArray
  | d => #[cellOf d]
def layCells (cs : Array Value) : Obj → Obj
  | .cells _ t fr => .cells cs t fr
  | o => o
def layOne (P : Program) (h : Array Obj) (x : String × DataW Unit) : Array Obj :=
  match P.globalNamed x.1 with
  | some g => h.modify g (layCells (cellsOf x.2))
  | none => h
/-- A world for the witness: the settled one, each listed variable holding what the row says. -/
noncomputable def laidWorld (P : Program) (os : Os) (laid : List (String × DataW Unit)) : World :=
  { World.holding P os ⟨#[], #[], []⟩ with heap := laid.foldl (layOne P) (World.holding P os ⟨#[], #[], []⟩).heap }
theorem vars_one {w : World} {sp : Nat → Bool} {n : String} {gs : List (DataW H)} {ps : List MemPlace} (h : DataW.TrodVars enc P w sp [n] gs ps) : ∃ g, gs = [g] := by
  cases gs with
  | nil => exact h.elim
  | cons d ds =>
    obtain ⟨_, _, _, _, _, _, _, _, _, _, hr, _⟩ := h
    obtain ⟨rfl, _⟩ := trodVars_none hr
    exact ⟨d, rfl⟩
theorem law_post {f : Func} {s : ChangeSpec} {W W' : World} {args : Array Value} {ds gs : List (DataW H)} {before : List MemPlace} {t : TypeId}
    (hl : laidOutB P = true) (hp : f.params.toList.all (okType P) = true) (hg : s.vars.all (okVar P) = true)
    (hr : f.resultTypes = #[t]) (ht : P.underlying t = some .bool)
    (hW : DataW.Whole enc P f.params.toList s.vars false W args.toList ds gs before) (hb : Below W.heap.size W W')
    (hs : s.fn H (ds ++ gs) = { results := [.lit (.bool true)], args := ds, vars := gs }) :
    s.post enc P f false true false false W args (.bool true) W' := by
  have hlt := hW.lt
  have hW' := hW
  obtain ⟨p, q, hA, hV, rfl, hz, hn⟩ := hW
  refine ⟨ds, gs, p ++ q, [], p, q, hW', ?_, ?_, ?_, hb.frame _, fun h => by cases h⟩
  · rw [hs, hr]
    exact trodAll_cons_mk (shut_bool ht _) trodAll_mk0
  · rw [hs]
    exact trodAll_below hl hb hp hA (fun x hx => hlt x (List.mem_append_left _ hx))
  · rw [hs]
    exact trodVars_below hl hb hg hV (fun x hx => hlt x (List.mem_append_right _ hx))
end Go.Proofs.YtjakkmjipglkiaaDoor.Frame
