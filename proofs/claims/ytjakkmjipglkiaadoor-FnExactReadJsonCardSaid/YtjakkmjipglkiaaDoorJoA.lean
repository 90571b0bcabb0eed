
/-
  A JSON value that owns its memory: its rows of names and of items, each block met once; what stays of it in a later world; the laws' marks on it, plainly.
-/
import Derived.Test.YtjakkmjipglkiaaDoorJsAt
import Derived.Below
import Derived.Laws.AppendOwn
import Derived.Laws.OwnMore
import Derived.Deep.OwnRows
import Derived.Lib.ItoaNum
namespace Go.Proofs.YtjakkmjipglkiaaDoor.Js
open Go.RowKit
abbrev strV (us : List (List UInt8)) : List Value := us.map fun t => Value.string ⟨t.toArray⟩
/-- v is a row of the call's own: the texts ns -/
def O1 (w : World) (base : Nat) (v : Value) (ns : List (List UInt8)) : Prop := w.ownsRow base 9 1 v ns.length (strV ns)
theorem own_blk {w w' : World} {B n s : Nat} {T : TypeId} {v : Value} {xs : List Value} (h : w.ownsRow B T s v n xs) (he : ∀ b, v.ownBlock = some b → w'.heap[b]? = w.heap[b]?) : w'.ownsRow B T s v n xs := by
  obtain ⟨h1, h2⟩ := h
  refine ⟨h1, ?_⟩
  rcases h2 with hn | ⟨g, cap, cur, rfl, hb, hg, rest⟩
  · exact .inl hn
  · exact .inr ⟨g, cap, cur, rfl, hb, (he g rfl).trans hg, rest⟩
theorem own_low {B C n s : Nat} {T : TypeId} {w : World} {v : Value} {xs : List Value} (h : w.ownsRow B T s v n xs) (hBC : C ≤ B) : w.ownsRow C T s v n xs := by
  obtain ⟨h1, h2⟩ := h
  refine ⟨h1, ?_⟩
  rcases h2 with hn | ⟨g, cap, cur, rfl, hb, rest⟩
  · exact .inl hn
  · exact .inr ⟨g, cap, cur, rfl, Nat.le_trans hBC hb, rest⟩
theorem O1.slice {w : World} {base : Nat} {v : Value} {ns : List (List UInt8)} (h : O1 w base v ns) : ∃ a c, v = .slice a ns.length c := by
  rcases h.2 with ⟨rfl, h0⟩ | ⟨g, cap, cur, rfl, _⟩
  · exact ⟨none, 0, by rw [h0]⟩
  · exact ⟨_, _, rfl⟩
theorem O1.blk {w : World} {base : Nat} {v : Value} {ns : List (List UInt8)} (h : O1 w base v ns) {b : Nat} (hb : v.ownBlock = some b) : base ≤ b ∧ b < w.heap.size ∧ ∃ C, w.heap[b]? = some (.cells C 9 (0, 0)) := by
  rcases h.2 with ⟨rfl, h0⟩ | ⟨g, cap, cur, rfl, hg, hh, _⟩
  · simp [Value.ownBlock] at hb
  · simp only [Value.ownBlock, Option.some.injEq] at hb
    subst hb
    exact ⟨hg, (Array.getElem?_eq_some_iff.1 hh).1, _, hh⟩
theorem O1.txts {w : World} {base : Nat} {v : Value} {ns : List (List UInt8)} (h : O1 w base v ns) (hl : ∀ t ∈ ns, t.length ≤ 9223372036854775807) : TxtsIn (fun b => v.ownBlock = some b) w v ns := by
  have hl2 : ∀ i, i < ns.length → (ns.getD i []).length ≤ 9223372036854775807 := fun i hi => hl _ (by simp [hi])
  rcases h.2 with ⟨rfl, h0⟩ | ⟨g, cap, cur, rfl, hg, hb, hcap, hmc, hcs, htk⟩
  · exact ⟨none, 0, 0, 0, by rw [h0], by omega, by omega, hl2, fun hp => by omega, fun i hi => by omega⟩
  · refine ⟨some ⟨g, 0, none⟩, cap, g, 0, rfl, hcap, by unfold maxLen at hmc; exact hmc, hl2, fun hp => ⟨rfl, rfl⟩, fun i hi => ?_⟩
    rw [Nat.zero_add]
    have e : w.cell? ⟨g, i, none⟩ = cur[i]? := cell_of_row w g i _ _ _ hb
    rw [e]
    have : (cur.toList.take (ns.length * 1))[i]? = some (.string ⟨(ns.getD i []).toArray⟩) := by
      rw [htk]; simp [hi]
    rw [List.getElem?_take, if_pos (by omega)] at this
    simpa using this
/-- the cells of an item, with the slices of its own lists -/
def cellJ (x : J) (nv iv : Value) : Nat → Value
  | 0 => .int .i64 x.kind
  | 1 => .int .i64 x.num
  | 2 => .string ⟨x.text.toArray⟩
  | 3 => nv
  | _ => iv
/-- iv is a row of items, D says which, vn and vi hold their own lists -/
def RowJ (w : World) (iv : Value) (n : Nat) (D : Nat → J) (vn vi : Nat → Value) : Prop :=
  (iv = .slice none 0 0 ∧ n = 0) ∨ ∃ g cap F, iv = .slice (some ⟨g, 0, none⟩) n cap ∧ w.rowIs g 25 (cap * 5) F ∧ n ≤ cap ∧ cap ≤ 9223372036854775807 ∧ ∀ j, j < n → ∀ c, c < 5 → F (j * 5 + c) = cellJ (D j) (vn j) (vi j) c
theorem RowJ.blk {w : World} {iv : Value} {n : Nat} {D : Nat → J} {vn vi : Nat → Value} (h : RowJ w iv n D vn vi) {b : Nat} (hb : iv.ownBlock = some b) : b < w.heap.size ∧ ∃ C, w.heap[b]? = some (.cells C 25 (0, 0)) := by
  rcases h with ⟨rfl, _⟩ | ⟨g, cap, F, rfl, ⟨C, hC, _⟩, _⟩
  · simp [Value.ownBlock] at hb
  · simp only [Value.ownBlock, Option.some.injEq] at hb
    subst hb
    exact ⟨(Array.getElem?_eq_some_iff.1 hC).1, _, hC⟩
theorem RowJ.same {w w' : World} {iv : Value} {n : Nat} {D : Nat → J} {vn vi : Nat → Value} (h : RowJ w iv n D vn vi) (he : ∀ b, iv.ownBlock = some b → w'.heap[b]? = w.heap[b]?) : RowJ w' iv n D vn vi := by
  rcases h with h | ⟨g, cap, F, rfl, hr, rest⟩
  · exact .inl h
  · exact .inr ⟨g, cap, F, rfl, hr.of_block (he g rfl), rest⟩
theorem RowJ.slice {w : World} {iv : Value} {n : Nat} {D : Nat → J} {vn vi : Nat → Value} (h : RowJ w iv n D vn vi) : ∃ a c, iv = .slice a n c := by
  rcases h with ⟨rfl, rfl⟩ | ⟨g, cap, F, rfl, _⟩
  · exact ⟨none, 0, rfl⟩
  · exact ⟨_, _, rfl⟩
/-- that numbers and texts fit -/
structure FitJ (x : J) : Prop where
  k : -9223372036854775808 ≤ x.kind ∧ x.kind ≤ 9223372036854775807
  n : -9223372036854775808 ≤ x.num ∧ x.num ≤ 9223372036854775807
  t : x.text.length ≤ 9223372036854775807
/-- the lists of a value, owned: in the blocks S, each of them once -/
inductive OJ (w : World) (base : Nat) : (Nat → Prop) → J → Value → Value → Prop
  | mk {S : Nat → Prop} {k n : Int} {t : List UInt8} {ns : List (List UInt8)} {xs : List J} {nv iv : Value} (Sc : Nat → Nat → Prop) (vn vi : Nat → Value)
      (names : O1 w base nv ns) (hns : ∀ t ∈ ns, t.length ≤ 9223372036854775807) (hnl : ns.length ≤ 9223372036854775807)
      (row : RowJ w iv xs.length (fun j => xs.getD j default) vn vi) (low : ∀ b, iv.ownBlock = some b → base ≤ b)
      (fit : ∀ j, j < xs.length → FitJ (xs.getD j default))
      (deep : ∀ j, j < xs.length → OJ w base (Sc j) (xs.getD j default) (vn j) (vi j))
      (hS : ∀ b, S b ↔ (nv.ownBlock = some b ∨ iv.ownBlock = some b ∨ ∃ j, j < xs.length ∧ Sc j b))
      (d1 : ∀ j, j < xs.length → ∀ b, Sc j b → nv.ownBlock ≠ some b ∧ iv.ownBlock ≠ some b)
      (d2 : ∀ i j, i < xs.length → j < xs.length → i ≠ j → ∀ b, Sc i b → ¬ Sc j b) : OJ w base S (.mk k n t ns xs) nv iv
theorem OJ.lt {w : World} {base : Nat} {S : Nat → Prop} {j : J} {nv iv : Value} (h : OJ w base S j nv iv) : ∀ b, S b → base ≤ b ∧ b < w.heap.size := by
  induction h with
  | mk Sc vn vi names hns hnl row low fit deep hS d1 d2 ih =>
    intro b hb
    rcases (hS b).1 hb with h | h | ⟨j, hj, h⟩
    · exact ⟨(names.blk h).1, (names.blk h).2.1⟩
    · exact ⟨low b h, (row.blk h).1⟩
    · exact ih j hj b h
theorem OJ.same {w w' : World} {base : Nat} {S : Nat → Prop} {j : J} {nv iv : Value} (h : OJ w base S j nv iv) (he : ∀ b, S b → w'.heap[b]? = w.heap[b]?) : OJ w' base S j nv iv := by
  induction h with
  | mk Sc vn vi names hns hnl row low fit deep hS d1 d2 ih =>
    exact .mk Sc vn vi (own_blk names fun b hb => he b ((hS b).2 (.inl hb))) hns hnl (row.same fun b hb => he b ((hS b).2 (.inr (.inl hb)))) low fit
      (fun j hj => ih j hj fun b hb => he b ((hS b).2 (.inr (.inr ⟨j, hj, hb⟩)))) hS d1 d2
theorem OJ.base {w : World} {B C : Nat} {S : Nat → Prop} {j : J} {nv iv : Value} (h : OJ w B S j nv iv) (hC : C ≤ B) : OJ w C S j nv iv := by
  induction h with
  | mk Sc vn vi names hns hnl row low fit deep hS d1 d2 ih =>
    exact .mk Sc vn vi (own_low names hC) hns hnl row (fun b hb => Nat.le_trans hC (low b hb)) fit ih hS d1 d2
theorem OJ.congr {w : World} {base : Nat} {S S' : Nat → Prop} {j : J} {nv iv : Value} (h : OJ w base S j nv iv) (hS' : ∀ b, S' b ↔ S b) : OJ w base S' j nv iv := by
  cases h with
  | mk Sc vn vi names hns hnl row low fit deep hS d1 d2 => exact .mk Sc vn vi names hns hnl row low fit deep (fun b => (hS' b).trans (hS b)) d1 d2
theorem OJ.slices {w : World} {base : Nat} {S : Nat → Prop} {j : J} {nv iv : Value} (h : OJ w base S j nv iv) : (∃ a l c, nv = .slice a l c) ∧ (∃ a l c, iv = .slice a l c) := by
  cases h with
  | mk Sc vn vi names hns hnl row low fit deep hS d1 d2 =>
    obtain ⟨a, c, e⟩ := names.slice
    obtain ⟨a', c', e'⟩ := row.slice
    exact ⟨⟨a, _, c, e⟩, ⟨a', _, c', e'⟩⟩
/-- read as data -/
theorem OJ.jin {w : World} {base : Nat} {S : Nat → Prop} {j : J} {nv iv : Value} (h : OJ w base S j nv iv) : FitJ j → JIn S w j nv iv := by
  induction h with
  | @mk S k n t ns xs nv iv Sc vn vi names hns hnl row low fit deep hS d1 d2 ih =>
    intro hf
    have hd : ∀ j, j < xs.length → JIn S w (xs.getD j default) (vn j) (vi j) := fun j hj => (ih j hj (fit j hj)).mono fun b hb => (hS b).2 (.inr (.inr ⟨j, hj, hb⟩))
    have hn := (names.txts hns).mono fun b hb => (hS b).2 (.inl hb)
    refine LIn.json ?_ hn hf.k hf.n hf.t
    rcases row with ⟨rfl, h0⟩ | ⟨g, cap, F, rfl, hr, h1, h2, h3⟩
    · exact ⟨none, 0, 0, 0, vn, vi, by rw [h0], by omega, by omega, fun hp => by omega, fun i hi => by omega, hd⟩
    · refine ⟨some ⟨g, 0, none⟩, cap, g, 0, vn, vi, rfl, h1, h2, fun hp => ⟨rfl, (hS g).2 (.inr (.inl rfl))⟩, fun i hi => ?_, hd⟩
      have hc : ∀ c, c < 5 → w.cell? ⟨g, 0 + i * 5 + c, none⟩ = some (cellJ (xs.getD i default) (vn i) (vi i) c) := fun c hc => by
        rw [← h3 i hi c hc, Nat.zero_add]
        exact hr.cell (by have := Nat.mul_le_mul_right 5 h1; omega)
      exact ⟨hc 0 (by omega), hc 1 (by omega), hc 2 (by omega), hc 3 (by omega), hc 4 (by omega)⟩
end Go.Proofs.YtjakkmjipglkiaaDoor.Js
