
/-
  slices.Backward over entries: its contract; FateOf of the program and of the model, walked. (Made by fta.py.)
-/
import Derived.RangeFuncNested
import Derived.RangeFuncBound
import Derived.RangeFuncCalls
import Derived.RangeFuncLeaves
import Derived.RangeFuncBox
import Derived.Shelf.Abstract
import Derived.Shelf.RegionOpen
import Derived.WalkKit
import Derived.OwnWalkIn
import Derived.TacticsInMore
import Derived.LoopNIn
import Derived.LoopIn
import Derived.Test.YtmaknkbmilcanaaGreatDoorFtA
import Derived.Test.YtmaknkbmilcanaaGreatDoorPiS
namespace Go.Proofs.YtmaknkbmilcanaaGreatDoor.Ft
open Go.RowKit
open Go.Proofs.YtmaknkbmilcanaaGreatDoor.Tx (TxtsIn ret_b)
open Go.Proofs.YtmaknkbmilcanaaGreatDoor.Gr (Tg Gp TgIn ret_i)
open Go.Proofs.YtmaknkbmilcanaaGreatDoor.Pe (Pr PrIn)
open Go.Proofs.YtmaknkbmilcanaaGreatDoor.Qu (Rep Q RpIn IntsIn OI Hd intV)
open Go.Proofs.YtmaknkbmilcanaaGreatDoor.Po (Pl RlIn)
open Go.Proofs.YtmaknkbmilcanaaGreatDoor.Gr (belI_step belI_alloc)
open Go.Proofs.YtmaknkbmilcanaaGreatDoor.Pi (Cn En Wi Pp EnIn WiIn CnIn PpN PV pV8 ppV eV)
open Go.Proofs.YtmaknkbmilcanaaGreatDoor.Ul (Tab MaxL in_any)
open Go.Proofs.YtmaknkbmilcanaaGreatDoor.Pi (Sm ppB)
open Go.Proofs.YtmaknkbmilcanaaGreatDoor.Mk (below_grownBy own_slice own_base)

open Go.Shelf
attribute [local go_sem] Oper.semAt_some
theorem loB_all (now next : Int) : ∀ (xs : List En) (e : Int), Pi.loB now next e xs = true → ∀ x ∈ xs, (1 ≤ x.kind ∧ x.kind ≤ 7) ∧ (1 ≤ x.id ∧ x.id ≤ next - 1)
  | [], _, _ => by simp
  | x :: t, e, h => by
    simp only [Pi.loB, Pi.enB, Bool.and_eq_true, decide_eq_true_eq] at h
    intro y hy
    rcases List.mem_cons.1 hy with rfl | hy
    · exact ⟨h.1.1, h.1.2.1⟩
    · exact loB_all now next t _ h.2 y hy
theorem pp_log {p : Pp} (h : ppB p = true) : ∀ x ∈ p.log, (1 ≤ x.kind ∧ x.kind ≤ 7) ∧ (1 ≤ x.id ∧ x.id ≤ p.next - 1) := by
  simp only [ppB, Bool.and_eq_true] at h
  exact loB_all _ _ _ _ h.2.2.2.2.1.2
theorem getD_mem {xs : List En} {k : Nat} (h : k < xs.length) : xs.getD k default ∈ xs := by
  rw [List.getD_eq_getElem?_getD, List.getElem?_eq_getElem h]; exact List.getElem_mem h
theorem fate_none {xs : List En} {id : Int} : ∀ k, (∀ j, j < k → (xs.getD j default).id ≠ id) → fateB xs id k = 0
  | 0, _ => rfl
  | k + 1, h => by unfold fateB; rw [if_neg (h k (by omega)), fate_none k (fun j hj => h j (by omega))]
theorem fate_hit {xs : List En} {id : Int} (j : Nat) (hj : (xs.getD j default).id = id) : ∀ d, (∀ i, j < i → i < j + 1 + d → (xs.getD i default).id ≠ id) → fateB xs id (j + 1 + d) = (xs.getD j default).kind
  | 0, _ => by unfold fateB; rw [if_pos hj]
  | d + 1, h => by
    have e : j + 1 + (d + 1) = (j + 1 + d) + 1 := by omega
    rw [e]
    unfold fateB
    rw [if_neg (h (j + 1 + d) (by omega) (by omega)), fate_hit j hj d (fun i h1 h2 => h i h1 (by omega))]
theorem fate_some {xs : List En} {id : Int} (h : ∀ x ∈ xs, 1 ≤ x.kind ∧ x.kind ≤ 7) : ∀ k, k ≤ xs.length → fateB xs id k ≠ 0 ∨ ∀ j, j < k → (xs.getD j default).id ≠ id
  | 0, _ => .inr fun j hj => by omega
  | k + 1, hk => by
    unfold fateB
    split
    · have := (h _ (getD_mem (show k < xs.length by omega))).1
      exact .inl (by omega)
    · rename_i hne
      rcases fate_some h k (by omega) with h1 | h1
      · exact .inl h1
      · exact .inr fun j hj => by
          by_cases e : j = k
          · subst e; exact hne
          · exact h1 j (by omega)
theorem ret_2 {fn : Func} {a b : Nat} {tmps : Array Value} {X : World} (hres : fn.results = #[.tmp a, .tmp b]) : (results fn tmps).run Tryz.prog X = .ok (.tuple #[tmps[a]?.getD undef, tmps[b]?.getD undef]) X := by simp [results, hres, go_sem]
/-! ### slices.Backward -/
/-! ### FateOf -/
end Go.Proofs.YtmaknkbmilcanaaGreatDoor.Ft
