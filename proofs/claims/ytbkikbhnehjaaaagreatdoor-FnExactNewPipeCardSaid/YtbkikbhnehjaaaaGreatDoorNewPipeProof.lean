
/-
  PROVED HERE: laws.FnExactNewPipe answers true for every argument that the form lets in, and its arguments read behind the call as they read before. The walk itself is in the texts that this one imports; this is the frame round it.
  Conditions: the row's own, and that the listed package-level variables hold what the text lays (tied by the card).
-/
import Derived.Test.YtbkikbhnehjaaaaGreatDoorNewPipeSaid
import Derived.Test.YtbkikbhnehjaaaaGreatDoorCards
import Derived.Test.YtbkikbhnehjaaaaGreatDoorTie
import Derived.SevenTiedAt
namespace Go.Proofs.YtbkikbhnehjaaaaGreatDoor.fnExactNewPipe
open Go.ChangeShapes Go.WideShapes Go.ChangeAt Go.RowKit
open Go.ChangeMaps (open_string shut_string)
theorem plain (f : FuncId) (fn : Func) (hf : Tryz.pinned.checked.prog.funcNamed "loop.example/g00779/laws.FnExactNewPipe" = some f) (hfn : Tryz.pinned.checked.prog.funcs[f]? = some fn) :
    true = Tryz.pinned.checked.prog.looks [] ∧ ∀ (j : Nat) t, fn.params[j]? = some t → Tryz.pinned.checked.prog.wantsStandIn t = false := by
  obtain rfl : f = 3 := Option.some.inj ((show Tryz.prog.funcNamed "loop.example/g00779/laws.FnExactNewPipe" = some 3 by kernel_rfl).symm.trans hf) |>.symm
  obtain rfl : fn = Tryz.f3 := (Option.some.inj (Tryz.func3.symm.trans hfn)).symm
  refine ⟨by kernel_rfl, fun j t ht => ?_⟩
  rw [Tryz.params3] at ht
  simp at ht
theorem card : Rows.FnExactNewPipeCardSaid :=
  Claim7.holds_tied_plain_at .later [] _ _ _ _ said (fun _ h => by cases h) (by as_aux_lemma => kernel_rfl) (fun _ h => by cases h) fnExactNewPipe_row_tie rfl ⟨rfl, rfl⟩ (by as_aux_lemma => kernel_rfl) rfl plain (by as_aux_lemma => kernel_rfl)
end Go.Proofs.YtbkikbhnehjaaaaGreatDoor.fnExactNewPipe
