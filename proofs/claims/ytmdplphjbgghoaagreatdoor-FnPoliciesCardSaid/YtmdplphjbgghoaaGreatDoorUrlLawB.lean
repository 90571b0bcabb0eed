
/-
  The walks of UrlText, OriginOf and StripUrl, of the program and of the model.
-/
import Derived.Test.YtmdplphjbgghoaaGreatDoorUrlLawA
namespace Go.Proofs.YtmdplphjbgghoaaGreatDoor.Ul
open Go.RowKit
attribute [local go_sem] bappI
theorem ret_tup {a b : List UInt8} {c : Int} (h : a = b) : Ending.returned (.tuple #[.string ⟨a.toArray⟩, .int .i64 c]) = .returned (.tuple #[.string ⟨b.toArray⟩, .int .i64 c]) := by rw [h]
theorem ok_port (s us h pa q f : List UInt8) (p : Int) (hq hf : Bool) (hok : okB ⟨s, us, h, p, pa, q, f, hq, hf⟩ = true) (hw : webB s = true) : 0 ≤ p ∧ p ≤ 65535 := by
  rw [okB_fields, Bool.and_eq_true] at hok
  exact fields_port s us h pa q f p hq hf hok.1 hw
theorem clone_any (l : List UInt8) (w : World) (hl : l.length ≤ 281474976710656) : Calls Tryz.prog 32 #[.string ⟨l.toArray⟩] w fun e w' => e = .returned (.string ⟨l.toArray⟩) ∧ Below w.heap.size w w' := by
  go_enter Tryz.func32, Tryz.ntmps32
  go_wp2_with fail
  refine (Tryz.stringslite_Clone ⟨l.toArray⟩ _ hl).mono ?_
  rintro e w1 ⟨rfl, hb⟩
  go_wp2
  go_ret
  exact ⟨rfl, hb⟩
end Go.Proofs.YtmdplphjbgghoaaGreatDoor.Ul
