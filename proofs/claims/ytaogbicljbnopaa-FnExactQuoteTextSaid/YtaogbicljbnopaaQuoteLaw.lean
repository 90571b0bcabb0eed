
/-
  The law on QuoteText, walked.
-/
import Derived.Test.YtaogbicljbnopaaQuoteSpec
import Derived.Test.YtaogbicljbnopaaQuoteImpl
namespace Go.Proofs.Ytaogbicljbnopaa.Bl
open Go.RowKit
theorem sQuote_any (l : List UInt8) (w : World) (hl : l.length ≤ 9223372036854775807) : Calls Try.prog 7 #[.string ⟨l.toArray⟩] w fun e w' => e = .returned (.string ⟨(QT l).toArray⟩) ∧ Below w.heap.size w w' := by
  by_cases h : 65536 < l.length
  · have e : QT l = [] := by simp [QT, h]
    rw [e]
    clear e
    go_enter Try.func7, Try.ntmps7
    go_wp2
    go_ret
    exact ⟨rfl, Below.refl _ _⟩
  · have e : QT l = quoteL l := by simp [QT, h]
    rw [e]
    clear e
    go_enter Try.func7, Try.ntmps7
    go_wp2_with fail
    refine (quoteS_any l _ (by omega)).mono ?_
    rintro e w1 ⟨rfl, b1⟩
    go_wp2
    go_ret
    exact ⟨rfl, b1⟩
theorem quoteText_walk (l : List UInt8) (hl : l.length ≤ maxLen) (w : World) : Calls Try.prog 3 #[.string ⟨l.toArray⟩] w fun e w' => e = .returned (.bool true) ∧ Below w.heap.size w w' := by
  unfold maxLen at hl
  by_cases hlong : 1048576 < l.length
  · go_enter Try.func3, Try.ntmps3
    go_wp2
    go_ret
    exact ⟨rfl, Below.refl _ _⟩
  have HS := Lib.hid (fun W => sQuote_any l W hl)
  have HI := Lib.hid (fun W => quoteI_any l W hl)
  generalize QT l = u at *
  go_enter Try.func3, Try.ntmps3
  go_wp2_with fail
  refine (HS.out _).mono ?_
  rintro e w1 ⟨rfl, hb1⟩
  go_wp2_with fail
  refine (HI.out _).mono ?_
  rintro e w2 ⟨rfl, hb2⟩
  go_wp2
  go_ret
  exact ⟨rfl, hb1.trans (hb2.mono hb1.size)⟩
end Go.Proofs.Ytaogbicljbnopaa.Bl
