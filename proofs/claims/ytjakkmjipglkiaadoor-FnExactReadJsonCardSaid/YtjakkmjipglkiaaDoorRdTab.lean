
/-
  What the list of a row on readers of JSON gives: that strconv.ErrSyntax holds an error; a world in which the variables hold what the list says.
-/
import Derived.Test.YtjakkmjipglkiaaDoorRows
import Derived.Test.YtjakkmjipglkiaaDoorRdP
import Derived.Test.YtjakkmjipglkiaaDoorFrame
import Derived.MakeChecks
import Derived.Lib.LaidTab
import Derived.Stop.LaidErr
namespace Go.Proofs.YtjakkmjipglkiaaDoor.Rd
open Go.RowKit
abbrev list7 : List (String × DataW Unit) := [("math/bits.deBruijn32tab", Rows.laid_math_bits_deBruijn32tab), ("math/bits.deBruijn64tab", Rows.laid_math_bits_deBruijn64tab), ("internal/strconv.uint64pow10", Rows.laid_internal_strconv_uint64pow10), ("unicode/utf8.acceptRanges", Rows.laid_unicode_utf8_acceptRanges), ("strconv.ErrRange", Rows.laid_strconv_ErrRange), ("strconv.ErrSyntax", Rows.laid_strconv_ErrSyntax), ("unicode/utf8.first", Rows.laid_unicode_utf8_first)]
theorem starR : "*" ++ "errors.errorString" = "*errors.errorString" := by decide
theorem rowR (u : TypeId) (h : Tryd.prog.typeName? 3 u = some "*errors.errorString") : u = 120 :=
  typeName_ptr_named (nm := "errors.errorString") (by rw [starR]; kernel_rfl) (by kernel_rfl) (by decide) u (by rw [starR]; exact h)
theorem syn_of7 (W : World) (h : laidMetH Tryd.prog list7 W) : SynV W := by
  rw [MakeChecks.laidMetH_plain _ _ _ (by kernel_rfl)] at h
  have hg : Tryd.prog.globalNamed "strconv.ErrSyntax" = some 2 := by kernel_rfl
  obtain ⟨a, s, hv, -, -, -⟩ := laid_sentinel h.tail.tail.tail.tail.tail hg (by kernel_rfl) Tryd.underlying89 rowR Tryd.underlying120 Tryd.underlying122 rfl rfl Tryd.underlying9 (by kernel_rfl) (by kernel_rfl)
  exact ⟨_, _, by simpa using World.var?_cell hg hv 0⟩
/-- where the errors' own cells lie -/
noncomputable def low : Nat := (World.holding Tryd.prog default ⟨#[], #[], []⟩).heap.size
abbrev rangeTxt : ByteArray := ⟨#[118, 97, 108, 117, 101, 32, 111, 117, 116, 32, 111, 102, 32, 114, 97, 110, 103, 101]⟩
abbrev synTxt : ByteArray := ⟨#[105, 110, 118, 97, 108, 105, 100, 32, 115, 121, 110, 116, 97, 120]⟩
/-- a world for the witness: the listed variables hold what the list says -/
noncomputable def world7 (os : Os) : World :=
  let w0 := World.holding Tryd.prog os ⟨#[.cells #[.string rangeTxt] 122, .cells #[.string synTxt] 122], #[], []⟩
  { w0 with heap := ((list7.foldl (Frame.layOne Tryd.prog) w0.heap).modify 3 (Frame.layCells #[.iface 120 (.pointer (some ⟨low, 0, none⟩))])).modify 2 (Frame.layCells #[.iface 120 (.pointer (some ⟨low + 1, 0, none⟩))]) }
end Go.Proofs.YtjakkmjipglkiaaDoor.Rd
