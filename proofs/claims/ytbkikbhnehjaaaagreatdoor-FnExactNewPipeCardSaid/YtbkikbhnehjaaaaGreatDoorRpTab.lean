
/-
  What the list of a row gives that lists the tables of unicode/utf8 besides: the table of powers of ten, which strconv reads.
-/
import Derived.Test.YtbkikbhnehjaaaaGreatDoorRows
import Derived.Test.YtbkikbhnehjaaaaGreatDoorUrlImplA
import Derived.MakeChecks
import Derived.Lib.LaidTab
namespace Go.Proofs.YtbkikbhnehjaaaaGreatDoor.Ul
open Go.RowKit
theorem tab_of5 (W : World) (h : laidMetH Tryz.prog [("math/bits.deBruijn32tab", Rows.laid_math_bits_deBruijn32tab), ("math/bits.deBruijn64tab", Rows.laid_math_bits_deBruijn64tab), ("internal/strconv.uint64pow10", Rows.laid_internal_strconv_uint64pow10), ("unicode/utf8.acceptRanges", Rows.laid_unicode_utf8_acceptRanges), ("unicode/utf8.first", Rows.laid_unicode_utf8_first)] W) : Tab W := by
  rw [MakeChecks.laidMetH_plain _ _ _ (by kernel_rfl)] at h
  obtain ⟨ps, ⟨_, _, _, _, _, _, _, _, _, _, ⟨_, _, _, _, _, _, _, _, _, _, ⟨g', t', cs, fuel, p, q, hg', ht', hvar, hd, _, _⟩, _⟩, _⟩, _⟩ := h
  have gi : Tryz.prog.globalNamed "internal/strconv.uint64pow10" = some 4 := by kernel_rfl
  have gt : (Tryz.prog.globals[4]?).map (·.type) = some 357 := by kernel_rfl
  obtain rfl := Option.some.inj (gi.symm.trans hg')
  obtain rfl := Option.some.inj (gt.symm.trans ht')
  have e := Lib.cells_of_tab (k := .u64) (zs := Lib.pow10Tab) Tryz.underlying357 Tryz.underlying340 (by kernel_rfl) (by kernel_rfl) hd
  unfold Tab Lib.TabIs
  rw [hvar, ← e]
theorem maxl_of5 (W : World) (h : W.ShapedOpen Tryz.prog) : MaxL W := Tryz.laysM145.s1_3 W h
end Go.Proofs.YtbkikbhnehjaaaaGreatDoor.Ul
