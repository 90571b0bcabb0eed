
/-
  What the list of a URL law's row gives: the table of powers of ten, which strconv reads.
-/
import Derived.Test.YtmaknkbmilcanaaGreatDoorRows
import Derived.Test.YtmaknkbmilcanaaGreatDoorUrlImplA
import Derived.MakeChecks
import Derived.Lib.LaidTab
namespace Go.Proofs.YtmaknkbmilcanaaGreatDoor.Ul
open Go.RowKit
theorem tab_of (W : World) (h : laidMetH Tryz.prog [("math/bits.deBruijn32tab", Rows.laid_math_bits_deBruijn32tab), ("math/bits.deBruijn64tab", Rows.laid_math_bits_deBruijn64tab), ("internal/strconv.uint64pow10", Rows.laid_internal_strconv_uint64pow10)] W) : Tab W := by
  rw [MakeChecks.laidMetH_plain _ _ _ (by kernel_rfl)] at h
  obtain ⟨ps, ⟨_, _, _, _, _, _, _, _, _, _, ⟨_, _, _, _, _, _, _, _, _, _, ⟨g', t', cs, fuel, p, q, hg', ht', hvar, hd, _, _⟩, _⟩, _⟩, _⟩ := h
  have gi : Tryz.prog.globalNamed "internal/strconv.uint64pow10" = some 1 := by kernel_rfl
  have gt : (Tryz.prog.globals[1]?).map (·.type) = some 369 := by kernel_rfl
  obtain rfl := Option.some.inj (gi.symm.trans hg')
  obtain rfl := Option.some.inj (gt.symm.trans ht')
  have e := Lib.cells_of_tab (k := .u64) (zs := Lib.pow10Tab) Tryz.underlying369 Tryz.underlying259 (by kernel_rfl) (by kernel_rfl) hd
  unfold Tab Lib.TabIs
  rw [hvar, ← e]
theorem maxl_of (W : World) (h : W.ShapedOpen Tryz.prog) : MaxL W := Tryz.laysM145.s1_3 W h
end Go.Proofs.YtmaknkbmilcanaaGreatDoor.Ul
