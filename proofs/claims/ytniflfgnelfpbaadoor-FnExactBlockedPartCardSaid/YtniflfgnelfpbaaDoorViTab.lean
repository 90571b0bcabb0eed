
/-
  What the list of a row on violations gives: the table of powers of ten, and that errViolation holds an error; a world in which the variables hold what the list says.
-/
import Derived.Test.YtniflfgnelfpbaaDoorRows
import Derived.Test.YtniflfgnelfpbaaDoorViP
import Derived.Test.YtniflfgnelfpbaaDoorUrlTab
import Derived.Test.YtniflfgnelfpbaaDoorFrame
import Derived.MakeChecks
import Derived.Lib.LaidTab
import Derived.Stop.LaidErr
namespace Go.Proofs.YtniflfgnelfpbaaDoor.Vi
open Go.RowKit
open Go.Proofs.YtniflfgnelfpbaaDoor.Ul
abbrev list4 : List (String × DataW Unit) := [("math/bits.deBruijn32tab", Rows.laid_math_bits_deBruijn32tab), ("math/bits.deBruijn64tab", Rows.laid_math_bits_deBruijn64tab), ("internal/strconv.uint64pow10", Rows.laid_internal_strconv_uint64pow10), ("loop.example/g00779/impl.errViolation", Rows.laid_loop_example_g00779_impl_errViolation)]
theorem tab_of4 (W : World) (h : laidMetH Tryd.prog list4 W) : Tab W := by
  rw [MakeChecks.laidMetH_plain _ _ _ (by kernel_rfl)] at h
  obtain ⟨ps, ⟨_, _, _, _, _, _, _, _, _, _, ⟨_, _, _, _, _, _, _, _, _, _, ⟨g', t', cs, fuel, p, q, hg', ht', hvar, hd, _, _⟩, _⟩, _⟩, _⟩ := h
  have gi : Tryd.prog.globalNamed "internal/strconv.uint64pow10" = some 2 := by kernel_rfl
  have gt : (Tryd.prog.globals[2]?).map (·.type) = some 137 := by kernel_rfl
  obtain rfl := Option.some.inj (gi.symm.trans hg')
  obtain rfl := Option.some.inj (gt.symm.trans ht')
  have e := Lib.cells_of_tab (k := .u64) (zs := Lib.pow10Tab) Tryd.underlying137 Tryd.underlying129 (by kernel_rfl) (by kernel_rfl) hd
  unfold Tab Lib.TabIs
  rw [hvar, ← e]
theorem starE : "*" ++ "errors.errorString" = "*errors.errorString" := by decide
theorem rowE (u : TypeId) (h : Tryd.prog.typeName? 3 u = some "*errors.errorString") : u = 147 :=
  typeName_ptr_named (nm := "errors.errorString") (by rw [starE]; kernel_rfl) (by kernel_rfl) (by decide) u (by rw [starE]; exact h)
theorem errv_of4 (W : World) (h : laidMetH Tryd.prog list4 W) : ErrV W := by
  rw [MakeChecks.laidMetH_plain _ _ _ (by kernel_rfl)] at h
  have hg : Tryd.prog.globalNamed "loop.example/g00779/impl.errViolation" = some 0 := by kernel_rfl
  obtain ⟨a, s, hv, -, -, -⟩ := laid_sentinel h.tail.tail.tail hg (by kernel_rfl) Tryd.underlying85 rowE Tryd.underlying147 Tryd.underlying162 rfl rfl Tryd.underlying9 (by kernel_rfl) (by kernel_rfl)
  exact ⟨_, _, by simpa using World.var?_cell hg hv 0⟩
/-- where the error's own cell lies -/
noncomputable def low : Nat := (World.holding Tryd.prog default ⟨#[], #[], []⟩).heap.size
abbrev errTxt : ByteArray := ⟨#[116, 104, 101, 32, 118, 105, 111, 108, 97, 116, 105, 111, 110, 32, 105, 115, 32, 105, 110, 118, 97, 108, 105, 100]⟩
/-- a world for the witness: the listed variables hold what the list says -/
noncomputable def world4 (os : Os) : World :=
  let w0 := World.holding Tryd.prog os ⟨#[.cells #[.string errTxt] 162], #[], []⟩
  { w0 with heap := (list4.foldl (Frame.layOne Tryd.prog) w0.heap).modify 0 (Frame.layCells #[.iface 147 (.pointer (some ⟨low, 0, none⟩))]) }
end Go.Proofs.YtniflfgnelfpbaaDoor.Vi
