
/-
  A value of another kind is no object.
-/
import Derived.Test.YtniflfgnelfpbaaJsVal
namespace Go.Proofs.Ytniflfgnelfpbaa.Js
open Go.RowKit
theorem ta_0_o (w : World) (v : Value) : (Instr.typeAssert (.iface 71 v) 53 59 true).run Try.prog w = .ok (.tuple #[.agg #[.slice none 0 0, .slice none 0 0], .bool false]) w := by kernel_rfl
theorem ta_1_o (w : World) (v : Value) : (Instr.typeAssert (.iface 72 v) 53 59 true).run Try.prog w = .ok (.tuple #[.agg #[.slice none 0 0, .slice none 0 0], .bool false]) w := by kernel_rfl
theorem ta_2_o (w : World) (v : Value) : (Instr.typeAssert (.iface 73 v) 53 59 true).run Try.prog w = .ok (.tuple #[.agg #[.slice none 0 0, .slice none 0 0], .bool false]) w := by kernel_rfl
theorem ta_3_o (w : World) (v : Value) : (Instr.typeAssert (.iface 74 v) 53 59 true).run Try.prog w = .ok (.tuple #[.agg #[.slice none 0 0, .slice none 0 0], .bool false]) w := by kernel_rfl
theorem ta_4_o (w : World) (v : Value) : (Instr.typeAssert (.iface 57 v) 53 59 true).run Try.prog w = .ok (.tuple #[.agg #[.slice none 0 0, .slice none 0 0], .bool false]) w := by kernel_rfl
end Go.Proofs.Ytniflfgnelfpbaa.Js
