
/-
  An argument of type laws.Url, opened: nine fields of one cell each.
-/
import Derived.Test.YtaogbicljbnopabDoorChecked
import Derived.Carry
import Derived.ProofKit
import Derived.OpenShut
import Derived.Lib.SmallJoins
namespace Go.Proofs.YtaogbicljbnopabDoor.Ul
open Go.ChangeShapes Go.WideShapes Go.ChangeAt Go.RowKit
theorem list9 {α : Type} {l : List α} (h : l.length = 9) : ∃ a b c d e f g i j, l = [a, b, c, d, e, f, g, i, j] := by
  match l, h with
  | [a, b, c, d, e, f, g, i, j], _ => exact ⟨a, b, c, d, e, f, g, i, j, rfl⟩
theorem len_of {s : ByteArray} (h : s.size ≤ maxLen) : s.data.toList.length ≤ maxLen := by
  rw [Array.length_toList]; exact h
theorem cellsUrl : Tryd.prog.cellsOf 23 = 9 := by kernel_rfl
theorem cellsStr : Tryd.prog.cellsOf 9 = 1 := by kernel_rfl
theorem cellsInt : Tryd.prog.cellsOf 3 = 1 := by kernel_rfl
theorem cellsBool : Tryd.prog.cellsOf 4 = 1 := by kernel_rfl
section
variable {H : Type} {enc : TypeId × Value → H} {w : World} {base : Nat} {spare : Nat → Bool} {held : Bool}
theorem open_url {r : Reach} {b0 : Nat} {v : Value} {d : DataW H} {p : List MemPlace} (hv : Value.okWide Tryd.prog w r b0 23 v) (h : DataW.Trod enc Tryd.prog w base spare held 23 v d p) :
    ∃ (s us hh pa q f : List UInt8) (n : Int) (hq hf : Bool), v = .agg #[.string ⟨s.toArray⟩, .string ⟨us.toArray⟩, .string ⟨hh.toArray⟩, .int .i64 n, .string ⟨pa.toArray⟩, .string ⟨q.toArray⟩, .string ⟨f.toArray⟩, .bool hq, .bool hf] ∧
      s.length ≤ maxLen ∧ us.length ≤ maxLen ∧ hh.length ≤ maxLen ∧ pa.length ≤ maxLen ∧ q.length ≤ maxLen ∧ f.length ≤ maxLen ∧ -9223372036854775808 ≤ n ∧ n ≤ 9223372036854775807 := by
  obtain ⟨cs, rfl, hsz⟩ := okWide_struct Tryd.underlying23 hv
  obtain ⟨fuel, hf⟩ := h
  obtain ⟨xs, n, _, _, _, hlen, hfs⟩ := DataW.trod_struct Tryd.underlying23 hf
  rw [cellsUrl] at hsz
  have hl : cs.toList.length = 9 := by simpa using hsz
  obtain ⟨c0, c1, c2, c3, c4, c5, c6, c7, c8, hcs⟩ := list9 hl
  have hxl : xs.length = 9 := hlen
  obtain ⟨x0, x1, x2, x3, x4, x5, x6, x7, x8, rfl⟩ := list9 hxl
  have e : cs = #[c0, c1, c2, c3, c4, c5, c6, c7, c8] := by rw [← Array.toArray_toList (xs := cs), hcs]
  subst e
  have g0 := hfs 0 _ rfl
  have g1 := hfs 1 _ rfl
  have g2 := hfs 2 _ rfl
  have g3 := hfs 3 _ rfl
  have g4 := hfs 4 _ rfl
  have g5 := hfs 5 _ rfl
  have g6 := hfs 6 _ rfl
  have g7 := hfs 7 _ rfl
  have g8 := hfs 8 _ rfl
  simp [Value.cells, cellsStr, cellsInt, cellsBool] at g0 g1 g2 g3 g4 g5 g6 g7 g8
  obtain ⟨s0, a0, -, b0'⟩ := DataW.trod_string Tryd.underlying9 g0
  obtain ⟨s1, a1, -, b1'⟩ := DataW.trod_string Tryd.underlying9 g1
  obtain ⟨s2, a2, -, b2'⟩ := DataW.trod_string Tryd.underlying9 g2
  obtain ⟨n3, a3, -, b3'⟩ := DataW.trod_int Tryd.underlying3 g3
  obtain ⟨s4, a4, -, b4'⟩ := DataW.trod_string Tryd.underlying9 g4
  obtain ⟨s5, a5, -, b5'⟩ := DataW.trod_string Tryd.underlying9 g5
  obtain ⟨s6, a6, -, b6'⟩ := DataW.trod_string Tryd.underlying9 g6
  obtain ⟨t7, a7, -⟩ := DataW.trod_bool Tryd.underlying4 g7
  obtain ⟨t8, a8, -⟩ := DataW.trod_bool Tryd.underlying4 g8
  simp only [List.cons.injEq, and_true] at a0 a1 a2 a3 a4 a5 a6 a7 a8
  subst a0 a1 a2 a3 a4 a5 a6 a7 a8
  have bd := bounds_i64 b3'
  refine ⟨s0.data.toList, s1.data.toList, s2.data.toList, s4.data.toList, s5.data.toList, s6.data.toList, n3, t7, t8, rfl, ?_, ?_, ?_, ?_, ?_, ?_, ?_, ?_⟩
  · exact len_of b0'
  · exact len_of b1'
  · exact len_of b2'
  · exact len_of b4'
  · exact len_of b5'
  · exact len_of b6'
  · exact bd.1
  · exact bd.2
end
end Go.Proofs.YtaogbicljbnopabDoor.Ul
