
/-
  Groups and targets as plain data, and in memory; an argument of type laws.Group, opened.
-/
import Derived.Test.YtakiigddbdapaaaGreatDoorChecked
import Derived.WalkKit
import Derived.Carry
import Derived.ProofKit
import Derived.OpenShut
import Derived.ChangeSlices
import Derived.Deep.Slices
import Derived.Lib.SmallJoins
namespace Go.Proofs.YtakiigddbdapaaaGreatDoor.Gr
open Go.RowKit
open Go.ChangeShapes Go.WideShapes Go.ChangeAt Go.Deep
structure Tg where
  url : List UInt8
  pri : Int
  wt : Int
deriving DecidableEq
instance : Inhabited Tg := ⟨⟨[], 0, 0⟩⟩
structure Gp where
  name : List UInt8
  age : Int
  tgs : List Tg
/-- the lengths of all addresses of a list -/
def szU : List Tg → Nat
  | [] => 0
  | t :: ts => t.url.length + szU ts
def szG (g : Gp) : Nat := g.name.length + (g.tgs.length + szU g.tgs)
theorem szU_drop {xs : List Tg} (k : Nat) (hx : k < xs.length) : szU (xs.drop k) = (xs.getD k default).url.length + szU (xs.drop (k + 1)) := by
  rw [List.drop_eq_getElem_cons hx]; simp [szU, hx]
/-- v is a slice of the targets xs, in a block of S -/
def TgIn (S : Nat → Prop) (w : World) (v : Value) (xs : List Tg) : Prop :=
  ∃ (a : Option Addr) (cap b off : Nat), v = .slice a xs.length cap ∧ xs.length ≤ cap ∧ cap ≤ 9223372036854775807 ∧ (∀ i, i < xs.length → (xs.getD i default).url.length ≤ 9223372036854775807) ∧
    (0 < xs.length → a = some ⟨b, off, none⟩ ∧ S b) ∧
    ∀ i, i < xs.length → w.cell? ⟨b, off + i * 3, none⟩ = some (.string ⟨(xs.getD i default).url.toArray⟩) ∧ w.cell? ⟨b, off + i * 3 + 1, none⟩ = some (.int .i64 (xs.getD i default).pri) ∧ w.cell? ⟨b, off + i * 3 + 2, none⟩ = some (.int .i64 (xs.getD i default).wt)
abbrev tV (t : Tg) : Value := .agg #[.string ⟨t.url.toArray⟩, .int .i64 t.pri, .int .i64 t.wt]
abbrev gV (g : Gp) (tv : Value) : Value := .agg #[.string ⟨g.name.toArray⟩, .int .i64 g.age, tv]
theorem TgIn.same {S S' : Nat → Prop} {w w' : World} {v : Value} {xs : List Tg} (h : TgIn S w v xs) (hs : ∀ b, S b → S' b ∧ w'.heap[b]? = w.heap[b]?) : TgIn S' w' v xs := by
  obtain ⟨a, cap, b, off, e, h1, h2, h3, h4, h5⟩ := h
  have hc : ∀ i o, i < xs.length → w'.cell? ⟨b, o, none⟩ = w.cell? ⟨b, o, none⟩ := fun i o hi => World.cell?_of_block (w := w) (a := ⟨b, o, none⟩) (hs b (h4 (Nat.lt_of_le_of_lt (Nat.zero_le i) hi)).2).2
  exact ⟨a, cap, b, off, e, h1, h2, h3, fun hp => ⟨(h4 hp).1, (hs b (h4 hp).2).1⟩, fun i hi => ⟨(hc i _ hi).trans (h5 i hi).1, (hc i _ hi).trans (h5 i hi).2.1, (hc i _ hi).trans (h5 i hi).2.2⟩⟩
theorem TgIn.blw {B : Nat} {w w' : World} {v : Value} {xs : List Tg} (h : TgIn (· < B) w v xs) (hb : Below B w w') : TgIn (· < B) w' v xs := h.same fun b hlt => ⟨hlt, hb.block b hlt⟩
theorem TgIn.mono {S S' : Nat → Prop} {w : World} {v : Value} {xs : List Tg} (h : TgIn S w v xs) (hs : ∀ b, S b → S' b) : TgIn S' w v xs := h.same fun b hb => ⟨hs b hb, rfl⟩
theorem TgIn.later {S : Nat → Prop} {w wx : World} {v : Value} {xs : List Tg} (h : TgIn S w v xs) (hS : ∀ b, S b → b < w.heap.size) (hx : Below w.heap.size w wx) : TgIn (· < wx.heap.size) wx v xs :=
  h.same fun b hb => ⟨Nat.lt_of_lt_of_le (hS b hb) hx.size, hx.block b (hS b hb)⟩
theorem TgIn.slice {S : Nat → Prop} {w : World} {v : Value} {xs : List Tg} (h : TgIn S w v xs) : ∃ a l c, v = .slice a l c := by
  obtain ⟨a', cap', _, _, rfl, _⟩ := h; exact ⟨_, _, _, rfl⟩
theorem cellsTg : Tryz.prog.cellsOf 62 = 3 := by kernel_rfl
theorem cellsGp : Tryz.prog.cellsOf 24 = 3 := by kernel_rfl
theorem cellsStr : Tryz.prog.cellsOf 9 = 1 := by kernel_rfl
theorem cellsInt : Tryz.prog.cellsOf 3 = 1 := by kernel_rfl
theorem cellsTgs : Tryz.prog.cellsOf 22 = 1 := by kernel_rfl
theorem list3 {α : Type} {l : List α} (h : l.length = 3) : ∃ a b c, l = [a, b, c] := by
  match l, h with
  | [a, b, c], _ => exact ⟨a, b, c, rfl⟩
section
variable {H : Type} {enc : TypeId × Value → H} {w : World} {spare : Nat → Bool} {held : Bool}
theorem spot_of {a : Addr} {v : Value} (h : w.cell? (a.add 0) = some v) : a = ⟨a.block, a.off, none⟩ ∧ a.block < w.heap.size := by
  obtain ⟨b, off, spot⟩ := a
  have hs := World.cell?_spot h
  have : spot = none := by simpa [Addr.add] using hs
  subst this
  exact ⟨rfl, by have := World.block_lt_of_cell? _ _ h; simpa [add_plain] using this⟩
set_option maxRecDepth 100000 in
theorem open_tgs {fuel : Nat} {v : Value} {x : DataW H × List MemPlace} (h : DataW.trod enc Tryz.prog w 0 spare held fuel 22 [v] = some x) : ∃ xs, TgIn (· < w.heap.size) w v xs := by
  rcases open_slice Tryz.underlying22 h with ⟨e, _⟩ | ⟨a, len, cap, m, n, D, Pl, e, _, hl, hm, hmm, _, hel⟩
  · simp at e
    exact ⟨[], none, 0, 0, 0, e, by simp, by simp, by simp, by simp, by simp⟩
  · simp at e
    subst e
    have hlm : len ≤ m := by rw [hmm]; split <;> omega
    rw [cellsTg] at hel
    have each : ∀ i, i < len → ∃ y : Tg, w.cell? (a.add (i * 3)) = some (.string ⟨y.url.toArray⟩) ∧ w.cell? (a.add (i * 3 + 1)) = some (.int .i64 y.pri) ∧ w.cell? (a.add (i * 3 + 2)) = some (.int .i64 y.wt) ∧ y.url.length ≤ 9223372036854775807 := fun i hi => by
      obtain ⟨cs', h1, h2⟩ := hel i (by omega)
      obtain ⟨ys, n', _, _, hcl, hyl, hf⟩ := DataW.trod_struct Tryz.underlying62 h2
      rw [cellsTg] at hcl
      obtain ⟨v0, v1, v2, rfl⟩ := list3 hcl
      have hyl' : ys.length = 3 := hyl
      obtain ⟨y0, y1, y2, rfl⟩ := list3 hyl'
      have g0 := hf 0 _ rfl
      have g1 := hf 1 _ rfl
      have g2 := hf 2 _ rfl
      simp [cellsStr, cellsInt] at g0 g1 g2
      obtain ⟨t, a0, -, b0⟩ := DataW.trod_string Tryz.underlying9 g0
      obtain ⟨p, a1, -, b1⟩ := DataW.trod_int Tryz.underlying3 g1
      obtain ⟨q, a2, -, b2⟩ := DataW.trod_int Tryz.underlying3 g2
      simp only [List.cons.injEq, and_true] at a0 a1 a2
      subst a0 a1 a2
      have bt : t.data.toList.length ≤ 9223372036854775807 := by rw [Array.length_toList]; exact b0
      obtain ⟨_, _, hc⟩ := World.cells?_some h1
      simp only [Addr.add_add] at hc
      exact ⟨⟨t.data.toList, p, q⟩, by simpa using hc 0 (by omega), by simpa using hc 1 (by omega), by simpa using hc 2 (by omega), bt⟩
    obtain ⟨Y, hY⟩ := choose_lt each
    have hlen2 : ((List.range len).map Y).length = len := by simp
    have hget : ∀ i, i < len → ((List.range len).map Y).getD i default = Y i := fun i hi => by simp [hi]
    have hadr : ∀ i o, i < len → a.add (i * 3 + o) = ⟨a.block, a.off + i * 3 + o, none⟩ := fun i o hi => by
      obtain ⟨e1, _⟩ := spot_of (hY 0 (by omega)).1
      rw [e1, add_plain]
      simp only [Addr.mk.injEq, true_and, and_true]
      omega
    refine ⟨(List.range len).map Y, some a, cap, a.block, a.off, by rw [hlen2], by rw [hlen2]; exact hl, hm, ?_, ?_, ?_⟩
    · rw [hlen2]; intro i hi; rw [hget i hi]; exact (hY i hi).2.2.2
    · rw [hlen2]; intro hp
      obtain ⟨e1, e2⟩ := spot_of (hY 0 hp).1
      exact ⟨congrArg some e1, e2⟩
    · rw [hlen2]; intro i hi; rw [hget i hi]
      refine ⟨?_, ?_, ?_⟩
      · show w.cell? ⟨a.block, a.off + i * 3 + 0, none⟩ = _; rw [← hadr i 0 hi]; exact (hY i hi).1
      · rw [← hadr i 1 hi]; exact (hY i hi).2.1
      · rw [← hadr i 2 hi]; exact (hY i hi).2.2.1
set_option maxRecDepth 100000 in
theorem open_group {r : Reach} {b0 : Nat} {v : Value} {d : DataW H} {p : List MemPlace} (hv : Value.okWide Tryz.prog w r b0 24 v) (h : DataW.Trod enc Tryz.prog w 0 spare held 24 v d p) :
    ∃ g tv, v = gV g tv ∧ TgIn (· < w.heap.size) w tv g.tgs ∧ g.name.length ≤ 9223372036854775807 := by
  obtain ⟨cs, rfl, hsz⟩ := okWide_struct Tryz.underlying24 hv
  obtain ⟨fuel, hf⟩ := h
  obtain ⟨xs, n, _, _, _, hlen, hfs⟩ := DataW.trod_struct Tryz.underlying24 hf
  rw [cellsGp] at hsz
  have hl : cs.toList.length = 3 := by simpa using hsz
  obtain ⟨c0, c1, c2, hcs⟩ := list3 hl
  have hxl : xs.length = 3 := hlen
  obtain ⟨x0, x1, x2, rfl⟩ := list3 hxl
  have e : cs = #[c0, c1, c2] := by rw [← Array.toArray_toList (xs := cs), hcs]
  subst e
  have g0 := hfs 0 _ rfl
  have g1 := hfs 1 _ rfl
  have g2 := hfs 2 _ rfl
  simp [Value.cells, cellsStr, cellsInt, cellsTgs] at g0 g1 g2
  obtain ⟨t, a0, -, b0⟩ := DataW.trod_string Tryz.underlying9 g0
  obtain ⟨k, a1, -, b1⟩ := DataW.trod_int Tryz.underlying3 g1
  obtain ⟨xs, hxs⟩ := open_tgs g2
  simp only [List.cons.injEq, and_true] at a0 a1
  subst a0 a1
  have bt : t.data.toList.length ≤ 9223372036854775807 := by rw [Array.length_toList]; exact b0
  exact ⟨⟨t.data.toList, k, xs⟩, c2, rfl, hxs, bt⟩
end
end Go.Proofs.YtakiigddbdapaaaGreatDoor.Gr
