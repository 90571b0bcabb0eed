
/-
  The source of choices, plainly: what each choice comes to. No program is named here.
-/
import Derived.Below
import Derived.Lib.Builder
namespace Go.Proofs.YtjjabbdnoapnkabDoor.Dr
open Go.RowKit
structure S where
  code : List UInt8
  pos : Nat
  seed : Nat
def S.start (code : List UInt8) : S := ⟨code, 0, code.length % 1000⟩
def codeAt (s : S) : Nat := (s.code.getD s.pos 0).toNat
def byteS (s : S) : S :=
  if s.pos + 1 ≤ s.code.length then ⟨s.code, s.pos + 1, (s.seed * 31 + codeAt s + 7) % 2147483648⟩
  else if 3000 < s.pos + 1 then ⟨s.code, s.pos + 1, s.seed⟩ else ⟨s.code, s.pos + 1, (s.seed * 1103515245 + 12345) % 2147483648⟩
def byteV (s : S) : Nat :=
  if s.pos + 1 ≤ s.code.length then codeAt s
  else if 3000 < s.pos + 1 then 0 else (s.seed * 1103515245 + 12345) % 2147483648 / 65536 % 256
def nextV (s : S) (n : Nat) : Nat := if n ≤ 1 then 0 else byteV s % n
def nextS (s : S) (n : Nat) : S := if n ≤ 1 then s else byteS s
def chanceB (s : S) (n : Nat) : Bool := decide (nextV s n + 1 = n)
def pickL (s : S) (ts : List (List UInt8)) : List UInt8 := ts.getD (nextV s ts.length) []
/-- in its bounds: so many bytes drawn at most -/
structure S.fit (s : S) (N : Nat) : Prop where
  pos : s.pos ≤ N
  seed : s.seed < 2147483648
theorem codeAt_lt (s : S) : codeAt s < 256 := UInt8.toNat_lt _
theorem byteS_code (s : S) : (byteS s).code = s.code := by unfold byteS; split; rfl; split <;> rfl
theorem byteS_pos (s : S) : (byteS s).pos = s.pos + 1 := by unfold byteS; split; rfl; split <;> rfl
theorem S.fit.byte {s : S} {N : Nat} (h : s.fit N) : (byteS s).fit (N + 1) := by
  refine ⟨by rw [byteS_pos]; have := h.pos; omega, ?_⟩
  have := h.seed
  unfold byteS
  split
  · exact Nat.mod_lt _ (by omega)
  · split
    · exact h.seed
    · exact Nat.mod_lt _ (by omega)
theorem S.fit.next {s : S} {N : Nat} (h : s.fit N) (n : Nat) : (nextS s n).fit (N + 1) := by
  unfold nextS
  split
  · exact ⟨by have := h.pos; omega, h.seed⟩
  · exact h.byte
theorem S.fit.le {s : S} {N M : Nat} (h : s.fit N) (hm : N ≤ M) : s.fit M := ⟨by have := h.pos; omega, h.seed⟩
theorem nextS_code (s : S) (n : Nat) : (nextS s n).code = s.code := by unfold nextS; split; rfl; exact byteS_code s
theorem byteV_lt (s : S) : byteV s < 256 := by
  unfold byteV
  split
  · exact codeAt_lt s
  · split
    · omega
    · exact Nat.mod_lt _ (by omega)
theorem nextV_lt (s : S) (n : Nat) (h : 1 ≤ n) : nextV s n < n := by
  unfold nextV
  split
  · omega
  · exact Nat.mod_lt _ (by omega)
theorem start_fit (code : List UInt8) : (S.start code).fit 0 := ⟨Nat.le_refl _, by show code.length % 1000 < _; omega⟩
/-! ### The frame: of what was there the block b alone may turn -/
structure Fr (b : Nat) (w w' : World) : Prop where
  os : w'.os = w.os
  tape : w'.tape = w.tape
  output : w'.output = w.output
  size : w.heap.size ≤ w'.heap.size
  block : ∀ k, k < w.heap.size → k ≠ b → w'.heap[k]? = w.heap[k]?
theorem Fr.refl (b : Nat) (w : World) : Fr b w w := ⟨rfl, rfl, rfl, Nat.le_refl _, fun _ _ _ => rfl⟩
theorem Fr.trans {b : Nat} {w w1 w2 : World} (h : Fr b w w1) (h2 : Fr b w1 w2) : Fr b w w2 :=
  ⟨h2.os.trans h.os, h2.tape.trans h.tape, h2.output.trans h.output, Nat.le_trans h.size h2.size, fun k hk hb => (h2.block k (by have := h.size; omega) hb).trans (h.block k hk hb)⟩
theorem Fr.alloc {b : Nat} {w w1 : World} (h : Fr b w w1) (o : Obj) : Fr b w (w1.alloc o) :=
  h.trans ⟨rfl, rfl, rfl, by simp, fun k hk _ => Lib.alloc_old w1 _ k hk⟩
theorem Fr.drew {b : Nat} {w w1 : World} (h : Fr b w w1) : Fr b w w1.drew := ⟨h.os, h.tape, h.output, h.size, h.block⟩
theorem Fr.set {b : Nat} {w w1 : World} (h : Fr b w w1) (o : Nat) (v : Value) : Fr b w (w1.setCell ⟨b, o, none⟩ v) :=
  h.trans ⟨rfl, rfl, rfl, by simp [World.setCell], fun k _ hb => Below.heap_setCell _ _ _ _ (fun e => hb (by simpa using e))⟩
theorem Fr.below {b B : Nat} {w w' : World} (h : Fr b w w') (hB : B ≤ b) (hw : B ≤ w.heap.size) : Below B w w' :=
  ⟨h.os, h.tape, h.output, h.size, fun k hk => h.block k (by omega) (by omega)⟩
end Go.Proofs.YtjjabbdnoapnkabDoor.Dr
