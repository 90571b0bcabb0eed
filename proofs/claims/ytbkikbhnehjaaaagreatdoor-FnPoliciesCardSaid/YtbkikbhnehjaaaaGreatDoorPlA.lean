
/-
  The source of choices, plainly: what each choice comes to. No program is named here. The source of choices of the model, walked: a byte, a number, a chance, a pick out of some texts. A policy's line drawn by the model: that a text of moderate length comes out, whatever it is; an argument of type []byte, opened. Plainly: a policy that is read is OK, is read back from its text, and its own group is OK.
-/
import Derived.Below
import Derived.Lib.Builder
import Derived.Test.YtbkikbhnehjaaaaGreatDoorChecked
import Derived.WalkKit
import Derived.WalkSpells
import Derived.WalkLawsBesides
import Derived.Lib.Hide
import Derived.RegionTactic
import Derived.BigRegion
import Derived.Deep.QuietTactic
import Derived.BigQuiet
import Derived.IntWalk
import Derived.Outline
import Derived.Test.YtbkikbhnehjaaaaGreatDoorUrlSpecE
import Derived.Test.YtbkikbhnehjaaaaGreatDoorTx
import Derived.ProofKit
import Derived.OpenShut
import Derived.ChangeSlices
import Derived.Test.YtbkikbhnehjaaaaGreatDoorRqC
import Derived.Test.YtbkikbhnehjaaaaGreatDoorPgA
namespace Go.Proofs.YtbkikbhnehjaaaaGreatDoor.Dr
open Go.RowKit
structure S where
  code : List UInt8
  pos : Nat
  seed : Nat
def S.start (code : List UInt8) : S := ⟨code, 0, code.length % 1000⟩
def codeAt (s : S) : Nat := (s.code.getD s.pos 0).toNat
def byteS (s : S) : S :=
  if s.pos + 1 ≤ s.code.length then ⟨s.code, s.pos + 1, (s.seed * 31 + codeAt s + 7) % 2147483648⟩
  else if 3000 < s.pos + 1 then ⟨s.code, s.pos + 1, s.seed⟩ else ⟨s.code, s.pos + 1, (s.seed * 1103515245 + 12345) % 2147483648⟩
def byteV (s : S) : Nat :=
  if s.pos + 1 ≤ s.code.length then codeAt s
  else if 3000 < s.pos + 1 then 0 else (s.seed * 1103515245 + 12345) % 2147483648 / 65536 % 256
def nextV (s : S) (n : Nat) : Nat := if n ≤ 1 then 0 else byteV s % n
def nextS (s : S) (n : Nat) : S := if n ≤ 1 then s else byteS s
def chanceB (s : S) (n : Nat) : Bool := decide (nextV s n + 1 = n)
def pickL (s : S) (ts : List (List UInt8)) : List UInt8 := ts.getD (nextV s ts.length) []
/-- in its bounds: so many bytes drawn at most -/
structure S.fit (s : S) (N : Nat) : Prop where
  pos : s.pos ≤ N
  seed : s.seed < 2147483648
theorem codeAt_lt (s : S) : codeAt s < 256 := UInt8.toNat_lt _
theorem byteS_code (s : S) : (byteS s).code = s.code := by unfold byteS; split; rfl; split <;> rfl
theorem byteS_pos (s : S) : (byteS s).pos = s.pos + 1 := by unfold byteS; split; rfl; split <;> rfl
theorem S.fit.byte {s : S} {N : Nat} (h : s.fit N) : (byteS s).fit (N + 1) := by
  refine ⟨by rw [byteS_pos]; have := h.pos; omega, ?_⟩
  have := h.seed
  unfold byteS
  split
  · exact Nat.mod_lt _ (by omega)
  · split
    · exact h.seed
    · exact Nat.mod_lt _ (by omega)
theorem S.fit.next {s : S} {N : Nat} (h : s.fit N) (n : Nat) : (nextS s n).fit (N + 1) := by
  unfold nextS
  split
  · exact ⟨by have := h.pos; omega, h.seed⟩
  · exact h.byte
theorem S.fit.le {s : S} {N M : Nat} (h : s.fit N) (hm : N ≤ M) : s.fit M := ⟨by have := h.pos; omega, h.seed⟩
theorem nextS_code (s : S) (n : Nat) : (nextS s n).code = s.code := by unfold nextS; split; rfl; exact byteS_code s
theorem byteV_lt (s : S) : byteV s < 256 := by
  unfold byteV
  split
  · exact codeAt_lt s
  · split
    · omega
    · exact Nat.mod_lt _ (by omega)
theorem nextV_lt (s : S) (n : Nat) (h : 1 ≤ n) : nextV s n < n := by
  unfold nextV
  split
  · omega
  · exact Nat.mod_lt _ (by omega)
theorem start_fit (code : List UInt8) : (S.start code).fit 0 := ⟨Nat.le_refl _, by show code.length % 1000 < _; omega⟩
/-! ### The frame: of what was there the block b alone may turn -/
structure Fr (b : Nat) (w w' : World) : Prop where
  os : w'.os = w.os
  tape : w'.tape = w.tape
  output : w'.output = w.output
  size : w.heap.size ≤ w'.heap.size
  block : ∀ k, k < w.heap.size → k ≠ b → w'.heap[k]? = w.heap[k]?
theorem Fr.refl (b : Nat) (w : World) : Fr b w w := ⟨rfl, rfl, rfl, Nat.le_refl _, fun _ _ _ => rfl⟩
theorem Fr.trans {b : Nat} {w w1 w2 : World} (h : Fr b w w1) (h2 : Fr b w1 w2) : Fr b w w2 :=
  ⟨h2.os.trans h.os, h2.tape.trans h.tape, h2.output.trans h.output, Nat.le_trans h.size h2.size, fun k hk hb => (h2.block k (by have := h.size; omega) hb).trans (h.block k hk hb)⟩
theorem Fr.alloc {b : Nat} {w w1 : World} (h : Fr b w w1) (o : Obj) : Fr b w (w1.alloc o) :=
  h.trans ⟨rfl, rfl, rfl, by simp, fun k hk _ => Lib.alloc_old w1 _ k hk⟩
theorem Fr.drew {b : Nat} {w w1 : World} (h : Fr b w w1) : Fr b w w1.drew := ⟨h.os, h.tape, h.output, h.size, h.block⟩
theorem Fr.set {b : Nat} {w w1 : World} (h : Fr b w w1) (o : Nat) (v : Value) : Fr b w (w1.setCell ⟨b, o, none⟩ v) :=
  h.trans ⟨rfl, rfl, rfl, by simp [World.setCell], fun k _ hb => Below.heap_setCell _ _ _ _ (fun e => hb (by simpa using e))⟩
theorem Fr.below {b B : Nat} {w w' : World} (h : Fr b w w') (hB : B ≤ b) (hw : B ≤ w.heap.size) : Below B w w' :=
  ⟨h.os, h.tape, h.output, h.size, fun k hk => h.block k (by omega) (by omega)⟩
end Go.Proofs.YtbkikbhnehjaaaaGreatDoor.Dr
namespace Go.Proofs.YtbkikbhnehjaaaaGreatDoor.Dr
open Go.RowKit
/-- the slice c holds the bytes of code, outside the block b -/
def CodeIs (w : World) (b : Nat) (c : Value) (code : List UInt8) : Prop :=
  ∃ (a : Option Addr) (cap : Nat), c = .slice a code.length cap ∧ (code.length = 0 ∨ ∃ g off, a = some ⟨g, off, none⟩ ∧ g ≠ b ∧ g < w.heap.size ∧ ∀ j, j < code.length → w.cell? ⟨g, off + j, none⟩ = some (.int .u8 (code.getD j 0).toNat))
structure SrcAt (w : World) (b : Nat) (c : Value) (s : S) : Prop where
  blk : w.heap[b]? = some (.cells #[c, .int .i64 s.pos, .int .i64 s.seed] 213 (0, 0))
  code : CodeIs w b c s.code
theorem SrcAt.lt {w : World} {b : Nat} {c : Value} {s : S} (h : SrcAt w b c s) : b < w.heap.size := by
  rcases Nat.lt_or_ge b w.heap.size with h' | h'
  · exact h'
  · have := h.blk; simp [Array.getElem?_eq_none h'] at this
theorem CodeIs.fr {w w' : World} {b : Nat} {c : Value} {code : List UInt8} (h : CodeIs w b c code) (hf : Fr b w w') : CodeIs w' b c code := by
  obtain ⟨a, cap, rfl, h⟩ := h
  refine ⟨a, cap, rfl, ?_⟩
  rcases h with h | ⟨g, off, rfl, hg, hlt, hc⟩
  · exact .inl h
  · refine .inr ⟨g, off, rfl, hg, by have := hf.size; omega, fun j hj => ?_⟩
    rw [World.cell?_of_block (w := w) (a := ⟨g, off + j, none⟩) (hf.block g hlt hg)]
    exact hc j hj
theorem SrcAt.alloc {w : World} {b : Nat} {c : Value} {s : S} (h : SrcAt w b c s) (o : Obj) : SrcAt (w.alloc o) b c s :=
  ⟨by rw [Lib.alloc_old w o b h.lt]; exact h.blk, h.code.fr ((Fr.refl b w).alloc o)⟩
theorem SrcAt.drew {w : World} {b : Nat} {c : Value} {s : S} (h : SrcAt w b c s) : SrcAt w.drew b c s := ⟨h.blk, h.code.fr ((Fr.refl b w).drew)⟩
theorem SrcAt.drewN {w : World} {b : Nat} {c : Value} {s : S} (h : SrcAt w b c s) (n : Nat) : SrcAt (w.drewN n) b c s := ⟨h.blk, h.code.fr ⟨rfl, rfl, rfl, Nat.le_refl _, fun _ _ _ => rfl⟩⟩
theorem heap_set {w : World} {b : Nat} {C : Array Value} {T : TypeId} {fr : Nat × Nat} (hb : w.heap[b]? = some (.cells C T fr)) (o : Nat) (v : Value) : (w.setCell ⟨b, o, none⟩ v).heap[b]? = some (.cells (C.setIfInBounds o v) T fr) := by
  simp [World.setCell, Array.getElem?_modify, hb]
theorem src_two {w : World} {b : Nat} {c : Value} {s s' : S} (h : SrcAt w b c s) (n : Nat) (p q : Int) (hp : p = s'.pos) (hq : q = s'.seed) (hc : s'.code = s.code) :
    SrcAt (((w.setCell ⟨b, 1, none⟩ (.int .i64 p)).drewN n).setCell ⟨b, 2, none⟩ (.int .i64 q)) b c s' ∧ Fr b w (((w.setCell ⟨b, 1, none⟩ (.int .i64 p)).drewN n).setCell ⟨b, 2, none⟩ (.int .i64 q)) := by
  subst hp hq
  have hf : Fr b w (((w.setCell ⟨b, 1, none⟩ (.int .i64 s'.pos)).drewN n).setCell ⟨b, 2, none⟩ (.int .i64 s'.seed)) := by
    have h1 := (Fr.refl b w).set 1 (.int .i64 s'.pos)
    have h2 : Fr b w ((w.setCell ⟨b, 1, none⟩ (.int .i64 s'.pos)).drewN n) := ⟨h1.os, h1.tape, h1.output, h1.size, h1.block⟩
    exact h2.set 2 _
  refine ⟨⟨?_, by rw [hc]; exact h.code.fr hf⟩, hf⟩
  have h1 := heap_set h.blk 1 (.int .i64 s'.pos)
  have h2 : ((w.setCell ⟨b, 1, none⟩ (.int .i64 s'.pos)).drewN n).heap[b]? = _ := h1
  have := heap_set h2 2 (.int .i64 s'.seed)
  simpa using this
theorem src_one {w : World} {b : Nat} {c : Value} {s s' : S} (h : SrcAt w b c s) (n : Nat) (p : Int) (hp : p = s'.pos) (hq : s'.seed = s.seed) (hc : s'.code = s.code) :
    SrcAt ((w.setCell ⟨b, 1, none⟩ (.int .i64 p)).drewN n) b c s' ∧ Fr b w ((w.setCell ⟨b, 1, none⟩ (.int .i64 p)).drewN n) := by
  subst hp
  have h1 := (Fr.refl b w).set 1 (.int .i64 s'.pos)
  have hf : Fr b w ((w.setCell ⟨b, 1, none⟩ (.int .i64 s'.pos)).drewN n) := ⟨h1.os, h1.tape, h1.output, h1.size, h1.block⟩
  refine ⟨⟨?_, by rw [hc]; exact h.code.fr hf⟩, hf⟩
  have := heap_set h.blk 1 (.int .i64 s'.pos)
  rw [hq]
  simpa using this
theorem ret_i {a b : Int} (h : a = b) : Ending.returned (.int .i64 a) = .returned (.int .i64 b) := by rw [h]
theorem fr_drewN {b : Nat} {w w1 : World} (h : Fr b w w1) (n : Nat) : Fr b w (w1.drewN n) := ⟨h.os, h.tape, h.output, h.size, h.block⟩
set_option maxRecDepth 100000 in
set_option maxHeartbeats 2000000 in
theorem byte_any (b : Nat) (c : Value) (s : S) (w : World) (h : SrcAt w b c s) (hf : s.fit 1000000) :
    Calls Tryz.prog 262 #[.pointer (some ⟨b, 0, none⟩)] w fun e w' => e = .returned (.int .i64 (byteV s)) ∧ SrcAt w' b c (byteS s) ∧ Fr b w w' := by
  have HS := Lib.hid h
  obtain ⟨hb, hc⟩ := h
  obtain ⟨a, cap, rfl, hcc⟩ := hc
  obtain ⟨hp, hs⟩ := hf
  have hcd := codeAt_lt s
  have c0 : w.cell? ⟨b, 0, none⟩ = some (.slice a s.code.length cap) := by simp [World.cell?, hb]
  have c1 : w.cell? ⟨b, 1, none⟩ = some (.int .i64 s.pos) := by simp [World.cell?, hb]
  have c2 : w.cell? ⟨b, 2, none⟩ = some (.int .i64 s.seed) := by simp [World.cell?, hb]
  have cf : ∀ o, w.frozen? ⟨b, o, none⟩ = false := fun o => by simp [World.frozen?, hb]
  by_cases h1 : s.pos + 1 ≤ s.code.length
  · obtain ⟨g, off, rfl, hgb, hglt, hcells⟩ := hcc.resolve_left (by omega)
    have hcg : w.cell? ⟨g, off + s.pos, none⟩ = some (.int .u8 (codeAt s)) := hcells s.pos (by omega)
    have EV : Hid (byteV s = codeAt s) := Lib.hid (by simp [byteV, h1])
    have ES : Hid (byteS s = ⟨s.code, s.pos + 1, (s.seed * 31 + codeAt s + 7) % 2147483648⟩) := Lib.hid (by simp [byteS, h1])
    clear hb hcc hcells
    have hbg : b ≠ g := fun e => hgb e.symm
    go_enter Tryz.func262, Tryz.ntmps262
    go_wp2
    go_quiet (fail)
    go_wp2
    go_region
    go_wp2
    go_quiet (fail)
    go_wp2
    go_ret
    obtain ⟨h3, h4⟩ := src_two (s' := byteS s) HS.out (_ + 1) (s.pos + 1 : Int) (((s.seed : Int) * 31 + (codeAt s : Int) + 7) % 2147483648) (by rw [ES.out]; rfl) (by rw [ES.out]; rfl) (by rw [ES.out])
    exact ⟨by rw [EV.out]; rfl, h3.drewN _, fr_drewN h4 _⟩
  · clear hb hcc
    by_cases h2 : 3000 < s.pos + 1
    · have EV : Hid (byteV s = 0) := Lib.hid (by simp [byteV, h1, h2])
      have ES : Hid (byteS s = ⟨s.code, s.pos + 1, s.seed⟩) := Lib.hid (by simp [byteS, h1, h2])
      go_enter Tryz.func262, Tryz.ntmps262
      go_wp2
      go_quiet (fail)
      go_wp2
      go_ret
      refine ⟨?_, src_one HS.out _ _ (by rw [ES.out]; rfl) (by rw [ES.out]) (by rw [ES.out])⟩
      rw [EV.out]; rfl
    · have EV : Hid (byteV s = (s.seed * 1103515245 + 12345) % 2147483648 / 65536 % 256) := Lib.hid (by simp [byteV, h1, h2])
      have ES : Hid (byteS s = ⟨s.code, s.pos + 1, (s.seed * 1103515245 + 12345) % 2147483648⟩) := Lib.hid (by simp [byteS, h1, h2])
      go_enter Tryz.func262, Tryz.ntmps262
      go_wp2
      go_quiet (fail)
      go_wp2
      go_ret
      refine ⟨?_, src_two HS.out _ _ _ (by rw [ES.out]; rfl) (by rw [ES.out]; rfl) (by rw [ES.out])⟩
      refine ret_i ?_
      have e1 : ∀ x : Nat, ((x / 65536 % 256 : Nat) : Int) = (x : Int) / 65536 % 256 := fun x => by omega
      have e2 : ((s.seed : Int) * 1103515245 + 12345) % 2147483648 = (((s.seed * 1103515245 + 12345) % 2147483648 : Nat) : Int) := by omega
      rw [EV.out, e1, ← e2]
theorem next_any (b : Nat) (c : Value) (s : S) (n : Nat) (w : World) (hn : n ≤ 256) (h : SrcAt w b c s) (hf : s.fit 1000000) :
    Calls Tryz.prog 184 #[.pointer (some ⟨b, 0, none⟩), .int .i64 (n : Int)] w fun e w' => e = .returned (.int .i64 (nextV s n)) ∧ SrcAt w' b c (nextS s n) ∧ Fr b w w' := by
  by_cases h1 : n ≤ 1
  · have e1 : nextV s n = 0 := by simp [nextV, h1]
    have e2 : nextS s n = s := by simp [nextS, h1]
    rw [e1, e2]
    clear e1 e2
    go_enter Tryz.func184, Tryz.ntmps184
    go_wp2
    go_ret
    exact ⟨rfl, h, Fr.refl _ _⟩
  · have EV : Hid (nextV s n = byteV s % n) := Lib.hid (by simp [nextV, h1])
    have ES : Hid (nextS s n = byteS s) := Lib.hid (by simp [nextS, h1])
    have HB := Lib.hid (byte_any b c s w h hf)
    have hv := byteV_lt s
    clear h
    generalize byteV s = v at *
    have d1 : decide ((n : Int) ≤ 1) = false := by simp; omega
    go_enter Tryz.func184, Tryz.ntmps184
    go_wp2_with fail
    refine HB.out.mono ?_
    rintro e w1 ⟨rfl, h2, h3⟩
    go_wp2
    go_ret
    exact ⟨by rw [EV.out]; exact ret_i (by omega), by rw [ES.out]; exact h2, h3⟩
theorem chance_any (b : Nat) (c : Value) (s : S) (n : Nat) (w : World) (hn : n ≤ 256) (h : SrcAt w b c s) (hf : s.fit 1000000) :
    Calls Tryz.prog 267 #[.pointer (some ⟨b, 0, none⟩), .int .i64 (n : Int)] w fun e w' => e = .returned (.bool (chanceB s n)) ∧ SrcAt w' b c (nextS s n) ∧ Fr b w w' := by
  have HB := Lib.hid (next_any b c s n w hn h hf)
  have EC : Hid (chanceB s n = decide (nextV s n + 1 = n)) := Lib.hid rfl
  have hv : nextV s n ≤ 256 := by
    by_cases h1 : 1 ≤ n
    · have := nextV_lt s n h1; omega
    · have : n ≤ 1 := by omega
      simp [nextV, this]
  clear h
  generalize nextV s n = v at *
  go_enter Tryz.func267, Tryz.ntmps267
  go_wp2_with fail
  refine HB.out.mono ?_
  rintro e w1 ⟨rfl, h2, h3⟩
  go_wp2
  go_ret
  refine ⟨?_, h2, h3⟩
  rw [EC.out]
  refine congrArg (fun x => Ending.returned (.bool x)) ?_
  rw [Bool.eq_iff_iff]; simp; omega
/-- a list of texts in a block of its own -/
def TextsAt (w : World) (g : Nat) (ts : List (List UInt8)) : Prop := ∀ j, j < ts.length → w.cell? ⟨g, j, none⟩ = some (.string ⟨(ts.getD j []).toArray⟩)
theorem texts_new (w : World) (ts : List (List UInt8)) (T : TypeId) : TextsAt (w.alloc (.cells (ts.map fun t => Value.string ⟨t.toArray⟩).toArray T)) w.heap.size ts := by
  intro j hj
  rw [World.cell?_alloc_at _ _ _ _ rfl]
  simp [hj, List.getD]
theorem pick_any (b g cap : Nat) (c : Value) (s : S) (ts : List (List UInt8)) (w : World) (hn : ts.length ≤ 256) (hn1 : 1 ≤ ts.length) (hg : g ≠ b) (hgl : g < w.heap.size) (ht : TextsAt w g ts) (h : SrcAt w b c s) (hf : s.fit 1000000) :
    Calls Tryz.prog 199 #[.pointer (some ⟨b, 0, none⟩), .slice (some ⟨g, 0, none⟩) ts.length cap] w fun e w' => e = .returned (.string ⟨(pickL s ts).toArray⟩) ∧ SrcAt w' b c (nextS s ts.length) ∧ Fr b w w' := by
  have HB := Lib.hid (next_any b c s ts.length w hn h hf)
  have hv := nextV_lt s ts.length hn1
  have EP : Hid (pickL s ts = ts.getD (nextV s ts.length) []) := Lib.hid rfl
  clear h
  generalize nextV s ts.length = v at *
  have HT := Lib.hid (ht v hv)
  clear ht
  generalize ts.getD v [] = t at *
  have d1 : ((ts.length : Int) == 0) = false := beq_eq_false_iff_ne.2 (by omega)
  go_enter Tryz.func199, Tryz.ntmps199
  go_wp2_with fail
  refine HB.out.mono ?_
  rintro e w1 ⟨rfl, h2, h3⟩
  have hc : w1.cell? ⟨g, v, none⟩ = some (.string ⟨t.toArray⟩) := (World.cell?_of_block (w := w) (a := ⟨g, v, none⟩) (h3.block g hgl hg)).trans HT.out
  go_wp2
  go_ret
  exact ⟨by rw [EP.out]; rfl, h2, h3⟩
end Go.Proofs.YtbkikbhnehjaaaaGreatDoor.Dr
namespace Go.Proofs.YtbkikbhnehjaaaaGreatDoor.Dr
open Go.RowKit
open Go.ChangeShapes Go.WideShapes Go.ChangeAt
def CodeIn (w : World) (c : Value) (code : List UInt8) : Prop :=
  ∃ (a : Option Addr) (cap : Nat), c = .slice a code.length cap ∧ (code.length = 0 ∨ ∃ g off, a = some ⟨g, off, none⟩ ∧ g < w.heap.size ∧ ∀ j, j < code.length → w.cell? ⟨g, off + j, none⟩ = some (.int .u8 (code.getD j 0).toNat))
theorem CodeIn.below {w w' : World} {c : Value} {code : List UInt8} (h : CodeIn w c code) (hb : Below w.heap.size w w') : CodeIn w' c code := by
  obtain ⟨a, cap, rfl, h⟩ := h
  refine ⟨a, cap, rfl, ?_⟩
  rcases h with h | ⟨g, off, rfl, hlt, hc⟩
  · exact .inl h
  · exact .inr ⟨g, off, rfl, by have := hb.size; omega, fun j hj => (hb.cell (p := ⟨g, off + j, none⟩) hlt).trans (hc j hj)⟩
theorem source_any (c : Value) (code : List UInt8) (w : World) (h : CodeIn w c code) (hl : code.length ≤ 9223372036854775807) :
    Calls Tryz.prog 99 #[c] w fun e w' => e = .returned (.pointer (some ⟨w.heap.size, 0, none⟩)) ∧ SrcAt w' w.heap.size c (S.start code) ∧ Below w.heap.size w w' ∧ w'.heap.size = w.heap.size + 1 := by
  obtain ⟨a, cap, rfl, hc⟩ := h
  go_enter Tryz.func99, Tryz.ntmps99
  go_wp2
  go_ret
  refine ⟨rfl, ⟨?_, a, cap, rfl, ?_⟩, (Below.refl _ _).alloc (Nat.le_refl _) _, by simp⟩
  · show (w.heap.push _)[w.heap.size]? = _
    simp [S.start]
  · rcases hc with hc | ⟨g, off, rfl, hlt, hc⟩
    · exact .inl hc
    · refine .inr ⟨g, off, rfl, by omega, by simp; omega, fun j hj => ?_⟩
      rw [World.cell?_alloc_past _ _ _ hlt]
      exact hc j hj
theorem pick_len (s : S) (ts : List (List UInt8)) (n : Nat) (h : (ts.all fun t => decide (t.length ≤ n)) = true) : (pickL s ts).length ≤ n := by
  unfold pickL
  rw [List.getD_eq_getElem?_getD]
  cases hg : ts[nextV s ts.length]? with
  | none => simp
  | some t =>
    have := List.mem_of_getElem? hg
    have := List.all_eq_true.1 h t this
    simpa using this
set_option maxRecDepth 100000 in
theorem open_bytes {H : Type} {enc : TypeId × Value → H} {W : World} {r : Reach} {b0 : Nat} {v : Value} {d : DataW H} {p : List MemPlace} (hv : Value.okWide Tryz.prog W r b0 65 v) (h : DataW.Trod enc Tryz.prog W 0 (fun _ => true) true 65 v d p) :
    ∃ (a : Option Addr) (code : List UInt8) (cap : Nat), v = .slice a code.length cap ∧ code.length ≤ maxLen ∧ CodeIn W v code := by
  obtain ⟨a0, len, cap, rfl⟩ := okWide_slice Tryz.underlying65 hv
  obtain ⟨fuel, hf⟩ := h
  rcases open_ints Tryz.underlying65 Tryz.underlying5 (by kernel_rfl) hf with ⟨hcs, _⟩ | ⟨a, len', cap', zs, hcs, _, hl, hm, hz, _, hcell, hwf⟩
  · simp [Value.cells] at hcs
    obtain ⟨rfl, rfl, rfl⟩ := hcs
    exact ⟨none, [], 0, rfl, by simp [maxLen], none, 0, rfl, .inl rfl⟩
  · simp [Value.cells] at hcs
    obtain ⟨rfl, rfl, rfl⟩ := hcs
    simp only [if_true] at hz
    have hlen : ((zs.take len).map (fun z => UInt8.ofNat z.toNat)).length = len := by simp; omega
    refine ⟨some a, (zs.take len).map (fun z => UInt8.ofNat z.toNat), cap, by rw [hlen], by rw [hlen]; omega, some a, cap, by rw [hlen], ?_⟩
    by_cases h0 : len = 0
    · exact .inl (by rw [hlen]; exact h0)
    · refine .inr ?_
      have c0 := hcell 0 (by omega)
      obtain ⟨b, off, spot⟩ := a
      have hspot : spot = none := by simpa [Addr.add] using World.cell?_spot c0
      subst hspot
      refine ⟨b, off, rfl, by have := World.block_lt_of_cell? _ _ c0; simpa [add_plain] using this, fun j hj => ?_⟩
      rw [hlen] at hj
      have cj := hcell j (by omega)
      rw [add_plain] at cj
      rw [cj]
      have hjz : j < zs.length := by omega
      have hw := hwf zs[j] (List.getElem_mem hjz)
      simp only [Lit.wf, Bool.and_eq_true, decide_eq_true_eq] at hw
      rw [show IntKind.u8.min = 0 from rfl, show IntKind.u8.max = 255 from rfl] at hw
      have e1 : zs.getD j 0 = zs[j] := by simp [List.getD, hjz]
      have e2 : (((zs.take len).map (fun z => UInt8.ofNat z.toNat)).getD j 0).toNat = zs[j].toNat := by
        have hjt : j < (zs.take len).length := by simp; omega
        simp only [List.getD_eq_getElem?_getD, List.getElem?_map, List.getElem?_take, hj, if_true, List.getElem?_eq_getElem hjz, Option.map_some, Option.getD_some]
        simp
        omega
      rw [e1, e2]
      congr 2
      omega
@[local go_sem] theorem bappL (a b : List UInt8) : (⟨a.toArray⟩ : ByteArray) ++ ⟨b.toArray⟩ = ⟨(a ++ b).toArray⟩ := by
  apply ByteArray.ext; simp
def pols : List (List UInt8) := [[100, 101, 102, 97, 117, 108, 116, 45, 115, 114, 99, 32, 39, 115, 101, 108, 102, 39], [115, 99, 114, 105, 112, 116, 45, 115, 114, 99, 32, 120, 32, 121], [114, 101, 112, 111, 114, 116, 45, 116, 111, 32, 99, 115, 112], [114, 101, 112, 111, 114, 116, 45, 116, 111], [114, 101, 112, 111, 114, 116, 45, 116, 111, 32, 97, 32, 98], [82, 69, 80, 79, 82, 84, 45, 85, 82, 73, 32, 104, 116, 116, 112, 115, 58, 47, 47, 117, 46, 116, 101, 115, 116, 47, 114], [114, 101, 112, 111, 114, 116, 45, 117, 114, 105, 32, 104, 116, 116, 112, 115, 58, 47, 47, 117, 46, 116, 101, 115, 116, 47, 114, 32, 104, 116, 116, 112, 58, 47, 47, 118, 47, 32, 100, 97, 116, 97, 58, 120, 32, 104, 116, 116, 112, 115, 58, 47, 47, 117, 46, 116, 101, 115, 116, 47, 114, 35, 102], [105, 109, 103, 45, 115, 114, 99, 32, 42], [114, 101, 112, 111, 114, 116, 45, 116, 111, 32, 49], [32], [49, 97, 32, 98], [114, 101, 112, 111, 114, 116, 45, 117, 114, 105]]
def seps : List (List UInt8) := [[59], [59, 32], [32, 59, 9], [59, 59]]
set_option maxRecDepth 100000 in
set_option maxHeartbeats 2000000 in
theorem policyLine_any (b : Nat) (c : Value) (s : S) (w : World) (h : SrcAt w b c s) (hf : s.fit 0) :
    Calls Tryz.prog 109 #[.pointer (some ⟨b, 0, none⟩)] w fun e w' => ∃ t : List UInt8, e = .returned (.string ⟨t.toArray⟩) ∧ t.length ≤ 1000 ∧ Fr b w w' := by
  go_enter Tryz.func109, Tryz.ntmps109
  go_wp2_with fail
  refine (next_any b c s 5 w (by decide) h (hf.le (by omega))).mono ?_
  rintro e w1 ⟨rfl, h1, f1⟩
  have hn := nextV_lt s 5 (by decide)
  have hf1 := hf.next 5
  generalize nextV s 5 = m at *
  generalize nextS s 5 = s1 at *
  have H1 := Lib.hid h1
  have F1 := Lib.hid f1
  have HF1 := Lib.hid hf1
  clear h1 f1 hf1
  go_wp2_with fail
  go_loopw [3, 4] (fun tv i wr => ∃ (k : Nat) (t : List UInt8) (s' : S), k ≤ 4 ∧ i = .int .i64 k ∧ tv = .string ⟨t.toArray⟩ ∧ t.length ≤ (4 - k) * 100 ∧ s'.fit (100 - 10 * k) ∧ SrcAt wr b c s' ∧ Fr b w wr) (fun _ i _ => (intOf i).toNat)
  case atStart => exact ⟨m, [], s1, by omega, rfl, rfl, by simp, HF1.out.le (by omega), H1.out, F1.out⟩
  case round =>
    obtain ⟨k, t, s2, hk, rfl, rfl, ht, hf2, h2, f2⟩ := hrel
    by_cases h0 : 0 < k
    · have d0 : decide ((0 : Int) < (k : Int)) = true := by simp; omega
      have HT := texts_new wr pols 9
      have hlt := h2.lt
      have hb0 := h2.alloc (.cells (pols.map fun t => Value.string ⟨t.toArray⟩).toArray 9)
      have hpl := pick_len s2 pols 70 (by decide)
      have hfa := hf2.next pols.length
      go_wp2_with fail
      refine (pick_any b wr.heap.size 12 c s2 pols _ (by decide) (by decide) (by omega) (by simp) HT hb0 (hf2.le (by omega))).mono ?_
      rintro e w3 ⟨rfl, h3, f3⟩
      have f3 := (f2.alloc (.cells (pols.map fun t => Value.string ⟨t.toArray⟩).toArray 9)).trans f3
      generalize pickL s2 pols = p1 at *
      generalize nextS s2 pols.length = s3 at *
      clear HT hb0 hlt h2 f2 hf2
      have HT := texts_new w3 seps 9
      have hlt := h3.lt
      have hb0 := h3.alloc (.cells (seps.map fun t => Value.string ⟨t.toArray⟩).toArray 9)
      have hpl2 := pick_len s3 seps 3 (by decide)
      have hfb := hfa.next seps.length
      go_wp2_with fail
      refine (pick_any b w3.heap.size 4 c s3 seps _ (by decide) (by decide) (by omega) (by simp) HT hb0 (hfa.le (by omega))).mono ?_
      rintro e w4 ⟨rfl, h4, f4⟩
      have f4 := (f3.alloc (.cells (seps.map fun t => Value.string ⟨t.toArray⟩).toArray 9)).trans f4
      generalize pickL s3 seps = p2 at *
      generalize nextS s3 seps.length = s4 at *
      have H4 := Lib.hid h4
      have F4 := Lib.hid f4
      have HF4 := Lib.hid (hfb.le (show 100 - 10 * k + 1 + 1 ≤ 100 - 10 * (k - 1) by omega))
      have HL := Lib.hid (show (t ++ (p1 ++ p2)).length ≤ (4 - (k - 1)) * 100 by simp; omega)
      clear HT hb0 hlt h3 f3 hfa hfb h4 f4
      go_wp2
      go_roundw
      case rel => exact ⟨k - 1, t ++ (p1 ++ p2), s4, by omega, by go_num, rfl, HL.out, HF4.out, H4.out, F4.out⟩
      case measure => simp [intOf]; omega
    · have d0 : decide ((0 : Int) < (k : Int)) = false := by simp; omega
      go_wp2
      go_ret
      exact ⟨_, rfl, by omega, f2⟩
set_option maxRecDepth 100000 in
theorem line_any (c : Value) (code : List UInt8) (w : World) (h : CodeIn w c code) (hl : code.length ≤ 9223372036854775807) :
    Calls Tryz.prog 41 #[c] w fun e w' => ∃ t : List UInt8, e = .returned (.string ⟨t.toArray⟩) ∧ t.length ≤ 1000 ∧ Below w.heap.size w w' := by
  have HS := Lib.hid (source_any c code w h hl)
  have HU := Lib.hid (fun W h => policyLine_any w.heap.size c (S.start code) W h (start_fit code))
  obtain ⟨a, cap, rfl, _⟩ := h
  go_enter Tryz.func41, Tryz.ntmps41
  go_wp2_with fail
  refine HS.out.mono ?_
  rintro e w1 ⟨rfl, h1, b1, z1⟩
  go_wp2_with fail
  refine (HU.out _ h1).mono ?_
  rintro e w2 ⟨t, rfl, ht, f2⟩
  go_wp2
  go_ret
  exact ⟨t, rfl, ht, b1.trans (f2.below (Nat.le_refl _) (by omega))⟩
theorem CodeIn.text {w : World} {a : Option Addr} {n cap : Nat} {code : List UInt8} (h : CodeIn w (.slice a n cap) code) (k cap' : Nat) (hk : k ≤ code.length) :
    (convert 65 9 (.slice a k cap')).run Tryz.prog w = .ok (.string ⟨(code.take k).toArray⟩) w := by
  obtain ⟨a', cap2, e, h⟩ := h
  obtain ⟨rfl, _, _⟩ := by simpa using e
  have hlen : (code.take k).length = k := by simp; omega
  rcases h with h | ⟨g, off, rfl, hlt, hc⟩
  · obtain rfl : k = 0 := by omega
    cases a with
    | none => exact run_convert_bytes_nil (P := Tryz.prog) w 65 5 Tryz.underlying65 Tryz.underlying5 0 cap' 9 Tryz.underlying9
    | some a => exact run_convert_bytes_back (P := Tryz.prog) w 65 9 5 a cap' [] Tryz.underlying65 Tryz.underlying5 Tryz.underlying9 (fun j hj => by simp at hj)
  · have := run_convert_bytes_back (P := Tryz.prog) w 65 9 5 ⟨g, off, none⟩ cap' (code.take k) Tryz.underlying65 Tryz.underlying5 Tryz.underlying9 (fun j hj => by
      have hj2 : j < code.length := by simp at hj; omega
      have e : (⟨g, off, none⟩ : Addr).add j = ⟨g, off + j, none⟩ := by unfold Addr.add; split <;> simp_all
      rw [e, hc j hj2]
      simp [List.getD, hj2])
    rwa [hlen] at this
set_option maxRecDepth 100000 in
theorem open_bytes2 {H : Type} {enc : TypeId × Value → H} {W : World} {r : Reach} {b0 : Nat} {v : Value} {d : DataW H} {p : List MemPlace} (hv : Value.okWide Tryz.prog W r b0 65 v) (h : DataW.Trod enc Tryz.prog W 0 (fun _ => true) true 65 v d p) :
    ∃ (a : Option Addr) (code : List UInt8) (cap : Nat), v = .slice a code.length cap ∧ code.length ≤ maxLen ∧ CodeIn W v code ∧ code.length ≤ cap := by
  obtain ⟨a, code, cap, e, y, k⟩ := open_bytes hv h
  refine ⟨a, code, cap, e, y, k, ?_⟩
  subst e
  obtain ⟨fuel, hf⟩ := h
  rcases open_ints Tryz.underlying65 Tryz.underlying5 (by kernel_rfl) hf with ⟨hcs, _⟩ | ⟨a', len', cap', zs, hcs, _, hl, _⟩
  · simp [Value.cells] at hcs
    simp [hcs]
  · simp [Value.cells] at hcs
    obtain ⟨_, h2, h3⟩ := hcs
    omega
theorem TextsAt.below {w w' : World} {g : Nat} {ts : List (List UInt8)} (h : TextsAt w g ts) (hb : Below w.heap.size w w') (hlt : g < w.heap.size) : TextsAt w' g ts := fun j hj => (hb.cell (p := ⟨g, j, none⟩) hlt).trans (h j hj)
theorem TextsAt.alloc {w : World} {g : Nat} {ts : List (List UInt8)} (h : TextsAt w g ts) (o : Obj) (hlt : g < w.heap.size) : TextsAt (w.alloc o) g ts := fun j hj => (World.cell?_alloc_past _ _ _ hlt).trans (h j hj)
end Go.Proofs.YtbkikbhnehjaaaaGreatDoor.Dr
namespace Go.Proofs.YtbkikbhnehjaaaaGreatDoor.Tx
open Go.RowKit
set_option maxHeartbeats 1000000 in
theorem sameL_any (S1 S2 : Nat → Prop) (ns ms : List (List UInt8)) (v u : Value) (w : World) (h1 : TxtsIn S1 w v ns) (h2 : TxtsIn S2 w u ms) :
    Calls Tryz.prog 44 #[v, u] w fun e w' => e = .returned (.bool (ns == ms)) ∧ ∃ n, w' = w.drewN n := by
  obtain ⟨a, cap, b, off, rfl, hcap, hm, hlen, ha, hc⟩ := h1
  obtain ⟨a', cap', b', off', rfl, hcap', hm', hlen', ha', hc'⟩ := h2
  have hn : ns.length ≤ 9223372036854775807 := by omega
  have hn' : ms.length ≤ 9223372036854775807 := by omega
  have HC := Lib.hid hc
  have HA := Lib.hid ha
  have HC' := Lib.hid hc'
  have HA' := Lib.hid ha'
  clear hc ha hc' ha' hlen hlen'
  by_cases hl : ns.length = ms.length
  · have HL := Lib.hid hl
    have g1 : ((ns.length : Int) != (ms.length : Int)) = false := by simp [hl]
    clear hl
    go_enter Tryz.func44, Tryz.ntmps44
    go_wp2
    go_loopw [5] (fun i wr => ∃ k n : Nat, k ≤ ns.length ∧ i = .int .i64 k ∧ (ns == ms) = (ns.drop k == ms.drop k) ∧ wr = w.drewN n) (fun i _ => ns.length - (intOf i).toNat)
    case atStart => exact ⟨0, 0, by omega, rfl, rfl, rfl⟩
    case round =>
      obtain ⟨k, n, hk, rfl, hE, rfl⟩ := hrel
      have HE := Lib.hid hE
      clear hE
      by_cases hlt : k < ns.length
      · have hlt' : k < ms.length := by have := HL.out; omega
        obtain ⟨ea, _⟩ := HA.out (by omega)
        obtain ⟨ea', _⟩ := HA'.out (by omega)
        subst ea ea'
        have q0 := HC.out k hlt
        have q1 := HC'.out k hlt'
        have D := Lib.hid (eqT_drop k hlt hlt')
        generalize ns.getD k [] = t at *
        generalize ms.getD k [] = t' at *
        by_cases ht : t = t'
        · subst ht
          have e1 : (t == t) = true := by simp
          have D2 := Lib.hid (D.out.trans (by rw [e1, Bool.true_and]))
          go_wp2
          go_quiet (fail)
          go_wp2
          go_roundw
          case rel => exact ⟨k + 1, n + nq, by omega, by go_num, by rw [HE.out, D2.out], by first | rfl | exact World.drewN_drewN _ _ _⟩
          case measure => simp [intOf]; omega
        · have e1 : (t == t') = false := by simpa using ht
          have D2 := Lib.hid (D.out.trans (by rw [e1, Bool.false_and]))
          go_wp2
          go_quiet (fail)
          go_wp2
          go_ret
          exact ⟨ret_b (by rw [HE.out, D2.out]), n + nq, World.drewN_drewN _ _ _⟩
      · go_wp2
        go_ret
        obtain rfl : k = ns.length := by omega
        exact ⟨ret_b (by rw [HE.out, List.drop_length, HL.out, List.drop_length]; rfl), n, rfl⟩
  · have E := Lib.hid (eqT_len hl)
    have g1 : ((ns.length : Int) != (ms.length : Int)) = true := by simp only [bne_iff_ne, ne_eq]; omega
    clear hl
    go_enter Tryz.func44, Tryz.ntmps44
    go_wp2
    go_ret
    exact ⟨ret_b E.out.symm, 0, rfl⟩
end Go.Proofs.YtbkikbhnehjaaaaGreatDoor.Tx
namespace Go.Proofs.YtbkikbhnehjaaaaGreatDoor.Pl
open Go.RowKit
open Go.Proofs.YtbkikbhnehjaaaaGreatDoor.Po
open Go.Proofs.YtbkikbhnehjaaaaGreatDoor.Rp
open Go.Proofs.YtbkikbhnehjaaaaGreatDoor.Cl (cleanC cleanL nofrag nofrag_ok PC_okG)
open Go.Proofs.YtbkikbhnehjaaaaGreatDoor.Ul (lowL lowC upB PU PC textL okB webB PU_back)
open Go.Proofs.YtbkikbhnehjaaaaGreatDoor.Aw (nowB wordB)
open Go.Proofs.YtbkikbhnehjaaaaGreatDoor.Ug (Tg Gp tsK tsK_len ugG ugC)
open Go.Proofs.YtbkikbhnehjaaaaGreatDoor.Ow (LimR getD_mem getT_mem)
/-! ### OK -/
theorem make_ok (rs : List Rl) (hf : fewB rs = true) (hd : rlsB [] rs = true) : plB (makeP rs) = true := by
  unfold fewB at hf
  simp only [Bool.and_eq_true] at hf
  have hr : (makeP rs).rules = rs := rfl
  unfold plB
  rw [hr, hd, hf.1]
  simp
theorem words_mem (n : List UInt8) : ∀ (rs : List Rl) (w : List UInt8), w ∈ wordsOf n rs → ∃ r ∈ rs, w ∈ r.words
  | [], w, h => by simp [wordsOf] at h
  | x :: r, w, h => by
    unfold wordsOf at h
    split at h
    · exact ⟨x, by simp, h⟩
    · obtain ⟨y, hy, hw⟩ := words_mem n r w h
      exact ⟨y, by simp [hy], hw⟩
theorem small_rp (t : List UInt8) (hn : t.length ≤ 9223372036854775807) : Small (rpP t) := by
  have sm := sm_rp t hn
  have hrep : (rpP t).rep.length ≤ 65537 := by
    by_cases hl : 65536 < t.length
    · rw [(rp_long hl).1]; simp
    · cases hf : fewB (readRs t) with
      | false => rw [(rp_many hl hf).1]; simp
      | true =>
        have hlm := sm.lim
        rw [(rp_good hl hf).1] at hlm ⊢
        show (firstN (wordsOf rtoL (readRs t))).length ≤ 65537
        cases hw : wordsOf rtoL (readRs t) with
        | nil => simp [firstN]
        | cons w ws =>
          obtain ⟨r, hr, hm⟩ := words_mem rtoL (readRs t) w (by rw [hw]; simp)
          have := (hlm r hr).2.2 w hm
          show (if Nm.nameB ⟨w.toArray⟩ then w else []).length ≤ 65537
          split
          · exact this
          · simp
  refine ⟨by omega, by have := sm.uris; omega, fun i hi => by have := sm.uri _ (getT_mem _ i hi); omega, by have := sm.rules; omega, fun i hi => by have := (sm.lim _ (getD_mem _ i hi)).1; omega, fun i hi => ?_⟩
  obtain ⟨-, h2, h3⟩ := sm.lim _ (getD_mem _ i hi)
  exact ⟨by omega, fun j hj => by have := h3 _ (getT_mem _ j hj); omega⟩
/-! ### Read back -/
def wF : List (List UInt8) → List UInt8
  | [] => []
  | w :: t => 32 :: (w ++ wF t)
theorem wF_snoc : ∀ (a : List (List UInt8)) (w : List UInt8), wF (a ++ [w]) = wF a ++ 32 :: w
  | [], w => by simp [wF]
  | x :: t, w => by simp [wF, wF_snoc t w]
theorem wK_as (ws : List (List UInt8)) : ∀ j, j ≤ ws.length → wK ws j = wF (ws.take j)
  | 0, _ => rfl
  | j + 1, h => by
    have hj : j < ws.length := h
    have e : ws.take (j + 1) = ws.take j ++ [ws.getD j []] := by rw [List.take_add_one]; simp [hj]
    rw [e, wF_snoc, wK, wK_as ws j (by omega)]
def ruT (r : Rl) : List UInt8 := r.name ++ wF r.words
def tG : List Rl → List UInt8
  | [] => []
  | r :: t => ruT r ++ t.flatMap fun r => 59 :: 32 :: ruT r
theorem tG_snoc (a : List Rl) (x : Rl) : tG (a ++ [x]) = if a.isEmpty then ruT x else tG a ++ 59 :: 32 :: ruT x := by
  cases a with
  | nil => simp [tG]
  | cons r t => simp [tG]
theorem tK_as (xs : List Rl) : ∀ k, k ≤ xs.length → tK xs k = tG (xs.take k)
  | 0, _ => rfl
  | k + 1, h => by
    have hk : k < xs.length := h
    have e : xs.take (k + 1) = xs.take k ++ [xs.getD k default] := by rw [List.take_add_one]; simp [hk]
    have hw := wK_as (xs.getD k default).words _ (Nat.le_refl _)
    rw [List.take_length] at hw
    rw [e, tG_snoc, tK, tK_as xs k (by omega), hw]
    cases k with
    | zero => simp [sepK, ruT, tG]
    | succ k =>
      have hne : (xs.take (k + 1)).isEmpty = false := by
        cases xs with
        | nil => simp at h
        | cons _ _ => rfl
      rw [hne]
      simp [sepK, ruT]
theorem cut_pass (c : UInt8) : ∀ (m cur s : List UInt8), (∀ b ∈ m, b ≠ c) → cutA c cur (m ++ s) = cutA c (cur ++ m) s
  | [], cur, s, _ => by simp
  | b :: m, cur, s, h => by
    have h0 := h b (by simp)
    have ih := cut_pass c m (cur ++ [b]) s (fun x hx => h x (by simp [hx]))
    simp only [List.cons_append, cutA, if_neg h0, ih]
    simp
theorem cut_at (c : UInt8) (cur s : List UInt8) : cutA c cur (c :: s) = cur :: cutA c [] s := by simp [cutA]
/-- no byte of a rule's text ends a rule -/
def noEnd (r : Rl) : Prop := ∀ b ∈ ruT r, b ≠ 59
theorem cut_rules : ∀ (t : List Rl) (cur : List UInt8), (∀ r ∈ t, noEnd r) → cutA 59 cur (t.flatMap fun r => 59 :: 32 :: ruT r) = cur :: t.map fun r => 32 :: ruT r
  | [], cur, _ => by simp [cutA]
  | r :: t, cur, h => by
    have ih := cut_rules t (32 :: ruT r) (fun x hx => h x (by simp [hx]))
    have hp := cut_pass 59 (32 :: ruT r) [] (t.flatMap fun r => 59 :: 32 :: ruT r) (fun b hb => by
      rcases List.mem_cons.1 hb with rfl | hb
      · decide
      · exact h r (by simp) b hb)
    have e : (r :: t).flatMap (fun r => 59 :: 32 :: ruT r) = 59 :: ((32 :: ruT r) ++ t.flatMap fun r => 59 :: 32 :: ruT r) := by simp
    rw [e, cut_at, hp, List.nil_append, ih]
    rfl
theorem cut_tG (r : Rl) (t : List Rl) (h : ∀ x ∈ r :: t, noEnd x) : cutA 59 [] (tG (r :: t)) = ruT r :: t.map fun r => 32 :: ruT r := by
  have hp := cut_pass 59 (ruT r) [] (t.flatMap fun r => 59 :: 32 :: ruT r) (h r (by simp))
  show cutA 59 [] (ruT r ++ _) = _
  rw [hp, List.nil_append, cut_rules t _ (fun x hx => h x (by simp [hx]))]
/-! ### One rule's text -/
def plainN (b : UInt8) : Prop := lowC b = b ∧ blkB b = false ∧ b ≠ 59
theorem low_plain (b : UInt8) (h : lowB b = true ∨ b = 45) : plainN b := by
  rcases h with h | rfl
  · simp only [lowB, Bool.and_eq_true, decide_eq_true_eq] at h
    refine ⟨?_, ?_, ?_⟩
    · unfold lowC
      have : upB b = false := by simp [upB]; omega
      rw [this]; rfl
    · rw [← blk_byte]; simp [blkP]; omega
    · rintro rfl; revert h; decide
  · exact ⟨by decide, by decide, by decide⟩
theorem rnB_mem : ∀ (t : List UInt8) (k : Nat), rnB k t = true → ∀ b ∈ t, plainN b
  | [], _, _, b, hb => by simp at hb
  | x :: r, k, h, b, hb => by
    simp only [rnB, Bool.and_eq_true, Bool.or_eq_true, beq_iff_eq] at h
    rcases List.mem_cons.1 hb with rfl | hb
    · exact low_plain b (h.1.imp id And.left)
    · exact rnB_mem r (k + 1) h.2 b hb
theorem name_plain {t : List UInt8} (h : rnameB t = true) : t ≠ [] ∧ ∀ b ∈ t, plainN b := by
  simp only [rnameB, Bool.and_eq_true, decide_eq_true_eq] at h
  exact ⟨by rintro rfl; simp at h, rnB_mem t 0 h.2⟩
theorem word_plain {t : List UInt8} (h : wordB t = true) : t ≠ [] ∧ ∀ b ∈ t, blkB b = false ∧ b ≠ 59 := by
  simp only [wordB, Bool.and_eq_true, Bool.not_eq_true', List.any_eq_false] at h
  refine ⟨by rintro rfl; simp at h, fun b hb => ?_⟩
  have := h.1 b hb
  simp only [nowB, Bool.or_eq_true, beq_iff_eq, not_or] at this
  exact ⟨by simp [blkB, this.1.1, this.1.2], this.2⟩
theorem words_flat : ∀ (ws : List (List UInt8)) (cur : List UInt8), cur ≠ [] → (∀ w ∈ ws, wordB w = true) → wordsA cur (wF ws) = cur :: ws
  | [], cur, hc, _ => by
    have : cur.isEmpty = false := by cases cur <;> simp_all
    simp [wF, wordsA, this]
  | w :: t, cur, hc, h => by
    have he : cur.isEmpty = false := by cases cur <;> simp_all
    obtain ⟨hw, hb⟩ := word_plain (h w (by simp))
    have ih := words_flat t w hw (fun x hx => h x (by simp [hx]))
    have h32 : blkB 32 = true := by decide
    simp only [wF, wordsA, h32, if_true, he, Bool.false_eq_true, if_false]
    rw [wordsA_run w [] _ (fun b hx => (hb b hx).1), List.nil_append, ih]
theorem rule_words (r : Rl) (h : rlB r = true) : wordsA [] (ruT r) = r.name :: r.words := by
  simp only [rlB, Bool.and_eq_true, List.all_eq_true] at h
  obtain ⟨hn, hb⟩ := name_plain h.1.1
  unfold ruT
  rw [wordsA_run r.name [] _ (fun b hx => (hb b hx).2.1), List.nil_append, words_flat _ _ hn h.2]
theorem low_same (t : List UInt8) (h : ∀ b ∈ t, lowC b = b) : lowL t = t := by
  unfold lowL
  induction t with
  | nil => rfl
  | cons b r ih => rw [List.map_cons, h b (by simp), ih (fun x hx => h x (by simp [hx]))]
theorem rule_of (r : Rl) (h : rlB r = true) (s : List UInt8) (hs : s = ruT r ∨ s = 32 :: ruT r) : ruleOf s = some r := by
  have hw := rule_words r h
  simp only [rlB, Bool.and_eq_true] at h
  have hl := low_same r.name (fun b hb => ((name_plain h.1.1).2 b hb).1)
  have e : wordsA [] s = r.name :: r.words := by
    rcases hs with rfl | rfl
    · exact hw
    · have h32 : blkB 32 = true := by decide
      simp only [wordsA, h32, if_true, List.isEmpty_nil]
      exact hw
  unfold ruleOf
  rw [e]
  simp only [hl, h.1.1, if_true]
theorem no_end (r : Rl) (h : rlB r = true) : noEnd r := by
  simp only [rlB, Bool.and_eq_true, List.all_eq_true] at h
  obtain ⟨-, hb⟩ := name_plain h.1.1
  have hw : ∀ ws : List (List UInt8), (∀ w ∈ ws, wordB w = true) → ∀ b ∈ wF ws, b ≠ 59 := by
    intro ws
    induction ws with
    | nil => intro _ b hb; simp [wF] at hb
    | cons w t ih =>
      intro hh b hb
      simp only [wF, List.mem_cons, List.mem_append] at hb
      rcases hb with rfl | hb | hb
      · decide
      · exact ((word_plain (hh w (by simp))).2 b hb).2
      · exact ih (fun x hx => hh x (by simp [hx])) b hb
  intro b hx
  unfold ruT at hx
  rcases List.mem_append.1 hx with hx | hx
  · exact (hb b hx).2.2
  · exact hw _ h.2 b hx
theorem rls_all : ∀ (xs pre : List Rl), rlsB pre xs = true → ∀ r ∈ xs, rlB r = true
  | [], _, _, r, hr => by simp at hr
  | x :: t, pre, h, r, hr => by
    simp only [rlsB, Bool.and_eq_true] at h
    rcases List.mem_cons.1 hr with rfl | hr
    · exact h.1.1
    · exact rls_all t _ h.2 r hr
/-- the parts ps are read as the rules xs -/
theorem fold_rules : ∀ (xs : List Rl) (ps : List (List UInt8)) (pre : List Rl), rlsB pre xs = true → ps.length = xs.length → (∀ i, i < xs.length → ruleOf (ps.getD i []) = some (xs.getD i default)) → ps.foldl addR pre = pre ++ xs
  | [], [], pre, _, _, _ => by simp
  | [], _ :: _, _, _, h, _ => by simp at h
  | _ :: _, [], _, _, h, _ => by simp at h
  | x :: t, p :: ps, pre, h, hl, hr => by
    have h0 := hr 0 (by simp)
    simp only [List.getD_cons_zero] at h0
    simp only [rlsB, Bool.and_eq_true, Bool.not_eq_true'] at h
    have ih := fold_rules t ps (pre ++ [x]) h.2 (by simpa using hl) (fun i hi => by have := hr (i + 1) (by simpa using hi); simpa using this)
    rw [List.foldl_cons, addR_new h0 pre h.1.2, ih]
    simp
theorem read_tG (xs : List Rl) (h : rlsB [] xs = true) : readRs (tG xs) = xs := by
  have hall := rls_all xs [] h
  unfold readRs
  cases xs with
  | nil => decide
  | cons r t =>
    rw [cut_tG r t (fun x hx => no_end x (hall x hx))]
    have := fold_rules (r :: t) (ruT r :: t.map fun r => 32 :: ruT r) [] h (by simp) (fun i hi => by
      cases i with
      | zero => exact rule_of r (hall r (by simp)) _ (.inl rfl)
      | succ i =>
        have hi2 : i < t.length := by simpa using hi
        have e1 : ((ruT r :: t.map fun r => 32 :: ruT r).getD (i + 1) []) = 32 :: ruT (t.getD i default) := by simp [hi2]
        have e2 : (r :: t).getD (i + 1) default = t.getD i default := by simp
        rw [e1, e2]
        exact rule_of _ (hall _ (List.mem_cons_of_mem _ (getD_mem t i hi2))) _ (.inr rfl))
    rw [this]; rfl
/-! ### How long the text is -/
theorem wK_fit (ws : List (List UInt8)) (M : Nat) (h : ∀ w ∈ ws, w.length ≤ M) : ∀ j, j ≤ ws.length → (wK ws j).length ≤ j * (M + 1)
  | 0, _ => by simp [wK]
  | j + 1, hj => by
    have ih := wK_fit ws M h j (by omega)
    have hw := h _ (getT_mem ws j (by omega))
    simp only [wK, List.length_append, List.length_cons]
    rw [Nat.add_mul]
    omega
theorem tK_fit (xs : List Rl) (M : Nat) (h : ∀ r ∈ xs, r.name.length ≤ 24 ∧ r.words.length ≤ 8 ∧ ∀ w ∈ r.words, w.length ≤ M) : ∀ k, k ≤ xs.length → (tK xs k).length ≤ k * (26 + 8 * (M + 1))
  | 0, _ => by simp [tK]
  | k + 1, hk => by
    have ih := tK_fit xs M h k (by omega)
    obtain ⟨h1, h2, h3⟩ := h _ (getD_mem xs k (by omega))
    have hw := wK_fit _ M h3 _ (Nat.le_refl _)
    have hm := Nat.mul_le_mul_right (M + 1) h2
    have hs : (sepK k).length ≤ 2 := by unfold sepK; split <;> simp
    simp only [tK, List.length_append]
    rw [Nat.add_mul]
    omega
/-! ### The group of the policy's own -/
theorem clean_idem (t : List UInt8) (h : cleanC t = true) : cleanC (cleanL t) = true ∧ cleanL (cleanL t) = cleanL t := by
  have h2 := h
  unfold cleanC at h2
  simp only [Bool.and_eq_true, beq_iff_eq] at h2
  have hok := nofrag_ok _ (PC_okG t h2.1) h2.2
  have e : cleanL t = textL (nofrag (PU t)) := by unfold cleanL; rw [h]; rfl
  obtain ⟨b1, b2, -⟩ := PU_back _ hok
  have hw : webB (nofrag (PU t)).sch = true := h2.2
  have hc : cleanC (textL (nofrag (PU t))) = true := by unfold cleanC; rw [b1, b2, hw]; rfl
  rw [e]
  refine ⟨hc, ?_⟩
  unfold cleanL
  rw [hc, b1]
  rfl
/-- clean addresses, none twice -/
def okU (us : List (List UInt8)) : Prop := (∀ u ∈ us, cleanC u = true ∧ cleanL u = u) ∧ us.Nodup
theorem okU_add (us : List (List UInt8)) (t : List UInt8) (h : okU us) : okU (addU us t) := by
  unfold addU
  split
  · rename_i hc
    simp only [Bool.and_eq_true, Bool.not_eq_true'] at hc
    have hn : cleanL t ∉ us := by
      intro hm
      have : us.contains (cleanL t) = true := by simpa using hm
      rw [this] at hc
      simp at hc
    refine ⟨fun u hu => ?_, ?_⟩
    · rcases List.mem_append.1 hu with hu | hu
      · exact h.1 u hu
      · simp at hu; subst hu; exact clean_idem t hc.1.1
    · rw [List.nodup_append]
      refine ⟨h.2, by simp, fun a ha b hb => ?_⟩
      simp at hb
      subst hb
      intro e
      subst e
      exact hn ha
  · exact h
theorem okU_fold (ws : List (List UInt8)) : ∀ us, okU us → okU (ws.foldl addU us) := by
  induction ws with
  | nil => exact fun _ h => h
  | cons t r ih => exact fun us h => ih _ (okU_add us t h)
theorem tgs_all : ∀ (ts pre : List Tg), (∀ i, i < ts.length → Sg.tgB (ts.getD i default) = true ∧ Sg.hasU (pre ++ ts.take i) (ts.getD i default).url = false) → Sg.tgsB pre ts = true
  | [], _, _ => rfl
  | x :: t, pre, h => by
    have h0 := h 0 (by simp)
    simp only [List.getD_cons_zero, List.take_zero, List.append_nil] at h0
    have ih := tgs_all t (pre ++ [x]) (fun i hi => by
      have := h (i + 1) (by simpa using hi)
      simpa using this)
    simp [Sg.tgsB, h0.1, h0.2, ih]
theorem tsK_at (us : List (List UInt8)) (k i : Nat) (h : i < k) : (tsK us k).getD i default = ⟨us.getD i [], (i : Int) + 1, 1⟩ := by simp [tsK, h]
theorem group_ok (us : List (List UInt8)) (h : okU us) (h1 : 1 ≤ us.length) (h4 : us.length ≤ 4) : Sg.gpB ⟨uriL, 100, tsK us us.length⟩ = true := by
  have ht : Sg.tgsB [] (tsK us us.length) = true := tgs_all _ _ fun i hi => by
    rw [tsK_len] at hi
    rw [tsK_at us _ i hi]
    obtain ⟨c1, c2⟩ := h.1 _ (getT_mem us i hi)
    refine ⟨?_, ?_⟩
    · simp only [Sg.tgB, c1, c2, beq_self_eq_true, Bool.and_self, Bool.true_and, Sg.rk]
      simp
      omega
    · rw [List.nil_append]
      unfold Sg.hasU
      rw [List.any_eq_false]
      intro x hx
      simp only [beq_iff_eq]
      obtain ⟨j, hj, rfl⟩ := List.mem_iff_getElem.1 hx
      have hji : j < i := by simp at hj; omega
      intro e
      have hj2 : j < us.length := by omega
      have e2 : (((tsK us us.length).take i)[j]'hj).url = us[j] := by simp [tsK, hj2]
      rw [e2] at e
      simp only [List.getD_eq_getElem?_getD, List.getElem?_eq_getElem hi, Option.getD_some] at e
      have := (List.getElem_inj h.2).1 e
      omega
  have hn : Nm.nameB ⟨uriL.toArray⟩ = true := by decide
  unfold Sg.gpB
  simp only [hn, ht, tsK_len, Bool.and_true, Bool.true_and, Bool.and_eq_true, decide_eq_true_eq]
  omega
/-! ### All of it, of a line of at most 1000 bytes -/
structure Facts (t : List UInt8) (p : Pl) : Prop where
  ok : plB p = true
  small : Small p
  sm : Sm p
  text : ptT p = tK p.rules p.rules.length
  back : rpP (ptT p) = p
  code : rpC (ptT p) = 0
  fit : (ptT p).length ≤ 65536
  grp : ¬ p.uris.length = 0 → Sg.gpB ⟨uriL, 100, tsK p.uris p.uris.length⟩ = true
theorem facts (t : List UInt8) (hn : t.length ≤ 1000) (hc : rpC t = 0) : Facts t (rpP t) := by
  have hl : ¬ 65536 < t.length := by omega
  cases hf : fewB (readRs t) with
  | false => rw [(rp_many hl hf).2] at hc; simp at hc
  | true =>
    have sm := sm_rp t (by omega)
    have small := small_rp t (by omega)
    have hd := readRs_good t hf
    have hlm := (read_lim 1001 (cutA 59 [] t) (fun p hh => by have := (cutA_len 59 t []).2 p hh; simp at this; omega) [] (by simp)).1
    have hlm : ∀ r ∈ readRs t, rlim 1001 r := hlm
    rw [(rp_good hl hf).1] at sm small ⊢
    have hok := make_ok _ hf hd
    have hr : (makeP (readRs t)).rules = readRs t := rfl
    have ht : ptT (makeP (readRs t)) = tK (readRs t) (readRs t).length := by unfold ptT; rw [hok]; rfl
    have hg := tK_as (readRs t) _ (Nat.le_refl _)
    rw [List.take_length] at hg
    have hf2 := hf
    unfold fewB at hf2
    simp only [Bool.and_eq_true, decide_eq_true_eq, List.all_eq_true] at hf2
    have hfit : (tK (readRs t) (readRs t).length).length ≤ 65536 := by
      have h1 := tK_fit (readRs t) 1001 (fun r hr => ⟨(hlm r hr).1, by have := hf2.2 r hr; simpa [shortB] using this, (hlm r hr).2.2⟩) _ (Nat.le_refl _)
      have h2 := Nat.mul_le_mul_right (26 + 8 * (1001 + 1)) hf2.1
      omega
    have hback : readRs (tK (readRs t) (readRs t).length) = readRs t := by rw [hg]; exact read_tG _ hd
    have hl2 : ¬ 65536 < (tK (readRs t) (readRs t).length).length := by omega
    have hf3 : fewB (readRs (tK (readRs t) (readRs t).length)) = true := by rw [hback]; exact hf
    obtain ⟨b1, b2⟩ := rp_good hl2 hf3
    refine ⟨hok, small, sm, by rw [ht, hr], by rw [ht, b1, hback], by rw [ht, b2], by rw [ht]; exact hfit, fun h0 => ?_⟩
    exact group_ok _ (okU_fold _ [] ⟨by simp, by simp⟩) (by omega) sm.uris
end Go.Proofs.YtbkikbhnehjaaaaGreatDoor.Pl
