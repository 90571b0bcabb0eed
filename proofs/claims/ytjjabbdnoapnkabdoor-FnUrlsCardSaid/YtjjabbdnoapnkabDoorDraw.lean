
/-
  The source of choices of the model, walked: a byte, a number, a chance, a pick out of some texts.
-/
import Derived.Test.YtjjabbdnoapnkabDoorChecked
import Derived.Test.YtjjabbdnoapnkabDoorDrawPlain
import Derived.WalkKit
import Derived.WalkSpells
import Derived.WalkLawsBesides
import Derived.Lib.Hide
import Derived.RegionTactic
import Derived.BigRegion
import Derived.Deep.QuietTactic
import Derived.BigQuiet
import Derived.IntWalk
import Derived.Outline
namespace Go.Proofs.YtjjabbdnoapnkabDoor.Dr
open Go.RowKit
/-- the slice c holds the bytes of code, outside the block b -/
def CodeIs (w : World) (b : Nat) (c : Value) (code : List UInt8) : Prop :=
  ∃ (a : Option Addr) (cap : Nat), c = .slice a code.length cap ∧ (code.length = 0 ∨ ∃ g off, a = some ⟨g, off, none⟩ ∧ g ≠ b ∧ g < w.heap.size ∧ ∀ j, j < code.length → w.cell? ⟨g, off + j, none⟩ = some (.int .u8 (code.getD j 0).toNat))
structure SrcAt (w : World) (b : Nat) (c : Value) (s : S) : Prop where
  blk : w.heap[b]? = some (.cells #[c, .int .i64 s.pos, .int .i64 s.seed] 50 (0, 0))
  code : CodeIs w b c s.code
theorem SrcAt.lt {w : World} {b : Nat} {c : Value} {s : S} (h : SrcAt w b c s) : b < w.heap.size := by
  rcases Nat.lt_or_ge b w.heap.size with h' | h'
  · exact h'
  · have := h.blk; simp [Array.getElem?_eq_none h'] at this
theorem CodeIs.fr {w w' : World} {b : Nat} {c : Value} {code : List UInt8} (h : CodeIs w b c code) (hf : Fr b w w') : CodeIs w' b c code := by
  obtain ⟨a, cap, rfl, h⟩ := h
  refine ⟨a, cap, rfl, ?_⟩
  rcases h with h | ⟨g, off, rfl, hg, hlt, hc⟩
  · exact .inl h
  · refine .inr ⟨g, off, rfl, hg, by have := hf.size; omega, fun j hj => ?_⟩
    rw [World.cell?_of_block (w := w) (a := ⟨g, off + j, none⟩) (hf.block g hlt hg)]
    exact hc j hj
theorem SrcAt.alloc {w : World} {b : Nat} {c : Value} {s : S} (h : SrcAt w b c s) (o : Obj) : SrcAt (w.alloc o) b c s :=
  ⟨by rw [Lib.alloc_old w o b h.lt]; exact h.blk, h.code.fr ((Fr.refl b w).alloc o)⟩
theorem SrcAt.drew {w : World} {b : Nat} {c : Value} {s : S} (h : SrcAt w b c s) : SrcAt w.drew b c s := ⟨h.blk, h.code.fr ((Fr.refl b w).drew)⟩
theorem SrcAt.drewN {w : World} {b : Nat} {c : Value} {s : S} (h : SrcAt w b c s) (n : Nat) : SrcAt (w.drewN n) b c s := ⟨h.blk, h.code.fr ⟨rfl, rfl, rfl, Nat.le_refl _, fun _ _ _ => rfl⟩⟩
theorem heap_set {w : World} {b : Nat} {C : Array Value} {T : TypeId} {fr : Nat × Nat} (hb : w.heap[b]? = some (.cells C T fr)) (o : Nat) (v : Value) : (w.setCell ⟨b, o, none⟩ v).heap[b]? = some (.cells (C.setIfInBounds o v) T fr) := by
  simp [World.setCell, Array.getElem?_modify, hb]
theorem src_two {w : World} {b : Nat} {c : Value} {s s' : S} (h : SrcAt w b c s) (n : Nat) (p q : Int) (hp : p = s'.pos) (hq : q = s'.seed) (hc : s'.code = s.code) :
    SrcAt (((w.setCell ⟨b, 1, none⟩ (.int .i64 p)).drewN n).setCell ⟨b, 2, none⟩ (.int .i64 q)) b c s' ∧ Fr b w (((w.setCell ⟨b, 1, none⟩ (.int .i64 p)).drewN n).setCell ⟨b, 2, none⟩ (.int .i64 q)) := by
  subst hp hq
  have hf : Fr b w (((w.setCell ⟨b, 1, none⟩ (.int .i64 s'.pos)).drewN n).setCell ⟨b, 2, none⟩ (.int .i64 s'.seed)) := by
    have h1 := (Fr.refl b w).set 1 (.int .i64 s'.pos)
    have h2 : Fr b w ((w.setCell ⟨b, 1, none⟩ (.int .i64 s'.pos)).drewN n) := ⟨h1.os, h1.tape, h1.output, h1.size, h1.block⟩
    exact h2.set 2 _
  refine ⟨⟨?_, by rw [hc]; exact h.code.fr hf⟩, hf⟩
  have h1 := heap_set h.blk 1 (.int .i64 s'.pos)
  have h2 : ((w.setCell ⟨b, 1, none⟩ (.int .i64 s'.pos)).drewN n).heap[b]? = _ := h1
  have := heap_set h2 2 (.int .i64 s'.seed)
  simpa using this
theorem src_one {w : World} {b : Nat} {c : Value} {s s' : S} (h : SrcAt w b c s) (n : Nat) (p : Int) (hp : p = s'.pos) (hq : s'.seed = s.seed) (hc : s'.code = s.code) :
    SrcAt ((w.setCell ⟨b, 1, none⟩ (.int .i64 p)).drewN n) b c s' ∧ Fr b w ((w.setCell ⟨b, 1, none⟩ (.int .i64 p)).drewN n) := by
  subst hp
  have h1 := (Fr.refl b w).set 1 (.int .i64 s'.pos)
  have hf : Fr b w ((w.setCell ⟨b, 1, none⟩ (.int .i64 s'.pos)).drewN n) := ⟨h1.os, h1.tape, h1.output, h1.size, h1.block⟩
  refine ⟨⟨?_, by rw [hc]; exact h.code.fr hf⟩, hf⟩
  have := heap_set h.blk 1 (.int .i64 s'.pos)
  rw [hq]
  simpa using this
theorem ret_i {a b : Int} (h : a = b) : Ending.returned (.int .i64 a) = .returned (.int .i64 b) := by rw [h]
theorem fr_drewN {b : Nat} {w w1 : World} (h : Fr b w w1) (n : Nat) : Fr b w (w1.drewN n) := ⟨h.os, h.tape, h.output, h.size, h.block⟩
set_option maxRecDepth 100000 in
set_option maxHeartbeats 2000000 in
theorem byte_any (b : Nat) (c : Value) (s : S) (w : World) (h : SrcAt w b c s) (hf : s.fit 1000000) :
    Calls Tryd.prog 71 #[.pointer (some ⟨b, 0, none⟩)] w fun e w' => e = .returned (.int .i64 (byteV s)) ∧ SrcAt w' b c (byteS s) ∧ Fr b w w' := by
  have HS := Lib.hid h
  obtain ⟨hb, hc⟩ := h
  obtain ⟨a, cap, rfl, hcc⟩ := hc
  obtain ⟨hp, hs⟩ := hf
  have hcd := codeAt_lt s
  have c0 : w.cell? ⟨b, 0, none⟩ = some (.slice a s.code.length cap) := by simp [World.cell?, hb]
  have c1 : w.cell? ⟨b, 1, none⟩ = some (.int .i64 s.pos) := by simp [World.cell?, hb]
  have c2 : w.cell? ⟨b, 2, none⟩ = some (.int .i64 s.seed) := by simp [World.cell?, hb]
  have cf : ∀ o, w.frozen? ⟨b, o, none⟩ = false := fun o => by simp [World.frozen?, hb]
  by_cases h1 : s.pos + 1 ≤ s.code.length
  · obtain ⟨g, off, rfl, hgb, hglt, hcells⟩ := hcc.resolve_left (by omega)
    have hcg : w.cell? ⟨g, off + s.pos, none⟩ = some (.int .u8 (codeAt s)) := hcells s.pos (by omega)
    have EV : Hid (byteV s = codeAt s) := Lib.hid (by simp [byteV, h1])
    have ES : Hid (byteS s = ⟨s.code, s.pos + 1, (s.seed * 31 + codeAt s + 7) % 2147483648⟩) := Lib.hid (by simp [byteS, h1])
    clear hb hcc hcells
    have hbg : b ≠ g := fun e => hgb e.symm
    go_enter Tryd.func71, Tryd.ntmps71
    go_wp2
    go_quiet (fail)
    go_wp2
    go_region
    go_wp2
    go_quiet (fail)
    go_wp2
    go_ret
    obtain ⟨h3, h4⟩ := src_two (s' := byteS s) HS.out (_ + 1) (s.pos + 1 : Int) (((s.seed : Int) * 31 + (codeAt s : Int) + 7) % 2147483648) (by rw [ES.out]; rfl) (by rw [ES.out]; rfl) (by rw [ES.out])
    exact ⟨by rw [EV.out]; rfl, h3.drewN _, fr_drewN h4 _⟩
  · clear hb hcc
    by_cases h2 : 3000 < s.pos + 1
    · have EV : Hid (byteV s = 0) := Lib.hid (by simp [byteV, h1, h2])
      have ES : Hid (byteS s = ⟨s.code, s.pos + 1, s.seed⟩) := Lib.hid (by simp [byteS, h1, h2])
      go_enter Tryd.func71, Tryd.ntmps71
      go_wp2
      go_quiet (fail)
      go_wp2
      go_ret
      refine ⟨?_, src_one HS.out _ _ (by rw [ES.out]; rfl) (by rw [ES.out]) (by rw [ES.out])⟩
      rw [EV.out]; rfl
    · have EV : Hid (byteV s = (s.seed * 1103515245 + 12345) % 2147483648 / 65536 % 256) := Lib.hid (by simp [byteV, h1, h2])
      have ES : Hid (byteS s = ⟨s.code, s.pos + 1, (s.seed * 1103515245 + 12345) % 2147483648⟩) := Lib.hid (by simp [byteS, h1, h2])
      go_enter Tryd.func71, Tryd.ntmps71
      go_wp2
      go_quiet (fail)
      go_wp2
      go_ret
      refine ⟨?_, src_two HS.out _ _ _ (by rw [ES.out]; rfl) (by rw [ES.out]; rfl) (by rw [ES.out])⟩
      refine ret_i ?_
      have e1 : ∀ x : Nat, ((x / 65536 % 256 : Nat) : Int) = (x : Int) / 65536 % 256 := fun x => by omega
      have e2 : ((s.seed : Int) * 1103515245 + 12345) % 2147483648 = (((s.seed * 1103515245 + 12345) % 2147483648 : Nat) : Int) := by omega
      rw [EV.out, e1, ← e2]
theorem next_any (b : Nat) (c : Value) (s : S) (n : Nat) (w : World) (hn : n ≤ 256) (h : SrcAt w b c s) (hf : s.fit 1000000) :
    Calls Tryd.prog 50 #[.pointer (some ⟨b, 0, none⟩), .int .i64 (n : Int)] w fun e w' => e = .returned (.int .i64 (nextV s n)) ∧ SrcAt w' b c (nextS s n) ∧ Fr b w w' := by
  by_cases h1 : n ≤ 1
  · have e1 : nextV s n = 0 := by simp [nextV, h1]
    have e2 : nextS s n = s := by simp [nextS, h1]
    rw [e1, e2]
    clear e1 e2
    go_enter Tryd.func50, Tryd.ntmps50
    go_wp2
    go_ret
    exact ⟨rfl, h, Fr.refl _ _⟩
  · have EV : Hid (nextV s n = byteV s % n) := Lib.hid (by simp [nextV, h1])
    have ES : Hid (nextS s n = byteS s) := Lib.hid (by simp [nextS, h1])
    have HB := Lib.hid (byte_any b c s w h hf)
    have hv := byteV_lt s
    clear h
    generalize byteV s = v at *
    have d1 : decide ((n : Int) ≤ 1) = false := by simp; omega
    go_enter Tryd.func50, Tryd.ntmps50
    go_wp2_with fail
    refine HB.out.mono ?_
    rintro e w1 ⟨rfl, h2, h3⟩
    go_wp2
    go_ret
    exact ⟨by rw [EV.out]; exact ret_i (by omega), by rw [ES.out]; exact h2, h3⟩
theorem chance_any (b : Nat) (c : Value) (s : S) (n : Nat) (w : World) (hn : n ≤ 256) (h : SrcAt w b c s) (hf : s.fit 1000000) :
    Calls Tryd.prog 53 #[.pointer (some ⟨b, 0, none⟩), .int .i64 (n : Int)] w fun e w' => e = .returned (.bool (chanceB s n)) ∧ SrcAt w' b c (nextS s n) ∧ Fr b w w' := by
  have HB := Lib.hid (next_any b c s n w hn h hf)
  have EC : Hid (chanceB s n = decide (nextV s n + 1 = n)) := Lib.hid rfl
  have hv : nextV s n ≤ 256 := by
    by_cases h1 : 1 ≤ n
    · have := nextV_lt s n h1; omega
    · have : n ≤ 1 := by omega
      simp [nextV, this]
  clear h
  generalize nextV s n = v at *
  go_enter Tryd.func53, Tryd.ntmps53
  go_wp2_with fail
  refine HB.out.mono ?_
  rintro e w1 ⟨rfl, h2, h3⟩
  go_wp2
  go_ret
  refine ⟨?_, h2, h3⟩
  rw [EC.out]
  refine congrArg (fun x => Ending.returned (.bool x)) ?_
  rw [Bool.eq_iff_iff]; simp; omega
/-- a list of texts in a block of its own -/
def TextsAt (w : World) (g : Nat) (ts : List (List UInt8)) : Prop := ∀ j, j < ts.length → w.cell? ⟨g, j, none⟩ = some (.string ⟨(ts.getD j []).toArray⟩)
theorem texts_new (w : World) (ts : List (List UInt8)) (T : TypeId) : TextsAt (w.alloc (.cells (ts.map fun t => Value.string ⟨t.toArray⟩).toArray T)) w.heap.size ts := by
  intro j hj
  rw [World.cell?_alloc_at _ _ _ _ rfl]
  simp [hj, List.getD]
theorem pick_any (b g cap : Nat) (c : Value) (s : S) (ts : List (List UInt8)) (w : World) (hn : ts.length ≤ 256) (hn1 : 1 ≤ ts.length) (hg : g ≠ b) (hgl : g < w.heap.size) (ht : TextsAt w g ts) (h : SrcAt w b c s) (hf : s.fit 1000000) :
    Calls Tryd.prog 51 #[.pointer (some ⟨b, 0, none⟩), .slice (some ⟨g, 0, none⟩) ts.length cap] w fun e w' => e = .returned (.string ⟨(pickL s ts).toArray⟩) ∧ SrcAt w' b c (nextS s ts.length) ∧ Fr b w w' := by
  have HB := Lib.hid (next_any b c s ts.length w hn h hf)
  have hv := nextV_lt s ts.length hn1
  have EP : Hid (pickL s ts = ts.getD (nextV s ts.length) []) := Lib.hid rfl
  clear h
  generalize nextV s ts.length = v at *
  have HT := Lib.hid (ht v hv)
  clear ht
  generalize ts.getD v [] = t at *
  have d1 : ((ts.length : Int) == 0) = false := beq_eq_false_iff_ne.2 (by omega)
  go_enter Tryd.func51, Tryd.ntmps51
  go_wp2_with fail
  refine HB.out.mono ?_
  rintro e w1 ⟨rfl, h2, h3⟩
  have hc : w1.cell? ⟨g, v, none⟩ = some (.string ⟨t.toArray⟩) := (World.cell?_of_block (w := w) (a := ⟨g, v, none⟩) (h3.block g hgl hg)).trans HT.out
  go_wp2
  go_ret
  exact ⟨by rw [EP.out]; rfl, h2, h3⟩
end Go.Proofs.YtjjabbdnoapnkabDoor.Dr
