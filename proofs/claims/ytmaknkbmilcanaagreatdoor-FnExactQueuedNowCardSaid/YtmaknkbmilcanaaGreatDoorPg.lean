
/-
  The laws' marks of a whole pipe. (Made by mpg.py.)
-/
import Derived.Test.YtmaknkbmilcanaaGreatDoorPf
import Derived.Test.YtmaknkbmilcanaaGreatDoorPiI
import Derived.Test.YtmaknkbmilcanaaGreatDoorMk
namespace Go.Proofs.YtmaknkbmilcanaaGreatDoor.Pf
open Go.RowKit
open Go.Proofs.YtmaknkbmilcanaaGreatDoor.Tx (TxtsIn)
open Go.Proofs.YtmaknkbmilcanaaGreatDoor.Gr (Tg Gp TgIn gV ret_i)
open Go.Proofs.YtmaknkbmilcanaaGreatDoor.Pe (Pr PrIn)
open Go.Proofs.YtmaknkbmilcanaaGreatDoor.Qu (Rep Q RpIn IntsIn qV)
open Go.Proofs.YtmaknkbmilcanaaGreatDoor.Po (Pl Rl RlIn)
open Go.Proofs.YtmaknkbmilcanaaGreatDoor.Pi (Cn En Wi Pp EnIn WiIn CnIn WiN CnN PpN WV CV PV pV8 ppV)
open Go.Proofs.YtmaknkbmilcanaaGreatDoor.Mk (mkT markText_any)
/-- w' is w but for what lies in S; the rows of S are such rows still, with the same slices in them -/
structure Mkd (S : Nat → Prop) (w w' : World) : Prop where
  os : w'.os = w.os
  tape : w'.tape = w.tape
  output : w'.output = w.output
  size : w.heap.size ≤ w'.heap.size
  block : ∀ k, k < w.heap.size → ¬ S k → w'.heap[k]? = w.heap[k]?
  kept : ∀ k, S k → ∀ C T, w.heap[k]? = some (.cells C T) → ∃ C', w'.heap[k]? = some (.cells C' T) ∧ C'.size = C.size ∧ ∀ (i : Nat) (a : Option Addr) (l c : Nat), C[i]? = some (.slice a l c) ↔ C'[i]? = some (.slice a l c)
theorem Mkd.refl (S : Nat → Prop) (w : World) : Mkd S w w := ⟨rfl, rfl, rfl, Nat.le_refl _, fun _ _ _ => rfl, fun _ _ C _ h => ⟨C, h, rfl, fun _ _ _ _ => Iff.rfl⟩⟩
theorem Mkd.trans {S : Nat → Prop} {a b c : World} (h : Mkd S a b) (k : Mkd S b c) : Mkd S a c :=
  ⟨k.os.trans h.os, k.tape.trans h.tape, k.output.trans h.output, Nat.le_trans h.size k.size, fun i hi hs => (k.block i (Nat.lt_of_lt_of_le hi h.size) hs).trans (h.block i hi hs), fun i hs C T hC => by
    obtain ⟨C1, h1, h2, h3⟩ := h.kept i hs C T hC
    obtain ⟨C2, k1, k2, k3⟩ := k.kept i hs C1 T h1
    exact ⟨C2, k1, k2.trans h2, fun j a l c => (h3 j a l c).trans (k3 j a l c)⟩⟩
theorem Mkd.step {S : Nat → Prop} {w0 w w1 : World} (h : Mkd S w0 w) (hS : ∀ b, S b → Cl w0 b) (hb : Below w.heap.size w w1) : Mkd S w0 w1 :=
  h.trans ⟨hb.os, hb.tape, hb.output, hb.size, fun i hi _ => hb.block i hi, fun i hs C _ hC => ⟨C, (hb.block i (Nat.lt_of_lt_of_le (hS i hs).lt h.size)).trans hC, rfl, fun _ _ _ _ => Iff.rfl⟩⟩
theorem Mkd.row {S : Nat → Prop} {w0 w : World} {b o : Nat} {z : Value} (hM : Mkd S w0 w) (hS : ∀ b, S b → Cl w0 b) (hb : S b) (h : w0.cell? ⟨b, o, none⟩ = some z) :
    ∃ C C' T, w0.heap[b]? = some (.cells C T) ∧ w.heap[b]? = some (.cells C' T) ∧ C'.size = C.size ∧ C[o]? = some z ∧ ∀ (i : Nat) (a : Option Addr) (l c : Nat), C[i]? = some (.slice a l c) ↔ C'[i]? = some (.slice a l c) := by
  obtain ⟨C, T, hC⟩ := hS b hb
  obtain ⟨C', h1, h2, h3⟩ := hM.kept b hb C T hC
  exact ⟨C, C', T, hC, h1, h2, by simpa [World.cell?, hC] using h, h3⟩
theorem Mkd.cell {S : Nat → Prop} {w0 w : World} {b o : Nat} {z : Value} (hM : Mkd S w0 w) (hS : ∀ b, S b → Cl w0 b) (hb : S b) (h : w0.cell? ⟨b, o, none⟩ = some z) : ∃ z', w.cell? ⟨b, o, none⟩ = some z' := by
  obtain ⟨C, C', T, hC, h1, h2, h4, h3⟩ := hM.row hS hb h
  have ho : o < C'.size := by rw [h2]; exact (Array.getElem?_eq_some_iff.1 h4).1
  exact ⟨C'[o], by simp [World.cell?, h1, ho]⟩
theorem Mkd.sl {S : Nat → Prop} {w0 w : World} {b o : Nat} {a : Option Addr} {l c : Nat} (hM : Mkd S w0 w) (hS : ∀ b, S b → Cl w0 b) (hb : S b) (h : w0.cell? ⟨b, o, none⟩ = some (.slice a l c)) : w.cell? ⟨b, o, none⟩ = some (.slice a l c) := by
  obtain ⟨C, C', T, hC, h1, h2, h4, h3⟩ := hM.row hS hb h
  have := (h3 o a l c).1 h4
  simpa [World.cell?, h1] using this
theorem Mkd.fz {S : Nat → Prop} {w0 w : World} {b : Nat} (hM : Mkd S w0 w) (hS : ∀ b, S b → Cl w0 b) (hb : S b) (o : Nat) : w.frozen? ⟨b, o, none⟩ = false := by
  obtain ⟨C, T, hC⟩ := hS b hb
  obtain ⟨C', h1, _⟩ := hM.kept b hb C T hC
  simp [World.frozen?, h1]
theorem Mkd.set {S : Nat → Prop} {w0 w : World} {b o : Nat} {z : Value} (hM : Mkd S w0 w) (hS : ∀ b, S b → Cl w0 b) (hb : S b) (h : w0.cell? ⟨b, o, none⟩ = some z) (hz : ∀ a l c, z ≠ .slice a l c) (v : Value) (hv : ∀ a l c, v ≠ .slice a l c) : Mkd S w0 (w.setCell ⟨b, o, none⟩ v) := by
  obtain ⟨C, C', T, hC, h1, h2, h4, h3⟩ := hM.row hS hb h
  refine ⟨hM.os, hM.tape, hM.output, by simpa [World.setCell] using hM.size, fun i hi hs => (heap_setCell_other _ ⟨b, o, none⟩ i v (by intro e; subst e; exact hs hb)).trans (hM.block i hi hs), fun i hs D U hD => ?_⟩
  by_cases e : i = b
  · subst e
    rw [hC] at hD
    simp only [Option.some.injEq, Obj.cells.injEq] at hD
    obtain ⟨rfl, rfl, -⟩ := hD
    refine ⟨_, Tx.heap_set h1 o v, by simp [h2], fun j a l c => ?_⟩
    by_cases ej : j = o
    · subst ej
      have ho : j < C'.size := by rw [h2]; exact (Array.getElem?_eq_some_iff.1 h4).1
      rw [h4]
      constructor
      · intro hh; exact absurd (Option.some.inj hh) (hz a l c)
      · intro hh
        rw [Array.getElem?_setIfInBounds_self_of_lt ho] at hh
        exact absurd (Option.some.inj hh) (hv a l c)
    · rw [Array.getElem?_setIfInBounds_ne (by omega)]
      exact h3 j a l c
  · obtain ⟨C1, k1, k2, k3⟩ := hM.kept i hs D U hD
    exact ⟨C1, (heap_setCell_other _ ⟨b, o, none⟩ i v e).trans k1, k2, k3⟩
theorem mkd_below {S : Nat → Prop} {w w1 : World} (hS : ∀ b, S b → b < w.heap.size) (hb : Below w.heap.size w w1) : Mkd S w w1 :=
  ⟨hb.os, hb.tape, hb.output, hb.size, fun i hi _ => hb.block i hi, fun i hs C _ hC => ⟨C, (hb.block i (hS i hs)).trans hC, rfl, fun _ _ _ _ => Iff.rfl⟩⟩
theorem Mkd.one {S : Nat → Prop} {w0 w : World} {b o : Nat} {z : Value} (hM : Mkd S w0 w) (hS : ∀ b, S b → Cl w0 b) (hb : S b) (h : w0.cell? ⟨b, o, none⟩ = some z) (hz : ∀ a l c, z ≠ .slice a l c) (v : Value) (hv : ∀ a l c, v ≠ .slice a l c) : Mkd S w (w.setCell ⟨b, o, none⟩ v) := by
  obtain ⟨C, C', T, hC, h1, h2, h4, h3⟩ := hM.row hS hb h
  have ho : o < C'.size := by rw [h2]; exact (Array.getElem?_eq_some_iff.1 h4).1
  have e1 : C'[o]? = some C'[o] := by simp [ho]
  refine Mkd.set (Mkd.refl S w) (fun g hg => ?_) hb (z := C'[o]) (by simp [World.cell?, h1, ho]) (fun a l c e => ?_) v hv
  · obtain ⟨D, U, hD⟩ := hS g hg
    obtain ⟨D', k1, _⟩ := hM.kept g hg D U hD
    exact ⟨D', U, k1⟩
  · rw [e] at e1
    have := (h3 o a l c).2 e1
    rw [h4] at this
    exact hz a l c (Option.some.inj this)
/-- since w0, where the rows were made, and since w, where the call began -/
structure MM (S : Nat → Prop) (w0 w wr : World) : Prop where
  a : Mkd S w0 wr
  b : Mkd S w wr
theorem MM.start {S : Nat → Prop} {w0 w : World} (h : Mkd S w0 w) : MM S w0 w w := ⟨h, Mkd.refl S w⟩
theorem MM.call {S : Nat → Prop} {w0 w wr w1 : World} (h : MM S w0 w wr) (hm : Mkd S wr w1) : MM S w0 w w1 := ⟨h.a.trans hm, h.b.trans hm⟩
theorem MM.step {S : Nat → Prop} {w0 w wr w1 : World} (h : MM S w0 w wr) (hS : ∀ b, S b → Cl w0 b) (hb : Below wr.heap.size wr w1) : MM S w0 w w1 :=
  h.call (mkd_below (fun b hs => Nat.lt_of_lt_of_le (hS b hs).lt h.a.size) hb)
theorem MM.cell {S : Nat → Prop} {w0 w wr : World} {b o : Nat} {z : Value} (h : MM S w0 w wr) (hS : ∀ b, S b → Cl w0 b) (hb : S b) (hc : w0.cell? ⟨b, o, none⟩ = some z) : ∃ z', wr.cell? ⟨b, o, none⟩ = some z' := h.a.cell hS hb hc
theorem MM.sl {S : Nat → Prop} {w0 w wr : World} {b o : Nat} {a : Option Addr} {l c : Nat} (h : MM S w0 w wr) (hS : ∀ b, S b → Cl w0 b) (hb : S b) (hc : w0.cell? ⟨b, o, none⟩ = some (.slice a l c)) : wr.cell? ⟨b, o, none⟩ = some (.slice a l c) := h.a.sl hS hb hc
theorem MM.fz {S : Nat → Prop} {w0 w wr : World} {b : Nat} (h : MM S w0 w wr) (hS : ∀ b, S b → Cl w0 b) (hb : S b) (o : Nat) : wr.frozen? ⟨b, o, none⟩ = false := h.a.fz hS hb o
theorem MM.set {S : Nat → Prop} {w0 w wr : World} {b o : Nat} {z : Value} (h : MM S w0 w wr) (hS : ∀ b, S b → Cl w0 b) (hb : S b) (hc : w0.cell? ⟨b, o, none⟩ = some z) (hz : ∀ a l c, z ≠ .slice a l c) (v : Value) (hv : ∀ a l c, v ≠ .slice a l c) : MM S w0 w (wr.setCell ⟨b, o, none⟩ v) :=
  h.call (h.a.one hS hb hc hz v hv)
theorem nsS (t : ByteArray) : ∀ a l c, Value.string t ≠ .slice a l c := by intro _ _ _ h; cases h
theorem nsI (k : IntKind) (n : Int) : ∀ a l c, Value.int k n ≠ .slice a l c := by intro _ _ _ h; cases h
theorem nsB (x : Bool) : ∀ a l c, Value.bool x ≠ .slice a l c := by intro _ _ _ h; cases h
set_option maxRecDepth 100000 in
set_option maxHeartbeats 2000000 in
theorem mkIn_any (S : Nat → Prop) (w0 : World) (hS : ∀ b, S b → Cl w0 b) (v : Value) (xs : List (Int)) (h : IntsIn S w0 v xs) (k : Nat) (z : Int) (hz : z = (k : Int)) (w : World) (hM : Mkd S w0 w) (hk : 0 < k) (hk2 : k + 1 * xs.length ≤ 4000000000000000) :
    Calls Tryz.prog 28 #[v, .int .i64 z] w fun e w' => e = .returned (.int .i64 ((k + 1 * xs.length : Nat) : Int)) ∧ Mkd S w w' := by
  subst hz
  obtain ⟨a, cap, b, off, rfl, hcap, hm, ha, hc⟩ := h
  have HC := Lib.hid hc
  have HA := Lib.hid ha
  have HS := Lib.hid hS
  have HM := Lib.hid (MM.start hM)
  clear hc ha hS hM
  go_enter Tryz.func28, Tryz.ntmps28
  go_wp2
  go_loopw [1, 5] (fun kv iv wr => ∃ i q : Nat, i ≤ xs.length ∧ iv = .int .i64 i ∧ kv = .int .i64 (q : Int) ∧ q = k + 1 * i ∧ MM S w0 w wr) (fun _ iv _ => xs.length - (intOf iv).toNat)
  case atStart => exact ⟨0, k, by omega, rfl, rfl, by omega, HM.out⟩
  case round =>
    obtain ⟨i, q, hi, rfl, rfl, hq, hMr⟩ := hrel
    have HQE := Lib.hid hq
    have hqb : q ≤ 4000000000000000 := by omega
    have hq0 : 0 < q := by omega
    have HR := Lib.hid hMr
    clear hMr hq
    by_cases hlt : i < xs.length
    · obtain ⟨ea, hlb⟩ := HA.out (by omega)
      subst ea
      have c0 := HC.out i hlt
      have hMc := HR.out
      obtain ⟨z0, p0⟩ := hMc.cell HS.out hlb c0
      have pf := fun o => hMc.fz HS.out hlb o
      have HM0 := Lib.hid (hMc.set HS.out hlb c0 (nsI _ _) (.int .i64 (q : Int)) (nsI _ _))
      clear hMc
      clear c0
      go_wp2
      go_roundw
      case rel => exact ⟨i + 1, q + 1, by omega, by go_num, by go_num, by have := HQE.out; omega, HM0.out⟩
      case measure => simp [intOf]; omega
    · obtain rfl : i = xs.length := by omega
      go_wp2
      go_ret
      exact ⟨ret_i (by have := HQE.out; omega), HR.out.b⟩
set_option maxRecDepth 100000 in
set_option maxHeartbeats 2000000 in
theorem mkTx_any (S : Nat → Prop) (w0 : World) (hS : ∀ b, S b → Cl w0 b) (v : Value) (xs : List (List UInt8)) (h : TxtsIn S w0 v xs) (k : Nat) (z : Int) (hz : z = (k : Int)) (w : World) (hM : Mkd S w0 w) (hk : 0 < k) (hk2 : k + 1 * xs.length ≤ 4000000000000000) :
    Calls Tryz.prog 105 #[v, .int .i64 z] w fun e w' => e = .returned (.int .i64 ((k + 1 * xs.length : Nat) : Int)) ∧ Mkd S w w' := by
  subst hz
  obtain ⟨a, cap, b, off, rfl, hcap, hm, -, ha, hc⟩ := h
  have HC := Lib.hid hc
  have HA := Lib.hid ha
  have HS := Lib.hid hS
  have HM := Lib.hid (MM.start hM)
  clear hc ha hS hM
  go_enter Tryz.func105, Tryz.ntmps105
  go_wp2
  go_loopw [1, 5] (fun kv iv wr => ∃ i q : Nat, i ≤ xs.length ∧ iv = .int .i64 i ∧ kv = .int .i64 (q : Int) ∧ q = k + 1 * i ∧ MM S w0 w wr) (fun _ iv _ => xs.length - (intOf iv).toNat)
  case atStart => exact ⟨0, k, by omega, rfl, rfl, by omega, HM.out⟩
  case round =>
    obtain ⟨i, q, hi, rfl, rfl, hq, hMr⟩ := hrel
    have HQE := Lib.hid hq
    have hqb : q ≤ 4000000000000000 := by omega
    have hq0 : 0 < q := by omega
    have HR := Lib.hid hMr
    clear hMr hq
    by_cases hlt : i < xs.length
    · obtain ⟨ea, hlb⟩ := HA.out (by omega)
      subst ea
      have c0 := HC.out i hlt
      have HT := Lib.hid (fun (W : World) (z : Int) (hz : z = ((q + 0 : Nat) : Int)) => show Calls Tryz.prog 142 #[.int .i64 z] W (fun e w' => e = .returned (.string ⟨(mkT (q + 0)).toArray⟩) ∧ Below W.heap.size W w') by rw [hz]; exact markText_any (q + 0) (by omega) (by omega) W)
      generalize mkT (q + 0) = tx at *
      go_wp2_with fail
      refine (HT.out _ _ (by omega)).mono ?_
      rintro e w1 ⟨rfl, hb1⟩
      have HMb := Lib.hid (MM.step (w1 := w1) HR.out HS.out hb1)
      clear hb1 HT
      have hMc := HMb.out
      obtain ⟨z0, p0⟩ := hMc.cell HS.out hlb c0
      have pf := fun o => hMc.fz HS.out hlb o
      have HM1 := Lib.hid (hMc.set HS.out hlb c0 (nsS _) (.string ⟨tx.toArray⟩) (nsS _))
      clear hMc
      clear c0
      go_wp2
      go_roundw
      case rel => exact ⟨i + 1, q + 1, by omega, by go_num, by go_num, by have := HQE.out; omega, HM1.out⟩
      case measure => simp [intOf]; omega
    · obtain rfl : i = xs.length := by omega
      go_wp2
      go_ret
      exact ⟨ret_i (by have := HQE.out; omega), HR.out.b⟩
set_option maxRecDepth 100000 in
set_option maxHeartbeats 2000000 in
theorem mkTg_any (S : Nat → Prop) (w0 : World) (hS : ∀ b, S b → Cl w0 b) (v : Value) (xs : List (Tg)) (h : TgIn S w0 v xs) (k : Nat) (z : Int) (hz : z = (k : Int)) (w : World) (hM : Mkd S w0 w) (hk : 0 < k) (hk2 : k + 3 * xs.length ≤ 4000000000000000) :
    Calls Tryz.prog 143 #[v, .int .i64 z] w fun e w' => e = .returned (.int .i64 ((k + 3 * xs.length : Nat) : Int)) ∧ Mkd S w w' := by
  subst hz
  obtain ⟨a, cap, b, off, rfl, hcap, hm, -, ha, hc⟩ := h
  have HC := Lib.hid hc
  have HA := Lib.hid ha
  have HS := Lib.hid hS
  have HM := Lib.hid (MM.start hM)
  clear hc ha hS hM
  go_enter Tryz.func143, Tryz.ntmps143
  go_wp2
  go_loopw [1, 5] (fun kv iv wr => ∃ i q : Nat, i ≤ xs.length ∧ iv = .int .i64 i ∧ kv = .int .i64 (q : Int) ∧ q = k + 3 * i ∧ MM S w0 w wr) (fun _ iv _ => xs.length - (intOf iv).toNat)
  case atStart => exact ⟨0, k, by omega, rfl, rfl, by omega, HM.out⟩
  case round =>
    obtain ⟨i, q, hi, rfl, rfl, hq, hMr⟩ := hrel
    have HQE := Lib.hid hq
    have hqb : q ≤ 4000000000000000 := by omega
    have hq0 : 0 < q := by omega
    have HR := Lib.hid hMr
    clear hMr hq
    by_cases hlt : i < xs.length
    · obtain ⟨ea, hlb⟩ := HA.out (by omega)
      subst ea
      obtain ⟨c0, c1, c2⟩ := HC.out i hlt
      have HT := Lib.hid (fun (W : World) (z : Int) (hz : z = ((q + 0 : Nat) : Int)) => show Calls Tryz.prog 142 #[.int .i64 z] W (fun e w' => e = .returned (.string ⟨(mkT (q + 0)).toArray⟩) ∧ Below W.heap.size W w') by rw [hz]; exact markText_any (q + 0) (by omega) (by omega) W)
      generalize mkT (q + 0) = tx at *
      go_wp2_with fail
      refine (HT.out _ _ (by omega)).mono ?_
      rintro e w1 ⟨rfl, hb1⟩
      have HMb := Lib.hid (MM.step (w1 := w1) HR.out HS.out hb1)
      clear hb1 HT
      have hMc := HMb.out
      obtain ⟨z0, p0⟩ := hMc.cell HS.out hlb c0
      obtain ⟨z1, p1⟩ := hMc.cell HS.out hlb c1
      obtain ⟨z2, p2⟩ := hMc.cell HS.out hlb c2
      have pf := fun o => hMc.fz HS.out hlb o
      have HM1 := Lib.hid (((hMc.set HS.out hlb c0 (nsS _) (.string ⟨tx.toArray⟩) (nsS _)).set HS.out hlb c1 (nsI _ _) (.int .i64 ((q : Int) + 1)) (nsI _ _)).set HS.out hlb c2 (nsI _ _) (.int .i64 ((q : Int) + 1 + 1)) (nsI _ _))
      clear hMc
      clear c0 c1 c2
      go_wp2
      go_roundw
      case rel => exact ⟨i + 1, q + 3, by omega, by go_num, by go_num, by have := HQE.out; omega, HM1.out⟩
      case measure => simp [intOf]; omega
    · obtain rfl : i = xs.length := by omega
      go_wp2
      go_ret
      exact ⟨ret_i (by have := HQE.out; omega), HR.out.b⟩
set_option maxRecDepth 100000 in
set_option maxHeartbeats 2000000 in
theorem mkPr_any (S : Nat → Prop) (w0 : World) (hS : ∀ b, S b → Cl w0 b) (v : Value) (xs : List (Pr)) (h : PrIn S w0 v xs) (k : Nat) (z : Int) (hz : z = (k : Int)) (w : World) (hM : Mkd S w0 w) (hk : 0 < k) (hk2 : k + 6 * xs.length ≤ 4000000000000000) :
    Calls Tryz.prog 144 #[v, .int .i64 z] w fun e w' => e = .returned (.int .i64 ((k + 6 * xs.length : Nat) : Int)) ∧ Mkd S w w' := by
  subst hz
  obtain ⟨a, cap, b, off, rfl, hcap, hm, -, ha, hc⟩ := h
  have HC := Lib.hid hc
  have HA := Lib.hid ha
  have HS := Lib.hid hS
  have HM := Lib.hid (MM.start hM)
  clear hc ha hS hM
  go_enter Tryz.func144, Tryz.ntmps144
  go_wp2
  go_loopw [1, 5] (fun kv iv wr => ∃ i q : Nat, i ≤ xs.length ∧ iv = .int .i64 i ∧ kv = .int .i64 (q : Int) ∧ q = k + 6 * i ∧ MM S w0 w wr) (fun _ iv _ => xs.length - (intOf iv).toNat)
  case atStart => exact ⟨0, k, by omega, rfl, rfl, by omega, HM.out⟩
  case round =>
    obtain ⟨i, q, hi, rfl, rfl, hq, hMr⟩ := hrel
    have HQE := Lib.hid hq
    have hqb : q ≤ 4000000000000000 := by omega
    have hq0 : 0 < q := by omega
    have HR := Lib.hid hMr
    clear hMr hq
    by_cases hlt : i < xs.length
    · obtain ⟨ea, hlb⟩ := HA.out (by omega)
      subst ea
      obtain ⟨c0, c1, c2, c3, c4, c5⟩ := HC.out i hlt
      have HT := Lib.hid (fun (W : World) (z : Int) (hz : z = ((q + 0 : Nat) : Int)) => show Calls Tryz.prog 142 #[.int .i64 z] W (fun e w' => e = .returned (.string ⟨(mkT (q + 0)).toArray⟩) ∧ Below W.heap.size W w') by rw [hz]; exact markText_any (q + 0) (by omega) (by omega) W)
      generalize mkT (q + 0) = tx at *
      go_wp2_with fail
      refine (HT.out _ _ (by omega)).mono ?_
      rintro e w1 ⟨rfl, hb1⟩
      have HMb := Lib.hid (MM.step (w1 := w1) HR.out HS.out hb1)
      clear hb1 HT
      have hMc := HMb.out
      obtain ⟨z0, p0⟩ := hMc.cell HS.out hlb c0
      obtain ⟨z1, p1⟩ := hMc.cell HS.out hlb c1
      obtain ⟨z2, p2⟩ := hMc.cell HS.out hlb c2
      obtain ⟨z3, p3⟩ := hMc.cell HS.out hlb c3
      obtain ⟨z4, p4⟩ := hMc.cell HS.out hlb c4
      obtain ⟨z5, p5⟩ := hMc.cell HS.out hlb c5
      have pf := fun o => hMc.fz HS.out hlb o
      have HM1 := Lib.hid ((((((hMc.set HS.out hlb c0 (nsS _) (.string ⟨tx.toArray⟩) (nsS _)).set HS.out hlb c1 (nsI _ _) (.int .i64 ((q : Int) + 1)) (nsI _ _)).set HS.out hlb c2 (nsI _ _) (.int .i64 ((q : Int) + 1 + 1)) (nsI _ _)).set HS.out hlb c3 (nsI _ _) (.int .i64 ((q : Int) + 1 + 1 + 1)) (nsI _ _)).set HS.out hlb c4 (nsI _ _) (.int .i64 ((q : Int) + 1 + 1 + 1 + 1)) (nsI _ _)).set HS.out hlb c5 (nsB _) (.bool (decide ((q + 5) % 3 = 0))) (nsB _))
      clear hMc
      have hbg : (((q : Int) + 1 + 1 + 1 + 1 + 1) % 3 == 0) = decide ((q + 5) % 3 = 0) := by rw [Bool.eq_iff_iff, beq_iff_eq, decide_eq_true_iff]; omega
      clear c0 c1 c2 c3 c4 c5
      go_wp2
      go_roundw
      case rel => exact ⟨i + 1, q + 6, by omega, by go_num, by go_num, by have := HQE.out; omega, HM1.out⟩
      case measure => simp [intOf]; omega
    · obtain rfl : i = xs.length := by omega
      go_wp2
      go_ret
      exact ⟨ret_i (by have := HQE.out; omega), HR.out.b⟩
set_option maxRecDepth 100000 in
set_option maxHeartbeats 2000000 in
theorem mkRp_any (S : Nat → Prop) (w0 : World) (hS : ∀ b, S b → Cl w0 b) (v : Value) (xs : List (Rep)) (h : RpIn S w0 v xs) (k : Nat) (z : Int) (hz : z = (k : Int)) (w : World) (hM : Mkd S w0 w) (hk : 0 < k) (hk2 : k + 4 * xs.length ≤ 4000000000000000) :
    Calls Tryz.prog 145 #[v, .int .i64 z] w fun e w' => e = .returned (.int .i64 ((k + 4 * xs.length : Nat) : Int)) ∧ Mkd S w w' := by
  subst hz
  obtain ⟨a, cap, b, off, rfl, hcap, hm, -, ha, hc⟩ := h
  have HC := Lib.hid hc
  have HA := Lib.hid ha
  have HS := Lib.hid hS
  have HM := Lib.hid (MM.start hM)
  clear hc ha hS hM
  go_enter Tryz.func145, Tryz.ntmps145
  go_wp2
  go_loopw [1, 5] (fun kv iv wr => ∃ i q : Nat, i ≤ xs.length ∧ iv = .int .i64 i ∧ kv = .int .i64 (q : Int) ∧ q = k + 4 * i ∧ MM S w0 w wr) (fun _ iv _ => xs.length - (intOf iv).toNat)
  case atStart => exact ⟨0, k, by omega, rfl, rfl, by omega, HM.out⟩
  case round =>
    obtain ⟨i, q, hi, rfl, rfl, hq, hMr⟩ := hrel
    have HQE := Lib.hid hq
    have hqb : q ≤ 4000000000000000 := by omega
    have hq0 : 0 < q := by omega
    have HR := Lib.hid hMr
    clear hMr hq
    by_cases hlt : i < xs.length
    · obtain ⟨ea, hlb⟩ := HA.out (by omega)
      subst ea
      obtain ⟨c0, c1, c2, c3⟩ := HC.out i hlt
      have hMc := HR.out
      obtain ⟨z0, p0⟩ := hMc.cell HS.out hlb c0
      obtain ⟨z1, p1⟩ := hMc.cell HS.out hlb c1
      obtain ⟨z2, p2⟩ := hMc.cell HS.out hlb c2
      have pf := fun o => hMc.fz HS.out hlb o
      have HM0 := Lib.hid (((hMc.set HS.out hlb c0 (nsI _ _) (.int .i64 (q : Int)) (nsI _ _)).set HS.out hlb c1 (nsI _ _) (.int .i64 ((q : Int) + 1)) (nsI _ _)).set HS.out hlb c2 (nsI _ _) (.int .i64 ((q : Int) + 1 + 1)) (nsI _ _))
      clear hMc
      have HT := Lib.hid (fun (W : World) (z : Int) (hz : z = ((q + 3 : Nat) : Int)) => show Calls Tryz.prog 142 #[.int .i64 z] W (fun e w' => e = .returned (.string ⟨(mkT (q + 3)).toArray⟩) ∧ Below W.heap.size W w') by rw [hz]; exact markText_any (q + 3) (by omega) (by omega) W)
      generalize mkT (q + 3) = tx at *
      go_wp2_with fail
      refine (HT.out _ _ (by omega)).mono ?_
      rintro e w1 ⟨rfl, hb1⟩
      have HMb := Lib.hid (MM.step (w1 := w1) HM0.out HS.out hb1)
      clear hb1 HT
      have hMc := HMb.out
      obtain ⟨z3, p3⟩ := hMc.cell HS.out hlb c3
      have pf := fun o => hMc.fz HS.out hlb o
      have HM1 := Lib.hid (hMc.set HS.out hlb c3 (nsS _) (.string ⟨tx.toArray⟩) (nsS _))
      clear hMc
      clear c0 c1 c2 c3
      go_wp2
      go_roundw
      case rel => exact ⟨i + 1, q + 4, by omega, by go_num, by go_num, by have := HQE.out; omega, HM1.out⟩
      case measure => simp [intOf]; omega
    · obtain rfl : i = xs.length := by omega
      go_wp2
      go_ret
      exact ⟨ret_i (by have := HQE.out; omega), HR.out.b⟩
set_option maxRecDepth 100000 in
set_option maxHeartbeats 2000000 in
theorem mkEn_any (S : Nat → Prop) (w0 : World) (hS : ∀ b, S b → Cl w0 b) (v : Value) (xs : List (En)) (h : EnIn S w0 v xs) (k : Nat) (z : Int) (hz : z = (k : Int)) (w : World) (hM : Mkd S w0 w) (hk : 0 < k) (hk2 : k + 3 * xs.length ≤ 4000000000000000) :
    Calls Tryz.prog 23 #[v, .int .i64 z] w fun e w' => e = .returned (.int .i64 ((k + 3 * xs.length : Nat) : Int)) ∧ Mkd S w w' := by
  subst hz
  obtain ⟨a, cap, b, off, rfl, hcap, hm, -, ha, hc⟩ := h
  have HC := Lib.hid hc
  have HA := Lib.hid ha
  have HS := Lib.hid hS
  have HM := Lib.hid (MM.start hM)
  clear hc ha hS hM
  go_enter Tryz.func23, Tryz.ntmps23
  go_wp2
  go_loopw [1, 5] (fun kv iv wr => ∃ i q : Nat, i ≤ xs.length ∧ iv = .int .i64 i ∧ kv = .int .i64 (q : Int) ∧ q = k + 3 * i ∧ MM S w0 w wr) (fun _ iv _ => xs.length - (intOf iv).toNat)
  case atStart => exact ⟨0, k, by omega, rfl, rfl, by omega, HM.out⟩
  case round =>
    obtain ⟨i, q, hi, rfl, rfl, hq, hMr⟩ := hrel
    have HQE := Lib.hid hq
    have hqb : q ≤ 4000000000000000 := by omega
    have hq0 : 0 < q := by omega
    have HR := Lib.hid hMr
    clear hMr hq
    by_cases hlt : i < xs.length
    · obtain ⟨ea, hlb⟩ := HA.out (by omega)
      subst ea
      obtain ⟨c0, c1, c2⟩ := HC.out i hlt
      have hMc := HR.out
      obtain ⟨z0, p0⟩ := hMc.cell HS.out hlb c0
      obtain ⟨z1, p1⟩ := hMc.cell HS.out hlb c1
      obtain ⟨z2, p2⟩ := hMc.cell HS.out hlb c2
      have pf := fun o => hMc.fz HS.out hlb o
      have HM0 := Lib.hid (((hMc.set HS.out hlb c0 (nsI _ _) (.int .i64 (q : Int)) (nsI _ _)).set HS.out hlb c1 (nsI _ _) (.int .i64 ((q : Int) + 1)) (nsI _ _)).set HS.out hlb c2 (nsI _ _) (.int .i64 ((q : Int) + 1 + 1)) (nsI _ _))
      clear hMc
      clear c0 c1 c2
      go_wp2
      go_roundw
      case rel => exact ⟨i + 1, q + 3, by omega, by go_num, by go_num, by have := HQE.out; omega, HM0.out⟩
      case measure => simp [intOf]; omega
    · obtain rfl : i = xs.length := by omega
      go_wp2
      go_ret
      exact ⟨ret_i (by have := HQE.out; omega), HR.out.b⟩
set_option maxRecDepth 100000 in
set_option maxHeartbeats 2000000 in
theorem mkRl_any (S : Nat → Prop) (w0 : World) (hS : ∀ b, S b → Cl w0 b) (v : Value) (xs : List Rl) (h : RlIn S w0 v xs) (hws : ∀ i, i < xs.length → (xs.getD i default).words.length ≤ 1048576) (hxs : xs.length ≤ 1048576) (k : Nat) (z : Int) (hz : z = (k : Int)) (w : World) (hM : Mkd S w0 w) (hk : 0 < k) (hk2 : k ≤ 1000000000000000) :
    Calls Tryz.prog 146 #[v, .int .i64 z] w fun e w' => ∃ k' : Nat, e = .returned (.int .i64 (k' : Int)) ∧ k ≤ k' ∧ k' ≤ k + 1099512676352 ∧ Mkd S w w' := by
  subst hz
  obtain ⟨a, cap, b, off, vs, rfl, hcap, hm, -, ha, hc⟩ := h
  have HC := Lib.hid hc
  have HA := Lib.hid ha
  have HS := Lib.hid hS
  have HW := Lib.hid hws
  have HM := Lib.hid (MM.start hM)
  clear hc ha hS hM hws
  go_enter Tryz.func146, Tryz.ntmps146
  go_wp2
  go_loopw [1, 5] (fun kv iv wr => ∃ i q : Nat, i ≤ xs.length ∧ iv = .int .i64 i ∧ kv = .int .i64 (q : Int) ∧ k ≤ q ∧ q ≤ k + i * 1048577 ∧ MM S w0 w wr) (fun _ iv _ => xs.length - (intOf iv).toNat)
  case atStart => exact ⟨0, k, by omega, rfl, rfl, by omega, by omega, HM.out⟩
  case round =>
    obtain ⟨i, q, hi, rfl, rfl, hq, hq2, hMr⟩ := hrel
    have hin : i * 1048577 ≤ 1048576 * 1048577 := Nat.mul_le_mul_right _ (by omega)
    have hqb : q ≤ 2000000000000000 := by omega
    have hq0 : 0 < q := by omega
    have HR := Lib.hid hMr
    clear hMr
    by_cases hlt : i < xs.length
    · obtain ⟨ea, hlb⟩ := HA.out (by omega)
      subst ea
      obtain ⟨c0, c1, ct⟩ := HC.out i hlt
      have hwi := HW.out i hlt
      obtain ⟨aw, lw, cw, ew⟩ := ct.slice
      rw [ew] at c1 ct
      have HI := Lib.hid (fun (W : World) (hM : Mkd S w0 W) (z : Int) (hz : z = ((q + 1 : Nat) : Int)) => mkTx_any S w0 HS.out (.slice aw lw cw) _ ct (q + 1) z hz W hM (by omega) (by omega))
      generalize (xs.getD i default).words.length = m at *
      clear ct ew
      have HT := Lib.hid (fun (W : World) (z : Int) (hz : z = ((q + 0 : Nat) : Int)) => show Calls Tryz.prog 142 #[.int .i64 z] W (fun e w' => e = .returned (.string ⟨(mkT (q + 0)).toArray⟩) ∧ Below W.heap.size W w') by rw [hz]; exact markText_any (q + 0) (by omega) (by omega) W)
      generalize mkT (q + 0) = tx at *
      go_wp2_with fail
      refine (HT.out _ _ (by omega)).mono ?_
      rintro e w1 ⟨rfl, hb1⟩
      have hMc := MM.step (w1 := w1) HR.out HS.out hb1
      obtain ⟨z0, p0⟩ := hMc.cell HS.out hlb c0
      have p1 := hMc.sl HS.out hlb c1
      have pf := fun o => hMc.fz HS.out hlb o
      have HM1 := Lib.hid (hMc.set HS.out hlb c0 (nsS _) (.string ⟨tx.toArray⟩) (nsS _))
      clear hb1 HT hMc c0 c1
      go_wp2_with fail
      refine (HI.out _ HM1.out.a _ (by omega)).mono ?_
      rintro e w2 ⟨rfl, hm2⟩
      have HM2 := Lib.hid (HM1.out.call hm2)
      clear hm2 HM1 HI p0 p1 pf
      go_wp2
      go_roundw
      case rel => exact ⟨i + 1, q + 1 + 1 * m, by omega, by go_num, by go_num, by omega, by omega, HM2.out⟩
      case measure => simp [intOf]; omega
    · obtain rfl : i = xs.length := by omega
      go_wp2
      go_ret
      exact ⟨q, rfl, hq, by omega, HR.out.b⟩
set_option maxRecDepth 100000 in
set_option maxHeartbeats 4000000 in
theorem mkWi_any (S : Nat → Prop) (w0 : World) (hS : ∀ b, S b → Cl w0 b) (v : Value) (xs : List Wi) (h : WiIn S w0 v xs) (hws : ∀ i, i < xs.length → (xs.getD i default).ids.length ≤ 1048576) (hxs : xs.length ≤ 1048576) (k : Nat) (z : Int) (hz : z = (k : Int)) (w : World) (hM : Mkd S w0 w) (hk : 0 < k) (hk2 : k ≤ 1000000000000000) :
    Calls Tryz.prog 76 #[v, .int .i64 z] w fun e w' => ∃ k' : Nat, e = .returned (.int .i64 (k' : Int)) ∧ k ≤ k' ∧ Mkd S w w' := by
  subst hz
  obtain ⟨a, cap, b, off, us, rfl, hcap, hm, -, ha, hc⟩ := h
  have HC := Lib.hid hc
  have HA := Lib.hid ha
  have HS := Lib.hid hS
  have HW := Lib.hid hws
  have HM := Lib.hid (MM.start hM)
  clear hc ha hS hM hws
  go_enter Tryz.func76, Tryz.ntmps76
  go_wp2
  go_loopw [1, 5] (fun kv iv wr => ∃ i q : Nat, i ≤ xs.length ∧ iv = .int .i64 i ∧ kv = .int .i64 (q : Int) ∧ k ≤ q ∧ q ≤ k + i * 1048582 ∧ MM S w0 w wr) (fun _ iv _ => xs.length - (intOf iv).toNat)
  case atStart => exact ⟨0, k, by omega, rfl, rfl, by omega, by omega, HM.out⟩
  case round =>
    obtain ⟨i, q, hi, rfl, rfl, hq, hq2, hMr⟩ := hrel
    have hin : i * 1048582 ≤ 1048576 * 1048582 := Nat.mul_le_mul_right _ (by omega)
    have hqb : q ≤ 2000000000000000 := by omega
    have hq0 : 0 < q := by omega
    have HR := Lib.hid hMr
    clear hMr
    by_cases hlt : i < xs.length
    · obtain ⟨ea, hlb⟩ := HA.out (by omega)
      subst ea
      obtain ⟨c0, c1, c2, c3, c4, c5, c6, cN⟩ := HC.out i hlt
      have hwi := HW.out i hlt
      have ct := cN.id
      obtain ⟨aw, lw, cw, ew⟩ := ct.slice
      rw [ew] at c4 ct
      have HI := Lib.hid (fun (W : World) (hM : Mkd S w0 W) (z : Int) (hz : z = ((q + 4 : Nat) : Int)) => mkIn_any S w0 HS.out (.slice aw lw cw) _ ct (q + 4) z hz W hM (by omega) (by omega))
      generalize (xs.getD i default).ids.length = m at *
      clear ct ew cN
      have HT := Lib.hid (fun (W : World) (z : Int) (hz : z = ((q + 2 : Nat) : Int)) => show Calls Tryz.prog 142 #[.int .i64 z] W (fun e w' => e = .returned (.string ⟨(mkT (q + 2)).toArray⟩) ∧ Below W.heap.size W w') by rw [hz]; exact markText_any (q + 2) (by omega) (by omega) W)
      generalize mkT (q + 2) = tx at *
      have hMc := HR.out
      obtain ⟨z0, p0⟩ := hMc.cell HS.out hlb c0
      obtain ⟨z1, p1⟩ := hMc.cell HS.out hlb c1
      have pf := fun o => hMc.fz HS.out hlb o
      have HM1 := Lib.hid ((hMc.set HS.out hlb c0 (nsI _ _) (.int .i64 (q : Int)) (nsI _ _)).set HS.out hlb c1 (nsI _ _) (.int .i64 ((q : Int) + 1)) (nsI _ _))
      clear hMc
      go_wp2_with fail
      refine (HT.out _ _ (by omega)).mono ?_
      rintro e w1 ⟨rfl, hb1⟩
      have hMc := MM.step (w1 := w1) HM1.out HS.out hb1
      clear hb1 HT p0 p1 pf HM1
      obtain ⟨z2, p2⟩ := hMc.cell HS.out hlb c2
      have pf := fun o => hMc.fz HS.out hlb o
      have HM2 := Lib.hid (hMc.set HS.out hlb c2 (nsS _) (.string ⟨tx.toArray⟩) (nsS _))
      clear hMc
      have HT := Lib.hid (fun (W : World) (z : Int) (hz : z = ((q + 3 : Nat) : Int)) => show Calls Tryz.prog 142 #[.int .i64 z] W (fun e w' => e = .returned (.string ⟨(mkT (q + 3)).toArray⟩) ∧ Below W.heap.size W w') by rw [hz]; exact markText_any (q + 3) (by omega) (by omega) W)
      generalize mkT (q + 3) = ty at *
      go_wp2_with fail
      refine (HT.out _ _ (by omega)).mono ?_
      rintro e w2 ⟨rfl, hb1⟩
      have hMc := MM.step (w1 := w2) HM2.out HS.out hb1
      clear hb1 HT p2 pf HM2
      obtain ⟨z3, p3⟩ := hMc.cell HS.out hlb c3
      have p4 := hMc.sl HS.out hlb c4
      have pf := fun o => hMc.fz HS.out hlb o
      have HM3 := Lib.hid (hMc.set HS.out hlb c3 (nsS _) (.string ⟨ty.toArray⟩) (nsS _))
      clear hMc
      go_wp2_with fail
      refine (HI.out _ HM3.out.a _ (by omega)).mono ?_
      rintro e w3 ⟨rfl, hm3⟩
      have hMc := HM3.out.call hm3
      clear hm3 HI p3 p4 pf HM3
      obtain ⟨q2, hq3⟩ : ∃ q2, q + 4 + 1 * m = q2 := ⟨_, rfl⟩
      rw [hq3]
      have HQ3 := Lib.hid hq3
      have hqb2 : q2 ≤ 3000000000000000 := by omega
      have hq02 : 0 < q2 := by omega
      clear hq3
      obtain ⟨z5, p5⟩ := hMc.cell HS.out hlb c5
      obtain ⟨z6, p6⟩ := hMc.cell HS.out hlb c6
      have HM4 := Lib.hid hMc
      clear hMc p5 p6
      have HT := Lib.hid (fun (W : World) (z : Int) (hz : z = ((q2 + 0 : Nat) : Int)) => show Calls Tryz.prog 142 #[.int .i64 z] W (fun e w' => e = .returned (.string ⟨(mkT (q2 + 0)).toArray⟩) ∧ Below W.heap.size W w') by rw [hz]; exact markText_any (q2 + 0) (by omega) (by omega) W)
      generalize mkT (q2 + 0) = tz at *
      go_wp2_with fail
      refine (HT.out _ _ (by omega)).mono ?_
      rintro e w4 ⟨rfl, hb1⟩
      have hMc := MM.step (w1 := w4) HM4.out HS.out hb1
      clear hb1 HT HM4
      obtain ⟨z5, p5⟩ := hMc.cell HS.out hlb c5
      obtain ⟨z6, p6⟩ := hMc.cell HS.out hlb c6
      have pf := fun o => hMc.fz HS.out hlb o
      have HM5 := Lib.hid ((hMc.set HS.out hlb c5 (nsS _) (.string ⟨tz.toArray⟩) (nsS _)).set HS.out hlb c6 (nsB _) (.bool (decide ((q2 + 1) % 3 = 0))) (nsB _))
      clear hMc c0 c1 c2 c3 c4 c5 c6
      have hbg : (((q2 : Int) + 1) % 3 == 0) = decide ((q2 + 1) % 3 = 0) := by rw [Bool.eq_iff_iff, beq_iff_eq, decide_eq_true_iff]; omega
      go_wp2
      go_roundw
      case rel => exact ⟨i + 1, q2 + 2, by omega, by go_num, by go_num, by have := HQ3.out; omega, by have := HQ3.out; omega, HM5.out⟩
      case measure => simp [intOf]; omega
    · obtain rfl : i = xs.length := by omega
      go_wp2
      go_ret
      exact ⟨q, rfl, hq, HR.out.b⟩
set_option maxRecDepth 100000 in
set_option maxHeartbeats 4000000 in
theorem mkCn_any (S : Nat → Prop) (w0 : World) (hS : ∀ b, S b → Cl w0 b) (v : Value) (xs : List Cn) (h : CnIn S w0 v xs) (hws : ∀ i, i < xs.length → Pi.CSm (xs.getD i default)) (hxs : xs.length ≤ 1048576) (k : Nat) (z : Int) (hz : z = (k : Int)) (w : World) (hM : Mkd S w0 w) (hk : 0 < k) (hk2 : k ≤ 100000000000000) :
    Calls Tryz.prog 74 #[v, .int .i64 z] w fun e w' => ∃ k' : Nat, e = .returned (.int .i64 (k' : Int)) ∧ k ≤ k' ∧ k' ≤ k + 15393164886016 ∧ Mkd S w w' := by
  subst hz
  obtain ⟨a, cap, b, off, us, rfl, hcap, hm, -, ha, hc⟩ := h
  have HC := Lib.hid hc
  have HA := Lib.hid ha
  have HS := Lib.hid hS
  have HW := Lib.hid hws
  have HM := Lib.hid (MM.start hM)
  clear hc ha hS hM hws
  go_enter Tryz.func74, Tryz.ntmps74
  go_wp2
  go_loopw [1, 5] (fun kv iv wr => ∃ i q : Nat, i ≤ xs.length ∧ iv = .int .i64 i ∧ kv = .int .i64 (q : Int) ∧ k ≤ q ∧ q ≤ k + i * 14680066 ∧ MM S w0 w wr) (fun _ iv _ => xs.length - (intOf iv).toNat)
  case atStart => exact ⟨0, k, by omega, rfl, rfl, by omega, by omega, HM.out⟩
  case round =>
    obtain ⟨i, q, hi, rfl, rfl, hq, hq2, hMr⟩ := hrel
    have hin : i * 14680066 ≤ 1048576 * 14680066 := Nat.mul_le_mul_right _ (by omega)
    have hqb : q ≤ 200000000000000 := by omega
    have hq0 : 0 < q := by omega
    have HR := Lib.hid hMr
    clear hMr
    by_cases hlt : i < xs.length
    · obtain ⟨ea, hlb⟩ := HA.out (by omega)
      subst ea
      obtain ⟨c0, c1, c2, c3, c4, c5, cN⟩ := HC.out i hlt
      obtain ⟨ht, hp, hr, hx⟩ := HW.out i hlt
      obtain ⟨ct, cp, ci, cr⟩ := cN
      obtain ⟨at1, lt1, ct1, e1⟩ := ct.slice
      obtain ⟨at2, lt2, ct2, e2⟩ := cp.slice
      obtain ⟨at3, lt3, ct3, e3⟩ := ci.slice
      obtain ⟨at4, lt4, ct4, e4⟩ := cr.slice
      rw [e1] at c2 ct
      rw [e2] at c3 cp
      rw [e3] at c4 ci
      rw [e4] at c5 cr
      have HI1 := Lib.hid (fun (W : World) (hM : Mkd S w0 W) (q : Nat) (h0 : 0 < q) (hb : q ≤ 300000000000000) (z : Int) (hz : z = ((q : Nat) : Int)) => mkTg_any S w0 HS.out (.slice at1 lt1 ct1) _ ct q z hz W hM h0 (by omega))
      have HI2 := Lib.hid (fun (W : World) (hM : Mkd S w0 W) (q : Nat) (h0 : 0 < q) (hb : q ≤ 300000000000000) (z : Int) (hz : z = ((q : Nat) : Int)) => mkPr_any S w0 HS.out (.slice at2 lt2 ct2) _ cp q z hz W hM h0 (by omega))
      have HI3 := Lib.hid (fun (W : World) (hM : Mkd S w0 W) (q : Nat) (h0 : 0 < q) (hb : q ≤ 300000000000000) (z : Int) (hz : z = ((q : Nat) : Int)) => mkRp_any S w0 HS.out (.slice at3 lt3 ct3) _ ci q z hz W hM h0 (by omega))
      have HI4 := Lib.hid (fun (W : World) (hM : Mkd S w0 W) (q : Nat) (h0 : 0 < q) (hb : q ≤ 300000000000000) (z : Int) (hz : z = ((q : Nat) : Int)) => mkTx_any S w0 HS.out (.slice at4 lt4 ct4) _ cr q z hz W hM h0 (by omega))
      clear ct cp ci cr e1 e2 e3 e4
      generalize (xs.getD i default).g.tgs.length = m1 at *
      generalize (xs.getD i default).ps.length = m2 at *
      generalize (xs.getD i default).q.items.length = m3 at *
      generalize (xs.getD i default).q.recent.length = m4 at *
      have HT := Lib.hid (fun (W : World) (z : Int) (hz : z = ((q + 0 : Nat) : Int)) => show Calls Tryz.prog 142 #[.int .i64 z] W (fun e w' => e = .returned (.string ⟨(mkT (q + 0)).toArray⟩) ∧ Below W.heap.size W w') by rw [hz]; exact markText_any (q + 0) (by omega) (by omega) W)
      generalize mkT (q + 0) = tx at *
      go_wp2_with fail
      refine (HT.out _ _ (by omega)).mono ?_
      rintro e w1 ⟨rfl, hb1⟩
      have hMc := MM.step (w1 := w1) HR.out HS.out hb1
      obtain ⟨z0, p0⟩ := hMc.cell HS.out hlb c0
      obtain ⟨z1, p1⟩ := hMc.cell HS.out hlb c1
      have p2 := hMc.sl HS.out hlb c2
      have pf := fun o => hMc.fz HS.out hlb o
      have HM1 := Lib.hid ((hMc.set HS.out hlb c0 (nsS _) (.string ⟨tx.toArray⟩) (nsS _)).set HS.out hlb c1 (nsI _ _) (.int .i64 ((q : Int) + 1)) (nsI _ _))
      clear hb1 HT hMc
      go_wp2_with fail
      refine (HI1.out _ HM1.out.a (q + 2) (by omega) (by omega) _ (by omega)).mono ?_
      rintro e w2 ⟨rfl, hm2⟩
      have HM2 := Lib.hid (HM1.out.call hm2)
      clear hm2 HM1 HI1 p0 p1 p2 pf
      obtain ⟨q2, hq3⟩ : ∃ q2, q + 2 + 3 * m1 = q2 := ⟨_, rfl⟩
      rw [hq3]
      have HQ2 := Lib.hid (show q ≤ q2 ∧ q2 ≤ q + 2 + 3145728 by omega)
      have hqb2 : q2 ≤ 300000000000000 := by omega
      have hq02 : 0 < q2 := by omega
      clear hq3
      have p3 := HM2.out.sl HS.out hlb c3
      go_wp2_with fail
      refine (HI2.out _ HM2.out.a q2 (by omega) (by omega) _ rfl).mono ?_
      rintro e w3 ⟨rfl, hm3⟩
      have HM3 := Lib.hid (HM2.out.call hm3)
      clear hm3 HM2 HI2 p3
      obtain ⟨q3, hq3⟩ : ∃ q3, q2 + 6 * m2 = q3 := ⟨_, rfl⟩
      rw [hq3]
      have HQ3 := Lib.hid (show q2 ≤ q3 ∧ q3 ≤ q2 + 6291456 by omega)
      have hqb3 : q3 ≤ 300000000000000 := by have := HQ2.out; omega
      have hq03 : 0 < q3 := by omega
      clear hq3
      have p4 := HM3.out.sl HS.out hlb c4
      go_wp2_with fail
      refine (HI3.out _ HM3.out.a q3 (by omega) (by omega) _ rfl).mono ?_
      rintro e w4 ⟨rfl, hm4⟩
      have HM4 := Lib.hid (HM3.out.call hm4)
      clear hm4 HM3 HI3 p4
      obtain ⟨q4, hq3⟩ : ∃ q4, q3 + 4 * m3 = q4 := ⟨_, rfl⟩
      rw [hq3]
      have HQ4 := Lib.hid (show q3 ≤ q4 ∧ q4 ≤ q3 + 4194304 by omega)
      have hqb4 : q4 ≤ 300000000000000 := by have := HQ2.out; have := HQ3.out; omega
      have hq04 : 0 < q4 := by omega
      clear hq3
      have p5 := HM4.out.sl HS.out hlb c5
      go_wp2_with fail
      refine (HI4.out _ HM4.out.a q4 (by omega) (by omega) _ rfl).mono ?_
      rintro e w5 ⟨rfl, hm5⟩
      have HM5 := Lib.hid (HM4.out.call hm5)
      clear hm5 HM4 HI4 p5 c0 c1 c2 c3 c4 c5
      go_wp2
      go_roundw
      case rel => exact ⟨i + 1, q4 + 1 * m4, by omega, by go_num, by go_num, by have := HQ2.out; have := HQ3.out; have := HQ4.out; omega, by have := HQ2.out; have := HQ3.out; have := HQ4.out; omega, HM5.out⟩
      case measure => simp [intOf]; omega
    · obtain rfl : i = xs.length := by omega
      go_wp2
      go_ret
      exact ⟨q, rfl, hq, by omega, HR.out.b⟩
set_option maxRecDepth 100000 in
set_option maxHeartbeats 2000000 in
theorem mkPl_any (S : Nat → Prop) (w0 : World) (hS : ∀ b, S b → Cl w0 b) (p : Pl) (uv rv : Value) (hu : TxtsIn S w0 uv p.uris) (hr : RlIn S w0 rv p.rules) (hsu : p.uris.length ≤ 1048576) (hsr : p.rules.length ≤ 1048576) (hsw : ∀ i, i < p.rules.length → (p.rules.getD i default).words.length ≤ 1048576) (k : Nat) (z : Int) (hz : z = (k : Int)) (w : World) (hM : Mkd S w0 w) (hk : 0 < k) (hk2 : k ≤ 500000000000000) :
    Calls Tryz.prog 75 #[Po.pV p uv rv, .int .i64 z] w fun e w' => ∃ k' : Nat, e = .returned (.int .i64 (k' : Int)) ∧ k ≤ k' ∧ k' ≤ k + 1099513724928 ∧ Mkd S w w' := by
  subst hz
  obtain ⟨rp, us, rs⟩ := p
  simp only at hu hr hsu hsr hsw
  have HS := Lib.hid hS
  have HA := Lib.hid (fun (W : World) (hM : Mkd S w0 W) => mkTx_any S w0 hS uv us hu k _ rfl W hM hk (by omega))
  have HBB := Lib.hid (fun (W : World) (hM : Mkd S w0 W) (q : Nat) (h0 : 0 < q) (hb : q ≤ 1000000000000000) => mkRl_any S w0 hS rv rs hr hsw hsr q _ rfl W hM h0 hb)
  obtain ⟨a1, l1, c1, rfl⟩ := hu.slice
  obtain ⟨a2, l2, c2, rfl⟩ := hr.slice
  have hnS : ¬ S w.heap.size := fun hs => by have := (hS _ hs).lt; have := hM.size; omega
  have K0 := Lib.hid (Qu.Hd.new w (.cells #[.string ⟨rp.toArray⟩, .slice a1 l1 c1, .slice a2 l2 c2] 37))
  have HM0 := Lib.hid ((MM.start hM).step hS ((Below.refl w.heap.size w).alloc (Nat.le_refl _) (.cells #[.string ⟨rp.toArray⟩, .slice a1 l1 c1, .slice a2 l2 c2] 37)))
  have HNS := Lib.hid hnS
  generalize us.length = m1 at *
  clear hnS hu hr hS hM hsw
  go_enter Tryz.func75, Tryz.ntmps75
  go_wp2_with fail
  refine (HA.out _ HM0.out.a).mono ?_
  rintro e w1 ⟨rfl, hm1⟩
  have K1 := Lib.hid (show Qu.Hd w1 w.heap.size (.cells #[.string ⟨rp.toArray⟩, .slice a1 l1 c1, .slice a2 l2 c2] 37) from (hm1.block _ (by simp) HNS.out).trans K0.out)
  have HM1 := Lib.hid (HM0.out.call hm1)
  clear hm1 K0 HM0 HA
  have kk := K1.out
  have m0' := cell_of_row w1 w.heap.size 0 _ _ _ kk
  have m1' := cell_of_row w1 w.heap.size 1 _ _ _ kk
  have m2' := cell_of_row w1 w.heap.size 2 _ _ _ kk
  clear kk
  obtain ⟨q, hq⟩ : ∃ q, k + 1 * m1 = q := ⟨_, rfl⟩
  rw [hq]
  have HQ := Lib.hid (show k ≤ q ∧ q ≤ k + 1048576 by omega)
  have hq0 : 0 < q := by omega
  have hqb : q ≤ 1000000000000000 := by omega
  clear hq
  go_wp2_with fail
  refine (HBB.out w1 HM1.out.a q hq0 hqb).mono ?_
  rintro e w2 ⟨k', rfl, hk3, hk4, hm2⟩
  have HM2 := Lib.hid (HM1.out.call hm2)
  clear hm2
  go_wp2
  go_ret
  exact ⟨k', rfl, by have := HQ.out; omega, by have := HQ.out; omega, HM2.out.b⟩
theorem loT {S : Nat → Prop} {w0 : World} (hS : ∀ b, S b → Cl w0 b) {b : Nat} (h : w0.heap.size ≤ b) : ¬ S b := fun hs => by have := (hS _ hs).lt; omega
set_option maxRecDepth 100000 in
set_option maxHeartbeats 4000000 in
theorem mkPp_any (S : Nat → Prop) (w0 : World) (hS : ∀ b, S b → Cl w0 b) (p : Pp) (u : PV) (h : PpN S w0 u p) (hs : Pi.PSm p) (w : World) (hM : Mkd S w0 w) :
    Calls Tryz.prog 22 #[pV8 p u, .int .i64 1] w fun e w' => ∃ k' : Nat, e = .returned (.int .i64 (k' : Int)) ∧ Mkd S w w' := by
  obtain ⟨chs, ⟨rp, uris, rules⟩, now, next, log, ws⟩ := p
  obtain ⟨u1, u2, u3, u4, u5⟩ := u
  obtain ⟨h1, h2, h3, h4, h5⟩ := h
  obtain ⟨s1, s2, s3, s4, s5, s6, s7, s8⟩ := hs
  simp only at h1 h2 h3 h4 h5 s1 s2 s3 s4 s5 s6 s7 s8
  have HS := Lib.hid hS
  have H1 := Lib.hid (fun (W : World) (hM : Mkd S w0 W) => mkCn_any S w0 hS u1 chs h1 s2 s1 1 1 rfl W hM (by omega) (by omega))
  have H2 := Lib.hid (fun (W : World) (hM : Mkd S w0 W) (q : Nat) (h0 : 0 < q) (hb : q ≤ 500000000000000) => mkPl_any S w0 hS ⟨rp, uris, rules⟩ u2 u3 h2 h3 s3 s4 s5 q _ rfl W hM h0 hb)
  have H3 := Lib.hid (fun (W : World) (hM : Mkd S w0 W) (q : Nat) (h0 : 0 < q) (hb : q ≤ 500000000000000) => mkEn_any S w0 hS u4 log h4 q _ rfl W hM h0 (by omega))
  have H4 := Lib.hid (fun (W : World) (hM : Mkd S w0 W) (q : Nat) (h0 : 0 < q) (hb : q ≤ 1000000000000000) => mkWi_any S w0 hS u5 ws h5 s8 s7 q _ rfl W hM h0 hb)
  obtain ⟨a1, l1, c1, rfl⟩ := h1.slice
  obtain ⟨a2, l2, c2, rfl⟩ := h2.slice
  obtain ⟨a3, l3, c3, rfl⟩ := h3.slice
  obtain ⟨a4, l4, c4, rfl⟩ := h4.slice
  obtain ⟨a5, l5, c5, rfl⟩ := h5.slice
  have HNS := Lib.hid (loT hS hM.size)
  have K := Lib.hid (Qu.Hd.new w (.cells #[.slice a1 l1 c1, .string ⟨rp.toArray⟩, .slice a2 l2 c2, .slice a3 l3 c3, .int .i64 now, .int .i64 next, .slice a4 l4 c4, .slice a5 l5 c5] 41))
  have HM0 := Lib.hid ((MM.start hM).step hS ((Below.refl w.heap.size w).alloc (Nat.le_refl _) (.cells #[.slice a1 l1 c1, .string ⟨rp.toArray⟩, .slice a2 l2 c2, .slice a3 l3 c3, .int .i64 now, .int .i64 next, .slice a4 l4 c4, .slice a5 l5 c5] 41)))
  have hlg : log.length ≤ 1048576 := s6
  generalize log.length = m4 at *
  clear h1 h2 h3 h4 h5 hS hM s1 s2 s3 s4 s5 s6 s7 s8
  go_enter Tryz.func22, Tryz.ntmps22
  go_wp2_with fail
  refine (H1.out _ HM0.out.a).mono ?_
  rintro e v1 ⟨q1, rfl, hq1, hq2, hm⟩
  have K := Lib.hid (show Qu.Hd v1 w.heap.size _ from (hm.block _ (by simp) HNS.out).trans K.out)
  have HM1 := Lib.hid (HM0.out.call hm)
  clear hm HM0 H1
  have z1 : w.heap.size < v1.heap.size := K.out.lt
  have kk := K.out
  have m0 := cell_of_row v1 w.heap.size 0 _ _ _ kk
  have m1 := cell_of_row v1 w.heap.size 1 _ _ _ kk
  have m2 := cell_of_row v1 w.heap.size 2 _ _ _ kk
  have m3 := cell_of_row v1 w.heap.size 3 _ _ _ kk
  have m5 := cell_of_row v1 w.heap.size 4 _ _ _ kk
  have m6 := cell_of_row v1 w.heap.size 5 _ _ _ kk
  have m7 := cell_of_row v1 w.heap.size 6 _ _ _ kk
  have m8 := cell_of_row v1 w.heap.size 7 _ _ _ kk
  clear kk
  go_wp2_with fail
  refine (H2.out _ HM1.out.a q1 (by omega) (by omega)).mono ?_
  rintro e v2 ⟨q2, rfl, hq3, hq4, hm⟩
  have K := Lib.hid (show Qu.Hd v2 w.heap.size _ from (hm.block _ z1 HNS.out).trans K.out)
  have HM2 := Lib.hid (HM1.out.call hm)
  clear hm HM1 H2 m0 m1 m2 m3 m5 m6 m7 m8
  have z2 : w.heap.size < v2.heap.size := K.out.lt
  have kk := K.out
  have m0 := cell_of_row v2 w.heap.size 0 _ _ _ kk
  have m1 := cell_of_row v2 w.heap.size 1 _ _ _ kk
  have m2 := cell_of_row v2 w.heap.size 2 _ _ _ kk
  have m3 := cell_of_row v2 w.heap.size 3 _ _ _ kk
  have m5 := cell_of_row v2 w.heap.size 4 _ _ _ kk
  have m6 := cell_of_row v2 w.heap.size 5 _ _ _ kk
  have m7 := cell_of_row v2 w.heap.size 6 _ _ _ kk
  have m8 := cell_of_row v2 w.heap.size 7 _ _ _ kk
  clear kk
  go_wp2_with fail
  refine (H3.out _ HM2.out.a q2 (by omega) (by omega)).mono ?_
  rintro e v3 ⟨rfl, hm⟩
  have K := Lib.hid (show Qu.Hd v3 w.heap.size _ from (hm.block _ z2 HNS.out).trans K.out)
  have HM3 := Lib.hid (HM2.out.call hm)
  clear hm HM2 H3 m0 m1 m2 m3 m5 m6 m7 m8
  have kk := K.out
  have m0 := cell_of_row v3 w.heap.size 0 _ _ _ kk
  have m1 := cell_of_row v3 w.heap.size 1 _ _ _ kk
  have m2 := cell_of_row v3 w.heap.size 2 _ _ _ kk
  have m3 := cell_of_row v3 w.heap.size 3 _ _ _ kk
  have m5 := cell_of_row v3 w.heap.size 4 _ _ _ kk
  have m6 := cell_of_row v3 w.heap.size 5 _ _ _ kk
  have m7 := cell_of_row v3 w.heap.size 6 _ _ _ kk
  have m8 := cell_of_row v3 w.heap.size 7 _ _ _ kk
  clear kk
  obtain ⟨q3, hq⟩ : ∃ q3, q2 + 3 * m4 = q3 := ⟨_, rfl⟩
  rw [hq]
  have hq5 : 0 < q3 := by omega
  have hq6 : q3 ≤ 1000000000000000 := by omega
  clear hq
  go_wp2_with fail
  refine (H4.out _ HM3.out.a q3 hq5 hq6).mono ?_
  rintro e v4 ⟨q4, rfl, hq7, hm⟩
  have HM4 := Lib.hid (HM3.out.call hm)
  clear hm
  go_wp2
  go_ret
  exact ⟨q4, rfl, HM4.out.b⟩
end Go.Proofs.YtmaknkbmilcanaaGreatDoor.Pf
