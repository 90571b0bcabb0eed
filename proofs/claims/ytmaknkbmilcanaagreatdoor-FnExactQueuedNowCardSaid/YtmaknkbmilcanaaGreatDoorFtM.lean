
/-
  What the laws on pipes with answers of numbers or of entries carry: the model's answer, the program's answer in fresh rows; marks written into such an answer and looked at again.
-/
import Derived.Test.YtmaknkbmilcanaaGreatDoorFtC
import Derived.Test.YtmaknkbmilcanaaGreatDoorPg
import Derived.Test.YtmaknkbmilcanaaGreatDoorQuM
namespace Go.Proofs.YtmaknkbmilcanaaGreatDoor.Ft
open Go.RowKit
open Go.Proofs.YtmaknkbmilcanaaGreatDoor.Gr (ret_i belI_step)
open Go.Proofs.YtmaknkbmilcanaaGreatDoor.Qu (IntsIn OI Hd mki mki_len mki_get)
open Go.Proofs.YtmaknkbmilcanaaGreatDoor.Pi (En EnIn)
open Go.Proofs.YtmaknkbmilcanaaGreatDoor.Pf (Cl Fr Mkd own_cl cl_row)
open Go.Proofs.YtmaknkbmilcanaaGreatDoor.Mk (Ch)
theorem below_chain {W w w' : World} (h : Below W.heap.size W w) (h2 : Below w.heap.size w w') : Below W.heap.size W w' := h.trans (h2.mono h.size)
theorem mkd_ch {S : Nat → Prop} {w w' : World} (h : Mkd S w w') : Ch S w w' := ⟨h.os, h.tape, h.output, h.size, h.block⟩
/-- v is a slice of the numbers ns, in rows of cells from base on -/
def IFr (w : World) (base : Nat) (v : Value) (ns : List Int) : Prop := IntsIn (Fr base w) w v ns
def EFr (w : World) (base : Nat) (v : Value) (xs : List En) : Prop := EnIn (Fr base w) w v xs
theorem ifr_of {w : World} {base : Nat} {v : Value} {ns : List Int} (h : OI w base v ns) : IFr w base v ns := by
  have hc := own_cl h
  obtain ⟨a, cap, b, off, rfl, h1, h2, h4, h5⟩ := h.ints
  exact ⟨a, cap, b, off, rfl, h1, h2, fun hp => ⟨(h4 hp).1, (h4 hp).2.1, (h4 hp).2.2, hc b (by rw [(h4 hp).1]; rfl)⟩, h5⟩
theorem efr_of {w : World} {base : Nat} {v : Value} {ns : List En} (h : OE w base v ns) : EFr w base v ns := by
  have hc := own_cl h
  obtain ⟨a, cap, b, off, rfl, h1, h2, h3, h4, h5⟩ := h.en
  exact ⟨a, cap, b, off, rfl, h1, h2, h3, fun hp => ⟨(h4 hp).1, (h4 hp).2.1, (h4 hp).2.2, hc b (by rw [(h4 hp).1]; rfl)⟩, h5⟩
theorem ifr_below {w w' : World} {base : Nat} {v : Value} {ns : List Int} (h : IFr w base v ns) (hb : Below w.heap.size w w') : IFr w' base v ns :=
  IntsIn.same h fun b h' => ⟨⟨h'.1, Nat.lt_of_lt_of_le h'.2.1 hb.size, h'.2.2.same (hb.block b h'.2.1)⟩, hb.block b h'.2.1⟩
theorem efr_below {w w' : World} {base : Nat} {v : Value} {ns : List En} (h : EFr w base v ns) (hb : Below w.heap.size w w') : EFr w' base v ns :=
  EnIn.same h fun b h' => ⟨⟨h'.1, Nat.lt_of_lt_of_le h'.2.1 hb.size, h'.2.2.same (hb.block b h'.2.1)⟩, hb.block b h'.2.1⟩
theorem ifr_ch {S : Nat → Prop} {w w' : World} {base : Nat} {v : Value} {ns : List Int} (h : IFr w base v ns) (hm : Ch S w w') (hS : ∀ b, S b → b < base) : IFr w' base v ns :=
  IntsIn.same h fun b h' => have e := hm.block b h'.2.1 (fun hs => by have := hS b hs; have := h'.1; omega); ⟨⟨h'.1, Nat.lt_of_lt_of_le h'.2.1 hm.size, h'.2.2.same e⟩, e⟩
theorem efr_ch {S : Nat → Prop} {w w' : World} {base : Nat} {v : Value} {ns : List En} (h : EFr w base v ns) (hm : Ch S w w') (hS : ∀ b, S b → b < base) : EFr w' base v ns :=
  EnIn.same h fun b h' => have e := hm.block b h'.2.1 (fun hs => by have := hS b hs; have := h'.1; omega); ⟨⟨h'.1, Nat.lt_of_lt_of_le h'.2.1 hm.size, h'.2.2.same e⟩, e⟩
theorem ifr_in {w : World} {base : Nat} {v : Value} {ns : List Int} (h : IFr w base v ns) : IntsIn (· < w.heap.size) w v ns := IntsIn.same h fun _ h' => ⟨h'.2.1, rfl⟩
theorem efr_in {w : World} {base : Nat} {v : Value} {ns : List En} (h : EFr w base v ns) : EnIn (· < w.heap.size) w v ns := EnIn.same h fun _ h' => ⟨h'.2.1, rfl⟩
/-- the model's answer: all of it in blocks below s -/
structure SI0 (W : World) (s : Nat) (pv : Value) (R : List Int) (w : World) : Prop where
  B : Below W.heap.size W w
  f1 : IntsIn (· < s) w pv R
  zA : W.heap.size ≤ s
  z : s ≤ w.heap.size
structure SE0 (W : World) (s : Nat) (pv : Value) (R : List En) (w : World) : Prop where
  B : Below W.heap.size W w
  f1 : EnIn (· < s) w pv R
  zA : W.heap.size ≤ s
  z : s ≤ w.heap.size
/-- besides: the program's answer, in rows from s2 on -/
structure SI1 (W : World) (s : Nat) (pv : Value) (R : List Int) (s2 : Nat) (gv : Value) (G : List Int) (w : World) : Prop where
  o : SI0 W s pv R w
  z : s ≤ s2
  z2 : s2 ≤ w.heap.size
  g1 : IFr w s2 gv G
structure SE1 (W : World) (s : Nat) (pv : Value) (R : List En) (s2 : Nat) (gv : Value) (G : List En) (w : World) : Prop where
  o : SE0 W s pv R w
  z : s ≤ s2
  z2 : s2 ≤ w.heap.size
  g1 : EFr w s2 gv G
section
variable {W w w' : World} {s s2 : Nat} {pv gv : Value} {R G G' : List Int}
theorem SI0.below (h : SI0 W s pv R w) (hb : Below w.heap.size w w') : SI0 W s pv R w' := ⟨below_chain h.B hb, h.f1.blw (hb.mono h.z), h.zA, Nat.le_trans h.z hb.size⟩
theorem SI0.low (h : SI0 W s pv R w) {t : Nat} (hb : Below t w w') (ht : s ≤ t) : SI0 W s pv R w' := ⟨h.B.trans (hb.mono (Nat.le_trans h.zA ht)), h.f1.blw (hb.mono ht), h.zA, Nat.le_trans h.z hb.size⟩
theorem SI0.ch {S : Nat → Prop} (h : SI0 W s pv R w) (hm : Ch S w w') (hS : ∀ b, S b → s ≤ b) : SI0 W s pv R w' :=
  ⟨hm.below h.B (Nat.le_trans h.zA h.z) (fun b e => Nat.le_trans h.zA (hS b e)), IntsIn.same h.f1 (fun b hb => ⟨hb, hm.block b (Nat.lt_of_lt_of_le hb h.z) (fun e => by have := hS b e; omega)⟩), h.zA, Nat.le_trans h.z hm.size⟩
theorem SI0.r (h : SI0 W s pv R w) : IntsIn (· < w.heap.size) w pv R := h.f1.same fun _ hb => ⟨Nat.lt_of_lt_of_le hb h.z, rfl⟩
theorem SI1.below (h : SI1 W s pv R s2 gv G w) (hb : Below w.heap.size w w') : SI1 W s pv R s2 gv G w' := ⟨h.o.below hb, h.z, Nat.le_trans h.z2 hb.size, ifr_below h.g1 hb⟩
theorem SI1.markX {S : Nat → Prop} (h : SI1 W s pv R s2 gv G w) (hm : Ch S w w') (hS : ∀ b, S b → s ≤ b ∧ b < s2) : SI1 W s pv R s2 gv G w' :=
  ⟨h.o.ch hm fun b hb => (hS b hb).1, h.z, Nat.le_trans h.z2 hm.size, ifr_ch h.g1 hm fun b hb => (hS b hb).2⟩
theorem SI1.markG (h : SI1 W s pv R s2 gv G w) (hb : Below s2 w w') (k1 : IFr w' s2 gv G') : SI1 W s pv R s2 gv G' w' := ⟨h.o.low hb h.z, h.z, Nat.le_trans h.z2 hb.size, k1⟩
end
section
variable {W w w' : World} {s s2 : Nat} {pv gv : Value} {R G G' : List En}
theorem SE0.below (h : SE0 W s pv R w) (hb : Below w.heap.size w w') : SE0 W s pv R w' := ⟨below_chain h.B hb, h.f1.blw (hb.mono h.z), h.zA, Nat.le_trans h.z hb.size⟩
theorem SE0.low (h : SE0 W s pv R w) {t : Nat} (hb : Below t w w') (ht : s ≤ t) : SE0 W s pv R w' := ⟨h.B.trans (hb.mono (Nat.le_trans h.zA ht)), h.f1.blw (hb.mono ht), h.zA, Nat.le_trans h.z hb.size⟩
theorem SE0.ch {S : Nat → Prop} (h : SE0 W s pv R w) (hm : Ch S w w') (hS : ∀ b, S b → s ≤ b) : SE0 W s pv R w' :=
  ⟨hm.below h.B (Nat.le_trans h.zA h.z) (fun b e => Nat.le_trans h.zA (hS b e)), EnIn.same h.f1 (fun b hb => ⟨hb, hm.block b (Nat.lt_of_lt_of_le hb h.z) (fun e => by have := hS b e; omega)⟩), h.zA, Nat.le_trans h.z hm.size⟩
theorem SE0.r (h : SE0 W s pv R w) : EnIn (· < w.heap.size) w pv R := h.f1.same fun _ hb => ⟨Nat.lt_of_lt_of_le hb h.z, rfl⟩
theorem SE1.below (h : SE1 W s pv R s2 gv G w) (hb : Below w.heap.size w w') : SE1 W s pv R s2 gv G w' := ⟨h.o.below hb, h.z, Nat.le_trans h.z2 hb.size, efr_below h.g1 hb⟩
theorem SE1.markX {S : Nat → Prop} (h : SE1 W s pv R s2 gv G w) (hm : Ch S w w') (hS : ∀ b, S b → s ≤ b ∧ b < s2) : SE1 W s pv R s2 gv G w' :=
  ⟨h.o.ch hm fun b hb => (hS b hb).1, h.z, Nat.le_trans h.z2 hm.size, efr_ch h.g1 hm fun b hb => (hS b hb).2⟩
theorem SE1.markG (h : SE1 W s pv R s2 gv G w) (hb : Below s2 w w') (k1 : EFr w' s2 gv G') : SE1 W s pv R s2 gv G' w' := ⟨h.o.low hb h.z, h.z, Nat.le_trans h.z2 hb.size, k1⟩
end
/-! ### marks -/
def mke (n k : Nat) : List En := (List.range n).map fun i => ⟨((k + 3 * i : Nat) : Int), ((k + 3 * i + 1 : Nat) : Int), ((k + 3 * i + 2 : Nat) : Int)⟩
theorem mke_len (n k : Nat) : (mke n k).length = n := by simp [mke]
theorem mke_get (n k i : Nat) (h : i < n) : (mke n k).getD i default = ⟨((k + 3 * i : Nat) : Int), ((k + 3 * i + 1 : Nat) : Int), ((k + 3 * i + 2 : Nat) : Int)⟩ := by simp [mke, h]
/-- a row of cells that holds the marks so far -/
def Row (w wr : World) (base b off k j : Nat) : Prop := (∃ C T, wr.heap[b]? = some (.cells C T) ∧ ∀ o, o < j → C[off + o]? = some (.int .i64 ((k + o : Nat) : Int))) ∧ Below base w wr ∧ Mkd (fun x => x = b) w wr
theorem Row.fz {w wr : World} {base b off k j : Nat} (h : Row w wr base b off k j) (o : Nat) : wr.frozen? ⟨b, o, none⟩ = false := by
  obtain ⟨⟨C, T, hC, _⟩, _⟩ := h
  simp [World.frozen?, hC]
theorem Row.cell {w wr : World} {base b off k j o : Nat} {z : Value} (h : Row w wr base b off k j) (hc : w.cell? ⟨b, o, none⟩ = some z) (hcl : Cl w b) : ∃ z', wr.cell? ⟨b, o, none⟩ = some z' :=
  h.2.2.cell (fun x e => by subst e; exact hcl) rfl hc
theorem Row.set {w wr : World} {base b off k j : Nat} {a : Int} (h : Row w wr base b off k j) (hcl : Cl w b) (hb : base ≤ b) (hc : w.cell? ⟨b, off + j, none⟩ = some (.int .i64 a)) (v : Int) (hv : v = ((k + j : Nat) : Int)) : Row w (wr.setCell ⟨b, off + j, none⟩ (.int .i64 v)) base b off k (j + 1) := by
  obtain ⟨⟨C, T, hC, hm⟩, hB, hM⟩ := h
  refine ⟨⟨_, T, Tx.heap_set hC (off + j) (.int .i64 v), fun o ho => ?_⟩, hB.setCell hb _, hM.set (fun x e => by subst e; exact hcl) rfl hc (Pf.nsI _ _) _ (Pf.nsI _ _)⟩
  obtain ⟨z', hz⟩ := hM.cell (fun x e => by subst e; exact hcl) rfl hc
  have hlt : off + j < C.size := by
    simp only [World.cell?, hC] at hz
    exact (Array.getElem?_eq_some_iff.1 (by simpa using hz)).1
  by_cases e : o = j
  · subst e
    rw [Array.getElem?_setIfInBounds_self_of_lt hlt, hv]
  · rw [Array.getElem?_setIfInBounds_ne (by omega)]
    exact hm o (by omega)
theorem Row.start {w : World} {base b : Nat} (hcl : Cl w b) (off k : Nat) : Row w w base b off k 0 := by
  obtain ⟨C, T, h⟩ := hcl
  exact ⟨⟨C, T, h, fun o ho => by omega⟩, Below.refl _ _, Mkd.refl _ _⟩
theorem Row.at {w wr : World} {base b off k j o : Nat} (h : Row w wr base b off k j) (ho : o < j) : wr.cell? ⟨b, off + o, none⟩ = some (.int .i64 ((k + o : Nat) : Int)) := by
  obtain ⟨⟨C, T, hC, hm⟩, _⟩ := h
  simp [World.cell?, hC, hm o ho]
theorem Row.cl {w wr : World} {base b off k j : Nat} (h : Row w wr base b off k j) : Cl wr b := by
  obtain ⟨⟨C, T, hC, _⟩, _⟩ := h
  exact ⟨C, T, hC⟩
set_option maxRecDepth 100000 in
set_option maxHeartbeats 2000000 in
theorem markIf_any (base : Nat) (v : Value) (ns : List Int) (k : Nat) (w : World) (h : IFr w base v ns) (hk : 0 < k) (hk2 : k + 1 * ns.length ≤ 9000000) :
    Calls Tryz.prog 28 #[v, .int .i64 (k : Int)] w fun e w' => e = .returned (.int .i64 ((k + 1 * ns.length : Nat) : Int)) ∧ IFr w' base v (mki ns.length k) ∧ Below base w w' := by
  obtain ⟨a, cap, b, off, rfl, hcap, hm, ha, hc⟩ := h
  have HC := Lib.hid hc
  have HA := Lib.hid ha
  clear hc ha
  generalize hn : ns.length = n at *
  by_cases hp : 0 < n
  · obtain ⟨ea, hb1, hb2, hcl⟩ := HA.out hp
    subst ea
    have HCL := Lib.hid hcl
    have R0 := Lib.hid (Row.start (base := base) hcl off k)
    clear hcl
    go_enter Tryz.func28, Tryz.ntmps28
    go_wp2
    go_loopw [1, 5] (fun kv iv wr => ∃ i q : Nat, i ≤ n ∧ iv = .int .i64 i ∧ kv = .int .i64 (q : Int) ∧ q = k + i ∧ Row w wr base b off k i) (fun _ iv _ => n - (intOf iv).toNat)
    case atStart => exact ⟨0, k, by omega, rfl, rfl, by omega, R0.out⟩
    case round =>
      obtain ⟨i, q, hi, rfl, rfl, hq, hR⟩ := hrel
      have HQE := Lib.hid hq
      have hqb : q ≤ 9000000 := by omega
      by_cases hlt : i < n
      · have c0 := HC.out i hlt
        obtain ⟨z0, p0⟩ := hR.cell c0 HCL.out
        have pf := fun o => hR.fz o
        have HN := Lib.hid (hR.set HCL.out hb1 c0 (q : Int) (by omega))
        clear hR c0 hq
        go_wp2
        go_roundw
        case rel => exact ⟨i + 1, q + 1, by omega, by go_num, by go_num, by have := HQE.out; omega, HN.out⟩
        case measure => simp [intOf]; omega
      · obtain rfl : i = n := by omega
        have HF := Lib.hid (show IFr wr base (.slice (some ⟨b, off, none⟩) i cap) (mki i k) from by
          refine ⟨some ⟨b, off, none⟩, cap, b, off, by rw [mki_len], by rw [mki_len]; exact hcap, hm, fun _ => ⟨rfl, hb1, Nat.lt_of_lt_of_le hb2 hR.2.1.size, hR.cl⟩, fun j hj => ?_⟩
          rw [mki_len] at hj
          rw [mki_get i k j hj]
          exact hR.at hj)
        have HB := Lib.hid hR.2.1
        clear hR hq
        go_wp2
        go_ret
        exact ⟨ret_i (by have := HQE.out; omega), HF.out, HB.out⟩
  · obtain rfl : n = 0 := by omega
    have HF := Lib.hid (show IFr w base (.slice a 0 cap) (mki 0 k) from ⟨a, cap, b, off, rfl, hcap, hm, fun h => by simp [mki] at h, fun i h => by simp [mki] at h⟩)
    clear HC HA
    go_enter Tryz.func28, Tryz.ntmps28
    go_wp2
    go_loopw [1, 5] (fun kv iv wr => iv = .int .i64 0 ∧ kv = .int .i64 (k : Int) ∧ wr = w) (fun _ _ _ => 0)
    case atStart => exact ⟨rfl, rfl, rfl⟩
    case round =>
      obtain ⟨rfl, rfl, rfl⟩ := hrel
      go_wp2
      go_ret
      exact ⟨rfl, HF.out, Below.refl _ _⟩
set_option maxRecDepth 100000 in
set_option maxHeartbeats 2000000 in
theorem markEf_any (base : Nat) (v : Value) (xs : List En) (k : Nat) (w : World) (h : EFr w base v xs) (hk : 0 < k) (hk2 : k + 3 * xs.length ≤ 9000000) :
    Calls Tryz.prog 23 #[v, .int .i64 (k : Int)] w fun e w' => e = .returned (.int .i64 ((k + 3 * xs.length : Nat) : Int)) ∧ EFr w' base v (mke xs.length k) ∧ Below base w w' := by
  obtain ⟨a, cap, b, off, rfl, hcap, hm, -, ha, hc⟩ := h
  have HC := Lib.hid hc
  have HA := Lib.hid ha
  clear hc ha
  generalize hn : xs.length = n at *
  by_cases hp : 0 < n
  · obtain ⟨ea, hb1, hb2, hcl⟩ := HA.out hp
    subst ea
    have HCL := Lib.hid hcl
    have R0 := Lib.hid (Row.start (base := base) hcl off k)
    clear hcl
    go_enter Tryz.func23, Tryz.ntmps23
    go_wp2
    go_loopw [1, 5] (fun kv iv wr => ∃ i q : Nat, i ≤ n ∧ iv = .int .i64 i ∧ kv = .int .i64 (q : Int) ∧ q = k + 3 * i ∧ Row w wr base b off k (i * 3)) (fun _ iv _ => n - (intOf iv).toNat)
    case atStart => exact ⟨0, k, by omega, rfl, rfl, by omega, R0.out⟩
    case round =>
      obtain ⟨i, q, hi, rfl, rfl, hq, hR⟩ := hrel
      have HQE := Lib.hid hq
      have hqb : q ≤ 9000000 := by omega
      by_cases hlt : i < n
      · obtain ⟨c0, c1, c2⟩ := HC.out i hlt
        obtain ⟨z0, p0⟩ := hR.cell c0 HCL.out
        obtain ⟨z1, p1⟩ := hR.cell c1 HCL.out
        obtain ⟨z2, p2⟩ := hR.cell c2 HCL.out
        have pf := fun o => hR.fz o
        have r1 := hR.set HCL.out hb1 c0 (q : Int) (by omega)
        have r2 := r1.set HCL.out hb1 c1 ((q : Int) + 1) (by omega)
        have r3 := r2.set HCL.out hb1 c2 ((q : Int) + 1 + 1) (by omega)
        have e3 : i * 3 + 1 + 1 + 1 = (i + 1) * 3 := by omega
        rw [e3] at r3
        have HN := Lib.hid r3
        clear r1 r2 r3 e3 hR c0 c1 c2 hq
        go_wp2
        go_roundw
        case rel => exact ⟨i + 1, q + 3, by omega, by go_num, by go_num, by have := HQE.out; omega, HN.out⟩
        case measure => simp [intOf]; omega
      · obtain rfl : i = n := by omega
        have HF := Lib.hid (show EFr wr base (.slice (some ⟨b, off, none⟩) i cap) (mke i k) from by
          refine ⟨some ⟨b, off, none⟩, cap, b, off, by rw [mke_len], by rw [mke_len]; exact hcap, hm, fun _ _ => trivial, fun _ => ⟨rfl, hb1, Nat.lt_of_lt_of_le hb2 hR.2.1.size, hR.cl⟩, fun j hj => ?_⟩
          rw [mke_len] at hj
          rw [mke_get i k j hj]
          have t0 := hR.at (o := j * 3) (by omega)
          have t1 := hR.at (o := j * 3 + 1) (by omega)
          have t2 := hR.at (o := j * 3 + 2) (by omega)
          rw [show k + j * 3 = k + 3 * j by omega] at t0
          rw [show k + (j * 3 + 1) = k + 3 * j + 1 by omega] at t1
          rw [show k + (j * 3 + 2) = k + 3 * j + 2 by omega] at t2
          exact ⟨t0, t1, t2⟩)
        have HB := Lib.hid hR.2.1
        clear hR hq
        go_wp2
        go_ret
        exact ⟨ret_i (by have := HQE.out; omega), HF.out, HB.out⟩
  · obtain rfl : n = 0 := by omega
    have HF := Lib.hid (show EFr w base (.slice a 0 cap) (mke 0 k) from ⟨a, cap, b, off, rfl, hcap, hm, fun _ _ => trivial, fun h => by simp [mke] at h, fun i h => by simp [mke] at h⟩)
    clear HC HA
    go_enter Tryz.func23, Tryz.ntmps23
    go_wp2
    go_loopw [1, 5] (fun kv iv wr => iv = .int .i64 0 ∧ kv = .int .i64 (k : Int) ∧ wr = w) (fun _ _ _ => 0)
    case atStart => exact ⟨rfl, rfl, rfl⟩
    case round =>
      obtain ⟨rfl, rfl, rfl⟩ := hrel
      go_wp2
      go_ret
      exact ⟨rfl, HF.out, Below.refl _ _⟩
set_option maxRecDepth 100000 in
set_option maxHeartbeats 2000000 in
theorem heldEf_any (S : Nat → Prop) (v : Value) (n k : Nat) (w : World) (h : EnIn S w v (mke n k)) (hk : 0 < k) (hk2 : k + 3 * n ≤ 9000000) :
    Calls Tryz.prog 24 #[v, .int .i64 (k : Int)] w fun e w' => e = .returned (.int .i64 ((k + 3 * n : Nat) : Int)) ∧ w = w' := by
  obtain ⟨a, cap, b, off, rfl, hcap, hm, -, ha, hc⟩ := h
  have HC := Lib.hid hc
  have HA := Lib.hid ha
  rw [mke_len] at hcap ⊢
  clear hc ha
  go_enter Tryz.func24, Tryz.ntmps24
  go_wp2
  go_loop [1, 5] (fun kv iv => ∃ i q : Nat, i ≤ n ∧ iv = .int .i64 i ∧ kv = .int .i64 (q : Int) ∧ q = k + 3 * i) (fun _ iv => n - (intOf iv).toNat)
  case atStart => exact ⟨0, k, by omega, rfl, rfl, by omega⟩
  case round =>
    obtain ⟨i, q, hi, rfl, rfl, hq⟩ := hrel
    have HQE := Lib.hid hq
    by_cases hlt : i < n
    · obtain ⟨ea, hlb⟩ := HA.out (by rw [mke_len]; omega)
      subst ea
      obtain ⟨c0, c1, c2⟩ := HC.out i (by rw [mke_len]; exact hlt)
      rw [mke_get n k i hlt, ← hq] at c0 c1 c2
      simp only at c0 c1 c2
      have hqb : q ≤ 9000000 := by omega
      have f0 : ((q : Int) != (q : Int)) = false := by simp
      have f1 : (((q + 1 : Nat) : Int) != (q : Int) + 1) = false := by simp
      have f2 : (((q + 2 : Nat) : Int) != (q : Int) + 1 + 1) = false := by simp; omega
      clear hq
      go_wp2
      go_round
      case rel => exact ⟨i + 1, q + 3, by omega, by go_num, by go_num, by have := HQE.out; omega⟩
      case measure => simp [intOf]; omega
    · obtain rfl : i = n := by omega
      go_wp2
      go_ret
      exact ⟨ret_i (by have := HQE.out; omega), rfl⟩
end Go.Proofs.YtmaknkbmilcanaaGreatDoor.Ft
