
/-
  Slices of texts in memory: read, counted, copied, compared.
-/
import Derived.Test.YtmaknkbmilcanaaGreatDoorChecked
import Derived.WalkKit
import Derived.Carry
import Derived.ProofKit
import Derived.OpenShut
import Derived.ChangeSlices
import Derived.Deep.Slices
import Derived.Lib.SmallJoins
import Derived.WalkSpells
import Derived.WalkLawsBesides
import Derived.Lib.Hide
import Derived.RegionTactic
import Derived.BigRegion
import Derived.Deep.QuietTactic
import Derived.BigQuiet
import Derived.IntWalk
import Derived.Outline
import Derived.Deep.RegionHeld
import Derived.Deep.RegionHeld3
import Derived.Deep.RegionWith
import Derived.Deep.Draws
import Derived.Laws.Rows
import Derived.Deep.OwnRows
import Derived.Laws.MakeOwn
namespace Go.Proofs.YtmaknkbmilcanaaGreatDoor.Tx
open Go.RowKit
open Go.ChangeShapes Go.WideShapes Go.ChangeAt Go.Deep
def szT : List (List UInt8) → Nat
  | [] => 0
  | t :: ts => t.length + szT ts
theorem szT_drop {xs : List (List UInt8)} (k : Nat) (hx : k < xs.length) : szT (xs.drop k) = xs[k].length + szT (xs.drop (k + 1)) := by
  rw [List.drop_eq_getElem_cons hx]; simp [szT]
/-- v is a slice of the texts ns -/
def TxtsIn (S : Nat → Prop) (w : World) (v : Value) (ns : List (List UInt8)) : Prop :=
  ∃ (a : Option Addr) (cap : Nat) (b off : Nat), v = .slice a ns.length cap ∧ ns.length ≤ cap ∧ cap ≤ 9223372036854775807 ∧ (∀ i, i < ns.length → (ns.getD i []).length ≤ 9223372036854775807) ∧
    (0 < ns.length → a = some ⟨b, off, none⟩ ∧ S b) ∧ ∀ i, i < ns.length → w.cell? ⟨b, off + i, none⟩ = some (.string ⟨(ns.getD i []).toArray⟩)
theorem TxtsIn.same {S S' : Nat → Prop} {w w' : World} {v : Value} {ns : List (List UInt8)} (h : TxtsIn S w v ns) (hs : ∀ b, S b → S' b ∧ w'.heap[b]? = w.heap[b]?) : TxtsIn S' w' v ns := by
  obtain ⟨a, cap, b, off, e, h1, h2, h3, h4, h5⟩ := h
  refine ⟨a, cap, b, off, e, h1, h2, h3, fun hp => ⟨(h4 hp).1, (hs b (h4 hp).2).1⟩, fun i hi => ?_⟩
  rw [World.cell?_of_block (w := w) (a := ⟨b, off + i, none⟩) (hs b (h4 (by omega)).2).2]
  exact h5 i hi
theorem TxtsIn.blw {B : Nat} {w w' : World} {v : Value} {ns : List (List UInt8)} (h : TxtsIn (· < B) w v ns) (hb : Below B w w') : TxtsIn (· < B) w' v ns := h.same fun b hlt => ⟨hlt, hb.block b hlt⟩
theorem TxtsIn.mono {S S' : Nat → Prop} {w : World} {v : Value} {ns : List (List UInt8)} (h : TxtsIn S w v ns) (hs : ∀ b, S b → S' b) : TxtsIn S' w v ns := h.same fun b hb => ⟨hs b hb, rfl⟩
theorem cellsStr : Tryz.prog.cellsOf 9 = 1 := by kernel_rfl
theorem cellsInt : Tryz.prog.cellsOf 3 = 1 := by kernel_rfl
theorem cellsTxts : Tryz.prog.cellsOf 23 = 1 := by kernel_rfl
section
variable {H : Type} {enc : TypeId × Value → H} {w : World} {spare : Nat → Bool} {held : Bool}
theorem spot_of {a : Addr} {v : Value} (h : w.cell? (a.add 0) = some v) : a = ⟨a.block, a.off, none⟩ ∧ a.block < w.heap.size := by
  obtain ⟨b, off, spot⟩ := a
  have hs := World.cell?_spot h
  have : spot = none := by simpa [Addr.add] using hs
  subst this
  exact ⟨rfl, by have := World.block_lt_of_cell? _ _ h; simpa [add_plain] using this⟩
theorem open_txts {fuel : Nat} {v : Value} {x : DataW H × List MemPlace} (h : DataW.trod enc Tryz.prog w 0 spare held fuel 23 [v] = some x) : ∃ ns, TxtsIn (· < w.heap.size) w v ns := by
  rcases open_strs Tryz.underlying23 Tryz.underlying9 cellsStr h with ⟨e, _⟩ | ⟨a, len, cap, m, Sx, e, _, hl, hm, hmm, _, hc⟩
  · simp at e
    exact ⟨[], none, 0, 0, 0, e, by simp, by simp, by simp, by simp, by simp⟩
  · simp at e
    have hlm : len ≤ m := by rw [hmm]; split <;> omega
    have hlen : ((List.range len).map fun i => (Sx i).data.toList).length = len := by simp
    have hget : ∀ i, i < len → ((List.range len).map fun i => (Sx i).data.toList).getD i [] = (Sx i).data.toList := fun i hi => by simp [hi]
    refine ⟨(List.range len).map fun i => (Sx i).data.toList, some a, cap, a.block, a.off, by rw [hlen]; exact e, by rw [hlen]; exact hl, hm, ?_, ?_, ?_⟩
    · rw [hlen]
      intro i hi
      rw [hget i hi, Array.length_toList]
      exact (hc i (by omega)).2
    · rw [hlen]
      intro hp
      obtain ⟨e1, e2⟩ := spot_of (hc 0 (by omega)).1
      exact ⟨congrArg some e1, e2⟩
    · rw [hlen]
      intro i hi
      obtain ⟨e1, e2⟩ := spot_of (hc 0 (by omega)).1
      have := (hc i (by omega)).1
      rw [e1, add_plain] at this
      rw [this, hget i hi]
end
/-- what is left of L -/
def szR (L : Int) (s : Nat) : Int := if (s : Int) ≤ L then L - s else -1
theorem szR_out {L : Int} {s : Nat} (_ : L < (s : Int)) : szR L s = -1 := by unfold szR; rw [if_neg (by omega)]
theorem szR_in {L : Int} {s : Nat} (h : (s : Int) ≤ L) : szR L s = L - s := by unfold szR; rw [if_pos h]
theorem szR_add {L : Int} {s r : Nat} (_ : (s : Int) ≤ L) : szR L (s + r) = szR (L - s) r := by
  unfold szR
  by_cases h2 : ((s + r : Nat) : Int) ≤ L
  · rw [if_pos h2, if_pos (by omega)]; omega
  · rw [if_neg h2, if_neg (by omega)]
theorem szR_zero {L : Int} (_ : 0 ≤ L) : szR L 0 = L := by unfold szR; rw [if_pos (by omega)]; omega
theorem ret_i {a b : Int} (h : a = b) : Ending.returned (.int .i64 a) = .returned (.int .i64 b) := by rw [h]
set_option maxHeartbeats 1000000 in
theorem szT_any (S : Nat → Prop) (ns : List (List UInt8)) (v : Value) (L : Int) (w : World) (h : TxtsIn S w v ns) (h0 : 0 ≤ L) (h1 : L ≤ 1048576) :
    Calls Tryz.prog 120 #[v, .int .i64 L] w fun e w' => e = .returned (.int .i64 (szR L (ns.length + szT ns))) ∧ w = w' := by
  obtain ⟨a, cap, b, off, rfl, hcap, hm, hlen, ha, hc⟩ := h
  have hn : ns.length ≤ 9223372036854775807 := by omega
  by_cases hs : (ns.length : Int) ≤ L
  · have E := Lib.hid (szR_add (r := szT ns) hs)
    have HC := Lib.hid hc
    have HL := Lib.hid hlen
    have HA := Lib.hid ha
    clear hc hlen ha
    have g1 : decide (L - (ns.length : Int) < 0) = false := by simp; omega
    go_enter Tryz.func120, Tryz.ntmps120
    go_wp2
    go_loop [1, 5] (fun l i => ∃ (k : Nat) (m : Int), k ≤ ns.length ∧ i = .int .i64 k ∧ l = .int .i64 m ∧ 0 ≤ m ∧ m ≤ L ∧ szR (L - (ns.length : Int)) (szT ns) = szR m (szT (ns.drop k))) (fun _ i => ns.length - (intOf i).toNat)
    case atStart => exact ⟨0, _, by omega, rfl, rfl, by omega, by omega, rfl⟩
    case round =>
      obtain ⟨k, m, hk, rfl, rfl, hm0, hm1, hE⟩ := hrel
      have HE := Lib.hid hE
      clear hE
      by_cases hlt : k < ns.length
      · obtain ⟨ea, _⟩ := HA.out (by omega)
        subst ea
        have hcell := HC.out k hlt
        have hl := HL.out k hlt
        obtain ⟨t, ht⟩ : ∃ t, ns.getD k [] = t := ⟨_, rfl⟩
        have ht2 : ns[k] = t := by rw [← ht]; simp [hlt]
        have D := Lib.hid (szT_drop k hlt)
        rw [ht] at hcell hl
        rw [ht2] at D
        clear ht ht2
        by_cases hx : (t.length : Int) ≤ m
        · have F := Lib.hid (szR_add (r := szT (ns.drop (k + 1))) hx)
          have g2 : decide (m - (t.length : Int) < 0) = false := by simp; omega
          go_wp2
          go_round
          case rel => exact ⟨k + 1, _, by omega, by go_num, rfl, by omega, by omega, by rw [HE.out, D.out, F.out]⟩
          case measure => simp [intOf]; omega
        · have F := Lib.hid (szR_out (L := m) (s := t.length + szT (ns.drop (k + 1))) (by omega))
          have g2 : decide (m - (t.length : Int) < 0) = true := by simp; omega
          go_wp2
          go_ret
          exact ⟨ret_i (by rw [E.out, HE.out, D.out, F.out]), rfl⟩
      · go_wp2
        go_ret
        obtain rfl : k = ns.length := by omega
        exact ⟨ret_i (by rw [E.out, HE.out, List.drop_length]; exact (szR_zero hm0).symm), rfl⟩
  · have E := Lib.hid (szR_out (L := L) (s := ns.length + szT ns) (by omega))
    have g1 : decide (L - (ns.length : Int) < 0) = true := by simp; omega
    clear hc hlen ha
    go_enter Tryz.func120, Tryz.ntmps120
    go_wp2
    go_ret
    exact ⟨ret_i (by rw [E.out]), rfl⟩
/-- a new slice of the texts ns -/
def NewTxts (W : World) (ns : List (List UInt8)) (e : Ending) (w' : World) : Prop := ∃ v, e = .returned v ∧ TxtsIn (fun b => W.heap.size ≤ b ∧ b < w'.heap.size) w' v ns ∧ Below W.heap.size W w'
theorem heap_set {w : World} {b : Nat} {C : Array Value} {T : TypeId} {fr : Nat × Nat} (hb : w.heap[b]? = some (.cells C T fr)) (o : Nat) (v : Value) : (w.setCell ⟨b, o, none⟩ v).heap[b]? = some (.cells (C.setIfInBounds o v) T fr) := by
  simp [World.setCell, Array.getElem?_modify, hb]
theorem Tryz.infoTxt : (Tryz.prog.info? 9).map (fun i => (i.zero, i.size, i.bytes)) = some (some (.string ByteArray.empty), 1, 16) := by kernel_rfl
def txtF (ns : List (List UInt8)) (k i : Nat) : Value := if i < k then .string ⟨(ns.getD i []).toArray⟩ else .string ByteArray.empty
theorem txtF_step (ns : List (List UInt8)) (k j : Nat) : (if j = k then Value.string ⟨(ns.getD k []).toArray⟩ else txtF ns k j) = txtF ns (k + 1) j := by
  unfold txtF
  by_cases e : j = k
  · subst e; rw [if_pos rfl, if_pos (by omega)]
  · rw [if_neg e]
    by_cases h : j < k
    · rw [if_pos h, if_pos (by omega)]
    · rw [if_neg h, if_neg (by omega)]
theorem newTxts_of {W w' : World} {ns : List (List UInt8)} {g : Nat} {f : Nat → Value} (hg : W.heap.size ≤ g) (hm : ns.length ≤ 9223372036854775807) (hl : ∀ i, i < ns.length → (ns.getD i []).length ≤ 9223372036854775807)
    (hr : w'.rowIs g 9 ns.length f) (hf : ∀ i, i < ns.length → f i = .string ⟨(ns.getD i []).toArray⟩) (hb : Below W.heap.size W w') : NewTxts W ns (.returned (.slice (some ⟨g, 0, none⟩) ns.length ns.length)) w' :=
  ⟨_, rfl, ⟨some ⟨g, 0, none⟩, ns.length, g, 0, rfl, Nat.le_refl _, hm, hl, fun _ => ⟨rfl, hg, hr.lt⟩, fun i hi => by rw [Nat.zero_add, hr.cell hi, hf i hi]⟩, hb⟩
theorem TxtsIn.slice {S : Nat → Prop} {w : World} {v : Value} {ns : List (List UInt8)} (h : TxtsIn S w v ns) : ∃ a l c, v = .slice a l c := by
  obtain ⟨a', cap', _, _, rfl, _⟩ := h; exact ⟨_, _, _, rfl⟩
theorem ret_b {a b : Bool} (h : a = b) : Ending.returned (.bool a) = .returned (.bool b) := by rw [h]
theorem eqT_drop {xs ys : List (List UInt8)} (k : Nat) (hx : k < xs.length) (hy : k < ys.length) : (xs.drop k == ys.drop k) = ((xs.getD k [] == ys.getD k []) && (xs.drop (k + 1) == ys.drop (k + 1))) := by
  rw [List.drop_eq_getElem_cons hx, List.drop_eq_getElem_cons hy, List.cons_beq_cons]
  simp [hx, hy]
theorem eqT_len {xs ys : List (List UInt8)} (h : xs.length ≠ ys.length) : (xs == ys) = false := by
  simp only [beq_eq_false_iff_ne, ne_eq]; intro e; exact h (by rw [e])
theorem TxtsIn.drewN {S : Nat → Prop} {w : World} {v : Value} {ns : List (List UInt8)} (h : TxtsIn S w v ns) (n : Nat) : TxtsIn S (w.drewN n) v ns := h.same fun _ hb => ⟨hb, rfl⟩
set_option maxHeartbeats 1000000 in
theorem eqT_any (S1 S2 : Nat → Prop) (ns ms : List (List UInt8)) (v u : Value) (w : World) (h1 : TxtsIn S1 w v ns) (h2 : TxtsIn S2 w u ms) :
    Calls Tryz.prog 103 #[v, u] w fun e w' => e = .returned (.bool (ns == ms)) ∧ ∃ n, w' = w.drewN n := by
  obtain ⟨a, cap, b, off, rfl, hcap, hm, hlen, ha, hc⟩ := h1
  obtain ⟨a', cap', b', off', rfl, hcap', hm', hlen', ha', hc'⟩ := h2
  have hn : ns.length ≤ 9223372036854775807 := by omega
  have hn' : ms.length ≤ 9223372036854775807 := by omega
  have HC := Lib.hid hc
  have HA := Lib.hid ha
  have HC' := Lib.hid hc'
  have HA' := Lib.hid ha'
  clear hc ha hc' ha' hlen hlen'
  by_cases hl : ns.length = ms.length
  · have HL := Lib.hid hl
    have g1 : ((ns.length : Int) != (ms.length : Int)) = false := by simp [hl]
    clear hl
    go_enter Tryz.func103, Tryz.ntmps103
    go_wp2
    go_loopw [5] (fun i wr => ∃ k n : Nat, k ≤ ns.length ∧ i = .int .i64 k ∧ (ns == ms) = (ns.drop k == ms.drop k) ∧ wr = w.drewN n) (fun i _ => ns.length - (intOf i).toNat)
    case atStart => exact ⟨0, 0, by omega, rfl, rfl, rfl⟩
    case round =>
      obtain ⟨k, n, hk, rfl, hE, rfl⟩ := hrel
      have HE := Lib.hid hE
      clear hE
      by_cases hlt : k < ns.length
      · have hlt' : k < ms.length := by have := HL.out; omega
        obtain ⟨ea, _⟩ := HA.out (by omega)
        obtain ⟨ea', _⟩ := HA'.out (by omega)
        subst ea ea'
        have q0 := HC.out k hlt
        have q1 := HC'.out k hlt'
        have D := Lib.hid (eqT_drop k hlt hlt')
        generalize ns.getD k [] = t at *
        generalize ms.getD k [] = t' at *
        by_cases ht : t = t'
        · subst ht
          have e1 : (t == t) = true := by simp
          have D2 := Lib.hid (D.out.trans (by rw [e1, Bool.true_and]))
          go_wp2
          go_quiet (fail)
          go_wp2
          go_roundw
          case rel => exact ⟨k + 1, n + nq, by omega, by go_num, by rw [HE.out, D2.out], by first | rfl | exact World.drewN_drewN _ _ _⟩
          case measure => simp [intOf]; omega
        · have e1 : (t == t') = false := by simpa using ht
          have D2 := Lib.hid (D.out.trans (by rw [e1, Bool.false_and]))
          go_wp2
          go_quiet (fail)
          go_wp2
          go_ret
          exact ⟨ret_b (by rw [HE.out, D2.out]), n + nq, World.drewN_drewN _ _ _⟩
      · go_wp2
        go_ret
        obtain rfl : k = ns.length := by omega
        exact ⟨ret_b (by rw [HE.out, List.drop_length, HL.out, List.drop_length]; rfl), n, rfl⟩
  · have E := Lib.hid (eqT_len hl)
    have g1 : ((ns.length : Int) != (ms.length : Int)) = true := by simp only [bne_iff_ne, ne_eq]; omega
    clear hl
    go_enter Tryz.func103, Tryz.ntmps103
    go_wp2
    go_ret
    exact ⟨ret_b E.out.symm, 0, rfl⟩
set_option maxHeartbeats 1000000 in
theorem sameT_any (S1 S2 : Nat → Prop) (ns ms : List (List UInt8)) (v u : Value) (w : World) (h1 : TxtsIn S1 w v ns) (h2 : TxtsIn S2 w u ms) :
    Calls Tryz.prog 202 #[v, u] w fun e w' => e = .returned (.bool (ns == ms)) ∧ ∃ n, w' = w.drewN n := by
  obtain ⟨a, cap, b, off, rfl, hcap, hm, hlen, ha, hc⟩ := h1
  obtain ⟨a', cap', b', off', rfl, hcap', hm', hlen', ha', hc'⟩ := h2
  have hn : ns.length ≤ 9223372036854775807 := by omega
  have hn' : ms.length ≤ 9223372036854775807 := by omega
  have HC := Lib.hid hc
  have HA := Lib.hid ha
  have HC' := Lib.hid hc'
  have HA' := Lib.hid ha'
  clear hc ha hc' ha' hlen hlen'
  by_cases hl : ns.length = ms.length
  · have HL := Lib.hid hl
    have g1 : ((ns.length : Int) != (ms.length : Int)) = false := by simp [hl]
    clear hl
    go_enter Tryz.func202, Tryz.ntmps202
    go_wp2
    go_loopw [5] (fun i wr => ∃ k n : Nat, k ≤ ns.length ∧ i = .int .i64 k ∧ (ns == ms) = (ns.drop k == ms.drop k) ∧ wr = w.drewN n) (fun i _ => ns.length - (intOf i).toNat)
    case atStart => exact ⟨0, 0, by omega, rfl, rfl, rfl⟩
    case round =>
      obtain ⟨k, n, hk, rfl, hE, rfl⟩ := hrel
      have HE := Lib.hid hE
      clear hE
      by_cases hlt : k < ns.length
      · have hlt' : k < ms.length := by have := HL.out; omega
        obtain ⟨ea, _⟩ := HA.out (by omega)
        obtain ⟨ea', _⟩ := HA'.out (by omega)
        subst ea ea'
        have q0 := HC.out k hlt
        have q1 := HC'.out k hlt'
        have D := Lib.hid (eqT_drop k hlt hlt')
        generalize ns.getD k [] = t at *
        generalize ms.getD k [] = t' at *
        by_cases ht : t = t'
        · subst ht
          have e1 : (t == t) = true := by simp
          have D2 := Lib.hid (D.out.trans (by rw [e1, Bool.true_and]))
          go_wp2
          go_quiet (fail)
          go_wp2
          go_roundw
          case rel => exact ⟨k + 1, n + nq, by omega, by go_num, by rw [HE.out, D2.out], by first | rfl | exact World.drewN_drewN _ _ _⟩
          case measure => simp [intOf]; omega
        · have e1 : (t == t') = false := by simpa using ht
          have D2 := Lib.hid (D.out.trans (by rw [e1, Bool.false_and]))
          go_wp2
          go_quiet (fail)
          go_wp2
          go_ret
          exact ⟨ret_b (by rw [HE.out, D2.out]), n + nq, World.drewN_drewN _ _ _⟩
      · go_wp2
        go_ret
        obtain rfl : k = ns.length := by omega
        exact ⟨ret_b (by rw [HE.out, List.drop_length, HL.out, List.drop_length]; rfl), n, rfl⟩
  · have E := Lib.hid (eqT_len hl)
    have g1 : ((ns.length : Int) != (ms.length : Int)) = true := by simp only [bne_iff_ne, ne_eq]; omega
    clear hl
    go_enter Tryz.func202, Tryz.ntmps202
    go_wp2
    go_ret
    exact ⟨ret_b E.out.symm, 0, rfl⟩
set_option maxHeartbeats 1000000 in
theorem sEqual_any (S1 S2 : Nat → Prop) (ns ms : List (List UInt8)) (v u : Value) (w : World) (h1 : TxtsIn S1 w v ns) (h2 : TxtsIn S2 w u ms) :
    Calls Tryz.prog 153 #[v, u] w fun e w' => e = .returned (.bool (ns == ms)) ∧ ∃ n, w' = w.drewN n := by
  obtain ⟨a, cap, b, off, rfl, hcap, hm, hlen, ha, hc⟩ := h1
  obtain ⟨a', cap', b', off', rfl, hcap', hm', hlen', ha', hc'⟩ := h2
  have hn : ns.length ≤ 9223372036854775807 := by omega
  have hn' : ms.length ≤ 9223372036854775807 := by omega
  have HC := Lib.hid hc
  have HA := Lib.hid ha
  have HC' := Lib.hid hc'
  have HA' := Lib.hid ha'
  clear hc ha hc' ha' hlen hlen'
  by_cases hl : ns.length = ms.length
  · have HL := Lib.hid hl
    have g1 : ((ns.length : Int) != (ms.length : Int)) = false := by simp [hl]
    clear hl
    go_enter Tryz.func153, Tryz.ntmps153
    go_wp2
    go_loopw [13] (fun i wr => ∃ k n : Nat, k ≤ ns.length ∧ i = .int .i64 k ∧ (ns == ms) = (ns.drop k == ms.drop k) ∧ wr = w.drewN n) (fun i _ => ns.length - (intOf i).toNat)
    case atStart => exact ⟨0, 0, by omega, rfl, rfl, rfl⟩
    case round =>
      obtain ⟨k, n, hk, rfl, hE, rfl⟩ := hrel
      have HE := Lib.hid hE
      clear hE
      by_cases hlt : k < ns.length
      · have hlt' : k < ms.length := by have := HL.out; omega
        obtain ⟨ea, _⟩ := HA.out (by omega)
        obtain ⟨ea', _⟩ := HA'.out (by omega)
        subst ea ea'
        have q0 := HC.out k hlt
        have q1 := HC'.out k hlt'
        have D := Lib.hid (eqT_drop k hlt hlt')
        generalize ns.getD k [] = t at *
        generalize ms.getD k [] = t' at *
        by_cases ht : t = t'
        · subst ht
          have e1 : (t == t) = true := by simp
          have D2 := Lib.hid (D.out.trans (by rw [e1, Bool.true_and]))
          go_wp2
          go_quiet (fail)
          go_wp2
          go_roundw
          case rel => exact ⟨k + 1, n + nq, by omega, by go_num, by rw [HE.out, D2.out], by first | rfl | exact World.drewN_drewN _ _ _⟩
          case measure => simp [intOf]; omega
        · have e1 : (t == t') = false := by simpa using ht
          have D2 := Lib.hid (D.out.trans (by rw [e1, Bool.false_and]))
          go_wp2
          go_quiet (fail)
          go_wp2
          go_ret
          exact ⟨ret_b (by rw [HE.out, D2.out]), n + nq, World.drewN_drewN _ _ _⟩
      · go_wp2
        go_ret
        obtain rfl : k = ns.length := by omega
        exact ⟨ret_b (by rw [HE.out, List.drop_length, HL.out, List.drop_length]; rfl), n, rfl⟩
  · have E := Lib.hid (eqT_len hl)
    have g1 : ((ns.length : Int) != (ms.length : Int)) = true := by simp only [bne_iff_ne, ne_eq]; omega
    clear hl
    go_enter Tryz.func153, Tryz.ntmps153
    go_wp2
    go_ret
    exact ⟨ret_b E.out.symm, 0, rfl⟩
theorem TxtsIn.take {S : Nat → Prop} {w : World} {a : Option Addr} {n cap : Nat} {ns : List (List UInt8)} (h : TxtsIn S w (.slice a n cap) ns) (k : Nat) (hk : k ≤ ns.length) : TxtsIn S w (.slice a k cap) (ns.take k) := by
  obtain ⟨a', cap', b, off, e, h1, h2, h3, h4, h5⟩ := h
  obtain ⟨rfl, rfl, rfl⟩ := by simpa using e
  have hl : (ns.take k).length = k := by simp; omega
  have hg : ∀ i, i < k → (ns.take k).getD i [] = ns.getD i [] := fun i hi => by simp [List.getD, hi]
  refine ⟨a, cap, b, off, by rw [hl], by omega, h2, ?_, ?_, ?_⟩
  · rw [hl]; intro i hi; rw [hg i hi]; exact h3 i (by omega)
  · rw [hl]; intro hp; exact h4 (by omega)
  · rw [hl]; intro i hi; rw [hg i hi]; exact h5 i (by omega)
theorem has_drop {ns : List (List UInt8)} {t : List UInt8} (k : Nat) (hk : k < ns.length) : (ns.drop k).contains t = ((ns.getD k [] == t) || (ns.drop (k + 1)).contains t) := by
  rw [List.drop_eq_getElem_cons hk, List.contains_cons]
  simp only [List.getD_eq_getElem?_getD, List.getElem?_eq_getElem hk, Option.getD_some]
  rw [Bool.beq_comm]
set_option maxHeartbeats 1000000 in
theorem hasS_any (S : Nat → Prop) (ns : List (List UInt8)) (t : List UInt8) (v : Value) (w : World) (h1 : TxtsIn S w v ns) :
    Calls Tryz.prog 235 #[v, .string ⟨t.toArray⟩] w fun e w' => e = .returned (.bool (ns.contains t)) ∧ w = w' := by
  obtain ⟨a, cap, b, off, rfl, hcap, hm, hlen, ha, hc⟩ := h1
  have hn : ns.length ≤ 9223372036854775807 := by omega
  have HC := Lib.hid hc
  have HA := Lib.hid ha
  clear hc ha hlen
  obtain ⟨r, hr⟩ : ∃ r, ns.contains t = r := ⟨_, rfl⟩
  have HRR := Lib.hid hr
  rw [hr]
  clear hr
  go_enter Tryz.func235, Tryz.ntmps235
  go_wp2
  go_loop [5] (fun i => ∃ k : Nat, k ≤ ns.length ∧ i = .int .i64 k ∧ r = (ns.drop k).contains t) (fun i => ns.length - (intOf i).toNat)
  case atStart => exact ⟨0, by omega, rfl, HRR.out.symm⟩
  case round =>
    obtain ⟨k, hk, rfl, hE⟩ := hrel
    have HE := Lib.hid hE
    clear hE
    by_cases hlt : k < ns.length
    · obtain ⟨ea, _⟩ := HA.out (by omega)
      subst ea
      have q0 := HC.out k hlt
      have D := Lib.hid (has_drop (t := t) k hlt)
      generalize ns.getD k [] = x at *
      by_cases ht : (x == t) = true
      · have D2 := Lib.hid (D.out.trans (by rw [ht, Bool.true_or]))
        obtain rfl : x = t := by simpa using ht
        clear ht
        go_wp2
        go_ret
        exact ⟨ret_b (by rw [HE.out, D2.out]), rfl⟩
      · have ht : (x == t) = false := by simpa using ht
        have D2 := Lib.hid (D.out.trans (by rw [ht, Bool.false_or]))
        go_wp2
        go_round
        case rel => exact ⟨k + 1, by omega, by go_num, by rw [HE.out, D2.out]⟩
        case measure => simp [intOf]; omega
    · go_wp2
      go_ret
      obtain rfl : k = ns.length := by omega
      exact ⟨ret_b (by rw [HE.out, List.drop_length]; rfl), rfl⟩
theorem TxtsIn.later {S : Nat → Prop} {w wx : World} {v : Value} {xs : List (List UInt8)} (h : TxtsIn S w v xs) (hS : ∀ b, S b → b < w.heap.size) (hx : Below w.heap.size w wx) : TxtsIn (· < wx.heap.size) wx v xs :=
  h.same fun b hb => ⟨Nat.lt_of_lt_of_le (hS b hb) hx.size, hx.block b (hS b hb)⟩
end Go.Proofs.YtmaknkbmilcanaaGreatDoor.Tx
