
/-
  The laws' marks: written over rows of reports, of texts and of numbers that a call owns, and looked at again; the same of a queue.
-/
import Derived.Test.YtmaknkbmilcanaaGreatDoorQuT
import Derived.Test.YtmaknkbmilcanaaGreatDoorUrlSpecA
import Derived.BigQuiet
namespace Go.Proofs.YtmaknkbmilcanaaGreatDoor.Qu
open Go.RowKit
open Go.Proofs.YtmaknkbmilcanaaGreatDoor.Tx
open Go.Proofs.YtmaknkbmilcanaaGreatDoor.Ul (conv_one)
open Go.Proofs.YtmaknkbmilcanaaGreatDoor.Ext (up up_below up_mk wp_region_ext call_ext call_ext_same)
@[local go_sem] theorem up_cellQ (w : World) (y : Ext.Ext w) (b o : Nat) (h : b < w.heap.size) : (up w y).cell? ⟨b, o, none⟩ = w.cell? ⟨b, o, none⟩ := Ext.up_cell w y b o h
@[local go_sem] theorem bappM (a b : List UInt8) : (⟨a.toArray⟩ : ByteArray) ++ ⟨b.toArray⟩ = ⟨(a ++ b).toArray⟩ := by
  apply ByteArray.ext; simp
/-! ### what changed -/
/-- w' is w but for what lies in the blocks of S -/
structure Ch (S : Nat → Prop) (w w' : World) : Prop where
  os : w'.os = w.os
  tape : w'.tape = w.tape
  output : w'.output = w.output
  size : w.heap.size ≤ w'.heap.size
  block : ∀ b, b < w.heap.size → ¬ S b → w'.heap[b]? = w.heap[b]?
theorem Ch.refl (S : Nat → Prop) (w : World) : Ch S w w := ⟨rfl, rfl, rfl, Nat.le_refl _, fun _ _ _ => rfl⟩
theorem Ch.trans {S : Nat → Prop} {w w1 w2 : World} (h : Ch S w w1) (h2 : Ch S w1 w2) : Ch S w w2 :=
  ⟨h2.os.trans h.os, h2.tape.trans h.tape, h2.output.trans h.output, Nat.le_trans h.size h2.size, fun b hb hS => (h2.block b (Nat.lt_of_lt_of_le hb h.size) hS).trans (h.block b hb hS)⟩
theorem Ch.below {S : Nat → Prop} {B : Nat} {a w w' : World} (hm : Ch S w w') (h : Below B a w) (hB : B ≤ w.heap.size) (hS : ∀ b, S b → B ≤ b) : Below B a w' :=
  ⟨hm.os.trans h.os, hm.tape.trans h.tape, hm.output.trans h.output, Nat.le_trans h.size hm.size, fun b hb => (hm.block b (by omega) (fun e => by have := hS b e; omega)).trans (h.block b hb)⟩
theorem Ch.rp {S T : Nat → Prop} {w w' : World} {v : Value} {xs : List Rep} (hm : Ch S w w') (h : RpIn T w v xs) (hT : ∀ b, T b → b < w.heap.size ∧ ¬ S b) : RpIn T w' v xs := h.same fun b hb => ⟨hb, hm.block b (hT b hb).1 (hT b hb).2⟩
theorem Ch.txts {S T : Nat → Prop} {w w' : World} {v : Value} {xs : List (List UInt8)} (hm : Ch S w w') (h : TxtsIn T w v xs) (hT : ∀ b, T b → b < w.heap.size ∧ ¬ S b) : TxtsIn T w' v xs := h.same fun b hb => ⟨hb, hm.block b (hT b hb).1 (hT b hb).2⟩
theorem Ch.ints {S T : Nat → Prop} {w w' : World} {v : Value} {xs : List Int} (hm : Ch S w w') (h : IntsIn T w v xs) (hT : ∀ b, T b → b < w.heap.size ∧ ¬ S b) : IntsIn T w' v xs := h.same fun b hb => ⟨hb, hm.block b (hT b hb).1 (hT b hb).2⟩
/-! ### reports -/
/-! ### texts -/
/-! ### numbers -/
def mki (n k : Nat) : List Int := (List.range n).map fun i => ((k + i : Nat) : Int)
theorem mki_len (n k : Nat) : (mki n k).length = n := by simp [mki]
theorem mki_get (n k i : Nat) (h : i < n) : (mki n k).getD i 0 = ((k + i : Nat) : Int) := by simp [mki, h]
set_option maxRecDepth 100000 in
set_option maxHeartbeats 2000000 in
theorem heldIs_any (S : Nat → Prop) (v : Value) (n k : Nat) (w : World) (h : IntsIn S w v (mki n k)) (hk : 0 < k) (hk2 : k + n ≤ 9000000) :
    Calls Tryz.prog 29 #[v, .int .i64 (k : Int)] w fun e w' => e = .returned (.int .i64 ((k + n : Nat) : Int)) ∧ w = w' := by
  obtain ⟨a, cap, b, off, rfl, hcap, hm, ha, hc⟩ := h
  have HC := Lib.hid hc
  have HA := Lib.hid ha
  rw [mki_len] at hcap ⊢
  clear hc ha
  go_enter Tryz.func29, Tryz.ntmps29
  go_wp2
  go_loop [1, 5] (fun kv iv => ∃ i q : Nat, i ≤ n ∧ iv = .int .i64 i ∧ kv = .int .i64 (q : Int) ∧ q = k + i) (fun _ iv => n - (intOf iv).toNat)
  case atStart => exact ⟨0, k, by omega, rfl, rfl, by omega⟩
  case round =>
    obtain ⟨i, q, hi, rfl, rfl, hq⟩ := hrel
    have HQE := Lib.hid hq
    by_cases hlt : i < n
    · obtain ⟨ea, hlb⟩ := HA.out (by rw [mki_len]; omega)
      subst ea
      have c0 := HC.out i (by rw [mki_len]; exact hlt)
      rw [mki_get n k i hlt, ← hq] at c0
      have hqb : q ≤ 9000000 := by omega
      have f0 : ((q : Int) != (q : Int)) = false := by simp
      clear hq
      go_wp2
      go_round
      case rel => exact ⟨i + 1, q + 1, by omega, by go_num, by go_num, by have := HQE.out; omega⟩
      case measure => simp [intOf]; omega
    · obtain rfl : i = n := by omega
      go_wp2
      go_ret
      exact ⟨ret_i (by have := HQE.out; omega), rfl⟩
/-! ### a queue -/
end Go.Proofs.YtmaknkbmilcanaaGreatDoor.Qu
