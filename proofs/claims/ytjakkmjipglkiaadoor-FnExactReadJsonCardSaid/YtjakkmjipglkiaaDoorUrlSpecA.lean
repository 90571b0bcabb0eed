
/-
  The walks of the model's small functions of chapter 2: what each returns, as the plain functions say it. The walks of the model's functions of chapter 2 that make texts: the digits of a number, the text of a URL, what is asked of it. The walks of the model's functions of chapter 2: the text of a URL; what is asked of it; its origin; what is stripped.
-/
import Derived.Test.YtjakkmjipglkiaaDoorChecked
import Derived.Test.YtjakkmjipglkiaaDoorUrlPlain
import Derived.WalkKit
import Derived.WalkSpells
import Derived.WalkLawsBesides
import Derived.Lib.Hide
import Derived.Laws.BytesArg
import Derived.IntWalk
import Derived.RegionTactic
import Derived.Deep.RegionWith
import Derived.Deep.RegionHeld3
import Derived.Deep.QuietTactic
import Derived.BigQuiet
import Derived.Outline
namespace Go.Proofs.YtjakkmjipglkiaaDoor.Ul
open Go.RowKit
theorem ret_bool {a b : Bool} (h : a = b) : Ending.returned (.bool a) = .returned (.bool b) := by rw [h]
theorem ret_int {a b : Int} (h : a = b) : Ending.returned (.int .i64 a) = .returned (.int .i64 b) := by rw [h]
theorem ret_str {a b : List UInt8} (h : a = b) : Ending.returned (.string ⟨a.toArray⟩) = .returned (.string ⟨b.toArray⟩) := by rw [h]
/-- A byte of a text under a name of its own. -/
theorem byte_at (l : List UInt8) (k : Nat) (h : k < l.length) : ∃ x : UInt8, l[k] = x ∧ ∀ h' : k < (⟨l.toArray⟩ : ByteArray).size, (⟨l.toArray⟩ : ByteArray)[k] = x := ⟨_, rfl, fun _ => rfl⟩
theorem digit_any (c : Int) (w : World) : Calls Tryd.prog 53 #[.int .u8 c] w fun e w' => e = .returned (.bool (decide (48 ≤ c ∧ c ≤ 57))) ∧ w = w' := by
  go_enter Tryd.func53, Tryd.ntmps53
  go_wp2
  all_goals (go_ret; exact ⟨ret_bool (by rw [Bool.eq_iff_iff]; simp; omega), rfl⟩)
theorem digit_yes (c : Int) (w : World) (h : 48 ≤ c ∧ c ≤ 57) : Calls Tryd.prog 53 #[.int .u8 c] w fun e w' => e = .returned (.bool true) ∧ w = w' := by
  have := digit_any c w
  rwa [show decide (48 ≤ c ∧ c ≤ 57) = true from by simpa using h] at this
theorem digit_no (c : Int) (w : World) (h : ¬ (48 ≤ c ∧ c ≤ 57)) : Calls Tryd.prog 53 #[.int .u8 c] w fun e w' => e = .returned (.bool false) ∧ w = w' := by
  have := digit_any c w
  rwa [show decide (48 ≤ c ∧ c ≤ 57) = false from by simpa using h] at this
theorem in_any (n a b : Int) (w : World) : Calls Tryd.prog 55 #[.int .i64 n, .int .i64 a, .int .i64 b] w fun e w' => e = .returned (.bool (decide (a ≤ n ∧ n ≤ b))) ∧ w = w' := by
  go_enter Tryd.func55, Tryd.ntmps55
  go_wp2
  all_goals (go_ret; exact ⟨ret_bool (by rw [Bool.eq_iff_iff]; simp; omega), rfl⟩)
theorem in_yes (n a b : Int) (w : World) (h : a ≤ n ∧ n ≤ b) : Calls Tryd.prog 55 #[.int .i64 n, .int .i64 a, .int .i64 b] w fun e w' => e = .returned (.bool true) ∧ w = w' := by
  have := in_any n a b w
  rwa [show decide (a ≤ n ∧ n ≤ b) = true from by simpa using h] at this
theorem in_no (n a b : Int) (w : World) (h : ¬ (a ≤ n ∧ n ≤ b)) : Calls Tryd.prog 55 #[.int .i64 n, .int .i64 a, .int .i64 b] w fun e w' => e = .returned (.bool false) ∧ w = w' := by
  have := in_any n a b w
  rwa [show decide (a ≤ n ∧ n ≤ b) = false from by simpa using h] at this
theorem find_any (l : List UInt8) (c : Nat) (w : World) (hl : l.length ≤ 9223372036854775807) : Calls Tryd.prog 65 #[.string ⟨l.toArray⟩, .int .u8 (c : Int)] w fun e w' => e = .returned (.int .i64 (findB l c)) ∧ w = w' := by
  go_enter Tryd.func65, Tryd.ntmps65
  go_wp2
  go_loop [5] (fun i => ∃ k : Nat, k ≤ l.length ∧ i = .int .i64 k ∧ findTo l c k = true) (fun i => l.length - (intOf i).toNat)
  case atStart => exact ⟨0, by omega, rfl, find_zero l c⟩
  case round =>
    obtain ⟨k, hk, rfl, ht⟩ := hrel
    by_cases hlt : k < l.length
    · obtain ⟨x, hx, hb⟩ := byte_at l k hlt
      have HIT := Lib.hid (find_hit l c k x hlt hx ht)
      have MISS := Lib.hid (find_miss l c k x hlt hx ht)
      clear ht hx
      by_cases hc : x.toNat = c
      · have F := Lib.hid (HIT.out hc)
        have hc' : ((x.toNat : Int) == c) = true := by simp [hc]
        clear HIT MISS hc
        go_wp2
        go_ret
        exact ⟨ret_int (by rw [F.out]), rfl⟩
      · have F := Lib.hid (MISS.out hc)
        have hc' : ((x.toNat : Int) == c) = false := by simp; omega
        clear HIT MISS hc
        go_wp2
        go_round
        case rel => exact ⟨k + 1, by omega, by go_num, F.out⟩
        case measure => simp [intOf]; omega
    · obtain rfl : k = l.length := by omega
      have F := Lib.hid (find_end l c ht)
      clear ht
      go_wp2
      go_ret
      exact ⟨ret_int (by rw [F.out]), rfl⟩
theorem low_cases (x : UInt8) (h : ¬ (97 ≤ x.toNat ∧ x.toNat ≤ 122)) : decide ((97 : Int) ≤ x.toNat) = false ∨ (decide ((97 : Int) ≤ x.toNat) = true ∧ decide ((x.toNat : Int) ≤ 122) = false) := by
  by_cases h1 : 97 ≤ x.toNat
  · exact .inr ⟨by simp; omega, by simp; omega⟩
  · exact .inl (by simp; omega)
end Go.Proofs.YtjakkmjipglkiaaDoor.Ul
namespace Go.Proofs.YtjakkmjipglkiaaDoor.Ul
open Go.RowKit
theorem bcell {W w1 : World} (hb : Below W.heap.size W w1) : (∀ b o, b < W.heap.size → w1.cell? ⟨b, o, none⟩ = W.cell? ⟨b, o, none⟩) ∧ (∀ b o, b < W.heap.size → w1.frozen? ⟨b, o, none⟩ = W.frozen? ⟨b, o, none⟩) :=
  ⟨fun b o h => hb.cell (p := ⟨b, o, none⟩) h, fun b o h => hb.frozen (p := ⟨b, o, none⟩) h⟩
theorem conv_one (W : World) (b : Nat) (v : Int) (h : W.cell? ⟨b, 0, none⟩ = some (.int .u8 v)) : (convert 70 9 (.slice (some ⟨b, 0, none⟩) 1 1)).run Tryd.prog W = .ok (.string ⟨#[UInt8.ofNat v.toNat]⟩) W := by
  have := run_convert_bytes_arg (P := Tryd.prog) W 70 5 Tryd.underlying70 Tryd.underlying5 b 0 1 1 [v] rfl (fun i hi => by
    obtain rfl : i = 0 := by omega
    simpa using h) 9 Tryd.underlying9
  simpa [strOfNums] using this
@[local go_sem] theorem bapp (a b : List UInt8) : (⟨a.toArray⟩ : ByteArray) ++ ⟨b.toArray⟩ = ⟨(a ++ b).toArray⟩ := by
  apply ByteArray.ext; simp

theorem bel_alloc {w Y : World} {o : Obj} (h : Below w.heap.size w Y) : Below w.heap.size w (Y.alloc o) := h.alloc h.size o
theorem bel_step {w W w1 : World} (h : Below w.heap.size w W) (hb : Below W.heap.size W w1) : Below w.heap.size w w1 := h.trans (hb.mono h.size)
theorem bel_set {w Y : World} {p : Addr} {v : Value} (h : Below w.heap.size w Y) (hp : w.heap.size ≤ p.block) : Below w.heap.size w (Y.setCell p v) := h.setCell hp v
theorem userL_no : userL [] = [] := rfl
theorem userL_yes {l : List UInt8} (h : ¬ l = []) : userL l = l ++ [64] := by simp [userL, h]
abbrev aggU (s us h : List UInt8) (p : Int) (pa q f : List UInt8) (hq hf : Bool) : Value := .agg #[.string ⟨s.toArray⟩, .string ⟨us.toArray⟩, .string ⟨h.toArray⟩, .int .i64 p, .string ⟨pa.toArray⟩, .string ⟨q.toArray⟩, .string ⟨f.toArray⟩, .bool hq, .bool hf]
end Go.Proofs.YtjakkmjipglkiaaDoor.Ul
namespace Go.Proofs.YtjakkmjipglkiaaDoor.Ul
open Go.RowKit
attribute [local go_sem] bapp
end Go.Proofs.YtjakkmjipglkiaaDoor.Ul
