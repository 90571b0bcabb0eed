
/-
  The walks of the model's functions of chapter 2 that make texts: the digits of a number, the text of a URL, what is asked of it.
-/
import Derived.Test.YtniflfgnelfpbaaDoorUrlSpecA
import Derived.Test.YtniflfgnelfpbaaDoorUrlPlainB
import Derived.Laws.BytesArg
import Derived.IntWalk
import Derived.RegionTactic
import Derived.Deep.RegionWith
import Derived.Deep.RegionHeld3
import Derived.Deep.QuietTactic
import Derived.BigQuiet
import Derived.Outline
namespace Go.Proofs.YtniflfgnelfpbaaDoor.Ul
open Go.RowKit
theorem bcell {W w1 : World} (hb : Below W.heap.size W w1) : (∀ b o, b < W.heap.size → w1.cell? ⟨b, o, none⟩ = W.cell? ⟨b, o, none⟩) ∧ (∀ b o, b < W.heap.size → w1.frozen? ⟨b, o, none⟩ = W.frozen? ⟨b, o, none⟩) :=
  ⟨fun b o h => hb.cell (p := ⟨b, o, none⟩) h, fun b o h => hb.frozen (p := ⟨b, o, none⟩) h⟩
theorem conv_one (W : World) (b : Nat) (v : Int) (h : W.cell? ⟨b, 0, none⟩ = some (.int .u8 v)) : (convert 78 9 (.slice (some ⟨b, 0, none⟩) 1 1)).run Tryd.prog W = .ok (.string ⟨#[UInt8.ofNat v.toNat]⟩) W := by
  have := run_convert_bytes_arg (P := Tryd.prog) W 78 5 Tryd.underlying78 Tryd.underlying5 b 0 1 1 [v] rfl (fun i hi => by
    obtain rfl : i = 0 := by omega
    simpa using h) 9 Tryd.underlying9
  simpa [strOfNums] using this
@[local go_sem] theorem bapp (a b : List UInt8) : (⟨a.toArray⟩ : ByteArray) ++ ⟨b.toArray⟩ = ⟨(a ++ b).toArray⟩ := by
  apply ByteArray.ext; simp

theorem bel_alloc {w Y : World} {o : Obj} (h : Below w.heap.size w Y) : Below w.heap.size w (Y.alloc o) := h.alloc h.size o
theorem bel_step {w W w1 : World} (h : Below w.heap.size w W) (hb : Below W.heap.size W w1) : Below w.heap.size w w1 := h.trans (hb.mono h.size)
theorem bel_set {w Y : World} {p : Addr} {v : Value} (h : Below w.heap.size w Y) (hp : w.heap.size ≤ p.block) : Below w.heap.size w (Y.setCell p v) := h.setCell hp v
theorem digits_one (n : Nat) (h : n < 10) (w : World) : Calls Tryd.prog 48 #[.int .i64 (n : Int)] w fun e w' => e = .returned (.string ⟨(Lib.decDigits n).toArray⟩) ∧ Below w.heap.size w w' := by
  rw [Lib.decDigits_one h]
  have hcv := conv_one
  have d1 : ((n : Int) == -9223372036854775808) = false := by simp
  have d2 : decide ((n : Int) < 0) = false := by simp
  go_enter Tryd.func48, Tryd.ntmps48
  go_wp2
  go_ret
  exact ⟨rfl, (Below.refl _ _).alloc (Nat.le_refl _) _⟩
set_option maxHeartbeats 400000 in
theorem digits_more (n : Nat) (h : ¬ n < 10) (hn : n ≤ 9223372036854775807) (w : World)
   (ih : ∀ w, Calls Tryd.prog 48 #[.int .i64 ((n / 10 : Nat) : Int)] w fun e w' => e = .returned (.string ⟨(Lib.decDigits (n / 10)).toArray⟩) ∧ Below w.heap.size w w') : Calls Tryd.prog 48 #[.int .i64 (n : Int)] w fun e w' => e = .returned (.string ⟨(Lib.decDigits n).toArray⟩) ∧ Below w.heap.size w w' := by
  have e : Lib.decDigits n = Lib.decDigits (n / 10) ++ [UInt8.ofNat (48 + n % 10)] := by rw [Lib.decDigits, dif_neg h]
  have hl : (Lib.decDigits (n / 10)).length ≤ 19 := digs_len 18 _ (by omega)
  rw [e]
  clear e
  have HI := Lib.hid ih
  clear ih
  generalize Lib.decDigits (n / 10) = dd at *
  have hcv := conv_one
  have d1 : ((n : Int) == -9223372036854775808) = false := by simp
  have d2 : decide ((n : Int) < 0) = false := by simp
  have d3 : decide ((n : Int) < 10) = false := by simp; omega
  have w1 : IntKind.i64.wrap ((n : Int) / 10) = ((n / 10 : Nat) : Int) := IntWalk.i64_in _ (by omega)
  go_enter Tryd.func48, Tryd.ntmps48
  go_wp2_with fail
  go_region_with (first | (go_at_call 48; refine (HI.out _).mono ?_; rintro e w1 ⟨rfl, hb⟩; obtain ⟨hc, hf⟩ := bcell hb) | fail)
  all_goals
    go_wp2
    go_ret
    refine ⟨?_, ?_⟩
    · simp [Act.put]
    · repeat (first | exact Below.refl _ _ | refine bel_alloc ?_ | refine Below.drew ?_ | refine bel_step ?_ (by assumption))
theorem digits_any : ∀ (n : Nat), n ≤ 9223372036854775807 → ∀ w : World, Calls Tryd.prog 48 #[.int .i64 (n : Int)] w fun e w' => e = .returned (.string ⟨(Lib.decDigits n).toArray⟩) ∧ Below w.heap.size w w' := by
  intro n
  induction n using Nat.strongRecOn with
  | ind n ih =>
    intro hn w
    by_cases h : n < 10
    · exact digits_one n h w
    · exact digits_more n h hn w (ih (n / 10) (by omega) (by omega))
theorem site_any (s us h pa q f : List UInt8) (p : Int) (hq hf : Bool) (w : World) (hp1 : p ≤ 9223372036854775807) (hl : s.length + h.length ≤ 4611686018427387904) :
    Calls Tryd.prog 61 #[.agg #[.string ⟨s.toArray⟩, .string ⟨us.toArray⟩, .string ⟨h.toArray⟩, .int .i64 p, .string ⟨pa.toArray⟩, .string ⟨q.toArray⟩, .string ⟨f.toArray⟩, .bool hq, .bool hf]] w fun e w' => e = .returned (.string ⟨(siteL s h p).toArray⟩) ∧ Below w.heap.size w w' := by
  by_cases hp : 0 < p
  · obtain ⟨n, rfl⟩ := Int.eq_ofNat_of_zero_le (by omega : 0 ≤ p)
    have e : siteL s h n = s ++ [58, 47, 47] ++ h ++ ([58] ++ Lib.decDigits n) := by simp [siteL, portL]; omega
    have hd := digs_len 18 n (by omega)
    have HC := Lib.hid (digits_any n (by omega))
    rw [e]
    clear e
    generalize Lib.decDigits n = dd at *
    go_enter Tryd.func61, Tryd.ntmps61
    go_wp2_with (go_at_call 48; refine (HC.out _).mono ?_; rintro e w1 ⟨rfl, hb⟩)
    go_ret
    exact ⟨ret_str (by simp), (by repeat (first | exact Below.refl _ _ | refine bel_alloc ?_ | refine Below.drew ?_ | refine bel_step ?_ (by assumption)))⟩
  · have e : siteL s h p = s ++ [58, 47, 47] ++ h := by simp [siteL, portL_no hp]
    rw [e]
    clear e
    go_enter Tryd.func61, Tryd.ntmps61
    go_wp2
    go_ret
    exact ⟨rfl, bel_alloc (Below.refl _ _)⟩
theorem site_bare (h : List UInt8) (p : Int) (w : World) (hp1 : p ≤ 9223372036854775807) (hl : h.length ≤ 4611686018427387904) :
    Calls Tryd.prog 61 #[.agg #[.string ⟨#[]⟩, .string ⟨#[]⟩, .string ⟨h.toArray⟩, .int .i64 p, .string ⟨#[]⟩, .string ⟨#[]⟩, .string ⟨#[]⟩, .bool false, .bool false]] w fun e w' => e = .returned (.string ⟨(58 :: 47 :: 47 :: (h ++ portL p)).toArray⟩) ∧ Below w.heap.size w w' := by
  have := site_any [] [] h [] [] [] p false false w hp1 (by simp; omega)
  have e : siteL [] h p = 58 :: 47 :: 47 :: (h ++ portL p) := by simp [siteL]
  rwa [e] at this
theorem userL_no : userL [] = [] := rfl
theorem userL_yes {l : List UInt8} (h : ¬ l = []) : userL l = l ++ [64] := by simp [userL, h]
abbrev aggU (s us h : List UInt8) (p : Int) (pa q f : List UInt8) (hq hf : Bool) : Value := .agg #[.string ⟨s.toArray⟩, .string ⟨us.toArray⟩, .string ⟨h.toArray⟩, .int .i64 p, .string ⟨pa.toArray⟩, .string ⟨q.toArray⟩, .string ⟨f.toArray⟩, .bool hq, .bool hf]
end Go.Proofs.YtniflfgnelfpbaaDoor.Ul
