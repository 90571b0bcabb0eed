
/-
  strings.ContainsAny of any text at " \t;": strings.IndexRune at a rune beyond ASCII, strings.IndexAny, isNoWord.
-/
import Derived.Test.YtmaknkbmilcanaaGreatDoorChecked
import Derived.Test.YtmaknkbmilcanaaGreatDoorShelf
import Derived.WalkKit
import Derived.WalkSpells
import Derived.Lib.Hide
import Derived.RegionTactic
import Derived.Deep.QuietTactic
import Derived.BigQuiet
import Derived.Deep.RegionHeld3
import Derived.Laws.RangeAny
import Derived.Lib.OthersKept
import Derived.Laws.Runes
import Derived.Below
namespace Go.Proofs.YtmaknkbmilcanaaGreatDoor.Aw
open Go.RowKit
open Go.Lib (run_next_ascii_at run_next_any_at run_next_end_at)
def nowB (b : UInt8) : Bool := b == 32 || b == 9 || b == 59
def wordB (t : List UInt8) : Bool := !(t.any nowB) && !t.isEmpty
theorem now_high (b : UInt8) (h : 128 ≤ b.toNat) : nowB b = false := by
  have h1 : b ≠ 32 := by rintro rfl; simp at h
  have h2 : b ≠ 9 := by rintro rfl; simp at h
  have h3 : b ≠ 59 := by rintro rfl; simp at h
  simp [nowB, h1, h2, h3]
theorem get_bang (s : ByteArray) (i : Nat) (h : i < s.size) : s.get! i = s[i]'h := by
  simp [ByteArray.get!, getElem!_pos, h]
  rfl
/-- the bytes that a rune beyond ASCII takes -/
theorem decode_pass (s : ByteArray) (pos : Nat) (h : pos < s.size) (ha : 128 ≤ (s[pos]'h).toNat) :
    pos + (Utf8.decode s pos).2 ≤ s.size ∧ (∀ j (hj : j < s.size), pos ≤ j → j < pos + (Utf8.decode s pos).2 → 128 ≤ (s[j]'hj).toNat) ∧ Utf8.valid (Utf8.decode s pos).1 = true := by
  have hn : ¬ (s[pos]'h).toNat < 128 := by omega
  have one : ∀ j (hj : j < s.size), pos ≤ j → j < pos + 1 → 128 ≤ (s[j]'hj).toNat := fun j hj h1 h2 => by
    obtain rfl : j = pos := by omega
    exact ha
  have nxt : ∀ k, pos + k < s.size → (s.get! (pos + k)).toNat / 64 = 2 → ∀ (hj : pos + k < s.size), 128 ≤ (s[pos + k]'hj).toNat := fun k hk h2 hj => by
    rw [get_bang s (pos + k) hj] at h2; omega
  simp only [Utf8.decode, get_at s pos h, hn, if_false]
  split
  · rename_i h1
    simp only [Bool.and_eq_true, decide_eq_true_eq, beq_iff_eq] at h1
    split
    · rename_i h2
      refine ⟨by simp; omega, fun j hj h3 h4 => ?_, ?_⟩
      · simp at h4
        by_cases e : j = pos
        · subst e; exact ha
        · obtain rfl : j = pos + 1 := by omega
          exact nxt 1 h1.2.1 h1.2.2 hj
      · simp [Utf8.valid]; omega
    · exact ⟨by simp; omega, one, by decide⟩
  · split
    · rename_i h1
      simp only [Bool.and_eq_true, decide_eq_true_eq, beq_iff_eq] at h1
      split
      · rename_i h2
        simp only [Bool.and_eq_true, decide_eq_true_eq] at h2
        refine ⟨by simp; omega, fun j hj h3 h4 => ?_, h2.2⟩
        simp at h4
        by_cases e : j = pos
        · subst e; exact ha
        by_cases e1 : j = pos + 1
        · subst e1; exact nxt 1 h1.1.2.1 h1.1.2.2 hj
        · obtain rfl : j = pos + 2 := by omega
          exact nxt 2 h1.2.1 h1.2.2 hj
      · exact ⟨by simp; omega, one, by decide⟩
    · split
      · rename_i h1
        simp only [Bool.and_eq_true, decide_eq_true_eq, beq_iff_eq] at h1
        split
        · rename_i h2
          simp only [Bool.and_eq_true, decide_eq_true_eq] at h2
          refine ⟨by simp; omega, fun j hj h3 h4 => ?_, h2.2⟩
          simp at h4
          by_cases e : j = pos
          · subst e; exact ha
          by_cases e1 : j = pos + 1
          · subst e1; exact nxt 1 h1.1.1.2.1 h1.1.1.2.2 hj
          by_cases e2 : j = pos + 2
          · subst e2; exact nxt 2 h1.1.2.1 h1.1.2.2 hj
          · obtain rfl : j = pos + 3 := by omega
            exact nxt 3 h1.2.1 h1.2.2 hj
        · exact ⟨by simp; omega, one, by decide⟩
      · exact ⟨by simp; omega, one, by decide⟩
/-- the bytes of a rune beyond ASCII: how many there are, and the last of them -/
theorem encode_high (c : Nat) (h : 128 ≤ c) (hv : Utf8.valid c = true) : ∃ (E : ByteArray) (n : Nat) (x : UInt8), Utf8.encode c = E ∧ E.size = n + 1 ∧ 1 ≤ n ∧ n ≤ 3 ∧ 128 ≤ x.toNat ∧ ∀ (hj : n < E.size), E[n]'hj = x := by
  have h0 : ¬ c < 128 := by omega
  by_cases h1 : c < 2048
  · refine ⟨⟨#[UInt8.ofNat (192 + c / 64), UInt8.ofNat (128 + c % 64)]⟩, 1, UInt8.ofNat (128 + c % 64), ?_, rfl, by omega, by omega, ?_, fun _ => rfl⟩
    · simp [Utf8.encode, hv, h0, h1]
    · simp [UInt8.toNat_ofNat']; omega
  by_cases h2 : c < 65536
  · refine ⟨⟨#[UInt8.ofNat (224 + c / 4096), UInt8.ofNat (128 + c / 64 % 64), UInt8.ofNat (128 + c % 64)]⟩, 2, UInt8.ofNat (128 + c % 64), ?_, rfl, by omega, by omega, ?_, fun _ => rfl⟩
    · simp [Utf8.encode, hv, h0, h1, h2]
    · simp [UInt8.toNat_ofNat']; omega
  · refine ⟨⟨#[UInt8.ofNat (240 + c / 262144), UInt8.ofNat (128 + c / 4096 % 64), UInt8.ofNat (128 + c / 64 % 64), UInt8.ofNat (128 + c % 64)]⟩, 3, UInt8.ofNat (128 + c % 64), ?_, rfl, by omega, by omega, ?_, fun _ => rfl⟩
    · simp [Utf8.encode, hv, h0, h1, h2]
    · simp [UInt8.toNat_ofNat']; omega
abbrev sepS : ByteArray := ⟨#[32, 9, 59]⟩
set_option maxRecDepth 100000 in
set_option maxHeartbeats 2000000 in
theorem indexRune_err (w : World) : Calls Tryz.prog 382 #[.string sepS, .int .i32 65533] w fun e w' => e = .returned (.int .i64 (-1)) ∧ Below w.heap.size w w' := by
  go_enter Tryz.func382, Tryz.ntmps382
  go_wp2
  have n0 := fun ty => run_next_ascii (P := Tryz.prog) w sepS 0 ty (by decide) (by decide)
  have n1 := fun ty => run_next_ascii (P := Tryz.prog) w sepS 1 ty (by decide) (by decide)
  have n2 := fun ty => run_next_ascii (P := Tryz.prog) w sepS 2 ty (by decide) (by decide)
  have n3 := fun ty => run_next_end (P := Tryz.prog) w sepS 3 ty (by decide)
  go_loopw [176] (fun _ wr => ∃ k : Nat, k ≤ 3 ∧ wr = w.iter sepS k) (fun _ wr => 3 - wr.iterPos w.heap.size)
  case atStart => exact ⟨0, by omega, rfl⟩
  case round =>
    obtain ⟨k, hk, rfl⟩ := hrel
    match k, hk with
    | 0, _ =>
      go_wp2
      go_roundw
      case rel => exact ⟨1, by omega, rfl⟩
      case measure => simp
    | 1, _ =>
      go_wp2
      go_roundw
      case rel => exact ⟨2, by omega, rfl⟩
      case measure => simp
    | 2, _ =>
      go_wp2
      go_roundw
      case rel => exact ⟨3, by omega, rfl⟩
      case measure => simp
    | 3, _ =>
      go_wp2
      go_ret
      exact ⟨rfl, (Below.refl _ _).alloc (Nat.le_refl _) _⟩
theorem belDrew {B : Nat} {a w : World} (h : Below B a w) (n : Nat) : Below B a (w.drewN n) := ⟨h.os, h.tape, h.output, h.size, h.block⟩
theorem quiet_same2 {P : Program} {f : FuncId} {args : Array Value} {w : World} {a n : Nat} {v : Value}
    (h : Calls P f args (w.drewN (a + n)) fun e w' => e = .returned v ∧ w' = w.drewN (a + n)) : Calls P f args (w.drewN (a + n)) fun e w'' => e = .returned v ∧ ∃ m, w'' = w.drewN (a + m) :=
  h.mono fun _ _ ⟨he, hm⟩ => ⟨he, n, hm⟩
theorem ret_b {a b : Bool} (h : a = b) : Ending.returned (.bool a) = .returned (.bool b) := by rw [h]
theorem idx_none (l : List UInt8) (x : UInt8) (h : ∀ b ∈ l, b ≠ x) : Lib.indexByte l x = -1 := by
  induction l with
  | nil => rfl
  | cons b r ih =>
    have h1 : b ≠ x := h b (by simp)
    have h2 := ih fun b hb => h b (by simp [hb])
    simp [Lib.indexByte, h1, h2]
set_option maxRecDepth 100000 in
set_option maxHeartbeats 4000000 in
theorem indexRune_high (c : Nat) (h : 128 ≤ c) (hv : Utf8.valid c = true) (w : World) : Calls Tryz.prog 382 #[.string sepS, .int .i32 c] w fun e w' => e = .returned (.int .i64 (-1)) ∧ Below w.heap.size w w' := by
  by_cases he : c = 65533
  · subst he; exact indexRune_err w
  obtain ⟨E, n, x, hE, hs, h1, h2, hx, hl⟩ := encode_high c h hv
  have hL := hl (by omega)
  have hcv : Lib.validRune (c : Int) = true := by
    have : Utf8.valid (c : Int) = true := hv
    simp only [Utf8.valid, Bool.or_eq_true, Bool.and_eq_true, decide_eq_true_eq] at this
    simp [Lib.validRune]
    omega
  have HV := Lib.hid (Tryz.utf8_ValidRune (c : Int))
  have d1 : decide ((0 : Int) ≤ (c : Int)) = true := by simp
  have d2 : decide ((c : Int) < 128) = false := by simp; omega
  have d3 : ((c : Int) == 65533) = false := by simp; omega
  have x1 : x ≠ 32 := by rintro rfl; simp at hx
  have x2 : x ≠ 9 := by rintro rfl; simp at hx
  have x3 : x ≠ 59 := by rintro rfl; simp at hx
  have HI := Lib.hid (fun (s : ByteArray) (W : World) => Tryz.strings_IndexByte s (x.toNat : Int) W)
  have HX : ((x.toNat : Int)).toNat.toUInt8 = x := by simp
  have hcv2 : ∀ w, (convert 21 9 (.int .i32 c)).run Tryz.prog w = .ok (.string E) w := fun w => by
    rw [← hE]; exact run_convert_int_string w 21 9 .i32 c (by kernel_rfl) Tryz.underlying9
  rw [hcv] at HV
  clear hcv hv hl
  go_enter Tryz.func382, Tryz.ntmps382
  go_wp2_with (first
    | (go_at_call 392; refine (HV.out _).mono ?_; rintro e w' ⟨rfl, hw⟩; subst hw))
  have hn : ((E.size : Int)) = n + 1 := by omega
  go_step3
  go_wp2
  go_loop [9] (fun i => i = .int .i64 n) (fun _ => 0)
  case atStart => rfl
  case round =>
    subst hrel
    by_cases h3 : n = 3
    · subst h3
      go_wp2
      go_ret
      exact ⟨rfl, Below.refl _ _⟩
    · have y1 : ((sepS[1].toNat : Int) != (x.toNat : Int)) = true := by
        have : sepS[1].toNat = 9 := by decide
        rw [this]; simp only [bne_iff_ne, ne_eq]; omega
      have y2 : ((sepS[2].toNat : Int) != (x.toNat : Int)) = true := by
        have : sepS[2].toNat = 59 := by decide
        rw [this]; simp only [bne_iff_ne, ne_eq]; omega
      have z1 : Lib.indexByte (sepS.extract 2 3).data.toList x = -1 := idx_none _ _ (by
        have : (sepS.extract 2 3).data.toList = [59] := by decide
        rw [this]; simp; exact fun e => x3 e.symm)
      have z2 : Lib.indexByte (sepS.extract 3 3).data.toList x = -1 := idx_none _ _ (by
        have : (sepS.extract 3 3).data.toList = [] := by decide
        rw [this]; simp)
      have HI1 := Lib.hid (fun (W : World) => ((HI.out (sepS.extract 2 3) W).mono (fun e w' hh => show e = .returned (.int .i64 (-1)) ∧ w' = W from ⟨by rw [hh.1, HX, z1], hh.2⟩)))
      have HI2 := Lib.hid (fun (W : World) => ((HI.out (sepS.extract 3 3) W).mono (fun e w' hh => show e = .returned (.int .i64 (-1)) ∧ w' = W from ⟨by rw [hh.1, HX, z2], hh.2⟩)))
      clear HI z1 z2 hE hcv2
      rcases (show n = 1 ∨ n = 2 by omega) with rfl | rfl
      · go_wp2
        go_step3
        go_wp2
        go_quiet (fail)
        go_wp2
        go_quiet ((go_at_call 391; exact quiet_same2 (HI1.out _)))
        go_wp2
        simp (config := { zetaDelta := true }) only [Exit.noGoto_ret, Exit.inBlock, Exit.then]
        go_ret
        exact ⟨rfl, belDrew (Below.refl _ _) _⟩
      · go_wp2
        go_step3
        go_wp2
        go_quiet (fail)
        go_wp2
        go_quiet ((go_at_call 391; exact quiet_same2 (HI2.out _)))
        go_wp2
        simp (config := { zetaDelta := true }) only [Exit.noGoto_ret, Exit.inBlock, Exit.then]
        go_ret
        exact ⟨rfl, belDrew (Below.refl _ _) _⟩
theorem anyS_of (l cs : List UInt8) : decide (0 ≤ Lib.indexAny l cs) = l.any (fun b => cs.contains b) := by
  induction l with
  | nil => rfl
  | cons b r ih =>
    by_cases h : cs.contains b = true
    · simp only [Lib.indexAny, h, if_true, List.any_cons, Bool.true_or]; rfl
    · have h' : cs.contains b = false := by simpa using h
      simp only [Lib.indexAny, h', List.any_cons, Bool.false_or, Bool.false_eq_true, if_false]
      rw [← ih]
      have := Lib.indexAny_ge cs r
      by_cases e : (Lib.indexAny r cs == -1) = true
      · have e2 : Lib.indexAny r cs = -1 := by simpa using e
        simp [e2]
      · have e2 : Lib.indexAny r cs ≠ -1 := by simpa using e
        simp only [e, Bool.false_eq_true, if_false]
        congr 1
        simp only [eq_iff_iff]
        omega
theorem set_now (b : UInt8) : [32, 9, 59].contains b = nowB b := by
  unfold nowB
  simp only [List.contains_cons, List.contains_nil, Bool.or_false]
  rw [Bool.or_assoc]
/-- no byte ahead of k is one of the three -/
def NoW (s : ByteArray) (k : Nat) : Prop := ∀ j (h : j < s.size), j < k → nowB (s[j]'h) = false
theorem now_end (s : ByteArray) (h : NoW s s.size) : s.data.toList.any nowB = false := by
  rw [List.any_eq_false]
  intro x hx
  obtain ⟨i, hi, e⟩ := List.mem_iff_getElem.1 hx
  have hi2 : i < s.size := by rw [Array.length_toList] at hi; exact hi
  have h3 : nowB (s.data.toList[i]'hi) = false := h i hi2 hi2
  rw [← e, h3]
  exact Bool.false_ne_true
theorem now_hit (s : ByteArray) (k : Nat) (h : k < s.size) (hn : nowB (s[k]'h) = true) : s.data.toList.any nowB = true := by
  rw [List.any_eq_true]
  refine ⟨s[k]'h, ?_, hn⟩
  exact List.mem_iff_getElem.2 ⟨k, by rw [Array.length_toList]; exact h, rfl⟩
theorem idx_hit (x : UInt8) (h : nowB x = true) : 0 ≤ Lib.indexByte [32, 9, 59] x := by
  simp only [nowB, Bool.or_eq_true, beq_iff_eq] at h
  rcases h with (rfl | rfl) | rfl <;> decide
theorem idx_miss (x : UInt8) (h : nowB x = false) : Lib.indexByte [32, 9, 59] x = -1 := by
  simp only [nowB, Bool.or_eq_false_iff, beq_eq_false_iff_ne, ne_eq] at h
  exact idx_none _ _ (by simp; exact ⟨fun e => h.1.1 e.symm, fun e => h.1.2 e.symm, fun e => h.2 e.symm⟩)
set_option maxRecDepth 100000 in
set_option maxHeartbeats 4000000 in
theorem indexRune_low (x : UInt8) (h : x.toNat < 128) (w : World) : Calls Tryz.prog 382 #[.string sepS, .int .i32 x.toNat] w fun e w' => e = .returned (.int .i64 (Lib.indexByte [32, 9, 59] x)) ∧ w = w' := by
  have d1 : decide ((0 : Int) ≤ (x.toNat : Int)) = true := by simp
  have d2 : decide ((x.toNat : Int) < 128) = true := by simp; omega
  have HX : ((x.toNat : Int)).toNat.toUInt8 = x := by simp
  have HI := Lib.hid (fun (W : World) => ((Tryz.strings_IndexByte sepS (x.toNat : Int) W).mono (fun e w' hh => show e = .returned (.int .i64 (Lib.indexByte [32, 9, 59] x)) ∧ W = w' from ⟨by rw [hh.1, HX], hh.2.symm⟩)))
  go_enter Tryz.func382, Tryz.ntmps382
  go_wp2_with (first
    | (go_at_call 391; refine (HI.out _).mono ?_; rintro e w' ⟨rfl, hw⟩; subst hw))
  go_ret
  exact ⟨rfl, rfl⟩
theorem now_step (s : ByteArray) (k : Nat) (h : k < s.size) (hn : NoW s k) (hx : nowB (s[k]'h) = false) : NoW s (k + 1) := fun j hj hl => by
  by_cases e : j = k
  · subst e; exact hx
  · exact hn j hj (by omega)
theorem now_pass (s : ByteArray) (k n : Nat) (hn : NoW s k) (hp : ∀ j (hj : j < s.size), k ≤ j → j < k + n → 128 ≤ (s[j]'hj).toNat) : NoW s (k + n) := fun j hj hl => by
  by_cases e : j < k
  · exact hn j hj e
  · exact now_high _ (hp j hj (by omega) hl)
theorem iterAt_heap (w : World) (k : Nat) (s : ByteArray) (pos pos' : Nat) (hk : w.heap[k]? = some (.stringIter s pos)) : (w.iterAt k s pos').heap[k]? = some (.stringIter s pos') := by
  have hlt : k < w.heap.size := (Array.getElem?_eq_some_iff.1 hk).1
  simp [World.iterAt, hlt]
theorem iter_below {B : Nat} {w : World} (k : Nat) (s : ByteArray) (pos' : Nat) (hB : B ≤ k) : Below B w (w.iterAt k s pos') :=
  ⟨rfl, rfl, rfl, by simp [World.iterAt], fun i hi => by simp [World.iterAt, show ¬ k = i by omega]⟩
theorem iter_lt (w : World) (k : Nat) (s : ByteArray) (pos pos' : Nat) (hk : w.heap[k]? = some (.stringIter s pos)) : k < (w.iterAt k s pos').heap.size := by
  have hlt : k < w.heap.size := (Array.getElem?_eq_some_iff.1 hk).1
  simpa [World.iterAt] using hlt
theorem iterPos_of {w : World} {b : Nat} {s : ByteArray} {k : Nat} (h : w.heap[b]? = some (.stringIter s k)) : w.iterPos b = k := by simp [World.iterPos, h]
set_option maxRecDepth 100000 in
set_option maxHeartbeats 4000000 in
theorem indexAny_short (s : ByteArray) (hs : s.size ≤ 8) (w : World) : Calls Tryz.prog 366 #[.string s, .string sepS] w fun e w' => (∃ i : Int, e = .returned (.int .i64 i) ∧ decide (0 ≤ i) = s.data.toList.any nowB) ∧ Below w.heap.size w w' := by
  have d1 : decide ((8 : Int) < (s.size : Int)) = false := by simp; omega
  have HU := Lib.hid (fun (W : World) => ((Tryz.strings_shouldUseASCIISet (s.size : Int) W).mono (fun e w' hh => show e = .returned (.bool false) ∧ W = w' from ⟨by rw [hh.1, d1], hh.2.symm⟩)))
  go_enter Tryz.func366, Tryz.ntmps366
  go_wp2_with (first
    | (go_at_call 383; refine (HU.out _).mono ?_; rintro e w' ⟨rfl, rfl⟩))
  go_loopw [46] (fun _ wr => ∃ k : Nat, k ≤ s.size ∧ NoW s k ∧ wr.heap[w.heap.size]? = some (Obj.stringIter s k) ∧ Below w.heap.size w wr) (fun _ wr => s.size - wr.iterPos w.heap.size)
  case atStart => exact ⟨0, by omega, fun j hj hl => by omega, heap_alloc_new _ _, (Below.refl _ _).alloc (Nat.le_refl _) _⟩
  case round =>
    obtain ⟨k, hk, hn, hI, hB⟩ := hrel
    have HN := Lib.hid hn
    have HB := Lib.hid hB
    have HI := Lib.hid hI
    have hm := Lib.hid (iterPos_of hI)
    clear hn hB
    by_cases hlt : k < s.size
    · by_cases ha : (s[k]'hlt).toNat < 128
      · have hnx := fun ty => run_next_ascii_at (P := Tryz.prog) wr w.heap.size s k ty hI hlt ha
        have HR := Lib.hid (fun (W : World) => indexRune_low (s[k]'hlt) ha W)
        cases hx : nowB (s[k]'hlt) with
        | true =>
          have HH := Lib.hid (now_hit s k hlt hx)
          have d2 : decide (Lib.indexByte [32, 9, 59] (s[k]'hlt) ≥ 0) = true := by simpa using idx_hit _ hx
          generalize Lib.indexByte [32, 9, 59] (s[k]'hlt) = ix at *
          go_wp2_with (first
            | (go_at_call 382; refine (HR.out _).mono ?_; rintro e w' ⟨rfl, rfl⟩))
          go_ret
          exact ⟨⟨_, rfl, by rw [HH.out]; simp⟩, HB.out.trans (iter_below _ _ _ (Nat.le_refl _))⟩
        | false =>
          have HS := Lib.hid (now_step s k hlt HN.out hx)
          have d2 : decide (Lib.indexByte [32, 9, 59] (s[k]'hlt) ≥ 0) = false := by rw [idx_miss _ hx]; rfl
          generalize Lib.indexByte [32, 9, 59] (s[k]'hlt) = ix at *
          go_wp2_with (first
            | (go_at_call 382; refine (HR.out _).mono ?_; rintro e w' ⟨rfl, rfl⟩))
          go_roundw
          case rel => exact ⟨k + 1, by omega, HS.out, iterAt_heap _ _ _ _ _ HI.out, HB.out.trans (iter_below _ _ _ (Nat.le_refl _))⟩
          case measure => rw [hm.out, iterPos_of (iterAt_heap _ _ _ _ _ HI.out)]; omega
      · have ha' : 128 ≤ (s[k]'hlt).toNat := by omega
        obtain ⟨p1, p2, p3⟩ := decode_pass s k hlt ha'
        have hd := decode_high s k hlt ha'
        have hnx := fun ty => run_next_any_at (P := Tryz.prog) wr w.heap.size s k ty hI hlt
        have HS := Lib.hid (now_pass s k _ HN.out p2)
        have HR := Lib.hid (fun (W : World) => indexRune_high (Utf8.decode s k).1 hd.1 p3 W)
        generalize (Utf8.decode s k).2 = wd at *
        generalize (Utf8.decode s k).1 = c at *
        clear p2 p3
        go_wp2_with (first
          | (go_at_call 382; refine (HR.out _).mono ?_; rintro e w' ⟨rfl, hb⟩))
        go_roundw
        case rel => exact ⟨k + wd, by omega, HS.out, (hb.block _ (iter_lt _ _ _ _ _ HI.out)).trans (iterAt_heap _ _ _ _ _ HI.out), HB.out.trans ((iter_below _ _ _ (Nat.le_refl _)).trans (hb.mono (Nat.le_of_lt (iter_lt _ _ _ _ _ HI.out))))⟩
        case measure => rw [hm.out, iterPos_of ((hb.block _ (iter_lt _ _ _ _ _ HI.out)).trans (iterAt_heap _ _ _ _ _ HI.out))]; omega
    · have hnx := fun ty => run_next_end_at (P := Tryz.prog) wr w.heap.size s k ty hI hlt
      go_wp2
      go_ret
      obtain rfl : k = s.size := by omega
      exact ⟨⟨_, rfl, by rw [now_end s HN.out]; rfl⟩, HB.out⟩
theorem info_set : (Tryz.prog.info? 374).map (fun i => (i.zero, i.size)) = some (some (.agg (Array.replicate 256 (.bool false))), 256) := by kernel_rfl
set_option maxRecDepth 100000 in
theorem indexAny_any (s : ByteArray) (hs : s.size < 4294967281) (w : World) : Calls Tryz.prog 366 #[.string s, .string sepS] w fun e w' => (∃ i : Int, e = .returned (.int .i64 i) ∧ decide (0 ≤ i) = s.data.toList.any nowB) ∧ Below w.heap.size w w' := by
  by_cases h : s.size ≤ 8
  · exact indexAny_short s h w
  · refine (Tryz.strings_IndexAny_long (zero_of_info info_set).1 s sepS w (by decide) (by omega) hs (by decide) ?_).mono ?_
    · intro j b hj
      have : b ∈ [(32 : UInt8), 9, 59] := List.mem_of_getElem? hj
      simp at this
      rcases this with rfl | rfl | rfl <;> decide
    · rintro e w' ⟨rfl, rfl⟩
      refine ⟨⟨_, rfl, ?_⟩, ((Below.refl _ _).alloc (Nat.le_refl _) _).alloc (by simp) _⟩
      rw [anyS_of]
      congr 1
      funext b
      exact set_now b
set_option maxRecDepth 100000 in
theorem containsAny_any (s : ByteArray) (hs : s.size < 4294967281) (w : World) : Calls Tryz.prog 354 #[.string s, .string sepS] w fun e w' => e = .returned (.bool (s.data.toList.any nowB)) ∧ Below w.heap.size w w' := by
  have HI := Lib.hid (indexAny_any s hs w)
  go_enter Tryz.func354, Tryz.ntmps354
  go_wp2_with (go_at_call 366; refine HI.out.mono ?_; rintro e w' ⟨⟨i, rfl, hi⟩, hb⟩; have HI2 := Lib.hid hi; clear hi)
  go_ret
  exact ⟨ret_b HI2.out, hb⟩
set_option maxRecDepth 100000 in
theorem noWord_any (t : List UInt8) (hs : t.length < 4294967281) (w : World) : Calls Tryz.prog 335 #[.string ⟨t.toArray⟩] w fun e w' => e = .returned (.bool (!wordB t)) ∧ Below w.heap.size w w' := by
  have HC := Lib.hid (containsAny_any ⟨t.toArray⟩ (by simp [ByteArray.size]; omega) w)
  by_cases h : t = []
  · subst h
    go_enter Tryz.func335, Tryz.ntmps335
    go_wp2
    go_ret
    exact ⟨rfl, Below.refl _ _⟩
  · have e1 : (t == []) = false := by simpa using h
    have e2 : t.isEmpty = false := by simpa using h
    have E := Lib.hid (show t.any nowB = !wordB t by simp [wordB, e2])
    go_enter Tryz.func335, Tryz.ntmps335
    go_wp2_with (go_at_call 354; refine HC.out.mono ?_; rintro e w' ⟨rfl, hb⟩)
    go_ret
    exact ⟨ret_b E.out, hb⟩
end Go.Proofs.YtmaknkbmilcanaaGreatDoor.Aw
