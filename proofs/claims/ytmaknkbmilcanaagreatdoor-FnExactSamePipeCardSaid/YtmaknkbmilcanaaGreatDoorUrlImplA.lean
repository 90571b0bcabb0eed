
/-
  The walks of the program's small functions of chapter 2: each returns what the plain function says. The walks of the program's functions of chapter 2 that look at a whole URL: the host, the port, the fields. The walks of the program's functions of chapter 2 that look at a whole URL, go on: the fields, the text, whether it is well formed. The walks of the program's functions of chapter 2, the end: the text of a URL, whether it is well formed, its origin, what is left when it is stripped. The walks of the program's functions of chapter 2 that answer: UrlOK, UrlText, OriginOf, StripUrl. The walks of the program's functions of chapters 1 and 2 that read: a text in lower case, the number that a text is; strings.Cut at one byte. The walks of the program's functions of chapters 1 and 2 that read numbers: the number that a text is, a port. The walks of the program's functions of chapter 2 that split a text.
-/
import Derived.Test.YtmaknkbmilcanaaGreatDoorUrlSpecA
import Derived.Test.YtmaknkbmilcanaaGreatDoorUrlPlain
import Derived.Test.YtmaknkbmilcanaaGreatDoorShelf
import Derived.Deep.QuietTactic
import Derived.BigQuiet
import Derived.Lib.AppendIntMem
import Derived.RegionTactic
import Derived.Deep.RegionWith
import Derived.Deep.RegionHeld3
import Derived.Laws.BytesArg
import Derived.Laws.IdiomStrings
import Derived.Outline
import Derived.Test.YtmaknkbmilcanaaGreatDoorUrlAt
import Derived.Deep.DeepCutAuto
namespace Go.Proofs.YtmaknkbmilcanaaGreatDoor.Ul
open Go.RowKit
theorem below_iter (w : World) (s : ByteArray) (p : Nat) : Below w.heap.size w (w.iter s p) := (Below.refl _ _).alloc (Nat.le_refl _) _
/-! ### A range over a text -/
theorem next_low (P : Program) (w : World) (l : List UInt8) (k : Nat) (x : UInt8) (h : k < l.length) (hx : l[k] = x) (ha : x.toNat < 128) (ty : TypeId) :
    (Instr.next (.pointer (some ⟨w.heap.size, 0, none⟩)) true ty).run P (w.iter ⟨l.toArray⟩ k) = .ok (.tuple #[.bool true, .int .i64 k, .int .i32 x.toNat]) (w.iter ⟨l.toArray⟩ (k + 1)) := by
  have h' : k < (⟨l.toArray⟩ : ByteArray).size := h
  have e : (⟨l.toArray⟩ : ByteArray)[k]'h' = x := hx
  have := run_next_ascii (P := P) w ⟨l.toArray⟩ k ty h' (by rw [e]; exact ha)
  rw [e] at this
  exact this
theorem next_high (P : Program) (w : World) (l : List UInt8) (k : Nat) (x : UInt8) (h : k < l.length) (hx : l[k] = x) (ha : ¬ x.toNat < 128) :
    ∃ (c n : Nat), 128 ≤ c ∧ ∀ ty : TypeId, (Instr.next (.pointer (some ⟨w.heap.size, 0, none⟩)) true ty).run P (w.iter ⟨l.toArray⟩ k) = .ok (.tuple #[.bool true, .int .i64 k, .int .i32 c]) (w.iter ⟨l.toArray⟩ n) := by
  have h' : k < (⟨l.toArray⟩ : ByteArray).size := h
  have e : (⟨l.toArray⟩ : ByteArray)[k]'h' = x := hx
  exact ⟨_, _, (decode_high ⟨l.toArray⟩ k h' (by rw [e]; omega)).1, fun ty => run_next_any (P := P) w ⟨l.toArray⟩ k ty h'⟩
theorem next_end (P : Program) (w : World) (l : List UInt8) (ty : TypeId) :
    (Instr.next (.pointer (some ⟨w.heap.size, 0, none⟩)) true ty).run P (w.iter ⟨l.toArray⟩ l.length) = .ok (.tuple #[.bool false]) (w.iter ⟨l.toArray⟩ l.length) :=
  run_next_end (P := P) w ⟨l.toArray⟩ l.length ty (Nat.lt_irrefl _)
/-! ### Runes -/
theorem isLower_yes (c : Int) (w : World) (h : 97 ≤ c ∧ c ≤ 122) : Calls Tryz.prog 325 #[.int .i32 c] w fun e w' => e = .returned (.bool true) ∧ w = w' := by
  obtain ⟨h1, h2⟩ := h
  go_enter Tryz.func325, Tryz.ntmps325
  go_wp2
  go_ret
  exact ⟨ret_bool (by first | rfl | simp [h2]), rfl⟩
theorem isLower_no (c : Int) (w : World) (h : ¬ (97 ≤ c ∧ c ≤ 122)) : Calls Tryz.prog 325 #[.int .i32 c] w fun e w' => e = .returned (.bool false) ∧ w = w' := by
  go_enter Tryz.func325, Tryz.ntmps325
  go_wp2
  all_goals (go_ret; exact ⟨ret_bool (by first | rfl | (simp; omega)), rfl⟩)
theorem isDigit_yes (c : Int) (w : World) (h : 48 ≤ c ∧ c ≤ 57) : Calls Tryz.prog 266 #[.int .i32 c] w fun e w' => e = .returned (.bool true) ∧ w = w' := by
  obtain ⟨h1, h2⟩ := h
  go_enter Tryz.func266, Tryz.ntmps266
  go_wp2
  go_ret
  exact ⟨ret_bool (by first | rfl | simp [h2]), rfl⟩
theorem isDigit_no (c : Int) (w : World) (h : ¬ (48 ≤ c ∧ c ≤ 57)) : Calls Tryz.prog 266 #[.int .i32 c] w fun e w' => e = .returned (.bool false) ∧ w = w' := by
  go_enter Tryz.func266, Tryz.ntmps266
  go_wp2
  all_goals (go_ret; exact ⟨ret_bool (by first | rfl | (simp; omega)), rfl⟩)
theorem isWeb_any (l : List UInt8) (w : World) : Calls Tryz.prog 323 #[.string ⟨l.toArray⟩] w fun e w' => e = .returned (.bool (webB l)) ∧ w = w' := by
  go_enter Tryz.func323, Tryz.ntmps323
  go_wp2
  all_goals (go_ret; exact ⟨ret_bool (by rw [Bool.eq_iff_iff]; simp_all [webB, http, https]), rfl⟩)
def dport (l : List UInt8) : Int := if l == http then 80 else if l == https then 443 else 0
theorem dport_any (l : List UInt8) (w : World) : Calls Tryz.prog 377 #[.string ⟨l.toArray⟩] w fun e w' => e = .returned (.int .i64 (dport l)) ∧ w = w' := by
  go_enter Tryz.func377, Tryz.ntmps377
  go_wp2
  all_goals (go_ret; exact ⟨ret_int (by simp_all [dport, http, https]), rfl⟩)
theorem schemeOK_any (l : List UInt8) (w : World) (hl : l.length ≤ 9223372036854775807) : Calls Tryz.prog 363 #[.string ⟨l.toArray⟩] w fun e w' => e = .returned (.bool (schemeB l)) ∧ Below w.heap.size w w' := by
  by_cases h1 : l = []
  · subst h1
    go_enter Tryz.func363, Tryz.ntmps363
    go_wp2
    go_ret
    exact ⟨rfl, Below.refl _ _⟩
  have h1' : l.isEmpty = false := by simpa using h1
  have h1'' : 0 < l.length := List.length_pos_iff.2 h1
  by_cases h2 : 12 < l.length
  · have F := Lib.hid (sch_long l h2)
    go_enter Tryz.func363, Tryz.ntmps363
    go_wp2
    go_ret
    exact ⟨ret_bool F.out.symm, Below.refl _ _⟩
  have d2 : decide ((12 : Int) < l.length) = false := by simp; omega
  go_enter Tryz.func363, Tryz.ntmps363
  go_wp2
  go_loopw [14] (fun _ wr => ∃ k : Nat, k ≤ l.length ∧ wr = w.iter ⟨l.toArray⟩ k ∧ schLeft l k = true) (fun _ wr => l.length - wr.iterPos w.heap.size)
  case atStart => exact ⟨0, by omega, rfl, sch_zero l⟩
  case round =>
    obtain ⟨k, hk, rfl, ht⟩ := hrel
    by_cases hlt : k < l.length
    · obtain ⟨x, hx, _⟩ := byte_at l k hlt
      have NO := Lib.hid (sch_no l k x hlt hx ht)
      have YES := Lib.hid (sch_yes l k x hlt hx ht)
      clear ht
      by_cases ha : x.toNat < 128
      · have hnx := next_low Tryz.prog w l k x hlt hx ha
        clear hx
        by_cases hlow : 97 ≤ x.toNat ∧ x.toNat ≤ 122
        · have F := Lib.hid (YES.out (by simp [schC, lowB, hlow]))
          clear NO YES
          go_wp2_with (go_at_call 325; refine (isLower_yes _ _ (by omega)).mono ?_; rintro e w' ⟨rfl, rfl⟩)
          go_roundw
          case rel => exact ⟨k + 1, by omega, rfl, F.out⟩
          case measure => simp; omega
        by_cases hk0 : k = 0
        · subst hk0
          have F := Lib.hid (NO.out (by simp [schC, lowB]; omega))
          clear NO YES
          go_wp2_with (go_at_call 325; refine (isLower_no _ _ (by omega)).mono ?_; rintro e w' ⟨rfl, rfl⟩)
          go_ret
          exact ⟨ret_bool F.out.symm, below_iter _ _ _⟩
        have hk0' : ((k : Int) == 0) = false := by simp; omega
        by_cases hdig : 48 ≤ x.toNat ∧ x.toNat ≤ 57
        · have F := Lib.hid (YES.out (by simp [schC, digB, hdig]; omega))
          clear NO YES
          go_wp2_with (first | (go_at_call 325; refine (isLower_no _ _ (by omega)).mono ?_; rintro e w' ⟨rfl, rfl⟩) | (go_at_call 266; refine (isDigit_yes _ _ (by omega)).mono ?_; rintro e w' ⟨rfl, rfl⟩))
          go_roundw
          case rel => exact ⟨k + 1, by omega, rfl, F.out⟩
          case measure => simp; omega
        by_cases hsg : x = 45 ∨ x = 43 ∨ x = 46
        · have F := Lib.hid (YES.out (by rcases hsg with rfl | rfl | rfl <;> simp [schC] <;> omega))
          clear NO YES
          rcases hsg with rfl | rfl | rfl
          all_goals
            go_wp2_with (first | (go_at_call 325; refine (isLower_no _ _ (by decide)).mono ?_; rintro e w' ⟨rfl, rfl⟩) | (go_at_call 266; refine (isDigit_no _ _ (by decide)).mono ?_; rintro e w' ⟨rfl, rfl⟩))
            go_roundw
            case rel => exact ⟨k + 1, by omega, rfl, F.out⟩
            case measure => simp; omega
        have m1 : ¬ x.toNat = 45 := fun e => hsg (.inl (UInt8.toNat_inj.1 e))
        have m2 : ¬ x.toNat = 43 := fun e => hsg (.inr (.inl (UInt8.toNat_inj.1 e)))
        have m3 : ¬ x.toNat = 46 := fun e => hsg (.inr (.inr (UInt8.toNat_inj.1 e)))
        have F := Lib.hid (NO.out (by simp [schC, lowB, digB]; omega))
        have n1 : ((x.toNat : Int) != 45) = true := by simp; omega
        have n2 : ((x.toNat : Int) != 46) = true := by simp; omega
        have n3 : ((x.toNat : Int) != 43) = true := by simp; omega
        clear NO YES hsg
        go_wp2_with (first | (go_at_call 325; refine (isLower_no _ _ (by omega)).mono ?_; rintro e w' ⟨rfl, rfl⟩) | (go_at_call 266; refine (isDigit_no _ _ (by omega)).mono ?_; rintro e w' ⟨rfl, rfl⟩))
        go_ret
        exact ⟨ret_bool F.out.symm, below_iter _ _ _⟩
      · obtain ⟨c, n, hc, hnx⟩ := next_high Tryz.prog w l k x hlt hx ha
        clear hx
        have F := Lib.hid (NO.out (by simp [schC, lowB, digB]; omega))
        have n1 : ((c : Int) != 45) = true := by simp; omega
        have n2 : ((c : Int) != 46) = true := by simp; omega
        have n3 : ((c : Int) != 43) = true := by simp; omega
        clear NO YES
        by_cases hk0 : k = 0
        · subst hk0
          go_wp2_with (go_at_call 325; refine (isLower_no _ _ (by omega)).mono ?_; rintro e w' ⟨rfl, rfl⟩)
          go_ret
          exact ⟨ret_bool F.out.symm, below_iter _ _ _⟩
        have hk0' : ((k : Int) == 0) = false := by simp; omega
        go_wp2_with (first | (go_at_call 325; refine (isLower_no _ _ (by omega)).mono ?_; rintro e w' ⟨rfl, rfl⟩) | (go_at_call 266; refine (isDigit_no _ _ (by omega)).mono ?_; rintro e w' ⟨rfl, rfl⟩))
        go_ret
        exact ⟨ret_bool F.out.symm, below_iter _ _ _⟩
    · obtain rfl : k = l.length := by omega
      have F := Lib.hid (sch_end l (by omega) (by omega) ht)
      have hnx := next_end Tryz.prog w l
      clear ht
      go_wp2
      go_ret
      exact ⟨ret_bool F.out.symm, below_iter _ _ _⟩
theorem has_index (l : List UInt8) (x : UInt8) : decide (0 ≤ Lib.indexByte l x) = hasB l x.toNat := by
  unfold hasB
  rw [Bool.eq_iff_iff, decide_eq_true_eq, decide_eq_true_eq]
  induction l with
  | nil => simp [Lib.indexByte, findB]
  | cons b l ih =>
    have hge := Lib.indexByte_ge l x
    have hle := findB_le l x.toNat
    by_cases hb : b = x
    · subst hb; simp [Lib.indexByte, findB]
    · have hb' : ¬ b.toNat = x.toNat := fun e => hb (UInt8.toNat_inj.1 e)
      have hb2 : (b == x) = false := by simpa using hb
      have e1 : findB (b :: l) x.toNat = findB l x.toNat + 1 := by simp [findB, hb']
      have e2 : Lib.indexByte (b :: l) x = if Lib.indexByte l x == -1 then -1 else Lib.indexByte l x + 1 := by simp [Lib.indexByte, hb2]
      rw [e1, e2, List.length_cons]
      by_cases hm : Lib.indexByte l x = -1
      · rw [if_pos (by simp [hm])]
        omega
      · rw [if_neg (by simp [hm])]
        omega
theorem contains_yes (l : List UInt8) (x : UInt8) (w : World) (ha : x.toNat < 128) (h : hasB l x.toNat = true) : Calls Tryz.prog 381 #[.string ⟨l.toArray⟩, .int .i32 (x.toNat : Int)] w fun e w' => e = .returned (.bool true) ∧ w = w' := by
  refine (Tryz.strings_ContainsRune_ascii ⟨l.toArray⟩ (x.toNat : Int) w (by omega) (by omega)).mono ?_
  rintro e w' ⟨rfl, rfl⟩
  exact ⟨ret_bool (by simpa [has_index] using h), rfl⟩
theorem contains_no (l : List UInt8) (x : UInt8) (w : World) (ha : x.toNat < 128) (h : hasB l x.toNat = false) : Calls Tryz.prog 381 #[.string ⟨l.toArray⟩, .int .i32 (x.toNat : Int)] w fun e w' => e = .returned (.bool false) ∧ w = w' := by
  refine (Tryz.strings_ContainsRune_ascii ⟨l.toArray⟩ (x.toNat : Int) w (by omega) (by omega)).mono ?_
  rintro e w' ⟨rfl, rfl⟩
  exact ⟨ret_bool (by have := has_index l x; simp at this ⊢; rw [h] at this; simpa using this), rfl⟩
theorem partOK_any (l wo : List UInt8) (w : World) (hl : l.length ≤ 9223372036854775807) : Calls Tryz.prog 365 #[.string ⟨l.toArray⟩, .string ⟨wo.toArray⟩] w fun e w' => e = .returned (.bool (onlyB l wo)) ∧ Below w.heap.size w w' := by
  go_enter Tryz.func365, Tryz.ntmps365
  go_wp2
  go_loopw [9] (fun _ wr => ∃ k : Nat, k ≤ l.length ∧ wr = w.iter ⟨l.toArray⟩ k ∧ leftIs (onlyB · wo) l k = true) (fun _ wr => l.length - wr.iterPos w.heap.size)
  case atStart => exact ⟨0, by omega, rfl, left_zero _ l⟩
  case round =>
    obtain ⟨k, hk, rfl, ht⟩ := hrel
    by_cases hlt : k < l.length
    · obtain ⟨x, hx, _⟩ := byte_at l k hlt
      have NO := Lib.hid (only_no l wo k x hlt hx ht)
      have YES := Lib.hid (only_yes l wo k x hlt hx ht)
      clear ht
      by_cases ha : x.toNat < 128
      · have hnx := next_low Tryz.prog w l k x hlt hx ha
        clear hx
        by_cases h1 : x.toNat < 33
        · have F := Lib.hid (NO.out (by simp [onlyC]; omega))
          clear NO YES
          go_wp2
          go_ret
          exact ⟨ret_bool F.out.symm, below_iter _ _ _⟩
        have d1 : decide ((x.toNat : Int) < 33) = false := by simp; omega
        by_cases h2 : 126 < x.toNat
        · have F := Lib.hid (NO.out (by simp [onlyC]; omega))
          clear NO YES
          go_wp2
          go_ret
          exact ⟨ret_bool F.out.symm, below_iter _ _ _⟩
        have d2 : decide ((126 : Int) < x.toNat) = false := by simp; omega
        by_cases h3 : hasB wo x.toNat = true
        · have F := Lib.hid (NO.out (by simp [onlyC, h3]))
          have H3 := Lib.hid h3
          clear NO YES h3
          go_wp2_with (go_at_call 381; refine (contains_yes _ _ _ ha H3.out).mono ?_; rintro e w' ⟨rfl, rfl⟩)
          go_ret
          exact ⟨ret_bool F.out.symm, below_iter _ _ _⟩
        · have h3' : hasB wo x.toNat = false := by simpa using h3
          have F := Lib.hid (YES.out (by simp [onlyC, h3']; omega))
          have H3 := Lib.hid h3'
          clear NO YES h3 h3'
          go_wp2_with (go_at_call 381; refine (contains_no _ _ _ ha H3.out).mono ?_; rintro e w' ⟨rfl, rfl⟩)
          go_roundw
          case rel => exact ⟨k + 1, by omega, rfl, F.out⟩
          case measure => simp; omega
      · obtain ⟨c, n, hc, hnx⟩ := next_high Tryz.prog w l k x hlt hx ha
        clear hx
        have F := Lib.hid (NO.out (by simp [onlyC]; omega))
        have d1 : decide ((c : Int) < 33) = false := by simp; omega
        clear NO YES
        go_wp2
        go_ret
        exact ⟨ret_bool F.out.symm, below_iter _ _ _⟩
    · obtain rfl : k = l.length := by omega
      have F := Lib.hid (only_end l wo ht)
      have hnx := next_end Tryz.prog w l
      clear ht
      go_wp2
      go_ret
      exact ⟨ret_bool F.out.symm, below_iter _ _ _⟩
end Go.Proofs.YtmaknkbmilcanaaGreatDoor.Ul
namespace Go.Proofs.YtmaknkbmilcanaaGreatDoor.Ul
open Go.RowKit
theorem bcellI {W w1 : World} (hb : Below W.heap.size W w1) : (∀ b o, b < W.heap.size → w1.cell? ⟨b, o, none⟩ = W.cell? ⟨b, o, none⟩) :=
  fun b o h => hb.cell (p := ⟨b, o, none⟩) h
theorem belI_alloc {w Y : World} {o : Obj} (h : Below w.heap.size w Y) : Below w.heap.size w (Y.alloc o) := h.alloc h.size o
theorem belI_step {w W w1 : World} (h : Below w.heap.size w W) (hb : Below W.heap.size W w1) : Below w.heap.size w w1 := h.trans (hb.mono h.size)
theorem belI_drewN {B : Nat} {a w : World} (h : Below B a w) (n : Nat) : Below B a (w.drewN n) := ⟨h.os, h.tape, h.output, h.size, h.block⟩
theorem quietI {P : Program} {f : FuncId} {args : Array Value} {w : World} {n : Nat} {v : Value}
    (h : Calls P f args (w.drewN n) fun e w' => e = .returned v ∧ w.drewN n = w') : Calls P f args (w.drewN n) fun e w'' => e = .returned v ∧ ∃ m, w'' = w.drewN m :=
  h.mono fun _ _ ⟨he, hm⟩ => ⟨he, n, hm.symm⟩
theorem hostOK_any (l : List UInt8) (w : World) (hl : l.length ≤ 9223372036854775807) : Calls Tryz.prog 378 #[.string ⟨l.toArray⟩] w fun e w' => e = .returned (.bool (hostB l)) ∧ Below w.heap.size w w' := by
  go_enter Tryz.func378, Tryz.ntmps378
  go_wp2
  go_loopw [3, 9] (fun la _ wr => ∃ (k : Nat) (b : Bool), k ≤ l.length ∧ la = .bool b ∧ wr = w.iter ⟨l.toArray⟩ k ∧ hostLeft l k b = true) (fun _ _ wr => l.length - wr.iterPos w.heap.size)
  case atStart => exact ⟨0, true, by omega, rfl, rfl, host_zero l⟩
  case round =>
    obtain ⟨k, b, hk, rfl, rfl, ht⟩ := hrel
    by_cases hlt : k < l.length
    · obtain ⟨x, hx, _⟩ := byte_at l k hlt
      have NO := Lib.hid (host_no l k b x hlt hx ht)
      by_cases ha : x.toNat < 128
      · have hnx := next_low Tryz.prog w l k x hlt hx ha
        by_cases hlow : 97 ≤ x.toNat ∧ x.toNat ≤ 122
        · have F := Lib.hid (host_plain l k b x hlt hx ht (by simp [plainB, lowB, hlow]))
          have n1 : ((x.toNat : Int) == 45) = false := by simp; omega
          have n2 : ((x.toNat : Int) == 46) = false := by simp; omega
          clear ht hx NO
          go_wp2_with (go_at_call 325; refine (isLower_yes _ _ (by omega)).mono ?_; rintro e w' ⟨rfl, rfl⟩)
          go_roundw
          case rel => exact ⟨k + 1, false, by omega, rfl, rfl, F.out⟩
          case measure => simp; omega
        by_cases hdig : 48 ≤ x.toNat ∧ x.toNat ≤ 57
        · have F := Lib.hid (host_plain l k b x hlt hx ht (by simp [plainB, digB, hdig]))
          have n1 : ((x.toNat : Int) == 45) = false := by simp; omega
          have n2 : ((x.toNat : Int) == 46) = false := by simp; omega
          clear ht hx NO
          go_wp2_with (first | (go_at_call 325; refine (isLower_no _ _ (by omega)).mono ?_; rintro e w' ⟨rfl, rfl⟩) | (go_at_call 266; refine (isDigit_yes _ _ (by omega)).mono ?_; rintro e w' ⟨rfl, rfl⟩))
          go_roundw
          case rel => exact ⟨k + 1, false, by omega, rfl, rfl, F.out⟩
          case measure => simp; omega
        have hp : plainB x = false := by simp [plainB, lowB, digB]; omega
        by_cases hsg : x = 45 ∨ x = 46
        · cases b
          · have F := Lib.hid (host_joint l k x hlt hx ht hp (by rcases hsg with rfl | rfl <;> rfl))
            clear ht hx NO hp
            rcases hsg with rfl | rfl
            all_goals
              go_wp2_with fail
              go_roundw
              case rel => exact ⟨k + 1, true, by omega, rfl, rfl, F.out⟩
              case measure => simp; omega
          · have F := Lib.hid (NO.out hp (.inr rfl))
            clear ht hx NO hp
            rcases hsg with rfl | rfl
            all_goals
              go_wp2_with fail
              go_ret
              exact ⟨ret_bool F.out.symm, below_iter _ _ _⟩
        have m1 : ¬ x.toNat = 45 := fun e => hsg (.inl (UInt8.toNat_inj.1 e))
        have m2 : ¬ x.toNat = 46 := fun e => hsg (.inr (UInt8.toNat_inj.1 e))
        have F := Lib.hid (NO.out hp (.inl (by simp [jointB]; omega)))
        have n1 : ((x.toNat : Int) == 45) = false := by simp; omega
        have n2 : ((x.toNat : Int) == 46) = false := by simp; omega
        clear NO hsg ht hx hp
        go_wp2_with (first | (go_at_call 325; refine (isLower_no _ _ (by omega)).mono ?_; rintro e w' ⟨rfl, rfl⟩) | (go_at_call 266; refine (isDigit_no _ _ (by omega)).mono ?_; rintro e w' ⟨rfl, rfl⟩))
        all_goals (go_ret; exact ⟨ret_bool F.out.symm, below_iter _ _ _⟩)
      · obtain ⟨c, n, hc, hnx⟩ := next_high Tryz.prog w l k x hlt hx ha
        have F := Lib.hid (NO.out (by simp [plainB, lowB, digB]; omega) (.inl (by simp [jointB]; omega)))
        have n1 : ((c : Int) == 45) = false := by simp; omega
        have n2 : ((c : Int) == 46) = false := by simp; omega
        clear NO ht hx
        go_wp2_with (first | (go_at_call 325; refine (isLower_no _ _ (by omega)).mono ?_; rintro e w' ⟨rfl, rfl⟩) | (go_at_call 266; refine (isDigit_no _ _ (by omega)).mono ?_; rintro e w' ⟨rfl, rfl⟩))
        all_goals (go_ret; exact ⟨ret_bool F.out.symm, below_iter _ _ _⟩)
    · obtain rfl : k = l.length := by omega
      have F := Lib.hid (host_end l b ht)
      have hnx := next_end Tryz.prog w l
      clear ht
      go_wp2
      go_ret
      exact ⟨ret_bool F.out.symm, below_iter _ _ _⟩
def portB (s : List UInt8) (p : Int) : Bool := decide (0 ≤ p ∧ p ≤ 65535) && !(p == dport s)
theorem portOK_any (s us h pa q f : List UInt8) (p : Int) (hq hf : Bool) (w : World) :
    Calls Tryz.prog 379 #[.agg #[.string ⟨s.toArray⟩, .string ⟨us.toArray⟩, .string ⟨h.toArray⟩, .int .i64 p, .string ⟨pa.toArray⟩, .string ⟨q.toArray⟩, .string ⟨f.toArray⟩, .bool hq, .bool hf]] w fun e w' => e = .returned (.bool (portB s p)) ∧ Below w.heap.size w w' := by
  by_cases h1 : p < 0
  · have F : portB s p = false := by simp [portB]; omega
    have F := Lib.hid F
    have d1 : decide ((0 : Int) ≤ p) = false := by simp; omega
    go_enter Tryz.func379, Tryz.ntmps379
    go_wp2_with fail
    go_quiet (fail)
    go_wp2
    go_ret
    exact ⟨ret_bool (by rw [F.out]), belI_drewN (by repeat (first | exact Below.refl _ _ | refine belI_alloc ?_ | refine Below.drew ?_ | refine belI_step ?_ (by assumption))) _⟩
  have d1 : decide ((0 : Int) ≤ p) = true := by simp; omega
  by_cases h2 : 65535 < p
  · have F : portB s p = false := by simp [portB]; omega
    have F := Lib.hid F
    have d2 : decide (p ≤ 65535) = false := by simp; omega
    go_enter Tryz.func379, Tryz.ntmps379
    go_wp2_with fail
    go_quiet (fail)
    go_wp2
    go_ret
    exact ⟨ret_bool (by rw [F.out]), belI_drewN (by repeat (first | exact Below.refl _ _ | refine belI_alloc ?_ | refine Below.drew ?_ | refine belI_step ?_ (by assumption))) _⟩
  have d2 : decide (p ≤ 65535) = true := by simp; omega
  have F : portB s p = !(p == dport s) := by
    have : decide (0 ≤ p ∧ p ≤ 65535) = true := by simp; omega
    simp [portB, this]
  have F := Lib.hid F
  go_enter Tryz.func379, Tryz.ntmps379
  go_wp2_with fail
  go_quiet ((go_at_call 377; exact quietI (dport_any _ _)))
  go_wp2
  go_ret
  exact ⟨ret_bool (by rw [F.out]; rfl), belI_drewN (by repeat (first | exact Below.refl _ _ | refine belI_alloc ?_ | refine Below.drew ?_ | refine belI_step ?_ (by assumption))) _⟩
def webB2 (s us h pa q f : List UInt8) (p : Int) (hq hf : Bool) : Bool :=
  onlyB us [47, 63, 35, 64] && hostB h && portB s p && Lib.hasPrefix pa [47] && onlyB pa [63, 35] && onlyB q [35] && (hq || q == []) && onlyB f [] && (hf || f == [])
theorem webB2_eq (s us h pa q f : List UInt8) (p : Int) (hq hf : Bool) : webB2 s us h pa q f p hq hf = (onlyB us [47, 63, 35, 64] && hostB h && portB s p && Lib.hasPrefix pa [47] && onlyB pa [63, 35] && onlyB q [35] && (hq || q == []) && onlyB f [] && (hf || f == [])) := rfl
set_option maxRecDepth 100000 in
set_option maxHeartbeats 1000000 in
theorem webOK_any (s us h pa q f : List UInt8) (p : Int) (hq hf : Bool) (w : World) (hl : s.length + us.length + h.length + pa.length + q.length + f.length ≤ 4611686018427387904) :
    Calls Tryz.prog 364 #[.agg #[.string ⟨s.toArray⟩, .string ⟨us.toArray⟩, .string ⟨h.toArray⟩, .int .i64 p, .string ⟨pa.toArray⟩, .string ⟨q.toArray⟩, .string ⟨f.toArray⟩, .bool hq, .bool hf]] w fun e w' => e = .returned (.bool (webB2 s us h pa q f p hq hf)) ∧ Below w.heap.size w w' := by
  have W20 := webB2_eq s us h pa q f p hq hf
  generalize webB2 s us h pa q f p hq hf = wv at *
  have W2 := Lib.hid W20
  clear W20
  go_enter Tryz.func364, Tryz.ntmps364
  go_wp2_with (first
    | (go_at_call 365; refine (partOK_any _ _ _ (by first | omega | simp)).mono ?_; rintro e w1 ⟨rfl, hb⟩; have hc := bcellI hb; have hz : w.heap.size < w1.heap.size := (by have := hb.size; (try simp at this); omega))
    | (go_at_call 378; refine (hostOK_any _ _ (by omega)).mono ?_; rintro e w1 ⟨rfl, hb⟩; have hc := bcellI hb; have hz : w.heap.size < w1.heap.size := (by have := hb.size; (try simp at this); omega))
    | (go_at_call 379; refine (portOK_any _ _ _ _ _ _ _ _ _ _).mono ?_; rintro e w1 ⟨rfl, hb⟩; have hc := bcellI hb; have hz : w.heap.size < w1.heap.size := (by have := hb.size; (try simp at this); omega))
    | (go_at_call 380; refine (Tryz.strings_HasPrefix _ _ _).mono ?_; rintro e w' ⟨rfl, rfl⟩))
  all_goals
    go_ret
    refine ⟨ret_bool ?_, (by repeat (first | exact Below.refl _ _ | refine belI_alloc ?_ | refine Below.drew ?_ | refine belI_step ?_ (by assumption)))⟩
    rw [W2.out]
    first | (simp [*]; done) | (simp_all; done)
end Go.Proofs.YtmaknkbmilcanaaGreatDoor.Ul
namespace Go.Proofs.YtmaknkbmilcanaaGreatDoor.Ul
open Go.RowKit
@[local go_sem] theorem bappI (a b : List UInt8) : (⟨a.toArray⟩ : ByteArray) ++ ⟨b.toArray⟩ = ⟨(a ++ b).toArray⟩ := by
  apply ByteArray.ext; simp
def fieldsB (s us h pa q f : List UInt8) (p : Int) (hq hf : Bool) : Bool :=
  schemeB s && (if webB s then webB2 s us h pa q f p hq hf else (us == [] && h == [] && p == 0 && q == [] && f == [] && !hq && !hf) && onlyB pa [63, 35])
theorem fieldsB_eq (s us h pa q f : List UInt8) (p : Int) (hq hf : Bool) : fieldsB s us h pa q f p hq hf = (schemeB s && (if webB s then webB2 s us h pa q f p hq hf else (us == [] && h == [] && p == 0 && q == [] && f == [] && !hq && !hf) && onlyB pa [63, 35])) := rfl
set_option maxRecDepth 100000 in
theorem fieldsOK_any (s us h pa q f : List UInt8) (p : Int) (hq hf : Bool) (w : World) (hl : s.length + us.length + h.length + pa.length + q.length + f.length ≤ 4611686018427387904) :
    Calls Tryz.prog 351 #[.agg #[.string ⟨s.toArray⟩, .string ⟨us.toArray⟩, .string ⟨h.toArray⟩, .int .i64 p, .string ⟨pa.toArray⟩, .string ⟨q.toArray⟩, .string ⟨f.toArray⟩, .bool hq, .bool hf]] w fun e w' => e = .returned (.bool (fieldsB s us h pa q f p hq hf)) ∧ Below w.heap.size w w' := by
  have W20 := fieldsB_eq s us h pa q f p hq hf
  generalize fieldsB s us h pa q f p hq hf = wv at *
  have W2 := Lib.hid W20
  clear W20
  go_enter Tryz.func351, Tryz.ntmps351
  go_wp2_with (first
    | (go_at_call 363; refine (schemeOK_any _ _ (by omega)).mono ?_; rintro e w1 ⟨rfl, hb⟩; have hc := bcellI hb; have hz : w.heap.size < w1.heap.size := (by have := hb.size; (try simp at this); omega))
    | (go_at_call 323; refine (isWeb_any _ _).mono ?_; rintro e w' ⟨rfl, rfl⟩)
    | (go_at_call 364; refine (webOK_any _ _ _ _ _ _ _ _ _ _ (by omega)).mono ?_; rintro e w1 ⟨rfl, hb⟩)
    | (go_at_call 365; refine (partOK_any _ _ _ (by first | omega | simp)).mono ?_; rintro e w1 ⟨rfl, hb⟩))
  all_goals
    go_ret
    refine ⟨ret_bool ?_, (by repeat (first | exact Below.refl _ _ | refine belI_alloc ?_ | refine Below.drew ?_ | refine belI_step ?_ (by assumption)))⟩
    rw [W2.out]
    simp_all
theorem partsLength_any (s us h pa q f : List UInt8) (p : Int) (hq hf : Bool) (w : World) (hl : s.length + us.length + h.length + pa.length + q.length + f.length ≤ 4611686018427387904) :
    Calls Tryz.prog 350 #[.agg #[.string ⟨s.toArray⟩, .string ⟨us.toArray⟩, .string ⟨h.toArray⟩, .int .i64 p, .string ⟨pa.toArray⟩, .string ⟨q.toArray⟩, .string ⟨f.toArray⟩, .bool hq, .bool hf]] w fun e w' => e = .returned (.int .i64 ((s.length + us.length + h.length + pa.length + q.length + f.length : Nat) : Int)) ∧ Below w.heap.size w w' := by
  go_enter Tryz.func350, Tryz.ntmps350
  go_wp2
  go_ret
  exact ⟨ret_int (by simp), (by repeat (first | exact Below.refl _ _ | refine belI_alloc ?_ | refine Below.drew ?_ | refine belI_step ?_ (by assumption)))⟩
def Tab (w : World) : Prop := Lib.TabIs Tryz.prog w "internal/strconv.uint64pow10" .u64 Lib.pow10Tab
theorem Tab.below {w w' : World} (h : Tab w) (hb : Below w.heap.size w w') : Tab w' := by
  unfold Tab Lib.TabIs at h ⊢
  unfold World.var? at h ⊢
  cases hg : Tryz.prog.globalNamed "internal/strconv.uint64pow10" with
  | none => simp [hg] at h
  | some g =>
    simp only [hg, Option.bind_some] at h ⊢
    have hgB : g < w.heap.size := by
      rcases Nat.lt_or_ge g w.heap.size with h1 | h1
      · exact h1
      · rw [Array.getElem?_eq_none h1] at h; cases h
    rw [hb.block g hgB]
    exact h
theorem itoa_any (n : Nat) (hn : n ≤ 9223372036854775807) (w : World) (hT : Tab w) : Calls Tryz.prog 246 #[.int .i64 (n : Int)] w fun e w' => e = .returned (.string ⟨(Lib.decDigits n).toArray⟩) ∧ Below w.heap.size w w' := by
  refine (Tryz.strconv_Itoa (n : Int) (by omega) (by omega) w hT).mono ?_
  rintro e w' ⟨rfl, k, os, rfl⟩
  exact ⟨by rw [Lib.itoa_nonneg], Lib.below_grow _ _ (Nat.le_refl _) _ _⟩
set_option maxRecDepth 100000 in
theorem hostText_any (s us h pa q f : List UInt8) (p : Int) (hq hf : Bool) (w : World) (hT : Tab w) (hp : 0 ≤ p ∧ p ≤ 65535) (hl : h.length ≤ 4611686018427387904) :
    Calls Tryz.prog 347 #[.agg #[.string ⟨s.toArray⟩, .string ⟨us.toArray⟩, .string ⟨h.toArray⟩, .int .i64 p, .string ⟨pa.toArray⟩, .string ⟨q.toArray⟩, .string ⟨f.toArray⟩, .bool hq, .bool hf]] w fun e w' => e = .returned (.string ⟨(h ++ portL p).toArray⟩) ∧ Below w.heap.size w w' := by
  by_cases hp0 : p = 0
  · subst hp0
    rw [portL_no (by decide), List.append_nil]
    go_enter Tryz.func347, Tryz.ntmps347
    go_wp2
    go_ret
    exact ⟨rfl, (by repeat (first | exact Below.refl _ _ | refine belI_alloc ?_ | refine Below.drew ?_ | refine belI_step ?_ (by assumption)))⟩
  · obtain ⟨n, rfl⟩ := Int.eq_ofNat_of_zero_le hp.1
    have e : portL n = [58] ++ Lib.decDigits n := by simp [portL]; omega
    have hd := digs_len 18 n (by omega)
    have HC := Lib.hid (fun W hT => itoa_any n (by omega) W hT)
    have HT := Lib.hid hT
    have d0 : ((n : Int) == 0) = false := by simp; omega
    rw [e]
    clear e hT hp0
    generalize Lib.decDigits n = dd at *
    have b1 : ¬ 9223372036854775807 < h.length + 1 := by omega
    have b2 : ¬ 9223372036854775807 < h.length + 1 + dd.length := by omega
    go_enter Tryz.func347, Tryz.ntmps347
    go_wp2_with fail
    go_region_held3 (fun wx => w.heap.size < wx.heap.size ∧ wx.cell? ⟨w.heap.size, 2, none⟩ = some (.string ⟨h.toArray⟩) ∧ wx.cell? ⟨w.heap.size, 3, none⟩ = some (.int .i64 n) ∧ Below w.heap.size w wx)
      (first
        | (simp [*, Below.refl, belI_alloc, Below.drew]; done)
        | (go_split_ands
           have hz := hb.size
           refine ⟨by omega, ?_, ?_, belI_step (by assumption) hb⟩
           · (rw [hb.cell (p := ⟨w.heap.size, 2, none⟩) (by assumption)]; assumption)
           · (rw [hb.cell (p := ⟨w.heap.size, 3, none⟩) (by assumption)]; assumption)))
      (first | (go_split_ands; go_at_call 246; refine (HC.out _ (HT.out.below (by assumption))).mono ?_; rintro e w1 ⟨rfl, hb⟩))
    all_goals
      go_wp2
      go_ret
      refine ⟨ret_str (by simp), by simp [*]⟩
end Go.Proofs.YtmaknkbmilcanaaGreatDoor.Ul
namespace Go.Proofs.YtmaknkbmilcanaaGreatDoor.Ul
open Go.RowKit
attribute [local go_sem] bappI
theorem userI_no : userL [] = [] := rfl
theorem userI_yes {l : List UInt8} (h : ¬ l = []) : userL l = l ++ [64] := by simp [userL, h]
set_option maxRecDepth 100000 in
theorem join_web (s us h pa q f : List UInt8) (p : Int) (hq hf : Bool) (w : World) (hT : Tab w) (hp : 0 ≤ p ∧ p ≤ 65535) (hl : s.length + us.length + h.length + pa.length + q.length + f.length ≤ 4611686018427387904) (hw : webB s = true) :
    Calls Tryz.prog 324 #[.agg #[.string ⟨s.toArray⟩, .string ⟨us.toArray⟩, .string ⟨h.toArray⟩, .int .i64 p, .string ⟨pa.toArray⟩, .string ⟨q.toArray⟩, .string ⟨f.toArray⟩, .bool hq, .bool hf]] w fun e w' => e = .returned (.string ⟨(textL ⟨s, us, h, p, pa, q, f, hq, hf⟩).toArray⟩) ∧ Below w.heap.size w w' := by
  have e : textL ⟨s, us, h, p, pa, q, f, hq, hf⟩ = s ++ [58, 47, 47] ++ userL us ++ (h ++ portL p ++ pa) ++ queryL hq q ++ fragL hf f := by simp [textL, hw]
  rw [e]
  clear e
  have hd := portL_len p (by omega)
  have HS0 := fun (us' : List UInt8) W hT => hostText_any s us' h pa q f p hq hf W hT hp (by omega)
  have HT := Lib.hid hT
  clear hT
  generalize portL p = po at *
  have b2 : ¬ 9223372036854775807 < h.length + po.length + pa.length := by omega
  by_cases hu : us = []
  · subst hu
    have b3 : ¬ 9223372036854775807 < s.length + 3 + (h.length + po.length + pa.length) := by omega
    have b4 : ¬ 9223372036854775807 < s.length + 3 + (h.length + (po.length + pa.length)) := by omega
    have HS := Lib.hid (HS0 [])
    clear HS0
    rw [userI_no]
    go_enter Tryz.func324, Tryz.ntmps324
    go_wp2_with fail
    refine (isWeb_any _ _).mono ?_
    rintro e w' ⟨rfl, rfl⟩
    go_wp2_with fail
    go_region_held3 (fun wx => w.heap.size < wx.heap.size ∧ wx.cell? ⟨w.heap.size, 0, none⟩ = some (.string ⟨s.toArray⟩) ∧ wx.cell? ⟨w.heap.size, 1, none⟩ = some (.string ⟨#[]⟩) ∧ wx.cell? ⟨w.heap.size, 2, none⟩ = some (.string ⟨h.toArray⟩) ∧ wx.cell? ⟨w.heap.size, 3, none⟩ = some (.int .i64 p) ∧ wx.cell? ⟨w.heap.size, 4, none⟩ = some (.string ⟨pa.toArray⟩) ∧ wx.cell? ⟨w.heap.size, 5, none⟩ = some (.string ⟨q.toArray⟩) ∧ wx.cell? ⟨w.heap.size, 6, none⟩ = some (.string ⟨f.toArray⟩) ∧ wx.cell? ⟨w.heap.size, 7, none⟩ = some (.bool hq) ∧ wx.cell? ⟨w.heap.size, 8, none⟩ = some (.bool hf) ∧ Below w.heap.size w wx)
      (first
          | (simp [*, Below.refl, belI_alloc, Below.drew]; done)
          | (go_split_ands
             have hz := hb.size
             refine ⟨by omega, ?_, ?_, ?_, ?_, ?_, ?_, ?_, ?_, ?_, belI_step (by assumption) hb⟩
             · (rw [hb.cell (p := ⟨w.heap.size, 0, none⟩) (by assumption)]; assumption)
             · (rw [hb.cell (p := ⟨w.heap.size, 1, none⟩) (by assumption)]; assumption)
             · (rw [hb.cell (p := ⟨w.heap.size, 2, none⟩) (by assumption)]; assumption)
             · (rw [hb.cell (p := ⟨w.heap.size, 3, none⟩) (by assumption)]; assumption)
             · (rw [hb.cell (p := ⟨w.heap.size, 4, none⟩) (by assumption)]; assumption)
             · (rw [hb.cell (p := ⟨w.heap.size, 5, none⟩) (by assumption)]; assumption)
             · (rw [hb.cell (p := ⟨w.heap.size, 6, none⟩) (by assumption)]; assumption)
             · (rw [hb.cell (p := ⟨w.heap.size, 7, none⟩) (by assumption)]; assumption)
             · (rw [hb.cell (p := ⟨w.heap.size, 8, none⟩) (by assumption)]; assumption)))
      (first | (go_split_ands; go_at_call 347; refine (HS.out _ (HT.out.below (by assumption))).mono ?_; rintro e w1 ⟨rfl, hb⟩))
    cases hq <;> cases hf
    all_goals
      go_wp2
      go_ret
      exact ⟨ret_str (by simp [queryL, fragL]), by simp [*]⟩
  · rw [userI_yes hu]
    have b3 : ¬ 9223372036854775807 < s.length + (us.length + 1 + 1 + 1 + 1) + (h.length + po.length + pa.length) := by omega
    have hu' : us.isEmpty = false := by simpa using hu
    have b4 : ¬ 9223372036854775807 < s.length + (us.length + 1 + 1 + 1 + 1) + (h.length + (po.length + pa.length)) := by omega
    have HS := Lib.hid (HS0 us)
    clear HS0
    go_enter Tryz.func324, Tryz.ntmps324
    go_wp2_with fail
    refine (isWeb_any _ _).mono ?_
    rintro e w' ⟨rfl, rfl⟩
    go_wp2_with fail
    go_region_held3 (fun wx => w.heap.size < wx.heap.size ∧ wx.cell? ⟨w.heap.size, 0, none⟩ = some (.string ⟨s.toArray⟩) ∧ wx.cell? ⟨w.heap.size, 1, none⟩ = some (.string ⟨us.toArray⟩) ∧ wx.cell? ⟨w.heap.size, 2, none⟩ = some (.string ⟨h.toArray⟩) ∧ wx.cell? ⟨w.heap.size, 3, none⟩ = some (.int .i64 p) ∧ wx.cell? ⟨w.heap.size, 4, none⟩ = some (.string ⟨pa.toArray⟩) ∧ wx.cell? ⟨w.heap.size, 5, none⟩ = some (.string ⟨q.toArray⟩) ∧ wx.cell? ⟨w.heap.size, 6, none⟩ = some (.string ⟨f.toArray⟩) ∧ wx.cell? ⟨w.heap.size, 7, none⟩ = some (.bool hq) ∧ wx.cell? ⟨w.heap.size, 8, none⟩ = some (.bool hf) ∧ Below w.heap.size w wx)
      (first
          | (simp [*, Below.refl, belI_alloc, Below.drew]; done)
          | (go_split_ands
             have hz := hb.size
             refine ⟨by omega, ?_, ?_, ?_, ?_, ?_, ?_, ?_, ?_, ?_, belI_step (by assumption) hb⟩
             · (rw [hb.cell (p := ⟨w.heap.size, 0, none⟩) (by assumption)]; assumption)
             · (rw [hb.cell (p := ⟨w.heap.size, 1, none⟩) (by assumption)]; assumption)
             · (rw [hb.cell (p := ⟨w.heap.size, 2, none⟩) (by assumption)]; assumption)
             · (rw [hb.cell (p := ⟨w.heap.size, 3, none⟩) (by assumption)]; assumption)
             · (rw [hb.cell (p := ⟨w.heap.size, 4, none⟩) (by assumption)]; assumption)
             · (rw [hb.cell (p := ⟨w.heap.size, 5, none⟩) (by assumption)]; assumption)
             · (rw [hb.cell (p := ⟨w.heap.size, 6, none⟩) (by assumption)]; assumption)
             · (rw [hb.cell (p := ⟨w.heap.size, 7, none⟩) (by assumption)]; assumption)
             · (rw [hb.cell (p := ⟨w.heap.size, 8, none⟩) (by assumption)]; assumption)))
      (first | (go_split_ands; go_at_call 347; refine (HS.out _ (HT.out.below (by assumption))).mono ?_; rintro e w1 ⟨rfl, hb⟩))
    cases hq <;> cases hf
    all_goals
      go_wp2
      go_ret
      exact ⟨ret_str (by simp [queryL, fragL]), by simp [*]⟩
theorem join_other (s us h pa q f : List UInt8) (p : Int) (hq hf : Bool) (w : World) (hl : s.length + us.length + h.length + pa.length + q.length + f.length ≤ 4611686018427387904) (hw : webB s = false) :
    Calls Tryz.prog 324 #[.agg #[.string ⟨s.toArray⟩, .string ⟨us.toArray⟩, .string ⟨h.toArray⟩, .int .i64 p, .string ⟨pa.toArray⟩, .string ⟨q.toArray⟩, .string ⟨f.toArray⟩, .bool hq, .bool hf]] w fun e w' => e = .returned (.string ⟨(textL ⟨s, us, h, p, pa, q, f, hq, hf⟩).toArray⟩) ∧ Below w.heap.size w w' := by
  have e : textL ⟨s, us, h, p, pa, q, f, hq, hf⟩ = s ++ [58] ++ pa := by simp [textL, hw]
  rw [e]
  clear e
  go_enter Tryz.func324, Tryz.ntmps324
  go_wp2_with (go_at_call 323; refine (isWeb_any _ _).mono ?_; rintro e w' ⟨rfl, rfl⟩)
  go_ret
  exact ⟨ret_str (by simp), (by repeat (first | exact Below.refl _ _ | refine belI_alloc ?_ | refine Below.drew ?_ | refine belI_step ?_ (by assumption)))⟩
theorem join_any (s us h pa q f : List UInt8) (p : Int) (hq hf : Bool) (w : World) (hT : Tab w) (hp : webB s = true → 0 ≤ p ∧ p ≤ 65535) (hl : s.length + us.length + h.length + pa.length + q.length + f.length ≤ 4611686018427387904) :
    Calls Tryz.prog 324 #[.agg #[.string ⟨s.toArray⟩, .string ⟨us.toArray⟩, .string ⟨h.toArray⟩, .int .i64 p, .string ⟨pa.toArray⟩, .string ⟨q.toArray⟩, .string ⟨f.toArray⟩, .bool hq, .bool hf]] w fun e w' => e = .returned (.string ⟨(textL ⟨s, us, h, p, pa, q, f, hq, hf⟩).toArray⟩) ∧ Below w.heap.size w w' := by
  by_cases hw : webB s = true
  · exact join_web s us h pa q f p hq hf w hT (hp hw) hl hw
  · exact join_other s us h pa q f p hq hf w hl (by simpa using hw)
end Go.Proofs.YtmaknkbmilcanaaGreatDoor.Ul
namespace Go.Proofs.YtmaknkbmilcanaaGreatDoor.Ul
open Go.RowKit
attribute [local go_sem] bappI
theorem prefix_slash (l : List UInt8) : Lib.hasPrefix l [47] = slashB l := by
  cases l with
  | nil => rfl
  | cons c l =>
    show (47 == c && true) = (c == 47)
    rw [Bool.and_true]
    by_cases h : c = 47
    · subst h; rfl
    · have h1 : (c == 47) = false := by simpa using h
      have h2 : ((47 : UInt8) == c) = false := by simpa using fun e => h e.symm
      rw [h1, h2]
theorem dport_web (s : List UInt8) (h : webB s = true) : dport s = usual s := by
  unfold dport usual
  by_cases h1 : (s == http) = true
  · simp [h1]
  · have h2 : (s == https) = true := by simpa [webB, h1] using h
    rw [if_neg h1, if_neg h1, if_pos h2]
theorem size_text (s us h pa q f : List UInt8) (p : Int) (hq hf : Bool) (h1 : hq = true ∨ q = []) (h2 : hf = true ∨ f = []) (h3 : webB s = true ∨ (us = [] ∧ h = [] ∧ q = [] ∧ f = [])) :
    s.length + us.length + h.length + pa.length + q.length + f.length ≤ (textL ⟨s, us, h, p, pa, q, f, hq, hf⟩).length := by
  unfold textL
  by_cases hw : webB s = true
  · have e1 : us.length ≤ (userL us).length := by unfold userL; split <;> simp_all
    have e2 : q.length ≤ (queryL hq q).length := by rcases h1 with rfl | rfl <;> simp [queryL]
    have e3 : f.length ≤ (fragL hf f).length := by rcases h2 with rfl | rfl <;> simp [fragL]
    simp only [hw, if_true, List.length_append]
    omega
  · obtain ⟨rfl, rfl, rfl, rfl⟩ := h3.resolve_left hw
    first | (simp [hw]; done) | (simp [hw]; omega)
theorem okB_fields (s us h pa q f : List UInt8) (p : Int) (hq hf : Bool) : okB ⟨s, us, h, p, pa, q, f, hq, hf⟩ = (fieldsB s us h pa q f p hq hf && decide ((textL ⟨s, us, h, p, pa, q, f, hq, hf⟩).length ≤ 100)) := by
  rw [okB_eq, fieldsB_eq]
  by_cases hw : webB s = true
  · rw [webB2_eq, portB, dport_web s hw, prefix_slash]
    simp only [hw, if_true]
    ac_rfl
  · have hw : webB s = false := by simpa using hw
    simp only [hw, Bool.false_eq_true, if_false]
    cases hq <;> cases hf <;> simp
    cases q <;> cases f <;> simp [onlyB]
    ac_rfl
theorem okB_impl (s us h pa q f : List UInt8) (p : Int) (hq hf : Bool) : okB ⟨s, us, h, p, pa, q, f, hq, hf⟩ = (decide (s.length + us.length + h.length + pa.length + q.length + f.length ≤ 100) && fieldsB s us h pa q f p hq hf && decide ((textL ⟨s, us, h, p, pa, q, f, hq, hf⟩).length ≤ 100)) := by
  rw [okB_fields]
  by_cases hx : (fieldsB s us h pa q f p hq hf && decide ((textL ⟨s, us, h, p, pa, q, f, hq, hf⟩).length ≤ 100)) = true
  · have hs : s.length + us.length + h.length + pa.length + q.length + f.length ≤ 100 := by
      simp only [Bool.and_eq_true, decide_eq_true_eq] at hx
      obtain ⟨hf1, hlen⟩ := hx
      refine Nat.le_trans (size_text s us h pa q f p hq hf ?_ ?_ ?_) hlen
      all_goals
        rw [fieldsB_eq, webB2_eq] at hf1
        by_cases hw : webB s = true <;> simp_all
    simp [hs]
  · have hx : (fieldsB s us h pa q f p hq hf && decide ((textL ⟨s, us, h, p, pa, q, f, hq, hf⟩).length ≤ 100)) = false := by simpa using hx
    rw [Bool.and_assoc, hx, Bool.and_false]
theorem fields_port (s us h pa q f : List UInt8) (p : Int) (hq hf : Bool) (hf1 : fieldsB s us h pa q f p hq hf = true) (hw : webB s = true) : 0 ≤ p ∧ p ≤ 65535 := by
  rw [fieldsB_eq, webB2_eq, portB] at hf1
  simp_all
theorem UrlOK_any (s us h pa q f : List UInt8) (p : Int) (hq hf : Bool) (w : World) (hT : Tab w) (hl : s.length + us.length + h.length + pa.length + q.length + f.length ≤ 4611686018427387904) :
    Calls Tryz.prog 321 #[.agg #[.string ⟨s.toArray⟩, .string ⟨us.toArray⟩, .string ⟨h.toArray⟩, .int .i64 p, .string ⟨pa.toArray⟩, .string ⟨q.toArray⟩, .string ⟨f.toArray⟩, .bool hq, .bool hf]] w fun e w' => e = .returned (.bool (okB ⟨s, us, h, p, pa, q, f, hq, hf⟩)) ∧ Below w.heap.size w w' := by
  have HT := Lib.hid hT
  clear hT
  have E0 := okB_impl s us h pa q f p hq hf
  by_cases h1 : s.length + us.length + h.length + pa.length + q.length + f.length ≤ 100
  · by_cases h2 : fieldsB s us h pa q f p hq hf = true
    · have hj := fun W hT => join_any s us h pa q f p hq hf W hT (fields_port s us h pa q f p hq hf h2) hl
      have E : okB ⟨s, us, h, p, pa, q, f, hq, hf⟩ = decide (((textL ⟨s, us, h, p, pa, q, f, hq, hf⟩).length : Int) ≤ 100) := by
        rw [E0, h2]; rw [Bool.eq_iff_iff]; simp; omega
      have hlen := textL_len ⟨s, us, h, p, pa, q, f, hq, hf⟩ (by
        by_cases hw : webB s = true
        · have := fields_port s us h pa q f p hq hf h2 hw
          simp only; omega
        · rw [fieldsB_eq] at h2
          simp_all)
      simp only [sizeU] at hlen
      rw [E]
      clear E E0
      generalize textL ⟨s, us, h, p, pa, q, f, hq, hf⟩ = tl at *
      have HJ := Lib.hid hj
      have H2 := Lib.hid h2
      clear hj h2
      have g1 : decide (((s.length + us.length + h.length + pa.length + q.length + f.length : Nat) : Int) ≤ 100) = true := by simp; omega
      have hF := fun W => fieldsOK_any s us h pa q f p hq hf W hl
      rw [H2.out] at hF
      have HF := Lib.hid hF
      clear hF
      go_enter Tryz.func321, Tryz.ntmps321
      go_wp2_with (first
        | (go_at_call 350; refine (partsLength_any _ _ _ _ _ _ _ _ _ _ hl).mono ?_; rintro e w1 ⟨rfl, hb⟩; have hc := bcellI hb; have hz : w.heap.size < w1.heap.size := (by have := hb.size; (try simp at this); omega))
        | (go_at_call 351; refine (HF.out _).mono ?_; rintro e w1 ⟨rfl, hb⟩; have hc := bcellI hb; have hz : w.heap.size < w1.heap.size := (by have := hb.size; (try simp at this); omega))
        | (go_at_call 324; refine (HJ.out _ (HT.out.below (by repeat (first | exact Below.refl _ _ | refine belI_alloc ?_ | refine Below.drew ?_ | refine belI_step ?_ (by assumption))))).mono ?_; rintro e w1 ⟨rfl, hb⟩))
      go_ret
      exact ⟨rfl, (by repeat (first | exact Below.refl _ _ | refine belI_alloc ?_ | refine Below.drew ?_ | refine belI_step ?_ (by assumption)))⟩
    · have h2 : fieldsB s us h pa q f p hq hf = false := by simpa using h2
      have E : okB ⟨s, us, h, p, pa, q, f, hq, hf⟩ = false := by rw [E0, h2]; simp
      rw [E]
      clear E E0
      have H2 := Lib.hid h2
      clear h2
      have hF := fun W => fieldsOK_any s us h pa q f p hq hf W hl
      rw [H2.out] at hF
      have HF := Lib.hid hF
      clear hF
      go_enter Tryz.func321, Tryz.ntmps321
      go_wp2_with (first
        | (go_at_call 350; refine (partsLength_any _ _ _ _ _ _ _ _ _ _ hl).mono ?_; rintro e w1 ⟨rfl, hb⟩; have hc := bcellI hb; have hz : w.heap.size < w1.heap.size := (by have := hb.size; (try simp at this); omega))
        | (go_at_call 351; refine (HF.out _).mono ?_; rintro e w1 ⟨rfl, hb⟩; have hc := bcellI hb; have hz : w.heap.size < w1.heap.size := (by have := hb.size; (try simp at this); omega)))
      go_ret
      exact ⟨rfl, (by repeat (first | exact Below.refl _ _ | refine belI_alloc ?_ | refine Below.drew ?_ | refine belI_step ?_ (by assumption)))⟩
  · have E : okB ⟨s, us, h, p, pa, q, f, hq, hf⟩ = false := by
      rw [E0, show decide (s.length + us.length + h.length + pa.length + q.length + f.length ≤ 100) = false from by simp; omega]; rfl
    rw [E]
    clear E E0
    go_enter Tryz.func321, Tryz.ntmps321
    go_wp2_with (go_at_call 350; refine (partsLength_any _ _ _ _ _ _ _ _ _ _ hl).mono ?_; rintro e w1 ⟨rfl, hb⟩; have hc := bcellI hb; have hz : w.heap.size < w1.heap.size := (by have := hb.size; (try simp at this); omega))
    go_ret
    exact ⟨rfl, (by repeat (first | exact Below.refl _ _ | refine belI_alloc ?_ | refine Below.drew ?_ | refine belI_step ?_ (by assumption)))⟩
end Go.Proofs.YtmaknkbmilcanaaGreatDoor.Ul
namespace Go.Proofs.YtmaknkbmilcanaaGreatDoor.Ul
open Go.RowKit
/-! ### strings.Cut -/
theorem index_find (l : List UInt8) (x : UInt8) : Lib.index l [x] = if hasB l x.toNat then (findB l x.toNat : Int) else -1 := by
  rw [Lib.index_one]
  induction l with
  | nil => rfl
  | cons b l ih =>
    by_cases hb : b = x
    · subst hb; simp [Lib.indexByte, findB, hasB]
    · have hb' : ¬ b.toNat = x.toNat := fun e => hb (UInt8.toNat_inj.1 e)
      have hb2 : (b == x) = false := by simpa using hb
      have e1 : findB (b :: l) x.toNat = findB l x.toNat + 1 := by simp [findB, hb']
      have e2 : Lib.indexByte (b :: l) x = if Lib.indexByte l x == -1 then -1 else Lib.indexByte l x + 1 := by simp [Lib.indexByte, hb2]
      have e3 : hasB (b :: l) x.toNat = hasB l x.toNat := by simp [hasB, e1]
      rw [e1, e2, e3, ih]
      by_cases hm : hasB l x.toNat = true
      · simp only [hm, if_true]
        rw [if_neg (by simp)]; omega
      · simp [hm]
theorem cut_find (l : List UInt8) (x : UInt8) : Lib.cut l [x] = (befL l x.toNat, aftL l x.toNat, hasB l x.toNat) := by
  unfold Lib.cut
  rw [index_find]
  cases h : hasB l x.toNat with
  | true =>
    simp only [if_true]
    rw [if_pos (by omega)]
    simp [befL, aftL]
  | false =>
    simp only [Bool.false_eq_true, if_false]
    rw [if_neg (by omega), bef_none l _ h, aft_none l _ h]
def MaxL (w : World) : Prop := ∃ m : Int, w.cell? ⟨2, 0, none⟩ = some (.int .i64 m)
theorem MaxL.below {w w' : World} (h : MaxL w) (hb : Below w.heap.size w w') : MaxL w' := by
  obtain ⟨m, hm⟩ := h
  refine ⟨m, ?_⟩
  have hlt : 2 < w.heap.size := by
    rcases Nat.lt_or_ge 2 w.heap.size with h | h
    · exact h
    · simp [World.cell?, Array.getElem?_eq_none h] at hm
  exact (hb.cell (p := ⟨2, 0, none⟩) hlt).trans hm
theorem cut_any (l : List UInt8) (x : UInt8) (c : Nat) (hx : x.toNat = c) (w : World) (hM : MaxL w) (hl : l.length ≤ 4294967280) : Calls Tryz.prog 318 #[.string ⟨l.toArray⟩, .string ⟨#[x]⟩] w fun e w' => e = .returned (.tuple #[.string ⟨(befL l c).toArray⟩, .string ⟨(aftL l c).toArray⟩, .bool (hasB l c)]) ∧ ∃ n, w' = w.drewN n := by
  subst hx
  obtain ⟨m, hm⟩ := hM
  refine (Tryz.strings_Cut ⟨l.toArray⟩ ⟨#[x]⟩ m w (by simp [ByteArray.size]; omega) hm).mono ?_
  rintro e w' ⟨rfl, hw⟩
  refine ⟨?_, hw⟩
  rw [cut_find l x]
/-! ### Lower case -/
theorem upI_yes (x : UInt8) (h : 65 ≤ x.toNat ∧ x.toNat ≤ 90) : ((lowC x).toNat : Int) = x.toNat - 65 + 97 := by
  have : upB x = true := by simp [upB, h]
  simp [lowC, this, UInt8.toNat_add]; omega
theorem upI_no (x : UInt8) (h : ¬ (65 ≤ x.toNat ∧ x.toNat ≤ 90)) : lowC x = x := by
  have : upB x = false := by simp [upB]; omega
  simp [lowC, this]
theorem upI_cases (x : UInt8) (h : ¬ (65 ≤ x.toNat ∧ x.toNat ≤ 90)) : decide ((65 : Int) ≤ x.toNat) = false ∨ (decide ((65 : Int) ≤ x.toNat) = true ∧ decide ((x.toNat : Int) ≤ 90) = false) := by
  by_cases h1 : 65 ≤ x.toNat
  · exact .inr ⟨by simp; omega, by simp; omega⟩
  · exact .inl (by simp; omega)
/-- the bytes of the row after k rounds -/
def LowAt (w : World) (B : Nat) (l : List UInt8) (k : Nat) : Prop :=
  ∀ j (h : j < l.length), w.cell? ⟨B, j, none⟩ = some (.int .u8 (if j < k then lowC l[j] else l[j]).toNat) ∧ w.frozen? ⟨B, j, none⟩ = false
theorem LowAt.start (w : World) (l : List UInt8) (cap : Nat) : LowAt (w.alloc (.cells (bytesRow ⟨l.toArray⟩ cap) 5 ((bytesRow ⟨l.toArray⟩ cap).size, (bytesRow ⟨l.toArray⟩ cap).size + 1))) w.heap.size l 0 := by
  intro j hj
  refine ⟨?_, ?_⟩
  · rw [World.cell?_alloc_mark, bytesRow_at _ _ _ (by simpa using hj)]
    simp
  · rw [World.frozen?_alloc_mark]
    have : l.length ≤ (bytesRow ⟨l.toArray⟩ cap).size := by simp [bytesRow]
    simp; omega
theorem LowAt.skip {w : World} {B k : Nat} {l : List UInt8} {x : UInt8} (h : LowAt w B l k) (hk : k < l.length) (hx : l[k] = x) (hn : lowC x = x) : LowAt w B l (k + 1) := by
  intro j hj
  obtain ⟨h1, h2⟩ := h j hj
  refine ⟨?_, h2⟩
  rw [h1]
  by_cases e : j = k
  · subst e; simp [hx, hn]
  · have : (j < k + 1) = (j < k) := by apply propext; omega
    simp only [this]
theorem LowAt.store {w : World} {B k : Nat} {l : List UInt8} {x : UInt8} (h : LowAt w B l k) (hk : k < l.length) (hx : l[k] = x) : LowAt (w.setCell ⟨B, k, none⟩ (.int .u8 (lowC x).toNat)) B l (k + 1) := by
  intro j hj
  obtain ⟨h1, h2⟩ := h j hj
  refine ⟨?_, (World.frozen?_setCell _ _ _ _).trans h2⟩
  by_cases e : j = k
  · subst e
    rw [World.cell?_setCell_same _ _ _ h1]; simp [hx]
  · rw [World.cell?_setCell_other _ _ _ _ (by simp <;> omega), h1]
    have : (j < k + 1) = (j < k) := by apply propext; omega
    simp only [this]
theorem LowAt.back {w : World} {B cap : Nat} {l : List UInt8} (h : LowAt w B l l.length) : (convert 77 9 (.slice (some ⟨B, 0, none⟩) l.length cap)).run Tryz.prog w = .ok (.string ⟨(lowL l).toArray⟩) w := by
  have := run_convert_bytes_back (P := Tryz.prog) w 77 9 5 ⟨B, 0, none⟩ cap (lowL l) Tryz.underlying77 Tryz.underlying5 Tryz.underlying9 (fun j hj => by
    have hj' : j < l.length := by rw [low_len] at hj; exact hj
    have e : (⟨B, 0, none⟩ : Addr).add j = ⟨B, j, none⟩ := by unfold Addr.add; split <;> simp_all
    rw [e, (h j hj').1]
    simp [lowL, hj'])
  rw [low_len] at this
  exact this
set_option maxRecDepth 100000 in
set_option maxHeartbeats 1000000 in
theorem lowerI_any (l : List UInt8) (w : World) (hl : l.length ≤ 140737488351232) : Calls Tryz.prog 320 #[.string ⟨l.toArray⟩] w fun e w' => e = .returned (.string ⟨(lowL l).toArray⟩) ∧ Below w.heap.size w w' := by
  have hcv := run_bytes_of_string (P := Tryz.prog) w 9 77 5 ⟨l.toArray⟩ Tryz.underlying9 Tryz.underlying77 Tryz.underlying5
  have e0 : (⟨l.toArray⟩ : ByteArray).size = l.length := rfl
  rw [e0] at hcv
  generalize grownCap w l.length 0 5 = cap at *
  have HS := LowAt.start w l cap
  generalize hC : bytesRow ⟨l.toArray⟩ cap = C at *
  clear hC e0
  go_enter Tryz.func320, Tryz.ntmps320
  go_wp2
  go_loopw [10] (fun i wr => ∃ k : Nat, k ≤ l.length ∧ i = .int .i64 k ∧ LowAt wr w.heap.size l k ∧ Below w.heap.size w wr) (fun i _ => l.length - (intOf i).toNat)
  case atStart => exact ⟨0, by omega, rfl, fun j hj => HS j hj, ((Below.refl _ _).alloc (Nat.le_refl _) _).drew⟩
  case round =>
    obtain ⟨k, hk, rfl, hL, hnx⟩ := hrel
    by_cases hlt : k < l.length
    · obtain ⟨x, hx, _⟩ := byte_at l k hlt
      obtain ⟨hc0, hz⟩ := hL k hlt
      have hc : wr.cell? ⟨w.heap.size, k, none⟩ = some (.int .u8 x.toNat) := by rw [hc0]; simp [hx]
      clear hc0
      by_cases hu : 65 ≤ x.toNat ∧ x.toNat ≤ 90
      · have E := Lib.hid (upI_yes x hu)
        have R := Lib.hid (hL.store hlt hx)
        have B := Lib.hid (hnx.setCell (p := ⟨w.heap.size, k, none⟩) (Nat.le_refl _) (.int .u8 (lowC x).toNat))
        obtain ⟨hu1, hu2⟩ := hu
        clear hx hL hnx HS
        go_wp2
        go_roundw
        case rel => exact ⟨k + 1, by omega, by go_num, by rw [← E.out]; exact R.out, by rw [← E.out]; exact B.out⟩
        case measure => simp [intOf]; omega
      · have R := Lib.hid (hL.skip hlt hx (upI_no x hu))
        clear hx hL HS
        rcases upI_cases x hu with d1 | ⟨d1, d2⟩
        all_goals
          go_wp2
          go_roundw
          case rel => exact ⟨k + 1, by omega, by go_num, R.out, hnx⟩
          case measure => simp [intOf]; omega
    · obtain rfl : k = l.length := by omega
      have hcv2 := hL.back (cap := cap)
      clear hL HS
      go_wp2
      go_ret
      exact ⟨rfl, hnx⟩
end Go.Proofs.YtmaknkbmilcanaaGreatDoor.Ul
namespace Go.Proofs.YtmaknkbmilcanaaGreatDoor.Ul
open Go.RowKit
theorem retI_num {a b : Int} {c d : Bool} (h : a = b) (h' : c = d) : Ending.returned (.tuple #[.int .i64 a, .bool c]) = .returned (.tuple #[.int .i64 b, .bool d]) := by rw [h, h']
theorem trim_minus (l : List UInt8) : Lib.trimPrefix l [45] = absL l ∧ Lib.hasPrefix l [45] = negB l := by
  cases l with
  | nil => exact ⟨rfl, rfl⟩
  | cons c r =>
    have e : Lib.hasPrefix (c :: r) [45] = negB (c :: r) := by rw [Bool.eq_iff_iff]; simp [Lib.hasPrefix, negB]; exact eq_comm
    refine ⟨?_, e⟩
    unfold Lib.trimPrefix
    rw [e]
    simp [absL]
theorem cutMinus_any (l : List UInt8) (w : World) : Calls Tryz.prog 361 #[.string ⟨l.toArray⟩, .string ⟨#[45]⟩] w fun e w' => e = .returned (.tuple #[.string ⟨(absL l).toArray⟩, .bool (negB l)]) ∧ w = w' := by
  refine (Tryz.strings_CutPrefix ⟨l.toArray⟩ ⟨#[45]⟩ w).mono ?_
  rintro e w' ⟨rfl, rfl⟩
  refine ⟨?_, rfl⟩
  show Ending.returned (.tuple #[.string ⟨(Lib.trimPrefix l [45]).toArray⟩, .bool (Lib.hasPrefix l [45])]) = _
  rw [(trim_minus l).1, (trim_minus l).2]
def numR (b : Bool) (d : List UInt8) : Int := if digsB b d then (if b then -(valB d : Int) else (valB d : Int)) else 0
theorem numR_yes {b : Bool} {d : List UInt8} (h : digsB b d = true) : numR b d = if b = true then -(valB d : Int) else (valB d : Int) := by simp [numR, h]
theorem numR_no {b : Bool} {d : List UInt8} (h : digsB b d = false) : numR b d = 0 := by simp [numR, h]
set_option maxHeartbeats 1000000 in
theorem readInt_core (l d : List UInt8) (b : Bool) (w : World) (hl : d.length ≤ 9223372036854775807)
    (HC : Hid (∀ W, Calls Tryz.prog 361 #[.string ⟨l.toArray⟩, .string ⟨#[45]⟩] W fun e w' => e = .returned (.tuple #[.string ⟨d.toArray⟩, .bool b]) ∧ W = w')) :
    Calls Tryz.prog 376 #[.string ⟨l.toArray⟩] w fun e w' => e = .returned (.tuple #[.int .i64 (numR b d), .bool (digsB b d)]) ∧ Below w.heap.size w w' := by
  by_cases h0 : d.length < 1
  · obtain rfl : d = [] := List.eq_nil_of_length_eq_zero (by omega)
    have F : Hid (digsB b [] = false) := Lib.hid (digs_short _ _ h0)
    go_enter Tryz.func376, Tryz.ntmps376
    go_wp2_with (go_at_call 361; refine (HC.out _).mono ?_; rintro e w' ⟨rfl, rfl⟩)
    go_ret2
    exact ⟨retI_num (numR_no F.out).symm F.out.symm, Below.refl _ _⟩
  have h0' : 0 < d.length := by omega
  obtain ⟨x, hx, hb⟩ := byte_at d 0 h0'
  have hz := zero_at d x h0' hx
  clear hx
  have de : d.isEmpty = false := by cases d <;> simp_all
  by_cases h18 : 18 < d.length
  · have F : Hid (digsB b d = false) := Lib.hid (digs_long _ _ h18)
    clear hz
    go_enter Tryz.func376, Tryz.ntmps376
    go_wp2_with (go_at_call 361; refine (HC.out _).mono ?_; rintro e w' ⟨rfl, rfl⟩)
    go_ret2
    exact ⟨retI_num (numR_no F.out).symm F.out.symm, Below.refl _ _⟩
  have d18 : decide ((18 : Int) < d.length) = false := by simp; omega
  by_cases hz1 : x.toNat = 48 ∧ (1 < d.length ∨ b = true)
  · obtain ⟨hz1, hz2⟩ := hz1
    obtain rfl : x = 48 := UInt8.toNat_inj.1 hz1
    have F : Hid (digsB b d = false) := Lib.hid (digs_zero _ _ hz hz2)
    clear hz hz1
    have hz3 : 1 < d.length ∨ (decide ((1 : Int) < d.length) = false ∧ b = true) := by
      by_cases h : 1 < d.length
      · exact .inl h
      · exact .inr ⟨by simp; omega, by rcases hz2 with h2 | h2; exact absurd h2 h; exact h2⟩
    clear hz2
    rcases hz3 with h1 | ⟨h1, rfl⟩
    all_goals
      go_enter Tryz.func376, Tryz.ntmps376
      go_wp2_with (go_at_call 361; refine (HC.out _).mono ?_; rintro e w' ⟨rfl, rfl⟩)
      go_ret2
      exact ⟨retI_num (numR_no F.out).symm F.out.symm, Below.refl _ _⟩
  have G : Hid (d.all digB = true → digsB b d = true) := Lib.hid fun h => digs_good b d (by omega) (by omega) (by
    by_cases e : x.toNat = 48
    · right
      refine ⟨fun h' => hz1 ⟨e, .inl h'⟩, ?_⟩
      cases b with
      | false => rfl
      | true => exact absurd ⟨e, .inr rfl⟩ hz1
    · left; rw [hz]; simp; intro h'; subst h'; exact e rfl) h
  have hgo : ((x.toNat : Int) == 48) = false ∨ (((x.toNat : Int) == 48) = true ∧ decide ((1 : Int) < d.length) = false ∧ b = false) := by
    by_cases e : x.toNat = 48
    · refine .inr ⟨by simp [e], by have : ¬ 1 < d.length := fun h' => hz1 ⟨e, .inl h'⟩; simp; omega, ?_⟩
      cases b with
      | false => rfl
      | true => exact absurd ⟨e, .inr rfl⟩ hz1
    · exact .inl (by simp; omega)
  have DB : Hid (d.all digB = false → digsB b d = false) := Lib.hid (digs_bad b d)
  clear hz hz1
  rcases hgo with c2 | ⟨c2, h1, rfl⟩
  all_goals
    go_enter Tryz.func376, Tryz.ntmps376
    go_wp2_with (go_at_call 361; refine (HC.out _).mono ?_; rintro e w' ⟨rfl, rfl⟩)
    go_loopw [6] (fun n wr => ∃ k m : Nat, k ≤ d.length ∧ wr = w.iter ⟨d.toArray⟩ k ∧ n = .int .i64 m ∧ numAt d k m = true) (fun _ wr => d.length - wr.iterPos w.heap.size)
    case atStart => exact ⟨0, 0, by omega, rfl, rfl, num_zero d⟩
    case round =>
      obtain ⟨k, m, hk, rfl, rfl, ht⟩ := hrel
      by_cases hlt : k < d.length
      · obtain ⟨y, hy, _⟩ := byte_at d k hlt
        have hm := num_lt d k m (by omega) ht
        by_cases ha : y.toNat < 128
        · have hnx := next_low Tryz.prog w d k y hlt hy ha
          by_cases hd : 48 ≤ y.toNat ∧ y.toNat ≤ 57
          · have F := Lib.hid (num_yes d k m y hlt hy ht (by simp [digB, hd]))
            have E1 : Hid (10 * (m : Int) + ((y.toNat : Int) - 48) = ((10 * m + digV y : Nat) : Int)) := Lib.hid (by unfold digV; omega)
            clear ht hy
            have hd1 := hd.1
            have hd2 := hd.2
            go_wp2_with (go_at_call 266; refine (isDigit_yes _ _ (by omega)).mono ?_; rintro e w' ⟨rfl, rfl⟩)
            go_roundw
            case rel => exact ⟨k + 1, 10 * m + digV y, by omega, rfl, by rw [← E1.out], F.out⟩
            case measure => simp; omega
          · have F := Lib.hid (DB.out (num_no d k y hlt hy (by simp [digB]; omega)))
            clear ht hy
            go_wp2_with (go_at_call 266; refine (isDigit_no _ _ (by omega)).mono ?_; rintro e w' ⟨rfl, rfl⟩)
            go_ret2
            exact ⟨retI_num (numR_no F.out).symm F.out.symm, below_iter _ _ _⟩
        · obtain ⟨c, n, hc, hnx⟩ := next_high Tryz.prog w d k y hlt hy ha
          have F := Lib.hid (DB.out (num_no d k y hlt hy (by simp [digB]; omega)))
          clear ht hy
          go_wp2_with (go_at_call 266; refine (isDigit_no _ _ (by omega)).mono ?_; rintro e w' ⟨rfl, rfl⟩)
          go_ret2
          exact ⟨retI_num (numR_no F.out).symm F.out.symm, below_iter _ _ _⟩
      · obtain rfl : k = d.length := by omega
        obtain ⟨hal, rfl⟩ := num_end d m ht
        have F := Lib.hid (G.out hal)
        have hm : valB d < 1000000000000000000 := val_lt 18 d (by omega) hal
        have hnx := next_end Tryz.prog w d
        clear ht hal
        go_wp2
        all_goals (go_ret2; exact ⟨retI_num (by rw [numR_yes F.out]; simp [*]) F.out.symm, below_iter _ _ _⟩)
theorem readInt_any (l : List UInt8) (w : World) (hl : l.length ≤ 9223372036854775807) : Calls Tryz.prog 376 #[.string ⟨l.toArray⟩] w fun e w' => e = .returned (.tuple #[.int .i64 (numV l), .bool (numB l)]) ∧ Below w.heap.size w w' := by
  have hd : (absL l).length ≤ l.length := by unfold absL; split <;> simp
  have e : numR (negB l) (absL l) = numV l := rfl
  have := readInt_core l (absL l) (negB l) w (by omega) (Lib.hid fun W => cutMinus_any l W)
  rw [e] at this
  exact this
/-! ### A port -/
theorem readPort_any (s t : List UInt8) (w : World) (hw : webB s = true) (hl : t.length ≤ 9223372036854775807) : Calls Tryz.prog 362 #[.string ⟨s.toArray⟩, .string ⟨t.toArray⟩] w fun e w' => e = .returned (.tuple #[.int .i64 (portV s t), .bool (portOKB t)]) ∧ Below w.heap.size w w' := by
  have HR := Lib.hid (fun W => readInt_any t W hl)
  have HD := Lib.hid (fun W => dport_any s W)
  have hd : dport s = usual s := by
    unfold dport usual
    simp only [webB, Bool.or_eq_true] at hw
    by_cases h : s == http
    · simp [h]
    · rcases hw with hw | hw
      · exact absurd hw h
      · simp [h, hw]
  rw [hd] at HD
  cases hb : numB t with
  | false =>
    have F1 : Hid (portV s t = 0) := Lib.hid (by simp [portV, portOKB, hb])
    have F2 : Hid (portOKB t = false) := Lib.hid (by simp [portOKB, hb])
    rw [hb] at HR
    clear hb hd hw
    go_enter Tryz.func362, Tryz.ntmps362
    go_wp2_with (go_at_call 376; refine (HR.out _).mono ?_; rintro e w1 ⟨rfl, hb⟩)
    go_ret2
    exact ⟨retI_num F1.out.symm F2.out.symm, hb⟩
  | true =>
    rw [hb] at HR
    by_cases h1 : numV t < 1 ∨ 65535 < numV t
    · have F2 : Hid (portOKB t = false) := Lib.hid (by simp [portOKB]; omega)
      have F1 : Hid (portV s t = 0) := Lib.hid (by simp [portV, F2.out])
      clear hb hd hw
      generalize numV t = n at *
      have hn : n < 1 ∨ (decide (n < 1) = false ∧ 65535 < n) := by
        by_cases h : n < 1
        · exact .inl h
        · exact .inr ⟨by simp; omega, by omega⟩
      clear h1
      rcases hn with hn | ⟨hn, hn2⟩
      all_goals
        go_enter Tryz.func362, Tryz.ntmps362
        go_wp2_with (go_at_call 376; refine (HR.out _).mono ?_; rintro e w1 ⟨rfl, hb⟩)
        go_ret2
        exact ⟨retI_num F1.out.symm F2.out.symm, hb⟩
    · have F2 : Hid (portOKB t = true) := Lib.hid (by simp [portOKB, hb]; omega)
      have F1 : Hid (portV s t = if numV t = usual s then 0 else numV t) := Lib.hid (by simp [portV, F2.out])
      have h2 : 1 ≤ numV t := by omega
      have h3 : numV t ≤ 65535 := by omega
      clear hb hd hw h1
      generalize numV t = n at *
      generalize usual s = u at *
      have d1 : decide (n < 1) = false := by simp; omega
      have d2 : decide ((65535 : Int) < n) = false := by simp; omega
      by_cases hn : n = u
      · have c1 : (n == u) = true := by simp [hn]
        have G : Hid (portV s t = 0) := Lib.hid (by rw [F1.out, if_pos hn])
        clear hn F1
        go_enter Tryz.func362, Tryz.ntmps362
        go_wp2_with (first
          | (go_at_call 376; refine (HR.out _).mono ?_; rintro e w1 ⟨rfl, hb⟩)
          | (go_at_call 377; refine (HD.out _).mono ?_; rintro e w2 ⟨rfl, rfl⟩))
        go_ret2
        exact ⟨retI_num G.out.symm F2.out.symm, hb⟩
      · have c1 : (n == u) = false := by simp [hn]
        have G : Hid (portV s t = n) := Lib.hid (by rw [F1.out, if_neg hn])
        clear hn F1
        go_enter Tryz.func362, Tryz.ntmps362
        go_wp2_with (first
          | (go_at_call 376; refine (HR.out _).mono ?_; rintro e w1 ⟨rfl, hb⟩)
          | (go_at_call 377; refine (HD.out _).mono ?_; rintro e w2 ⟨rfl, rfl⟩))
        go_ret2
        exact ⟨retI_num G.out.symm F2.out.symm, hb⟩
end Go.Proofs.YtmaknkbmilcanaaGreatDoor.Ul
namespace Go.Proofs.YtmaknkbmilcanaaGreatDoor.Ul
open Go.RowKit
attribute [local go_sem] bappI
@[local go_sem] theorem alloc_drewN (w : World) (n : Nat) (o : Obj) : (w.drewN n).alloc o = (w.alloc o).drewN n := rfl
@[local go_sem] theorem setCell_drewN (w : World) (n : Nat) (a : Addr) (v : Value) : (w.drewN n).setCell a v = (w.setCell a v).drewN n := by
  simp only [World.setCell, World.drewN]
theorem belI_set {w Y : World} {p : Addr} {v : Value} (h : Below w.heap.size w Y) (hp : w.heap.size ≤ p.block) : Below w.heap.size w (Y.setCell p v) := h.setCell hp v
theorem cut2_yes (r : List UInt8) (w : World) : Calls Tryz.prog 361 #[.string ⟨(47 :: 47 :: r).toArray⟩, .string ⟨#[47, 47]⟩] w fun e w' => e = .returned (.tuple #[.string ⟨r.toArray⟩, .bool true]) ∧ w = w' := by
  refine (Tryz.strings_CutPrefix ⟨(47 :: 47 :: r).toArray⟩ ⟨#[47, 47]⟩ w).mono ?_
  rintro e w' ⟨rfl, rfl⟩
  refine ⟨?_, rfl⟩
  simp [Lib.trimPrefix, Lib.hasPrefix]
theorem cut2_no (l : List UInt8) (w : World) (h : slash2 l = false) : Calls Tryz.prog 361 #[.string ⟨l.toArray⟩, .string ⟨#[47, 47]⟩] w fun e w' => e = .returned (.tuple #[.string ⟨l.toArray⟩, .bool false]) ∧ w = w' := by
  refine (Tryz.strings_CutPrefix ⟨l.toArray⟩ ⟨#[47, 47]⟩ w).mono ?_
  rintro e w' ⟨rfl, rfl⟩
  refine ⟨?_, rfl⟩
  have e : Lib.hasPrefix l [47, 47] = false := by
    match l, h with
    | [], _ => rfl
    | [a], _ => simp [Lib.hasPrefix, List.isPrefixOf]
    | a :: b :: l, h =>
      simp [slash2] at h
      simp [Lib.hasPrefix, List.isPrefixOf]
      intro h1 h2
      exact h h1.symm h2.symm
  simp only [Lib.trimPrefix, e]
  rfl
theorem siteI_len (r : List UInt8) : (siteOf r).length ≤ r.length := by
  have a := bef_len r 35
  have b := bef_len (befL r 35) 63
  have c := bef_len (beforeQ r) 47
  have d := aft_len (befL (beforeQ r) 47) 64
  unfold siteOf behindUser
  unfold beforeQ at *
  split <;> omega
set_option maxRecDepth 100000 in
set_option maxHeartbeats 4000000 in
theorem splitWeb_any (s r : List UInt8) (w : World) (hM : MaxL w) (hw : webB s = true) (hl : r.length ≤ 4294967280) : Calls Tryz.prog 349 #[.string ⟨s.toArray⟩, .string ⟨(47 :: 47 :: r).toArray⟩] w fun e w' => e = .returned (.tuple #[uV (webU s r), .bool (webSplitB r)]) ∧ Below w.heap.size w w' := by
  have HM := Lib.hid hM
  clear hM
  have hr1 := bef_len r 35
  have hr2 := bef_len (befL r 35) 63
  have ha := aft_len (beforeQ r) 47
  have HC : Hid (∀ W, Calls Tryz.prog 361 #[.string ⟨(47 :: 47 :: r).toArray⟩, .string ⟨#[47, 47]⟩] W fun e w' => e = .returned (.tuple #[.string ⟨r.toArray⟩, .bool true]) ∧ W = w') := Lib.hid fun W => cut2_yes r W
  go_enter Tryz.func349, Tryz.ntmps349
  go_wp2_with (go_at_call 361; refine (HC.out _).mono ?_; rintro e w' ⟨rfl, rfl⟩)
  refine (cut_any r 35 35 rfl _ (HM.out.below (by repeat (first | (with_reducible exact Below.refl _ _) | (with_reducible refine belI_set ?_ (by first | exact Nat.le_refl _ | simp)) | (with_reducible refine belI_alloc ?_) | (with_reducible refine Below.drew ?_) | (with_reducible refine belI_drewN ?_ _) | (with_reducible refine belI_step ?_ (by assumption))))) (by omega)).mono ?_
  rintro e w1 ⟨rfl, n1, rfl⟩
  go_wp2_with fail
  refine (cut_any (befL r 35) 63 63 rfl _ (HM.out.below (by repeat (first | (with_reducible exact Below.refl _ _) | (with_reducible refine belI_set ?_ (by first | exact Nat.le_refl _ | simp)) | (with_reducible refine belI_alloc ?_) | (with_reducible refine Below.drew ?_) | (with_reducible refine belI_drewN ?_ _) | (with_reducible refine belI_step ?_ (by assumption))))) (by omega)).mono ?_
  rintro e w1 ⟨rfl, n2, rfl⟩
  go_wp2_with fail
  have hq3 : (beforeQ r).length ≤ (befL r 35).length := bef_len _ 63
  have b47 : ¬ 9223372036854775807 < 1 + (aftL (beforeQ r) 47).length := by omega
  refine (cut_any (beforeQ r) 47 47 rfl _ (HM.out.below (by repeat (first | (with_reducible exact Below.refl _ _) | (with_reducible refine belI_set ?_ (by first | exact Nat.le_refl _ | simp)) | (with_reducible refine belI_alloc ?_) | (with_reducible refine Below.drew ?_) | (with_reducible refine belI_drewN ?_ _) | (with_reducible refine belI_step ?_ (by assumption))))) (by omega)).mono ?_
  rintro e w1 ⟨rfl, n3, rfl⟩
  have hr4 := bef_len (beforeQ r) 47
  have hr5 := siteI_len r
  have hr6 := bef_len (siteOf r) 58
  have hr7 := aft_len (siteOf r) 58
  go_wp2_with fail
  refine (cut_any (befL (beforeQ r) 47) 64 64 rfl _ (HM.out.below (by repeat (first | (with_reducible exact Below.refl _ _) | (with_reducible refine belI_set ?_ (by first | exact Nat.le_refl _ | simp)) | (with_reducible refine belI_alloc ?_) | (with_reducible refine Below.drew ?_) | (with_reducible refine belI_drewN ?_ _) | (with_reducible refine belI_step ?_ (by assumption))))) (by omega)).mono ?_
  rintro e w1 ⟨rfl, n4, rfl⟩
  go_upto_if 57 with fail
  go_cut [1, 12] (fun s1 _ wx => s1 = .string ⟨(siteOf r).toArray⟩ ∧ wx = ((w.alloc (.cells #[.string ⟨#[]⟩, .string ⟨#[]⟩, .string ⟨#[]⟩, .int .i64 0, .string ⟨#[]⟩, .string ⟨#[]⟩, .string ⟨#[]⟩, .bool false, .bool false] 264)).alloc (.cells #[.string ⟨s.toArray⟩, .string ⟨(userOf (befL (beforeQ r) 47)).toArray⟩, .string ⟨#[]⟩, .int .i64 0, .string ⟨(47 :: aftL (beforeQ r) 47).toArray⟩, .string ⟨(aftL (befL r 35) 63).toArray⟩, .string ⟨(aftL r 35).toArray⟩, .bool (hasB (befL r 35) 63), .bool (hasB r 35)] 264)).drewN (n1 + n2 + n3 + n4))
  case first =>
    cases hh : hasB (befL (beforeQ r) 47) 64
    · have HH := Lib.hid hh
      have hd := hh
      clear hh
      go_wp2_with fail
      go_meet
      exact ⟨by simp [siteOf, behindUser, HH.out], by simp [userOf, HH.out]⟩
    · have HH := Lib.hid hh
      have hd := hh
      clear hh
      go_wp2_with fail
      go_meet
      exact ⟨by simp [siteOf, behindUser, HH.out], by simp [userOf, HH.out]⟩
  case rest =>
    obtain ⟨rfl, rfl⟩ := hcut
    go_wp2_with fail
    refine (cut_any (siteOf r) 58 58 rfl _ (HM.out.below (by repeat (first | (with_reducible exact Below.refl _ _) | (with_reducible refine belI_set ?_ (by first | exact Nat.le_refl _ | simp)) | (with_reducible refine belI_alloc ?_) | (with_reducible refine Below.drew ?_) | (with_reducible refine belI_drewN ?_ _) | (with_reducible refine belI_step ?_ (by assumption))))) (by omega)).mono ?_
    rintro e w1 ⟨rfl, n5, rfl⟩
    go_wp2_with fail
    refine (lowerI_any (befL (siteOf r) 58) _ (by omega)).mono ?_
    rintro e w2 ⟨rfl, hb2⟩
    have V0 := (UAt.new (w.alloc (.cells #[.string ⟨#[]⟩, .string ⟨#[]⟩, .string ⟨#[]⟩, .int .i64 0, .string ⟨#[]⟩, .string ⟨#[]⟩, .string ⟨#[]⟩, .bool false, .bool false] 264)) ⟨s, userOf (befL (beforeQ r) 47), [], 0, 47 :: aftL (beforeQ r) 47, aftL (befL r 35) 63, aftL r 35, hasB (befL r 35) 63, hasB r 35⟩).drewN (n1 + n2 + n3 + n4 + n5)
    rw [show (w.alloc (.cells #[.string ⟨#[]⟩, .string ⟨#[]⟩, .string ⟨#[]⟩, .int .i64 0, .string ⟨#[]⟩, .string ⟨#[]⟩, .string ⟨#[]⟩, .bool false, .bool false] 264)).heap.size = w.heap.size + 1 from by simp] at V0
    have V := V0.below hb2 (by simp)
    have Q0 := ((UAt.new w U.none).alloc (.cells #[.string ⟨s.toArray⟩, .string ⟨(userOf (befL (beforeQ r) 47)).toArray⟩, .string ⟨#[]⟩, .int .i64 0, .string ⟨(47 :: aftL (beforeQ r) 47).toArray⟩, .string ⟨(aftL (befL r 35) 63).toArray⟩, .string ⟨(aftL r 35).toArray⟩, .bool (hasB (befL r 35) 63), .bool (hasB r 35)] 264) (by simp)).drewN (n1 + n2 + n3 + n4 + n5)
    have Q := Q0.below hb2 (by simp; omega)
    have hbw : Below w.heap.size w w2 := belI_step (belI_drewN (belI_alloc (belI_alloc (Below.refl _ _))) _) hb2
    have hz2 : w.heap.size + 1 < w2.heap.size := by have := hb2.size; simp at this; omega
    clear V0 Q0 hb2
    have V2 := V.host (lowL (befL (siteOf r) 58))
    have Q2 := Q.far ⟨w.heap.size + 1, 2, none⟩ (.string ⟨(lowL (befL (siteOf r) 58)).toArray⟩) (by show w.heap.size + 1 ≠ w.heap.size; omega)
    have hb3 := hbw.setCell (p := ⟨w.heap.size + 1, 2, none⟩) (by show w.heap.size ≤ w.heap.size + 1; omega) (.string ⟨(lowL (befL (siteOf r) 58)).toArray⟩)
    have v2 := V.k2
    have vf := V.kf
    cases hp : hasB (siteOf r) 58
    · have EW : webU s r = ⟨s, userOf (befL (beforeQ r) 47), lowL (befL (siteOf r) 58), 0, 47 :: aftL (beforeQ r) 47, aftL (befL r 35) 63, aftL r 35, hasB (befL r 35) 63, hasB r 35⟩ := by simp [webU, hp]
      have HS : Hid (webSplitB r = true) := Lib.hid (by simp [webSplitB, hp])
      rw [← EW] at V2
      clear EW
      go_upto_region 14 with fail
      generalize w2.setCell ⟨w.heap.size + 1, 2, none⟩ (.string ⟨(lowL (befL (siteOf r) 58)).toArray⟩) = X at *
      clear V Q v2 vf hbw
      generalize hu : webU s r = u at *
      have HU := Lib.hid hu
      clear hu
      obtain ⟨x0, x1, x2, x3, x4, x5, x6, x7, x8, xf⟩ := V2
      obtain ⟨q0, q1, q2, q3, q4, q5, q6, q7, q8, qf⟩ := Q2
      go_wp2
      refine bodyPost_ret (ret_url2 (u := u) (a := 4) (s := 5) (B := w.heap.size) (c := .bool true) Tryz.results349 rfl rfl ?_ ?_ ?_ ?_ ?_ ?_ ?_ ?_ ?_) rfl ⟨by rw [HU.out, HS.out], ?_⟩
      rotate_left 9
      · exact (by repeat (first | (with_reducible exact Below.refl _ _) | (with_reducible refine belI_set ?_ (by first | exact Nat.le_refl _ | simp)) | (with_reducible refine belI_alloc ?_) | (with_reducible refine Below.drew ?_) | (with_reducible refine belI_drewN ?_ _) | (with_reducible refine belI_step ?_ (by assumption))))
      all_goals (simp [go_sem, *]; done)
    · have EW : webU s r = ⟨s, userOf (befL (beforeQ r) 47), lowL (befL (siteOf r) 58), portV s (aftL (siteOf r) 58), 47 :: aftL (beforeQ r) 47, aftL (befL r 35) 63, aftL r 35, hasB (befL r 35) 63, hasB r 35⟩ := by simp [webU, hp]
      have HS : Hid (webSplitB r = portOKB (aftL (siteOf r) 58)) := Lib.hid (by simp [webSplitB, hp])
      go_wp2_with fail
      refine (readPort_any s (aftL (siteOf r) 58) _ hw (by omega)).mono ?_
      rintro e w3 ⟨rfl, hb4⟩
      have V3 := V2.below hb4 (by simp; omega)
      have Q3 := Q2.below hb4 (by simp; omega)
      have hb5 := belI_step hb3 hb4
      have hz3 : w.heap.size + 1 < w3.heap.size := by have := hb4.size; simp at this; omega
      have v3 := V3.k3
      have vf3 := V3.kf
      have V4 := V3.port (portV s (aftL (siteOf r) 58))
      have Q4 := Q3.far ⟨w.heap.size + 1, 3, none⟩ (.int .i64 (portV s (aftL (siteOf r) 58))) (by show w.heap.size + 1 ≠ w.heap.size; omega)
      have hb6 := hb5.setCell (p := ⟨w.heap.size + 1, 3, none⟩) (by show w.heap.size ≤ w.heap.size + 1; omega) (.int .i64 (portV s (aftL (siteOf r) 58)))
      rw [show (⟨s, userOf (befL (beforeQ r) 47), lowL (befL (siteOf r) 58), portV s (aftL (siteOf r) 58), 47 :: aftL (beforeQ r) 47, aftL (befL r 35) 63, aftL r 35, hasB (befL r 35) 63, hasB r 35⟩ : U) = webU s r from EW.symm] at V4
      clear EW V Q V2 Q2 v2 vf hbw hb3 hb4 hb5 hz2 V3 Q3
      go_upto_region 16 with fail
      generalize w3.setCell ⟨w.heap.size + 1, 3, none⟩ (.int .i64 (portV s (aftL (siteOf r) 58))) = X at *
      clear v3 vf3
      generalize hu : webU s r = u at *
      have HU := Lib.hid hu
      clear hu
      obtain ⟨x0, x1, x2, x3, x4, x5, x6, x7, x8, xf⟩ := V4
      obtain ⟨q0, q1, q2, q3, q4, q5, q6, q7, q8, qf⟩ := Q4
      go_wp2
      refine bodyPost_ret (ret_url2 (u := u) (a := 4) (s := 5) (B := w.heap.size) (c := .bool (portOKB (aftL (siteOf r) 58))) Tryz.results349 rfl rfl ?_ ?_ ?_ ?_ ?_ ?_ ?_ ?_ ?_) rfl ⟨by rw [HU.out, HS.out], ?_⟩
      rotate_left 9
      · exact (by repeat (first | (with_reducible exact Below.refl _ _) | (with_reducible refine belI_set ?_ (by first | exact Nat.le_refl _ | simp)) | (with_reducible refine belI_alloc ?_) | (with_reducible refine Below.drew ?_) | (with_reducible refine belI_drewN ?_ _) | (with_reducible refine belI_step ?_ (by assumption))))
      all_goals (simp [go_sem, *]; done)
theorem splitWeb_no (s rest : List UInt8) (w : World) (h : slash2 rest = false) : Calls Tryz.prog 349 #[.string ⟨s.toArray⟩, .string ⟨rest.toArray⟩] w fun e w' => e = .returned (.tuple #[uV U.none, .bool false]) ∧ Below w.heap.size w w' := by
  have HC := Lib.hid (fun W => cut2_no rest W h)
  go_enter Tryz.func349, Tryz.ntmps349
  go_wp2_with (go_at_call 361; refine (HC.out _).mono ?_; rintro e w' ⟨rfl, rfl⟩)
  exact bodyPost_ret (v := .tuple #[uV U.none, .bool false]) (by simp [results, Tryz.results349, go_sem, U.none]) rfl ⟨rfl, (by repeat (first | (with_reducible exact Below.refl _ _) | (with_reducible refine belI_set ?_ (by first | exact Nat.le_refl _ | simp)) | (with_reducible refine belI_alloc ?_) | (with_reducible refine Below.drew ?_) | (with_reducible refine belI_drewN ?_ _) | (with_reducible refine belI_step ?_ (by assumption))))⟩
end Go.Proofs.YtmaknkbmilcanaaGreatDoor.Ul
