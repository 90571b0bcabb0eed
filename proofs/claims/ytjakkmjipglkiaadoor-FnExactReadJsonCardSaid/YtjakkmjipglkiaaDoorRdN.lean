
/-
  The number that a text is, read by the program and by the model (parts of the URL texts that need no URL).
-/
import Derived.Test.YtjakkmjipglkiaaDoorUrlSpecA
import Derived.Test.YtjakkmjipglkiaaDoorUrlPlain
import Derived.Test.YtjakkmjipglkiaaDoorShelf
import Derived.Deep.QuietTactic
import Derived.BigQuiet
import Derived.Lib.AppendIntMem
import Derived.RegionTactic
import Derived.Deep.RegionWith
import Derived.Deep.RegionHeld3
import Derived.Laws.BytesArg
import Derived.Laws.IdiomStrings
import Derived.Laws.AppendOwn
import Derived.Laws.OwnMore
import Derived.Outline
import Derived.Deep.DeepCutAuto
namespace Go.Proofs.YtjakkmjipglkiaaDoor.Ul
open Go.RowKit
theorem ret_num {a b : Int} {c d : Bool} (h : a = b) (h' : c = d) : Ending.returned (.tuple #[.int .i64 a, .bool c]) = .returned (.tuple #[.int .i64 b, .bool d]) := by rw [h, h']
@[local go_sem] theorem ext_tail (c : UInt8) (l : List UInt8) : (⟨(c :: l).toArray⟩ : ByteArray).extract 1 (l.length + 1) = ⟨l.toArray⟩ := by
  apply ByteArray.ext; simp
set_option maxHeartbeats 1000000 in
theorem numS_pos (l : List UInt8) (w : World) (hl : l.length ≤ 9223372036854775807) (hn : negB l = false) : Calls Tryd.prog 54 #[.string ⟨l.toArray⟩] w fun e w' => e = .returned (.tuple #[.int .i64 (numV l), .bool (numB l)]) ∧ w = w' := by
  obtain ⟨hB, hV⟩ := num_pos l hn
  by_cases h0 : l.length < 1
  · obtain rfl : l = [] := List.eq_nil_of_length_eq_zero (by omega)
    go_enter Tryd.func54, Tryd.ntmps54
    go_wp2
    go_ret2
    exact ⟨rfl, rfl⟩
  have h0' : 0 < l.length := by omega
  obtain ⟨x, hx, hb⟩ := byte_at l 0 h0'
  rw [neg_at l x h0' hx] at hn
  have hz := zero_at l x h0' hx
  have c1 : ((x.toNat : Int) == 45) = false := by
    have : x ≠ 45 := by simpa using hn
    have : x.toNat ≠ 45 := fun e => this (UInt8.toNat_inj.1 e)
    simp; omega
  have HB := Lib.hid hB
  have HV := Lib.hid hV
  clear hB hV hn hx
  have d0 : ((l.length : Int) == 0) = false := beq_eq_false_iff_ne.2 (by omega)
  by_cases h18 : 18 < l.length
  · have F : Hid (numB l = false) := Lib.hid (by rw [HB.out]; exact digs_long _ _ h18)
    clear hz
    go_enter Tryd.func54, Tryd.ntmps54
    go_wp2
    go_ret2
    exact ⟨ret_num (numV_no l F.out).symm F.out.symm, rfl⟩
  have d18 : decide ((18 : Int) < l.length) = false := by simp; omega
  by_cases hz1 : x.toNat = 48 ∧ 1 < l.length
  · obtain ⟨hz1, hz2⟩ := hz1
    obtain rfl : x = 48 := UInt8.toNat_inj.1 hz1
    have F : Hid (numB l = false) := Lib.hid (by rw [HB.out]; exact digs_zero _ _ hz (.inl hz2))
    clear hz hz1
    go_enter Tryd.func54, Tryd.ntmps54
    go_wp2
    go_ret2
    exact ⟨ret_num (numV_no l F.out).symm F.out.symm, rfl⟩
  have G : Hid (l.all digB = true → digsB false l = true) := Lib.hid fun h => digs_good false l (by omega) (by omega) (by
    by_cases e : x.toNat = 48
    · exact .inr ⟨fun h' => hz1 ⟨e, h'⟩, rfl⟩
    · left; rw [hz]; simp; intro h'; subst h'; exact e rfl) h
  have hgo : ((x.toNat : Int) == 48) = false ∨ (((x.toNat : Int) == 48) = true ∧ ¬ 1 < l.length) := by
    by_cases e : x.toNat = 48
    · exact .inr ⟨by simp [e], fun h' => hz1 ⟨e, h'⟩⟩
    · exact .inl (by simp; omega)
  clear hz hz1
  rcases hgo with c2 | ⟨c2, h1⟩
  all_goals
    go_enter Tryd.func54, Tryd.ntmps54
    go_wp2
    go_loop [5, 6] (fun n i => ∃ k m : Nat, k ≤ l.length ∧ i = .int .i64 k ∧ n = .int .i64 m ∧ numAt l k m = true) (fun _ i => l.length - (intOf i).toNat)
    case atStart => exact ⟨0, 0, by omega, rfl, rfl, num_zero l⟩
    case round =>
      obtain ⟨k, m, hk, rfl, rfl, ht⟩ := hrel
      by_cases hlt : k < l.length
      · obtain ⟨y, hy, hby⟩ := byte_at l k hlt
        have hm := num_lt l k m (by omega) ht
        have hy2 : y.toNat < 256 := y.toNat_lt
        by_cases hd : 48 ≤ y.toNat ∧ y.toNat ≤ 57
        · have F := Lib.hid (num_yes l k m y hlt hy ht (by simp [digB, hd]))
          have e1 : (m : Int) * 10 + (y.toNat : Int) - 48 = ((10 * m + digV y : Nat) : Int) := by unfold digV; omega
          have E1 := Lib.hid e1
          obtain ⟨hd1, hd2⟩ := hd
          clear ht hy e1
          go_wp2
          go_round
          case rel => exact ⟨k + 1, 10 * m + digV y, by omega, by go_num, by rw [← E1.out], F.out⟩
          case measure => simp [intOf]; omega
        · have F : Hid (numB l = false) := Lib.hid (by rw [HB.out]; exact digs_bad _ _ (num_no l k y hlt hy (by simp [digB]; omega)))
          clear ht hy
          go_wp2
          all_goals (go_ret2; exact ⟨ret_num (numV_no l F.out).symm F.out.symm, rfl⟩)
      · obtain rfl : k = l.length := by omega
        obtain ⟨ha, rfl⟩ := num_end l m ht
        have F : Hid (numB l = true) := Lib.hid (by rw [HB.out]; exact G.out ha)
        have hm := val_lt 18 l (by omega) ha
        clear ht ha
        go_wp2
        go_ret2
        exact ⟨ret_num (by rw [HV.out F.out]) F.out.symm, rfl⟩
set_option maxHeartbeats 1000000 in
theorem numS_neg (l : List UInt8) (w : World) (hl : l.length < 9223372036854775807) : Calls Tryd.prog 54 #[.string ⟨(45 :: l).toArray⟩] w fun e w' => e = .returned (.tuple #[.int .i64 (numV (45 :: l)), .bool (numB (45 :: l))]) ∧ w = w' := by
  obtain ⟨hB, hV⟩ := num_neg l
  have hb45 : ∀ h' : 0 < (⟨(45 :: l).toArray⟩ : ByteArray).size, (⟨(45 :: l).toArray⟩ : ByteArray)[0] = 45 := fun _ => rfl
  by_cases h0 : l.length < 1
  · obtain rfl : l = [] := List.eq_nil_of_length_eq_zero (by omega)
    go_enter Tryd.func54, Tryd.ntmps54
    go_wp2
    go_ret2
    exact ⟨rfl, rfl⟩
  have h0' : 0 < l.length := by omega
  obtain ⟨x, hx, hb⟩ := byte_at l 0 h0'
  have hz := zero_at l x h0' hx
  have HB := Lib.hid hB
  have HV := Lib.hid hV
  clear hB hV hx
  have d0 : ((l.length : Int) == 0) = false := beq_eq_false_iff_ne.2 (by omega)
  by_cases h18 : 18 < l.length
  · have F : Hid (numB (45 :: l) = false) := Lib.hid (by rw [HB.out]; exact digs_long _ _ h18)
    clear hz
    go_enter Tryd.func54, Tryd.ntmps54
    go_wp2
    go_ret2
    exact ⟨ret_num (numV_no (45 :: l) F.out).symm F.out.symm, rfl⟩
  have d18 : decide ((18 : Int) < l.length) = false := by simp; omega
  by_cases hz1 : x.toNat = 48
  · obtain rfl : x = 48 := UInt8.toNat_inj.1 hz1
    have F : Hid (numB (45 :: l) = false) := Lib.hid (by rw [HB.out]; exact digs_zero _ _ hz (.inr rfl))
    clear hz hz1
    go_enter Tryd.func54, Tryd.ntmps54
    go_wp2
    all_goals (go_ret2; exact ⟨ret_num (numV_no (45 :: l) F.out).symm F.out.symm, rfl⟩)
  have G : Hid (l.all digB = true → digsB true l = true) := Lib.hid fun h => digs_good true l (by omega) (by omega) (by
    left; rw [hz]; simp; intro h'; subst h'; exact hz1 rfl) h
  have c2 : ((x.toNat : Int) == 48) = false := by simp; omega
  clear hz hz1
  · go_enter Tryd.func54, Tryd.ntmps54
    go_wp2
    go_loop [5, 6] (fun n i => ∃ k m : Nat, k ≤ l.length ∧ i = .int .i64 k ∧ n = .int .i64 m ∧ numAt l k m = true) (fun _ i => l.length - (intOf i).toNat)
    case atStart => exact ⟨0, 0, by omega, rfl, rfl, num_zero l⟩
    case round =>
      obtain ⟨k, m, hk, rfl, rfl, ht⟩ := hrel
      by_cases hlt : k < l.length
      · obtain ⟨y, hy, hby⟩ := byte_at l k hlt
        have hm := num_lt l k m (by omega) ht
        have hy2 : y.toNat < 256 := y.toNat_lt
        by_cases hd : 48 ≤ y.toNat ∧ y.toNat ≤ 57
        · have F := Lib.hid (num_yes l k m y hlt hy ht (by simp [digB, hd]))
          have e1 : (m : Int) * 10 + (y.toNat : Int) - 48 = ((10 * m + digV y : Nat) : Int) := by unfold digV; omega
          have E1 := Lib.hid e1
          obtain ⟨hd1, hd2⟩ := hd
          clear ht hy e1
          go_wp2
          go_round
          case rel => exact ⟨k + 1, 10 * m + digV y, by omega, by go_num, by rw [← E1.out], F.out⟩
          case measure => simp [intOf]; omega
        · have F : Hid (numB (45 :: l) = false) := Lib.hid (by rw [HB.out]; exact digs_bad _ _ (num_no l k y hlt hy (by simp [digB]; omega)))
          clear ht hy
          go_wp2
          all_goals (go_ret2; exact ⟨ret_num (numV_no (45 :: l) F.out).symm F.out.symm, rfl⟩)
      · obtain rfl : k = l.length := by omega
        obtain ⟨ha, rfl⟩ := num_end l m ht
        have F : Hid (numB (45 :: l) = true) := Lib.hid (by rw [HB.out]; exact G.out ha)
        have hm := val_lt 18 l (by omega) ha
        clear ht ha
        go_wp2
        go_ret2
        exact ⟨ret_num (by rw [HV.out F.out]) F.out.symm, rfl⟩
theorem numS_any (l : List UInt8) (w : World) (hl : l.length ≤ 9223372036854775807) : Calls Tryd.prog 54 #[.string ⟨l.toArray⟩] w fun e w' => e = .returned (.tuple #[.int .i64 (numV l), .bool (numB l)]) ∧ w = w' := by
  cases hn : negB l with
  | false => exact numS_pos l w hl hn
  | true =>
    cases l with
    | nil => cases hn
    | cons c r =>
      obtain rfl : c = 45 := by simpa [negB] using hn
      exact numS_neg r w (by simp at hl; omega)
theorem below_iter (w : World) (s : ByteArray) (p : Nat) : Below w.heap.size w (w.iter s p) := (Below.refl _ _).alloc (Nat.le_refl _) _
theorem next_low (P : Program) (w : World) (l : List UInt8) (k : Nat) (x : UInt8) (h : k < l.length) (hx : l[k] = x) (ha : x.toNat < 128) (ty : TypeId) :
    (Instr.next (.pointer (some ⟨w.heap.size, 0, none⟩)) true ty).run P (w.iter ⟨l.toArray⟩ k) = .ok (.tuple #[.bool true, .int .i64 k, .int .i32 x.toNat]) (w.iter ⟨l.toArray⟩ (k + 1)) := by
  have h' : k < (⟨l.toArray⟩ : ByteArray).size := h
  have e : (⟨l.toArray⟩ : ByteArray)[k]'h' = x := hx
  have := run_next_ascii (P := P) w ⟨l.toArray⟩ k ty h' (by rw [e]; exact ha)
  rw [e] at this
  exact this
theorem next_high (P : Program) (w : World) (l : List UInt8) (k : Nat) (x : UInt8) (h : k < l.length) (hx : l[k] = x) (ha : ¬ x.toNat < 128) :
    ∃ (c n : Nat), 128 ≤ c ∧ ∀ ty : TypeId, (Instr.next (.pointer (some ⟨w.heap.size, 0, none⟩)) true ty).run P (w.iter ⟨l.toArray⟩ k) = .ok (.tuple #[.bool true, .int .i64 k, .int .i32 c]) (w.iter ⟨l.toArray⟩ n) := by
  have h' : k < (⟨l.toArray⟩ : ByteArray).size := h
  have e : (⟨l.toArray⟩ : ByteArray)[k]'h' = x := hx
  exact ⟨_, _, (decode_high ⟨l.toArray⟩ k h' (by rw [e]; omega)).1, fun ty => run_next_any (P := P) w ⟨l.toArray⟩ k ty h'⟩
theorem next_end (P : Program) (w : World) (l : List UInt8) (ty : TypeId) :
    (Instr.next (.pointer (some ⟨w.heap.size, 0, none⟩)) true ty).run P (w.iter ⟨l.toArray⟩ l.length) = .ok (.tuple #[.bool false]) (w.iter ⟨l.toArray⟩ l.length) :=
  run_next_end (P := P) w ⟨l.toArray⟩ l.length ty (Nat.lt_irrefl _)
theorem isDigit_yes (c : Int) (w : World) (h : 48 ≤ c ∧ c ≤ 57) : Calls Tryd.prog 61 #[.int .i32 c] w fun e w' => e = .returned (.bool true) ∧ w = w' := by
  obtain ⟨h1, h2⟩ := h
  go_enter Tryd.func61, Tryd.ntmps61
  go_wp2
  go_ret
  exact ⟨ret_bool (by first | rfl | simp [h2]), rfl⟩
theorem isDigit_no (c : Int) (w : World) (h : ¬ (48 ≤ c ∧ c ≤ 57)) : Calls Tryd.prog 61 #[.int .i32 c] w fun e w' => e = .returned (.bool false) ∧ w = w' := by
  go_enter Tryd.func61, Tryd.ntmps61
  go_wp2
  all_goals (go_ret; exact ⟨ret_bool (by first | rfl | (simp; omega)), rfl⟩)
theorem retI_num {a b : Int} {c d : Bool} (h : a = b) (h' : c = d) : Ending.returned (.tuple #[.int .i64 a, .bool c]) = .returned (.tuple #[.int .i64 b, .bool d]) := by rw [h, h']
theorem trim_minus (l : List UInt8) : Lib.trimPrefix l [45] = absL l ∧ Lib.hasPrefix l [45] = negB l := by
  cases l with
  | nil => exact ⟨rfl, rfl⟩
  | cons c r =>
    have e : Lib.hasPrefix (c :: r) [45] = negB (c :: r) := by rw [Bool.eq_iff_iff]; simp [Lib.hasPrefix, negB]; exact eq_comm
    refine ⟨?_, e⟩
    unfold Lib.trimPrefix
    rw [e]
    simp [absL]
theorem cutMinus_any (l : List UInt8) (w : World) : Calls Tryd.prog 35 #[.string ⟨l.toArray⟩, .string ⟨#[45]⟩] w fun e w' => e = .returned (.tuple #[.string ⟨(absL l).toArray⟩, .bool (negB l)]) ∧ w = w' := by
  refine (Tryd.strings_CutPrefix ⟨l.toArray⟩ ⟨#[45]⟩ w).mono ?_
  rintro e w' ⟨rfl, rfl⟩
  refine ⟨?_, rfl⟩
  show Ending.returned (.tuple #[.string ⟨(Lib.trimPrefix l [45]).toArray⟩, .bool (Lib.hasPrefix l [45])]) = _
  rw [(trim_minus l).1, (trim_minus l).2]
def numR (b : Bool) (d : List UInt8) : Int := if digsB b d then (if b then -(valB d : Int) else (valB d : Int)) else 0
theorem numR_yes {b : Bool} {d : List UInt8} (h : digsB b d = true) : numR b d = if b = true then -(valB d : Int) else (valB d : Int) := by simp [numR, h]
theorem numR_no {b : Bool} {d : List UInt8} (h : digsB b d = false) : numR b d = 0 := by simp [numR, h]
set_option maxHeartbeats 1000000 in
theorem readInt_core (l d : List UInt8) (b : Bool) (w : World) (hl : d.length ≤ 9223372036854775807)
    (HC : Hid (∀ W, Calls Tryd.prog 35 #[.string ⟨l.toArray⟩, .string ⟨#[45]⟩] W fun e w' => e = .returned (.tuple #[.string ⟨d.toArray⟩, .bool b]) ∧ W = w')) :
    Calls Tryd.prog 43 #[.string ⟨l.toArray⟩] w fun e w' => e = .returned (.tuple #[.int .i64 (numR b d), .bool (digsB b d)]) ∧ Below w.heap.size w w' := by
  by_cases h0 : d.length < 1
  · obtain rfl : d = [] := List.eq_nil_of_length_eq_zero (by omega)
    have F : Hid (digsB b [] = false) := Lib.hid (digs_short _ _ h0)
    go_enter Tryd.func43, Tryd.ntmps43
    go_wp2_with (go_at_call 35; refine (HC.out _).mono ?_; rintro e w' ⟨rfl, rfl⟩)
    go_ret2
    exact ⟨retI_num (numR_no F.out).symm F.out.symm, Below.refl _ _⟩
  have h0' : 0 < d.length := by omega
  obtain ⟨x, hx, hb⟩ := byte_at d 0 h0'
  have hz := zero_at d x h0' hx
  clear hx
  have de : d.isEmpty = false := by cases d <;> simp_all
  by_cases h18 : 18 < d.length
  · have F : Hid (digsB b d = false) := Lib.hid (digs_long _ _ h18)
    clear hz
    go_enter Tryd.func43, Tryd.ntmps43
    go_wp2_with (go_at_call 35; refine (HC.out _).mono ?_; rintro e w' ⟨rfl, rfl⟩)
    go_ret2
    exact ⟨retI_num (numR_no F.out).symm F.out.symm, Below.refl _ _⟩
  have d18 : decide ((18 : Int) < d.length) = false := by simp; omega
  by_cases hz1 : x.toNat = 48 ∧ (1 < d.length ∨ b = true)
  · obtain ⟨hz1, hz2⟩ := hz1
    obtain rfl : x = 48 := UInt8.toNat_inj.1 hz1
    have F : Hid (digsB b d = false) := Lib.hid (digs_zero _ _ hz hz2)
    clear hz hz1
    have hz3 : 1 < d.length ∨ (decide ((1 : Int) < d.length) = false ∧ b = true) := by
      by_cases h : 1 < d.length
      · exact .inl h
      · exact .inr ⟨by simp; omega, by rcases hz2 with h2 | h2; exact absurd h2 h; exact h2⟩
    clear hz2
    rcases hz3 with h1 | ⟨h1, rfl⟩
    all_goals
      go_enter Tryd.func43, Tryd.ntmps43
      go_wp2_with (go_at_call 35; refine (HC.out _).mono ?_; rintro e w' ⟨rfl, rfl⟩)
      go_ret2
      exact ⟨retI_num (numR_no F.out).symm F.out.symm, Below.refl _ _⟩
  have G : Hid (d.all digB = true → digsB b d = true) := Lib.hid fun h => digs_good b d (by omega) (by omega) (by
    by_cases e : x.toNat = 48
    · right
      refine ⟨fun h' => hz1 ⟨e, .inl h'⟩, ?_⟩
      cases b with
      | false => rfl
      | true => exact absurd ⟨e, .inr rfl⟩ hz1
    · left; rw [hz]; simp; intro h'; subst h'; exact e rfl) h
  have hgo : ((x.toNat : Int) == 48) = false ∨ (((x.toNat : Int) == 48) = true ∧ decide ((1 : Int) < d.length) = false ∧ b = false) := by
    by_cases e : x.toNat = 48
    · refine .inr ⟨by simp [e], by have : ¬ 1 < d.length := fun h' => hz1 ⟨e, .inl h'⟩; simp; omega, ?_⟩
      cases b with
      | false => rfl
      | true => exact absurd ⟨e, .inr rfl⟩ hz1
    · exact .inl (by simp; omega)
  have DB : Hid (d.all digB = false → digsB b d = false) := Lib.hid (digs_bad b d)
  clear hz hz1
  rcases hgo with c2 | ⟨c2, h1, rfl⟩
  all_goals
    go_enter Tryd.func43, Tryd.ntmps43
    go_wp2_with (go_at_call 35; refine (HC.out _).mono ?_; rintro e w' ⟨rfl, rfl⟩)
    go_loopw [6] (fun n wr => ∃ k m : Nat, k ≤ d.length ∧ wr = w.iter ⟨d.toArray⟩ k ∧ n = .int .i64 m ∧ numAt d k m = true) (fun _ wr => d.length - wr.iterPos w.heap.size)
    case atStart => exact ⟨0, 0, by omega, rfl, rfl, num_zero d⟩
    case round =>
      obtain ⟨k, m, hk, rfl, rfl, ht⟩ := hrel
      by_cases hlt : k < d.length
      · obtain ⟨y, hy, _⟩ := byte_at d k hlt
        have hm := num_lt d k m (by omega) ht
        by_cases ha : y.toNat < 128
        · have hnx := next_low Tryd.prog w d k y hlt hy ha
          by_cases hd : 48 ≤ y.toNat ∧ y.toNat ≤ 57
          · have F := Lib.hid (num_yes d k m y hlt hy ht (by simp [digB, hd]))
            have E1 : Hid (10 * (m : Int) + ((y.toNat : Int) - 48) = ((10 * m + digV y : Nat) : Int)) := Lib.hid (by unfold digV; omega)
            clear ht hy
            have hd1 := hd.1
            have hd2 := hd.2
            go_wp2_with (go_at_call 61; refine (isDigit_yes _ _ (by omega)).mono ?_; rintro e w' ⟨rfl, rfl⟩)
            go_roundw
            case rel => exact ⟨k + 1, 10 * m + digV y, by omega, rfl, by rw [← E1.out], F.out⟩
            case measure => simp; omega
          · have F := Lib.hid (DB.out (num_no d k y hlt hy (by simp [digB]; omega)))
            clear ht hy
            go_wp2_with (go_at_call 61; refine (isDigit_no _ _ (by omega)).mono ?_; rintro e w' ⟨rfl, rfl⟩)
            go_ret2
            exact ⟨retI_num (numR_no F.out).symm F.out.symm, below_iter _ _ _⟩
        · obtain ⟨c, n, hc, hnx⟩ := next_high Tryd.prog w d k y hlt hy ha
          have F := Lib.hid (DB.out (num_no d k y hlt hy (by simp [digB]; omega)))
          clear ht hy
          go_wp2_with (go_at_call 61; refine (isDigit_no _ _ (by omega)).mono ?_; rintro e w' ⟨rfl, rfl⟩)
          go_ret2
          exact ⟨retI_num (numR_no F.out).symm F.out.symm, below_iter _ _ _⟩
      · obtain rfl : k = d.length := by omega
        obtain ⟨hal, rfl⟩ := num_end d m ht
        have F := Lib.hid (G.out hal)
        have hm : valB d < 1000000000000000000 := val_lt 18 d (by omega) hal
        have hnx := next_end Tryd.prog w d
        clear ht hal
        go_wp2
        all_goals (go_ret2; exact ⟨retI_num (by rw [numR_yes F.out]; simp [*]) F.out.symm, below_iter _ _ _⟩)
theorem readInt_any (l : List UInt8) (w : World) (hl : l.length ≤ 9223372036854775807) : Calls Tryd.prog 43 #[.string ⟨l.toArray⟩] w fun e w' => e = .returned (.tuple #[.int .i64 (numV l), .bool (numB l)]) ∧ Below w.heap.size w w' := by
  have hd : (absL l).length ≤ l.length := by unfold absL; split <;> simp
  have e : numR (negB l) (absL l) = numV l := rfl
  have := readInt_core l (absL l) (negB l) w (by omega) (Lib.hid fun W => cutMinus_any l W)
  rw [e] at this
  exact this
end Go.Proofs.YtjakkmjipglkiaaDoor.Ul
