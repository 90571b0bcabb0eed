
/-
  The walks of the model's functions of chapters 1 and 2 that read: the number that a text is.
-/
import Derived.Test.YtniflfgnelfpbaaDoorUrlSpecA
import Derived.Test.YtniflfgnelfpbaaDoorUrlPlainC
namespace Go.Proofs.YtniflfgnelfpbaaDoor.Ul
open Go.RowKit
theorem ret_num {a b : Int} {c d : Bool} (h : a = b) (h' : c = d) : Ending.returned (.tuple #[.int .i64 a, .bool c]) = .returned (.tuple #[.int .i64 b, .bool d]) := by rw [h, h']
@[local go_sem] theorem ext_tail (c : UInt8) (l : List UInt8) : (⟨(c :: l).toArray⟩ : ByteArray).extract 1 (l.length + 1) = ⟨l.toArray⟩ := by
  apply ByteArray.ext; simp
set_option maxHeartbeats 1000000 in
theorem numS_pos (l : List UInt8) (w : World) (hl : l.length ≤ 9223372036854775807) (hn : negB l = false) : Calls Tryd.prog 69 #[.string ⟨l.toArray⟩] w fun e w' => e = .returned (.tuple #[.int .i64 (numV l), .bool (numB l)]) ∧ w = w' := by
  obtain ⟨hB, hV⟩ := num_pos l hn
  by_cases h0 : l.length < 1
  · obtain rfl : l = [] := List.eq_nil_of_length_eq_zero (by omega)
    go_enter Tryd.func69, Tryd.ntmps69
    go_wp2
    go_ret2
    exact ⟨rfl, rfl⟩
  have h0' : 0 < l.length := by omega
  obtain ⟨x, hx, hb⟩ := byte_at l 0 h0'
  rw [neg_at l x h0' hx] at hn
  have hz := zero_at l x h0' hx
  have c1 : ((x.toNat : Int) == 45) = false := by
    have : x ≠ 45 := by simpa using hn
    have : x.toNat ≠ 45 := fun e => this (UInt8.toNat_inj.1 e)
    simp; omega
  have HB := Lib.hid hB
  have HV := Lib.hid hV
  clear hB hV hn hx
  have d0 : ((l.length : Int) == 0) = false := beq_eq_false_iff_ne.2 (by omega)
  by_cases h18 : 18 < l.length
  · have F : Hid (numB l = false) := Lib.hid (by rw [HB.out]; exact digs_long _ _ h18)
    clear hz
    go_enter Tryd.func69, Tryd.ntmps69
    go_wp2
    go_ret2
    exact ⟨ret_num (numV_no l F.out).symm F.out.symm, rfl⟩
  have d18 : decide ((18 : Int) < l.length) = false := by simp; omega
  by_cases hz1 : x.toNat = 48 ∧ 1 < l.length
  · obtain ⟨hz1, hz2⟩ := hz1
    obtain rfl : x = 48 := UInt8.toNat_inj.1 hz1
    have F : Hid (numB l = false) := Lib.hid (by rw [HB.out]; exact digs_zero _ _ hz (.inl hz2))
    clear hz hz1
    go_enter Tryd.func69, Tryd.ntmps69
    go_wp2
    go_ret2
    exact ⟨ret_num (numV_no l F.out).symm F.out.symm, rfl⟩
  have G : Hid (l.all digB = true → digsB false l = true) := Lib.hid fun h => digs_good false l (by omega) (by omega) (by
    by_cases e : x.toNat = 48
    · exact .inr ⟨fun h' => hz1 ⟨e, h'⟩, rfl⟩
    · left; rw [hz]; simp; intro h'; subst h'; exact e rfl) h
  have hgo : ((x.toNat : Int) == 48) = false ∨ (((x.toNat : Int) == 48) = true ∧ ¬ 1 < l.length) := by
    by_cases e : x.toNat = 48
    · exact .inr ⟨by simp [e], fun h' => hz1 ⟨e, h'⟩⟩
    · exact .inl (by simp; omega)
  clear hz hz1
  rcases hgo with c2 | ⟨c2, h1⟩
  all_goals
    go_enter Tryd.func69, Tryd.ntmps69
    go_wp2
    go_loop [5, 6] (fun n i => ∃ k m : Nat, k ≤ l.length ∧ i = .int .i64 k ∧ n = .int .i64 m ∧ numAt l k m = true) (fun _ i => l.length - (intOf i).toNat)
    case atStart => exact ⟨0, 0, by omega, rfl, rfl, num_zero l⟩
    case round =>
      obtain ⟨k, m, hk, rfl, rfl, ht⟩ := hrel
      by_cases hlt : k < l.length
      · obtain ⟨y, hy, hby⟩ := byte_at l k hlt
        have hm := num_lt l k m (by omega) ht
        have hy2 : y.toNat < 256 := y.toNat_lt
        by_cases hd : 48 ≤ y.toNat ∧ y.toNat ≤ 57
        · have F := Lib.hid (num_yes l k m y hlt hy ht (by simp [digB, hd]))
          have e1 : (m : Int) * 10 + (y.toNat : Int) - 48 = ((10 * m + digV y : Nat) : Int) := by unfold digV; omega
          have E1 := Lib.hid e1
          obtain ⟨hd1, hd2⟩ := hd
          clear ht hy e1
          go_wp2
          go_round
          case rel => exact ⟨k + 1, 10 * m + digV y, by omega, by go_num, by rw [← E1.out], F.out⟩
          case measure => simp [intOf]; omega
        · have F : Hid (numB l = false) := Lib.hid (by rw [HB.out]; exact digs_bad _ _ (num_no l k y hlt hy (by simp [digB]; omega)))
          clear ht hy
          go_wp2
          all_goals (go_ret2; exact ⟨ret_num (numV_no l F.out).symm F.out.symm, rfl⟩)
      · obtain rfl : k = l.length := by omega
        obtain ⟨ha, rfl⟩ := num_end l m ht
        have F : Hid (numB l = true) := Lib.hid (by rw [HB.out]; exact G.out ha)
        have hm := val_lt 18 l (by omega) ha
        clear ht ha
        go_wp2
        go_ret2
        exact ⟨ret_num (by rw [HV.out F.out]) F.out.symm, rfl⟩
set_option maxHeartbeats 1000000 in
theorem numS_neg (l : List UInt8) (w : World) (hl : l.length < 9223372036854775807) : Calls Tryd.prog 69 #[.string ⟨(45 :: l).toArray⟩] w fun e w' => e = .returned (.tuple #[.int .i64 (numV (45 :: l)), .bool (numB (45 :: l))]) ∧ w = w' := by
  obtain ⟨hB, hV⟩ := num_neg l
  have hb45 : ∀ h' : 0 < (⟨(45 :: l).toArray⟩ : ByteArray).size, (⟨(45 :: l).toArray⟩ : ByteArray)[0] = 45 := fun _ => rfl
  by_cases h0 : l.length < 1
  · obtain rfl : l = [] := List.eq_nil_of_length_eq_zero (by omega)
    go_enter Tryd.func69, Tryd.ntmps69
    go_wp2
    go_ret2
    exact ⟨rfl, rfl⟩
  have h0' : 0 < l.length := by omega
  obtain ⟨x, hx, hb⟩ := byte_at l 0 h0'
  have hz := zero_at l x h0' hx
  have HB := Lib.hid hB
  have HV := Lib.hid hV
  clear hB hV hx
  have d0 : ((l.length : Int) == 0) = false := beq_eq_false_iff_ne.2 (by omega)
  by_cases h18 : 18 < l.length
  · have F : Hid (numB (45 :: l) = false) := Lib.hid (by rw [HB.out]; exact digs_long _ _ h18)
    clear hz
    go_enter Tryd.func69, Tryd.ntmps69
    go_wp2
    go_ret2
    exact ⟨ret_num (numV_no (45 :: l) F.out).symm F.out.symm, rfl⟩
  have d18 : decide ((18 : Int) < l.length) = false := by simp; omega
  by_cases hz1 : x.toNat = 48
  · obtain rfl : x = 48 := UInt8.toNat_inj.1 hz1
    have F : Hid (numB (45 :: l) = false) := Lib.hid (by rw [HB.out]; exact digs_zero _ _ hz (.inr rfl))
    clear hz hz1
    go_enter Tryd.func69, Tryd.ntmps69
    go_wp2
    all_goals (go_ret2; exact ⟨ret_num (numV_no (45 :: l) F.out).symm F.out.symm, rfl⟩)
  have G : Hid (l.all digB = true → digsB true l = true) := Lib.hid fun h => digs_good true l (by omega) (by omega) (by
    left; rw [hz]; simp; intro h'; subst h'; exact hz1 rfl) h
  have c2 : ((x.toNat : Int) == 48) = false := by simp; omega
  clear hz hz1
  · go_enter Tryd.func69, Tryd.ntmps69
    go_wp2
    go_loop [5, 6] (fun n i => ∃ k m : Nat, k ≤ l.length ∧ i = .int .i64 k ∧ n = .int .i64 m ∧ numAt l k m = true) (fun _ i => l.length - (intOf i).toNat)
    case atStart => exact ⟨0, 0, by omega, rfl, rfl, num_zero l⟩
    case round =>
      obtain ⟨k, m, hk, rfl, rfl, ht⟩ := hrel
      by_cases hlt : k < l.length
      · obtain ⟨y, hy, hby⟩ := byte_at l k hlt
        have hm := num_lt l k m (by omega) ht
        have hy2 : y.toNat < 256 := y.toNat_lt
        by_cases hd : 48 ≤ y.toNat ∧ y.toNat ≤ 57
        · have F := Lib.hid (num_yes l k m y hlt hy ht (by simp [digB, hd]))
          have e1 : (m : Int) * 10 + (y.toNat : Int) - 48 = ((10 * m + digV y : Nat) : Int) := by unfold digV; omega
          have E1 := Lib.hid e1
          obtain ⟨hd1, hd2⟩ := hd
          clear ht hy e1
          go_wp2
          go_round
          case rel => exact ⟨k + 1, 10 * m + digV y, by omega, by go_num, by rw [← E1.out], F.out⟩
          case measure => simp [intOf]; omega
        · have F : Hid (numB (45 :: l) = false) := Lib.hid (by rw [HB.out]; exact digs_bad _ _ (num_no l k y hlt hy (by simp [digB]; omega)))
          clear ht hy
          go_wp2
          all_goals (go_ret2; exact ⟨ret_num (numV_no (45 :: l) F.out).symm F.out.symm, rfl⟩)
      · obtain rfl : k = l.length := by omega
        obtain ⟨ha, rfl⟩ := num_end l m ht
        have F : Hid (numB (45 :: l) = true) := Lib.hid (by rw [HB.out]; exact G.out ha)
        have hm := val_lt 18 l (by omega) ha
        clear ht ha
        go_wp2
        go_ret2
        exact ⟨ret_num (by rw [HV.out F.out]) F.out.symm, rfl⟩
theorem numS_any (l : List UInt8) (w : World) (hl : l.length ≤ 9223372036854775807) : Calls Tryd.prog 69 #[.string ⟨l.toArray⟩] w fun e w' => e = .returned (.tuple #[.int .i64 (numV l), .bool (numB l)]) ∧ w = w' := by
  cases hn : negB l with
  | false => exact numS_pos l w hl hn
  | true =>
    cases l with
    | nil => cases hn
    | cons c r =>
      obtain rfl : c = 45 := by simpa [negB] using hn
      exact numS_neg r w (by simp at hl; omega)
end Go.Proofs.YtniflfgnelfpbaaDoor.Ul
