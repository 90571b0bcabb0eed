
/-
  The walks of the program's functions of chapters 1 and 2 that read numbers: the number that a text is, a port.
-/
import Derived.Test.YtniflfgnelfpbaaDoorUrlImplF
import Derived.Test.YtniflfgnelfpbaaDoorUrlImplB
namespace Go.Proofs.YtniflfgnelfpbaaDoor.Ul
open Go.RowKit
theorem retI_num {a b : Int} {c d : Bool} (h : a = b) (h' : c = d) : Ending.returned (.tuple #[.int .i64 a, .bool c]) = .returned (.tuple #[.int .i64 b, .bool d]) := by rw [h, h']
theorem trim_minus (l : List UInt8) : Lib.trimPrefix l [45] = absL l ∧ Lib.hasPrefix l [45] = negB l := by
  cases l with
  | nil => exact ⟨rfl, rfl⟩
  | cons c r =>
    have e : Lib.hasPrefix (c :: r) [45] = negB (c :: r) := by rw [Bool.eq_iff_iff]; simp [Lib.hasPrefix, negB]; exact eq_comm
    refine ⟨?_, e⟩
    unfold Lib.trimPrefix
    rw [e]
    simp [absL]
theorem cutMinus_any (l : List UInt8) (w : World) : Calls Tryd.prog 105 #[.string ⟨l.toArray⟩, .string ⟨#[45]⟩] w fun e w' => e = .returned (.tuple #[.string ⟨(absL l).toArray⟩, .bool (negB l)]) ∧ w = w' := by
  refine (Tryd.strings_CutPrefix ⟨l.toArray⟩ ⟨#[45]⟩ w).mono ?_
  rintro e w' ⟨rfl, rfl⟩
  refine ⟨?_, rfl⟩
  show Ending.returned (.tuple #[.string ⟨(Lib.trimPrefix l [45]).toArray⟩, .bool (Lib.hasPrefix l [45])]) = _
  rw [(trim_minus l).1, (trim_minus l).2]
def numR (b : Bool) (d : List UInt8) : Int := if digsB b d then (if b then -(valB d : Int) else (valB d : Int)) else 0
theorem numR_yes {b : Bool} {d : List UInt8} (h : digsB b d = true) : numR b d = if b = true then -(valB d : Int) else (valB d : Int) := by simp [numR, h]
theorem numR_no {b : Bool} {d : List UInt8} (h : digsB b d = false) : numR b d = 0 := by simp [numR, h]
set_option maxHeartbeats 1000000 in
theorem readInt_core (l d : List UInt8) (b : Bool) (w : World) (hl : d.length ≤ 9223372036854775807)
    (HC : Hid (∀ W, Calls Tryd.prog 105 #[.string ⟨l.toArray⟩, .string ⟨#[45]⟩] W fun e w' => e = .returned (.tuple #[.string ⟨d.toArray⟩, .bool b]) ∧ W = w')) :
    Calls Tryd.prog 120 #[.string ⟨l.toArray⟩] w fun e w' => e = .returned (.tuple #[.int .i64 (numR b d), .bool (digsB b d)]) ∧ Below w.heap.size w w' := by
  by_cases h0 : d.length < 1
  · obtain rfl : d = [] := List.eq_nil_of_length_eq_zero (by omega)
    have F : Hid (digsB b [] = false) := Lib.hid (digs_short _ _ h0)
    go_enter Tryd.func120, Tryd.ntmps120
    go_wp2_with (go_at_call 105; refine (HC.out _).mono ?_; rintro e w' ⟨rfl, rfl⟩)
    go_ret2
    exact ⟨retI_num (numR_no F.out).symm F.out.symm, Below.refl _ _⟩
  have h0' : 0 < d.length := by omega
  obtain ⟨x, hx, hb⟩ := byte_at d 0 h0'
  have hz := zero_at d x h0' hx
  clear hx
  have de : d.isEmpty = false := by cases d <;> simp_all
  by_cases h18 : 18 < d.length
  · have F : Hid (digsB b d = false) := Lib.hid (digs_long _ _ h18)
    clear hz
    go_enter Tryd.func120, Tryd.ntmps120
    go_wp2_with (go_at_call 105; refine (HC.out _).mono ?_; rintro e w' ⟨rfl, rfl⟩)
    go_ret2
    exact ⟨retI_num (numR_no F.out).symm F.out.symm, Below.refl _ _⟩
  have d18 : decide ((18 : Int) < d.length) = false := by simp; omega
  by_cases hz1 : x.toNat = 48 ∧ (1 < d.length ∨ b = true)
  · obtain ⟨hz1, hz2⟩ := hz1
    obtain rfl : x = 48 := UInt8.toNat_inj.1 hz1
    have F : Hid (digsB b d = false) := Lib.hid (digs_zero _ _ hz hz2)
    clear hz hz1
    have hz3 : 1 < d.length ∨ (decide ((1 : Int) < d.length) = false ∧ b = true) := by
      by_cases h : 1 < d.length
      · exact .inl h
      · exact .inr ⟨by simp; omega, by rcases hz2 with h2 | h2; exact absurd h2 h; exact h2⟩
    clear hz2
    rcases hz3 with h1 | ⟨h1, rfl⟩
    all_goals
      go_enter Tryd.func120, Tryd.ntmps120
      go_wp2_with (go_at_call 105; refine (HC.out _).mono ?_; rintro e w' ⟨rfl, rfl⟩)
      go_ret2
      exact ⟨retI_num (numR_no F.out).symm F.out.symm, Below.refl _ _⟩
  have G : Hid (d.all digB = true → digsB b d = true) := Lib.hid fun h => digs_good b d (by omega) (by omega) (by
    by_cases e : x.toNat = 48
    · right
      refine ⟨fun h' => hz1 ⟨e, .inl h'⟩, ?_⟩
      cases b with
      | false => rfl
      | true => exact absurd ⟨e, .inr rfl⟩ hz1
    · left; rw [hz]; simp; intro h'; subst h'; exact e rfl) h
  have hgo : ((x.toNat : Int) == 48) = false ∨ (((x.toNat : Int) == 48) = true ∧ decide ((1 : Int) < d.length) = false ∧ b = false) := by
    by_cases e : x.toNat = 48
    · refine .inr ⟨by simp [e], by have : ¬ 1 < d.length := fun h' => hz1 ⟨e, .inl h'⟩; simp; omega, ?_⟩
      cases b with
      | false => rfl
      | true => exact absurd ⟨e, .inr rfl⟩ hz1
    · exact .inl (by simp; omega)
  have DB : Hid (d.all digB = false → digsB b d = false) := Lib.hid (digs_bad b d)
  clear hz hz1
  rcases hgo with c2 | ⟨c2, h1, rfl⟩
  all_goals
    go_enter Tryd.func120, Tryd.ntmps120
    go_wp2_with (go_at_call 105; refine (HC.out _).mono ?_; rintro e w' ⟨rfl, rfl⟩)
    go_loopw [6] (fun n wr => ∃ k m : Nat, k ≤ d.length ∧ wr = w.iter ⟨d.toArray⟩ k ∧ n = .int .i64 m ∧ numAt d k m = true) (fun _ wr => d.length - wr.iterPos w.heap.size)
    case atStart => exact ⟨0, 0, by omega, rfl, rfl, num_zero d⟩
    case round =>
      obtain ⟨k, m, hk, rfl, rfl, ht⟩ := hrel
      by_cases hlt : k < d.length
      · obtain ⟨y, hy, _⟩ := byte_at d k hlt
        have hm := num_lt d k m (by omega) ht
        by_cases ha : y.toNat < 128
        · have hnx := next_low Tryd.prog w d k y hlt hy ha
          by_cases hd : 48 ≤ y.toNat ∧ y.toNat ≤ 57
          · have F := Lib.hid (num_yes d k m y hlt hy ht (by simp [digB, hd]))
            have E1 : Hid (10 * (m : Int) + ((y.toNat : Int) - 48) = ((10 * m + digV y : Nat) : Int)) := Lib.hid (by unfold digV; omega)
            clear ht hy
            have hd1 := hd.1
            have hd2 := hd.2
            go_wp2_with (go_at_call 122; refine (isDigit_yes _ _ (by omega)).mono ?_; rintro e w' ⟨rfl, rfl⟩)
            go_roundw
            case rel => exact ⟨k + 1, 10 * m + digV y, by omega, rfl, by rw [← E1.out], F.out⟩
            case measure => simp; omega
          · have F := Lib.hid (DB.out (num_no d k y hlt hy (by simp [digB]; omega)))
            clear ht hy
            go_wp2_with (go_at_call 122; refine (isDigit_no _ _ (by omega)).mono ?_; rintro e w' ⟨rfl, rfl⟩)
            go_ret2
            exact ⟨retI_num (numR_no F.out).symm F.out.symm, below_iter _ _ _⟩
        · obtain ⟨c, n, hc, hnx⟩ := next_high Tryd.prog w d k y hlt hy ha
          have F := Lib.hid (DB.out (num_no d k y hlt hy (by simp [digB]; omega)))
          clear ht hy
          go_wp2_with (go_at_call 122; refine (isDigit_no _ _ (by omega)).mono ?_; rintro e w' ⟨rfl, rfl⟩)
          go_ret2
          exact ⟨retI_num (numR_no F.out).symm F.out.symm, below_iter _ _ _⟩
      · obtain rfl : k = d.length := by omega
        obtain ⟨hal, rfl⟩ := num_end d m ht
        have F := Lib.hid (G.out hal)
        have hm : valB d < 1000000000000000000 := val_lt 18 d (by omega) hal
        have hnx := next_end Tryd.prog w d
        clear ht hal
        go_wp2
        all_goals (go_ret2; exact ⟨retI_num (by rw [numR_yes F.out]; simp [*]) F.out.symm, below_iter _ _ _⟩)
theorem readInt_any (l : List UInt8) (w : World) (hl : l.length ≤ 9223372036854775807) : Calls Tryd.prog 120 #[.string ⟨l.toArray⟩] w fun e w' => e = .returned (.tuple #[.int .i64 (numV l), .bool (numB l)]) ∧ Below w.heap.size w w' := by
  have hd : (absL l).length ≤ l.length := by unfold absL; split <;> simp
  have e : numR (negB l) (absL l) = numV l := rfl
  have := readInt_core l (absL l) (negB l) w (by omega) (Lib.hid fun W => cutMinus_any l W)
  rw [e] at this
  exact this
/-! ### A port -/
theorem readPort_any (s t : List UInt8) (w : World) (hw : webB s = true) (hl : t.length ≤ 9223372036854775807) : Calls Tryd.prog 106 #[.string ⟨s.toArray⟩, .string ⟨t.toArray⟩] w fun e w' => e = .returned (.tuple #[.int .i64 (portV s t), .bool (portOKB t)]) ∧ Below w.heap.size w w' := by
  have HR := Lib.hid (fun W => readInt_any t W hl)
  have HD := Lib.hid (fun W => dport_any s W)
  have hd : dport s = usual s := by
    unfold dport usual
    simp only [webB, Bool.or_eq_true] at hw
    by_cases h : s == http
    · simp [h]
    · rcases hw with hw | hw
      · exact absurd hw h
      · simp [h, hw]
  rw [hd] at HD
  cases hb : numB t with
  | false =>
    have F1 : Hid (portV s t = 0) := Lib.hid (by simp [portV, portOKB, hb])
    have F2 : Hid (portOKB t = false) := Lib.hid (by simp [portOKB, hb])
    rw [hb] at HR
    clear hb hd hw
    go_enter Tryd.func106, Tryd.ntmps106
    go_wp2_with (go_at_call 120; refine (HR.out _).mono ?_; rintro e w1 ⟨rfl, hb⟩)
    go_ret2
    exact ⟨retI_num F1.out.symm F2.out.symm, hb⟩
  | true =>
    rw [hb] at HR
    by_cases h1 : numV t < 1 ∨ 65535 < numV t
    · have F2 : Hid (portOKB t = false) := Lib.hid (by simp [portOKB]; omega)
      have F1 : Hid (portV s t = 0) := Lib.hid (by simp [portV, F2.out])
      clear hb hd hw
      generalize numV t = n at *
      have hn : n < 1 ∨ (decide (n < 1) = false ∧ 65535 < n) := by
        by_cases h : n < 1
        · exact .inl h
        · exact .inr ⟨by simp; omega, by omega⟩
      clear h1
      rcases hn with hn | ⟨hn, hn2⟩
      all_goals
        go_enter Tryd.func106, Tryd.ntmps106
        go_wp2_with (go_at_call 120; refine (HR.out _).mono ?_; rintro e w1 ⟨rfl, hb⟩)
        go_ret2
        exact ⟨retI_num F1.out.symm F2.out.symm, hb⟩
    · have F2 : Hid (portOKB t = true) := Lib.hid (by simp [portOKB, hb]; omega)
      have F1 : Hid (portV s t = if numV t = usual s then 0 else numV t) := Lib.hid (by simp [portV, F2.out])
      have h2 : 1 ≤ numV t := by omega
      have h3 : numV t ≤ 65535 := by omega
      clear hb hd hw h1
      generalize numV t = n at *
      generalize usual s = u at *
      have d1 : decide (n < 1) = false := by simp; omega
      have d2 : decide ((65535 : Int) < n) = false := by simp; omega
      by_cases hn : n = u
      · have c1 : (n == u) = true := by simp [hn]
        have G : Hid (portV s t = 0) := Lib.hid (by rw [F1.out, if_pos hn])
        clear hn F1
        go_enter Tryd.func106, Tryd.ntmps106
        go_wp2_with (first
          | (go_at_call 120; refine (HR.out _).mono ?_; rintro e w1 ⟨rfl, hb⟩)
          | (go_at_call 121; refine (HD.out _).mono ?_; rintro e w2 ⟨rfl, rfl⟩))
        go_ret2
        exact ⟨retI_num G.out.symm F2.out.symm, hb⟩
      · have c1 : (n == u) = false := by simp [hn]
        have G : Hid (portV s t = n) := Lib.hid (by rw [F1.out, if_neg hn])
        clear hn F1
        go_enter Tryd.func106, Tryd.ntmps106
        go_wp2_with (first
          | (go_at_call 120; refine (HR.out _).mono ?_; rintro e w1 ⟨rfl, hb⟩)
          | (go_at_call 121; refine (HD.out _).mono ?_; rintro e w2 ⟨rfl, rfl⟩))
        go_ret2
        exact ⟨retI_num G.out.symm F2.out.symm, hb⟩
end Go.Proofs.YtniflfgnelfpbaaDoor.Ul
