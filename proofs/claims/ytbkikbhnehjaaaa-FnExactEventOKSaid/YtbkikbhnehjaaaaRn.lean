
/-
  The name of a rule: plainly, and the model's and the program's functions that ask for it, walked.
-/
import Derived.Test.YtbkikbhnehjaaaaUrlSpecA
import Derived.Test.YtbkikbhnehjaaaaNameWalks
import Derived.WalkKit
import Derived.WalkSpells
import Derived.WalkLawsBesides
import Derived.Lib.Hide
import Derived.RegionTactic
import Derived.BigRegion
import Derived.Deep.QuietTactic
import Derived.BigQuiet
import Derived.IntWalk
import Derived.Outline
namespace Go.Proofs.Ytbkikbhnehjaaaa.Rn
open Go.RowKit
open Go.Proofs.Ytbkikbhnehjaaaa.Ul hiding ret_bool
theorem ret_b {a b : Bool} (h : a = b) : Ending.returned (.bool a) = .returned (.bool b) := by rw [h]
def lowB (b : UInt8) : Bool := decide (97 ≤ b.toNat) && decide (b.toNat ≤ 122)
def rnB : Nat → List UInt8 → Bool
  | _, [] => true
  | k, b :: r => (lowB b || (b == 45 && !(k == 0))) && rnB (k + 1) r
def rnameB (t : List UInt8) : Bool := decide (1 ≤ t.length ∧ t.length ≤ 24) && rnB 0 t


theorem rn_no (t : List UInt8) (k : Nat) (x : UInt8) (h : k < t.length) (hx : t[k] = x) (hb : (lowB x || (x == 45 && !(k == 0))) = false) : rnB k (t.drop k) = false := by
  rw [List.drop_eq_getElem_cons h, rnB, hx, hb, Bool.false_and]
theorem rn_yes (t : List UInt8) (k : Nat) (x : UInt8) (h : k < t.length) (hx : t[k] = x) (hb : (lowB x || (x == 45 && !(k == 0))) = true) : rnB k (t.drop k) = rnB (k + 1) (t.drop (k + 1)) := by
  rw [List.drop_eq_getElem_cons h, rnB, hx, hb, Bool.true_and]
theorem low_yes (x : UInt8) (h1 : 97 ≤ x.toNat) (h2 : x.toNat ≤ 122) : lowB x = true := by simp [lowB, h1, h2]
theorem low_no (x : UInt8) (h : x.toNat < 97 ∨ 122 < x.toNat) : lowB x = false := by
  unfold lowB
  rcases h with h | h
  · rw [decide_eq_false (by omega)]; rfl
  · rw [decide_eq_false (p := x.toNat ≤ 122) (by omega), Bool.and_false]
theorem dash_of (x : UInt8) : (x == 45) = decide (x.toNat = 45) := by
  by_cases h : x = 45
  · subst h; rfl
  · have : ¬ x.toNat = 45 := fun e => h (UInt8.toNat_inj.1 e)
    simp [h, this]
set_option maxRecDepth 100000 in
set_option maxHeartbeats 1000000 in
theorem nameS_any (t : List UInt8) (w : World) (hl : t.length ≤ 9223372036854775807) : Calls Try.prog 22 #[.string ⟨t.toArray⟩] w fun e w' => e = .returned (.bool (rnameB t)) ∧ w = w' := by
  have HI := Lib.hid (fun W => in_any (t.length : Int) 1 24 W)
  by_cases hs : 1 ≤ t.length ∧ t.length ≤ 24
  · have e1 : decide ((1 : Int) ≤ (t.length : Int) ∧ (t.length : Int) ≤ 24) = true := by simp; omega
    rw [e1] at HI
    have E : rnameB t = rnB 0 t := by simp [rnameB, hs]
    have HE := Lib.hid E
    clear e1 E
    go_enter Try.func22, Try.ntmps22
    go_wp2_with (go_at_call 15; refine (HI.out _).mono ?_; rintro e w' ⟨rfl, rfl⟩)
    go_loop [3] (fun i => ∃ k : Nat, k ≤ t.length ∧ i = .int .i64 k ∧ rnB 0 t = rnB k (t.drop k)) (fun i => t.length - (intOf i).toNat)
    case atStart => exact ⟨0, by omega, rfl, rfl⟩
    case round =>
      obtain ⟨k, hk, rfl, hR⟩ := hrel
      have HR := Lib.hid hR
      clear hR
      by_cases hlt : k < t.length
      · obtain ⟨x, hx, hb⟩ := Ul.byte_at t k hlt
        have NO := Lib.hid (rn_no t k x hlt hx)
        have YES := Lib.hid (rn_yes t k x hlt hx)
        clear hx
        by_cases h1 : 97 ≤ x.toNat ∧ x.toNat ≤ 122
        · have F := Lib.hid (YES.out (by rw [low_yes x h1.1 h1.2]; rfl))
          have d1 : decide ((x.toNat : Int) < 97) = false := by simp; omega
          have d2 : decide ((122 : Int) < x.toNat) = false := by simp; omega
          clear NO YES
          go_wp2
          go_round
          case rel => exact ⟨k + 1, by omega, by go_num, by rw [HR.out, F.out]⟩
          case measure => simp [intOf]; omega
        · have hlo := low_no x (by omega)
          have hd := dash_of x
          by_cases h2 : x.toNat = 45
          · have d1 : decide ((x.toNat : Int) < 97) = true := by simp; omega
            have d3 : ((x.toNat : Int) != 45) = false := by simp [h2]
            by_cases h3 : k = 0
            · have F := Lib.hid (NO.out (by rw [hlo, h3]; simp))
              subst h3
              clear NO YES
              go_wp2
              go_ret
              exact ⟨ret_b (by rw [HE.out, HR.out, F.out]), rfl⟩
            · have F := Lib.hid (YES.out (by rw [hlo, hd]; simp [h2, h3]))
              have d4 : ((k : Int) == 0) = false := by simp; omega
              clear NO YES
              go_wp2
              go_round
              case rel => exact ⟨k + 1, by omega, by go_num, by rw [HR.out, F.out]⟩
              case measure => simp [intOf]; omega
          · have F := Lib.hid (NO.out (by rw [hlo, hd]; simp [h2]))
            have d3 : ((x.toNat : Int) != 45) = true := by simp only [bne_iff_ne, ne_eq]; omega
            clear NO YES
            by_cases h4 : x.toNat < 97
            · have d1 : decide ((x.toNat : Int) < 97) = true := by simp; omega
              go_wp2
              go_ret
              exact ⟨ret_b (by rw [HE.out, HR.out, F.out]), rfl⟩
            · have d1 : decide ((x.toNat : Int) < 97) = false := by simp; omega
              have d2 : decide ((122 : Int) < x.toNat) = true := by simp; omega
              go_wp2
              go_ret
              exact ⟨ret_b (by rw [HE.out, HR.out, F.out]), rfl⟩
      · obtain rfl : k = t.length := by omega
        go_wp2
        go_ret
        exact ⟨ret_b (by rw [HE.out, HR.out, List.drop_length]; rfl), rfl⟩
  · have e1 : decide ((1 : Int) ≤ (t.length : Int) ∧ (t.length : Int) ≤ 24) = false := by simp; omega
    rw [e1] at HI
    have E : rnameB t = false := by simp [rnameB, hs]
    have HE := Lib.hid E
    clear e1 E
    go_enter Try.func22, Try.ntmps22
    go_wp2_with (go_at_call 15; refine (HI.out _).mono ?_; rintro e w' ⟨rfl, rfl⟩)
    go_ret
    exact ⟨ret_b HE.out.symm, rfl⟩
theorem rn_noI (t : List UInt8) (k : Nat) (x : UInt8) (h : k < t.length) (hx : t[k] = x) (hb : (lowB x || (x == 45 && !(k == 0))) = false) : rnB k (t.drop k) = false := by
  rw [List.drop_eq_getElem_cons h, rnB, hx, hb, Bool.false_and]
theorem rn_yesI (t : List UInt8) (k : Nat) (x : UInt8) (h : k < t.length) (hx : t[k] = x) (hb : (lowB x || (x == 45 && !(k == 0))) = true) : rnB k (t.drop k) = rnB (k + 1) (t.drop (k + 1)) := by
  rw [List.drop_eq_getElem_cons h, rnB, hx, hb, Bool.true_and]
theorem low_yesI (x : UInt8) (h1 : 97 ≤ x.toNat) (h2 : x.toNat ≤ 122) : lowB x = true := by simp [lowB, h1, h2]
theorem low_noI (x : UInt8) (h : x.toNat < 97 ∨ 122 < x.toNat) : lowB x = false := by
  unfold lowB
  rcases h with h | h
  · rw [decide_eq_false (by omega)]; rfl
  · rw [decide_eq_false (p := x.toNat ≤ 122) (by omega), Bool.and_false]
theorem dash_ofI (x : UInt8) : (x == 45) = decide (x.toNat = 45) := by
  by_cases h : x = 45
  · subst h; rfl
  · have : ¬ x.toNat = 45 := fun e => h (UInt8.toNat_inj.1 e)
    simp [h, this]
theorem nlow_yes (c : Int) (h1 : 97 ≤ c) (h2 : c ≤ 122) : Nm.lowB c = true := by simp [Nm.lowB]; omega
theorem nlow_no (c : Int) (h : c < 97 ∨ 122 < c) : Nm.lowB c = false := by simp [Nm.lowB]; omega
set_option maxRecDepth 100000 in
set_option maxHeartbeats 2000000 in
theorem nameI_any (t : List UInt8) (w : World) (hl : t.length ≤ 9223372036854775807) : Calls Try.prog 18 #[.string ⟨t.toArray⟩] w fun e w' => e = .returned (.bool (rnameB t)) ∧ Below w.heap.size w w' := by
  by_cases h0 : t = []
  · subst h0
    go_enter Try.func18, Try.ntmps18
    go_wp2
    go_ret
    exact ⟨rfl, Below.refl _ _⟩
  have e1 : (t == []) = false := by simpa using h0
  have hp : 1 ≤ t.length := by cases t with | nil => exact absurd rfl h0 | cons a r => simp
  by_cases h24 : 24 < t.length
  · have d1 : decide ((24 : Int) < (t.length : Int)) = true := by simp; omega
    have E := Lib.hid (show rnameB t = false by unfold rnameB; rw [decide_eq_false (by omega)]; rfl)
    go_enter Try.func18, Try.ntmps18
    go_wp2
    go_ret
    exact ⟨ret_b E.out.symm, Below.refl _ _⟩
  have d1 : decide ((24 : Int) < (t.length : Int)) = false := by simp; omega
  have HE := Lib.hid (show rnameB t = rnB 0 t by unfold rnameB; rw [decide_eq_true (by omega)]; rfl)
  have hsz : (⟨t.toArray⟩ : ByteArray).size = t.length := by simp [ByteArray.size]
  go_enter Try.func18, Try.ntmps18
  go_wp2
  go_loopw [14] (fun _ wr => ∃ k : Nat, k ≤ t.length ∧ wr = w.iter ⟨t.toArray⟩ k ∧ rnB 0 t = rnB k (t.drop k)) (fun _ wr => t.length - wr.iterPos w.heap.size)
  case atStart => exact ⟨0, by omega, rfl, rfl⟩
  case round =>
    obtain ⟨k, hk, rfl, hR⟩ := hrel
    have HR := Lib.hid hR
    clear hR
    by_cases hlt : k < t.length
    · obtain ⟨x, hx, hb⟩ := Ul.byte_at t k hlt
      have hlt2 : k < (⟨t.toArray⟩ : ByteArray).size := by omega
      have hbx := hb hlt2
      have NO := Lib.hid (rn_noI t k x hlt hx)
      have YES := Lib.hid (rn_yesI t k x hlt hx)
      by_cases ha : x.toNat < 128
      · have hnx := fun ty => run_next_ascii (P := Try.prog) w ⟨t.toArray⟩ k ty hlt2 (by rw [hbx]; exact ha)
        rw [hbx] at hnx
        clear hx hb hbx
        by_cases h1 : 97 ≤ x.toNat ∧ x.toNat ≤ 122
        · have F := Lib.hid (YES.out (by rw [low_yesI x h1.1 h1.2]; rfl))
          have L := Lib.hid (fun W => Nm.isLower_any (x.toNat : Int) W)
          rw [nlow_yes (x.toNat : Int) (by omega) (by omega)] at L
          clear NO YES h1
          go_wp2_with (go_at_call 25; refine (L.out _).mono ?_; rintro e w' ⟨rfl, rfl⟩)
          go_roundw
          case rel => exact ⟨k + 1, by omega, rfl, by rw [HR.out, F.out]⟩
          case measure => simp; omega
        · have hlo := low_noI x (by omega)
          have hd := dash_ofI x
          have L := Lib.hid (fun W => Nm.isLower_any (x.toNat : Int) W)
          rw [nlow_no (x.toNat : Int) (by omega)] at L
          clear h1
          by_cases h2 : x.toNat = 45
          · by_cases h3 : k = 0
            · have F := Lib.hid (NO.out (by rw [hlo, h3]; simp))
              subst h3
              clear NO YES h2 hlo hd
              go_wp2_with (go_at_call 25; refine (L.out _).mono ?_; rintro e w' ⟨rfl, rfl⟩)
              go_ret
              exact ⟨ret_b (by rw [HE.out, HR.out, F.out]), Nm.below_iter _ _ _⟩
            · have F := Lib.hid (YES.out (by rw [hlo, hd]; simp [h2, h3]))
              have d4 : ((k : Int) == 0) = false := by simp; omega
              have d3 : ((x.toNat : Int) != 45) = false := by simp [h2]
              clear NO YES h2 hlo hd
              go_wp2_with (go_at_call 25; refine (L.out _).mono ?_; rintro e w' ⟨rfl, rfl⟩)
              go_roundw
              case rel => exact ⟨k + 1, by omega, rfl, by rw [HR.out, F.out]⟩
              case measure => simp; omega
          · have F := Lib.hid (NO.out (by rw [hlo, hd]; simp [h2]))
            have d3 : ((x.toNat : Int) != 45) = true := by simp only [bne_iff_ne, ne_eq]; omega
            clear NO YES hlo hd h2
            by_cases h3 : k = 0
            · subst h3
              go_wp2_with (go_at_call 25; refine (L.out _).mono ?_; rintro e w' ⟨rfl, rfl⟩)
              go_ret
              exact ⟨ret_b (by rw [HE.out, HR.out, F.out]), Nm.below_iter _ _ _⟩
            · have d4 : ((k : Int) == 0) = false := by simp; omega
              go_wp2_with (go_at_call 25; refine (L.out _).mono ?_; rintro e w' ⟨rfl, rfl⟩)
              go_ret
              exact ⟨ret_b (by rw [HE.out, HR.out, F.out]), Nm.below_iter _ _ _⟩
      · have hnx := fun ty => run_next_any (P := Try.prog) w ⟨t.toArray⟩ k ty hlt2
        have hd := (decode_high ⟨t.toArray⟩ k hlt2 (by rw [hbx]; omega)).1
        have hlo := low_noI x (by omega)
        have hda := dash_ofI x
        have F := Lib.hid (NO.out (by rw [hlo, hda, decide_eq_false (by omega)]; rfl))
        generalize (Utf8.decode ⟨t.toArray⟩ k).1 = c at *
        generalize (Utf8.decode ⟨t.toArray⟩ k).2 = wd at *
        have L := Lib.hid (fun W => Nm.isLower_any (c : Int) W)
        rw [nlow_no (c : Int) (by omega)] at L
        have d3 : ((c : Int) != 45) = true := by simp only [bne_iff_ne, ne_eq]; omega
        clear NO YES hlo hda hx hb hbx ha
        by_cases h3 : k = 0
        · subst h3
          go_wp2_with (go_at_call 25; refine (L.out _).mono ?_; rintro e w' ⟨rfl, rfl⟩)
          go_ret
          exact ⟨ret_b (by rw [HE.out, HR.out, F.out]), Nm.below_iter _ _ _⟩
        · have d4 : ((k : Int) == 0) = false := by simp; omega
          go_wp2_with (go_at_call 25; refine (L.out _).mono ?_; rintro e w' ⟨rfl, rfl⟩)
          go_ret
          exact ⟨ret_b (by rw [HE.out, HR.out, F.out]), Nm.below_iter _ _ _⟩
    · obtain rfl : k = t.length := by omega
      have hnx := fun ty => run_next_end (P := Try.prog) w ⟨t.toArray⟩ t.length ty (by omega)
      go_wp2
      go_ret
      exact ⟨ret_b (by rw [HE.out, HR.out, List.drop_length]; rfl), Nm.below_iter _ _ _⟩
end Go.Proofs.Ytbkikbhnehjaaaa.Rn
