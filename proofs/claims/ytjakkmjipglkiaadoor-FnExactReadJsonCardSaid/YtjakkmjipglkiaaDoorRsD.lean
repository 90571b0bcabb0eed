
/-
  The model's reader of JSON, walked, go on: number.
-/
import Derived.Test.YtjakkmjipglkiaaDoorRsC
import Derived.Test.YtjakkmjipglkiaaDoorRdN
namespace Go.Proofs.YtjakkmjipglkiaaDoor.Rd
open Go.RowKit
open Go.Proofs.YtjakkmjipglkiaaDoor.Rm
set_option maxRecDepth 100000 in
theorem dig_256 : ∀ n : Fin 256, digS.contains (UInt8.ofNat n.val) = decide (48 ≤ n.val ∧ n.val ≤ 57) := by decide
theorem dig_of (x : UInt8) : digS.contains x = decide (48 ≤ x.toNat ∧ x.toNat ≤ 57) := by
  have := dig_256 ⟨x.toNat, x.toNat_lt⟩
  simpa using this
theorem digs_yes {x : UInt8} {us : B} (h : 48 ≤ x.toNat ∧ x.toNat ≤ 57) : Lib.trimLeftS (x :: us) digS = Lib.trimLeftS us digS := by
  unfold Lib.trimLeftS
  rw [List.dropWhile_cons, if_pos (by rw [dig_of]; simpa using h)]
theorem digs_no {x : UInt8} {us : B} (h : ¬ (48 ≤ x.toNat ∧ x.toNat ≤ 57)) : Lib.trimLeftS (x :: us) digS = x :: us := by
  unfold Lib.trimLeftS
  rw [List.dropWhile_cons, if_neg (by rw [dig_of]; simpa using h)]
/-- what number says -/
def NuP (R : Nat) (t : B) (W : World) (res : Int × Int × B) (e : Ending) (w' : World) : Prop :=
  ∃ v p' rs', e = .returned (.int .i64 v) ∧ Hd w' R (rsO t p' res.1) ∧ At t p' rs' ∧ (res.1 = 0 → v = res.2.1 ∧ rs' = res.2.2) ∧ (-9223372036854775808 ≤ v ∧ v ≤ 9223372036854775807) ∧ Ch (· = R) W w'
theorem numT_at {t bs us : B} {p k : Nat} (hp : At t p bs) (hk : At t k us) (hpk : p ≤ k) (hb : behindN bs = us) : (⟨t.toArray⟩ : ByteArray).extract p k = ⟨(numT bs).toArray⟩ := by
  have h1 := hp.len
  have h2 := hk.len
  have e := slice_at hp (k - p)
  rw [show p + (k - p) = k by omega] at e
  rw [e]
  unfold numT
  rw [hb, show bs.length - us.length = k - p by omega]
set_option maxRecDepth 100000 in
set_option maxHeartbeats 8000000 in
/-- from the place behind the sign on -/
theorem numS_core (R : Nat) (t bs : B) (p : Nat) (W : World) (h : Hd W R (rsO t p 0)) (hp : At t p bs) (hl : t.length ≤ 65536) (k0 : Nat) (us0 : B) (hk0 : At t k0 us0) (hpk : p ≤ k0) (hb0 : behindN bs = Lib.trimLeftS us0 digS)
    (hs0 : (p < t.length ∧ (∃ x, (∀ h' : p < (⟨t.toArray⟩ : ByteArray).size, (⟨t.toArray⟩ : ByteArray)[p] = x) ∧ ((x = 45 ∧ k0 = p + 1) ∨ (((x.toNat : Int) == 45) = false ∧ k0 = p)))) ∨ (p = t.length ∧ k0 = p)) :
    Calls Tryd.prog 34 #[ptr R] W (NuP R t W (numR bs)) := by
  obtain ⟨c0, c1, c2, cf⟩ := h.three
  have H := Lib.hid h
  have hlt := h.lt
  have hle := hp.le
  have HP := Lib.hid hp
  have HK0 := Lib.hid hk0
  have HB0 := Lib.hid hb0
  have HNR := Lib.hid (show numR bs = if Ul.numB (numT bs) then (if rangeB (Ul.numV (numT bs)) then (0, Ul.numV (numT bs), behindN bs) else (4, 0, behindN bs)) else (3, 0, behindN bs) from rfl)
  have HNL := Lib.hid (show (numT bs).length ≤ 65536 from by unfold numT; have := hp.len; simp; omega)
  have HDG := Lib.hid (fun (x : UInt8) (r : Bool) (hr : decide (48 ≤ x.toNat ∧ x.toNat ≤ 57) = r) (w : World) => show Calls Tryd.prog 53 #[.int .u8 (x.toNat : Int)] w fun e w' => e = .returned (.bool r) ∧ w = w' from by
    have := Ul.digit_any (x.toNat : Int) w
    rwa [show decide ((48 : Int) ≤ x.toNat ∧ (x.toNat : Int) ≤ 57) = r by rw [← hr]; congr 1; apply propext; omega] at this)
  have HEND := Lib.hid (fun (k : Nat) (us : B) (hk : At t k us) (hpk : p ≤ k) (hb : behindN bs = us) => numT_at hp hk hpk hb)
  clear h hp hk0 hb0
  have hgo : (p < t.length ∧ (∃ x, (∀ h' : p < (⟨t.toArray⟩ : ByteArray).size, (⟨t.toArray⟩ : ByteArray)[p] = x) ∧ ((((x.toNat : Int) == 45) = true ∧ k0 = p + 1) ∨ (((x.toNat : Int) == 45) = false ∧ k0 = p)))) ∨ (p = t.length ∧ k0 = p) := by
    rcases hs0 with ⟨a, x, hx, ⟨rfl, e⟩ | ⟨e1, e⟩⟩ | h
    · exact .inl ⟨a, 45, hx, .inl ⟨by decide, e⟩⟩
    · exact .inl ⟨a, x, hx, .inr ⟨e1, e⟩⟩
    · exact .inr h
  clear hs0
  rcases hgo with ⟨hlt0, x, hx, ⟨hx45, hke⟩ | ⟨hx45, hke⟩⟩ | ⟨hpt, hke⟩
  rotate_left
  rotate_left
  · have HPT := Lib.hid hpt
    have HKE := Lib.hid hke
    have g0 : ¬ p < t.length := by omega
    clear hpt hke
    go_enter Tryd.func34, Tryd.ntmps34
    go_wp2_with fail
    go_loopw [3] (fun kv wr => ∃ (k : Nat) (us : B), kv = .int .i64 (k : Int) ∧ At t k us ∧ p ≤ k ∧ behindN bs = Lib.trimLeftS us digS ∧ W = wr) (fun kv _ => t.length - (intOf kv).toNat)
    case atStart => exact ⟨k0, us0, by rw [HKE.out] <;> rfl, HK0.out, hpk, HB0.out, rfl⟩
    case round =>
      obtain ⟨k, us, rfl, hq, hpk1, hB, rfl⟩ := hrel
      have HQ := Lib.hid hq
      cases us with
      | nil =>
          obtain rfl := hq.nil
          have HBB := Lib.hid (show behindN bs = [] from hB)
          clear hq hB HK0
          have hex := HEND.out t.length [] HQ.out hpk1 HBB.out
          have HA := Lib.hid (show At t t.length (behindN bs) from HBB.out ▸ HQ.out)
          have HNN := Lib.hid (fun (w : World) => show Calls Tryd.prog 54 #[.string ⟨(numT bs).toArray⟩] w fun e w' => e = .returned (.tuple #[.int .i64 (Ul.numV (numT bs)), .bool (Ul.numB (numT bs))]) ∧ w' = w from (Ul.numS_any (numT bs) w (by have := HNL.out; omega)).mono fun e w' ⟨a, b⟩ => ⟨a, b.symm⟩)
          have HIN := Lib.hid (fun (w : World) => show Calls Tryd.prog 55 #[.int .i64 (Ul.numV (numT bs)), .int .i64 (-999999999), .int .i64 999999999] w fun e w' => e = .returned (.bool (rangeB (Ul.numV (numT bs)))) ∧ w = w' from Ul.in_any (Ul.numV (numT bs)) (-999999999) 999999999 w)
          have HRG := Lib.hid (show rangeB (Ul.numV (numT bs)) = true → (-9223372036854775808 ≤ Ul.numV (numT bs) ∧ Ul.numV (numT bs) ≤ 9223372036854775807) from fun h => by simp only [rangeB, decide_eq_true_eq] at h; omega)
          have HNR := HNR
          clear HBB HB0 HNL HEND HDG
          generalize numR bs = res at *
          generalize behindN bs = be at *
          generalize numT bs = nt at *
          generalize Ul.numV nt = nv at *
          generalize rangeB nv = r1 at *
          generalize Ul.numB nt = r2 at *
          go_wp2
          go_quiet ((go_at_call 54; exact Calls.quiet_of_same (HNN.out _)))
          have HF3 := Lib.hid (fail_any R t p 0 3 (W.drewN nq) (H.out.drewN nq))
          have HF4 := Lib.hid (fail_any R t p 0 4 (W.drewN nq) (H.out.drewN nq))
          cases r2 with
          | false =>
            go_wp2_with fail
            refine HF3.out.mono ?_
            rintro e w2 ⟨rfl, h2, hc2⟩
            have HT := Lib.hid (show NuP R t W res (.returned (.int .i64 0)) w2 from ⟨0, p, bs, rfl, by rw [HNR.out]; exact h2, HP.out, (fun h => by rw [HNR.out] at h; cases h), by decide, ((Ch.refl _ _).drewN _).trans hc2⟩)
            clear h2 hc2
            go_wp2
            go_ret
            exact HT.out
          | true =>
            go_wp2_with fail
            refine (HIN.out _).mono ?_
            rintro e w2 ⟨rfl, rfl⟩
            cases r1 with
            | false =>
              go_wp2_with fail
              refine HF4.out.mono ?_
              rintro e w2 ⟨rfl, h2, hc2⟩
              have HT := Lib.hid (show NuP R t W res (.returned (.int .i64 0)) w2 from ⟨0, p, bs, rfl, by rw [HNR.out]; exact h2, HP.out, (fun h => by rw [HNR.out] at h; cases h), by decide, ((Ch.refl _ _).drewN _).trans hc2⟩)
              clear h2 hc2
              go_wp2
              go_ret
              exact HT.out
            | true =>
              have HT := Lib.hid (show NuP R t W res (.returned (.int .i64 nv)) ((W.drewN nq).setCell ⟨R, 1, none⟩ (.int .i64 (t.length : Int))) from by
                rw [HNR.out]
                exact ⟨nv, t.length, be, rfl, H.out.set 1 _, HA.out, (fun _ => ⟨rfl, rfl⟩), HRG.out rfl, ((Ch.refl _ _).drewN _).set rfl⟩)
              go_wp2
              go_ret
              exact HT.out
      | cons y us =>
        exfalso
        have := hq.lt
        have := HPT.out
        omega
  all_goals
    have HKE := Lib.hid hke
    clear hke
    go_enter Tryd.func34, Tryd.ntmps34
    go_wp2_with fail
    go_loopw [3] (fun kv wr => ∃ (k : Nat) (us : B), kv = .int .i64 (k : Int) ∧ At t k us ∧ p ≤ k ∧ behindN bs = Lib.trimLeftS us digS ∧ W = wr) (fun kv _ => t.length - (intOf kv).toNat)
    case atStart => exact ⟨k0, us0, by rw [HKE.out] <;> rfl, HK0.out, hpk, HB0.out, rfl⟩
    case round =>
      obtain ⟨k, us, rfl, hq, hpk1, hB, rfl⟩ := hrel
      have HQ := Lib.hid hq
      cases us with
      | nil =>
          obtain rfl := hq.nil
          have HBB := Lib.hid (show behindN bs = [] from hB)
          clear hq hB HK0
          have hex := HEND.out t.length [] HQ.out hpk1 HBB.out
          have HA := Lib.hid (show At t t.length (behindN bs) from HBB.out ▸ HQ.out)
          have HNN := Lib.hid (fun (w : World) => show Calls Tryd.prog 54 #[.string ⟨(numT bs).toArray⟩] w fun e w' => e = .returned (.tuple #[.int .i64 (Ul.numV (numT bs)), .bool (Ul.numB (numT bs))]) ∧ w' = w from (Ul.numS_any (numT bs) w (by have := HNL.out; omega)).mono fun e w' ⟨a, b⟩ => ⟨a, b.symm⟩)
          have HIN := Lib.hid (fun (w : World) => show Calls Tryd.prog 55 #[.int .i64 (Ul.numV (numT bs)), .int .i64 (-999999999), .int .i64 999999999] w fun e w' => e = .returned (.bool (rangeB (Ul.numV (numT bs)))) ∧ w = w' from Ul.in_any (Ul.numV (numT bs)) (-999999999) 999999999 w)
          have HRG := Lib.hid (show rangeB (Ul.numV (numT bs)) = true → (-9223372036854775808 ≤ Ul.numV (numT bs) ∧ Ul.numV (numT bs) ≤ 9223372036854775807) from fun h => by simp only [rangeB, decide_eq_true_eq] at h; omega)
          have HNR := HNR
          clear HBB HB0 HNL HEND HDG
          generalize numR bs = res at *
          generalize behindN bs = be at *
          generalize numT bs = nt at *
          generalize Ul.numV nt = nv at *
          generalize rangeB nv = r1 at *
          generalize Ul.numB nt = r2 at *
          go_wp2
          go_quiet ((go_at_call 54; exact Calls.quiet_of_same (HNN.out _)))
          have HF3 := Lib.hid (fail_any R t p 0 3 (W.drewN nq) (H.out.drewN nq))
          have HF4 := Lib.hid (fail_any R t p 0 4 (W.drewN nq) (H.out.drewN nq))
          cases r2 with
          | false =>
            go_wp2_with fail
            refine HF3.out.mono ?_
            rintro e w2 ⟨rfl, h2, hc2⟩
            have HT := Lib.hid (show NuP R t W res (.returned (.int .i64 0)) w2 from ⟨0, p, bs, rfl, by rw [HNR.out]; exact h2, HP.out, (fun h => by rw [HNR.out] at h; cases h), by decide, ((Ch.refl _ _).drewN _).trans hc2⟩)
            clear h2 hc2
            go_wp2
            go_ret
            exact HT.out
          | true =>
            go_wp2_with fail
            refine (HIN.out _).mono ?_
            rintro e w2 ⟨rfl, rfl⟩
            cases r1 with
            | false =>
              go_wp2_with fail
              refine HF4.out.mono ?_
              rintro e w2 ⟨rfl, h2, hc2⟩
              have HT := Lib.hid (show NuP R t W res (.returned (.int .i64 0)) w2 from ⟨0, p, bs, rfl, by rw [HNR.out]; exact h2, HP.out, (fun h => by rw [HNR.out] at h; cases h), by decide, ((Ch.refl _ _).drewN _).trans hc2⟩)
              clear h2 hc2
              go_wp2
              go_ret
              exact HT.out
            | true =>
              have HT := Lib.hid (show NuP R t W res (.returned (.int .i64 nv)) ((W.drewN nq).setCell ⟨R, 1, none⟩ (.int .i64 (t.length : Int))) from by
                rw [HNR.out]
                exact ⟨nv, t.length, be, rfl, H.out.set 1 _, HA.out, (fun _ => ⟨rfl, rfl⟩), HRG.out rfl, ((Ch.refl _ _).drewN _).set rfl⟩)
              go_wp2
              go_ret
              exact HT.out
      | cons y us =>
        have hb := hq.byte
        have hq1 := hq.lt
        by_cases hd : 48 ≤ y.toNat ∧ y.toNat ≤ 57
        · rw [digs_yes hd] at hB
          have HB2 := Lib.hid hB
          have HD := Lib.hid (HDG.out y true (by simpa using hd))
          have HQN := Lib.hid hq.next
          clear hq hB hd
          go_wp2_with fail
          refine (HD.out _).mono ?_
          rintro e w2 ⟨rfl, rfl⟩
          go_wp2
          go_roundw
          case rel => exact ⟨k + 1, us, by go_num, HQN.out, by omega, HB2.out, trivial⟩
          case measure => simp [intOf]; omega
        · rw [digs_no hd] at hB
          have HBB := Lib.hid hB
          have HD := Lib.hid (HDG.out y false (by simpa using hd))
          clear hq hB hd HK0
          go_wp2_with fail
          refine (HD.out _).mono ?_
          rintro e w2 ⟨rfl, rfl⟩
          have hex := HEND.out k (y :: us) HQ.out hpk1 HBB.out
          have HA := Lib.hid (show At t k (behindN bs) from HBB.out ▸ HQ.out)
          have HNN := Lib.hid (fun (w : World) => show Calls Tryd.prog 54 #[.string ⟨(numT bs).toArray⟩] w fun e w' => e = .returned (.tuple #[.int .i64 (Ul.numV (numT bs)), .bool (Ul.numB (numT bs))]) ∧ w' = w from (Ul.numS_any (numT bs) w (by have := HNL.out; omega)).mono fun e w' ⟨a, b⟩ => ⟨a, b.symm⟩)
          have HIN := Lib.hid (fun (w : World) => show Calls Tryd.prog 55 #[.int .i64 (Ul.numV (numT bs)), .int .i64 (-999999999), .int .i64 999999999] w fun e w' => e = .returned (.bool (rangeB (Ul.numV (numT bs)))) ∧ w = w' from Ul.in_any (Ul.numV (numT bs)) (-999999999) 999999999 w)
          have HRG := Lib.hid (show rangeB (Ul.numV (numT bs)) = true → (-9223372036854775808 ≤ Ul.numV (numT bs) ∧ Ul.numV (numT bs) ≤ 9223372036854775807) from fun h => by simp only [rangeB, decide_eq_true_eq] at h; omega)
          have HNR := HNR
          clear HBB HB0 HNL HEND HDG
          generalize numR bs = res at *
          generalize behindN bs = be at *
          generalize numT bs = nt at *
          generalize Ul.numV nt = nv at *
          generalize rangeB nv = r1 at *
          generalize Ul.numB nt = r2 at *
          go_wp2
          go_quiet ((go_at_call 54; exact Calls.quiet_of_same (HNN.out _)))
          have HF3 := Lib.hid (fail_any R t p 0 3 (W.drewN nq) (H.out.drewN nq))
          have HF4 := Lib.hid (fail_any R t p 0 4 (W.drewN nq) (H.out.drewN nq))
          cases r2 with
          | false =>
            go_wp2_with fail
            refine HF3.out.mono ?_
            rintro e w2 ⟨rfl, h2, hc2⟩
            have HT := Lib.hid (show NuP R t W res (.returned (.int .i64 0)) w2 from ⟨0, p, bs, rfl, by rw [HNR.out]; exact h2, HP.out, (fun h => by rw [HNR.out] at h; cases h), by decide, ((Ch.refl _ _).drewN _).trans hc2⟩)
            clear h2 hc2
            go_wp2
            go_ret
            exact HT.out
          | true =>
            go_wp2_with fail
            refine (HIN.out _).mono ?_
            rintro e w2 ⟨rfl, rfl⟩
            cases r1 with
            | false =>
              go_wp2_with fail
              refine HF4.out.mono ?_
              rintro e w2 ⟨rfl, h2, hc2⟩
              have HT := Lib.hid (show NuP R t W res (.returned (.int .i64 0)) w2 from ⟨0, p, bs, rfl, by rw [HNR.out]; exact h2, HP.out, (fun h => by rw [HNR.out] at h; cases h), by decide, ((Ch.refl _ _).drewN _).trans hc2⟩)
              clear h2 hc2
              go_wp2
              go_ret
              exact HT.out
            | true =>
              have HT := Lib.hid (show NuP R t W res (.returned (.int .i64 nv)) ((W.drewN nq).setCell ⟨R, 1, none⟩ (.int .i64 (k : Int))) from by
                rw [HNR.out]
                exact ⟨nv, k, be, rfl, H.out.set 1 _, HA.out, (fun _ => ⟨rfl, rfl⟩), HRG.out rfl, ((Ch.refl _ _).drewN _).set rfl⟩)
              go_wp2
              go_ret
              exact HT.out
set_option maxRecDepth 100000 in
theorem numS_all (R : Nat) (t bs : B) (p : Nat) (W : World) (h : Hd W R (rsO t p 0)) (hp : At t p bs) (hl : t.length ≤ 65536) :
    Calls Tryd.prog 34 #[ptr R] W (NuP R t W (numR bs)) := by
  cases bs with
  | nil => exact numS_core R t [] p W h hp hl p [] hp (Nat.le_refl _) rfl (.inr ⟨hp.nil, rfl⟩)
  | cons x rs =>
    by_cases hx : x = 45
    · subst hx
      exact numS_core R t _ p W h hp hl (p + 1) rs hp.next (Nat.le_succ _) (by unfold behindN Lib.trimPrefix; simp [Lib.hasPrefix]) (.inl ⟨hp.lt, 45, hp.byte, .inl ⟨rfl, rfl⟩⟩)
    · exact numS_core R t _ p W h hp hl p (x :: rs) hp (Nat.le_refl _) (by unfold behindN Lib.trimPrefix; rw [if_neg (by simp [Lib.hasPrefix]; exact fun h => hx h.symm)]) (.inl ⟨hp.lt, x, hp.byte, .inr ⟨n8 (k := 45) (by decide) hx, rfl⟩⟩)
end Go.Proofs.YtjakkmjipglkiaaDoor.Rd
