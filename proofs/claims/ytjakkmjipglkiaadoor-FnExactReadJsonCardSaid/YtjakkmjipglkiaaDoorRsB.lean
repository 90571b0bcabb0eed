
/-
  The model's reader of JSON, walked, go on: escape.
-/
import Derived.Test.YtjakkmjipglkiaaDoorRsA
import Derived.Test.YtjakkmjipglkiaaDoorRdQ
import Derived.Deep.DeepCutAuto
import Derived.Outline
namespace Go.Proofs.YtjakkmjipglkiaaDoor.Rd
open Go.RowKit
open Go.Proofs.YtjakkmjipglkiaaDoor.Rm
theorem cell8 (w : World) (T : TypeId) (k : Nat) (hk : k < 8) : (w.alloc (.cells #[.int .i64 34, .int .i64 92, .int .i64 47, .int .i64 8, .int .i64 12, .int .i64 10, .int .i64 13, .int .i64 9] T)).cell? ⟨w.heap.size, k, none⟩ = some (.int .i64 (escN.getD k 0)) := by
  have h := heap_alloc_new w (.cells #[.int .i64 34, .int .i64 92, .int .i64 47, .int .i64 8, .int .i64 12, .int .i64 10, .int .i64 13, .int .i64 9] T)
  rw [cell_of_row _ _ k _ _ _ h]
  have : ∀ m : Fin 8, (#[Value.int .i64 34, .int .i64 92, .int .i64 47, .int .i64 8, .int .i64 12, .int .i64 10, .int .i64 13, .int .i64 9] : Array Value)[m.val]? = some (.int .i64 (escN.getD m.val 0)) := by
    intro m
    match m with
    | ⟨0, _⟩ => rfl
    | ⟨1, _⟩ => rfl
    | ⟨2, _⟩ => rfl
    | ⟨3, _⟩ => rfl
    | ⟨4, _⟩ => rfl
    | ⟨5, _⟩ => rfl
    | ⟨6, _⟩ => rfl
    | ⟨7, _⟩ => rfl
  exact this ⟨k, hk⟩
theorem quiet_add {P : Program} {f : FuncId} {args : Array Value} {v : Value} {w : World} {a b : Nat} (h : ∀ w, Calls P f args w fun e w' => e = .returned v ∧ w' = w) : Calls P f args (w.drewN (a + b)) fun e w'' => e = .returned v ∧ ∃ n, w'' = w.drewN (a + n) :=
  (h _).mono fun _ _ ⟨he, hw⟩ => ⟨he, b, hw⟩
/-- what escape says: the byte or -1; the reader somewhere within the text, where it must be if there is a byte -/
def EscP (R : Nat) (t : B) (W : World) (res : Option (UInt8 × B)) (c : Int) (e : Ending) (w' : World) : Prop :=
  e = .returned (.int .i64 (byteI res)) ∧ ∃ p' rs', Hd w' R (rsO t p' c) ∧ At t p' rs' ∧ (∀ x r, res = some (x, r) → rs' = r) ∧ Ch (· = R) W w'
set_option maxRecDepth 100000 in
set_option maxHeartbeats 8000000 in
theorem escS_any (R : Nat) (t bs : B) (p : Nat) (W : World) (h : Hd W R (rsO t p 0)) (hp : At t p bs) (hl : t.length ≤ 65536) (res : Option (UInt8 × B)) (hres : escR bs = res) :
    Calls Tryd.prog 51 #[ptr R] W (EscP R t W res 0) := by
  obtain ⟨c0, c1, c2, cf⟩ := h.three
  have H := Lib.hid h
  have HP := Lib.hid hp
  have hlt := h.lt
  have hle := hp.le
  clear h
  cases bs with
  | nil =>
    obtain rfl := hp.nil
    have hres' : res = none := hres.symm
    subst hres'
    clear hp hres
    go_enter Tryd.func51, Tryd.ntmps51
    go_wp2
    go_quiet (fail)
    go_wp2
    go_ret
    exact ⟨rfl, t.length, [], H.out, HP.out, (fun x r h => by cases h), (Ch.refl _ _).drewN _⟩
  | cons c bs =>
    have hb := hp.byte
    have hq1 := hp.lt
    have hpl : ((p : Int) == (t.length : Int)) = false := by rw [beq_eq_false_iff_ne]; omega
    have hpn := hp.next
    have HF := Lib.hid (fun w => show Calls Tryd.prog 65 #[.string ⟨#[34, 92, 47, 98, 102, 110, 114, 116]⟩, .int .u8 (c.toNat : Int)] w fun e w' => e = .returned (.int .i64 (escI c)) ∧ w = w' from by
      have := Ul.find_any [34, 92, 47, 98, 102, 110, 114, 116] c.toNat w (by decide)
      rw [find_of] at this
      exact this)
    have HRES := Lib.hid hres
    clear hp hres
    go_enter Tryd.func51, Tryd.ntmps51
    go_wp2
    go_quiet (fail)
    obtain ⟨n1, hn1⟩ : ∃ n, n = nq := ⟨_, rfl⟩
    subst hn1
    go_wp2
    go_quiet (fail)
    go_upto_region 5 with fail
    have H1 := Lib.hid (show Hd ((W.drewN (n1 + nq)).setCell ⟨R, 1, none⟩ (.int .i64 ((p : Int) + 1))) R (rsO t (p + 1) 0) from H.out.set 1 _)
    have HC1 := Lib.hid (((Ch.refl (· = R) W).drewN (n1 + nq)).set (o := 1) (x := .int .i64 ((p : Int) + 1)) rfl)
    obtain ⟨w1, hw1⟩ : ∃ w1, w1 = (W.drewN (n1 + nq)).setCell ⟨R, 1, none⟩ (.int .i64 ((p : Int) + 1)) := ⟨_, rfl⟩
    rw [← hw1] at H1 HC1 ⊢
    clear hw1 c0 c1 c2 cf hb hpl hq1 hlt HP H
    obtain ⟨q, hq⟩ : ∃ q, p + 1 = q := ⟨_, rfl⟩
    rw [hq] at H1 hpn
    have hqt : q ≤ t.length := hpn.le
    clear hq hle
    obtain ⟨c0, c1, c2, cf⟩ := H1.out.three
    have hlt := H1.out.lt
    have hqlen := hpn.len
    by_cases hi : escI c < 8
    · have e : res = some (escV.getD (escI c) 0, bs) := by rw [← HRES.out]; simp only [escR]; rw [if_pos hi]
      subst e
      have HA := Lib.hid hpn
      have hcell := fun (w : World) => cell8 w 99 (escI c) hi
      have HN := Lib.hid (escN_at ⟨escI c, hi⟩)
      have HN2 := Lib.hid (show escN.getD (escI c) 0 = byteI (some (escV.getD (escI c) 0, bs)) from HN.out)
      have HFN := Lib.hid (show ∀ w', w' = w1.alloc (.cells #[.int .i64 34, .int .i64 92, .int .i64 47, .int .i64 8, .int .i64 12, .int .i64 10, .int .i64 13, .int .i64 9] 3) → EscP R t W (some (escV.getD (escI c) 0, bs)) 0 (.returned (.int .i64 (escN.getD (escI c) 0))) w' from fun w' e => by
        subst e
        exact ⟨by rw [HN2.out], q, bs, H1.out.al _, HA.out, (fun x r h => by cases h; rfl), HC1.out.alloc _⟩)
      have hcell1 := cell8 w1 3 (escI c) hi
      have hk8 : escI c < 8 := hi
      clear hcell HN HN2 hpn HRES
      generalize escN.getD (escI c) 0 = y at *
      generalize escV.getD (escI c) 0 = z at *
      generalize escI c = k at *
      go_wp2_with fail
      refine (HF.out _).mono ?_
      rintro e w2 ⟨rfl, rfl⟩
      go_wp2
      go_ret
      exact HFN.out _ rfl
    · have e : escR (c :: bs) = if c = 117 then hexR bs else none := by simp only [escR]; rw [if_neg hi]
      have hres := HRES.out
      rw [e] at hres
      have hi8 : escI c = 8 := by have := escI_le c; omega
      rw [hi8] at HF
      clear e hi hi8 HRES
      have HBAD := Lib.hid (show ∀ n, res = none → EscP R t W res 0 (.returned (.int .i64 (-1))) (w1.drewN n) from fun n e => by
        subst e
        exact ⟨rfl, q, bs, H1.out, hpn, (fun x r h => by cases h), HC1.out.drewN _⟩)
      by_cases h117 : c = 117
      · subst h117
        rw [if_pos rfl] at hres
        have g117 : (((117 : UInt8).toNat : Int) != 117) = false := by decide
        by_cases h4 : bs.length < 4
        · have hn : res = none := by
            rw [← hres]; unfold hexR
            rw [if_neg (by simp; omega)]
          have HB := Lib.hid (fun n => HBAD.out n hn)
          have g4 : decide ((t.length : Int) < (q : Int) + 4) = true := by simp; omega
          clear hres hn hpn
          go_wp2_with fail
          refine (HF.out _).mono ?_
          rintro e w2 ⟨rfl, rfl⟩
          go_wp2
          go_quiet (fail)
          go_wp2
          go_ret
          exact HB.out _
        · have g4 : decide ((t.length : Int) < (q : Int) + 4) = false := by simp; omega
          have hex := slice_at hpn 2
          obtain ⟨a0, b0, a, b, r, rfl⟩ : ∃ a0 b0 a b r, bs = a0 :: b0 :: a :: b :: r := by
            match bs, h4 with
            | a0 :: b0 :: a :: b :: r, _ => exact ⟨a0, b0, a, b, r, rfl⟩
            | [], h4 => simp at h4
            | [_], h4 => simp at h4
            | [_, _], h4 => simp at h4
            | [_, _, _], h4 => simp at h4
          have hex2 : (⟨t.toArray⟩ : ByteArray).extract q (q + 2) = ⟨[a0, b0].toArray⟩ := hex
          clear hex
          by_cases h00 : a0 = 48 ∧ b0 = 48
          · obtain ⟨rfl, rfl⟩ := h00
            have hpa := hpn.next.next
            have hpb := hpa.next
            have hba : ∀ h' : q + 2 < (⟨t.toArray⟩ : ByteArray).size, (⟨t.toArray⟩ : ByteArray)[q + 2] = a := hpa.byte
            have hbb : ∀ h' : q + 3 < (⟨t.toArray⟩ : ByteArray).size, (⟨t.toArray⟩ : ByteArray)[q + 3] = b := hpb.byte
            have hqa : q + 2 < t.length := hpa.lt
            have hqb : q + 3 < t.length := hpb.lt
            have HDA := Lib.hid (fun w => show Calls Tryd.prog 66 #[.int .u8 a.toNat] w fun e w' => e = .returned (.int .i64 (hexI a)) ∧ w' = w from (digit_hex a w).mono fun e w' ⟨h1, h2⟩ => ⟨h1, h2.symm⟩)
            have HDB := Lib.hid (fun w => show Calls Tryd.prog 66 #[.int .u8 b.toNat] w fun e w' => e = .returned (.int .i64 (hexI b)) ∧ w' = w from (digit_hex b w).mono fun e w' ⟨h1, h2⟩ => ⟨h1, h2.symm⟩)
            have HPE := Lib.hid (show At t (q + 4) r from hpb.next)
            have hra : -1 ≤ hexI a ∧ hexI a ≤ 15 := by rcases hexI_cases a with h | h | h | h <;> omega
            have hrb : -1 ≤ hexI b ∧ hexI b ≤ 15 := by rcases hexI_cases b with h | h | h | h <;> omega
            have HRES := Lib.hid (show res = if hexI a < 0 ∨ hexI b < 0 then none else some (UInt8.ofNat (16 * (hexI a).toNat + (hexI b).toNat), r) from by
              rw [← hres]
              unfold hexR
              rw [if_pos (by simp [Lib.hasPrefix])]
              simp only [List.getD_cons_succ, List.getD_cons_zero, List.drop_succ_cons, List.drop_zero]
              unfold hexI
              cases hexV a <;> cases hexV b <;> simp)
            obtain ⟨q2, hq2⟩ : ∃ q2, q + 2 = q2 := ⟨_, rfl⟩
            obtain ⟨q3, hq3⟩ : ∃ q3, q + 3 = q3 := ⟨_, rfl⟩
            have he2 : (q : Int) + 2 = (q2 : Int) := by omega
            have he3 : (q : Int) + 3 = (q3 : Int) := by omega
            have hl2 : q2 < t.length := by omega
            have hl3 : q3 < t.length := by omega
            have hba2 : ∀ h' : q2 < (⟨t.toArray⟩ : ByteArray).size, (⟨t.toArray⟩ : ByteArray)[q2] = a := by subst hq2; exact hba
            have hbb3 : ∀ h' : q3 < (⟨t.toArray⟩ : ByteArray).size, (⟨t.toArray⟩ : ByteArray)[q3] = b := by subst hq3; exact hbb
            have HQT := Lib.hid hqb
            rw [hq2] at hex2
            have hqq : q ≤ q2 := by omega
            have hwq2 : IntKind.i64.wrap (q2 : Int) = (q2 : Int) := IntWalk.i64_in _ ⟨by omega, by omega⟩
            have hwq3 : IntKind.i64.wrap (q3 : Int) = (q3 : Int) := IntWalk.i64_in _ ⟨by omega, by omega⟩
            clear hres HBAD hpn hpa hpb hba hbb hq2 hq3 hqa hqb
            generalize hexI a = va at *
            generalize hexI b = vb at *
            go_wp2_with fail
            refine (HF.out _).mono ?_
            rintro e w2 ⟨rfl, rfl⟩
            go_wp2
            go_quiet (fail)
            go_wp2
            go_quiet ((go_at_call 66; exact quiet_add HDA.out))
            go_wp2
            go_quiet ((go_at_call 66; exact quiet_add HDB.out))
            have HFIN := Lib.hid (show ∀ n v, v = byteI res → EscP R t W res 0 (.returned (.int .i64 v)) ((w1.drewN n).setCell ⟨R, 1, none⟩ (.int .i64 ((q : Int) + 4))) from fun n v e => by
              subst e
              exact ⟨rfl, q + 4, r, H1.out.set 1 _, HPE.out, (fun x r' h => by
                rw [HRES.out] at h
                split at h
                · cases h
                · simp only [Option.some.injEq, Prod.mk.injEq] at h
                  exact h.2), (HC1.out.drewN _).set rfl⟩)
            by_cases hva : va < 0
            · have HV := Lib.hid (show (-1 : Int) = byteI res from by rw [HRES.out, if_pos (.inl hva)]; rfl)
              go_wp2
              go_ret
              exact HFIN.out _ _ HV.out
            · by_cases hvb : vb < 0
              · have HV := Lib.hid (show (-1 : Int) = byteI res from by rw [HRES.out, if_pos (.inr hvb)]; rfl)
                go_wp2
                go_ret
                exact HFIN.out _ _ HV.out
              · have HV := Lib.hid (show 16 * va + vb = byteI res from by
                  rw [HRES.out, if_neg (by omega)]
                  show _ = ((UInt8.ofNat (16 * va.toNat + vb.toNat)).toNat : Int)
                  rw [u8_of (by omega)]
                  omega)
                go_wp2
                go_ret
                exact HFIN.out _ _ HV.out
          · have hn : res = none := by
              rw [← hres]; unfold hexR
              rw [if_neg]
              simp only [Lib.hasPrefix, List.isPrefixOf, Bool.and_true, Bool.and_eq_true, beq_iff_eq, decide_eq_true_eq, not_and]
              intro h1
              exact absurd ⟨h1.1.symm, h1.2.symm⟩ h00
            have HB := Lib.hid (fun n => HBAD.out n hn)
            have hne2 : ([a0, b0] == [(48 : UInt8), 48]) = false := by
              rw [beq_eq_false_iff_ne]
              intro e
              simp only [List.cons.injEq, and_true] at e
              exact h00 e
            clear hres hn hpn HBAD h00
            generalize [a0, b0] = u at *
            go_wp2_with fail
            refine (HF.out _).mono ?_
            rintro e w2 ⟨rfl, rfl⟩
            go_wp2
            go_quiet (fail)
            go_wp2
            go_ret
            exact HB.out _
      · rw [if_neg h117] at hres
        have g117 : ((c.toNat : Int) != 117) = true := by
          simp only [bne_iff_ne, ne_eq]
          intro e2
          exact h117 (by rw [← UInt8.toNat_inj]; simp; omega)
        have HB := Lib.hid (fun n => HBAD.out n hres.symm)
        clear hres hpn HBAD
        go_wp2_with fail
        refine (HF.out _).mono ?_
        rintro e w2 ⟨rfl, rfl⟩
        go_wp2
        go_quiet (fail)
        go_wp2
        go_ret
        exact HB.out _
end Go.Proofs.YtjakkmjipglkiaaDoor.Rd
