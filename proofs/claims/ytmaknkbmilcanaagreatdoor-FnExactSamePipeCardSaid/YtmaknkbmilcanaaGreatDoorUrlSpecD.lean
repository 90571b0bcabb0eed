
/-
  The walks of the model's functions of chapter 2 that ask whether a URL is well formed, and of those that hand out its text, its origin, what is left when it is stripped.
-/
import Derived.Test.YtmaknkbmilcanaaGreatDoorUrlSpecA
import Derived.Deep.DeepCutAuto
namespace Go.Proofs.YtmaknkbmilcanaaGreatDoor.Ul
open Go.RowKit
theorem quiet_left {P : Program} {f : FuncId} {args : Array Value} {w : World} {n : Nat} {v : Value}
    (h : Calls P f args (w.drewN n) fun e w' => e = .returned v ∧ w.drewN n = w') : Calls P f args (w.drewN n) fun e w'' => e = .returned v ∧ ∃ m, w'' = w.drewN m :=
  h.mono fun _ _ ⟨he, hm⟩ => ⟨he, n, hm.symm⟩
theorem below_drewN {B : Nat} {a w : World} (h : Below B a w) (n : Nat) : Below B a (w.drewN n) := ⟨h.os, h.tape, h.output, h.size, h.block⟩
set_option maxRecDepth 100000 in
set_option maxHeartbeats 16000000 in
theorem ok_any (s us h pa q f : List UInt8) (p : Int) (hq hf : Bool) (w : World) (hp1 : p ≤ 9223372036854775807) (hl : s.length + us.length + h.length + pa.length + q.length + f.length ≤ 4611686018427387904) :
    Calls Tryz.prog 303 #[.agg #[.string ⟨s.toArray⟩, .string ⟨us.toArray⟩, .string ⟨h.toArray⟩, .int .i64 p, .string ⟨pa.toArray⟩, .string ⟨q.toArray⟩, .string ⟨f.toArray⟩, .bool hq, .bool hf]] w fun e w' => e = .returned (.bool (okB ⟨s, us, h, p, pa, q, f, hq, hf⟩)) ∧ Below w.heap.size w w' := by
  have HT0 : ∀ (q' f' : List UInt8) (hq' hf' : Bool), q' = q → f' = f → hq' = hq → hf' = hf → ∀ W : World, Calls Tryz.prog 261 #[.agg #[.string ⟨s.toArray⟩, .string ⟨us.toArray⟩, .string ⟨h.toArray⟩, .int .i64 p, .string ⟨pa.toArray⟩, .string ⟨q'.toArray⟩, .string ⟨f'.toArray⟩, .bool hq', .bool hf']] W fun e w' => e = .returned (.string ⟨(textL ⟨s, us, h, p, pa, q, f, hq, hf⟩).toArray⟩) ∧ Below W.heap.size W w' := by
    rintro q' f' hq' hf' rfl rfl rfl rfl W
    exact text_any ⟨s, us, h, p, pa, q', f', hq', hf'⟩ W hp1 (by simp only [sizeU]; omega)
  have OKB0 := okB_eq s us h pa q f p hq hf
  have hlen := textL_len ⟨s, us, h, p, pa, q, f, hq, hf⟩ hp1
  simp only [sizeU] at hlen
  generalize textL ⟨s, us, h, p, pa, q, f, hq, hf⟩ = tl at *
  generalize okB ⟨s, us, h, p, pa, q, f, hq, hf⟩ = okv at *
  have L1 : decide ((100 : Int) < (tl.length : Int)) = !decide (tl.length ≤ 100) := by rw [Bool.eq_iff_iff]; simp; omega
  generalize decide (tl.length ≤ 100) = lb at *
  have HL := Lib.hid L1
  have HT := Lib.hid HT0
  have OKB := Lib.hid OKB0
  clear HT0 OKB0 L1
  go_enter Tryz.func303, Tryz.ntmps303
  go_upto_region 1 with fail
  go_cut [0, 50] (fun _ st wx => st = .bool (!(schemeB s && ((hq || q == []) && (hf || f == [])) && onlyB pa [63, 35] && onlyB q [35] && onlyB f [] && lb)) ∧ wx.cell? ⟨w.heap.size, 0, none⟩ = some (.string ⟨s.toArray⟩) ∧ wx.cell? ⟨w.heap.size, 1, none⟩ = some (.string ⟨us.toArray⟩) ∧ wx.cell? ⟨w.heap.size, 2, none⟩ = some (.string ⟨h.toArray⟩) ∧ wx.cell? ⟨w.heap.size, 3, none⟩ = some (.int .i64 p) ∧ wx.cell? ⟨w.heap.size, 4, none⟩ = some (.string ⟨pa.toArray⟩) ∧ wx.cell? ⟨w.heap.size, 7, none⟩ = some (.bool hq) ∧ wx.cell? ⟨w.heap.size, 8, none⟩ = some (.bool hf) ∧ Below w.heap.size w wx)
  case first =>
    go_wp2_with (first
        | (go_at_call 342; refine (scheme_any _ _ (by omega)).mono ?_; rintro e w' ⟨rfl, rfl⟩)
        | (go_at_call 343; refine (only_any _ _ _ (by first | omega | simp) (by decide)).mono ?_; rintro e w' ⟨rfl, rfl⟩)
        | (go_at_call 261; refine (HT.out _ _ _ _ (by first | rfl | exact Eq.symm (by assumption) | exact (Bool.eq_false_iff.2 (by assumption)).symm) (by first | rfl | exact Eq.symm (by assumption) | exact (Bool.eq_false_iff.2 (by assumption)).symm) (by first | rfl | exact Eq.symm (by assumption) | exact (Bool.eq_false_iff.2 (by assumption)).symm) (by first | rfl | exact Eq.symm (by assumption) | exact (Bool.eq_false_iff.2 (by assumption)).symm) _).mono ?_; rintro e w1 ⟨rfl, hb⟩; have hc := (bcell hb).1))
    all_goals go_meet
    all_goals
      clear HT OKB
      first
        | (refine ⟨?_, ?_, ?_, ?_, ?_, ?_, ?_, ?_, (by repeat (first | exact Below.refl _ _ | refine bel_alloc ?_ | refine Below.drew ?_ | refine bel_step ?_ (by assumption)))⟩
           · (rw [HL.out]; clear HL hc hb; congr 1; simp_all; done)
           all_goals (rw [hc _ _ (by simp)]; simp [go_sem, *]))
        | (refine ⟨?_, ?_, ?_, ?_, ?_, ?_, ?_, ?_, (by repeat (first | exact Below.refl _ _ | refine bel_alloc ?_ | refine Below.drew ?_ | refine bel_step ?_ (by assumption)))⟩
           · (clear HL; congr 1; simp_all; done)
           all_goals simp [go_sem, *])
  case rest =>
    obtain ⟨rfl, hc0, hc1, hc2, hc3, hc4, hc7, hc8, hbw⟩ := hcut
    clear HT HL
    have OKB' := OKB.out
    clear OKB
    generalize (schemeB s && ((hq || q == []) && (hf || f == [])) && onlyB pa [63, 35] && onlyB q [35] && onlyB f [] && lb) = hd at *
    have OKB := Lib.hid OKB'
    clear OKB'
    cases hd
    · go_wp2_with fail
      go_ret
      refine ⟨ret_bool ?_, hbw⟩
      rw [OKB.out]
      simp
    by_cases hw : webB s = true
    · go_wp2_with (go_at_call 260; refine (web_any _ _).mono ?_; rintro e w' ⟨rfl, rfl⟩)
      by_cases c1 : onlyB us [47, 63, 35, 64] = true
      · by_cases c2 : hostB h = true
        · by_cases c3 : 0 ≤ p ∧ p ≤ 65535
          · by_cases c4 : p = usual s
            · have c4' : (p != usual s) = false := by simp [c4]
              go_quiet ((first
                | (go_at_call 343; exact quiet_left (only_any _ _ _ (by first | omega | simp) (by decide)))
                | (go_at_call 344; exact quiet_left (host_any _ _ (by omega)))
                | (go_at_call 78; exact quiet_left (in_yes _ _ _ _ (by omega)))
                | (go_at_call 305; exact quiet_left (usual_any _ _))))
              go_wp2
              go_ret
              refine ⟨ret_bool ?_, below_drewN hbw _⟩
              rw [OKB.out]
              clear OKB
              simp_all [slashB]
            · have c4' : (p != usual s) = true := by simp [c4]
              cases pa with
              | nil =>
                go_quiet ((first
                  | (go_at_call 343; exact quiet_left (only_any _ _ _ (by first | omega | simp) (by decide)))
                  | (go_at_call 344; exact quiet_left (host_any _ _ (by omega)))
                  | (go_at_call 78; exact quiet_left (in_yes _ _ _ _ (by omega)))
                  | (go_at_call 305; exact quiet_left (usual_any _ _))))
                go_wp2
                go_ret
                refine ⟨ret_bool ?_, below_drewN hbw _⟩
                rw [OKB.out]
                clear OKB
                simp_all [slashB]
              | cons x pa' =>
                have hb0 : ∀ h' : 0 < (⟨(x :: pa').toArray⟩ : ByteArray).size, (⟨(x :: pa').toArray⟩ : ByteArray)[0] = x := fun _ => rfl
                by_cases c5 : x.toNat = 47
                · obtain rfl : x = 47 := UInt8.toNat_inj.1 c5
                  go_quiet ((first
                    | (go_at_call 343; exact quiet_left (only_any _ _ _ (by first | omega | simp) (by decide)))
                    | (go_at_call 344; exact quiet_left (host_any _ _ (by omega)))
                    | (go_at_call 78; exact quiet_left (in_yes _ _ _ _ (by omega)))
                    | (go_at_call 305; exact quiet_left (usual_any _ _))))
                  go_wp2
                  go_ret
                  refine ⟨ret_bool ?_, below_drewN hbw _⟩
                  rw [OKB.out]
                  clear OKB
                  simp_all [slashB]
                · have c5' : ((x.toNat : Int) == 47) = false := by simp; omega
                  have c6 : ¬ x = 47 := fun e => c5 (by rw [e]; rfl)
                  go_quiet ((first
                    | (go_at_call 343; exact quiet_left (only_any _ _ _ (by first | omega | simp) (by decide)))
                    | (go_at_call 344; exact quiet_left (host_any _ _ (by omega)))
                    | (go_at_call 78; exact quiet_left (in_yes _ _ _ _ (by omega)))
                    | (go_at_call 305; exact quiet_left (usual_any _ _))))
                  go_wp2
                  go_ret
                  refine ⟨ret_bool ?_, below_drewN hbw _⟩
                  rw [OKB.out]
                  clear OKB
                  simp_all [slashB]
          · have c3' : decide (0 ≤ p ∧ p ≤ 65535) = false := by simpa using c3
            go_quiet ((first
              | (go_at_call 343; exact quiet_left (only_any _ _ _ (by first | omega | simp) (by decide)))
              | (go_at_call 344; exact quiet_left (host_any _ _ (by omega)))
              | (go_at_call 78; exact quiet_left (in_no _ _ _ _ (by omega)))
              | (go_at_call 305; exact quiet_left (usual_any _ _))))
            go_wp2
            go_ret
            refine ⟨ret_bool ?_, below_drewN hbw _⟩
            rw [OKB.out, c3']
            simp [hw]
        · have c2 : hostB h = false := by simpa using c2
          go_quiet ((first
            | (go_at_call 343; exact quiet_left (only_any _ _ _ (by first | omega | simp) (by decide)))
            | (go_at_call 344; exact quiet_left (host_any _ _ (by omega)))
            | (go_at_call 78; exact quiet_left (in_yes _ _ _ _ (by omega)))
            | (go_at_call 305; exact quiet_left (usual_any _ _))))
          go_wp2
          go_ret
          refine ⟨ret_bool ?_, below_drewN hbw _⟩
          rw [OKB.out]
          clear OKB
          simp_all [slashB]
      · have c1 : onlyB us [47, 63, 35, 64] = false := by simpa using c1
        go_quiet ((first
          | (go_at_call 343; exact quiet_left (only_any _ _ _ (by first | omega | simp) (by decide)))
          | (go_at_call 344; exact quiet_left (host_any _ _ (by omega)))
          | (go_at_call 78; exact quiet_left (in_yes _ _ _ _ (by omega)))
          | (go_at_call 305; exact quiet_left (usual_any _ _))))
        go_wp2
        go_ret
        refine ⟨ret_bool ?_, below_drewN hbw _⟩
        rw [OKB.out]
        clear OKB
        simp_all [slashB]
    · have hw : webB s = false := by simpa using hw
      go_wp2_with (go_at_call 260; refine (web_any _ _).mono ?_; rintro e w' ⟨rfl, rfl⟩)
      all_goals
        go_ret
        refine ⟨ret_bool ?_, hbw⟩
        rw [OKB.out]
        clear OKB
        simp_all
end Go.Proofs.YtmaknkbmilcanaaGreatDoor.Ul
