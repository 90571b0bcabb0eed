
/-
  The program's reader of JSON, walked, go on: readEscape.
-/
import Derived.Test.YtjakkmjipglkiaaDoorRdQ
namespace Go.Proofs.YtjakkmjipglkiaaDoor.Rd
open Go.RowKit
open Go.Proofs.YtjakkmjipglkiaaDoor.Rm
attribute [local go_sem] ext_tail0 ext_tail2 ext_head2
theorem pre3 (c : UInt8) (bs : B) : Lib.hasPrefix (c :: bs) [117, 48, 48] = ((117 == c) && Lib.hasPrefix bs [48, 48]) := rfl
set_option maxRecDepth 100000 in
set_option maxHeartbeats 4000000 in
theorem escI_yes (R : Nat) (bs r : B) (c : UInt8) (W : World) (h : Hd W R (rdO bs)) (hl : bs.length ≤ 65536) (he : escR bs = some (c, r)) :
    Calls Tryd.prog 37 #[ptI R] W fun e w' => e = .returned (.tuple #[.int .u8 c.toNat, .bool true]) ∧ Hd w' R (rdO r) ∧ Ch (· = R) W w' := by
  cases bs with
  | nil => cases he
  | cons x bs =>
    obtain ⟨c0, f0⟩ := h.one
    have H := Lib.hid h
    have hlt := h.lt
    clear h
    simp only [escR] at he
    by_cases hi : escI x < 8
    · rw [if_pos hi] at he
      simp only [Option.some.injEq, Prod.mk.injEq] at he
      obtain ⟨rfl, rfl⟩ := he
      have hx : x ≠ 117 := fun e => by subst e; revert hi; decide
      have HP := Lib.hid (show Lib.hasPrefix (x :: bs) [117, 48, 48] = false by rw [pre3, beq_eq_false_iff_ne.2 (fun e => hx e.symm)]; rfl)
      have HT := Lib.hid (fun w => show Calls Tryd.prog 35 #[.string ⟨(x :: bs).toArray⟩, .string ⟨#[117, 48, 48]⟩] w fun e w' => e = .returned (.tuple #[.string ⟨(x :: bs).toArray⟩, .bool false]) ∧ w = w' from by
        have := cutI_any (x :: bs) [117, 48, 48] w
        rwa [HP.out, show Lib.trimPrefix (x :: bs) [117, 48, 48] = x :: bs by unfold Lib.trimPrefix; rw [if_neg (by rw [HP.out]; simp)]] at this)
      have HF := Lib.hid (fun w => findE_any x w (escI x : Int) (by rw [idx_of, if_pos hi]))
      have hy := escV_at (escI x) hi
      have hb0 : ∀ h' : 0 < (⟨(x :: bs).toArray⟩ : ByteArray).size, (⟨(x :: bs).toArray⟩ : ByteArray)[0] = x := fun _ => rfl
      generalize escV.getD (escI x) 0 = y at *
      generalize escI x = k at *
      clear hx
      go_enter Tryd.func37, Tryd.ntmps37
      go_wp2_with fail
      refine (HT.out _).mono ?_
      rintro e w1 ⟨rfl, rfl⟩
      go_wp2_with fail
      refine (HF.out _).mono ?_
      rintro e w1 ⟨rfl, rfl⟩
      go_wp2
      go_ret2
      exact ⟨rfl, H.out.set1 _, (Ch.refl _ _).set rfl⟩
    · rw [if_neg hi] at he
      by_cases hx : x = 117
      · subst hx
        rw [if_pos rfl] at he
        obtain ⟨a, b, n, rfl, hn, hn2, rfl⟩ := hexR_some he
        have HT := Lib.hid (fun w => show Calls Tryd.prog 35 #[.string ⟨(117 :: 48 :: 48 :: a :: b :: r).toArray⟩, .string ⟨#[117, 48, 48]⟩] w fun e w' => e = .returned (.tuple #[.string ⟨(a :: b :: r).toArray⟩, .bool true]) ∧ w = w' from cutI_any (117 :: 48 :: 48 :: a :: b :: r) [117, 48, 48] w)
        have HX := Lib.hid (fun w => hexP_yes [a, b] w n rfl hn)
        have HU := Lib.hid (u8_of hn2)
        have hlr : r.length ≤ 65536 := by simp at hl; omega
        clear he hn hi hl
        go_enter Tryd.func37, Tryd.ntmps37
        go_wp2_with fail
        refine (HT.out _).mono ?_
        rintro e w1 ⟨rfl, rfl⟩
        have H1 := Lib.hid (show Hd (W.setCell ⟨R, 0, none⟩ (.string ⟨r.toArray⟩)) R (rdO r) from H.out.set1 _)
        have HC := Lib.hid ((Ch.refl (· = R) W).set (o := 0) (x := .string ⟨r.toArray⟩) rfl)
        go_wp2_with fail
        refine (HX.out _).mono ?_
        rintro e w2 ⟨rfl, hb⟩
        have H2 := Lib.hid (H1.out.blw hb)
        have HC2 := Lib.hid (HC.out.bel hb)
        clear hb
        go_wp2
        go_quiet (fail)
        go_wp2
        go_ret2
        exact ⟨by rw [HU.out]; rfl, H2.out, HC2.out.drewN _⟩
      · rw [if_neg hx] at he
        cases he
set_option maxRecDepth 100000 in
set_option maxHeartbeats 4000000 in
theorem escI_no (R : Nat) (bs : B) (W : World) (h : Hd W R (rdO bs)) (hl : bs.length ≤ 65536) (hs : SynV W) (hR : R ≠ 2) (he : escR bs = none) :
    Calls Tryd.prog 37 #[ptI R] W fun e w' => ∃ r, e = .returned (.tuple #[.int .u8 0, .bool false]) ∧ Hd w' R (rdO r) ∧ Ch (· = R) W w' := by
  obtain ⟨c0, f0⟩ := h.one
  have H := Lib.hid h
  have hlt := h.lt
  clear h
  cases bs with
  | nil =>
    have HT := Lib.hid (fun w => show Calls Tryd.prog 35 #[.string ⟨#[]⟩, .string ⟨#[117, 48, 48]⟩] w fun e w' => e = .returned (.tuple #[.string ⟨#[]⟩, .bool false]) ∧ w = w' from cutI_any [] [117, 48, 48] w)
    clear he
    go_enter Tryd.func37, Tryd.ntmps37
    go_wp2_with fail
    refine (HT.out _).mono ?_
    rintro e w1 ⟨rfl, rfl⟩
    go_wp2
    go_ret2
    exact ⟨[], rfl, H.out, Ch.refl _ _⟩
  | cons x bs =>
    have hi : ¬ escI x < 8 := fun hi => by simp only [escR, if_pos hi] at he; cases he
    have HF := Lib.hid (fun w => findE_any x w (-1) (by rw [idx_of, if_neg hi]))
    have hb0 : ∀ h' : 0 < (⟨(x :: bs).toArray⟩ : ByteArray).size, (⟨(x :: bs).toArray⟩ : ByteArray)[0] = x := fun _ => rfl
    by_cases hp : Lib.hasPrefix (x :: bs) [117, 48, 48] = true
    · have hx : x = 117 := by rw [pre3] at hp; simp at hp; exact hp.1.symm
      subst hx
      have he2 : hexR bs = none := by simpa only [escR, if_neg hi, if_true] using he
      rcases hexR_none he2 with h1 | h1 | ⟨a, b, r, rfl, hn⟩
      · rw [pre3, h1] at hp; simp at hp
      · have hp2 : Lib.hasPrefix bs [48, 48] = true := by rw [pre3] at hp; simpa using hp
        obtain ⟨r, rfl⟩ : ∃ r, bs = 48 :: 48 :: r := by
          obtain ⟨r, hr⟩ := List.isPrefixOf_iff_prefix.1 hp2
          exact ⟨r, hr.symm⟩
        have hr1 : ¬ 2 ≤ r.length := by simp at h1; omega
        have HT := Lib.hid (fun w => show Calls Tryd.prog 35 #[.string ⟨(117 :: 48 :: 48 :: r).toArray⟩, .string ⟨#[117, 48, 48]⟩] w fun e w' => e = .returned (.tuple #[.string ⟨r.toArray⟩, .bool true]) ∧ w = w' from cutI_any (117 :: 48 :: 48 :: r) [117, 48, 48] w)
        have hd2 : decide ((2 : Int) ≤ (r.length : Int)) = false := by simp; omega
        clear he he2 hp hp2 h1
        generalize 48 :: 48 :: r = bs at *
        go_enter Tryd.func37, Tryd.ntmps37
        go_wp2_with fail
        refine (HT.out _).mono ?_
        rintro e w1 ⟨rfl, rfl⟩
        go_wp2_with fail
        refine (HF.out _).mono ?_
        rintro e w1 ⟨rfl, rfl⟩
        go_wp2
        go_ret2
        exact ⟨_, rfl, H.out, Ch.refl _ _⟩
      · have HT := Lib.hid (fun w => show Calls Tryd.prog 35 #[.string ⟨(117 :: 48 :: 48 :: a :: b :: r).toArray⟩, .string ⟨#[117, 48, 48]⟩] w fun e w' => e = .returned (.tuple #[.string ⟨(a :: b :: r).toArray⟩, .bool true]) ∧ w = w' from cutI_any (117 :: 48 :: 48 :: a :: b :: r) [117, 48, 48] w)
        have HX := Lib.hid (fun w hs => hexP_no [a, b] w rfl hn hs)
        have hlr : r.length ≤ 65536 := by simp at hl; omega
        have H1 := Lib.hid (show Hd (W.setCell ⟨R, 0, none⟩ (.string ⟨r.toArray⟩)) R (rdO r) from H.out.set1 _)
        have HC := Lib.hid ((Ch.refl (· = R) W).set (o := 0) (x := .string ⟨r.toArray⟩) rfl)
        have HS := Lib.hid (hs.ch HC.out (fun e => hR e.symm))
        clear he he2 hn hi hl hp hs
        go_enter Tryd.func37, Tryd.ntmps37
        go_wp2_with fail
        refine (HT.out _).mono ?_
        rintro e w1 ⟨rfl, rfl⟩
        go_wp2_with fail
        refine (HX.out _ HS.out).mono ?_
        rintro e w2 ⟨⟨N, rfl⟩, hb⟩
        have H2 := Lib.hid (H1.out.blw hb)
        have HC2 := Lib.hid (HC.out.bel hb)
        clear hb
        go_wp2
        go_quiet (fail)
        go_wp2
        go_ret2
        exact ⟨r, rfl, H2.out, HC2.out.drewN _⟩
    · have hp : Lib.hasPrefix (x :: bs) [117, 48, 48] = false := by simpa using hp
      have HP := Lib.hid hp
      have HT := Lib.hid (fun w => show Calls Tryd.prog 35 #[.string ⟨(x :: bs).toArray⟩, .string ⟨#[117, 48, 48]⟩] w fun e w' => e = .returned (.tuple #[.string ⟨(x :: bs).toArray⟩, .bool false]) ∧ w = w' from by
        have := cutI_any (x :: bs) [117, 48, 48] w
        rwa [HP.out, show Lib.trimPrefix (x :: bs) [117, 48, 48] = x :: bs by unfold Lib.trimPrefix; rw [if_neg (by rw [HP.out]; simp)]] at this)
      clear hp he
      go_enter Tryd.func37, Tryd.ntmps37
      go_wp2_with fail
      refine (HT.out _).mono ?_
      rintro e w1 ⟨rfl, rfl⟩
      go_wp2_with fail
      refine (HF.out _).mono ?_
      rintro e w1 ⟨rfl, rfl⟩
      go_wp2
      go_ret2
      exact ⟨_, rfl, H.out, Ch.refl _ _⟩
end Go.Proofs.YtjakkmjipglkiaaDoor.Rd
