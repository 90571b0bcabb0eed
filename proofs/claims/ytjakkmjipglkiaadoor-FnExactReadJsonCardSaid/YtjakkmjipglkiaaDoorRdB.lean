
/-
  Own rows of bytes; the program's readString, walked.
-/
import Derived.Test.YtjakkmjipglkiaaDoorRdR
import Derived.Laws.BytesArg
import Derived.Laws.IdiomStrings
import Derived.Laws.AppendOwn
import Derived.Laws.OwnMore
namespace Go.Proofs.YtjakkmjipglkiaaDoor.Rd
open Go.RowKit
open Go.Proofs.YtjakkmjipglkiaaDoor.Rm
theorem Tryd.infoU : (Tryd.prog.info? 5).map (fun i => (i.zero, i.size, i.bytes)) = some (some (.int .u8 0), 1, 1) := by kernel_rfl
abbrev u8v (l : B) : List Value := l.map fun x => Value.int .u8 x.toNat
theorem conv_u8 (W : World) (base : Nat) (v : Value) (l : B) (h : W.ownsRow base 5 1 v l.length (u8v l)) : (convert 70 9 v).run Tryd.prog W = .ok (.string ⟨l.toArray⟩) W := by
  obtain ⟨hlen, h⟩ := h
  rcases h with ⟨rfl, h0⟩ | ⟨g, cap, cur, rfl, _, hg, hn, _, hs, ht⟩
  · obtain rfl : l = [] := List.eq_nil_of_length_eq_zero h0
    exact run_convert_bytes_nil (P := Tryd.prog) W 70 5 Tryd.underlying70 Tryd.underlying5 0 0 9 Tryd.underlying9
  · refine run_convert_bytes_back W 70 9 5 ⟨g, 0, none⟩ cap l Tryd.underlying70 Tryd.underlying5 Tryd.underlying9 (fun j hj => ?_)
    have e : (cur.toList.take (l.length * 1))[j]? = some (Value.int .u8 l[j].toNat) := by rw [ht]; simp [hj]
    rw [List.getElem?_take_of_lt (by omega)] at e
    have : (⟨g, 0, none⟩ : Addr).add j = ⟨g, j, none⟩ := by unfold Addr.add; split <;> simp_all
    rw [this]
    simp [World.cell?, hg]
    simpa using e
theorem one_u8v (a : Int) : ∀ u ∈ [Value.int .u8 a], u.oneCell' = true := by
  intro u hu; simp at hu; subst hu; rfl
theorem u8_snoc {w : World} {base : Nat} {v : Value} {out : B} {x : UInt8} (h : w.ownsRow base 5 1 v (out.length + 1) (u8v out ++ [.int .u8 x.toNat])) : w.ownsRow base 5 1 v (out ++ [x]).length (u8v (out ++ [x])) := by
  simpa using h
theorem Ch.row {S : Nat → Prop} {W wr w4 : World} {o : Obj} {own : Option Nat} (h : Ch S W wr) (hg : (wr.alloc o).grownBy w4 own) (ho : ∀ b, own = some b → W.heap.size ≤ b) : Ch S W w4 :=
  (h.alloc o).back (Ch.of_grown (S := fun b => own = some b) hg (fun _ e => e)) (fun b e => .inr (ho b e))
theorem own_set {w : World} {base s n : Nat} {T : TypeId} {v : Value} {xs : List Value} {R o : Nat} {x : Value} (h : w.ownsRow base T s v n xs) (hR : R < base) : (w.setCell ⟨R, o, none⟩ x).ownsRow base T s v n xs :=
  own_ch ((Ch.refl (· = R) w).set rfl) h (fun b hb e => by have := (h.lt b hb).1; omega)
theorem plainI_yes (x : UInt8) (w : World) (h : 32 ≤ x.toNat ∧ x.toNat ≤ 126) : Calls Tryd.prog 36 #[.int .u8 x.toNat] w fun e w' => e = .returned (.bool true) ∧ w = w' := by
  obtain ⟨h1, h2⟩ := h
  go_enter Tryd.func36, Tryd.ntmps36
  go_wp2
  go_ret
  exact ⟨by simp; omega, rfl⟩
theorem plainI_no (x : UInt8) (w : World) (h : ¬ (32 ≤ x.toNat ∧ x.toNat ≤ 126)) : Calls Tryd.prog 36 #[.int .u8 x.toNat] w fun e w' => e = .returned (.bool false) ∧ w = w' := by
  go_enter Tryd.func36, Tryd.ntmps36
  go_wp2
  all_goals (go_ret; exact ⟨by first | rfl | (simp; omega), rfl⟩)
/-- how many bytes the reader has left -/
def restW (R : Nat) (w : World) : Nat := match w.cell? ⟨R, 0, none⟩ with | some (.string s) => s.size | _ => 0
theorem restW_of {R : Nat} {bs : B} {w : World} (h : Hd w R (rdO bs)) : restW R w = bs.length := by
  have e : (⟨bs.toArray⟩ : ByteArray).size = bs.length := rfl
  simp only [restW, h.one.1, e]
theorem rest_lt {R : Nat} {bs cs : B} {w w' : World} (h : Hd w R (rdO bs)) (h' : Hd w' R (rdO cs)) (hl : cs.length < bs.length) : restW R w' < restW R w := by
  rw [restW_of h, restW_of h']; exact hl
theorem n8I {x : UInt8} {k : Nat} (hk : k < 256) (h : x ≠ UInt8.ofNat k) : ((x.toNat : Int) == (k : Int)) = false := by
  rw [beq_eq_false_iff_ne]
  intro e
  exact h (by rw [← UInt8.toNat_inj]; simp; omega)
attribute [local go_sem] ext_tail0
/-- what readString says -/
def StrP (R : Nat) (W : World) (res : Int × B × B) (e : Ending) (w' : World) : Prop := ∃ t r, e = .returned (.tuple #[.string ⟨t.toArray⟩, .int .i64 res.1]) ∧ (res.1 = 0 → t = res.2.1 ∧ r = res.2.2) ∧ Hd w' R (rdO r) ∧ Ch (· = R) W w'
set_option maxRecDepth 100000 in
set_option maxHeartbeats 8000000 in
theorem strI_any (R : Nat) (bs : B) (W : World) (h : Hd W R (rdO bs)) (hl : bs.length ≤ 65536) (hs : SynV W) (hR : R ≠ 2) (res : Int × B × B) (hres : strR bs [] = res) :
    Calls Tryd.prog 22 #[ptI R] W (StrP R W res) := by
  have H := Lib.hid h
  have HS := Lib.hid hs
  have HE0 := Lib.hid hres
  have hRW := h.lt
  obtain ⟨i0, hi, hz0, hz1, hz2⟩ := info_parts Tryd.infoU
  clear h hs hres
  go_enter Tryd.func22, Tryd.ntmps22
  go_wp2_with fail
  go_loopw [4] (fun v wr => ∃ (rs out : B), Hd wr R (rdO rs) ∧ wr.ownsRow W.heap.size 5 1 v out.length (u8v out) ∧ strR rs out = res ∧ rs.length + out.length ≤ bs.length ∧ Ch (· = R) W wr) (fun _ wr => restW R wr)
  case atStart => exact ⟨bs, [], H.out, World.ownsRow_nil W _ _ _, HE0.out, by simp, Ch.refl _ _⟩
  case round =>
    obtain ⟨rs, out, hr, ho, hE, hlen, hC⟩ := hrel
    obtain ⟨c0, f0⟩ := hr.one
    have HR := Lib.hid hr
    have HO := Lib.hid ho
    have HC := Lib.hid hC
    have hlt := hr.lt
    obtain ⟨av, cv, rfl⟩ := own_slice ho
    clear hr ho hC
    cases rs with
    | nil =>
      rw [strR_nil] at hE
      subst hE
      go_wp2
      go_ret2
      exact ⟨[], _, rfl, (fun h => by cases h), HR.out, HC.out⟩
    | cons c r =>
      have hb0 : ∀ h' : 0 < (⟨(c :: r).toArray⟩ : ByteArray).size, (⟨(c :: r).toArray⟩ : ByteArray)[0] = c := fun _ => rfl
      have hr1 : r.length + 1 + out.length ≤ bs.length := by simpa using hlen
      have H1 := Lib.hid (show Hd (wr.setCell ⟨R, 0, none⟩ (.string ⟨r.toArray⟩)) R (rdO r) from HR.out.set1 _)
      have HC1 := Lib.hid (HC.out.set (o := 0) (x := .string ⟨r.toArray⟩) rfl)
      have HO1 := Lib.hid (own_set (o := 0) (x := .string ⟨r.toArray⟩) HO.out hRW)
      by_cases h34 : c = 34
      · subst h34
        rw [strR_quote] at hE
        by_cases h120 : 120 < out.length
        · rw [if_pos h120] at hE
          subst hE
          go_wp2
          go_ret2
          exact ⟨[], _, rfl, (fun h => by cases h), H1.out, HC1.out⟩
        · rw [if_neg h120] at hE
          subst hE
          have hcv := conv_u8 _ _ _ _ HO1.out
          go_wp2
          go_ret2
          exact ⟨out, _, rfl, fun _ => ⟨rfl, rfl⟩, H1.out, HC1.out⟩
      · have e34 : ((c.toNat : Int) == 34) = false := n8I (k := 34) (by decide) h34
        by_cases h92 : c = 92
        · subst h92
          have HP := Lib.hid (fun w => plainI_yes 92 w (by decide))
          cases he : escR r with
          | none =>
            rw [strR_bad out he] at hE
            subst hE
            have HX := Lib.hid (escI_no R r _ H1.out (by omega) ((HS.out.ch HC1.out (fun e => hR e.symm))) hR he)
            clear he
            go_wp2_with fail
            refine (HP.out _).mono ?_
            rintro e w1 ⟨rfl, rfl⟩
            go_wp2_with fail
            refine HX.out.mono ?_
            rintro e w1 ⟨r2, rfl, h2, hc2⟩
            have H2 := Lib.hid h2
            have HC2 := Lib.hid (HC1.out.trans hc2)
            clear h2 hc2
            go_wp2
            go_ret2
            exact ⟨[], r2, rfl, (fun h => by cases h), H2.out, HC2.out⟩
          | some p =>
            obtain ⟨x, r2⟩ := p
            rw [strR_esc out he] at hE
            have hl2 := escR_len he
            have HX := Lib.hid (escI_yes R r r2 x _ H1.out (by omega) he)
            have HE2 := Lib.hid hE
            clear he hE
            go_wp2_with fail
            refine (HP.out _).mono ?_
            rintro e w1 ⟨rfl, rfl⟩
            go_wp2_with fail
            refine HX.out.mono ?_
            rintro e w1 ⟨rfl, h2, hc2⟩
            have H2 := Lib.hid h2
            have HC2 := Lib.hid (HC1.out.trans hc2)
            have hW1 := (HC1.out.trans hc2).size
            have HO2 := Lib.hid (own_ch hc2 HO1.out (fun b hb e => by have := (HO1.out.lt b hb).1; omega))
            clear h2 hc2
            go_wp2_with (at_builtin; refine wpList_append_own _ rfl _ _ 70 rfl W.heap.size 5 i0 (.int .u8 0) 1 1 Tryd.underlying70 hi hz0 hz1 hz2 rfl (by decide) _ _ _ rfl (HO2.out.alloc _) ⟨w1.heap.size, 0, none⟩ 1 1 [.int .u8 (x.toNat : Int)] rfl rfl (cell_one_new _ _ _) (one_u8v _) (by unfold maxLen; omega) (by omega) (by simp; omega) ?_; intro v' w4 hown' hgrow _)
            have HN := Lib.hid (u8_snoc hown')
            have H4 := Lib.hid ((H2.out.al (.cells #[.int .u8 (x.toNat : Int)] 5)).grown hgrow (fun e => by have := (HO2.out.lt R e.symm).1; omega))
            have HC4 := Lib.hid (Ch.row HC2.out hgrow (fun b e => (HO2.out.lt b e).1))
            clear hown' hgrow
            go_roundw
            case rel => exact ⟨r2, out ++ [x], H4.out, HN.out, HE2.out, by simp; omega, HC4.out⟩
            case measure => exact rest_lt HR.out H4.out (by simp; omega)
        · have e92 : ((c.toNat : Int) == 92) = false := n8I (k := 92) (by decide) h92
          by_cases hpl : 32 ≤ c.toNat ∧ c.toNat ≤ 126
          · rw [strR_plain r out h34 h92 hpl] at hE
            have HE2 := Lib.hid hE
            have HP := Lib.hid (fun w => plainI_yes c w hpl)
            have hW1 := HC1.out.size
            clear hE h34 h92 hpl
            go_wp2_with fail
            refine (HP.out _).mono ?_
            rintro e w1 ⟨rfl, rfl⟩
            obtain ⟨w1, hw1⟩ : ∃ w1, w1 = wr.setCell ⟨R, 0, none⟩ (.string ⟨r.toArray⟩) := ⟨_, rfl⟩
            rw [← hw1] at H1 HC1 HO1 hW1 ⊢
            clear hw1
            go_wp2_with (at_builtin; refine wpList_append_own _ rfl _ _ 70 rfl W.heap.size 5 i0 (.int .u8 0) 1 1 Tryd.underlying70 hi hz0 hz1 hz2 rfl (by decide) _ _ _ rfl (HO1.out.alloc _) ⟨w1.heap.size, 0, none⟩ 1 1 [.int .u8 (c.toNat : Int)] rfl rfl (cell_one_new _ _ _) (one_u8v _) (by unfold maxLen; omega) (by omega) (by simp; omega) ?_; intro v' w4 hown' hgrow _)
            have HN := Lib.hid (u8_snoc hown')
            have H4 := Lib.hid ((H1.out.al (.cells #[.int .u8 (c.toNat : Int)] 5)).grown hgrow (fun e => by have := (HO1.out.lt R e.symm).1; omega))
            have HC4 := Lib.hid (Ch.row HC1.out hgrow (fun b e => (HO1.out.lt b e).1))
            clear hown' hgrow
            go_roundw
            case rel => exact ⟨r, out ++ [c], H4.out, HN.out, HE2.out, by simp; omega, HC4.out⟩
            case measure => exact rest_lt HR.out H4.out (by simp)
          · rw [strR_other r out h34 h92 hpl] at hE
            subst hE
            have HP := Lib.hid (fun w => plainI_no c w hpl)
            clear h34 h92 hpl
            go_wp2_with fail
            refine (HP.out _).mono ?_
            rintro e w1 ⟨rfl, rfl⟩
            go_wp2
            go_ret2
            exact ⟨[], _, rfl, (fun h => by cases h), H1.out, HC1.out⟩
end Go.Proofs.YtjakkmjipglkiaaDoor.Rd
