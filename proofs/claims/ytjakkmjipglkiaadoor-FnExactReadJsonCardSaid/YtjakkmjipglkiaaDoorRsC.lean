
/-
  The model's reader of JSON, walked, go on: text.
-/
import Derived.Test.YtjakkmjipglkiaaDoorRsB
import Derived.Test.YtjakkmjipglkiaaDoorRdB
namespace Go.Proofs.YtjakkmjipglkiaaDoor.Rd
open Go.RowKit
open Go.Proofs.YtjakkmjipglkiaaDoor.Rm
/-- a string with its first quote -/
def strT (bs : B) : Int × B × B := if Lib.hasPrefix bs [34] then strR bs.tail [] else (3, [], [])
/-- what text says -/
def TxP (R : Nat) (t : B) (W : World) (res : Int × B × B) (e : Ending) (w' : World) : Prop :=
  ∃ s p' rs', e = .returned (.string ⟨s.toArray⟩) ∧ Hd w' R (rsO t p' res.1) ∧ At t p' rs' ∧ (res.1 = 0 → s = res.2.1 ∧ rs' = res.2.2) ∧ Ch (· = R) W w'
theorem wrap8 (x : UInt8) : IntKind.u8.wrap (x.toNat : Int) = (x.toNat : Int) := by
  have := x.toNat_lt
  rw [IntKind.wrap_u8]; omega
set_option maxRecDepth 100000 in
set_option maxHeartbeats 8000000 in
theorem textS_any (R : Nat) (t bs : B) (p : Nat) (W : World) (h : Hd W R (rsO t p 0)) (hp : At t p bs) (hl : t.length ≤ 65536) (res : Int × B × B) (hres : strT bs = res) :
    Calls Tryd.prog 32 #[ptr R] W (TxP R t W res) := by
  have hRW := h.lt
  obtain ⟨r, hr⟩ : ∃ r, Lib.hasPrefix bs [34] = r := ⟨_, rfl⟩
  have HA1 := Lib.hid (h.al (.cells #[] 5))
  have HSK := Lib.hid (show Calls Tryd.prog 50 #[ptr R, .int .u8 34] (W.alloc (.cells #[] 5)) fun e w' => e = .returned (.bool r) ∧ ∃ p', Hd w' R (rsO t p' 0) ∧ At t p' (if r then bs.tail else bs) ∧ Ch (· = R) (W.alloc (.cells #[] 5)) w' from
    skip_any R t bs p 0 34 r _ HA1.out hp hl (by rw [hr]; rfl))
  unfold strT at hres
  rw [hr] at hres
  have HO0 := Lib.hid (World.ownsRow_made (base := W.heap.size) (e := 5) (size := 1) W #[] 0 (Nat.le_refl _) (by unfold maxLen; omega) rfl)
  obtain ⟨i0, hi, hz0, hz1, hz2⟩ := info_parts Tryd.infoU
  clear h hr hp
  go_enter Tryd.func32, Tryd.ntmps32
  go_wp2_with fail
  refine HSK.out.mono ?_
  rintro e w1 ⟨rfl, p1, h1, hp1, hc1⟩
  cases r with
  | false =>
    simp only [Bool.false_eq_true, if_false] at hres hp1
    subst hres
    have HF := Lib.hid (fail_any R t p1 0 3 w1 h1)
    have HC1 := Lib.hid (((Ch.refl (· = R) W).alloc (.cells #[] 5)).trans hc1)
    have HP1 := Lib.hid hp1
    clear h1 hc1 hp1
    go_wp2_with fail
    refine HF.out.mono ?_
    rintro e w2 ⟨rfl, h2, hc2⟩
    have H2 := Lib.hid h2
    have HC2 := Lib.hid (HC1.out.trans hc2)
    clear h2 hc2
    go_wp2
    go_ret
    exact ⟨[], p1, bs, rfl, H2.out, HP1.out, (fun h => by cases h), HC2.out⟩
  | true =>
    simp only [if_true] at hres hp1
    have HO1 := Lib.hid (own_ch hc1 HO0.out (fun b hb e => by have := (HO0.out.lt b hb).1; omega))
    have HC1 := Lib.hid (((Ch.refl (· = R) W).alloc (.cells #[] 5)).trans hc1)
    have HP1 := Lib.hid hp1
    have HH1 := Lib.hid h1
    have HRES := Lib.hid hres
    have hpl1 := hp1.len
    clear h1 hc1 hp1 hres
    go_wp2_with fail
    go_loopw [3] (fun v wr => ∃ (q : Nat) (rs out : B), Hd wr R (rsO t q 0) ∧ At t q rs ∧ wr.ownsRow W.heap.size 5 1 v out.length (u8v out) ∧ strR rs out = res ∧ rs.length + out.length ≤ t.length ∧ Ch (· = R) W wr) (fun _ wr => leftW R t.length wr)
    case atStart => exact ⟨p1, bs.tail, [], HH1.out, HP1.out, HO1.out, HRES.out, by simp at hpl1 ⊢; omega, HC1.out⟩
    case round =>
      obtain ⟨q, rs, out, hr, hq, ho, hE, hlen, hC⟩ := hrel
      obtain ⟨c0, c1, c2, cf⟩ := hr.three
      have HR := Lib.hid hr
      have HO := Lib.hid ho
      have HC := Lib.hid hC
      have HQ := Lib.hid hq
      have hlt := hr.lt
      obtain ⟨av, cv, rfl⟩ := own_slice ho
      have HFB := Lib.hid (fun (w : World) (q' : Nat) (rs' : B) (h : Hd w R (rsO t q' 0)) (h2 : At t q' rs') (hc : Ch (· = R) W w) (he : res.1 = 3) => show Calls Tryd.prog 30 #[ptr R, .int .i64 3] w fun e w' => e = .returned (.tuple #[]) ∧ TxP R t W res (.returned (.string ⟨#[]⟩)) w' from
        (fail_any R t q' 0 3 w h).mono fun e w' ⟨a, b, c⟩ => ⟨a, [], q', rs', rfl, by rw [he]; exact b, h2, (fun h => by rw [he] at h; cases h), hc.trans c⟩)
      clear hr ho hC
      cases rs with
      | nil =>
        obtain rfl := hq.nil
        rw [strR_nil] at hE
        have HB := Lib.hid (fun n => HFB.out (wr.drewN n) t.length [] HR.out HQ.out (HC.out.drewN n) (by rw [← hE]))
        clear hq hE HFB
        go_wp2
        go_quiet (fail)
        go_wp2_with fail
        refine (HB.out _).mono ?_
        rintro e w2 ⟨rfl, hT⟩
        have HT := Lib.hid hT
        clear hT
        go_wp2
        go_ret
        exact HT.out
      | cons x rs =>
        have hb := hq.byte
        have hq1 := hq.lt
        have hqn := hq.next
        have hx256 := x.toNat_lt
        clear hq
        go_wp2
        go_quiet (fail)
        obtain ⟨n1, hn1⟩ : ∃ n, n = nq := ⟨_, rfl⟩
        subst hn1
        go_wp2
        go_quiet (fail)
        go_upto_region 8 with fail
        have H1 := Lib.hid (show Hd ((wr.drewN (n1 + nq)).setCell ⟨R, 1, none⟩ (.int .i64 ((q : Int) + 1))) R (rsO t (q + 1) 0) from HR.out.set 1 _)
        have HC1 := Lib.hid ((HC.out.drewN (n1 + nq)).set (o := 1) (x := .int .i64 ((q : Int) + 1)) rfl)
        have HO1 := Lib.hid (show ((wr.drewN (n1 + nq)).setCell ⟨R, 1, none⟩ (.int .i64 ((q : Int) + 1))).ownsRow W.heap.size 5 1 (.slice av out.length cv) out.length (u8v out) from own_set (w := wr.drewN (n1 + nq)) HO.out hRW)
        obtain ⟨w1, hw1⟩ : ∃ w1, w1 = (wr.drewN (n1 + nq)).setCell ⟨R, 1, none⟩ (.int .i64 ((q : Int) + 1)) := ⟨_, rfl⟩
        rw [← hw1] at H1 HC1 HO1 ⊢
        have hsz1 := HC1.out.size
        clear hw1 c0 c1 c2 cf hb hlt
        have hx8 := wrap8 x
        by_cases h34 : x = 34
        · subst h34
          rw [strR_quote] at hE
          by_cases h120 : 120 < out.length
          · rw [if_pos h120] at hE
            have HF := Lib.hid (fail_any R t (q + 1) 0 8 w1 H1.out)
            have HE := Lib.hid hE
            clear hE
            go_wp2_with fail
            refine HF.out.mono ?_
            rintro e w2 ⟨rfl, h2, hc2⟩
            have HT := Lib.hid (show TxP R t W res (.returned (.string ⟨out.toArray⟩)) w2 from ⟨out, q + 1, rs, rfl, by rw [← HE.out]; exact h2, hqn, (fun h => by rw [← HE.out] at h; cases h), HC1.out.trans hc2⟩)
            have hcv := conv_u8 w2 _ _ _ (own_ch hc2 HO1.out (fun b hb e => by have := (HO1.out.lt b hb).1; omega))
            clear h2 hc2
            go_wp2
            go_ret
            exact HT.out
          · rw [if_neg h120] at hE
            have HT := Lib.hid (show TxP R t W res (.returned (.string ⟨out.toArray⟩)) w1 from ⟨out, q + 1, rs, rfl, by rw [← hE]; exact H1.out, hqn, (fun _ => by rw [← hE]; exact ⟨rfl, rfl⟩), HC1.out⟩)
            have hcv := conv_u8 w1 _ _ _ HO1.out
            clear hE
            go_wp2
            go_ret
            exact HT.out
        · have e34 : ((x.toNat : Int) == 34) = false := n8 (k := 34) (by decide) h34
          by_cases h92 : x = 92
          · subst h92
            obtain ⟨er, her⟩ : ∃ er, escR rs = er := ⟨_, rfl⟩
            have HX := Lib.hid (escS_any R t rs (q + 1) w1 H1.out hqn hl er her)
            cases er with
            | none =>
              rw [strR_bad out her] at hE
              have HE := Lib.hid (show res.1 = 3 by rw [← hE])
              clear hE her
              go_wp2_with fail
              refine HX.out.mono ?_
              rintro e w2 ⟨rfl, q2, rs2, h2, hp2, -, hc2⟩
              have HB := Lib.hid (HFB.out w2 q2 rs2 h2 hp2 (HC1.out.trans hc2) HE.out)
              clear h2 hp2 hc2
              have hbi : byteI none = -1 := rfl
              rw [hbi]
              go_wp2_with fail
              refine HB.out.mono ?_
              rintro e w3 ⟨rfl, hT⟩
              have HT := Lib.hid hT
              clear hT
              go_wp2
              go_ret
              exact HT.out
            | some pr =>
              obtain ⟨y, r2⟩ := pr
              rw [strR_esc out her] at hE
              have hl2 := escR_len her
              have HE2 := Lib.hid hE
              have hy256 := y.toNat_lt
              have hy8 := wrap8 y
              clear hE her
              go_wp2_with fail
              refine HX.out.mono ?_
              rintro e w2 ⟨rfl, q2, rs2, h2, hp2, hr2, hc2⟩
              obtain rfl := hr2 y r2 rfl
              have hbi : byteI (some (y, rs2)) = (y.toNat : Int) := rfl
              rw [hbi]
              have H2 := Lib.hid h2
              have HA2 := Lib.hid hp2
              have HC2 := Lib.hid (HC1.out.trans hc2)
              have HO2 := Lib.hid (own_ch hc2 HO1.out (fun b hb e => by have := (HO1.out.lt b hb).1; omega))
              have hsz2 := HC2.out.size
              have hlen2 := hp2.len
              have hlen1 := hqn.len
              simp only [List.length_cons] at hlen
              clear h2 hp2 hr2 hc2 hbi
              go_wp2_with (at_builtin; refine wpList_append_own _ rfl _ _ 70 rfl W.heap.size 5 i0 (.int .u8 0) 1 1 Tryd.underlying70 hi hz0 hz1 hz2 rfl (by decide) _ _ _ rfl (HO2.out.alloc _) ⟨w2.heap.size, 0, none⟩ 1 1 [.int .u8 (y.toNat : Int)] rfl rfl (cell_one_new _ _ _) (one_u8v _) (by unfold maxLen; omega) (by omega) (by simp; omega) ?_; intro v' w4 hown' hgrow _)
              have HN4 := Lib.hid (u8_snoc hown')
              have H4 := Lib.hid ((H2.out.al (.cells #[.int .u8 (y.toNat : Int)] 5)).grown hgrow (fun e => by have := (HO2.out.lt R e.symm).1; omega))
              have HC4 := Lib.hid (Ch.row HC2.out hgrow (fun b e => (HO2.out.lt b e).1))
              clear hown' hgrow
              go_roundw
              case rel => exact ⟨q2, rs2, out ++ [y], H4.out, HA2.out, HN4.out, HE2.out, by simp; omega, HC4.out⟩
              case measure => exact left_lt HR.out H4.out (by omega) hq1
          · have e92 : ((x.toNat : Int) == 92) = false := n8 (k := 92) (by decide) h92
            by_cases hpl : 32 ≤ x.toNat ∧ x.toNat ≤ 126
            · rw [strR_plain rs out h34 h92 hpl] at hE
              obtain ⟨p32, p126⟩ := hpl
              have HE2 := Lib.hid hE
              have H2 := H1
              have HC2 := HC1
              have HO2 := HO1
              have hsz2 := HC2.out.size
              have HA2 := Lib.hid hqn
              simp only [List.length_cons] at hlen
              clear hE h34 h92 H1 HC1 HO1 hqn
              obtain ⟨w2, hw2⟩ : ∃ w2, w2 = w1 := ⟨_, rfl⟩
              subst hw2
              go_wp2_with (at_builtin; refine wpList_append_own _ rfl _ _ 70 rfl W.heap.size 5 i0 (.int .u8 0) 1 1 Tryd.underlying70 hi hz0 hz1 hz2 rfl (by decide) _ _ _ rfl (HO2.out.alloc _) ⟨w2.heap.size, 0, none⟩ 1 1 [.int .u8 (x.toNat : Int)] rfl rfl (cell_one_new _ _ _) (one_u8v _) (by unfold maxLen; omega) (by omega) (by simp; omega) ?_; intro v' w4 hown' hgrow _)
              have HN4 := Lib.hid (u8_snoc hown')
              have H4 := Lib.hid ((H2.out.al (.cells #[.int .u8 (x.toNat : Int)] 5)).grown hgrow (fun e => by have := (HO2.out.lt R e.symm).1; omega))
              have HC4 := Lib.hid (Ch.row HC2.out hgrow (fun b e => (HO2.out.lt b e).1))
              clear hown' hgrow
              go_roundw
              case rel => exact ⟨q + 1, rs, out ++ [x], H4.out, HA2.out, HN4.out, HE2.out, by simp; omega, HC4.out⟩
              case measure => exact left_lt HR.out H4.out (by omega) hq1
            · rw [strR_other rs out h34 h92 hpl] at hE
              have HE := Lib.hid (show res.1 = 3 by rw [← hE])
              have HB := Lib.hid (HFB.out w1 (q + 1) rs H1.out hqn HC1.out HE.out)
              have hlo : x.toNat < 32 ∨ (32 ≤ x.toNat ∧ 126 < x.toNat) := by omega
              clear hE h34 h92 hpl
              rcases hlo with hlo | ⟨hlo, hlo2⟩
              all_goals
                go_wp2_with fail
                refine HB.out.mono ?_
                rintro e w3 ⟨rfl, hT⟩
                have HT := Lib.hid hT
                clear hT
                go_wp2
                go_ret
                exact HT.out
end Go.Proofs.YtjakkmjipglkiaaDoor.Rd
