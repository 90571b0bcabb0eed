
/-
  readValue, walked: whatever the depth.
-/
import Derived.Test.YtjakkmjipglkiaaDoorRdI
import Derived.Test.YtjakkmjipglkiaaDoorRdJ
namespace Go.Proofs.YtjakkmjipglkiaaDoor.Rd
open Go.RowKit
open Go.Proofs.YtjakkmjipglkiaaDoor.Rm
open Go.Proofs.YtjakkmjipglkiaaDoor.Js (J VIn)
def lstR (rd : Option (B → Int × J × B)) (bs : B) : Int × J × B :=
  match rd with
  | none => (12, default, [])
  | some rd => ((bodyR rd false 93 bs).1, .mk 5 0 [] [] (bodyR rd false 93 bs).2.1.2, (bodyR rd false 93 bs).2.2)
def objR (rd : Option (B → Int × J × B)) (bs : B) : Int × J × B :=
  match rd with
  | none => (12, default, [])
  | some rd => ((bodyR rd true 125 bs).1, .mk 6 0 [] (bodyR rd true 125 bs).2.1.1 (bodyR rd true 125 bs).2.1.2, (bodyR rd true 125 bs).2.2)
theorem valS_eq (rd : Option (B → Int × J × B)) (bs : B) : valS rd bs = if Lib.hasPrefix bs nullT then (0, .mk 1 0 [] [] [], bs.drop 4)
  else if Lib.hasPrefix bs falseT then (0, .mk 2 0 [] [] [], bs.drop 5)
  else if Lib.hasPrefix bs trueT then (0, .mk 2 1 [] [] [], bs.drop 4)
  else if Lib.hasPrefix bs [34] then ((strR bs.tail []).1, .mk 4 0 (strR bs.tail []).2.1 [] [], (strR bs.tail []).2.2)
  else if Lib.hasPrefix bs [91] then lstR rd bs.tail
  else if Lib.hasPrefix bs [123] then objR rd bs.tail
  else ((numR bs).1, .mk 3 (numR bs).2.1 [] [] [], (numR bs).2.2) := rfl
/-- take, where the text begins so or not -/
theorem take_r (R : Nat) (bs p ts : B) (r : Bool) (W : World) (h : Hd W R (rdO bs)) (hts : trim bs = ts) (hr : Lib.hasPrefix ts p = r) :
    Calls Tryd.prog 21 #[ptI R, .string ⟨p.toArray⟩] W fun e w' => e = .returned (.bool r) ∧ Hd w' R (rdO (if r then ts.drop p.length else ts)) ∧ Ch (· = R) W w' := by
  have := takeI_any R bs p W h
  rw [hts, hr] at this
  cases r with
  | true =>
    have e : Lib.trimPrefix ts p = ts.drop p.length := by unfold Lib.trimPrefix; rw [if_pos hr]
    rw [e] at this
    exact this
  | false => rw [trimP_same hr] at this; exact this
theorem valP_ok {R : Nat} {W w : World} {j : J} {r : B} {T : TypeId} {x : Value} (hv : ∀ S, VIn S w (.iface T x) j) (h : Hd w R (rdO r)) (hc : Ch (· = R) W w) : ValP R W (0, j, r) (.returned (.tuple #[.iface T x, .int .i64 0])) w :=
  ⟨_, r, rfl, fun _ => ⟨rfl, hv _⟩, .inr ⟨_, _, rfl⟩, h, hc⟩
theorem ValP.after {R : Nat} {W w w' : World} {res : Int × J × B} {e : Ending} (h : ValP R w res e w') (hc : Ch (· = R) W w) : ValP R W res e w' := by
  obtain ⟨v, r, h1, h2, h3, h4, h5⟩ := h
  have := hc.size
  exact ⟨v, r, h1, fun h0 => ⟨(h2 h0).1, (h2 h0).2.mono' fun b hb => ⟨by omega, hb.2⟩⟩, h3, h4, hc.trans h5⟩
theorem drop_one (ts : B) : ts.drop [(34 : UInt8)].length = ts.tail := by cases ts <;> simp
theorem num_small (bs : B) (h : (numR bs).1 = 0) : -9223372036854775808 ≤ (numR bs).2.1 ∧ (numR bs).2.1 ≤ 9223372036854775807 := by
  unfold numR at h ⊢
  by_cases h7 : Ul.numB (numT bs) = true
  · rw [if_pos h7] at h ⊢
    by_cases h8 : rangeB (Ul.numV (numT bs)) = true
    · rw [if_pos h8]
      simp only [rangeB, decide_eq_true_eq] at h8
      simp only []; omega
    · rw [if_neg h8] at h; cases h
  · rw [if_neg h7] at h; cases h
set_option maxRecDepth 100000 in
set_option maxHeartbeats 8000000 in
theorem valI_any (R : Nat) (oi : Int) (rd : Option (B → Int × J × B))
    (HLI : ∀ (rs : B) (w : World), Hd w R (rdO rs) → rs.length ≤ 65536 → SynV w → Calls Tryd.prog 23 #[ptI R, .int .i64 oi] w (ValP R w (lstR rd rs)))
    (HOB : ∀ (rs : B) (w : World), Hd w R (rdO rs) → rs.length ≤ 65536 → SynV w → Calls Tryd.prog 24 #[ptI R, .int .i64 oi] w (ValP R w (objR rd rs)))
    (hRg : R ≠ 2) (bs : B) (W : World) (h : Hd W R (rdO bs)) (hl : bs.length ≤ 65536) (hs : SynV W) (res : Int × J × B) (hres : valS rd (trim bs) = res) :
    Calls Tryd.prog 10 #[ptI R, .int .i64 oi] W (ValP R W res) := by
  have hlt := trim_len bs
  rw [valS_eq] at hres
  have HTT := Lib.hid (trim_trim bs)
  obtain ⟨ts, hts⟩ : ∃ ts, trim bs = ts := ⟨_, rfl⟩
  have H1 := Lib.hid (fun r hr => take_r R bs nullT ts r W h hts hr)
  rw [hts] at hres hlt HTT
  have HSV := Lib.hid (fun (w : World) (hc : Ch (· = R) W w) => show SynV w from hs.ch hc (fun e => hRg e.symm))
  have HTK := Lib.hid (fun (p : B) (r : Bool) (w : World) (h : Hd w R (rdO ts)) (hr : Lib.hasPrefix ts p = r) => take_r R ts p ts r w h HTT.out hr)
  have HLI := Lib.hid HLI
  have HOB := Lib.hid HOB
  have htl := tail_len ts
  clear h hs hts
  obtain ⟨r1, hr1⟩ : ∃ r, Lib.hasPrefix ts nullT = r := ⟨_, rfl⟩
  obtain ⟨r2, hr2⟩ : ∃ r, Lib.hasPrefix ts falseT = r := ⟨_, rfl⟩
  obtain ⟨r3, hr3⟩ : ∃ r, Lib.hasPrefix ts trueT = r := ⟨_, rfl⟩
  obtain ⟨r4, hr4⟩ : ∃ r, Lib.hasPrefix ts [34] = r := ⟨_, rfl⟩
  obtain ⟨r5, hr5⟩ : ∃ r, Lib.hasPrefix ts [91] = r := ⟨_, rfl⟩
  obtain ⟨r6, hr6⟩ : ∃ r, Lib.hasPrefix ts [123] = r := ⟨_, rfl⟩
  rw [hr1, hr2, hr3, hr4, hr5, hr6] at hres
  have K1 := Lib.hid (H1.out r1 hr1)
  have K2 := Lib.hid (fun w h => HTK.out falseT r2 w h hr2)
  have K3 := Lib.hid (fun w h => HTK.out trueT r3 w h hr3)
  have K4 := Lib.hid (fun w h => HTK.out [34] r4 w h hr4)
  have K5 := Lib.hid (fun w h => HTK.out [91] r5 w h hr5)
  have K6 := Lib.hid (fun w h => HTK.out [123] r6 w h hr6)
  clear H1 HTK hr1 hr2 hr3 hr4 hr5 hr6
  go_enter Tryd.func10, Tryd.ntmps10
  go_wp2_with fail
  refine K1.out.mono ?_
  rintro e w1 ⟨rfl, h1, c1⟩
  cases r1 with
  | true =>
    simp only [if_true] at hres h1
    subst hres
    have HF := Lib.hid (valP_ok (W := W) (fun S => VIn.null (S := S) (w := w1)) h1 c1)
    clear h1 c1
    go_wp2
    go_ret2
    exact HF.out
  | false =>
  simp only [Bool.false_eq_true, if_false] at hres h1
  have HH1 := Lib.hid h1
  have HC1 := Lib.hid c1
  clear h1 c1
  go_wp2_with fail
  refine (K2.out w1 HH1.out).mono ?_
  rintro e w2 ⟨rfl, h2, c2⟩
  have HC2 := Lib.hid (HC1.out.trans c2)
  clear c2
  cases r2 with
  | true =>
    simp only [if_true] at hres h2
    subst hres
    have HF := Lib.hid (valP_ok (W := W) (fun S => VIn.bool (S := S) (w := w2) false) h2 HC2.out)
    clear h2
    go_wp2
    go_ret2
    exact HF.out
  | false =>
  simp only [Bool.false_eq_true, if_false] at hres h2
  have HH2 := Lib.hid h2
  clear h2
  go_wp2_with fail
  refine (K3.out w2 HH2.out).mono ?_
  rintro e w3 ⟨rfl, h3, c3⟩
  have HC3 := Lib.hid (HC2.out.trans c3)
  clear c3
  cases r3 with
  | true =>
    simp only [if_true] at hres h3
    subst hres
    have HF := Lib.hid (valP_ok (W := W) (fun S => VIn.bool (S := S) (w := w3) true) h3 HC3.out)
    clear h3
    go_wp2
    go_ret2
    exact HF.out
  | false =>
  simp only [Bool.false_eq_true, if_false] at hres h3
  have HH3 := Lib.hid h3
  clear h3
  go_wp2_with fail
  refine (K4.out w3 HH3.out).mono ?_
  rintro e w4 ⟨rfl, h4, c4⟩
  have HC4 := Lib.hid (HC3.out.trans c4)
  clear c4
  cases r4 with
  | true =>
    simp only [if_true, drop_one] at hres h4
    have HX := Lib.hid (strI_any R ts.tail w4 h4 (by omega) (HSV.out w4 HC4.out) hRg _ rfl)
    have HSS := Lib.hid (fun h => strR_short (bs := ts.tail) (out := []) h)
    clear h4
    generalize strR ts.tail [] = sr at *
    go_wp2_with fail
    refine HX.out.mono ?_
    rintro e w5 ⟨t, r, rfl, ht, h5, c5⟩
    have HF := Lib.hid (show ValP R W res (.returned (.tuple #[.iface 51 (.string ⟨t.toArray⟩), .int .i64 sr.1])) w5 from by
      rw [← hres]
      refine ⟨_, r, rfl, fun h0 => ?_, .inr ⟨_, _, rfl⟩, h5, HC4.out.trans c5⟩
      obtain ⟨rfl, rfl⟩ := ht h0
      have := HSS.out h0
      exact ⟨rfl, .text _ (by omega)⟩)
    clear ht h5 c5 hres
    go_wp2
    go_ret2
    exact HF.out
  | false =>
  simp only [Bool.false_eq_true, if_false] at hres h4
  have HH4 := Lib.hid h4
  clear h4
  go_wp2_with fail
  refine (K5.out w4 HH4.out).mono ?_
  rintro e w5 ⟨rfl, h5, c5⟩
  have HC5 := Lib.hid (HC4.out.trans c5)
  clear c5
  cases r5 with
  | true =>
    simp only [if_true] at hres h5
    have h5' : Hd w5 R (rdO ts.tail) := by cases ts <;> exact h5
    have HX := Lib.hid (HLI.out ts.tail w5 h5' (by omega) (HSV.out w5 HC5.out))
    clear h5 h5'
    subst hres
    generalize lstR rd ts.tail = res at *
    go_wp2_with fail
    refine HX.out.mono ?_
    rintro e w6 hv
    have hv2 := hv.after HC5.out
    obtain ⟨v, r, rfl, hx, hf, h6, c6⟩ := hv2
    have HF := Lib.hid (show ValP R W res (.returned (.tuple #[v, .int .i64 res.1])) w6 from ⟨v, r, rfl, hx, hf, h6, c6⟩)
    clear hv hx h6 c6
    rcases hf with rfl | ⟨T, x, rfl⟩
    all_goals
      go_wp2
      go_ret2
      exact HF.out
  | false =>
  simp only [Bool.false_eq_true, if_false] at hres h5
  have HH5 := Lib.hid h5
  clear h5
  go_wp2_with fail
  refine (K6.out w5 HH5.out).mono ?_
  rintro e w6 ⟨rfl, h6, c6⟩
  have HC6 := Lib.hid (HC5.out.trans c6)
  clear c6
  cases r6 with
  | true =>
    simp only [if_true] at hres h6
    have h6' : Hd w6 R (rdO ts.tail) := by cases ts <;> exact h6
    have HX := Lib.hid (HOB.out ts.tail w6 h6' (by omega) (HSV.out w6 HC6.out))
    clear h6 h6'
    subst hres
    generalize objR rd ts.tail = res at *
    go_wp2_with fail
    refine HX.out.mono ?_
    rintro e w7 hv
    have hv2 := hv.after HC6.out
    obtain ⟨v, r, rfl, hx, hf, h7, c7⟩ := hv2
    have HF := Lib.hid (show ValP R W res (.returned (.tuple #[v, .int .i64 res.1])) w7 from ⟨v, r, rfl, hx, hf, h7, c7⟩)
    clear hv hx h7 c7
    rcases hf with rfl | ⟨T, x, rfl⟩
    all_goals
      go_wp2
      go_ret2
      exact HF.out
  | false =>
    simp only [Bool.false_eq_true, if_false] at hres h6
    have HX := Lib.hid (numI_any R ts w6 h6 (by omega))
    have HNS := Lib.hid (num_small ts)
    clear h6
    generalize numR ts = nr at *
    go_wp2_with fail
    refine HX.out.mono ?_
    rintro e w7 ⟨rfl, h7, c7⟩
    have HF := Lib.hid (show ValP R W res (.returned (.tuple #[numVl nr.1 nr.2.1, .int .i64 nr.1])) w7 from by
      rw [← hres]
      refine ⟨_, nr.2.2, rfl, fun h0 => ⟨rfl, ?_⟩, ?_, h7, HC6.out.trans c7⟩
      · have e : numVl nr.1 nr.2.1 = .iface 54 (.int .i64 nr.2.1) := by unfold numVl; rw [if_pos h0]
        rw [e]
        exact .num _ (HNS.out h0)
      · unfold numVl
        split
        · exact .inr ⟨_, _, rfl⟩
        · exact .inl rfl)
    clear h7 c7 hres
    generalize numVl nr.1 nr.2.1 = v at *
    generalize nr.1 = cc at *
    go_wp2
    go_ret2
    exact HF.out
theorem valI_go (R : Nat) (hRg : R ≠ 2) : ∀ (d : Nat), d ≤ 4 → RdV R ((4 : Int) - (d : Int)) (valR d)
  | 0, _ => fun bs w h hl hs => valI_any R _ none (fun rs w h _ _ => listI_deep R _ rs w h (by simp) _ _) (fun rs w h _ _ => objI_deep R _ rs w h (by simp) _ _) hRg bs w h hl hs _ rfl
  | d + 1, hd => fun bs w h hl hs => by
    have e : ((4 : Int) - ((d + 1 : Nat) : Int)) + 1 = (4 : Int) - (d : Int) := by omega
    have ih := valI_go R hRg d (by omega)
    rw [← e] at ih
    exact valI_any R _ (some (valR d)) (fun rs w h hl hs => listI_any R _ ⟨by omega, by omega⟩ (valR d) (valR_len d) ih rs w h hl hs hRg) (fun rs w h hl hs => objI_any R _ ⟨by omega, by omega⟩ (valR d) (valR_len d) ih rs w h hl hs hRg) hRg bs w h hl hs _ rfl
end Go.Proofs.YtjakkmjipglkiaaDoor.Rd
