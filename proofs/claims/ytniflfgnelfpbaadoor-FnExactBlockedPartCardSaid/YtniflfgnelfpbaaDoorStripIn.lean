
/-
  StripUrl and OriginOf in one, of the program and of the model; what the stripped URL is, plainly.
-/
import Derived.Test.YtniflfgnelfpbaaDoorUrlLawG
import Derived.Test.YtniflfgnelfpbaaDoorUrlRound
namespace Go.Proofs.YtniflfgnelfpbaaDoor.Ul
open Go.RowKit
def orgO (u : U) : List UInt8 := if okB u then (if webB u.sch then siteL u.sch u.hst u.prt else []) else []
def orgC (u : U) : Int := if okB u then (if webB u.sch then 0 else 11) else 1
theorem iOrigin_any (u : U) (w : World) (hT : Tab w) (hl : sizeU u ≤ 4611686018427387904) : Calls Tryd.prog 64 #[uV u] w fun e w' => e = .returned (.tuple #[.string ⟨(orgO u).toArray⟩, .int .i64 (orgC u)]) ∧ Below w.heap.size w w' := by
  cases hok : okB u with
  | false =>
    have e1 : orgO u = [] := by simp [orgO, hok]
    have e2 : orgC u = 1 := by simp [orgC, hok]
    rw [e1, e2]
    exact iOrigin_no u.sch u.usr u.hst u.pth u.qry u.frg u.prt u.hq u.hf w hT hl hok
  | true =>
    cases hw : webB u.sch with
    | true =>
      have e1 : orgO u = siteL u.sch u.hst u.prt := by simp [orgO, hok, hw]
      have e2 : orgC u = 0 := by simp [orgC, hok, hw]
      rw [e1, e2]
      exact iOrigin_web u.sch u.usr u.hst u.pth u.qry u.frg u.prt u.hq u.hf w hT hl hok hw
    | false =>
      have e1 : orgO u = [] := by simp [orgO, hok, hw]
      have e2 : orgC u = 11 := by simp [orgC, hok, hw]
      rw [e1, e2]
      exact iOrigin_other u.sch u.usr u.hst u.pth u.qry u.frg u.prt u.hq u.hf w hT hl hok hw
/-! ### Plainly: the stripped URL -/
def bare (u : U) : U := ⟨u.sch, [], u.hst, u.prt, u.pth, u.qry, [], u.hq, false⟩
def meU (u : U) : U := ⟨u.sch, [109, 101], u.hst, u.prt, u.pth, u.qry, u.frg, u.hq, u.hf⟩
theorem bare_ok (u : U) (hok : okB u = true) (hw : webB u.sch = true) : okB (bare u) = true := by
  obtain ⟨s, us, h, p, pa, q, f, hq, hf⟩ := u
  have hw' : webB s = true := hw
  simp only [okB, headB, flagsB, hw', if_true, Bool.and_eq_true, Bool.or_eq_true, decide_eq_true_eq, webPartsB] at hok
  obtain ⟨⟨⟨⟨⟨⟨hs, hq1, hf1⟩, hpa⟩, hqr⟩, hfr⟩, hlen⟩, ⟨⟨⟨⟨hus, hh⟩, hp1, hp2⟩, hpu⟩, hsl⟩⟩ := hok
  have hl2 : (textL (bare ⟨s, us, h, p, pa, q, f, hq, hf⟩)).length ≤ 100 := by
    refine Nat.le_trans ?_ hlen
    simp only [textL, bare, hw', if_true, userL, fragL, List.length_append]
    simp
    omega
  have e1 : onlyB [] [47, 63, 35, 64] = true := rfl
  have e2 : onlyB [] [] = true := rfl
  show (headB _ && decide _ && (if webB s then webPartsB _ else otherPartsB _)) = true
  rw [hw', if_pos rfl, decide_eq_true hl2]
  simp only [headB, flagsB, bare, webPartsB, hs, hpa, hqr, e1, e2, hh, hsl, hpu]
  rcases hq1 with h1 | h1 <;> simp [h1, hp1, hp2]
theorem bare_text (u : U) (hw : webB u.sch = true) : stripL u = textL (bare u) ∧ stripL (bare u) = textL (bare u) ∧ stripL (meU u) = textL (bare u) := by
  have h1 : webB (bare u).sch = true := hw
  have h2 : webB (meU u).sch = true := hw
  exact ⟨by rw [stripL, if_pos hw]; rfl, by rw [stripL, if_pos h1]; rfl, by rw [stripL, if_pos h2]; rfl⟩
theorem PU_back (u : U) (hok : okB u = true) : PU (textL u) = u ∧ PC (textL u) = 0 ∧ ¬ 65536 < (textL u).length := by
  obtain ⟨h1, h2⟩ := parse_back u hok
  have hl := text_len u hok
  have h : ¬ 65536 < (textL u).length := by omega
  exact ⟨by simp [PU, h, h2], by simp [PC, h, parseC, h1], h⟩
theorem ok_fields (u : U) (hok : okB u = true) (hw : webB u.sch = true) : 0 ≤ u.prt ∧ u.prt ≤ 65535 := ok_port u.sch u.usr u.hst u.pth u.qry u.frg u.prt u.hq u.hf hok hw
/-- all that the law wants of a web URL that is OK, of its stripped fellow and of the one with another user -/
theorem strip_facts (u : U) (hok : okB u = true) (hw : webB u.sch = true) :
    ∃ s o : List UInt8, stripO u = s ∧ stripC u = 0 ∧ orgO u = o ∧ orgC u = 0 ∧ stripO (bare u) = s ∧ stripC (bare u) = 0 ∧ PU s = bare u ∧ PC s = 0 ∧ orgO (bare u) = o ∧ orgC (bare u) = 0 ∧ ST s = s ∧ s.length ≤ 65536 ∧ ((stripO (meU u) = s ∧ stripC (meU u) = 0) ∨ (stripO (meU u) = [] ∧ stripC (meU u) = 1)) := by
  have hb := bare_ok u hok hw
  have hwb : webB (bare u).sch = true := hw
  obtain ⟨t1, t2, t3⟩ := bare_text u hw
  obtain ⟨p1, p2, p3⟩ := PU_back (bare u) hb
  refine ⟨textL (bare u), siteL u.sch u.hst u.prt, by simp [stripO, hok, t1], by simp [stripC, hok], by simp [orgO, hok, hw], by simp [orgC, hok, hw], by simp [stripO, hb, t2], by simp [stripC, hb], p1, p2, by simp [orgO, hb, hwb]; rfl, by simp [orgC, hb, hwb], by rw [st_pu, p1]; simp [stripO, hb, t2], by omega, ?_⟩
  cases hm : okB (meU u) with
  | true => exact Or.inl ⟨by simp [stripO, hm, t3], by simp [stripC, hm]⟩
  | false => exact Or.inr ⟨by simp [stripO, hm], by simp [stripC, hm]⟩
/-- and of one of another kind -/
theorem other_facts (u : U) (hok : okB u = true) (hw : webB u.sch = false) : stripO u = u.sch ∧ stripC u = 0 ∧ orgO u = [] ∧ orgC u = 11 := by
  refine ⟨by simp [stripO, hok, stripL, hw], by simp [stripC, hok], by simp [orgO, hok, hw], by simp [orgC, hok, hw]⟩
end Go.Proofs.YtniflfgnelfpbaaDoor.Ul
