
/-
  Plainly: what a target and a group must be.
-/
import Derived.Test.YtmaknkbmilcanaaGreatDoorGrAt
import Derived.Test.YtmaknkbmilcanaaGreatDoorUrlLaw
import Derived.Test.YtmaknkbmilcanaaGreatDoorNameWalks
namespace Go.Proofs.YtmaknkbmilcanaaGreatDoor.Gr
open Go.RowKit
open Go.Proofs.YtmaknkbmilcanaaGreatDoor.Ul
theorem PC_okG (t : List UInt8) (h : PC t = 0) : okB (PU t) = true := by
  unfold PC at h
  unfold PU
  by_cases hl : 65536 < t.length
  · simp [hl] at h
  · simp only [hl, if_false] at h ⊢
    unfold parseC at h
    cases hb : parseB t with
    | false => simp [hb] at h
    | true =>
      have hb' := hb
      unfold parseB at hb'
      simp only [Bool.and_eq_true] at hb'
      simp [parseU, hb, hb'.2]
def nofrag (u : U) : U := ⟨u.sch, u.usr, u.hst, u.prt, u.pth, u.qry, [], u.hq, false⟩
theorem nofrag_ok (u : U) (hok : okB u = true) (hw : webB u.sch = true) : okB (nofrag u) = true := by
  obtain ⟨s, us, h, p, pa, q, f, hq, hf⟩ := u
  have hw' : webB s = true := hw
  simp only [okB, headB, flagsB, hw', if_true, Bool.and_eq_true, Bool.or_eq_true, decide_eq_true_eq, webPartsB] at hok
  obtain ⟨⟨⟨⟨⟨⟨hs, hq1, hf1⟩, hpa⟩, hqr⟩, hfr⟩, hlen⟩, ⟨⟨⟨⟨hus, hh⟩, hp1, hp2⟩, hpu⟩, hsl⟩⟩ := hok
  have hl2 : (textL (nofrag ⟨s, us, h, p, pa, q, f, hq, hf⟩)).length ≤ 100 := by
    refine Nat.le_trans ?_ hlen
    simp only [textL, nofrag, hw', if_true, fragL, List.length_append]
    simp
  have e2 : onlyB [] [] = true := rfl
  show (headB _ && decide _ && (if webB s then webPartsB _ else otherPartsB _)) = true
  rw [hw', if_pos rfl, decide_eq_true hl2]
  simp only [headB, flagsB, nofrag, webPartsB, hs, hpa, hqr, e2, hh, hsl, hpu, hus]
  rcases hq1 with h1 | h1 <;> simp [h1, hp1, hp2]
theorem nofrag_same (u : U) (hok : okB u = true) (hf : u.hf = false) : nofrag u = u := by
  obtain ⟨s, us, h, p, pa, q, f, hq, hf'⟩ := u
  simp only [okB, headB, flagsB, Bool.and_eq_true, Bool.or_eq_true] at hok
  obtain ⟨⟨⟨⟨⟨⟨hs, hq1, hf1⟩, hpa⟩, hqr⟩, hfr⟩, hlen⟩, _⟩ := hok
  simp only at hf
  subst hf
  have : f = [] := by simpa using hf1
  subst this
  rfl
/-- the text of a web URL without a fragment, as the model says it -/
def urlS (t : List UInt8) : Bool := parseB t && webB (parseX t).sch && !(parseX t).hf && (textL (parseX t) == t)
/-- as the program says it -/
def urlI (t : List UInt8) : Bool := (PC t == 0) && webB (PU t).sch && (textL (nofrag (PU t)) == t)
theorem parseX_split (t : List UInt8) (hb : parseB t = true) : parseX t = splitU t ∧ okB (splitU t) = true := by
  unfold parseB at hb
  simp only [Bool.and_eq_true] at hb
  exact ⟨by simp [parseX, hb.1], hb.2⟩
theorem url_same (t : List UInt8) : urlI t = urlS t := by
  unfold urlI urlS
  cases hb : parseB t with
  | false =>
    have : (PC t == 0) = false := by unfold PC parseC; split <;> simp [hb]
    simp [this]
  | true =>
    obtain ⟨hx, hok⟩ := parseX_split t hb
    rw [hx]
    rw [← hx] at hok ⊢
    by_cases hl : 65536 < t.length
    · have h1 : (PC t == 0) = false := by simp [PC, hl]
      have h2 : (textL (parseX t) == t) = false := by
        simp only [beq_eq_false_iff_ne, ne_eq]
        intro e
        have := text_len (parseX t) hok
        rw [e] at this
        omega
      simp [h1, h2]
    · have hu : PU t = parseX t := by simp [PU, hl, parseU, hb, hx]
      have hc : (PC t == 0) = true := by simp [PC, hl, parseC, hb]
      rw [hc, hu]
      cases hw : webB (parseX t).sch with
      | false => simp
      | true =>
        cases hf : (parseX t).hf with
        | false => simp [nofrag_same _ hok hf]
        | true =>
          have : (textL (nofrag (parseX t)) == t) = false := by
            simp only [beq_eq_false_iff_ne, ne_eq]
            intro e
            have hp := (PU_back _ (nofrag_ok _ hok hw)).1
            rw [e, hu] at hp
            rw [hp] at hf
            simp [nofrag] at hf
          simp [this]
def rk (n : Int) : Bool := decide (1 ≤ n ∧ n ≤ 9)
def tgB (t : Tg) : Bool := urlS t.url && rk t.pri && rk t.wt
/-- is no target ahead of k with this address -/
def hasU (xs : List Tg) (u : List UInt8) : Bool := xs.any (fun x => x.url == u)
def tgsB : List Tg → List Tg → Bool
  | _, [] => true
  | before, t :: ts => (tgB t && !hasU before t.url) && tgsB (before ++ [t]) ts
def gpB (g : Gp) : Bool := Nm.nameB ⟨g.name.toArray⟩ && decide (1 ≤ g.age ∧ g.age ≤ 100) && decide (1 ≤ g.tgs.length ∧ g.tgs.length ≤ 4) && tgsB [] g.tgs
theorem tgsB_drop {xs : List Tg} (k : Nat) (hx : k < xs.length) : tgsB (xs.take k) (xs.drop k) = ((tgB (xs.getD k default) && !hasU (xs.take k) (xs.getD k default).url) && tgsB (xs.take (k + 1)) (xs.drop (k + 1))) := by
  rw [List.drop_eq_getElem_cons hx, tgsB]
  have e : xs.take k ++ [xs[k]] = xs.take (k + 1) := by rw [List.take_add_one, List.getElem?_eq_getElem hx]; rfl
  rw [e]
  simp [hx]
end Go.Proofs.YtmaknkbmilcanaaGreatDoor.Gr
