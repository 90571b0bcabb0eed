
/-
  Plainly: rules, their words, and what a policy says of reports.
-/
import Derived.Test.YtmaknkbmilcanaaGreatDoorPoMem
import Derived.Test.YtmaknkbmilcanaaGreatDoorCln
import Derived.Test.YtmaknkbmilcanaaGreatDoorAnyW
namespace Go.Proofs.YtmaknkbmilcanaaGreatDoor.Po
open Go.RowKit
open Go.Proofs.YtmaknkbmilcanaaGreatDoor.Tx
open Go.Proofs.YtmaknkbmilcanaaGreatDoor.Ul
open Go.Proofs.YtmaknkbmilcanaaGreatDoor.Cl
open Go.Proofs.YtmaknkbmilcanaaGreatDoor.Aw (nowB wordB)
/-! ### How long a text is that is a web URL -/
theorem split_len (l : List UInt8) (c : Nat) : l.length ≤ (befL l c).length + (1 + (aftL l c).length) := by
  have := findB_le l c
  simp only [befL, aftL, List.length_take, List.length_drop]
  omega
theorem num_len (l : List UInt8) (h : numB l = true) : l.length ≤ 19 := by
  unfold numB at h
  have h2 : (absL l).length ≤ 18 := by
    by_cases hh : 18 < (absL l).length
    · rw [digs_long _ _ hh] at h; cases h
    · omega
  have : l.length ≤ (absL l).length + 1 := by
    unfold absL
    cases l with
    | nil => simp
    | cons a r => split <;> simp
  omega
theorem parse_len (t : List UInt8) (hb : parseB t = true) (hw : webB (splitU t).sch = true) : t.length ≤ 65536 := by
  unfold parseB at hb
  simp only [Bool.and_eq_true] at hb
  obtain ⟨hs, hok⟩ := hb
  have hl := text_len _ hok
  unfold splitB at hs
  simp only [Bool.and_eq_true] at hs
  obtain ⟨hc, hs⟩ := hs
  have hw2 : webB (lowL (befL t 58)) = true := by
    unfold splitU at hw
    cases h : webB (lowL (befL t 58)) with
    | true => rfl
    | false => rw [h] at hw; simp [otherU, h] at hw
  rw [hw2] at hs
  simp only [Bool.not_true, Bool.false_or, Bool.and_eq_true] at hs
  obtain ⟨-, hs⟩ := hs
  have e : splitU t = webU (lowL (befL t 58)) ((aftL t 58).drop 2) := by unfold splitU; rw [hw2]; rfl
  rw [e] at hok hl
  have h1 := split_len t 58
  have h2 : (aftL t 58).length ≤ ((aftL t 58).drop 2).length + 2 := by simp; omega
  have h0 := low_len (befL t 58)
  generalize lowL (befL t 58) = sc at *
  generalize (aftL t 58).drop 2 = r at *
  have h3 := split_len r 35
  have h4 := split_len (befL r 35) 63
  have h5 := split_len (beforeQ r) 47
  have h5' : befL (befL r 35) 63 = beforeQ r := rfl
  rw [h5'] at h4
  have h6 : (befL (beforeQ r) 47).length ≤ (userOf (befL (beforeQ r) 47)).length + (1 + (siteOf r).length) := by
    unfold siteOf userOf behindUser
    split
    · exact split_len _ _
    · omega
  have h7 : (siteOf r).length ≤ (befL (siteOf r) 58).length + 20 := by
    by_cases hx : hasB (siteOf r) 58 = true
    · have := split_len (siteOf r) 58
      have hn : numB (aftL (siteOf r) 58) = true := by
        unfold webSplitB at hs
        rw [hx] at hs
        simp only [Bool.not_true, Bool.false_or, portOKB, Bool.and_eq_true] at hs
        exact hs.1.1
      have := num_len _ hn
      omega
    · rw [bef_none _ _ (by simpa using hx)]
      omega
  have h8 := low_len (befL (siteOf r) 58)
  have hq : (aftL (befL r 35) 63).length ≤ (queryL (hasB (befL r 35) 63) (aftL (befL r 35) 63)).length := by
    cases hx : hasB (befL r 35) 63 with
    | true => simp [queryL]
    | false => rw [aft_none _ _ hx]; simp
  have hf : (aftL r 35).length ≤ (fragL (hasB r 35) (aftL r 35)).length := by
    cases hx : hasB r 35 with
    | true => simp [fragL]
    | false => rw [aft_none _ _ hx]; simp
  have hu : (userOf (befL (beforeQ r) 47)).length ≤ (userL (userOf (befL (beforeQ r) 47))).length := by
    unfold userL; split <;> simp
    rename_i h; simp [h]
  have ht : sc.length + (userL (userOf (befL (beforeQ r) 47))).length + (lowL (befL (siteOf r) 58)).length + (1 + (aftL (beforeQ r) 47).length) + (queryL (hasB (befL r 35) 63) (aftL (befL r 35) 63)).length + (fragL (hasB r 35) (aftL r 35)).length ≤ (textL (webU sc r)).length := by
    unfold textL
    simp only [webU, hw2, if_true, List.length_append, List.length_cons]
    omega
  omega
/-! ### The clean URL, as the model says it, is that of the program -/
def cleanSC (t : List UInt8) : Bool := parseB t && webB (parseX t).sch
def cleanSL (t : List UInt8) : List UInt8 := if cleanSC t then textL (nofrag (parseX t)) else []
theorem clean_same (t : List UInt8) : cleanSC t = cleanC t ∧ cleanSL t = cleanL t := by
  have e : cleanSC t = cleanC t ∧ (cleanSC t = true → PU t = parseX t) := by
    unfold cleanSC cleanC
    cases hb : parseB t with
    | false =>
      have : (PC t == 0) = false := by unfold PC parseC; split <;> simp [hb]
      simp [this]
    | true =>
      obtain ⟨hx, hok⟩ := parseX_split t hb
      by_cases hl : 65536 < t.length
      · have h1 : (PC t == 0) = false := by simp [PC, hl]
        have h2 : webB (parseX t).sch = false := by
          cases h : webB (parseX t).sch with
          | false => rfl
          | true => rw [hx] at h; have := parse_len t hb h; omega
        simp [h1, h2]
      · have hu : PU t = parseX t := by simp [PU, hl, parseU, hb, hx]
        have hc : (PC t == 0) = true := by simp [PC, hl, parseC, hb]
        simp [hu, hc]
  refine ⟨e.1, ?_⟩
  unfold cleanSL cleanL
  rw [← e.1]
  cases h : cleanSC t with
  | false => simp
  | true => simp [e.2 h]
theorem cleanL_len (t : List UInt8) : (cleanL t).length ≤ 100 := by
  unfold cleanL
  split
  · rename_i h
    simp only [cleanC, Bool.and_eq_true, beq_iff_eq] at h
    exact text_len _ (nofrag_ok _ (PC_okG t h.1) h.2)
  · simp
/-! ### Rules -/
def lowB (b : UInt8) : Bool := decide (97 ≤ b.toNat) && decide (b.toNat ≤ 122)
def rnB : Nat → List UInt8 → Bool
  | _, [] => true
  | k, b :: r => (lowB b || (b == 45 && !(k == 0))) && rnB (k + 1) r
def rnameB (t : List UInt8) : Bool := decide (1 ≤ t.length ∧ t.length ≤ 24) && rnB 0 t


def hasN (xs : List Rl) (n : List UInt8) : Bool := xs.any (fun x => x.name == n)
def rlB (r : Rl) : Bool := (rnameB r.name && decide (r.words.length ≤ 8)) && r.words.all wordB
def rlsB : List Rl → List Rl → Bool
  | _, [] => true
  | before, r :: rs => (rlB r && !hasN before r.name) && rlsB (before ++ [r]) rs
theorem rlsB_drop {xs : List Rl} (k : Nat) (hx : k < xs.length) : rlsB (xs.take k) (xs.drop k) = ((rlB (xs.getD k default) && !hasN (xs.take k) (xs.getD k default).name) && rlsB (xs.take (k + 1)) (xs.drop (k + 1))) := by
  rw [List.drop_eq_getElem_cons hx, rlsB]
  have e : xs.take k ++ [xs[k]] = xs.take (k + 1) := by rw [List.take_add_one, List.getElem?_eq_getElem hx]; rfl
  rw [e]
  simp [hx]
def atN (u : List UInt8) : Nat → List Rl → Int
  | _, [] => -1
  | k, x :: r => if (x.name == u) = true then (k : Int) else atN u (k + 1) r
theorem atN_drop (u : List UInt8) {xs : List Rl} (k : Nat) (hx : k < xs.length) : atN u k (xs.drop k) = if ((xs.getD k default).name == u) = true then (k : Int) else atN u (k + 1) (xs.drop (k + 1)) := by
  rw [List.drop_eq_getElem_cons hx, atN]; simp [hx]
theorem at_spec (u : List UInt8) : ∀ (xs : List Rl) (k j : Nat), k < xs.length → (xs.getD k default).name = u → (hasN (xs.take k) u = false → atN u j xs = ((j + k : Nat) : Int)) ∧ (hasN (xs.take k) u = true → atN u j xs < ((j + k : Nat) : Int))
  | [], k, j, h, _ => by simp at h
  | x :: r, 0, j, _, he => by
    have e : x.name = u := by simpa using he
    refine ⟨fun _ => by simp [atN, e], fun h => by simp [hasN] at h⟩
  | x :: r, k + 1, j, h, he => by
    have ih := at_spec u r k (j + 1) (by simpa using h) (by simpa using he)
    cases hx : (x.name == u) with
    | true =>
      have hh : hasN ((x :: r).take (k + 1)) u = true := by simp [hasN, hx]
      refine ⟨fun h2 => by rw [hh] at h2; simp at h2, fun _ => ?_⟩
      simp only [atN, hx, if_true]
      omega
    | false =>
      have hh : hasN ((x :: r).take (k + 1)) u = hasN (r.take k) u := by simp [hasN, hx]
      rw [hh]
      simp only [atN, hx]
      refine ⟨fun h2 => ?_, fun h2 => ?_⟩
      · have := ih.1 h2; simp only [Bool.false_eq_true, if_false]; omega
      · have := ih.2 h2; simp only [Bool.false_eq_true, if_false]; omega
theorem at_has (xs : List Rl) (k : Nat) (hk : k < xs.length) : (atN (xs.getD k default).name 0 xs != (k : Int)) = hasN (xs.take k) (xs.getD k default).name := by
  have h := at_spec (xs.getD k default).name xs k 0 hk rfl
  generalize (xs.getD k default).name = u at *
  generalize atN u 0 xs = ai at *
  cases hh : hasN (xs.take k) u with
  | false => have := h.1 hh; simp; omega
  | true => have := h.2 hh; simp; omega
/-- the words of the first rule of that name -/
def wordsOf (n : List UInt8) : List Rl → List (List UInt8)
  | [] => []
  | x :: r => if (x.name == n) = true then x.words else wordsOf n r
theorem at_words (n : List UInt8) : ∀ (xs : List Rl) (j : Nat), (atN n j xs = -1 ∧ wordsOf n xs = []) ∨ ∃ k : Nat, k < xs.length ∧ atN n j xs = ((j + k : Nat) : Int) ∧ wordsOf n xs = (xs.getD k default).words
  | [], j => Or.inl ⟨rfl, rfl⟩
  | x :: r, j => by
    cases hx : (x.name == n) with
    | true => exact Or.inr ⟨0, by simp, by simp [atN, hx], by simp [wordsOf, hx]⟩
    | false =>
      rcases at_words n r (j + 1) with ⟨h1, h2⟩ | ⟨k, hk, h1, h2⟩
      · exact Or.inl ⟨by simp [atN, hx, h1], by simp [wordsOf, hx, h2]⟩
      · refine Or.inr ⟨k + 1, by simpa using hk, ?_, by simp [wordsOf, hx, h2]⟩
        simp only [atN, hx, Bool.false_eq_true, if_false, h1]
        omega
/-- "report-to", "report-uri" -/
def rtoL : List UInt8 := [114, 101, 112, 111, 114, 116, 45, 116, 111]
def ruriL : List UInt8 := [114, 101, 112, 111, 114, 116, 45, 117, 114, 105]
def firstN : List (List UInt8) → List UInt8
  | [] => []
  | w :: _ => if Nm.nameB ⟨w.toArray⟩ then w else []
def addU (us : List (List UInt8)) (t : List UInt8) : List (List UInt8) := if (cleanC t && !us.contains (cleanL t)) && decide (us.length < 4) then us ++ [cleanL t] else us
def urisOf (ws : List (List UInt8)) : List (List UInt8) := ws.foldl addU []
def makeP (xs : List Rl) : Pl := ⟨firstN (wordsOf rtoL xs), urisOf (wordsOf ruriL xs), xs⟩
def plB (p : Pl) : Bool := decide (p.rules.length ≤ 8) && (rlsB [] p.rules && ((p.rep == (makeP p.rules).rep) && (p.uris == (makeP p.rules).uris)))
theorem addU_len (us : List (List UInt8)) (t : List UInt8) (h : us.length ≤ 4) : (addU us t).length ≤ 4 := by
  unfold addU
  split
  · rename_i hh; simp only [Bool.and_eq_true, decide_eq_true_eq] at hh; simp; omega
  · exact h
theorem uris_take (ws : List (List UInt8)) (k : Nat) (hk : k < ws.length) : (ws.take (k + 1)).foldl addU [] = addU ((ws.take k).foldl addU []) (ws.getD k []) := by
  rw [List.take_succ_eq_append_getElem hk, List.foldl_append]
  simp [hk]
/-! ### What has been seen -/
def seenU (f : List UInt8 → Bool) (us : List (List UInt8)) : Prop := us.length < 4 → ∀ t, f t = us.contains t
end Go.Proofs.YtmaknkbmilcanaaGreatDoor.Po
