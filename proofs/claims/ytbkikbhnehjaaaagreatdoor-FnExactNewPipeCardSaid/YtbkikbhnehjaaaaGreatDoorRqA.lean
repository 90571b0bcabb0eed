
/-
  Plainly: a policy read from its text: the parts between the signs, the words of a part, the rules that count. isHeaderSpace, walked at every rune: whether it is a space or a tab. Own rows of texts and of rules: written over by the laws' marks, looked at again. The model's l00Cut, l04Words, l04Read and ReadPolicy, walked. The model's l04Read and ReadPolicy, walked.
-/
import Derived.Test.YtbkikbhnehjaaaaGreatDoorPoPlain
import Derived.Lib.FieldsP
import Derived.Lib.SplitLaws
import Derived.Test.YtbkikbhnehjaaaaGreatDoorAnyW
import Derived.Test.YtbkikbhnehjaaaaGreatDoorPoW
import Derived.Laws.AppendOwn
import Derived.Laws.OwnMore
import Derived.BigQuiet
import Derived.Deep.AppendLies
import Derived.Deep.RegionLaw
namespace Go.Proofs.YtbkikbhnehjaaaaGreatDoor.Rp
open Go.RowKit
open Go.Proofs.YtbkikbhnehjaaaaGreatDoor.Po
open Go.Proofs.YtbkikbhnehjaaaaGreatDoor.Ul (lowL low_len)
open Go.Proofs.YtbkikbhnehjaaaaGreatDoor.Aw (nowB wordB)
/-! ### The parts between the signs c -/
def cutA (c : UInt8) : List UInt8 → List UInt8 → List (List UInt8)
  | cur, [] => [cur]
  | cur, b :: r => if b = c then cur :: cutA c [] r else cutA c (cur ++ [b]) r
def consH (p : List UInt8) : List (List UInt8) → List (List UInt8)
  | [] => []
  | h :: t => (p ++ h) :: t
theorem cutA_pre (c : UInt8) (p : List UInt8) : ∀ (s cur : List UInt8), cutA c (p ++ cur) s = consH p (cutA c cur s)
  | [], cur => rfl
  | b :: r, cur => by
    by_cases e : b = c
    · simp [cutA, e, consH]
    · simp only [cutA, if_neg e]
      rw [← cutA_pre c p r (cur ++ [b]), List.append_assoc]
theorem splitK_other (b c : UInt8) (h : b ≠ c) (r : List UInt8) : ∀ k, Lib.splitK [c] 0 k (b :: r) = consH [b] (Lib.splitK [c] 0 k r)
  | 0 => rfl
  | k + 1 => by
    have hp : ([c] : List UInt8).isPrefixOf (b :: r) = false := by simp [List.isPrefixOf, Ne.symm h]
    have hix : Lib.index (b :: r) [c] = if Lib.index r [c] == -1 then -1 else Lib.index r [c] + 1 := by rw [Lib.index, hp]; simp
    by_cases hm : Lib.index r [c] = -1
    · simp [Lib.splitK, hix, hm, consH]
    · have hge := Lib.index_ge r [c]
      obtain ⟨j, hj⟩ : ∃ j : Nat, Lib.index r [c] = j := ⟨(Lib.index r [c]).toNat, by omega⟩
      have hix' : Lib.index (b :: r) [c] = ((j + 1 : Nat) : Int) := by rw [hix, if_neg (fun e => hm (beq_iff_eq.1 e)), hj]; omega
      have n1 : ¬ ((((j + 1 : Nat) : Int)) == -1) = true := fun e => by have := beq_iff_eq.1 e; omega
      have n2 : ¬ (((j : Nat) : Int) == -1) = true := fun e => by have := beq_iff_eq.1 e; omega
      have t1 : (((j + 1 : Nat) : Int)).toNat = j + 1 := rfl
      have t2 : (((j : Nat) : Int)).toNat = j := rfl
      rw [Lib.splitK, Lib.splitK, hix', hj, if_neg n1, if_neg n2, t1, t2]
      simp [consH]
theorem split_cut (c : UInt8) : ∀ s : List UInt8, Lib.splitK [c] 0 (Lib.count s [c]) s = cutA c [] s
  | [] => by rw [Lib.count_miss (by simp [Lib.index])]; rfl
  | b :: r => by
    by_cases h : b = c
    · subst h
      have hix : Lib.index (b :: r) [b] = ((0 : Nat) : Int) := by rw [Lib.index]; simp [List.isPrefixOf]
      rw [Lib.count_cons_eq, show 1 + Lib.count r [b] = Lib.count r [b] + 1 by omega, Lib.splitK, hix]
      have ih := split_cut b r
      simp [cutA, ih]
    · rw [Lib.count_cons_ne b c r h, splitK_other b c h r, split_cut c r]
      have := cutA_pre c [b] r []
      simp only [List.append_nil] at this
      rw [← this]
      simp [cutA, if_neg h]
theorem cutA_all (c : UInt8) : ∀ (s cur : List UInt8), (∀ b ∈ cur, b ≠ c) → ∀ p ∈ cutA c cur s, ∀ b ∈ p, b ≠ c
  | [], cur, hc, p, hp => by simp [cutA] at hp; subst hp; exact hc
  | b :: r, cur, hc, p, hp => by
    by_cases e : b = c
    · simp only [cutA, if_pos e, List.mem_cons] at hp
      rcases hp with rfl | hp
      · exact hc
      · exact cutA_all c r [] (by simp) p hp
    · simp only [cutA, if_neg e] at hp
      exact cutA_all c r (cur ++ [b]) (fun x hx => by
        rcases List.mem_append.1 hx with h | h
        · exact hc x h
        · simp at h; subst h; exact e) p hp
theorem cutA_len (c : UInt8) : ∀ (s cur : List UInt8), (cutA c cur s).length ≤ s.length + 1 ∧ ∀ p ∈ cutA c cur s, p.length ≤ cur.length + s.length
  | [], cur => ⟨by simp [cutA], by simp [cutA]⟩
  | b :: r, cur => by
    by_cases e : b = c
    · obtain ⟨h1, h2⟩ := cutA_len c r []
      simp only [cutA, if_pos e, List.length_cons, List.mem_cons]
      refine ⟨by omega, fun p hp => ?_⟩
      rcases hp with rfl | hp
      · omega
      · have := h2 p hp; simp at this; omega
    · obtain ⟨h1, h2⟩ := cutA_len c r (cur ++ [b])
      simp only [cutA, if_neg e, List.length_cons]
      refine ⟨by omega, fun p hp => ?_⟩
      have := h2 p hp; simp at this; omega
/-! ### The words of a part -/
def blkB (b : UInt8) : Bool := b == 32 || b == 9
def blkP (n : Nat) : Bool := n == 32 || n == 9
def wordsA : List UInt8 → List UInt8 → List (List UInt8)
  | cur, [] => if cur.isEmpty then [] else [cur]
  | cur, b :: r => if blkB b then (if cur.isEmpty then wordsA [] r else cur :: wordsA [] r) else wordsA (cur ++ [b]) r
theorem wordsA_run : ∀ (m cur r : List UInt8), (∀ b ∈ m, blkB b = false) → wordsA cur (m ++ r) = wordsA (cur ++ m) r
  | [], cur, r, _ => by simp
  | b :: m, cur, r, h => by
    have h0 := h b (by simp)
    have ih := wordsA_run m (cur ++ [b]) r (fun x hx => h x (by simp [hx]))
    simp only [List.cons_append, wordsA, h0, Bool.false_eq_true, if_false, ih]
    simp
theorem wordsA_all (q : UInt8 → Bool) : ∀ (s cur : List UInt8), (∀ b ∈ cur, q b = true) → (∀ b ∈ s, blkB b = false → q b = true) → ∀ w ∈ wordsA cur s, w.isEmpty = false ∧ ∀ b ∈ w, q b = true
  | [], cur, hc, _, w, hw => by
    cases he : cur.isEmpty with
    | true => simp [wordsA, he] at hw
    | false => simp [wordsA, he] at hw; subst hw; exact ⟨he, hc⟩
  | b :: r, cur, hc, hs, w, hw => by
    have hr : ∀ x ∈ r, blkB x = false → q x = true := fun x hx => hs x (by simp [hx])
    cases hb : blkB b with
    | true =>
      simp only [wordsA, hb, if_true] at hw
      cases he : cur.isEmpty with
      | true => simp only [he, if_true] at hw; exact wordsA_all q r [] (by simp) hr w hw
      | false =>
        simp only [he, Bool.false_eq_true, if_false, List.mem_cons] at hw
        rcases hw with rfl | hw
        · exact ⟨he, hc⟩
        · exact wordsA_all q r [] (by simp) hr w hw
    | false =>
      simp only [wordsA, hb, Bool.false_eq_true, if_false] at hw
      exact wordsA_all q r (cur ++ [b]) (fun x hx => by
        rcases List.mem_append.1 hx with h | h
        · exact hc x h
        · simp at h; subst h; exact hs x (by simp) hb) hr w hw
theorem wordsA_len : ∀ (s cur : List UInt8), (wordsA cur s).length ≤ s.length + 1 ∧ ∀ p ∈ wordsA cur s, p.length ≤ cur.length + s.length
  | [], cur => by
    cases he : cur.isEmpty <;> simp [wordsA, he]
  | b :: r, cur => by
    obtain ⟨h1, h2⟩ := wordsA_len r []
    obtain ⟨h3, h4⟩ := wordsA_len r (cur ++ [b])
    simp only [List.length_append, List.length_cons, List.length_nil] at h2 h4
    cases hb : blkB b with
    | true =>
      cases he : cur.isEmpty with
      | true =>
        simp only [wordsA, hb, he, if_true, List.length_cons]
        exact ⟨by omega, fun p hp => by have := h2 p hp; omega⟩
      | false =>
        simp only [wordsA, hb, he, if_true, Bool.false_eq_true, if_false, List.length_cons, List.mem_cons]
        refine ⟨by omega, fun p hp => ?_⟩
        rcases hp with rfl | hp
        · omega
        · have := h2 p hp; omega
    | false =>
      simp only [wordsA, hb, Bool.false_eq_true, if_false, List.length_cons]
      exact ⟨by omega, fun p hp => by have := h4 p hp; omega⟩
theorem blk_byte (b : UInt8) : blkP b.toNat = blkB b := by
  have h : ∀ n : UInt8, (b.toNat == n.toNat) = (b == n) := fun n => by
    by_cases e : b = n
    · subst e; simp
    · have : b.toNat ≠ n.toNat := fun h => e (UInt8.toNat_inj.1 h)
      rw [beq_eq_false_iff_ne.2 this, beq_eq_false_iff_ne.2 e]
  exact congr (congrArg or (h 32)) (h 9)
theorem blk_high (b : UInt8) (h : 128 ≤ b.toNat) : blkB b = false := by
  rw [← blk_byte]; simp [blkP]; omega
theorem blkP_high (n : Nat) (h : 128 ≤ n) : blkP n = false := by simp [blkP]; omega
/-- the bytes from a on, ahead of b -/
def sl (l : List UInt8) (a b : Nat) : List UInt8 := (l.drop a).take (b - a)
def curOf (l : List UInt8) (st : Option Nat) (pos : Nat) : List UInt8 := match st with
  | none => []
  | some a => sl l a pos
theorem sl_more (l : List UInt8) (a b c : Nat) (h : a ≤ b) (h2 : b ≤ c) : sl l a b ++ sl l b c = sl l a c := by
  unfold sl
  have e : l.drop b = (l.drop a).drop (b - a) := by rw [List.drop_drop]; congr 1; omega
  rw [e, show c - a = (b - a) + (c - b) by omega, List.take_add]
theorem sl_ne (l : List UInt8) (a b : Nat) (h : a < b) (h2 : b ≤ l.length) : (sl l a b).isEmpty = false := by
  have : (sl l a b).length = b - a := by simp [sl]; omega
  cases e : sl l a b with
  | nil => rw [e] at this; simp at this; omega
  | cons _ _ => rfl
theorem drop_sl (l : List UInt8) (a b : Nat) (h : a ≤ b) : l.drop a = sl l a b ++ l.drop b := by
  unfold sl
  have e : l.drop b = (l.drop a).drop (b - a) := by rw [List.drop_drop]; congr 1; omega
  rw [e, List.take_append_drop]
abbrev pcs (l : List UInt8) (acc : List (Nat × Nat)) : List (List UInt8) := acc.map fun x => sl l x.1 x.2
theorem cur_run (l : List UInt8) (st : Option Nat) (pos n : Nat) (hst : ∀ a, st = some a → a < pos) (hn : 0 < n) : curOf l (some (st.getD pos)) (pos + n) = curOf l st pos ++ sl l pos (pos + n) := by
  cases st with
  | none => simp [curOf]
  | some a => simp only [curOf, Option.getD_some]; rw [sl_more _ _ _ _ (Nat.le_of_lt (hst a rfl)) (by omega)]
theorem spans_words (s : ByteArray) : ∀ (f pos : Nat) (st : Option Nat) (acc : List (Nat × Nat)), s.size ≤ pos + f → pos ≤ s.size → (∀ a, st = some a → a < pos) →
    pcs s.data.toList (Lib.closeSpans s (Lib.spansFromP blkP s f pos st acc)) = pcs s.data.toList acc ++ wordsA (curOf s.data.toList st pos) (s.data.toList.drop pos) := by
  have hsz : s.data.toList.length = s.size := by rw [Array.length_toList]; rfl
  have fin : ∀ (st : Option Nat) (acc : List (Nat × Nat)), (∀ a, st = some a → a < s.size) → pcs s.data.toList (Lib.closeSpans s (acc, st)) = pcs s.data.toList acc ++ wordsA (curOf s.data.toList st s.size) (s.data.toList.drop s.size) := fun st acc hst => by
    rw [List.drop_eq_nil_of_le (by omega)]
    cases st with
    | none => simp [Lib.closeSpans, curOf, wordsA]
    | some a =>
      have := sl_ne s.data.toList a s.size (hst a rfl) (by omega)
      simp [Lib.closeSpans, curOf, wordsA, this]
  intro f
  induction f with
  | zero =>
    intro pos st acc h hp hst
    obtain rfl : pos = s.size := by omega
    exact fin st acc hst
  | succ f ih =>
    intro pos st acc h hp hst
    by_cases hlt : pos < s.size
    · by_cases ha : (s[pos]'hlt).toNat < 128
      · have hd := decode_ascii s pos hlt ha
        have hg : (s[pos]'hlt) = s.data.toList[pos]'(by omega) := rfl
        have hdr : s.data.toList.drop pos = (s[pos]'hlt) :: s.data.toList.drop (pos + 1) := by
          rw [hg]; exact List.drop_eq_getElem_cons (by omega)
        simp only [Lib.spansFromP, hlt, if_true, hd, blk_byte]
        rw [hdr]
        cases hb : blkB (s[pos]'hlt) with
        | true =>
          cases st with
          | none =>
            rw [if_pos rfl, ih (pos + 1) none acc (by omega) (by omega) (fun a h => by cases h)]
            simp [curOf, wordsA, hb]
          | some a =>
            rw [if_pos rfl, ih (pos + 1) none (acc ++ [(a, pos)]) (by omega) (by omega) (fun a h => by cases h)]
            have hne := sl_ne s.data.toList a pos (hst a rfl) (by omega)
            simp [curOf, wordsA, hb, hne]
        | false =>
          have hone : sl s.data.toList pos (pos + 1) = [s[pos]'hlt] := by
            unfold sl; rw [hdr, show pos + 1 - pos = 1 by omega]; rfl
          have hcu := cur_run s.data.toList st pos 1 hst (by omega)
          rw [hone] at hcu
          have key : pcs s.data.toList (Lib.closeSpans s (Lib.spansFromP blkP s f (pos + 1) (some (st.getD pos)) acc)) = pcs s.data.toList acc ++ wordsA (curOf s.data.toList st pos) ((s[pos]'hlt) :: s.data.toList.drop (pos + 1)) := by
            rw [ih (pos + 1) (some (st.getD pos)) acc (by omega) (by omega) (fun a h => by
              cases st with
              | none => simp at h; omega
              | some x => have := hst x rfl; simp at h; omega), hcu]
            simp only [wordsA, hb, Bool.false_eq_true, if_false]
          cases st with
          | none => simpa using key
          | some a => simpa using key
      · have ha' : 128 ≤ (s[pos]'hlt).toNat := by omega
        obtain ⟨p1, p2, p3⟩ := Aw.decode_pass s pos hlt ha'
        have hd := decode_high s pos hlt ha'
        have hbp := blkP_high _ hd.1
        simp only [Lib.spansFromP, hlt, if_true]
        generalize (Utf8.decode s pos).2 = wd at *
        rw [hbp]
        have hrun : ∀ b ∈ sl s.data.toList pos (pos + wd), blkB b = false := fun b hb => by
          unfold sl at hb
          obtain ⟨i, hi, e⟩ := List.mem_iff_getElem.1 hb
          have hi2 : i < wd := by simp at hi; omega
          have hi3 : pos + i < s.size := by omega
          have e2 : b = s[pos + i]'hi3 := by
            rw [← e, List.getElem_take, List.getElem_drop]; rfl
          rw [e2]
          exact blk_high _ (p2 (pos + i) hi3 (by omega) (by omega))
        have hcu := cur_run s.data.toList st pos wd hst (by omega)
        have key : pcs s.data.toList (Lib.closeSpans s (Lib.spansFromP blkP s f (pos + wd) (some (st.getD pos)) acc)) = pcs s.data.toList acc ++ wordsA (curOf s.data.toList st pos) (s.data.toList.drop pos) := by
          rw [ih (pos + wd) (some (st.getD pos)) acc (by omega) (by omega) (fun a h => by
            cases st with
            | none => simp at h; omega
            | some x => have := hst x rfl; simp at h; omega), hcu, drop_sl s.data.toList pos (pos + wd) (by omega), wordsA_run _ _ _ hrun]
        cases st with
        | none => simpa using key
        | some a => simpa using key
    · obtain rfl : pos = s.size := by omega
      rw [Lib.spansFromP_end _ _ _ _ _ _ hlt]
      exact fin st acc hst
theorem fields_words (t : List UInt8) : (Lib.goFieldsP blkP ⟨t.toArray⟩).map (fun s => s.data.toList) = wordsA [] t := by
  have h := spans_words ⟨t.toArray⟩ (ByteArray.size ⟨t.toArray⟩) 0 none [] (by omega) (by omega) (fun a h => by cases h)
  simp only [pcs, List.map_nil, List.nil_append, curOf, List.drop_zero] at h
  rw [← h]
  unfold Lib.goFieldsP Lib.spansOfP
  rw [List.map_map]
  apply List.map_congr_left
  intro x _
  show (ByteArray.extract _ x.1 x.2).data.toList = _
  rw [Lib.extract_data]
  rfl
/-! ### Rules, and the policy -/
def ruleOf (t : List UInt8) : Option Rl := match wordsA [] t with
  | [] => none
  | w :: ws => if rnameB (lowL w) then some ⟨lowL w, ws⟩ else none
def addR (rs : List Rl) (t : List UInt8) : List Rl := match ruleOf t with
  | none => rs
  | some r => if hasN rs r.name then rs else rs ++ [r]
def readRs (t : List UInt8) : List Rl := (cutA 59 [] t).foldl addR []
def shortB (r : Rl) : Bool := decide (r.words.length ≤ 8)
def fewB (rs : List Rl) : Bool := decide (rs.length ≤ 8) && rs.all shortB
def rpC (t : List UInt8) : Int := if 65536 < t.length then 2 else if fewB (readRs t) then 0 else 6
def rpP (t : List UInt8) : Pl := if 65536 < t.length then ⟨[], [], []⟩ else if fewB (readRs t) then makeP (readRs t) else ⟨[], [], []⟩
theorem add_as (rs : List Rl) (t : List UInt8) : addR rs t = rs ∨ ∃ r, ruleOf t = some r ∧ hasN rs r.name = false ∧ addR rs t = rs ++ [r] := by
  unfold addR
  cases h : ruleOf t with
  | none => exact .inl rfl
  | some r =>
    cases h2 : hasN rs r.name with
    | true => exact .inl (by simp [h2])
    | false => exact .inr ⟨r, rfl, h2, by simp [h2]⟩
theorem few_snoc (rs : List Rl) (r : Rl) : fewB (rs ++ [r]) = (fewB rs && (decide (rs.length + 1 ≤ 8) && shortB r)) := by
  unfold fewB
  rw [List.all_append, List.length_append]
  simp only [List.length_cons, List.length_nil, List.all_cons, List.all_nil, Bool.and_true]
  by_cases h : rs.length + 1 ≤ 8
  · have h2 : rs.length ≤ 8 := by omega
    simp [h, h2]
  · simp [h]
theorem few_back (ps : List (List UInt8)) : ∀ rs, fewB (ps.foldl addR rs) = true → fewB rs = true := by
  induction ps with
  | nil => exact fun _ h => h
  | cons t r ih =>
    intro rs h
    have h2 := ih _ h
    rcases add_as rs t with e | ⟨x, _, _, e⟩
    · rwa [e] at h2
    · rw [e, few_snoc] at h2; simp only [Bool.and_eq_true] at h2; exact h2.1
theorem rls_snoc (r : Rl) : ∀ (xs pre : List Rl), rlsB pre (xs ++ [r]) = (rlsB pre xs && (rlB r && !hasN (pre ++ xs) r.name))
  | [], pre => by simp [rlsB]
  | x :: xs, pre => by
    have ih := rls_snoc r xs (pre ++ [x])
    simp only [List.cons_append, rlsB, ih, List.append_assoc, List.nil_append, Bool.and_assoc]
theorem rule_good {t : List UInt8} {r : Rl} (h : ruleOf t = some r) (h59 : ∀ b ∈ t, b ≠ 59) : rnameB r.name = true ∧ r.words.all wordB = true := by
  unfold ruleOf at h
  have hall := wordsA_all (fun b => !nowB b) t [] (by simp) (fun b hb hk => by
    have h1 := h59 b hb
    simp only [blkB, Bool.or_eq_false_iff, beq_eq_false_iff_ne] at hk
    simp [nowB, hk.1, hk.2, h1])
  split at h
  · cases h
  · rename_i w ws e
    cases hn : rnameB (lowL w) with
    | false => simp [hn] at h
    | true =>
      simp [hn] at h
      subst h
      refine ⟨hn, ?_⟩
      rw [List.all_eq_true]
      intro x hx
      obtain ⟨h1, h2⟩ := hall x (by rw [e]; simp [hx])
      have h3 : x.any nowB = false := by
        rw [List.any_eq_false]
        intro b hb
        have := h2 b hb
        simpa using this
      simp [wordB, h1, h3]
theorem read_good (ps : List (List UInt8)) (h59 : ∀ p ∈ ps, ∀ b ∈ p, b ≠ 59) : ∀ rs, rlsB [] rs = true → fewB (ps.foldl addR rs) = true → rlsB [] (ps.foldl addR rs) = true := by
  induction ps with
  | nil => exact fun _ h _ => h
  | cons t r ih =>
    intro rs h hf
    refine ih (fun p hp => h59 p (by simp [hp])) _ ?_ hf
    have hb := few_back r _ hf
    rcases add_as rs t with e | ⟨x, hx, hn, e⟩
    · rwa [e]
    · rw [e] at hb ⊢
      rw [few_snoc] at hb
      simp only [Bool.and_eq_true] at hb
      obtain ⟨g1, g2⟩ := rule_good hx (h59 t (by simp))
      have g3 : decide (x.words.length ≤ 8) = true := hb.2.2
      rw [rls_snoc, h]
      simp [rlB, g1, g2, g3, hn]
theorem readRs_good (t : List UInt8) (h : fewB (readRs t) = true) : rlsB [] (readRs t) = true :=
  read_good _ (cutA_all 59 t [] (by simp)) [] rfl h
/-- what a rule read from a part is bounded by -/
def rlim (n : Nat) (r : Rl) : Prop := r.name.length ≤ 24 ∧ r.words.length ≤ n ∧ ∀ w ∈ r.words, w.length ≤ n
theorem rule_lim {t : List UInt8} {r : Rl} {n : Nat} (h : ruleOf t = some r) (hn : t.length + 1 ≤ n) : rlim n r := by
  unfold ruleOf at h
  obtain ⟨h1, h2⟩ := wordsA_len t []
  split at h
  · cases h
  · rename_i w ws e
    rw [e] at h1 h2
    cases hb : rnameB (lowL w) with
    | false => simp [hb] at h
    | true =>
      simp [hb] at h
      subst h
      simp only [rnameB, Bool.and_eq_true, decide_eq_true_eq] at hb
      simp only [List.length_cons, List.length_nil, Nat.zero_add] at h1 h2
      exact ⟨hb.1.2, by simp only; omega, fun x hx => by have := h2 x (by simp [hx]); omega⟩
theorem read_lim (n : Nat) (ps : List (List UInt8)) (hp : ∀ p ∈ ps, p.length + 1 ≤ n) : ∀ rs, (∀ r ∈ rs, rlim n r) → (∀ r ∈ ps.foldl addR rs, rlim n r) ∧ (ps.foldl addR rs).length ≤ rs.length + ps.length := by
  induction ps with
  | nil => exact fun _ h => ⟨h, by simp⟩
  | cons t r ih =>
    intro rs h
    rcases add_as rs t with e | ⟨x, hx, hn, e⟩
    · have := ih (fun p hh => hp p (by simp [hh])) (addR rs t) (by rw [e]; exact h)
      refine ⟨this.1, ?_⟩
      have h2 := this.2
      rw [e] at h2
      simp only [List.foldl_cons, List.length_cons]
      rw [e]; omega
    · have := ih (fun p hh => hp p (by simp [hh])) (addR rs t) (by
        rw [e]
        intro y hy
        rcases List.mem_append.1 hy with hy | hy
        · exact h y hy
        · simp at hy; subst hy; exact rule_lim hx (hp t (by simp)))
      refine ⟨this.1, ?_⟩
      have h2 := this.2
      rw [e] at h2
      simp only [List.foldl_cons, List.length_cons]
      rw [e]
      simp at h2 ⊢
      omega
theorem has_at (u : List UInt8) : ∀ (xs : List Rl) (j : Nat), hasN xs u = decide (0 ≤ atN u j xs)
  | [], j => by simp [hasN, atN]
  | x :: r, j => by
    have ih := has_at u r (j + 1)
    cases hx : (x.name == u) with
    | true => simp [hasN, atN, hx]
    | false =>
      have e : hasN (x :: r) u = hasN r u := by simp [hasN, hx]
      rw [e, ih]
      simp [atN, hx]
theorem fold_take (ps : List (List UInt8)) (k : Nat) (hk : k < ps.length) : (ps.take (k + 1)).foldl addR [] = addR ((ps.take k).foldl addR []) (ps.getD k []) := by
  rw [List.take_succ_eq_append_getElem hk, List.foldl_append]
  simp [hk]
theorem fold_split (ps : List (List UInt8)) (k : Nat) : ps.foldl addR [] = (ps.drop k).foldl addR ((ps.take k).foldl addR []) := by
  rw [← List.foldl_append, List.take_append_drop]
end Go.Proofs.YtbkikbhnehjaaaaGreatDoor.Rp
namespace Go.Proofs.YtbkikbhnehjaaaaGreatDoor.Bk
open Go.RowKit
open Go.Proofs.YtbkikbhnehjaaaaGreatDoor.Aw (encode_high idx_none belDrew quiet_same2 ret_b)
open Go.Proofs.YtbkikbhnehjaaaaGreatDoor.Rp (blkP)
abbrev spS : ByteArray := ⟨#[32, 9]⟩
set_option maxRecDepth 100000 in
theorem indexSp_err (w : World) : Calls Tryz.prog 326 #[.string spS, .int .i32 65533] w fun e w' => e = .returned (.int .i64 (-1)) ∧ Below w.heap.size w w' := by
  go_enter Tryz.func326, Tryz.ntmps326
  go_wp2
  have n0 := fun ty => run_next_ascii (P := Tryz.prog) w spS 0 ty (by decide) (by decide)
  have n1 := fun ty => run_next_ascii (P := Tryz.prog) w spS 1 ty (by decide) (by decide)
  have n2 := fun ty => run_next_end (P := Tryz.prog) w spS 2 ty (by decide)
  go_loopw [176] (fun _ wr => ∃ k : Nat, k ≤ 2 ∧ wr = w.iter spS k) (fun _ wr => 2 - wr.iterPos w.heap.size)
  case atStart => exact ⟨0, by omega, rfl⟩
  case round =>
    obtain ⟨k, hk, rfl⟩ := hrel
    match k, hk with
    | 0, _ =>
      go_wp2
      go_roundw
      case rel => exact ⟨1, by omega, rfl⟩
      case measure => simp
    | 1, _ =>
      go_wp2
      go_roundw
      case rel => exact ⟨2, by omega, rfl⟩
      case measure => simp
    | 2, _ =>
      go_wp2
      go_ret
      exact ⟨rfl, (Below.refl _ _).alloc (Nat.le_refl _) _⟩
set_option maxRecDepth 100000 in
set_option maxHeartbeats 4000000 in
theorem indexSp_high (c : Nat) (h : 128 ≤ c) (hv : Utf8.valid c = true) (w : World) : Calls Tryz.prog 326 #[.string spS, .int .i32 c] w fun e w' => e = .returned (.int .i64 (-1)) ∧ Below w.heap.size w w' := by
  by_cases he : c = 65533
  · subst he; exact indexSp_err w
  obtain ⟨E, n, x, hE, hs, h1, h2, hx, hl⟩ := encode_high c h hv
  have hL := hl (by omega)
  have hcv : Lib.validRune (c : Int) = true := by
    have : Utf8.valid (c : Int) = true := hv
    simp only [Utf8.valid, Bool.or_eq_true, Bool.and_eq_true, decide_eq_true_eq] at this
    simp [Lib.validRune]
    omega
  have HV := Lib.hid (Tryz.utf8_ValidRune (c : Int))
  have d1 : decide ((0 : Int) ≤ (c : Int)) = true := by simp
  have d2 : decide ((c : Int) < 128) = false := by simp; omega
  have d3 : ((c : Int) == 65533) = false := by simp; omega
  have x1 : x ≠ 32 := by rintro rfl; simp at hx
  have x2 : x ≠ 9 := by rintro rfl; simp at hx
  have HI := Lib.hid (fun (s : ByteArray) (W : World) => Tryz.strings_IndexByte s (x.toNat : Int) W)
  have HX : ((x.toNat : Int)).toNat.toUInt8 = x := by simp
  have hcv2 : ∀ w, (convert 21 9 (.int .i32 c)).run Tryz.prog w = .ok (.string E) w := fun w => by
    rw [← hE]; exact run_convert_int_string w 21 9 .i32 c (by kernel_rfl) Tryz.underlying9
  rw [hcv] at HV
  clear hcv hv hl
  go_enter Tryz.func326, Tryz.ntmps326
  go_wp2_with (first
    | (go_at_call 354; refine (HV.out _).mono ?_; rintro e w' ⟨rfl, hw⟩; subst hw))
  have hn : ((E.size : Int)) = n + 1 := by omega
  go_step3
  go_wp2
  go_loop [9] (fun i => i = .int .i64 n) (fun _ => 0)
  case atStart => rfl
  case round =>
    subst hrel
    by_cases h3 : n = 1
    · subst h3
      have y1 : ((spS[1].toNat : Int) != (x.toNat : Int)) = true := by
        have : spS[1].toNat = 9 := by decide
        rw [this]; simp only [bne_iff_ne, ne_eq]; omega
      have z1 : Lib.indexByte (spS.extract 2 2).data.toList x = -1 := idx_none _ _ (by
        have : (spS.extract 2 2).data.toList = [] := by decide
        rw [this]; simp)
      have HI1 := Lib.hid (fun (W : World) => ((HI.out (spS.extract 2 2) W).mono (fun e w' hh => show e = .returned (.int .i64 (-1)) ∧ w' = W from ⟨by rw [hh.1, HX, z1], hh.2⟩)))
      clear HI z1 hE hcv2
      go_wp2
      go_step3
      go_wp2
      go_quiet (fail)
      go_wp2
      go_quiet ((go_at_call 353; exact quiet_same2 (HI1.out _)))
      go_wp2
      simp (config := { zetaDelta := true }) only [Exit.noGoto_ret, Exit.inBlock, Exit.then]
      go_ret
      exact ⟨rfl, belDrew (Below.refl _ _) _⟩
    · rcases (show n = 2 ∨ n = 3 by omega) with rfl | rfl
      all_goals
        go_wp2
        go_ret
        exact ⟨rfl, Below.refl _ _⟩

set_option maxRecDepth 100000 in
set_option maxHeartbeats 1000000 in
theorem indexSp_low (x : UInt8) (h : x.toNat < 128) (w : World) : Calls Tryz.prog 326 #[.string spS, .int .i32 x.toNat] w fun e w' => e = .returned (.int .i64 (Lib.indexByte [32, 9] x)) ∧ w = w' := by
  have d1 : decide ((0 : Int) ≤ (x.toNat : Int)) = true := by simp
  have d2 : decide ((x.toNat : Int) < 128) = true := by simp; omega
  have HX : ((x.toNat : Int)).toNat.toUInt8 = x := by simp
  have HI := Lib.hid (fun (W : World) => ((Tryz.strings_IndexByte spS (x.toNat : Int) W).mono (fun e w' hh => show e = .returned (.int .i64 (Lib.indexByte [32, 9] x)) ∧ W = w' from ⟨by rw [hh.1, HX], hh.2.symm⟩)))
  go_enter Tryz.func326, Tryz.ntmps326
  go_wp2_with (first
    | (go_at_call 353; refine (HI.out _).mono ?_; rintro e w' ⟨rfl, hw⟩; subst hw))
  go_ret
  exact ⟨rfl, rfl⟩
set_option maxRecDepth 100000 in
set_option maxHeartbeats 1000000 in
theorem indexSp_bad (c : Nat) (h : 128 ≤ c) (hv : Utf8.valid c = false) (w : World) : Calls Tryz.prog 326 #[.string spS, .int .i32 c] w fun e w' => e = .returned (.int .i64 (-1)) ∧ Below w.heap.size w w' := by
  have hcv : Lib.validRune (c : Int) = false := by
    have : Utf8.valid (c : Int) = false := hv
    simp only [Utf8.valid, Bool.or_eq_false_iff, Bool.and_eq_false_iff, decide_eq_false_iff_not] at this
    simp [Lib.validRune]
    omega
  have d1 : decide ((0 : Int) ≤ (c : Int)) = true := by simp
  have d2 : decide ((c : Int) < 128) = false := by simp; omega
  have d3 : ((c : Int) == 65533) = false := by
    have : c ≠ 65533 := by rintro rfl; revert hv; decide
    simp; omega
  have HV := Lib.hid (Tryz.utf8_ValidRune (c : Int))
  rw [hcv] at HV
  clear hcv hv
  go_enter Tryz.func326, Tryz.ntmps326
  go_wp2_with (first
    | (go_at_call 354; refine (HV.out _).mono ?_; rintro e w' ⟨rfl, hw⟩; subst hw))
  go_ret
  exact ⟨rfl, Below.refl _ _⟩
theorem sp_low (x : UInt8) (h : x.toNat < 128) : decide (0 ≤ Lib.indexByte [32, 9] x) = blkP x.toNat := by
  have hb := Rp.blk_byte x
  rw [hb]
  unfold Rp.blkB
  by_cases h1 : x = 32
  · subst h1; decide
  · by_cases h2 : x = 9
    · subst h2; decide
    · simp [Lib.indexByte, Ne.symm h1, Ne.symm h2, h1, h2]
theorem indexSp_any (c : Nat) (hc : c ≤ 1114111) (w : World) : Calls Tryz.prog 326 #[.string spS, .int .i32 c] w fun e w' => ∃ i : Int, e = .returned (.int .i64 i) ∧ decide (0 ≤ i) = blkP c ∧ Below w.heap.size w w' := by
  by_cases h : c < 128
  · have hx : (UInt8.ofNat c).toNat = c := by simp; omega
    have := indexSp_low (UInt8.ofNat c) (by omega) w
    rw [hx] at this
    refine this.mono ?_
    rintro e w' ⟨rfl, rfl⟩
    exact ⟨_, rfl, by rw [sp_low _ (by omega), hx], Below.refl _ _⟩
  · have hp : blkP c = false := Rp.blkP_high c (by omega)
    cases hv : Utf8.valid c with
    | true => exact (indexSp_high c (by omega) hv w).mono (by rintro e w' ⟨rfl, hb⟩; exact ⟨-1, rfl, by rw [hp]; decide, hb⟩)
    | false => exact (indexSp_bad c (by omega) hv w).mono (by rintro e w' ⟨rfl, hb⟩; exact ⟨-1, rfl, by rw [hp]; decide, hb⟩)
set_option maxRecDepth 100000 in
theorem contSp_any (c : Nat) (hc : c ≤ 1114111) (w : World) : Calls Tryz.prog 279 #[.string spS, .int .i32 c] w fun e w' => e = .returned (.bool (blkP c)) ∧ Below w.heap.size w w' := by
  have HI := Lib.hid (indexSp_any c hc w)
  go_enter Tryz.func279, Tryz.ntmps279
  go_wp2_with (go_at_call 326; refine HI.out.mono ?_; rintro e w' ⟨i, rfl, hi, hb⟩; have HI2 := Lib.hid hi; clear hi)
  go_ret
  exact ⟨ret_b HI2.out, hb⟩
set_option maxRecDepth 100000 in
theorem space_any (c : Nat) (hc : c ≤ 1114111) (w : World) : Calls Tryz.prog 203 #[.int .i32 c] w fun e w' => e = .returned (.bool (blkP c)) ∧ Below w.heap.size w w' := by
  have HI := Lib.hid (contSp_any c hc w)
  go_enter Tryz.func203, Tryz.ntmps203
  go_wp2_with (go_at_call 279; refine HI.out.mono ?_; rintro e w' ⟨rfl, hb⟩)
  go_ret
  exact ⟨rfl, hb⟩
end Go.Proofs.YtbkikbhnehjaaaaGreatDoor.Bk
namespace Go.Proofs.YtbkikbhnehjaaaaGreatDoor.Ow
open Go.RowKit
open Go.Proofs.YtbkikbhnehjaaaaGreatDoor.Po
open Go.Proofs.YtbkikbhnehjaaaaGreatDoor.Tx hiding ret_b ret_i
open Go.Proofs.YtbkikbhnehjaaaaGreatDoor.Pm
open Go.Proofs.YtbkikbhnehjaaaaGreatDoor.Ext (up up_below up_mk wp_region_ext call_ext call_ext_same call_ext_drewN)
@[local go_sem] theorem up_cellO (w : World) (y : Ext.Ext w) (b o : Nat) (h : b < w.heap.size) : (up w y).cell? ⟨b, o, none⟩ = w.cell? ⟨b, o, none⟩ := Ext.up_cell w y b o h
theorem ret_iO {a b : Int} (h : a = b) : Ending.returned (.int .i64 a) = .returned (.int .i64 b) := by rw [h]
theorem heap_set3 {w : World} {b : Nat} {a0 a1 a2 : Value} {T : TypeId} (h : w.heap[b]? = some (.cells #[a0, a1, a2] T (0, 0))) (x y z : Value) : (set3 w b 0 x y z).heap[b]? = some (.cells #[x, y, z] T (0, 0)) :=
  heap_set (heap_set (heap_set h 0 x) 1 y) 2 z
def Hd (w : World) (b : Nat) (o : Obj) : Prop := w.heap[b]? = some o
theorem Hd.lt {w : World} {b : Nat} {o : Obj} (h : Hd w b o) : b < w.heap.size := (Array.getElem?_eq_some_iff.1 h).1
theorem Hd.blw {w w' : World} {b : Nat} {o : Obj} (h : Hd w b o) (hb : Below w.heap.size w w') : Hd w' b o := (hb.block b h.lt).trans h
theorem Hd.al {w : World} {b : Nat} {o : Obj} (h : Hd w b o) (x : Obj) : Hd (w.alloc x) b o := (heap_alloc_old _ _ h.lt).trans h
theorem Hd.new (w : World) (o : Obj) : Hd (w.alloc o) w.heap.size o := heap_alloc_new _ _
theorem Hd.grown {w w' : World} {row : Option Nat} {b : Nat} {o : Obj} (h : Hd w b o) (hg : w.grownBy w' row) (hne : some b ≠ row) : Hd w' b o := (hg.block b h.lt hne).trans h
theorem Hd.cells {w : World} {g : Nat} {a b c : Value} {T : TypeId} (h : Hd w g (.cells #[a, b, c] T)) :
    w.cell? ⟨g, 0, none⟩ = some a ∧ w.cell? ⟨g, 1, none⟩ = some b ∧ w.cell? ⟨g, 2, none⟩ = some c ∧ ∀ o, w.frozen? ⟨g, o, none⟩ = false := three_cells h
/-- v is a row of the call's own from base on: the texts ns -/
def O1 (w : World) (base : Nat) (v : Value) (ns : List (List UInt8)) : Prop := w.ownsRow base 9 1 v ns.length (strV ns)
theorem O1.slice {w : World} {base : Nat} {v : Value} {ns : List (List UInt8)} (h : O1 w base v ns) : ∃ a c, v = .slice a ns.length c := own_slice h
theorem O1.kept {w w' : World} {base : Nat} {v : Value} {ns : List (List UInt8)} {row : Option Nat} (h : O1 w base v ns) (hg : w.grownBy w' row) (hne : v.ownBlock = none ∨ v.ownBlock ≠ row) : O1 w' base v ns := World.ownsRow.kept h hg hne
theorem O1.below {w w' : World} {base : Nat} {v : Value} {ns : List (List UInt8)} (h : O1 w base v ns) (hb : Below w.heap.size w w') : O1 w' base v ns :=
  h.kept (below_grownBy hb none) (by cases v.ownBlock <;> simp)
theorem O1.base {w : World} {a b : Nat} {v : Value} {ns : List (List UInt8)} (h : O1 w a v ns) (hab : b ≤ a) : O1 w b v ns := own_base h hab
theorem O1.nil (w : World) (a : Nat) : O1 w a (.slice none 0 0) [] := World.ownsRow_nil _ _ _ _
/-- the marks from k on -/
def mks : Nat → Nat → List (List UInt8)
  | 0, _ => []
  | n + 1, k => mkT k :: mks n (k + 1)
theorem mks_len : ∀ n k, (mks n k).length = n
  | 0, _ => rfl
  | n + 1, k => by simp [mks, mks_len n (k + 1)]
theorem mks_get : ∀ n k i, i < n → (mks n k).getD i [] = mkT (k + i)
  | 0, _, i, h => by omega
  | n + 1, k, 0, _ => by simp [mks]
  | n + 1, k, i + 1, h => by
    have := mks_get n (k + 1) i (by omega)
    simp only [mks, List.getD_cons_succ, this]
    congr 1; omega
theorem mkT_len (k : Nat) (h : k ≤ 4611686018427387904) : (mkT k).length ≤ 21 := by
  have := dg_len k (by omega)
  simp only [mkT, List.length_cons]; omega
theorem mks_mem (n k : Nat) (h : k + n ≤ 4611686018427387904) : ∀ t ∈ mks n k, t.length ≤ 21 := by
  induction n generalizing k with
  | zero => intro t ht; simp [mks] at ht
  | succ n ih =>
    intro t ht
    simp only [mks, List.mem_cons] at ht
    rcases ht with rfl | ht
    · exact mkT_len k (by omega)
    · exact ih (k + 1) (by omega) t ht
theorem mks_cell (n k j : Nat) (h : j < n) : (strV (mks n k))[j]? = some (.string ⟨(mkT (k + j)).toArray⟩) := by
  have h1 := mks_get n k j h
  have h2 : j < (mks n k).length := by rw [mks_len]; exact h
  rw [← h1]; simp [strV, h2]
def mixS (F : Nat → Value) (k i j : Nat) : Value := if j < i then .string ⟨(mkT (k + j)).toArray⟩ else F j
set_option maxRecDepth 100000 in
set_option maxHeartbeats 2000000 in
theorem markO_any (base : Nat) (v : Value) (ns : List (List UInt8)) (k : Nat) (w : World) (h : O1 w base v ns) (hk : 0 < k) (hk2 : k + ns.length ≤ 4611686018427387904) :
    Calls Tryz.prog 93 #[v, .int .i64 (k : Int)] w fun e w' => e = .returned (.int .i64 ((k + ns.length : Nat) : Int)) ∧ O1 w' base v (mks ns.length k) ∧ w.grownBy w' v.ownBlock := by
  obtain ⟨hlen, h⟩ := h
  rcases h with ⟨rfl, h0⟩ | ⟨g, cap, cur, rfl, hbg, hg, hnc, hcm, hs, ht⟩
  · obtain rfl : ns = [] := List.eq_nil_of_length_eq_zero h0
    go_enter Tryz.func93, Tryz.ntmps93
    go_wp2
    go_loopw [1, 5] (fun kv iv wr => iv = .int .i64 0 ∧ kv = .int .i64 (k : Int) ∧ wr = w) (fun _ _ _ => 0)
    case atStart => exact ⟨rfl, rfl, rfl⟩
    case round =>
      obtain ⟨rfl, rfl, rfl⟩ := hrel
      go_wp2
      go_ret
      exact ⟨rfl, ⟨rfl, .inl ⟨rfl, rfl⟩⟩, ⟨rfl, rfl, rfl, Nat.le_refl _, fun _ _ _ => rfl⟩⟩
  · have hlt : g < w.heap.size := (Array.getElem?_eq_some_iff.1 hg).1
    obtain ⟨F, hrow⟩ : ∃ F : Nat → Value, w.rowIs g 9 (cap * 1) F := ⟨fun i => cur[i]?.getD undef, cur, hg, hs, fun i hi => by
      have : i < cur.size := by omega
      simp [this]⟩
    have HROW := Lib.hid hrow
    clear ht hs hg hrow hlen
    generalize ns.length = n at *
    go_enter Tryz.func93, Tryz.ntmps93
    go_wp2
    go_loopw [1, 5] (fun kv iv wr => ∃ i : Nat, i ≤ n ∧ iv = .int .i64 i ∧ kv = .int .i64 ((k + i : Nat) : Int) ∧ wr.rowIs g 9 (cap * 1) (mixS F k i) ∧ w.grownBy wr (some g)) (fun _ iv _ => n - (intOf iv).toNat)
    case atStart => exact ⟨0, by omega, rfl, rfl, HROW.out.congr (fun j _ => by simp [mixS]), ⟨rfl, rfl, rfl, Nat.le_refl _, fun _ _ _ => rfl⟩⟩
    case round =>
      obtain ⟨i, hi, rfl, rfl, hr, hG⟩ := hrel
      have HR := Lib.hid hr
      have HG := Lib.hid hG
      clear hr hG
      by_cases hlt2 : i < n
      · have HT := Lib.hid (markText_any (k + i) (by omega) (by omega) wr)
        obtain ⟨tx, htx⟩ : ∃ t, mkT (k + i) = t := ⟨_, rfl⟩
        have HTX := Lib.hid htx
        rw [htx] at HT
        clear htx
        go_wp2_with fail
        refine HT.out.mono ?_
        rintro e w1 ⟨rfl, hb1⟩
        have hr1 := HR.out.of_block (hb1.block _ HR.out.lt)
        have q0 := hr1.cell (i := i) (by omega)
        have qf := hr1.frozen i
        have hr2 := hr1.set i (.string ⟨tx.toArray⟩)
        have HR2 := Lib.hid (hr2.congr (g := mixS F k (i + 1)) (fun j _ => by
          unfold mixS
          by_cases e0 : j = i
          · subst e0; rw [if_pos rfl, if_pos (by omega), ← HTX.out]
          · rw [if_neg e0]
            by_cases hj : j < i
            · rw [if_pos hj, if_pos (by omega)]
            · rw [if_neg hj, if_neg (by omega)]))
        have HG2 := Lib.hid (show w.grownBy (w1.setCell ⟨g, i, none⟩ (.string ⟨tx.toArray⟩)) (some g) from
          ⟨hb1.os.trans HG.out.os, hb1.tape.trans HG.out.tape, hb1.output.trans HG.out.output, by have := HG.out.size; have := hb1.size; simp; omega, fun b hb hne => by
            have hne2 : b ≠ g := fun e => hne (by rw [e])
            exact (heap_setCell_other _ ⟨g, i, none⟩ b _ hne2).trans ((hb1.block b (Nat.lt_of_lt_of_le hb HG.out.size)).trans (HG.out.block b hb hne))⟩)
        clear hb1 hr1 hr2
        generalize mixS F k i = F2 at *
        go_wp2
        go_roundw
        case rel => exact ⟨i + 1, by omega, by go_num, by go_num, HR2.out, HG2.out⟩
        case measure => simp [intOf]; omega
      · obtain rfl : i = n := by omega
        go_wp2
        go_ret
        refine ⟨rfl, ⟨by simp [strV], .inr ?_⟩, HG.out⟩
        obtain ⟨C, hC, hCs, hCf⟩ := HR.out
        refine ⟨g, cap, C, by rw [mks_len], hbg, hC, by rw [mks_len]; exact hnc, hcm, hCs, ?_⟩
        rw [mks_len]
        apply List.ext_getElem?
        intro j
        by_cases hj : j < i
        · rw [List.getElem?_take_of_lt (by omega), mks_cell i k j hj]
          have h1 : C.toList[j]? = some (mixS F k i j) := by have := hCf j (by omega); simpa using this
          rw [h1]
          unfold mixS
          rw [if_pos hj]
        · rw [List.getElem?_eq_none (by simp; omega), List.getElem?_eq_none (by simp [strV, mks_len]; omega)]
set_option maxRecDepth 100000 in
set_option maxHeartbeats 2000000 in
theorem heldS_any (S : Nat → Prop) (v : Value) (n k : Nat) (w : World) (h : TxtsIn S w v (mks n k)) (hS : ∀ b, S b → b < w.heap.size) (hk : 0 < k) (hk2 : k + n ≤ 4611686018427387904) :
    Calls Tryz.prog 95 #[v, .int .i64 (k : Int)] w fun e w' => e = .returned (.int .i64 ((k + n : Nat) : Int)) ∧ Below w.heap.size w w' := by
  obtain ⟨a, cap, b, off, rfl, hcap, hm, -, ha, hc⟩ := h
  have HC := Lib.hid hc
  have HA := Lib.hid ha
  rw [mks_len] at hcap ⊢
  clear hc ha
  go_enter Tryz.func95, Tryz.ntmps95
  go_wp2
  go_loopw [1, 5] (fun kv iv wr => ∃ i q : Nat, i ≤ n ∧ iv = .int .i64 i ∧ kv = .int .i64 (q : Int) ∧ q = k + i ∧ Below w.heap.size w wr) (fun _ iv _ => n - (intOf iv).toNat)
  case atStart => exact ⟨0, k, by omega, rfl, rfl, by omega, Below.refl _ _⟩
  case round =>
    obtain ⟨i, q, hi, rfl, rfl, hq, hR⟩ := hrel
    have HQE := Lib.hid hq
    have HR := Lib.hid hR
    by_cases hlt : i < n
    · obtain ⟨ea, hlb⟩ := HA.out (by rw [mks_len]; omega)
      subst ea
      have c0 := HC.out i (by rw [mks_len]; exact hlt)
      rw [mks_get n k i hlt, ← hq] at c0
      have hbw := hS b hlb
      have hd : b < wr.heap.size := Nat.lt_of_lt_of_le hbw hR.size
      have q0 := (hR.cell (p := ⟨b, off + i, none⟩) hbw).trans c0
      have HT := Lib.hid (fun W => markText_any q (by omega) (by omega) W)
      generalize mkT q = tx at *
      have hqb : q ≤ 4611686018427387904 := by omega
      clear hq
      have e1 : (tx == tx) = true := by simp
      have e2 : (tx != tx) = false := by simp
      clear c0 hR
      go_wp2_with fail
      refine wp_region_ext (by kernel_rfl) (by kernel_rfl) ?_
      repeat (go_big_quiet_step ((go_at_call 130; refine call_ext (v := .string ⟨tx.toArray⟩) ?_; with_reducible exact HT.out _)))
      refine wpQuiet_nil ?_
      intro _ hw'
      obtain ⟨y8, rfl⟩ := hw'
      have hv8 := up_below _ y8
      generalize up _ y8 = v8 at *
      have D8 := Lib.hid (Po.belI_step HR.out hv8)
      clear hv8 q0
      go_wp2
      go_roundw
      case rel => exact ⟨i + 1, q + 1, by omega, by go_num, by go_num, by have := HQE.out; omega, D8.out⟩
      case measure => simp [intOf]; omega
    · obtain rfl : i = n := by omega
      go_wp2
      go_ret
      exact ⟨ret_iO (by have := HQE.out; omega), hR⟩
/-! ### Rules -/
def mrs : Nat → List Rl → List Rl
  | _, [] => []
  | k, r :: t => ⟨mkT k, mks r.words.length (k + 1)⟩ :: mrs (k + 1 + r.words.length) t
def tot : List Rl → Nat
  | [] => 0
  | r :: t => 1 + r.words.length + tot t
theorem mrs_len : ∀ k xs, (mrs k xs).length = xs.length
  | _, [] => rfl
  | k, r :: t => by simp [mrs, mrs_len (k + 1 + r.words.length) t]
theorem tot_app : ∀ a b, tot (a ++ b) = tot a + tot b
  | [], b => by simp [tot]
  | r :: t, b => by simp [tot, tot_app t b]; omega
theorem mrs_app : ∀ k a b, mrs k (a ++ b) = mrs k a ++ mrs (k + tot a) b
  | k, [], b => by simp [mrs, tot]
  | k, r :: t, b => by
    have ih := mrs_app (k + 1 + r.words.length) t b
    simp only [List.cons_append, mrs, ih, tot]
    congr 3; omega
theorem split_at {α : Type} [Inhabited α] : ∀ (xs : List α) (i : Nat), i < xs.length → xs = xs.take i ++ xs.getD i default :: xs.drop (i + 1) := fun xs i h => by
  have h1 := List.drop_eq_getElem_cons h
  have h2 : xs.getD i default = xs[i] := by simp [h]
  rw [h2, ← h1, List.take_append_drop]
theorem tot_take (xs : List Rl) (i : Nat) (h : i < xs.length) : tot (xs.take (i + 1)) = tot (xs.take i) + (1 + (xs.getD i default).words.length) := by
  have e : xs.take (i + 1) = xs.take i ++ [xs.getD i default] := by
    rw [List.take_add_one]; simp [h]
  rw [e, tot_app]; simp [tot]
theorem tot_le (xs : List Rl) (i : Nat) : tot (xs.take i) ≤ tot xs := by
  have := tot_app (xs.take i) (xs.drop i)
  rw [List.take_append_drop] at this
  omega
theorem tot_len : ∀ xs : List Rl, xs.length ≤ tot xs
  | [] => Nat.le_refl _
  | r :: t => by have := tot_len t; simp only [List.length_cons, tot]; omega
theorem mrs_get (xs : List Rl) (k i : Nat) (h : i < xs.length) : (mrs k xs).getD i default = ⟨mkT (k + tot (xs.take i)), mks (xs.getD i default).words.length (k + tot (xs.take i) + 1)⟩ := by
  have e := split_at xs i h
  have hl : (mrs k (xs.take i)).length = i := by rw [mrs_len]; simp; omega
  generalize xs.getD i default = r at *
  rw [show mrs k xs = mrs k (xs.take i) ++ mrs (k + tot (xs.take i)) (r :: xs.drop (i + 1)) by rw [← mrs_app, ← e]]
  simp only [mrs]
  rw [List.getD_eq_getElem?_getD, List.getElem?_append_right (by omega), hl]
  simp
theorem mrs_step (xs : List Rl) (k i : Nat) (h : i < xs.length) : mrs k (xs.take (i + 1)) = mrs k (xs.take i) ++ [⟨mkT (k + tot (xs.take i)), mks (xs.getD i default).words.length (k + tot (xs.take i) + 1)⟩] := by
  have e : xs.take (i + 1) = xs.take i ++ [xs.getD i default] := by
    rw [List.take_add_one]; simp [h]
  rw [e, mrs_app]; simp [mrs]
def ruC : List Rl → List Value → List Value
  | r :: t, v :: vs => .string ⟨r.name.toArray⟩ :: v :: ruC t vs
  | _, _ => []
theorem ruC_len : ∀ (xs : List Rl) (vs : List Value), xs.length = vs.length → (ruC xs vs).length = xs.length * 2
  | [], _, _ => rfl
  | r :: t, [], h => by simp at h
  | r :: t, v :: vs, h => by have := ruC_len t vs (by simpa using h); simp only [ruC, List.length_cons, this]; omega
theorem ruC_app : ∀ (xs : List Rl) (vs : List Value) (ys : List Rl) (us : List Value), xs.length = vs.length → ruC (xs ++ ys) (vs ++ us) = ruC xs vs ++ ruC ys us
  | [], [], ys, us, _ => rfl
  | [], v :: vs, _, _, h => by simp at h
  | r :: t, [], _, _, h => by simp at h
  | r :: t, v :: vs, ys, us, h => by simp [ruC, ruC_app t vs ys us (by simpa using h)]
theorem ruC_get : ∀ (xs : List Rl) (vs : List Value) (i : Nat), xs.length = vs.length → i < xs.length → (ruC xs vs)[i * 2]? = some (.string ⟨(xs.getD i default).name.toArray⟩) ∧ (ruC xs vs)[i * 2 + 1]? = some (vs.getD i undef)
  | [], _, i, _, h => by simp at h
  | r :: t, [], _, h, _ => by simp at h
  | r :: t, v :: vs, 0, _, _ => ⟨rfl, rfl⟩
  | r :: t, v :: vs, i + 1, h, hi => by
    have ih := ruC_get t vs i (by simpa using h) (by simpa using hi)
    have e : (i + 1) * 2 = i * 2 + 1 + 1 := by omega
    rw [e]
    simpa [ruC] using ih
theorem ruC_set (t : List UInt8) (x y : Rl) (hy : y.name = t) : ∀ (A B : List Rl) (vs : List Value), (A ++ x :: B).length = vs.length → (ruC (A ++ x :: B) vs).set (A.length * 2) (.string ⟨t.toArray⟩) = ruC (A ++ y :: B) vs
  | A, B, [], h => by simp at h
  | [], B, v :: vs, _ => by simp [ruC, hy]
  | a :: A, B, v :: vs, h => by
    have ih := ruC_set t x y hy A B vs (by simpa using h)
    have e : (a :: A).length * 2 = A.length * 2 + 1 + 1 := by simp; omega
    rw [e]
    simp [ruC, ih]
theorem ruC_same (x y : Rl) (hy : y.name = x.name) : ∀ (A B : List Rl) (vs : List Value), (A ++ x :: B).length = vs.length → ruC (A ++ x :: B) vs = ruC (A ++ y :: B) vs
  | A, B, [], h => by simp at h
  | [], B, v :: vs, _ => by simp [ruC, hy]
  | a :: A, B, v :: vs, h => by simp [ruC, ruC_same x y hy A B vs (by simpa using h)]
theorem mid_get {α : Type} (A B : List α) (x y : α) (j : Nat) : (A ++ y :: B)[j]? = if j = A.length then some y else (A ++ x :: B)[j]? := by
  by_cases h : j = A.length
  · subst h; simp
  · rw [if_neg h]
    by_cases h2 : j < A.length
    · rw [List.getElem?_append_left h2, List.getElem?_append_left h2]
    · rw [List.getElem?_append_right (by omega), List.getElem?_append_right (by omega)]
      obtain ⟨m, hm⟩ : ∃ m, j - A.length = m + 1 := ⟨j - A.length - 1, by omega⟩
      rw [hm]; rfl
theorem own_apart {w : World} {b b' s s' n n' : Nat} {T T' : TypeId} {v v' : Value} {xs xs' : List Value} (h : w.ownsRow b T s v n xs) (h' : w.ownsRow b' T' s' v' n' xs') (hT : T ≠ T') : v.ownBlock = none ∨ v.ownBlock ≠ v'.ownBlock := by
  rcases h.2 with ⟨rfl, _⟩ | ⟨g, cap, cur, rfl, _, hg, _⟩
  · exact .inl rfl
  · rcases h'.2 with ⟨rfl, _⟩ | ⟨g', cap', cur', rfl, _, hg', _⟩
    · exact .inr (by simp [Value.ownBlock])
    · refine .inr (fun e => ?_)
      simp only [Value.ownBlock, Option.some.injEq] at e
      subst e
      rw [hg] at hg'
      simp only [Option.some.injEq, Obj.cells.injEq] at hg'
      exact hT hg'.2.1
theorem own_set {w : World} {base s n g j : Nat} {T : TypeId} {v u : Value} {xs : List Value} (h : w.ownsRow base T s v n xs) (hg : v.ownBlock = some g) : (w.setCell ⟨g, j, none⟩ u).ownsRow base T s v n (xs.set j u) := by
  refine ⟨by simp [h.1], ?_⟩
  rcases h.2 with ⟨rfl, _⟩ | ⟨g', cap, cur, rfl, hb, hgg, hn, hm, hs, ht⟩
  · simp [Value.ownBlock] at hg
  · simp only [Value.ownBlock, Option.some.injEq] at hg
    subst hg
    exact .inr ⟨g', cap, cur.setIfInBounds j u, rfl, hb, heap_set hgg j u, hn, hm, by simp [hs], by simp [List.take_set, ht]⟩
/-- v is a row of the call's own from base on: the rules xs, whose words lie under vs, each in a row of its own -/
structure ORs (w : World) (base : Nat) (v : Value) (xs : List Rl) (vs : List Value) : Prop where
  len : xs.length = vs.length
  row : w.ownsRow base 149 2 v xs.length (ruC xs vs)
  wds : ∀ (i : Nat) (x : Rl) (u : Value), xs[i]? = some x → vs[i]? = some u → O1 w base u x.words
  apart : ∀ (i j : Nat) (u u' : Value), i < j → vs[i]? = some u → vs[j]? = some u' → u.ownBlock = none ∨ u.ownBlock ≠ u'.ownBlock
theorem ORs.ne {w : World} {base : Nat} {v : Value} {xs : List Rl} {vs : List Value} (h : ORs w base v xs vs) {i j : Nat} {u u' : Value} (hij : i ≠ j) (hi : vs[i]? = some u) (hj : vs[j]? = some u') : u'.ownBlock = none ∨ u'.ownBlock ≠ u.ownBlock := by
  rcases Nat.lt_or_gt_of_ne hij with hl | hl
  · rcases h.apart i j u u' hl hi hj with e | e
    · rw [e]; cases u'.ownBlock <;> simp
    · exact .inr (fun e2 => e e2.symm)
  · exact h.apart j i u' u hl hj hi
theorem ORs.nil (w : World) (base : Nat) : ORs w base (.slice none 0 0) [] [] := ⟨rfl, World.ownsRow_nil _ _ _ _, fun _ _ _ h => by simp at h, fun _ _ _ _ _ h => by simp at h⟩
theorem ORs.slice {w : World} {base : Nat} {v : Value} {xs : List Rl} {vs : List Value} (h : ORs w base v xs vs) : ∃ a c, v = .slice a xs.length c := by
  obtain ⟨-, h⟩ := h.row
  rcases h with ⟨rfl, h0⟩ | ⟨g, cap, cur, rfl, _⟩
  · exact ⟨none, 0, by rw [h0]⟩
  · exact ⟨_, _, rfl⟩
theorem far_grown (w : World) (g o : Nat) (v : Value) : w.grownBy (w.setCell ⟨g, o, none⟩ v) (some g) :=
  ⟨rfl, rfl, rfl, by simp, fun b _ hb2 => heap_setCell_other _ ⟨g, o, none⟩ b _ (fun e => hb2 (congrArg some e))⟩
theorem ORs.name {w : World} {base g : Nat} {v : Value} {A B : List Rl} {x : Rl} {vs : List Value} (h : ORs w base v (A ++ x :: B) vs) (hg : v.ownBlock = some g) (t : List UInt8) :
    ORs (w.setCell ⟨g, A.length * 2, none⟩ (.string ⟨t.toArray⟩)) base v (A ++ ⟨t, x.words⟩ :: B) vs := by
  refine ⟨by have := h.len; simpa using this, ?_, fun i y u hy hu => ?_, h.apart⟩
  · have h1 := own_set (j := A.length * 2) (u := .string ⟨t.toArray⟩) h.row hg
    rw [ruC_set t x ⟨t, x.words⟩ rfl A B vs h.len] at h1
    have e : (A ++ x :: B).length = (A ++ (⟨t, x.words⟩ : Rl) :: B).length := by simp
    rw [e] at h1
    exact h1
  · have hw : O1 w base u y.words := by
      rw [mid_get A B x] at hy
      split at hy
      · rename_i e
        cases hy
        exact h.wds i x u (by rw [mid_get A B x, if_pos e]) hu
      · exact h.wds i y u hy hu
    refine hw.kept (far_grown w g _ _) ?_
    have := own_apart hw h.row (by decide)
    rw [hg] at this
    exact this
theorem ORs.words {w w' : World} {base : Nat} {v u : Value} {A B : List Rl} {x : Rl} {vs : List Value} {ns : List (List UInt8)} (h : ORs w base v (A ++ x :: B) vs) (hu : vs[A.length]? = some u) (hg : w.grownBy w' u.ownBlock) (ho : O1 w' base u ns) :
    ORs w' base v (A ++ ⟨x.name, ns⟩ :: B) vs := by
  have hx : O1 w base u x.words := h.wds A.length x u (by simp) hu
  refine ⟨by have := h.len; simpa using this, ?_, fun i y u' hy hu' => ?_, h.apart⟩
  · have h1 := h.row
    rw [ruC_same x ⟨x.name, ns⟩ rfl A B vs h.len] at h1
    have e : (A ++ x :: B).length = (A ++ (⟨x.name, ns⟩ : Rl) :: B).length := by simp
    rw [e] at h1
    refine h1.kept hg ?_
    exact own_apart h1 hx (by decide)
  · rw [mid_get A B x] at hy
    split at hy
    · rename_i e
      cases hy
      subst e
      rw [hu] at hu'
      cases hu'
      exact ho
    · rename_i e
      exact (h.wds i y u' hy hu').kept hg (h.ne (fun e2 => e e2.symm) hu hu')
theorem ORs.below {w w' : World} {base : Nat} {v : Value} {xs : List Rl} {vs : List Value} (h : ORs w base v xs vs) (hb : Below w.heap.size w w') : ORs w' base v xs vs :=
  ⟨h.len, h.row.kept (below_grownBy hb none) (by cases v.ownBlock <;> simp), fun i x u hx hu => (h.wds i x u hx hu).below hb, h.apart⟩
/-- all blocks of the rules lie below L -/
def UnderL (L : Nat) (v : Value) (vs : List Value) : Prop := (∀ g, v.ownBlock = some g → g < L) ∧ ∀ u ∈ vs, ∀ g, u.ownBlock = some g → g < L
theorem ORs.under {w : World} {base : Nat} {v : Value} {xs : List Rl} {vs : List Value} (h : ORs w base v xs vs) : UnderL w.heap.size v vs := by
  refine ⟨fun g hg => (h.row.lt g hg).2, fun u hu g hg => ?_⟩
  obtain ⟨i, hi, e⟩ := List.mem_iff_getElem.1 hu
  have h1 : vs[i]? = some u := by simp [hi, e]
  have hi2 : i < xs.length := by have := h.len; omega
  exact (World.ownsRow.lt (h.wds i xs[i] u (by simp [hi2]) h1) g hg).2
theorem UnderL.mono {L M : Nat} {v : Value} {vs : List Value} (h : UnderL L v vs) (hl : L ≤ M) : UnderL M v vs := ⟨fun g hg => Nat.lt_of_lt_of_le (h.1 g hg) hl, fun u hu g hg => Nat.lt_of_lt_of_le (h.2 u hu g hg) hl⟩
/-- a change in a block from L on leaves rules below L as they were -/
theorem ORs.off {w w' : World} {base L : Nat} {v : Value} {xs : List Rl} {vs : List Value} {row : Option Nat} (h : ORs w base v xs vs) (hu : UnderL L v vs) (hg : w.grownBy w' row) (hr : ∀ g, row = some g → L ≤ g) : ORs w' base v xs vs := by
  have hne : ∀ u : Value, (∀ g, u.ownBlock = some g → g < L) → u.ownBlock = none ∨ u.ownBlock ≠ row := fun u h1 => by
    cases e : u.ownBlock with
    | none => exact .inl rfl
    | some k => exact .inr (fun e2 => by have := h1 k e; have := hr k e2.symm; omega)
  exact ⟨h.len, h.row.kept hg (hne v hu.1), fun i x u hx hv => (h.wds i x u hx hv).kept hg (hne u (hu.2 u (List.mem_of_getElem? hv))), h.apart⟩
/-- how long the parts of the rules are -/
def LimR (M : Nat) (xs : List Rl) : Prop := ∀ x ∈ xs, x.name.length ≤ M ∧ x.words.length ≤ M ∧ ∀ t ∈ x.words, t.length ≤ M
theorem getD_mem {α : Type} [Inhabited α] (xs : List α) (i : Nat) (h : i < xs.length) : xs.getD i default ∈ xs := by
  have h2 : xs.getD i default = xs[i] := by simp [h]
  rw [h2]; exact List.getElem_mem h
theorem getT_mem (xs : List (List UInt8)) (i : Nat) (h : i < xs.length) : xs.getD i [] ∈ xs := by
  have h2 : xs.getD i [] = xs[i] := by simp [h]
  rw [h2]; exact List.getElem_mem h
theorem O1.txts {w : World} {base : Nat} {v : Value} {ns : List (List UInt8)} (h : O1 w base v ns) (hl : ∀ t ∈ ns, t.length ≤ 9223372036854775807) (hn : ns.length ≤ 9223372036854775807) : TxtsIn (fun b => base ≤ b ∧ b < w.heap.size) w v ns :=
  own_txts h hn (fun i hi => hl _ (getT_mem ns i hi))
theorem ORs.rl {w : World} {base M : Nat} {v : Value} {xs : List Rl} {vs : List Value} (h : ORs w base v xs vs) (hM : M ≤ 9223372036854775807) (hl : LimR M xs) : RlIn (fun b => base ≤ b ∧ b < w.heap.size) w v xs := by
  have hw : ∀ i, i < xs.length → TxtsIn (fun b => base ≤ b ∧ b < w.heap.size) w (vs.getD i undef) (xs.getD i default).words := fun i hi => by
    have hi2 : i < vs.length := by have := h.len; omega
    have h1 := h.wds i (xs.getD i default) (vs.getD i undef) (by simp [hi]) (by simp [hi2])
    obtain ⟨l1, l2, l3⟩ := hl _ (getD_mem xs i hi)
    exact h1.txts (fun t ht => Nat.le_trans (l3 t ht) hM) (Nat.le_trans l2 hM)
  have hnm : ∀ i, i < xs.length → (xs.getD i default).name.length ≤ 9223372036854775807 := fun i hi => Nat.le_trans (hl _ (getD_mem xs i hi)).1 hM
  have hlen := h.len
  obtain ⟨-, hr⟩ := h.row
  rcases hr with ⟨rfl, h0⟩ | ⟨g, cap, cur, rfl, hbg, hg, hnc, hcm, hs, ht⟩
  · exact ⟨none, 0, 0, 0, fun i => vs.getD i undef, by rw [h0], by omega, by omega, hnm, fun hp => by omega, fun i hi => by omega⟩
  · have hlt : g < w.heap.size := (Array.getElem?_eq_some_iff.1 hg).1
    refine ⟨some ⟨g, 0, none⟩, cap, g, 0, fun i => vs.getD i undef, rfl, hnc, by unfold maxLen at hcm; omega, hnm, fun _ => ⟨rfl, hbg, hlt⟩, fun i hi => ?_⟩
    obtain ⟨e0, e1⟩ := ruC_get xs vs i hlen hi
    rw [← ht, List.getElem?_take_of_lt (by omega)] at e0 e1
    simp only [Nat.zero_add]
    refine ⟨?_, ?_, hw i hi⟩ <;> simp [World.cell?, hg]
    · simpa using e0
    · simpa using e1
/-- w' is w but for what lies from L on -/
abbrev Off (L : Nat) (w w' : World) : Prop := Below L w w'
theorem below_row {L : Nat} {a w w' : World} {row : Option Nat} (h : Below L a w) (hL : L ≤ w.heap.size) (hg : w.grownBy w' row) (hr : ∀ g, row = some g → L ≤ g) : Below L a w' := h.grown hg hL hr
theorem own_base_le {w : World} {base : Nat} {v : Value} {ns : List (List UInt8)} (h : O1 w base v ns) : ∀ g, v.ownBlock = some g → base ≤ g := fun g hg => (World.ownsRow.lt h g hg).1
set_option maxRecDepth 100000 in
set_option maxHeartbeats 2000000 in
theorem markRO_any (base : Nat) (v : Value) (xs : List Rl) (vs : List Value) (k : Nat) (w : World) (h : ORs w base v xs vs) (hB : base ≤ w.heap.size) (hk : 0 < k) (hk2 : k + tot xs ≤ 4611686018427387904) :
    Calls Tryz.prog 134 #[v, .int .i64 (k : Int)] w fun e w' => e = .returned (.int .i64 ((k + tot xs : Nat) : Int)) ∧ ORs w' base v (mrs k xs) vs ∧ Below base w w' ∧
      (∀ L, UnderL L v vs → ∀ b, b < w.heap.size → L ≤ b → w'.heap[b]? = w.heap[b]?) := by
  obtain ⟨a, c, rfl⟩ := h.slice
  have H := Lib.hid h
  have hxs := tot_len xs
  clear h
  go_enter Tryz.func134, Tryz.ntmps134
  go_wp2
  go_loopw [1, 5] (fun kv iv wr => ∃ i q : Nat, i ≤ xs.length ∧ iv = .int .i64 i ∧ kv = .int .i64 (q : Int) ∧ q = k + tot (xs.take i) ∧ ORs wr base (.slice a xs.length c) (mrs k (xs.take i) ++ xs.drop i) vs ∧ Below base w wr ∧
      (∀ L, UnderL L (.slice a xs.length c) vs → ∀ b, b < w.heap.size → L ≤ b → wr.heap[b]? = w.heap[b]?)) (fun _ iv _ => xs.length - (intOf iv).toNat)
  case atStart => exact ⟨0, k, by omega, rfl, rfl, by simp [tot], by simpa [mrs] using H.out, Below.refl _ _, fun _ _ _ _ _ => rfl⟩
  case round =>
    obtain ⟨i, q, hi, rfl, rfl, hq, hO, hR, hF⟩ := hrel
    have HR := Lib.hid hR
    have HF := Lib.hid hF
    have hwr := hR.size
    clear hF hR
    by_cases hlt : i < xs.length
    · have hqt := tot_take xs i hlt
      have hqm := tot_le xs (i + 1)
      have hms := mrs_step xs k i hlt
      have hsp : xs.drop i = xs.getD i default :: xs.drop (i + 1) := by
        rw [List.drop_eq_getElem_cons hlt]; simp [hlt]
      rw [hsp] at hO
      rw [← hq] at hms
      have hq2 : k + tot (xs.take (i + 1)) = q + 1 + (xs.getD i default).words.length := by omega
      have hAl : (mrs k (xs.take i)).length = i := by rw [mrs_len]; simp; omega
      generalize xs.getD i default = x at *
      have HT := Lib.hid (markText_any q (by omega) (by omega) wr)
      obtain ⟨tx, htx⟩ : ∃ t, mkT q = t := ⟨_, rfl⟩
      rw [htx] at HT hms
      have HMS := Lib.hid hms
      have HQ2 := Lib.hid hq2
      have hqb : q + 1 + x.words.length ≤ 4611686018427387904 := by omega
      have HOh := Lib.hid hO
      have HAL := Lib.hid hAl
      have HQ := Lib.hid hq
      clear htx hsp hms hq2 hqt hqm hO hAl hq
      go_wp2_with fail
      refine HT.out.mono ?_
      rintro e w1 ⟨rfl, hb1⟩
      have hAl := HAL.out
      have hO := HOh.out
      have hO1 := hO.below hb1
      obtain ⟨u, hu⟩ : ∃ u, vs[i]? = some u := by
        have h1 := hO.len
        simp only [List.length_append, List.length_cons, hAl] at h1
        have h2 : i < vs.length := by omega
        exact ⟨vs[i], by simp [h2]⟩
      obtain ⟨g, hg⟩ : ∃ g, (Value.slice a xs.length c).ownBlock = some g := by
        rcases hO1.row.2 with ⟨e, h0⟩ | ⟨g, cap, cur, e, _⟩
        · simp at h0
        · rw [e]; exact ⟨g, rfl⟩
      have hgl := (hO1.row.lt g hg)
      have hcells := hO1.row.cells hg
      obtain ⟨z0, z1⟩ := ruC_get _ vs i hO1.len (by simp [hAl])
      have ev : (vs.getD i undef) = u := by rw [List.getD_eq_getElem?_getD, hu]; rfl
      rw [ev] at z1
      have q0 := hcells (i * 2) _ z0
      obtain ⟨a0, ea⟩ : ∃ a0, a = some a0 := by
        cases a with
        | none => simp [Value.ownBlock] at hg
        | some a0 => exact ⟨a0, rfl⟩
      subst ea
      have ea2 : a0 = ⟨g, 0, none⟩ := by
        rcases hO1.row.2 with ⟨e, h0⟩ | ⟨g', cap, cur, e, _⟩
        · cases e
        · injection e with e1 _ _
          injection e1 with e1
          subst e1
          simp [Value.ownBlock] at hg; rw [hg]
      subst ea2
      have qf : w1.frozen? ⟨g, i * 2, none⟩ = false := by
        rcases hO1.row.2 with ⟨e, h0⟩ | ⟨g', cap, cur, e, _, hgg, _⟩
        · cases e
        · injection e with e1 _ _
          injection e1 with e1
          injection e1 with e1 _ _
          subst e1
          simp [World.frozen?, hgg]
      have hO2 := hO1.name hg tx
      rw [hAl] at hO2
      have w2e := far_grown w1 g (i * 2) (.string ⟨tx.toArray⟩)
      have z1' := hO2.row.cells hg
      obtain ⟨-, y1⟩ := ruC_get _ vs i hO2.len (by simp [hAl])
      rw [ev] at y1
      have p1 := z1' (i * 2 + 1) _ y1
      have hwd := hO2.wds i ⟨tx, x.words⟩ u (by rw [List.getElem?_append_right (by omega), hAl]; simp) hu
      obtain ⟨a5, c5, eu⟩ := hwd.slice
      have HMO := Lib.hid (fun W h => markO_any base u x.words (q + 1) W h (by omega) (by omega))
      subst eu
      have HWD := Lib.hid hwd
      have HO2 := Lib.hid hO2
      have HU := Lib.hid hu
      have HG := Lib.hid hg
      have HB2 := Lib.hid (below_row (HR.out.trans (hb1.mono (Nat.le_trans hB hwr))) (by have := hb1.size; omega) w2e (fun g' e => by cases e; exact hgl.1))
      have HF2 := Lib.hid (fun L (hL : UnderL L (.slice (some ⟨g, 0, none⟩) xs.length c) vs) b (hb : b < w.heap.size) (hLb : L ≤ b) => (w2e.block b (by have := hb1.size; omega) (fun e => by have := hL.1 b (by rw [hg, e]); omega)).trans ((hb1.block b (by omega)).trans (HF.out L hL b hb hLb)))
      have hw2 : w.heap.size ≤ (w1.setCell ⟨g, i * 2, none⟩ (.string ⟨tx.toArray⟩)).heap.size := by have := hb1.size; simp; omega
      rw [Addr.add_lit, Nat.zero_add] at q0 p1
      have HUL := Lib.hid (fun L (hL : UnderL L (.slice (some ⟨g, 0, none⟩) xs.length c) vs) g' (e : (Value.slice a5 x.words.length c5).ownBlock = some g') => hL.2 _ (List.mem_of_getElem? hu) g' e)
      clear hO hO1 hO2 hb1 z0 z1 z1' y1 hcells hwd w2e ev hg hgl hu hAl
      go_wp2_with fail
      generalize w1.setCell ⟨g, i * 2, none⟩ (.string ⟨tx.toArray⟩) = w2 at *
      refine (HMO.out w2 HWD.out).mono ?_
      rintro e w3 ⟨rfl, ho3, hg3⟩
      have HO3 := Lib.hid (HO2.out.words (by rw [HAL.out]; exact HU.out) hg3 ho3)
      have HB3 := Lib.hid (below_row HB2.out (by omega) hg3 (own_base_le HWD.out))
      have HF3 := Lib.hid (fun L (hL : UnderL L (.slice (some ⟨g, 0, none⟩) xs.length c) vs) b (hb : b < w.heap.size) (hLb : L ≤ b) => (hg3.block b (by omega) (fun e => by have := HUL.out L hL b e.symm; omega)).trans (HF2.out L hL b hb hLb))
      clear hg3 ho3
      go_wp2
      go_roundw
      case rel => exact ⟨i + 1, q + 1 + x.words.length, by omega, by go_num, by go_num, HQ2.out.symm, by rw [HMS.out, List.append_assoc]; exact HO3.out, HB3.out, HF3.out⟩
      case measure => simp [intOf]; omega
    · obtain rfl : i = xs.length := by omega
      rw [List.take_length] at hO hq
      rw [List.drop_length, List.append_nil] at hO
      go_wp2
      go_ret
      exact ⟨ret_iO (by omega), hO, HR.out, HF.out⟩
set_option maxRecDepth 100000 in
set_option maxHeartbeats 2000000 in
theorem heldRs_any (S : Nat → Prop) (v : Value) (xs : List Rl) (k : Nat) (w : World) (h : RlIn S w v (mrs k xs)) (hS : ∀ b, S b → b < w.heap.size) (hk : 0 < k) (hk2 : k + tot xs ≤ 4611686018427387904) :
    Calls Tryz.prog 139 #[v, .int .i64 (k : Int)] w fun e w' => e = .returned (.int .i64 ((k + tot xs : Nat) : Int)) ∧ Below w.heap.size w w' := by
  obtain ⟨a, cap, b, off, vs, rfl, hcap, hm, -, ha, hc⟩ := h
  have HC := Lib.hid hc
  have HA := Lib.hid ha
  have HS := Lib.hid hS
  have hxs := tot_len xs
  rw [mrs_len] at hcap ⊢
  clear hc ha
  go_enter Tryz.func139, Tryz.ntmps139
  go_wp2
  go_loopw [1, 5] (fun kv iv wr => ∃ i q : Nat, i ≤ xs.length ∧ iv = .int .i64 i ∧ kv = .int .i64 (q : Int) ∧ q = k + tot (xs.take i) ∧ Below w.heap.size w wr) (fun _ iv _ => xs.length - (intOf iv).toNat)
  case atStart => exact ⟨0, k, by omega, rfl, rfl, by simp [tot], Below.refl _ _⟩
  case round =>
    obtain ⟨i, q, hi, rfl, rfl, hq, hR⟩ := hrel
    have HR := Lib.hid hR
    by_cases hlt : i < xs.length
    · obtain ⟨ea, hlb⟩ := HA.out (by rw [mrs_len]; omega)
      subst ea
      obtain ⟨c0, c1, t1⟩ := HC.out i (by rw [mrs_len]; exact hlt)
      have hqt := tot_take xs i hlt
      have hqm := tot_le xs (i + 1)
      rw [mrs_get xs k i hlt, ← hq] at c0 t1
      simp only at c0 t1
      have hq2 : k + tot (xs.take (i + 1)) = q + 1 + (xs.getD i default).words.length := by omega
      generalize xs.getD i default = x at *
      obtain ⟨a5, l5, c5, e5⟩ := t1.slice
      rw [e5] at c1 t1
      have hbw := hS b hlb
      have hd : b < wr.heap.size := Nat.lt_of_lt_of_le hbw hR.size
      have q0 := (hR.cell (p := ⟨b, off + i * 2, none⟩) hbw).trans c0
      have q1 := (hR.cell (p := ⟨b, off + i * 2 + 1, none⟩) hbw).trans c1
      have HQ := Lib.hid q1
      have HT := Lib.hid (fun W => markText_any q (by omega) (by omega) W)
      have HTX := Lib.hid t1
      have HH := Lib.hid (fun (W : World) (h : Below w.heap.size w W) => heldS_any S (.slice a5 l5 c5) x.words.length (q + 1) W (t1.same fun b hb => ⟨hb, h.block b (HS.out b hb)⟩) (fun b hb => Nat.lt_of_lt_of_le (HS.out b hb) h.size) (by omega) (by omega))
      have HQ2 := Lib.hid hq2
      have hqb : q + 1 + x.words.length ≤ 4611686018427387904 := by omega
      generalize mkT q = tx at *
      clear hq hq2 hqt hqm t1 e5 c0 c1 hR q1
      have e1 : (tx == tx) = true := by simp
      have e2 : (tx != tx) = false := by simp
      go_wp2_with fail
      refine wp_region_ext (by kernel_rfl) (by kernel_rfl) ?_
      repeat (go_big_quiet_step ((go_at_call 130; refine call_ext (v := .string ⟨tx.toArray⟩) ?_; with_reducible exact HT.out _)))
      refine wpQuiet_nil ?_
      intro _ hw'
      obtain ⟨y8, rfl⟩ := hw'
      have hv8 := up_below _ y8
      generalize up _ y8 = v8 at *
      have D8 := Lib.hid (Po.belI_step HR.out hv8)
      have r1 := (hv8.cell (p := ⟨b, off + i * 2 + 1, none⟩) hd).trans HQ.out
      clear hv8 q0 HQ
      go_wp2_with fail
      refine (HH.out v8 D8.out).mono ?_
      rintro e w9 ⟨rfl, hb9⟩
      have D9 := Lib.hid (Po.belI_step D8.out hb9)
      have g9 : ¬ (((q + 1 + x.words.length : Nat) : Int) < 0) := by omega
      clear hb9 r1
      go_wp2
      go_roundw
      case rel => exact ⟨i + 1, q + 1 + x.words.length, by omega, by go_num, by go_num, HQ2.out.symm, D9.out⟩
      case measure => simp [intOf]; omega
    · obtain rfl : i = xs.length := by omega
      rw [List.take_length] at hq
      go_wp2
      go_ret
      exact ⟨ret_iO (by omega), hR⟩
set_option maxRecDepth 100000 in
set_option maxHeartbeats 2000000 in
theorem markPO_any (base L K : Nat) (p : Pl) (uv rv : Value) (vs : List Value) (w : World) (h : O1 w L uv p.uris) (h2 : ORs w base rv p.rules vs) (hU : UnderL L rv vs) (hK : UnderL K rv vs) (hKu : ∀ g, uv.ownBlock = some g → g < K) (hBL : base ≤ L) (hL : L ≤ w.heap.size) (hs : 1 + p.uris.length + tot p.rules ≤ 4611686018427387904) :
    Calls Tryz.prog 59 #[pV p uv rv, .int .i64 1] w fun e w' => e = .returned (.int .i64 ((1 + p.uris.length + tot p.rules : Nat) : Int)) ∧
      O1 w' L uv (mks p.uris.length 1) ∧ ORs w' base rv (mrs (1 + p.uris.length) p.rules) vs ∧ Below base w w' ∧ ∀ b, b < w.heap.size → K ≤ b → w'.heap[b]? = w.heap[b]? := by
  obtain ⟨rep, us, xs⟩ := p
  simp only at h h2 hs ⊢
  have HA := Lib.hid (fun (W : World) (h : O1 W L uv us) => markO_any L uv us 1 W h (by omega) (by omega))
  have HBB := Lib.hid (fun (W : World) (h : ORs W base rv xs vs) (h2 : base ≤ W.heap.size) => markRO_any base rv xs vs (1 + us.length) W h h2 (by omega) (by omega))
  obtain ⟨a1, c1, rfl⟩ := h.slice
  obtain ⟨a2, c2, rfl⟩ := h2.slice
  have K0 := heap_alloc_new w (xO ⟨rep, us, xs⟩ (.slice a1 us.length c1) (.slice a2 xs.length c2))
  have HB0 := (Below.refl w.heap.size w).alloc (Nat.le_refl _) (xO ⟨rep, us, xs⟩ (.slice a1 us.length c1) (.slice a2 xs.length c2))
  have H0 := Lib.hid (h.below HB0)
  have R0 := Lib.hid (h2.below HB0)
  have Lb := Lib.hid (fun g hg => (World.ownsRow.lt h g hg))
  have HUL := Lib.hid hU
  have LB := Lib.hid (HB0.mono hL)
  have HKV := Lib.hid hK
  have HKU := Lib.hid hKu
  clear h h2 hU HB0 hK hKu
  go_enter Tryz.func59, Tryz.ntmps59
  go_wp2_with fail
  refine (HA.out _ H0.out).mono ?_
  rintro e w1 ⟨rfl, ho1, hg1⟩
  obtain ⟨m0, m1, m2, mf⟩ := three_cells ((hg1.block w.heap.size (by simp) (fun e => by have := (Lb.out _ e.symm).2; omega)).trans K0)
  have hs1 : w.heap.size + 1 ≤ w1.heap.size := by have := hg1.size; simpa using this
  have R1 := Lib.hid (R0.out.off HUL.out hg1 (fun g hg => (Lb.out g hg).1))
  have B1 := Lib.hid (below_row LB.out (by simp; omega) hg1 (fun g hg => (Lb.out g hg).1))
  have O1' := Lib.hid ho1
  have FK1 := Lib.hid (fun b (hb : b < w.heap.size) (hkb : K ≤ b) => (hg1.block b (by simp; omega) (fun e => by have := HKU.out b e.symm; omega)).trans (heap_alloc_old w (xO ⟨rep, us, xs⟩ (.slice a1 us.length c1) (.slice a2 xs.length c2)) hb))
  clear hg1 ho1 K0
  go_wp2_with fail
  refine (HBB.out w1 R1.out (by omega)).mono ?_
  rintro e w2 ⟨rfl, hr2, hb2, hf2⟩
  have R2 := Lib.hid hr2
  have B2 := Lib.hid ((B1.out.mono hBL).trans hb2)
  have hsz2 := hb2.size
  have O2 := Lib.hid (show O1 w2 L (.slice a1 us.length c1) (mks us.length 1) from by
    have h1 := O1'.out
    obtain ⟨h0, h3⟩ := h1
    refine ⟨h0, ?_⟩
    rcases h3 with hn | ⟨g, cap, cur, e, hb, hgg, rest⟩
    · exact .inl hn
    · exact .inr ⟨g, cap, cur, e, hb, (hf2 L HUL.out g (Array.getElem?_eq_some_iff.1 hgg).1 hb).trans hgg, rest⟩)
  have FK2 := Lib.hid (fun b (hb : b < w.heap.size) (hkb : K ≤ b) => (hf2 K HKV.out b (by omega) hkb).trans (FK1.out b hb hkb))
  clear hr2 hb2 hf2
  go_wp2
  go_ret
  exact ⟨rfl, O2.out, R2.out, B2.out, FK2.out⟩
set_option maxRecDepth 100000 in
set_option maxHeartbeats 2000000 in
theorem heldPO_any (S : Nat → Prop) (p : Pl) (uv rv : Value) (w : World) (h : TxtsIn S w uv (mks p.uris.length 1)) (h2 : RlIn S w rv (mrs (1 + p.uris.length) p.rules)) (hS : ∀ b, S b → b < w.heap.size) (hs : 1 + p.uris.length + tot p.rules ≤ 4611686018427387904) :
    Calls Tryz.prog 63 #[pV p uv rv, .int .i64 1] w fun e w' => e = .returned (.int .i64 ((1 + p.uris.length + tot p.rules : Nat) : Int)) ∧ Below w.heap.size w w' := by
  obtain ⟨rep, us, xs⟩ := p
  simp only at h h2 hs ⊢
  have HA := Lib.hid (fun (W : World) (hb : Below w.heap.size w W) => heldS_any S uv us.length 1 W (h.same fun b hb2 => ⟨hb2, hb.block b (hS b hb2)⟩) (fun b hb2 => Nat.lt_of_lt_of_le (hS b hb2) hb.size) (by omega) (by omega))
  have HBB := Lib.hid (fun (W : World) (hb : Below w.heap.size w W) => heldRs_any S rv xs (1 + us.length) W (h2.same fun b hb2 => ⟨hb2, hb.block b (hS b hb2)⟩) (fun b hb2 => Nat.lt_of_lt_of_le (hS b hb2) hb.size) (by omega) (by omega))
  obtain ⟨a1, l1, c1, rfl⟩ := h.slice
  obtain ⟨a2, l2, c2, rfl⟩ := h2.slice
  have K0 := heap_alloc_new w (xO ⟨rep, us, xs⟩ (.slice a1 l1 c1) (.slice a2 l2 c2))
  have HB0 := Lib.hid ((Below.refl w.heap.size w).alloc (Nat.le_refl _) (xO ⟨rep, us, xs⟩ (.slice a1 l1 c1) (.slice a2 l2 c2)))
  have g1 : ¬ (((1 + us.length : Nat) : Int) < 0) := by omega
  have g2 : ¬ (((1 + us.length + tot xs : Nat) : Int) < 0) := by omega
  clear h h2 hS
  generalize tot xs = tx at *
  go_enter Tryz.func63, Tryz.ntmps63
  go_wp2_with fail
  refine (HA.out _ HB0.out).mono ?_
  rintro e w1 ⟨rfl, hb1⟩
  obtain ⟨m0, m1, m2, mf⟩ := three_cells ((hb1.block w.heap.size (by simp)).trans K0)
  have B1 := Lib.hid (below_chain HB0.out hb1)
  clear hb1 K0
  go_wp2_with fail
  refine (HBB.out w1 B1.out).mono ?_
  rintro e w2 ⟨rfl, hb2⟩
  have B2 := Lib.hid (below_chain B1.out hb2)
  clear hb2
  go_wp2
  go_ret
  exact ⟨rfl, B2.out⟩
end Go.Proofs.YtbkikbhnehjaaaaGreatDoor.Ow
namespace Go.Proofs.YtbkikbhnehjaaaaGreatDoor.Rp
open Go.RowKit
open Go.Proofs.YtbkikbhnehjaaaaGreatDoor.Po
open Go.Proofs.YtbkikbhnehjaaaaGreatDoor.Tx hiding ret_b ret_i
open Go.Proofs.YtbkikbhnehjaaaaGreatDoor.Ow
open Go.Proofs.YtbkikbhnehjaaaaGreatDoor.Ul (lowL low_len)
@[local go_sem] theorem ext_sl (l : List UInt8) (i j : Nat) : (⟨l.toArray⟩ : ByteArray).extract i j = ⟨(sl l i j).toArray⟩ := by
  apply ByteArray.ext; simp [sl, List.extract_toArray, List.extract]
theorem sl_nil (l : List UInt8) (a : Nat) : sl l a a = [] := by simp [sl]
theorem sl_snoc (l : List UInt8) (a k : Nat) (x : UInt8) (h : k < l.length) (hx : l[k] = x) (ha : a ≤ k) : sl l a (k + 1) = sl l a k ++ [x] := by
  rw [← sl_more l a k (k + 1) ha (by omega)]
  congr 1
  unfold sl
  rw [List.drop_eq_getElem_cons h, hx, show k + 1 - k = 1 by omega]; rfl
theorem sl_len (l : List UInt8) (a b : Nat) : (sl l a b).length ≤ l.length := by unfold sl; simp; omega
theorem cut_hit (l : List UInt8) (f k : Nat) (c : UInt8) (h : k < l.length) (hx : l[k] = c) : cutA c (sl l f k) (l.drop k) = sl l f k :: cutA c (sl l (k + 1) (k + 1)) (l.drop (k + 1)) := by
  rw [List.drop_eq_getElem_cons h, sl_nil]
  simp [cutA, hx]
theorem cut_miss (l : List UInt8) (f k : Nat) (c x : UInt8) (h : k < l.length) (hx : l[k] = x) (hf : f ≤ k) (hc : x ≠ c) : cutA c (sl l f k) (l.drop k) = cutA c (sl l f (k + 1)) (l.drop (k + 1)) := by
  rw [List.drop_eq_getElem_cons h, sl_snoc l f k x h hx hf]
  simp [cutA, hx, hc]
theorem O1.snoc {w : World} {base : Nat} {v : Value} {ns : List (List UInt8)} {x : List UInt8} (h : w.ownsRow base 9 1 v (ns.length + 1) (strV ns ++ [.string ⟨x.toArray⟩])) : O1 w base v (ns ++ [x]) := by
  unfold O1
  rw [show (ns ++ [x]).length = ns.length + 1 by simp, show strV (ns ++ [x]) = strV ns ++ [.string ⟨x.toArray⟩] by simp [strV]]
  exact h
/-- a new row of the texts ns -/
def NewO (W : World) (ns : List (List UInt8)) (e : Ending) (w' : World) : Prop := ∃ v, e = .returned v ∧ O1 w' W.heap.size v ns ∧ Below W.heap.size W w'
set_option maxRecDepth 100000 in
set_option maxHeartbeats 2000000 in
theorem cutS_any (t : List UInt8) (c : UInt8) (w : World) (hl : t.length ≤ 1048576) :
    Calls Tryz.prog 208 #[.string ⟨t.toArray⟩, .int .u8 c.toNat] w (NewO w (cutA c [] t)) := by
  obtain ⟨i0, hi, hz0, hz1, hz2⟩ := info_parts Tryz.infoS
  go_enter Tryz.func208, Tryz.ntmps208
  go_wp2
  go_loopw [5, 6, 7] (fun v fr i wr => ∃ (k f : Nat) (ds : List (List UInt8)), k ≤ t.length ∧ f ≤ k ∧ ds.length ≤ k ∧ i = .int .i64 k ∧ fr = .int .i64 f ∧ O1 wr w.heap.size v ds ∧ cutA c [] t = ds ++ cutA c (sl t f k) (t.drop k) ∧ Below w.heap.size w wr) (fun _ _ i _ => t.length - (intOf i).toNat)
  case atStart => exact ⟨0, 0, [], by omega, by omega, by simp, rfl, rfl, World.ownsRow_made w #[] 0 (Nat.le_refl _) (by unfold maxLen; omega) rfl, by simp [sl], (Below.refl _ _).alloc (Nat.le_refl _) _⟩
  case round =>
    obtain ⟨k, f, ds, hk, hf, hd, rfl, rfl, hO, hE, hR⟩ := hrel
    obtain ⟨ad, cd, rfl⟩ := hO.slice
    have hwr := hR.size
    have C3 : ds.length + 1 ≤ maxLen := by unfold maxLen; omega
    have C4 : (ds.length + 1) * 16 ≤ 140737488355328 := by omega
    have HO := Lib.hid hO
    have HR := Lib.hid hR
    by_cases hlt : k < t.length
    · obtain ⟨x, hx, hb⟩ := Ul.byte_at t k hlt
      by_cases hc : x = c
      · have E := Lib.hid (show cutA c [] t = (ds ++ [sl t f k]) ++ cutA c (sl t (k + 1) (k + 1)) (t.drop (k + 1)) by rw [hE, cut_hit t f k c hlt (hx.trans hc)]; simp)
        have d1 : ((x.toNat : Int) == (c.toNat : Int)) = true := by simp [hc]
        clear hx hE hO hR hc
        go_wp2_with (at_builtin; refine wpList_append_own _ rfl _ _ 23 rfl w.heap.size 9 i0 (.string ByteArray.empty) 1 16 Tryz.underlying23 hi hz0 hz1 hz2 rfl (by decide) _ _ _ rfl (World.ownsRow.alloc HO.out _) ⟨wr.heap.size, 0, none⟩ 1 1 [.string ⟨(sl t f k).toArray⟩] rfl rfl (cell_one_new _ _ _) (one_str _) C3 C4 (by simp; omega) ?_; intro v' w1 hown' hgrow _; have HO1 := Lib.hid (O1.snoc hown'); have HR1 := Lib.hid ((HR.out.alloc HR.out.size _).grown hgrow (by simp; omega) (fun j hj => (World.ownsRow.lt HO.out j hj).1)); clear hown' hgrow)
        go_roundw
        case rel => exact ⟨k + 1, k + 1, ds ++ [sl t f k], by omega, by omega, by simp; omega, by go_num, by go_num, HO1.out, E.out, HR1.out⟩
        case measure => simp [intOf]; omega
      · have E := Lib.hid (show cutA c [] t = ds ++ cutA c (sl t f (k + 1)) (t.drop (k + 1)) by rw [hE, cut_miss t f k c x hlt hx hf hc])
        have d1 : ((x.toNat : Int) == (c.toNat : Int)) = false := by
          simp only [beq_eq_false_iff_ne, ne_eq]
          intro e
          exact hc (UInt8.toNat_inj.1 (by omega))
        clear hx hE hO hR hc
        go_wp2
        go_roundw
        case rel => exact ⟨k + 1, f, ds, by omega, by omega, by omega, by go_num, rfl, HO.out, E.out, HR.out⟩
        case measure => simp [intOf]; omega
    · obtain rfl : k = t.length := by omega
      have E := Lib.hid (show cutA c [] t = ds ++ [sl t f t.length] by rw [hE, List.drop_length]; rfl)
      clear hE hO hR
      go_wp2_with (at_builtin; refine wpList_append_own _ rfl _ _ 23 rfl w.heap.size 9 i0 (.string ByteArray.empty) 1 16 Tryz.underlying23 hi hz0 hz1 hz2 rfl (by decide) _ _ _ rfl (World.ownsRow.alloc HO.out _) ⟨wr.heap.size, 0, none⟩ 1 1 [.string ⟨(sl t f t.length).toArray⟩] rfl rfl (cell_one_new _ _ _) (one_str _) C3 C4 (by simp; omega) ?_; intro v' w1 hown' hgrow _; have HO1 := Lib.hid (O1.snoc hown'); have HR1 := Lib.hid ((HR.out.alloc HR.out.size _).grown hgrow (by simp; omega) (fun j hj => (World.ownsRow.lt HO.out j hj).1)); clear hown' hgrow)
      go_ret
      exact ⟨_, rfl, by rw [E.out]; exact HO1.out, HR1.out⟩
theorem blankS_any (x : UInt8) (w : World) : Calls Tryz.prog 282 #[.int .u8 x.toNat] w fun e w' => e = .returned (.bool (blkB x)) ∧ w = w' := by
  have h := blank_any x w
  rw [show (decide (x.toNat = 32) || decide (x.toNat = 9)) = blkB x by rw [← blk_byte]; rfl] at h
  exact h
theorem words_blank (l : List UInt8) (k : Nat) (x : UInt8) (h : k < l.length) (hx : l[k] = x) (hb : blkB x = true) : wordsA [] (l.drop k) = wordsA [] (l.drop (k + 1)) := by
  rw [List.drop_eq_getElem_cons h, hx]
  simp [wordsA, hb]
theorem words_more (l : List UInt8) (k m : Nat) (x : UInt8) (h : m < l.length) (hx : l[m] = x) (hk : k ≤ m) (hb : blkB x = false) : wordsA (sl l k m) (l.drop m) = wordsA (sl l k (m + 1)) (l.drop (m + 1)) := by
  rw [List.drop_eq_getElem_cons h, hx, sl_snoc l k m x h hx hk]
  simp [wordsA, hb]
theorem words_stop (l : List UInt8) (k m : Nat) (x : UInt8) (h : m < l.length) (hx : l[m] = x) (hk : k < m) (hb : blkB x = true) : wordsA (sl l k m) (l.drop m) = sl l k m :: wordsA [] (l.drop m) := by
  have he := sl_ne l k m hk (by omega)
  rw [words_blank l m x h hx hb, List.drop_eq_getElem_cons h, hx]
  simp [wordsA, hb, he]
theorem words_end (l : List UInt8) (k : Nat) (hk : k < l.length) : wordsA (sl l k l.length) (l.drop l.length) = [sl l k l.length] := by
  have he := sl_ne l k l.length hk (by omega)
  rw [List.drop_length]
  simp [wordsA, he]
set_option maxRecDepth 100000 in
set_option maxHeartbeats 4000000 in
theorem wordsS_any (t : List UInt8) (w : World) (hl : t.length ≤ 1048576) :
    Calls Tryz.prog 209 #[.string ⟨t.toArray⟩] w (NewO w (wordsA [] t)) := by
  obtain ⟨i0, hi, hz0, hz1, hz2⟩ := info_parts Tryz.infoS
  go_enter Tryz.func209, Tryz.ntmps209
  go_wp2
  go_loopw [3, 4, 5] (fun v i _ wr => ∃ (k : Nat) (ds : List (List UInt8)), k ≤ t.length ∧ ds.length ≤ k ∧ i = .int .i64 k ∧ O1 wr w.heap.size v ds ∧ wordsA [] t = ds ++ wordsA [] (t.drop k) ∧ Below w.heap.size w wr) (fun _ i _ _ => t.length - (intOf i).toNat)
  case atStart => exact ⟨0, [], by omega, by simp, rfl, World.ownsRow_made w #[] 0 (Nat.le_refl _) (by unfold maxLen; omega) rfl, by simp, (Below.refl _ _).alloc (Nat.le_refl _) _⟩
  case round =>
    obtain ⟨k, ds, hk, hd, rfl, hO, hE, hR⟩ := hrel
    obtain ⟨ad, cd, rfl⟩ := hO.slice
    have hwr := hR.size
    have C3 : ds.length + 1 ≤ maxLen := by unfold maxLen; omega
    have C4 : (ds.length + 1) * 16 ≤ 140737488355328 := by omega
    have HO := Lib.hid hO
    have HR := Lib.hid hR
    clear hO hR
    by_cases hlt : k < t.length
    · obtain ⟨x, hx, hb⟩ := Ul.byte_at t k hlt
      obtain ⟨c, hc⟩ : ∃ c, blkB x = c := ⟨_, rfl⟩
      have HBL := Lib.hid (fun W => blankS_any x W)
      rw [hc] at HBL
      cases c with
      | true =>
        have E := Lib.hid (show wordsA [] t = ds ++ wordsA [] (t.drop (k + 1)) by rw [hE, words_blank t k x hlt hx hc])
        clear hx hE hc
        go_wp2_with (go_at_call 282; refine (HBL.out _).mono ?_; rintro e w' ⟨rfl, rfl⟩)
        go_roundw
        case rel => exact ⟨k + 1, ds, by omega, by omega, by go_num, HO.out, E.out, HR.out⟩
        case measure => simp [intOf]; omega
      | false =>
        have HE := Lib.hid hE
        have HXC := Lib.hid (And.intro hx hc)
        clear hx hE hc
        go_wp2_with (go_at_call 282; refine (HBL.out _).mono ?_; rintro e w' ⟨rfl, rfl⟩)
        go_loop [5] (fun kk => ∃ m : Nat, k ≤ m ∧ m ≤ t.length ∧ kk = .int .i64 m ∧ wordsA [] (t.drop k) = wordsA (sl t k m) (t.drop m)) (fun kk => t.length - (intOf kk).toNat)
        case atStart => exact ⟨k, Nat.le_refl _, by omega, rfl, by rw [sl_nil]⟩
        case round =>
          obtain ⟨m, hm1, hm2, rfl, hM⟩ := hrel
          have HM := Lib.hid hM
          clear hM
          by_cases hlm : m < t.length
          · obtain ⟨y, hy, hb2⟩ := Ul.byte_at t m hlm
            obtain ⟨c2, hc2⟩ : ∃ c, blkB y = c := ⟨_, rfl⟩
            have HB2 := Lib.hid (fun W => blankS_any y W)
            rw [hc2] at HB2
            cases c2 with
            | false =>
              have E := Lib.hid (HM.out.trans (words_more t k m y hlm hy hm1 hc2))
              clear hy hc2 HBL
              go_wp2_with (go_at_call 282; refine (HB2.out _).mono ?_; rintro e w' ⟨rfl, rfl⟩)
              go_round
              case rel => exact ⟨m + 1, by omega, by omega, by go_num, E.out⟩
              case measure => simp [intOf]; omega
            | true =>
              have hkm : k < m := by
                rcases Nat.lt_or_ge k m with h | h
                · exact h
                · have e : m = k := by omega
                  subst e
                  rw [HXC.out.1] at hy
                  subst hy
                  rw [HXC.out.2] at hc2
                  cases hc2
              have E := Lib.hid (show wordsA [] t = (ds ++ [sl t k m]) ++ wordsA [] (t.drop m) by rw [HE.out, HM.out, words_stop t k m y hlm hy hkm hc2]; simp)
              clear hy hc2 HBL
              go_wp2_with (first
                | (go_at_call 282; refine (HB2.out _).mono ?_; rintro e w' ⟨rfl, rfl⟩)
                | (at_builtin; refine wpList_append_own _ rfl _ _ 23 rfl w.heap.size 9 i0 (.string ByteArray.empty) 1 16 Tryz.underlying23 hi hz0 hz1 hz2 rfl (by decide) _ _ _ rfl (World.ownsRow.alloc HO.out _) ⟨wr.heap.size, 0, none⟩ 1 1 [.string ⟨(sl t k m).toArray⟩] rfl rfl (cell_one_new _ _ _) (one_str _) C3 C4 (by simp; omega) ?_; intro v' w1 hown' hgrow _; have HO1 := Lib.hid (O1.snoc hown'); have HR1 := Lib.hid ((HR.out.alloc HR.out.size _).grown hgrow (by simp; omega) (fun j hj => (World.ownsRow.lt HO.out j hj).1)); clear hown' hgrow))
              go_roundw
              case rel => exact ⟨m, ds ++ [sl t k m], by omega, by simp; omega, rfl, HO1.out, E.out, HR1.out⟩
              case measure => simp [intOf]; omega
          · obtain rfl : m = t.length := by omega
            have E := Lib.hid (show wordsA [] t = (ds ++ [sl t k t.length]) ++ wordsA [] (t.drop t.length) by rw [HE.out, HM.out, words_end t k hlt]; simp [wordsA])
            go_wp2_with (at_builtin; refine wpList_append_own _ rfl _ _ 23 rfl w.heap.size 9 i0 (.string ByteArray.empty) 1 16 Tryz.underlying23 hi hz0 hz1 hz2 rfl (by decide) _ _ _ rfl (World.ownsRow.alloc HO.out _) ⟨wr.heap.size, 0, none⟩ 1 1 [.string ⟨(sl t k t.length).toArray⟩] rfl rfl (cell_one_new _ _ _) (one_str _) C3 C4 (by simp; omega) ?_; intro v' w1 hown' hgrow _; have HO1 := Lib.hid (O1.snoc hown'); have HR1 := Lib.hid ((HR.out.alloc HR.out.size _).grown hgrow (by simp; omega) (fun j hj => (World.ownsRow.lt HO.out j hj).1)); clear hown' hgrow)
            go_roundw
            case rel => exact ⟨t.length, ds ++ [sl t k t.length], by omega, by simp; omega, rfl, HO1.out, E.out, HR1.out⟩
            case measure => simp [intOf]; omega
    · obtain rfl : k = t.length := by omega
      have E := Lib.hid (show wordsA [] t = ds by rw [hE, List.drop_length]; simp [wordsA])
      clear hE
      go_wp2
      go_ret
      exact ⟨_, rfl, by rw [E.out]; exact HO.out, HR.out⟩
end Go.Proofs.YtbkikbhnehjaaaaGreatDoor.Rp
namespace Go.Proofs.YtbkikbhnehjaaaaGreatDoor.Rp
open Go.RowKit
open Go.Proofs.YtbkikbhnehjaaaaGreatDoor.Po
open Go.Proofs.YtbkikbhnehjaaaaGreatDoor.Tx hiding ret_b ret_i
open Go.Proofs.YtbkikbhnehjaaaaGreatDoor.Ow
open Go.Proofs.YtbkikbhnehjaaaaGreatDoor.Ul (lowL low_len)
theorem Tryz.infoRl : (Tryz.prog.info? 149).map (fun i => (i.zero, i.size, i.bytes)) = some (some (.agg #[.string ByteArray.empty, .slice none 0 0]), 2, 40) := by kernel_rfl
theorem ORs.snoc {w2 w' : World} {base L : Nat} {v v' u : Value} {xs : List Rl} {vs : List Value} {x : Rl} {o : Obj} (h : ORs w2 base v xs vs) (hU : UnderL L v vs) (hu : O1 w2 L u x.words) (hbL : base ≤ L)
    (hown : w'.ownsRow base 149 2 v' (xs.length + 1) (ruC xs vs ++ [.string ⟨x.name.toArray⟩, u])) (hg : (w2.alloc o).grownBy w' v.ownBlock) : ORs w' base v' (xs ++ [x]) (vs ++ [u]) := by
  have hlen := h.len
  have hal := (Below.refl w2.heap.size w2).alloc (Nat.le_refl _) o
  have kp : ∀ {B : Nat} {z : Value} {ns : List (List UInt8)}, O1 w2 B z ns → O1 w' B z ns := fun h1 => (h1.below hal).kept hg (own_apart (h1.below hal) (h.below hal).row (by decide))
  refine ⟨by simp [hlen], ?_, ?_, ?_⟩
  · rw [ruC_app _ _ _ _ hlen, show (xs ++ [x]).length = xs.length + 1 by simp]
    exact hown
  · intro i y z hy hz
    by_cases hi : i < xs.length
    · rw [List.getElem?_append_left hi] at hy
      rw [List.getElem?_append_left (by omega)] at hz
      exact kp (h.wds i y z hy hz)
    · have hi2 : i < (xs ++ [x]).length := (List.getElem?_eq_some_iff.1 hy).1
      have e : i = xs.length := by simp at hi2; omega
      subst e
      rw [List.getElem?_append_right (by omega)] at hy
      rw [List.getElem?_append_right (by omega)] at hz
      simp [hlen] at hy hz
      subst hy hz
      exact (kp hu).base hbL
  · intro i j z z' hij hz hz'
    by_cases hj : j < vs.length
    · rw [List.getElem?_append_left hj] at hz'
      rw [List.getElem?_append_left (by omega)] at hz
      exact h.apart i j z z' hij hz hz'
    · have hj2 : j < (vs ++ [u]).length := (List.getElem?_eq_some_iff.1 hz').1
      have e : j = vs.length := by simp at hj2; omega
      subst e
      rw [List.getElem?_append_right (by omega)] at hz'
      rw [List.getElem?_append_left (by omega)] at hz
      simp at hz'
      subst hz'
      cases e : z.ownBlock with
      | none => exact .inl rfl
      | some g =>
        refine .inr (fun e2 => ?_)
        have h1 := hU.2 z (List.mem_of_getElem? hz) g e
        have h2 := own_base_le hu g e2.symm
        omega
theorem limR_of {n : Nat} {xs : List Rl} (h : ∀ r ∈ xs, rlim n r) (hn : 24 ≤ n) : LimR n xs := fun x hx => by
  obtain ⟨h1, h2, h3⟩ := h x hx
  exact ⟨by omega, h2, h3⟩
theorem foldr_take (ps : List (List UInt8)) (n k : Nat) (hp : ∀ p ∈ ps, p.length + 1 ≤ n) (hk : k ≤ ps.length) : (∀ r ∈ (ps.take k).foldl addR [], rlim n r) ∧ ((ps.take k).foldl addR []).length ≤ k := by
  have := read_lim n (ps.take k) (fun p hh => hp p (List.mem_of_mem_take hh)) [] (by simp)
  refine ⟨this.1, ?_⟩
  have h2 := this.2
  simp at h2
  omega
theorem ruleOf_nil (p : List UInt8) (h : wordsA [] p = []) (rs : List Rl) : addR rs p = rs := by simp [addR, ruleOf, h]
theorem ruleOf_bad (p w : List UInt8) (ws : List (List UInt8)) (h : wordsA [] p = w :: ws) (hn : rnameB (lowL w) = false) (rs : List Rl) : addR rs p = rs := by simp [addR, ruleOf, h, hn]
theorem ruleOf_again (p w : List UInt8) (ws : List (List UInt8)) (h : wordsA [] p = w :: ws) (rs : List Rl) (ha : hasN rs (lowL w) = true) : addR rs p = rs := by
  by_cases hn : rnameB (lowL w) = true
  · simp [addR, ruleOf, h, hn, ha]
  · simp [addR, ruleOf, h, hn]
theorem ruleOf_new (p w : List UInt8) (ws : List (List UInt8)) (h : wordsA [] p = w :: ws) (hn : rnameB (lowL w) = true) (rs : List Rl) (ha : hasN rs (lowL w) = false) : addR rs p = rs ++ [⟨lowL w, ws⟩] := by simp [addR, ruleOf, h, hn, ha]
theorem below_set3 {W w : World} (h : Below W.heap.size W w) (x y z : Value) : Below W.heap.size W (set3 w W.heap.size 0 x y z) := ((h.setCell (by simp) _).setCell (by simp) _).setCell (by simp) _
abbrev zeroP : Obj := .cells #[.string ⟨#[]⟩, .slice none 0 0, .slice none 0 0] 26
theorem ret_P2 {fn : Func} {a s B : Nat} {tmps : Array Value} {X : World} {c0 c1 c2 x : Value} {T : TypeId} (hres : fn.results = #[.cell a 26, .tmp s]) (ha : tmps[a]?.getD undef = .pointer (some ⟨B, 0, none⟩)) (hs : tmps[s]?.getD undef = x) (h : X.heap[B]? = some (.cells #[c0, c1, c2] T (0, 0))) :
    (results fn tmps).run Tryz.prog X = .ok (.tuple #[.agg #[c0, c1, c2], x]) X := by
  obtain ⟨k0, k1, k2, _⟩ := three_cells h
  simp [results, hres, ha, hs, go_sem, k0, k1, k2]
/-- a policy read, and a second answer: where good, it is the policy of rs -/
def RdPost (W : World) (rs : List Rl) (good : Bool) (e : Ending) (w' : World) : Prop :=
  ∃ (p : Pl) (uv rv : Value), e = .returned (.tuple #[pV p uv rv, .bool good]) ∧ (∃ a l c, uv = .slice a l c) ∧ (∃ a l c, rv = .slice a l c) ∧
    (good = true → p = makeP rs ∧ TxtsIn (fun b => W.heap.size ≤ b ∧ b < w'.heap.size) w' uv (makeP rs).uris ∧ RlIn (fun b => W.heap.size ≤ b ∧ b < w'.heap.size) w' rv rs) ∧ Below W.heap.size W w'
theorem lim_words {n : Nat} {xs : List Rl} (h : ∀ r ∈ xs, rlim n r) (hn : n ≤ 1048576 := by omega) : ∀ i, i < xs.length → (xs.getD i default).words.length ≤ 1048576 ∧ ∀ j, j < (xs.getD i default).words.length → ((xs.getD i default).words.getD j []).length ≤ 1048576 := fun i hi => by
  obtain ⟨-, h2, h3⟩ := h _ (getD_mem xs i hi)
  exact ⟨by omega, fun j hj => by have := h3 _ (getT_mem _ j hj); omega⟩
theorem strs_one (ns : List (List UInt8)) : ∀ u ∈ strV ns, u.oneCell' = true := by
  intro u hu
  simp only [strV, List.mem_map] at hu
  obtain ⟨t, _, rfl⟩ := hu
  rfl
theorem news_txts {w : World} {bw o : Nat} {ns : List (List UInt8)} (h : ∀ i, i < ns.length → w.cell? ⟨bw, o + i, none⟩ = some (.string ⟨(ns.getD i []).toArray⟩)) (hlt : bw < w.heap.size) (ob : Obj) :
    ∀ j u, (strV ns)[j]? = some u → (w.alloc ob).cell? ((⟨bw, o, none⟩ : Addr).add j) = some u := by
  intro j u hu
  have hj : j < ns.length := by have := (List.getElem?_eq_some_iff.1 hu).1; simpa [strV] using this
  have e : u = .string ⟨(ns.getD j []).toArray⟩ := by simp [strV, hj] at hu; simp [hj, hu]
  rw [Addr.add_lit, World.cell?_alloc_past _ _ _ hlt, e]
  exact h j hj
theorem O1.first {w : World} {base : Nat} {v : Value} {ns : List (List UInt8)} (h : w.ownsRow base 9 1 v (0 + ns.length) ([] ++ strV ns)) : O1 w base v ns := by
  rw [Nat.zero_add, List.nil_append] at h
  exact h
/-- the first k rules are short -/
def shorts (xs : List Rl) (k : Nat) : Bool := (xs.take k).all shortB
theorem shorts_step (xs : List Rl) (k : Nat) (h : k < xs.length) : shorts xs (k + 1) = (shorts xs k && shortB (xs.getD k default)) := by
  unfold shorts
  have e : xs.take (k + 1) = xs.take k ++ [xs.getD k default] := by
    rw [List.take_add_one]; simp [h]
  rw [e, List.all_append]; simp
theorem few_not (xs : List Rl) (k : Nat) (h : k < xs.length) (hs : shortB (xs.getD k default) = false) : fewB xs = false := by
  unfold fewB
  have : xs.all shortB = false := by
    rw [List.all_eq_false]
    exact ⟨_, getD_mem xs k h, by rw [hs]; decide⟩
  rw [this, Bool.and_false]
theorem few_all (xs : List Rl) (hs : shorts xs xs.length = true) : fewB xs = decide (xs.length ≤ 8) := by
  unfold shorts at hs
  rw [List.take_length] at hs
  unfold fewB
  rw [hs, Bool.and_true]
set_option maxRecDepth 100000 in
set_option maxHeartbeats 8000000 in
theorem readS_any (t : List UInt8) (hl : t.length ≤ 65536) (W : World) :
    Calls Tryz.prog 114 #[.string ⟨t.toArray⟩] W (RdPost W (readRs t) (fewB (readRs t))) := by
  obtain ⟨hpl, hpm⟩ := cutA_len 59 t []
  have HCUT := Lib.hid (fun W' => cutS_any t 59 W' (by omega))
  obtain ⟨ps, hp⟩ : ∃ ps, cutA 59 [] t = ps := ⟨_, rfl⟩
  have hrs : readRs t = ps.foldl addR [] := by unfold readRs; rw [hp]
  rw [hrs]
  rw [hp] at hpl hpm HCUT
  have hpp : ∀ p ∈ ps, p.length + 1 ≤ 65537 := fun p hh => by have := hpm p hh; simp at this; omega
  have LIM := Lib.hid (fun k (hk : k ≤ ps.length) => foldr_take ps 65537 k hpp hk)
  have HPM := Lib.hid hpp
  have hpn : ps.length ≤ 65537 := by omega
  have B0 := (Below.refl W.heap.size W).alloc (Nat.le_refl _) zeroP
  have B1 := Lib.hid (B0.alloc B0.size (.cells #[] 149))
  have Z1 := Lib.hid ((heap_alloc_old (W.alloc zeroP) (.cells #[] 149) (by simp)).trans (heap_alloc_new W zeroP))
  have R1 := Lib.hid (show ORs ((W.alloc zeroP).alloc (.cells #[] 149)) (W.heap.size + 1) (.slice (some ⟨W.heap.size + 1, 0, none⟩) 0 0) [] [] from
    ⟨rfl, by
      have h := World.ownsRow_made (base := W.heap.size + 1) (e := 149) (size := 2) (W.alloc zeroP) #[] 0 (by simp) (by unfold maxLen; omega) rfl
      simpa [ruC] using h, fun _ _ _ h => by simp at h, fun _ _ _ _ _ h => by simp at h⟩)
  have hs1 : ((W.alloc zeroP).alloc (.cells #[] 149)).heap.size = W.heap.size + 1 + 1 := by simp
  clear hp hrs hpl hpm hpp B0
  go_enter Tryz.func114, Tryz.ntmps114
  go_wp2_with fail
  refine (HCUT.out _).mono ?_
  rintro e w1 ⟨pv, rfl, ho1, hb1⟩
  have HP1 := Lib.hid (ho1.base (b := W.heap.size + 1) (by simp))
  have Z2 := Lib.hid ((hb1.block W.heap.size (by simp; omega)).trans Z1.out)
  have R2 := Lib.hid (R1.out.below hb1)
  have B2 := Lib.hid (B1.out.trans (hb1.mono (by simp; omega)))
  have hs2 : W.heap.size + 1 + 1 ≤ w1.heap.size := by have := hb1.size; simp at this; omega
  obtain ⟨ap, cp, rfl⟩ := ho1.slice
  clear ho1 hb1 hs1
  go_wp2_with fail
  go_loopw [4, 6, 7, 8] (fun rv i _ _ wr => ∃ (k : Nat) (vs : List Value), k ≤ ps.length ∧ i = .int .i64 k ∧ ORs wr (W.heap.size + 1) rv ((ps.take k).foldl addR []) vs ∧ O1 wr (W.heap.size + 1) (.slice ap ps.length cp) ps ∧ wr.heap[W.heap.size]? = some zeroP ∧ W.heap.size + 1 ≤ wr.heap.size ∧ Below W.heap.size W wr) (fun _ i _ _ _ => ps.length - (intOf i).toNat)
  case atStart => exact ⟨0, [], by omega, rfl, R2.out, HP1.out, Z2.out, by omega, B2.out⟩
  case round =>
    obtain ⟨k, vs, hk, rfl, hO, hP, hZ, hsz, hR⟩ := hrel
    obtain ⟨lm1, lm2⟩ := LIM.out k hk
    by_cases hlt : k < ps.length
    · have HFT := Lib.hid (fold_take ps k hlt)
      have hxm := HPM.out _ (getT_mem ps k hlt)
      obtain ⟨a0, c0, b0, o0, ea0, -, -, -, hpa, hpc⟩ := hP.txts (fun p hh => by have := HPM.out p hh; omega) (by omega)
      obtain ⟨ea, -, hlb⟩ := hpa (by omega)
      cases ea0
      subst ea
      have q0 := hpc k hlt
      generalize (ps.take k).foldl addR [] = rs at *
      generalize ps.getD k [] = x at *
      obtain ⟨ar, cr, rfl⟩ := hO.slice
      have HW := Lib.hid (fun W' => wordsS_any x W' (by omega))
      have hwl := wordsA_len x []
      have RN := Lib.hid (fun h => ruleOf_nil x h rs)
      have RB := Lib.hid (fun w ws h h2 => ruleOf_bad x w ws h h2 rs)
      have RA := Lib.hid (fun w ws h h2 => ruleOf_again x w ws h rs h2)
      have RW := Lib.hid (fun w ws h h2 h3 => ruleOf_new x w ws h h2 rs h3)
      generalize wordsA [] x = ww at *
      have HO := Lib.hid hO
      have HP := Lib.hid hP
      have HZ := Lib.hid hZ
      have HR := Lib.hid hR
      clear hO hP hZ hR hpa hpc
      go_wp2_with fail
      refine (HW.out wr).mono ?_
      rintro e w2 ⟨wv, rfl, ho2, hb2⟩
      have HO2 := Lib.hid (HO.out.below hb2)
      have HP2 := Lib.hid (HP.out.below hb2)
      have HZ2 := Lib.hid ((hb2.block W.heap.size (by omega)).trans HZ.out)
      have HR2 := Lib.hid (HR.out.trans (hb2.mono (by omega)))
      have hsz2 := hb2.size
      have HU := Lib.hid (HO.out.under)
      clear hb2 q0
      cases ww with
      | nil =>
        obtain ⟨aw, cw, rfl⟩ := ho2.slice
        have E := Lib.hid (HFT.out.trans (RN.out rfl))
        go_wp2
        go_roundw
        case rel => exact ⟨k + 1, vs, by omega, by go_num, by rw [E.out]; exact HO2.out, HP2.out, HZ2.out, by omega, HR2.out⟩
        case measure => simp [intOf]; omega
      | cons h ws =>
        obtain ⟨hwn, hwm⟩ := hwl
        have hws : ws.length ≤ 65537 := by simp at hwn; omega
        obtain ⟨aw, cw, bw, ow, ew, hcapw, hmw, -, hwa, hwc⟩ := ho2.txts (fun p hh => by have := hwm p hh; simp at this; omega) (by simp; omega)
        obtain ⟨ea, -, hlw⟩ := hwa (by simp)
        subst ew
        subst ea
        have q0 := hwc 0 (by simp)
        simp only [List.getD_cons_zero, Nat.add_zero] at q0
        have HWC := Lib.hid (fun i (hi : i < ws.length) => by have := hwc (i + 1) (by simpa using hi); simpa only [List.getD_cons_succ] using this)
        have hhl : h.length ≤ 65537 := by have := hwm h (by simp); simp at this; omega
        have HLO := Lib.hid (fun W' => Ul.lowerS_any h W' (by omega))
        have hnl : (lowL h).length ≤ 65537 := by rw [low_len]; exact hhl
        have RB := Lib.hid (RB.out h ws rfl)
        have RA := Lib.hid (RA.out h ws rfl)
        have RW := Lib.hid (RW.out h ws rfl)
        generalize lowL h = nm at *
        clear ho2 hwa hwc hwm RN
        go_wp2_with fail
        refine (HLO.out w2).mono ?_
        rintro e w3 ⟨rfl, hb3⟩
        have HO3 := Lib.hid (HO2.out.below hb3)
        have HP3 := Lib.hid (HP2.out.below hb3)
        have HZ3 := Lib.hid ((hb3.block W.heap.size (by omega)).trans HZ2.out)
        have HR3 := Lib.hid (HR2.out.trans (hb3.mono (by omega)))
        have hsz3 := hb3.size
        have HWC3 := Lib.hid (fun i (hi : i < ws.length) => (hb3.cell (p := ⟨bw, ow + (i + 1), none⟩) hlw).trans (HWC.out i hi))
        have HNm := Lib.hid (fun W => nameS_any nm W (by omega))
        have HAt := Lib.hid (atS_any _ rs (.slice ar rs.length cr) nm w3 (HO3.out.rl (M := 65537) (by omega) (limR_of lm1 (by omega))))
        obtain ⟨nb, hnb⟩ : ∃ c, rnameB nm = c := ⟨_, rfl⟩
        rw [hnb] at HNm
        have has := has_at nm rs 0
        obtain ⟨hh, hhh⟩ : ∃ c, hasN rs nm = c := ⟨_, rfl⟩
        rw [hhh] at has
        generalize atN nm 0 rs = ai at *
        clear hb3 q0 HO2 HP2 HZ2 HR2 HWC HLO
        cases nb with
        | false =>
          have E := Lib.hid (HFT.out.trans (RB.out hnb))
          go_wp2_with (first
            | (go_at_call 165; refine (HNm.out _).mono ?_; rintro e w' ⟨rfl, rfl⟩))
          go_roundw
          case rel => exact ⟨k + 1, vs, by omega, by go_num, by rw [E.out]; exact HO3.out, HP3.out, HZ3.out, by omega, HR3.out⟩
          case measure => simp [intOf]; omega
        | true =>
          cases hh with
          | true =>
            have E := Lib.hid (HFT.out.trans (RA.out hhh))
            have d1 : decide (ai < 0) = false := by
              have := of_decide_eq_true has.symm
              simp; omega
            clear has hhh hnb
            go_wp2_with (first
              | (go_at_call 165; refine (HNm.out _).mono ?_; rintro e w' ⟨rfl, rfl⟩)
              | (go_at_call 211; refine HAt.out.mono ?_; rintro e w' ⟨rfl, rfl⟩))
            go_roundw
            case rel => exact ⟨k + 1, vs, by omega, by go_num, by rw [E.out]; exact HO3.out, HP3.out, HZ3.out, by omega, HR3.out⟩
            case measure => simp [intOf]; omega
          | false =>
            have E := Lib.hid (HFT.out.trans (RW.out hnb hhh))
            have d1 : decide (ai < 0) = true := by
              have := of_decide_eq_false has.symm
              simp; omega
            clear has hhh hnb
            rcases (show (cw = 1 ∧ ws = []) ∨ ¬ cw = 1 from by
              by_cases h1 : cw = 1
              · exact .inl ⟨h1, List.eq_nil_of_length_eq_zero (by simp at hcapw; omega)⟩
              · exact .inr h1) with ⟨rfl, rfl⟩ | hc1
            · have HNEWS := Lib.hid (fun (ob : Obj) => show ∀ (j : Nat) (u : Value), ([] : List Value)[j]? = some u → (w3.alloc ob).cell? ((⟨bw, ow, none⟩ : Addr).add j) = some u from fun j u hu => by simp at hu)
              have HMADE := Lib.hid (fun o => World.ownsRow_made (base := w3.heap.size) (e := 9) (size := 1) w3 o 0 (Nat.le_refl _) (by unfold maxLen; omega))
              obtain ⟨i0, hi0, hz0, hz1, hz2⟩ := info_parts Tryz.infoS
              obtain ⟨i1, hi1, hy0, hy1, hy2⟩ := info_parts Tryz.infoRl
              go_wp2_with (first
                | (go_at_call 165; refine (HNm.out _).mono ?_; rintro e w' ⟨rfl, rfl⟩)
                | (go_at_call 211; refine HAt.out.mono ?_; rintro e w' ⟨rfl, rfl⟩)
                | (at_builtin; have hh1 := R4; refine wpList_append_own _ rfl _ _ 24 rfl (W.heap.size + 1) 149 i1 (.agg #[.string ByteArray.empty, .slice none 0 0]) 2 40 Tryz.underlying24 hi1 hy0 hy1 hy2 rfl (by decide) _ _ _ rfl (World.ownsRow.alloc R4.out.row _) ⟨w4.heap.size, 0, none⟩ 1 1 [.string ⟨nm.toArray⟩, .slice a1 0 c1] rfl rfl (World.news_of_block (cs := #[.string ⟨nm.toArray⟩, .slice a1 0 c1]) (t := 149) (fr := (0, 0)) (heap_alloc_new w4 _)) (by simp [Value.oneCell']) (by unfold maxLen; omega) (by omega) (by simp; omega) ?_; intro v2 w5 hown2 hgrow2 _)
                | (at_builtin; refine wpList_append_own _ rfl _ _ 23 rfl w3.heap.size 9 i0 (.string ByteArray.empty) 1 16 Tryz.underlying23 hi0 hz0 hz1 hz2 rfl (by decide) _ _ _ rfl (HMADE.out #[] rfl) ⟨bw, ow, none⟩ 0 0 [] rfl rfl (HNEWS.out _) (strs_one []) (by unfold maxLen; omega) (by omega) (by simp) ?_; intro v1 w4 hown1 hgrow1 _; obtain ⟨a1, c1, rfl⟩ := O1.slice (O1.first (ns := []) hown1); have U4 := Lib.hid (O1.first (ns := []) hown1); have b34 := Lib.hid (((Below.refl w3.heap.size w3).alloc (Nat.le_refl _) _).grown hgrow1 (by simp) (fun j hj => (World.ownsRow.lt (HMADE.out #[] rfl) j hj).1)); have R4 := Lib.hid (HO3.out.below b34.out); have hs34 := b34.out.size; clear hown1 hgrow1))
              have RW5 := Lib.hid (ORs.snoc (x := ⟨nm, []⟩) R4.out HO3.out.under U4.out (by omega) hown2 hgrow2)
              have b4 := Lib.hid (HR3.out.trans (b34.out.mono (by omega)))
              have P4 := HP3.out.below b34.out
              have hal4 := (Below.refl w4.heap.size w4).alloc (Nat.le_refl _) (.cells #[.string ⟨nm.toArray⟩, .slice a1 0 c1] 149)
              have P5 := Lib.hid ((P4.below hal4).kept hgrow2 (own_apart (P4.below hal4) (World.ownsRow.alloc R4.out.row _) (by decide)))
              have Z5 := Lib.hid ((hgrow2.block W.heap.size (by simp; omega) (fun e => by have := (R4.out.row.lt _ e.symm).1; omega)).trans ((heap_alloc_old _ _ (by omega)).trans ((b34.out.block W.heap.size (by omega)).trans HZ3.out)))
              have b5 := Lib.hid ((b4.out.trans (hal4.mono (by omega))).grown hgrow2 (by simp; omega) (fun g hg => by have := (R4.out.row.lt g hg).1; omega))
              have hs5 := hgrow2.size
              simp at hs5
              clear hown2 hgrow2 P4 hal4
              go_roundw
              case rel => exact ⟨k + 1, vs ++ [.slice a1 0 c1], by omega, by go_num, by rw [E.out]; exact RW5.out, P5.out, Z5.out, by omega, b5.out⟩
              case measure => simp [intOf]; omega
            · have HNEWS := Lib.hid (news_txts (w := w3) (bw := bw) (o := ow + 1) (ns := ws) (fun i hi => by rw [show ow + 1 + i = ow + (i + 1) by omega]; exact HWC3.out i hi) (Nat.lt_of_lt_of_le hlw hsz3))
              have HMADE := Lib.hid (fun o => World.ownsRow_made (base := w3.heap.size) (e := 9) (size := 1) w3 o 0 (Nat.le_refl _) (by unfold maxLen; omega))
              obtain ⟨i0, hi0, hz0, hz1, hz2⟩ := info_parts Tryz.infoS
              obtain ⟨i1, hi1, hy0, hy1, hy2⟩ := info_parts Tryz.infoRl
              go_wp2_with (first
                | (go_at_call 165; refine (HNm.out _).mono ?_; rintro e w' ⟨rfl, rfl⟩)
                | (go_at_call 211; refine HAt.out.mono ?_; rintro e w' ⟨rfl, rfl⟩)
                | (at_builtin; have hh1 := R4; refine wpList_append_own _ rfl _ _ 24 rfl (W.heap.size + 1) 149 i1 (.agg #[.string ByteArray.empty, .slice none 0 0]) 2 40 Tryz.underlying24 hi1 hy0 hy1 hy2 rfl (by decide) _ _ _ rfl (World.ownsRow.alloc R4.out.row _) ⟨w4.heap.size, 0, none⟩ 1 1 [.string ⟨nm.toArray⟩, .slice a1 ws.length c1] rfl rfl (World.news_of_block (cs := #[.string ⟨nm.toArray⟩, .slice a1 ws.length c1]) (t := 149) (fr := (0, 0)) (heap_alloc_new w4 _)) (by simp [Value.oneCell']) (by unfold maxLen; omega) (by omega) (by simp; omega) ?_; intro v2 w5 hown2 hgrow2 _)
                | (at_builtin; refine wpList_append_own _ rfl _ _ 23 rfl w3.heap.size 9 i0 (.string ByteArray.empty) 1 16 Tryz.underlying23 hi0 hz0 hz1 hz2 rfl (by decide) _ _ _ rfl (HMADE.out #[] rfl) ⟨bw, ow + 1, none⟩ ws.length (cw - 1) (strV ws) rfl (by simp [strV]) (HNEWS.out _) (strs_one ws) (by unfold maxLen; omega) (by omega) (by simp) ?_; intro v1 w4 hown1 hgrow1 _; obtain ⟨a1, c1, rfl⟩ := O1.slice (O1.first (ns := ws) hown1); have U4 := Lib.hid (O1.first (ns := ws) hown1); have b34 := Lib.hid (((Below.refl w3.heap.size w3).alloc (Nat.le_refl _) _).grown hgrow1 (by simp) (fun j hj => (World.ownsRow.lt (HMADE.out #[] rfl) j hj).1)); have R4 := Lib.hid (HO3.out.below b34.out); have hs34 := b34.out.size; clear hown1 hgrow1))
              have RW5 := Lib.hid (ORs.snoc (x := ⟨nm, ws⟩) R4.out HO3.out.under U4.out (by omega) hown2 hgrow2)
              have b4 := Lib.hid (HR3.out.trans (b34.out.mono (by omega)))
              have P4 := HP3.out.below b34.out
              have hal4 := (Below.refl w4.heap.size w4).alloc (Nat.le_refl _) (.cells #[.string ⟨nm.toArray⟩, .slice a1 ws.length c1] 149)
              have P5 := Lib.hid ((P4.below hal4).kept hgrow2 (own_apart (P4.below hal4) (World.ownsRow.alloc R4.out.row _) (by decide)))
              have Z5 := Lib.hid ((hgrow2.block W.heap.size (by simp; omega) (fun e => by have := (R4.out.row.lt _ e.symm).1; omega)).trans ((heap_alloc_old _ _ (by omega)).trans ((b34.out.block W.heap.size (by omega)).trans HZ3.out)))
              have b5 := Lib.hid ((b4.out.trans (hal4.mono (by omega))).grown hgrow2 (by simp; omega) (fun g hg => by have := (R4.out.row.lt g hg).1; omega))
              have hs5 := hgrow2.size
              simp at hs5
              clear hown2 hgrow2 P4 hal4
              go_roundw
              case rel => exact ⟨k + 1, vs ++ [.slice a1 ws.length c1], by omega, by go_num, by rw [E.out]; exact RW5.out, P5.out, Z5.out, by omega, b5.out⟩
              case measure => simp [intOf]; omega
    · obtain rfl : k = ps.length := by omega
      rw [List.take_length] at hO lm1 lm2
      clear HCUT LIM HPM
      generalize ps.foldl addR [] = rs at *
      have hRL := hO.rl (M := 65537) (by omega) (limR_of lm1 (by omega))
      obtain ⟨ar, cr, br, orr, wvs, ev, hcapr, hmr, hnr, hra, hrc⟩ := hRL
      subst ev
      have HRL := Lib.hid (hO.rl (M := 65537) (by omega) (limR_of lm1 (by omega)))
      have HMK := Lib.hid (fun W' h1 h2 => makeS_any wr.heap.size wr rs (.slice ar rs.length cr) (HRL.out.mono (S' := (· < wr.heap.size)) fun _ hb => hb.2) (by omega) (lim_words lm1) W' h1 h2)
      have HRA := Lib.hid hra
      have HRC := Lib.hid hrc
      have HR := Lib.hid hR
      have HZ := Lib.hid hZ
      have hrn : rs.length ≤ 65537 := by omega
      have hzl := (Array.getElem?_eq_some_iff.1 hZ).1
      obtain ⟨n0, n1, n2, nf⟩ := three_cells hZ
      have hmp := uris_four (wordsOf ruriL rs) [] (by simp)
      clear hO hP hZ hR hra hrc lm1 lm2 hnr
      go_wp2_with fail
      go_loop [9] (fun i => ∃ j : Nat, j ≤ rs.length ∧ i = .int .i64 j ∧ shorts rs j = true) (fun i => rs.length - (intOf i).toNat)
      case atStart => exact ⟨0, by omega, rfl, rfl⟩
      case round =>
        obtain ⟨j, hj, rfl, hsh⟩ := hrel
        have HSH := Lib.hid hsh
        clear hsh
        by_cases hlj : j < rs.length
        · obtain ⟨ea, -, hlb⟩ := HRA.out (by omega)
          subst ea
          obtain ⟨-, q1, T1⟩ := HRC.out j hlj
          obtain ⟨a5, c5, b5, o5, e5, -⟩ := T1
          rw [e5] at q1
          have ST := Lib.hid (shorts_step rs j hlj)
          have FS := Lib.hid (few_not rs j hlj)
          clear e5
          generalize (rs.getD j default) = x at *
          by_cases h8 : x.words.length ≤ 8
          · have d8 : decide ((8 : Int) < (x.words.length : Int)) = false := by simp; omega
            go_wp2
            go_round
            case rel => exact ⟨j + 1, by omega, by go_num, by rw [ST.out, HSH.out]; simp [shortB, h8]⟩
            case measure => simp [intOf]; omega
          · have d8 : decide ((8 : Int) < (x.words.length : Int)) = true := by simp; omega
            have HFIN := Lib.hid (heap_set3 HZ.out (.string ⟨#[]⟩) (.slice none 0 0) (.slice none 0 0))
            have EF := Lib.hid (FS.out (by simp [shortB, h8]))
            have BF := Lib.hid (below_set3 HR.out (.string ⟨#[]⟩) (.slice none 0 0) (.slice none 0 0))
            clear h8
            go_wp2
            exact bodyPost_ret (ret_P2 Tryz.results114 rfl rfl HFIN.out) rfl ⟨⟨[], [], []⟩, _, _, by rw [EF.out]; rfl, ⟨_, _, _, rfl⟩, ⟨_, _, _, rfl⟩, (fun h => by rw [EF.out] at h; cases h), BF.out⟩
        · obtain rfl : j = rs.length := by omega
          have EF := few_all rs HSH.out
          obtain ⟨d, hd⟩ : ∃ d, decide (rs.length ≤ 8) = d := ⟨_, rfl⟩
          have d8 : decide ((rs.length : Int) ≤ 8) = d := by rw [← hd]; apply decide_eq_decide.2; omega
          rw [hd] at EF
          have HE := Lib.hid EF
          clear hd EF
          go_wp2_with fail
          refine (HMK.out wr (Below.refl _ _) (Nat.le_refl _)).mono ?_
          rintro e w6 ⟨uv, rfl, hT6, hb6⟩
          obtain ⟨a6, l6, c6, rfl⟩ := hT6.slice
          have z6 := (hb6.block W.heap.size hzl).trans HZ.out
          obtain ⟨m0, m1, m2, mf⟩ := three_cells z6
          have HFIN := Lib.hid (heap_set3 z6 (.string ⟨(makeP rs).rep.toArray⟩) (.slice a6 l6 c6) (.slice ar rs.length cr))
          have far : ∀ b, W.heap.size + 1 ≤ b → (set3 w6 W.heap.size 0 (.string ⟨(makeP rs).rep.toArray⟩) (.slice a6 l6 c6) (.slice ar rs.length cr)).heap[b]? = w6.heap[b]? := fun b hb => set3_far _ _ _ _ _ _ _ (by omega)
          have s6 := hb6.size
          have TT := Lib.hid (hT6.same (S' := fun b => W.heap.size ≤ b ∧ b < (set3 w6 W.heap.size 0 (.string ⟨(makeP rs).rep.toArray⟩) (.slice a6 l6 c6) (.slice ar rs.length cr)).heap.size) fun b hb => ⟨⟨by omega, by rw [set3_size]; exact hb.2⟩, far b (by omega)⟩)
          have RR := Lib.hid (HRL.out.same (S' := fun b => W.heap.size ≤ b ∧ b < (set3 w6 W.heap.size 0 (.string ⟨(makeP rs).rep.toArray⟩) (.slice a6 l6 c6) (.slice ar rs.length cr)).heap.size) fun b hb => ⟨⟨by omega, by rw [set3_size]; omega⟩, (far b (by omega)).trans (hb6.block b hb.2)⟩)
          have BF := Lib.hid (below_set3 (HR.out.trans (hb6.mono (by omega))) (.string ⟨(makeP rs).rep.toArray⟩) (.slice a6 l6 c6) (.slice ar rs.length cr))
          clear hT6 hb6 z6 far
          go_wp2
          exact bodyPost_ret (ret_P2 Tryz.results114 rfl rfl HFIN.out) rfl ⟨makeP rs, _, _, by rw [HE.out]; rfl, ⟨_, _, _, rfl⟩, ⟨_, _, _, rfl⟩, (fun _ => ⟨rfl, TT.out, RR.out⟩), BF.out⟩
/-- the policy that is read, and its code -/
def RpPost (W : World) (t : List UInt8) (e : Ending) (w' : World) : Prop :=
  ∃ uv rv, e = .returned (.tuple #[pV (rpP t) uv rv, .int .i64 (rpC t)]) ∧ TxtsIn (fun b => W.heap.size ≤ b ∧ b < w'.heap.size) w' uv (rpP t).uris ∧ RlIn (fun b => W.heap.size ≤ b ∧ b < w'.heap.size) w' rv (rpP t).rules ∧ Below W.heap.size W w'
theorem rp_long {t : List UInt8} (h : 65536 < t.length) : rpP t = ⟨[], [], []⟩ ∧ rpC t = 2 := by simp [rpP, rpC, h]
theorem rp_many {t : List UInt8} (h : ¬ 65536 < t.length) (hf : fewB (readRs t) = false) : rpP t = ⟨[], [], []⟩ ∧ rpC t = 6 := by simp [rpP, rpC, h, hf]
theorem rp_good {t : List UInt8} (h : ¬ 65536 < t.length) (hf : fewB (readRs t) = true) : rpP t = makeP (readRs t) ∧ rpC t = 0 := by simp [rpP, rpC, h, hf]
theorem rls_nil (S : Nat → Prop) (w : World) : RlIn S w (.slice none 0 0) [] := ⟨none, 0, 0, 0, fun _ => undef, rfl, by simp, by omega, by simp, by simp, by simp⟩
theorem txs_nil (S : Nat → Prop) (w : World) : TxtsIn S w (.slice none 0 0) [] := ⟨none, 0, 0, 0, rfl, by simp, by omega, by simp, by simp, by simp⟩
set_option maxRecDepth 100000 in
set_option maxHeartbeats 4000000 in
theorem rpS_any (t : List UInt8) (hn : t.length ≤ 9223372036854775807) (W : World) : Calls Tryz.prog 43 #[.string ⟨t.toArray⟩] W (RpPost W t) := by
  have B0 := Lib.hid ((Below.refl W.heap.size W).alloc (Nat.le_refl _) zeroP)
  have Z0 := Lib.hid (heap_alloc_new W zeroP)
  obtain ⟨n0, n1, n2, nf⟩ := three_cells Z0.out
  by_cases hl : 65536 < t.length
  · have d1 : decide ((65536 : Int) < (t.length : Int)) = true := by simp; omega
    obtain ⟨e1, e2⟩ := rp_long hl
    unfold RpPost
    rw [e1, e2]
    clear hl e1 e2
    go_enter Tryz.func43, Tryz.ntmps43
    go_wp2
    exact bodyPost_ret (ret_P2 Tryz.results43 rfl rfl Z0.out) rfl ⟨_, _, rfl, txs_nil _ _, rls_nil _ _, B0.out⟩
  · have d1 : decide ((65536 : Int) < (t.length : Int)) = false := by simp; omega
    have HRD := Lib.hid (fun W' => readS_any t (by omega) W')
    have G1 := Lib.hid (fun h => rp_many hl h)
    have G2 := Lib.hid (fun h => rp_good hl h)
    clear hl
    generalize readRs t = rs at *
    obtain ⟨g, hg⟩ : ∃ g, fewB rs = g := ⟨_, rfl⟩
    rw [hg] at HRD G1 G2
    clear hg
    cases g
    · go_enter Tryz.func43, Tryz.ntmps43
      go_wp2_with fail
      refine (HRD.out _).mono ?_
      rintro e w1 ⟨p, uv, rv, rfl, ⟨a1, l1, c1, rfl⟩, ⟨a2, l2, c2, rfl⟩, hgood, hb1⟩
      obtain ⟨rep, us, xs⟩ := p
      have hs1 : W.heap.size + 1 ≤ w1.heap.size := by have := hb1.size; simpa using this
      have z1 := (hb1.block W.heap.size (by simp)).trans Z0.out
      have HG := Lib.hid hgood
      have B1 := Lib.hid (below_chain B0.out hb1)
      have hal := (Below.refl w1.heap.size w1).alloc (Nat.le_refl _) (.cells #[.string ⟨rep.toArray⟩, .slice a1 l1 c1, .slice a2 l2 c2] 26)
      have z2 := (hal.block W.heap.size (by omega)).trans z1
      obtain ⟨m0, m1, m2, mf⟩ := three_cells z2
      have B2 := below_chain B1.out hal
      clear hgood hb1
      obtain ⟨e1, e2⟩ := G1.out (by first | rfl | trivial)
      have E1 := Lib.hid e1
      have E2 := Lib.hid e2
      have HFIN := Lib.hid (heap_set3 z2 (.string ⟨#[]⟩) (.slice none 0 0) (.slice none 0 0))
      have BF := Lib.hid (below_set3 B2 (.string ⟨#[]⟩) (.slice none 0 0) (.slice none 0 0))
      clear e1 e2 hal z1 z2 B2
      go_wp2
      exact bodyPost_ret (ret_P2 Tryz.results43 rfl rfl HFIN.out) rfl ⟨_, _, by rw [E1.out, E2.out]; rfl, by rw [E1.out]; exact txs_nil _ _, by rw [E1.out]; exact rls_nil _ _, BF.out⟩
    · go_enter Tryz.func43, Tryz.ntmps43
      go_wp2_with fail
      refine (HRD.out _).mono ?_
      rintro e w1 ⟨p, uv, rv, rfl, ⟨a1, l1, c1, rfl⟩, ⟨a2, l2, c2, rfl⟩, hgood, hb1⟩
      obtain ⟨rep, us, xs⟩ := p
      have hs1 : W.heap.size + 1 ≤ w1.heap.size := by have := hb1.size; simpa using this
      have z1 := (hb1.block W.heap.size (by simp)).trans Z0.out
      have HG := Lib.hid hgood
      have B1 := Lib.hid (below_chain B0.out hb1)
      have hal := (Below.refl w1.heap.size w1).alloc (Nat.le_refl _) (.cells #[.string ⟨rep.toArray⟩, .slice a1 l1 c1, .slice a2 l2 c2] 26)
      have z2 := (hal.block W.heap.size (by omega)).trans z1
      obtain ⟨m0, m1, m2, mf⟩ := three_cells z2
      have B2 := below_chain B1.out hal
      clear hgood hb1
      obtain ⟨e1, e2⟩ := G2.out (by first | rfl | trivial)
      obtain ⟨hp, hT, hX⟩ := HG.out (by first | rfl | trivial)
      have E1 := Lib.hid (e1.trans hp.symm)
      have E2 := Lib.hid e2
      rw [← hp] at hT
      have hxs : xs = rs := by have := congrArg Pl.rules hp; exact this
      rw [← hxs] at hX
      have HFIN := Lib.hid (heap_set3 z2 (.string ⟨rep.toArray⟩) (.slice a1 l1 c1) (.slice a2 l2 c2))
      have BF := Lib.hid (below_set3 B2 (.string ⟨rep.toArray⟩) (.slice a1 l1 c1) (.slice a2 l2 c2))
      have s2 := hal.size
      obtain ⟨wz, hwz⟩ : ∃ wz, wz = set3 (w1.alloc (.cells #[.string ⟨rep.toArray⟩, .slice a1 l1 c1, .slice a2 l2 c2] 26)) W.heap.size 0 (.string ⟨rep.toArray⟩) (.slice a1 l1 c1) (.slice a2 l2 c2) := ⟨_, rfl⟩
      have far : ∀ b, W.heap.size + 1 ≤ b → b < w1.heap.size → wz.heap[b]? = w1.heap[b]? := fun b hb hlt => by rw [hwz, set3_far _ _ _ _ _ _ _ (by omega)]; exact hal.block b hlt
      have hsz : w1.heap.size ≤ wz.heap.size := by rw [hwz, set3_size]; exact s2
      have TT := Lib.hid (hT.same (S' := fun b => W.heap.size ≤ b ∧ b < wz.heap.size) fun b hb => ⟨⟨by have := hb.1; simp at this; omega, by omega⟩, far b (by have := hb.1; simpa using this) hb.2⟩)
      have RR := Lib.hid (hX.same (S' := fun b => W.heap.size ≤ b ∧ b < wz.heap.size) fun b hb => ⟨⟨by have := hb.1; simp at this; omega, by omega⟩, far b (by have := hb.1; simpa using this) hb.2⟩)
      have HWZ := Lib.hid hwz
      clear e1 e2 hal z1 z2 B2 hp hT hX hxs far hwz hsz s2
      go_wp2
      exact bodyPost_ret (ret_P2 Tryz.results43 rfl rfl HFIN.out) rfl ⟨_, _, by rw [E1.out, E2.out]; rfl, by rw [E1.out]; have h8 := TT.out; rw [HWZ.out] at h8; exact h8, by rw [E1.out]; have h8 := RR.out; rw [HWZ.out] at h8; exact h8, BF.out⟩
end Go.Proofs.YtbkikbhnehjaaaaGreatDoor.Rp
