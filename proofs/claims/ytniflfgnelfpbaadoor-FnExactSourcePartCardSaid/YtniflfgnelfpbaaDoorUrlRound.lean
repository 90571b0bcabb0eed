
/-
  URLs, plainly: a URL is read back from its text. No program is named here.
-/
import Derived.Test.YtniflfgnelfpbaaDoorUrlPlainC
namespace Go.Proofs.YtniflfgnelfpbaaDoor.Ul
/-! ### A byte that a text lacks -/
def lacks (l : List UInt8) (c : Nat) : Prop := ∀ x ∈ l, x.toNat ≠ c
theorem lacks_nil (c : Nat) : lacks [] c := fun _ h => by cases h
theorem lacks_app {a b : List UInt8} {c : Nat} (ha : lacks a c) (hb : lacks b c) : lacks (a ++ b) c := fun x h => by
  rcases List.mem_append.1 h with h | h
  · exact ha x h
  · exact hb x h
theorem lacks_cons {x : UInt8} {l : List UInt8} {c : Nat} (hx : x.toNat ≠ c) (h : lacks l c) : lacks (x :: l) c := fun y hy => by
  rcases List.mem_cons.1 hy with rfl | hy
  · exact hx
  · exact h y hy
theorem find_app {a : List UInt8} {c : Nat} (h : lacks a c) (b : List UInt8) : findB (a ++ b) c = a.length + findB b c := by
  induction a with
  | nil => simp
  | cons x a ih =>
    have hx : x.toNat ≠ c := h x (by simp)
    have := ih (fun y hy => h y (by simp [hy]))
    simp only [List.cons_append, findB, hx, if_false, List.length_cons]
    omega
theorem find_lack {a : List UInt8} {c : Nat} (h : lacks a c) : findB a c = a.length := by
  have := find_app h []
  simpa [findB] using this
theorem find_here {a : List UInt8} {x : UInt8} (h : lacks a x.toNat) (b : List UInt8) : findB (a ++ x :: b) x.toNat = a.length := by
  rw [find_app h]; simp [findB]
theorem cut_here {a : List UInt8} {x : UInt8} (h : lacks a x.toNat) (b : List UInt8) : befL (a ++ x :: b) x.toNat = a ∧ aftL (a ++ x :: b) x.toNat = b ∧ hasB (a ++ x :: b) x.toNat = true := by
  have := find_here h b
  refine ⟨by simp [befL, this], ?_, by simp [hasB, this]⟩
  unfold aftL
  rw [this, List.drop_append]
  simp
theorem cut_lack {a : List UInt8} {c : Nat} (h : lacks a c) : befL a c = a ∧ aftL a c = [] ∧ hasB a c = false := by
  have := find_lack h
  refine ⟨by simp [befL, this], by simp [aftL, this], by simp [hasB, this]⟩
theorem has_lack {l : List UInt8} {c : Nat} (h : hasB l c = false) : lacks l c := by
  induction l with
  | nil => exact lacks_nil c
  | cons x l ih =>
    by_cases hx : x.toNat = c
    · simp [hasB, findB, hx] at h
    · refine lacks_cons hx (ih ?_)
      simp [hasB, findB, hx] at h ⊢
      omega
theorem only_lacks {l wo : List UInt8} (h : onlyB l wo = true) (x : UInt8) (hx : x ∈ wo) : lacks l x.toNat := fun y hy e => by
  have := List.all_eq_true.1 h y hy
  simp only [onlyC, Bool.and_eq_true] at this
  have h2 : hasB wo y.toNat = false := by simpa using this.2
  have := has_lack h2 x hx
  exact this e.symm
theorem only_low {l wo : List UInt8} (h : onlyB l wo = true) {c : Nat} (hc : c < 33 ∨ 126 < c) : lacks l c := fun y hy e => by
  have := List.all_eq_true.1 h y hy
  simp only [onlyC, Bool.and_eq_true, decide_eq_true_eq] at this
  omega
/-! ### Scheme and host -/
theorem schC_ok {i : Nat} {x : UInt8} (h : schC i x = true) : x.toNat ≠ 58 ∧ lowC x = x := by
  have hr : (97 ≤ x.toNat ∧ x.toNat ≤ 122) ∨ (48 ≤ x.toNat ∧ x.toNat ≤ 57) ∨ x.toNat = 45 ∨ x.toNat = 43 ∨ x.toNat = 46 := by
    simp [schC, lowB, digB] at h
    omega
  have hu : upB x = false := by simp [upB]; omega
  exact ⟨by omega, by simp [lowC, hu]⟩
theorem schTo_ok : ∀ (l : List UInt8) (i : Nat), schTo l i = true → lacks l 58 ∧ lowL l = l
  | [], _, _ => ⟨lacks_nil _, rfl⟩
  | x :: l, i, h => by
    simp only [schTo, Bool.and_eq_true] at h
    have h1 := schC_ok h.1
    have h2 := schTo_ok l (i + 1) h.2
    refine ⟨lacks_cons h1.1 h2.1, ?_⟩
    show lowC x :: lowL l = _
    rw [h1.2, h2.2]
theorem scheme_ok {l : List UInt8} (h : schemeB l = true) : lacks l 58 ∧ lowL l = l := by
  simp only [schemeB, Bool.and_eq_true] at h
  exact schTo_ok l 0 h.2
theorem host_ok : ∀ (l : List UInt8) (b : Bool), hostTo l b = true → (∀ x ∈ l, plainB x = true ∨ jointB x = true)
  | [], _, _ => fun x h => by cases h
  | x :: l, b, h => by
    simp only [hostTo] at h
    intro y hy
    by_cases hp : plainB x = true
    · rw [if_pos hp] at h
      rcases List.mem_cons.1 hy with rfl | hy
      · exact .inl hp
      · exact host_ok l _ h y hy
    · rw [if_neg hp] at h
      by_cases hj : (jointB x && !b) = true
      · rw [if_pos hj] at h
        rcases List.mem_cons.1 hy with rfl | hy
        · simp only [Bool.and_eq_true] at hj; exact .inr hj.1
        · exact host_ok l _ h y hy
      · rw [if_neg hj] at h; cases h
theorem host_byte {x : UInt8} (h : plainB x = true ∨ jointB x = true) : ((97 ≤ x.toNat ∧ x.toNat ≤ 122) ∨ (48 ≤ x.toNat ∧ x.toNat ≤ 57) ∨ x.toNat = 45 ∨ x.toNat = 46) := by
  simp [plainB, lowB, digB, jointB] at h
  omega
theorem host_lacks {l : List UInt8} (h : hostB l = true) {c : Nat} (hc : c = 35 ∨ c = 63 ∨ c = 47 ∨ c = 64 ∨ c = 58) : lacks l c := fun x hx e => by
  have := host_byte (host_ok l true h x hx)
  omega
theorem host_low {l : List UInt8} (h : hostB l = true) : lowL l = l := by
  have : ∀ x ∈ l, lowC x = x := fun x hx => by
    have := host_byte (host_ok l true h x hx)
    have hu : upB x = false := by simp [upB]; omega
    simp [lowC, hu]
  unfold lowL
  conv => rhs; rw [← List.map_id l]
  exact List.map_congr_left this
/-! ### A number's digits are read back -/
theorem digit_byte (d : Nat) (h : d < 10) : (UInt8.ofNat (48 + d)).toNat = 48 + d := by
  simp; omega
theorem dec_read : ∀ (k n : Nat), n < 10 ^ (k + 1) → (Lib.decDigits n).all digB = true ∧ valB (Lib.decDigits n) = n ∧ 1 ≤ (Lib.decDigits n).length ∧ (1 ≤ n → zeroB (Lib.decDigits n) = false)
  | 0, n, h => by
    have hn : n < 10 := by omega
    rw [Lib.decDigits_one hn]
    have e := digit_byte n hn
    refine ⟨by simp [digB]; omega, by simp [valB, valTo, digV]; omega, by simp, fun h1 => ?_⟩
    simp only [zeroB]
    rw [beq_eq_false_iff_ne]
    intro e2
    rw [e2] at e
    simp at e
    omega
  | k + 1, n, h => by
    by_cases h1 : n < 10
    · exact dec_read 0 n (by omega)
    · have ih := dec_read k (n / 10) (by rw [Nat.pow_succ] at h; omega)
      have e := digit_byte (n % 10) (by omega)
      rw [Lib.decDigits, dif_neg h1]
      refine ⟨by simp [ih.1, digB]; omega, ?_, by simp, fun _ => ?_⟩
      · rw [val_snoc, ih.2.1]; simp only [digV, e]; omega
      · cases hd : Lib.decDigits (n / 10) with
        | nil => rw [hd] at ih; simp at ih
        | cons c r =>
          have := ih.2.2.2 (by omega)
          rw [hd] at this
          simpa [zeroB] using this
theorem port_read (n : Nat) (h1 : 1 ≤ n) (h2 : n ≤ 65535) : numB (Lib.decDigits n) = true ∧ numV (Lib.decDigits n) = n := by
  have hd := dec_read 4 n (by omega)
  have hl := digs_len 4 n (by omega)
  have hn : negB (Lib.decDigits n) = false := by
    cases hc : Lib.decDigits n with
    | nil => rfl
    | cons c r =>
      have := hd.1
      rw [hc] at this
      simp only [List.all_cons, Bool.and_eq_true] at this
      simp only [negB]
      rw [beq_eq_false_iff_ne]
      intro e
      rw [e] at this
      exact absurd this.1 (by decide)
  have hp := num_pos _ hn
  have hb : numB (Lib.decDigits n) = true := by
    rw [hp.1]
    exact digs_good false _ hd.2.2.1 (by omega) (.inl (hd.2.2.2 h1)) hd.1
  exact ⟨hb, by rw [hp.2 hb, hd.2.1]⟩
theorem dec_lacks (n : Nat) (h2 : n ≤ 65535) {c : Nat} (hc : c < 48 ∨ 57 < c) : lacks (Lib.decDigits n) c := fun x hx e => by
  have := List.all_eq_true.1 (dec_read 4 n (by omega)).1 x hx
  simp [digB] at this
  omega
/-! ### The whole text -/
theorem userL_lacks {l : List UInt8} {c : Nat} (h : lacks l c) (hc : c ≠ 64) : lacks (userL l) c := by
  unfold userL
  split
  · exact lacks_nil c
  · exact lacks_app h (lacks_cons (by simp; omega) (lacks_nil c))
theorem portL_lacks {p : Int} (h2 : p ≤ 65535) {c : Nat} (hc : c < 48 ∨ 58 < c) : lacks (portL p) c := by
  unfold portL
  split
  · exact lacks_cons (by simp; omega) (dec_lacks p.toNat (by omega) (by omega))
  · exact lacks_nil c
theorem cut_frag {a l : List UInt8} {b : Bool} (ha : lacks a 35) (h : b = true ∨ l = []) : befL (a ++ fragL b l) 35 = a ∧ aftL (a ++ fragL b l) 35 = l ∧ hasB (a ++ fragL b l) 35 = b := by
  cases b with
  | true => exact cut_here (x := 35) ha l
  | false =>
    obtain rfl : l = [] := h.resolve_left (by simp)
    simpa [fragL] using cut_lack ha
theorem cut_query {a l : List UInt8} {b : Bool} (ha : lacks a 63) (h : b = true ∨ l = []) : befL (a ++ queryL b l) 63 = a ∧ aftL (a ++ queryL b l) 63 = l ∧ hasB (a ++ queryL b l) 63 = b := by
  cases b with
  | true => exact cut_here (x := 63) ha l
  | false =>
    obtain rfl : l = [] := h.resolve_left (by simp)
    simpa [queryL] using cut_lack ha
theorem cut_user {u r : List UInt8} (hu : lacks u 64) (hr : lacks r 64) : userOf (userL u ++ r) = u ∧ behindUser (userL u ++ r) = r := by
  by_cases h : u = []
  · subst h
    have e : userL [] ++ r = r := by simp [userL]
    rw [e]
    have := cut_lack hr
    exact ⟨by simp [userOf, this.2.2], by simp [behindUser, this.2.2]⟩
  · have e : userL u ++ r = u ++ 64 :: r := by simp [userL, h]
    rw [e]
    have := cut_here (x := 64) hu r
    have h1 : befL (u ++ 64 :: r) 64 = u := this.1
    have h2 : aftL (u ++ 64 :: r) 64 = r := this.2.1
    have h3 : hasB (u ++ 64 :: r) 64 = true := this.2.2
    exact ⟨by simp [userOf, h1, h3], by simp [behindUser, h2, h3]⟩
theorem cut_port {h s : List UInt8} {p : Int} (hh : lacks h 58) (h0 : 0 ≤ p) (h2 : p ≤ 65535) (hne : p ≠ usual s) :
    befL (h ++ portL p) 58 = h ∧ (if hasB (h ++ portL p) 58 then portV s (aftL (h ++ portL p) 58) else 0) = p ∧ (hasB (h ++ portL p) 58 = true → portOKB (aftL (h ++ portL p) 58) = true) := by
  by_cases hp : 0 < p
  · obtain ⟨n, rfl⟩ := Int.eq_ofNat_of_zero_le h0
    have e : portL (n : Int) = 58 :: Lib.decDigits n := by simp [portL]; omega
    rw [e]
    have := cut_here (x := 58) hh (Lib.decDigits n)
    have h1 : befL (h ++ 58 :: Lib.decDigits n) 58 = h := this.1
    have h2' : aftL (h ++ 58 :: Lib.decDigits n) 58 = Lib.decDigits n := this.2.1
    have h3 : hasB (h ++ 58 :: Lib.decDigits n) 58 = true := this.2.2
    have hr := port_read n (by omega) (by omega)
    have ho : portOKB (Lib.decDigits n) = true := by
      simp only [portOKB, hr.1, hr.2, Bool.true_and, Bool.and_eq_true, decide_eq_true_eq]
      omega
    rw [h1, h2', h3]
    refine ⟨rfl, ?_, fun _ => ho⟩
    simp only [if_true, portV, ho, hr.2]
    rw [if_neg hne]
  · obtain rfl : p = 0 := by omega
    have e : portL 0 = [] := by simp [portL]
    rw [e, List.append_nil]
    have := cut_lack hh
    rw [this.1, this.2.2]
    exact ⟨rfl, by simp, by simp⟩
theorem parse_text (u : U) (hok : okB u = true) : splitB (textL u) = true ∧ splitU (textL u) = u := by
  obtain ⟨s, us, h, p, pa, q, f, hq, hf⟩ := u
  simp only [okB, headB, flagsB, Bool.and_eq_true, Bool.or_eq_true, decide_eq_true_eq, beq_iff_eq] at hok
  obtain ⟨⟨⟨⟨⟨⟨hs, hq1, hf1⟩, hpa⟩, hqr⟩, hfr⟩, _⟩, hparts⟩ := hok
  obtain ⟨hs58, hslow⟩ := scheme_ok hs
  cases hw : webB s with
  | true =>
    rw [hw, if_pos rfl] at hparts
    simp only [webPartsB, Bool.and_eq_true, decide_eq_true_eq, Bool.not_eq_true', beq_eq_false_iff_ne] at hparts
    obtain ⟨⟨⟨⟨hus, hh⟩, hp1, hp2⟩, hpu⟩, hsl⟩ := hparts
    obtain ⟨pr, rfl⟩ : ∃ pr, pa = 47 :: pr := by
      cases pa with
      | nil => cases hsl
      | cons c pr => exact ⟨pr, by simp [slashB] at hsl; rw [hsl]⟩
    have e : textL ⟨s, us, h, p, 47 :: pr, q, f, hq, hf⟩ = s ++ 58 :: (47 :: 47 :: (((userL us ++ (h ++ portL p)) ++ 47 :: pr) ++ queryL hq q ++ fragL hf f)) := by
      simp [textL, hw]
    have c1 := cut_here (x := 58) hs58 (47 :: 47 :: (((userL us ++ (h ++ portL p)) ++ 47 :: pr) ++ queryL hq q ++ fragL hf f))
    have c1a : befL (textL ⟨s, us, h, p, 47 :: pr, q, f, hq, hf⟩) 58 = s := by rw [e]; exact c1.1
    have c1b : aftL (textL ⟨s, us, h, p, 47 :: pr, q, f, hq, hf⟩) 58 = 47 :: 47 :: (((userL us ++ (h ++ portL p)) ++ 47 :: pr) ++ queryL hq q ++ fragL hf f) := by rw [e]; exact c1.2.1
    have c1c : hasB (textL ⟨s, us, h, p, 47 :: pr, q, f, hq, hf⟩) 58 = true := by rw [e]; exact c1.2.2
    have l35 : lacks (((userL us ++ (h ++ portL p)) ++ 47 :: pr) ++ queryL hq q) 35 := by
      refine lacks_app (lacks_app (lacks_app (userL_lacks (only_lacks hus 35 (by simp)) (by decide)) (lacks_app (host_lacks hh (by simp)) (portL_lacks hp2 (by omega)))) (only_lacks hpa 35 (by simp))) ?_
      unfold queryL
      split
      · exact lacks_cons (by decide) (only_lacks hqr 35 (by simp))
      · exact lacks_nil _
    have l63 : lacks ((userL us ++ (h ++ portL p)) ++ 47 :: pr) 63 :=
      lacks_app (lacks_app (userL_lacks (only_lacks hus 63 (by simp)) (by decide)) (lacks_app (host_lacks hh (by simp)) (portL_lacks hp2 (by omega)))) (only_lacks hpa 63 (by simp))
    have l47 : lacks (userL us ++ (h ++ portL p)) 47 :=
      lacks_app (userL_lacks (only_lacks hus 47 (by simp)) (by decide)) (lacks_app (host_lacks hh (by simp)) (portL_lacks hp2 (by omega)))
    have l64 : lacks (h ++ portL p) 64 := lacks_app (host_lacks hh (by simp)) (portL_lacks hp2 (by omega))
    have c2 := cut_frag l35 hf1
    have c3 := cut_query l63 hq1
    have c4 := cut_here (x := 47) l47 pr
    have c4a : befL ((userL us ++ (h ++ portL p)) ++ 47 :: pr) 47 = userL us ++ (h ++ portL p) := c4.1
    have c4b : aftL ((userL us ++ (h ++ portL p)) ++ 47 :: pr) 47 = pr := c4.2.1
    have c5 := cut_user (only_lacks hus 64 (by simp)) l64
    have c6 := cut_port (s := s) (host_lacks hh (by simp)) hp1 hp2 hpu
    have e2 : beforeQ (((userL us ++ (h ++ portL p)) ++ 47 :: pr) ++ queryL hq q ++ fragL hf f) = (userL us ++ (h ++ portL p)) ++ 47 :: pr := by
      unfold beforeQ; rw [c2.1, c3.1]
    have e3 : siteOf (((userL us ++ (h ++ portL p)) ++ 47 :: pr) ++ queryL hq q ++ fragL hf f) = h ++ portL p := by
      unfold siteOf; rw [e2, c4a, c5.2]
    refine ⟨?_, ?_⟩
    · unfold splitB
      rw [c1a, c1b, c1c, hslow, hw]
      simp only [slash2, List.drop_succ_cons, List.drop_zero, webSplitB, e3]
      cases hb : hasB (h ++ portL p) 58 with
      | false => simp
      | true => simp [c6.2.2 hb]
    · unfold splitU
      rw [c1a, c1b, hslow, hw]
      simp only [if_true, List.drop_succ_cons, List.drop_zero, webU, e2, e3, c2.1, c2.2.1, c2.2.2, c3.2.1, c3.2.2, c4a, c4b, c5.1, c6.1, c6.2.1, host_low hh]
  | false =>
    rw [hw] at hparts
    simp only [Bool.false_eq_true, if_false, otherPartsB, Bool.and_eq_true, beq_iff_eq, Bool.not_eq_true'] at hparts
    obtain ⟨⟨⟨⟨rfl, rfl⟩, rfl⟩, rfl⟩, rfl⟩ := hparts
    obtain rfl : q = [] := hq1.resolve_left (by simp)
    obtain rfl : f = [] := hf1.resolve_left (by simp)
    have e : textL ⟨s, [], [], 0, pa, [], [], false, false⟩ = s ++ 58 :: pa := by simp [textL, hw]
    have c1 := cut_here (x := 58) hs58 pa
    have c1a : befL (s ++ 58 :: pa) 58 = s := c1.1
    have c1b : aftL (s ++ 58 :: pa) 58 = pa := c1.2.1
    have c1c : hasB (s ++ 58 :: pa) 58 = true := c1.2.2
    have c2 := cut_lack (only_lacks hpa 35 (by simp))
    have c3 := cut_lack (only_lacks hpa 63 (by simp))
    have c2a : befL pa 35 = pa := c2.1
    have c3a : befL pa 63 = pa := c3.1
    rw [e]
    refine ⟨?_, ?_⟩
    · unfold splitB
      rw [c1a, c1c, hslow, hw]; rfl
    · unfold splitU
      rw [c1a, c1b, hslow, hw]
      simp [otherU, beforeQ, c2a, c3a, U.none]
theorem parse_back (u : U) (hok : okB u = true) : parseB (textL u) = true ∧ parseU (textL u) = u := by
  obtain ⟨h1, h2⟩ := parse_text u hok
  have hb : parseB (textL u) = true := by unfold parseB; rw [h1, h2, hok]; rfl
  exact ⟨hb, by simp [parseU, hb, h2]⟩
theorem text_len (u : U) (hok : okB u = true) : (textL u).length ≤ 100 := by
  simp only [okB, Bool.and_eq_true, decide_eq_true_eq] at hok
  exact hok.1.2
end Go.Proofs.YtniflfgnelfpbaaDoor.Ul
