
/-
  Choose, plainly: the model's two loops and the program's places choose the same peer.
-/
import Derived.Test.YtakiigddbdapaaaGreatDoorChA
namespace Go.Proofs.YtakiigddbdapaaaGreatDoor.Pe
/-- ranks of a valid peer -/
def Rk (x : Pr) : Prop := 1 ≤ x.pri ∧ 1 ≤ x.wt
def plc (now l : Int) : Nat → List Pr → List Nat
  | _, [] => []
  | i, x :: r => (if rdy now x && (x.pri == l) then List.replicate x.wt.toNat i else []) ++ plc now l (i + 1) r
def ch2 (now b : Int) : Int → Nat → List Pr → Int
  | _, _, [] => -1
  | left, i, x :: r => if rdy now x && (x.pri == b) then (if left < x.wt then (i : Int) else ch2 now b (left - x.wt) (i + 1) r) else ch2 now b left (i + 1) r
theorem ls_pos (now : Int) : ∀ (xs : List Pr) (l : Int), (∀ x ∈ xs, Rk x) → 0 < l → 0 < ls now l xs ∧ ls now l xs ≤ l
  | [], l, _, h => ⟨h, Int.le_refl _⟩
  | x :: r, l, hr, h => by
    have hx := hr x (by simp)
    rw [ls]
    split
    · rename_i hc
      have hl : ¬ l = 0 := by omega
      have h2 : x.pri < l := by
        simp only [Bool.and_eq_true, Bool.or_eq_true, beq_iff_eq, decide_eq_true_eq, hl, false_or] at hc
        exact hc.2
      have ih := ls_pos now r x.pri (fun y hy => hr y (by simp [hy])) (by have := hx.1; omega)
      exact ⟨ih.1, by omega⟩
    · exact ls_pos now r l (fun y hy => hr y (by simp [hy])) h
theorem wS_nonneg (now b : Int) : ∀ (xs : List Pr), (∀ x ∈ xs, Rk x) → 0 ≤ wS now b xs
  | [], _ => Int.le_refl _
  | x :: r, h => by
    have hx := (h x (by simp)).2
    have ih := wS_nonneg now b r fun y hy => h y (by simp [hy])
    rw [wS]
    split <;> omega
theorem plc_len (now l : Int) : ∀ (xs : List Pr) (i : Nat), (∀ x ∈ xs, Rk x) → ((plc now l i xs).length : Int) = wS now l xs
  | [], _, _ => rfl
  | x :: r, i, h => by
    have hx := (h x (by simp)).2
    have ih := plc_len now l r (i + 1) fun y hy => h y (by simp [hy])
    rw [plc, wS, List.length_append]
    split
    · rw [List.length_replicate]; omega
    · simp only [List.length_nil]; omega
theorem ch2_plc (now b : Int) : ∀ (xs : List Pr) (left : Int) (i : Nat), (∀ x ∈ xs, Rk x) → 0 ≤ left → left < wS now b xs → ch2 now b left i xs = (((plc now b i xs).getD left.toNat 0 : Nat) : Int)
  | [], left, i, _, h0, h1 => by rw [wS] at h1; omega
  | x :: r, left, i, h, h0, h1 => by
    have hx := (h x (by simp)).2
    have hr : ∀ y ∈ r, Rk y := fun y hy => h y (by simp [hy])
    rw [wS] at h1
    rw [ch2, plc]
    split
    · rename_i hc
      rw [if_pos hc] at h1
      split
      · have : left.toNat < (List.replicate x.wt.toNat i).length := by rw [List.length_replicate]; omega
        rw [List.getD_eq_getElem?_getD, List.getElem?_append_left this]
        have h2 : left.toNat < x.wt.toNat := by omega
        simp [h2]
      · rename_i hw
        rw [ch2_plc now b r (left - x.wt) (i + 1) hr (by omega) (by omega)]
        have : (List.replicate x.wt.toNat i).length ≤ left.toNat := by rw [List.length_replicate]; omega
        rw [List.getD_eq_getElem?_getD, List.getD_eq_getElem?_getD, List.getElem?_append_right this, List.length_replicate]
        rw [show left.toNat - x.wt.toNat = (left - x.wt).toNat by omega]
    · rename_i hc
      rw [if_neg hc] at h1
      rw [ch2_plc now b r left (i + 1) hr h0 (by omega), List.nil_append]
theorem wS_zero (now : Int) : ∀ (xs : List Pr), (∀ x ∈ xs, Rk x) → wS now 0 xs = 0
  | [], _ => rfl
  | x :: r, h => by
    have hx := (h x (by simp)).1
    rw [wS, wS_zero now r fun y hy => h y (by simp [hy]), if_neg (by simp; intro _; omega)]; rfl
theorem ch1_ls (now : Int) : ∀ (xs : List Pr) (b sm : Int), (∀ x ∈ xs, Rk x) → (b = 0 ∧ sm = 0) ∨ (0 < b ∧ 0 < sm) → ch1 now b sm xs = (ls now b xs, if ls now b xs = b then sm + wS now b xs else wS now (ls now b xs) xs)
  | [], b, sm, _, _ => by rw [ch1, ls, if_pos rfl, wS, Int.add_zero]
  | x :: r, b, sm, h, hi => by
    have hx := h x (by simp)
    have hr : ∀ y ∈ r, Rk y := fun y hy => h y (by simp [hy])
    obtain ⟨hx1, hx2⟩ := hx
    rw [ch1, ls]
    obtain ⟨c, hc⟩ : ∃ c, rdy now x = c := ⟨_, rfl⟩
    cases c
    · have e : c1 now b sm x = (b, sm) := by unfold c1; simp [hc]
      rw [e, if_neg (by simp [hc])]
      have e2 : ∀ l, wS now l (x :: r) = wS now l r := fun l => by rw [wS, hc]; simp
      simp only [e2]
      exact ch1_ls now r b sm hr hi
    · rcases hi with ⟨rfl, rfl⟩ | ⟨hb, hs⟩
      · have e : c1 now 0 0 x = (x.pri, x.wt) := by unfold c1; simp [hc]
        rw [e, if_pos (by simp [hc])]
        rw [ch1_ls now r x.pri x.wt hr (.inr ⟨by omega, by omega⟩)]
        have hp := ls_pos now r x.pri hr (by omega)
        generalize ls now x.pri r = L at *
        rw [if_neg (show ¬ L = 0 by omega), show wS now L (x :: r) = (if x.pri = L then x.wt else 0) + wS now L r by rw [wS, hc]; simp]
        by_cases hL : L = x.pri
        · subst hL; simp
        · rw [if_neg hL, if_neg (fun e => hL e.symm), Int.zero_add]
      · by_cases h1 : b < x.pri
        · have e : c1 now b sm x = (b, sm) := by unfold c1; simp [hc, hs, h1]
          rw [e, if_neg (by simp [hc]; omega)]
          rw [ch1_ls now r b sm hr (.inr ⟨hb, hs⟩)]
          have hp := ls_pos now r b hr hb
          generalize ls now b r = L at *
          rw [show wS now b (x :: r) = wS now b r by rw [wS, hc, if_neg (by simp; omega), Int.zero_add], show wS now L (x :: r) = wS now L r by rw [wS, hc, if_neg (by simp; omega), Int.zero_add]]
        · by_cases h2 : x.pri < b
          · have e : c1 now b sm x = (x.pri, x.wt) := by unfold c1; simp [hc, h1, h2]
            rw [e, if_pos (by simp [hc, h2])]
            rw [ch1_ls now r x.pri x.wt hr (.inr ⟨by omega, by omega⟩)]
            have hp := ls_pos now r x.pri hr (by omega)
            generalize ls now x.pri r = L at *
            rw [if_neg (show ¬ L = b by omega), show wS now L (x :: r) = (if x.pri = L then x.wt else 0) + wS now L r by rw [wS, hc]; simp]
            by_cases hL : L = x.pri
            · subst hL; simp
            · rw [if_neg hL, if_neg (fun e => hL e.symm), Int.zero_add]
          · obtain rfl : x.pri = b := by omega
            have e : c1 now x.pri sm x = (x.pri, sm + x.wt) := by
              have : ¬ sm = 0 := by omega
              unfold c1; simp [hc, this]
            rw [e, if_neg (by simp [hc]; omega)]
            rw [ch1_ls now r x.pri (sm + x.wt) hr (.inr ⟨hb, by omega⟩)]
            generalize ls now x.pri r = L at *
            by_cases hL : L = x.pri
            · subst hL
              rw [if_pos rfl, if_pos rfl, wS, hc]; simp; omega
            · rw [if_neg hL, if_neg hL, wS, hc, if_neg (by simp; exact fun e => hL e.symm), Int.zero_add]
/-- the place that is chosen, and the code, for valid peers -/
theorem choose_eq (now draw : Int) (xs : List Pr) (h : ∀ x ∈ xs, Rk x) (hw : wS now (ls now 0 xs) xs ≠ 0) :
    ch2 now (ls now 0 xs) (draw % wS now (ls now 0 xs) xs) 0 xs = (((plc now (ls now 0 xs) 0 xs).getD (draw % (plc now (ls now 0 xs) 0 xs).length).toNat 0 : Nat) : Int) := by
  have hn := wS_nonneg now (ls now 0 xs) xs h
  rw [plc_len now (ls now 0 xs) xs 0 h]
  exact ch2_plc now _ xs _ 0 h (Int.emod_nonneg _ hw) (Int.emod_lt_of_pos _ (by omega))
theorem ch1_all (now : Int) (xs : List Pr) (h : ∀ x ∈ xs, Rk x) : ch1 now 0 0 xs = (ls now 0 xs, wS now (ls now 0 xs) xs) := by
  rw [ch1_ls now xs 0 0 h (.inl ⟨rfl, rfl⟩)]
  split
  · rename_i e; rw [e, Int.zero_add]
  · rfl
end Go.Proofs.YtakiigddbdapaaaGreatDoor.Pe
