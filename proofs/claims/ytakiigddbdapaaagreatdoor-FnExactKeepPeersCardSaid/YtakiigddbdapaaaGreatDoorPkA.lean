
/-
  What is kept of old peers, plainly: as the model folds it, as the program finds it; the two are one for valid peers.
-/
import Derived.Test.YtakiigddbdapaaaGreatDoorPoC
namespace Go.Proofs.YtakiigddbdapaaaGreatDoor.Pe
open Go.RowKit
open Go.Proofs.YtakiigddbdapaaaGreatDoor.Gr (Tg Gp TgIn tV gV gpB)
open Go.Proofs.YtakiigddbdapaaaGreatDoor.Mk
def kmB (x p : Pr) : Bool := (p.url == x.url) && !p.gone
def kUp (x p : Pr) : Pr := { x with fails := p.fails, retry := p.retry }
def kF : List Pr → Pr → Pr
  | [], x => x
  | p :: r, x => if kmB x p = true then kUp x p else kF r x
def kS : List Pr → Pr → Pr
  | [], x => x
  | p :: r, x => kS r (if kmB x p = true then kUp x p else x)
theorem kF_drop {old : List Pr} (k : Nat) (hk : k < old.length) (x : Pr) : kF (old.drop k) x = if kmB x (old.getD k default) = true then kUp x (old.getD k default) else kF (old.drop (k + 1)) x := by
  rw [List.drop_eq_getElem_cons hk, kF]; simp [hk]
theorem kS_drop {old : List Pr} (k : Nat) (hk : k < old.length) (x : Pr) : kS (old.drop k) x = kS (old.drop (k + 1)) (if kmB x (old.getD k default) = true then kUp x (old.getD k default) else x) := by
  rw [List.drop_eq_getElem_cons hk, kS]; simp [hk]
theorem prsB_ne : ∀ (ts b : List Pr), prsB b ts = true → ∀ s ∈ ts, hasP b s.url = false
  | [], _, _, s, hs => by simp at hs
  | t :: ts, b, h, s, hs => by
    rw [prsB] at h
    simp only [Bool.and_eq_true, Bool.not_eq_true'] at h
    rcases List.mem_cons.1 hs with rfl | hs
    · exact h.1.2
    · have := prsB_ne ts (b ++ [t]) h.2 s hs
      unfold hasP at this ⊢
      rw [List.any_append, Bool.or_eq_false_iff] at this
      exact this.1
theorem kS_none : ∀ (r : List Pr) (x : Pr), (∀ s ∈ r, kmB x s = false) → kS r x = x
  | [], x, _ => rfl
  | p :: r, x, h => by
    rw [kS, if_neg (by simp [h p (by simp)])]
    exact kS_none r x fun s hs => h s (by simp [hs])
theorem kS_kF : ∀ (ts b : List Pr) (x : Pr), prsB b ts = true → kS ts x = kF ts x
  | [], _, x, _ => rfl
  | p :: r, b, x, h => by
    have h' := h
    rw [prsB] at h
    simp only [Bool.and_eq_true, Bool.not_eq_true'] at h
    rw [kS, kF]
    by_cases e : kmB x p = true
    · rw [if_pos e, if_pos e]
      refine kS_none r _ fun s hs => ?_
      have h2 := prsB_ne r (b ++ [p]) h.2 s hs
      unfold hasP at h2
      rw [List.any_append, Bool.or_eq_false_iff] at h2
      have h3 : (p.url == s.url) = false := by simpa using h2.2
      unfold kmB at e ⊢
      simp only [Bool.and_eq_true, beq_iff_eq] at e
      have h4 : (s.url == (kUp x p).url) = false := by
        show (s.url == x.url) = false
        rw [← e.1]
        simp only [beq_eq_false_iff_ne, ne_eq] at h3 ⊢
        exact fun e => h3 e.symm
      rw [h4]; rfl
    · rw [if_neg e, if_neg e]
      exact kS_kF r (b ++ [p]) x h.2
def zK (old : List Pr) (t : Tg) : Pr := kF old (zP t)
theorem zK_take (old : List Pr) {xs : List Tg} (k : Nat) (hx : k < xs.length) : (xs.take (k + 1)).map (zK old) = (xs.take k).map (zK old) ++ [zK old (xs.getD k default)] := by
  rw [show xs.take (k + 1) = xs.take k ++ [xs[k]] by rw [List.take_add_one, List.getElem?_eq_getElem hx]; rfl, List.map_append]
  simp [hx]
theorem zK_len (old : List Pr) {xs : List Tg} (k : Nat) (hk : k ≤ xs.length) : ((xs.take k).map (zK old)).length = k := by simp; omega
/-- the code and the answer of KeepPeers -/
def kpC (old : List Pr) (g : Gp) : Int := if pcC old = 0 then poC g else pcC old
def kpR (old : List Pr) (g : Gp) : List Pr := if pcC old = 0 ∧ gpB g = true then g.tgs.map (zK old) else []
theorem kF_url : ∀ (old : List Pr) (x : Pr), (kF old x).url = x.url
  | [], _ => rfl
  | p :: r, x => by rw [kF]; split; rfl; exact kF_url r x
theorem kpR_len (old : List Pr) (g : Gp) (h : g.tgs.length ≤ 1048576) : (kpR old g).length ≤ 1048576 := by
  unfold kpR; split <;> simp [h]
theorem kpR_url (old : List Pr) (g : Gp) (M : Nat) (h : ∀ i, i < g.tgs.length → (g.tgs.getD i default).url.length ≤ M) : ∀ i, i < (kpR old g).length → ((kpR old g).getD i default).url.length ≤ M := by
  unfold kpR
  split
  · intro i hi
    have hi' : i < g.tgs.length := by simpa using hi
    have := h i hi'
    simpa [hi', zK, kF_url, zP] using this
  · intro i hi; simp at hi
end Go.Proofs.YtakiigddbdapaaaGreatDoor.Pe
