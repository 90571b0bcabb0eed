
/-
  The program's backoffOK, PeersOK, peersCode, nowOK, ownTarget, walked.
-/
import Derived.Test.YtakiigddbdapaaaGreatDoorPeP
import Derived.Test.YtakiigddbdapaaaGreatDoorPeQ
import Derived.Test.YtakiigddbdapaaaGreatDoorGrK
namespace Go.Proofs.YtakiigddbdapaaaGreatDoor.Pe
open Go.RowKit
open Go.Proofs.YtakiigddbdapaaaGreatDoor.Gr (Tg tV TgIn tgB tgsB tgsI_any belI_step belI_alloc ret_b ret_i heap_set)
open Go.Proofs.YtakiigddbdapaaaGreatDoor.Ul (Tab MaxL)
open Go.Proofs.YtakiigddbdapaaaGreatDoor.Mk
theorem nowP_any (n : Int) (w : World) : Calls Tryz.prog 44 #[.int .i64 n] w fun e w' => e = .returned (.bool (nwB n)) ∧ w = w' := by
  unfold nwB
  by_cases h1 : 0 ≤ n
  · by_cases h2 : n ≤ 1000000
    all_goals
      go_enter Tryz.func44, Tryz.ntmps44
      go_wp2
      go_ret
      exact ⟨ret_b (by simp; omega), rfl⟩
  · go_enter Tryz.func44, Tryz.ntmps44
    go_wp2
    go_ret
    exact ⟨ret_b (by simp; omega), rfl⟩
set_option maxRecDepth 100000 in
set_option maxHeartbeats 2000000 in
theorem backI_any (x : Pr) (W : World) : Calls Tryz.prog 78 #[pV x] W fun e w' => e = .returned (.bool (bkB x)) ∧ Below W.heap.size W w' := by
  obtain ⟨u, p, q, f, r, g⟩ := x
  have HN := Lib.hid (fun W' => nowP_any f W')
  have BF := Lib.hid ((Below.refl W.heap.size W).alloc (Nat.le_refl _) (ipO ⟨u, p, q, f, r, g⟩))
  have EB := Lib.hid (show bkB ⟨u, p, q, f, r, g⟩ = (nwB f && rtB r && !(f == 0 && r != 0)) from rfl)
  by_cases hf : f = 0
  · subst hf
    have E2 := Lib.hid (show bkB ⟨u, p, q, 0, r, g⟩ = (r == 0) by
      rw [EB.out]
      by_cases hr : r = 0
      · subst hr; rfl
      · have e1 : (r == 0) = false := by simpa using hr
        have e2 : (r != 0) = true := by simpa using hr
        rw [e1, e2]; simp)
    go_enter Tryz.func78, Tryz.ntmps78
    go_wp2
    go_ret
    exact ⟨ret_b E2.out.symm, BF.out⟩
  · have E2 := Lib.hid (show bkB ⟨u, p, q, f, r, g⟩ = (nwB f && rtB r) by
      rw [EB.out]
      have e1 : (f == 0) = false := by simpa using hf
      rw [e1]; simp)
    obtain ⟨b1, hb1⟩ : ∃ b, nwB f = b := ⟨_, rfl⟩
    rw [hb1] at HN E2
    cases b1
    · go_enter Tryz.func78, Tryz.ntmps78
      go_wp2_with fail
      refine (HN.out _).mono ?_
      rintro e _ ⟨rfl, rfl⟩
      go_wp2
      go_ret
      exact ⟨ret_b E2.out.symm, BF.out⟩
    · by_cases h0 : 0 ≤ r
      · by_cases h1 : r ≤ 1000032
        · have E3 := Lib.hid (show bkB ⟨u, p, q, f, r, g⟩ = true by rw [E2.out]; simp [rtB, h0, h1])
          go_enter Tryz.func78, Tryz.ntmps78
          go_wp2_with fail
          refine (HN.out _).mono ?_
          rintro e _ ⟨rfl, rfl⟩
          go_wp2
          go_ret
          exact ⟨ret_b (by rw [E3.out]), BF.out⟩
        · have E3 := Lib.hid (show bkB ⟨u, p, q, f, r, g⟩ = false by rw [E2.out]; simp [rtB, h0, h1])
          go_enter Tryz.func78, Tryz.ntmps78
          go_wp2_with fail
          refine (HN.out _).mono ?_
          rintro e _ ⟨rfl, rfl⟩
          go_wp2
          go_ret
          exact ⟨ret_b (by rw [E3.out]; first | rfl | (simp; omega)), BF.out⟩
      · have E3 := Lib.hid (show bkB ⟨u, p, q, f, r, g⟩ = false by rw [E2.out]; simp [rtB, h0])
        go_enter Tryz.func78, Tryz.ntmps78
        go_wp2_with fail
        refine (HN.out _).mono ?_
        rintro e _ ⟨rfl, rfl⟩
        go_wp2
        go_ret
        exact ⟨ret_b E3.out.symm, BF.out⟩
/-! ### a row of targets of the call's own -/
def tgC : List Tg → List Value
  | [] => []
  | t :: r => .string ⟨t.url.toArray⟩ :: .int .i64 t.pri :: .int .i64 t.wt :: tgC r
theorem tgC_len : ∀ ts : List Tg, (tgC ts).length = ts.length * 3
  | [] => rfl
  | t :: r => by have := tgC_len r; simp only [tgC, List.length_cons]; omega
theorem tgC_app : ∀ a b : List Tg, tgC (a ++ b) = tgC a ++ tgC b
  | [], b => rfl
  | t :: r, b => by simp [tgC, tgC_app r b]
theorem tgC_get : ∀ (ts : List Tg) (i : Nat), i < ts.length → (tgC ts)[i * 3]? = some (.string ⟨(ts.getD i default).url.toArray⟩) ∧ (tgC ts)[i * 3 + 1]? = some (.int .i64 (ts.getD i default).pri) ∧ (tgC ts)[i * 3 + 2]? = some (.int .i64 (ts.getD i default).wt)
  | [], i, h => by simp at h
  | t :: r, 0, _ => ⟨rfl, rfl, rfl⟩
  | t :: r, i + 1, h => by
    have ih := tgC_get r i (by simpa using h)
    have e : (i + 1) * 3 = i * 3 + 1 + 1 + 1 := by omega
    rw [e]
    simpa [tgC] using ih
def O3 (w : World) (base : Nat) (v : Value) (ts : List Tg) : Prop := w.ownsRow base 55 3 v ts.length (tgC ts)
theorem O3.nil (w : World) (a : Nat) : O3 w a (.slice none 0 0) [] := World.ownsRow_nil _ _ _ _
theorem O3.below {w w' : World} {base : Nat} {v : Value} {ts : List Tg} (h : O3 w base v ts) (hb : Below w.heap.size w w') : O3 w' base v ts := World.ownsRow.kept h (below_grownBy hb none) (by cases v.ownBlock <;> simp)
theorem O3.slice {w : World} {base : Nat} {v : Value} {ts : List Tg} (h : O3 w base v ts) : ∃ a c, v = .slice a ts.length c := own_slice h
theorem O3.tg {w : World} {base : Nat} {v : Value} {ts : List Tg} (h : O3 w base v ts) (hl : ∀ i, i < ts.length → (ts.getD i default).url.length ≤ 9223372036854775807) : TgIn (fun b => base ≤ b ∧ b < w.heap.size) w v ts := by
  obtain ⟨-, h⟩ := h
  rcases h with ⟨rfl, h0⟩ | ⟨g, cap, cur, rfl, hbg, hg, hnc, hcm, hs, ht⟩
  · obtain rfl : ts = [] := List.eq_nil_of_length_eq_zero h0
    exact ⟨none, 0, 0, 0, rfl, by simp, by simp, by simp, by simp, by simp⟩
  · have hlt : g < w.heap.size := (Array.getElem?_eq_some_iff.1 hg).1
    refine ⟨some ⟨g, 0, none⟩, cap, g, 0, rfl, hnc, by unfold maxLen at hcm; omega, hl, fun _ => ⟨rfl, hbg, hlt⟩, fun i hi => ?_⟩
    obtain ⟨e0, e1, e2⟩ := tgC_get ts i hi
    rw [← ht, List.getElem?_take_of_lt (by omega)] at e0 e1 e2
    simp only [Nat.zero_add]
    refine ⟨?_, ?_, ?_⟩ <;> simp [World.cell?, hg]
    · simpa using e0
    · simpa using e1
    · simpa using e2
theorem one_row3 (w : World) (a b c : Value) (T : TypeId) (j : Nat) (u : Value) (h : [a, b, c][j]? = some u) : (w.alloc (.cells #[a, b, c] T)).cell? ((⟨w.heap.size, 0, none⟩ : Addr).add j) = some u := by
  rw [add_at, Nat.zero_add]
  have k := (Hd.new w (.cells #[a, b, c] T)).three
  have hj : j < 3 := by have := (List.getElem?_eq_some_iff.1 h).1; simpa using this
  rcases (show j = 0 ∨ j = 1 ∨ j = 2 by omega) with rfl | rfl | rfl
  · simp at h; subst h; exact k.1
  · simp at h; subst h; exact k.2.1
  · simp at h; subst h; exact k.2.2.1
theorem map_take {xs : List Pr} (k : Nat) (hx : k < xs.length) : (xs.take (k + 1)).map Pr.tg = (xs.take k).map Pr.tg ++ [(xs.getD k default).tg] := by
  rw [show xs.take (k + 1) = xs.take k ++ [xs[k]] by rw [List.take_add_one, List.getElem?_eq_getElem hx]; rfl, List.map_append]
  simp [hx]
theorem all_take {xs : List Pr} (k : Nat) (hx : k < xs.length) : (xs.take (k + 1)).all bkB = ((xs.take k).all bkB && bkB (xs.getD k default)) := by
  rw [show xs.take (k + 1) = xs.take k ++ [xs[k]] by rw [List.take_add_one, List.getElem?_eq_getElem hx]; rfl, List.all_append]
  simp [hx]
theorem all_not {xs : List Pr} (k : Nat) (hx : k < xs.length) (h : bkB (xs.getD k default) = false) : xs.all bkB = false := by
  rw [← Bool.not_eq_true, List.all_eq_true]
  intro hh
  have := hh xs[k] (List.getElem_mem hx)
  simp [hx] at h
  rw [h] at this
  cases this
end Go.Proofs.YtakiigddbdapaaaGreatDoor.Pe
