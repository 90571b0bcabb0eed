
/-
  Plainly: which peers are valid. The model's l07OK and l07Ask, walked.
-/
import Derived.Test.YtakiigddbdapaaaGreatDoorPeT
import Derived.Test.YtakiigddbdapaaaGreatDoorGrT
import Derived.Test.YtakiigddbdapaaaGreatDoorPeW
namespace Go.Proofs.YtakiigddbdapaaaGreatDoor.Pe
open Go.RowKit
open Go.Proofs.YtakiigddbdapaaaGreatDoor.Gr (Tg tV tgB hasU tgsB tgS_any belI_step belI_alloc ret_b ret_i)
open Go.Proofs.YtakiigddbdapaaaGreatDoor.Ul (in_any)
open Go.Proofs.YtakiigddbdapaaaGreatDoor.Mk
def nwB (n : Int) : Bool := decide (0 ≤ n ∧ n ≤ 1000000)
def rtB (n : Int) : Bool := decide (0 ≤ n ∧ n ≤ 1000032)
def bkB (x : Pr) : Bool := nwB x.fails && rtB x.retry && !(x.fails == 0 && x.retry != 0)
def prB (x : Pr) : Bool := tgB x.tg && bkB x
def hasP (xs : List Pr) (u : List UInt8) : Bool := xs.any (fun x => x.url == u)
def prsB : List Pr → List Pr → Bool
  | _, [] => true
  | before, t :: ts => (prB t && !hasP before t.url) && prsB (before ++ [t]) ts
def plB (xs : List Pr) : Bool := decide (xs.length ≤ 4) && prsB [] xs
theorem prsB_drop {xs : List Pr} (k : Nat) (hx : k < xs.length) : prsB (xs.take k) (xs.drop k) = ((prB (xs.getD k default) && !hasP (xs.take k) (xs.getD k default).url) && prsB (xs.take (k + 1)) (xs.drop (k + 1))) := by
  rw [List.drop_eq_getElem_cons hx, prsB]
  have e : xs.take k ++ [xs[k]] = xs.take (k + 1) := by rw [List.take_add_one, List.getElem?_eq_getElem hx]; rfl
  rw [e]
  simp [hx]
theorem hasP_map (xs : List Pr) (u : List UInt8) : hasU (xs.map Pr.tg) u = hasP xs u := by
  unfold hasU hasP
  rw [List.any_map]; rfl
theorem prsB_split : ∀ (ts b : List Pr), prsB b ts = (ts.all bkB && tgsB (b.map Pr.tg) (ts.map Pr.tg))
  | [], b => rfl
  | t :: r, b => by
    have ih := prsB_split r (b ++ [t])
    have hm := hasP_map b t.url
    simp only [prsB, ih, List.all_cons, List.map_cons, tgsB, List.map_append, List.map_nil, prB]
    rw [hm]
    cases tgB t.tg <;> cases bkB t <;> cases hasP b t.url <;> simp
theorem plB_split (xs : List Pr) : plB xs = (decide (xs.length ≤ 4) && (xs.all bkB && tgsB [] (xs.map Pr.tg))) := by
  unfold plB; rw [prsB_split]; rfl
theorem hasP_take {xs : List Pr} (k : Nat) (u : List UInt8) (hx : k < xs.length) : hasP (xs.take (k + 1)) u = (hasP (xs.take k) u || ((xs.getD k default).url == u)) := by
  unfold hasP
  rw [List.take_add_one, List.getElem?_eq_getElem hx, List.any_append]
  simp [hx]
theorem hasP_mem {xs : List Pr} (m k : Nat) (u : List UInt8) (hmk : m < k) (hm : m < xs.length) (h : ((xs.getD m default).url == u) = true) : hasP (xs.take k) u = true := by
  unfold hasP
  rw [List.any_eq_true]
  have hl : m < (xs.take k).length := by simp; omega
  refine ⟨(xs.take k)[m], List.getElem_mem hl, ?_⟩
  simpa [hm] using h
/-- what a valid list tells of a peer in it -/
theorem plB_at {xs : List Pr} (h : plB xs = true) : xs.length ≤ 4 ∧ ∀ i, i < xs.length → bkB (xs.getD i default) = true := by
  rw [plB_split] at h
  simp only [Bool.and_eq_true, decide_eq_true_eq, List.all_eq_true] at h
  exact ⟨h.1, fun i hi => by
    have := h.2.1 xs[i] (List.getElem_mem hi)
    simpa [hi] using this⟩
theorem bkB_at {x : Pr} (h : bkB x = true) : 0 ≤ x.fails ∧ x.fails ≤ 1000000 ∧ 0 ≤ x.retry ∧ x.retry ≤ 1000032 := by
  unfold bkB nwB rtB at h
  simp only [Bool.and_eq_true, decide_eq_true_eq] at h
  exact ⟨h.1.1.1, h.1.1.2, h.1.2.1, h.1.2.2⟩
set_option maxRecDepth 100000 in
set_option maxHeartbeats 4000000 in
theorem okS_any (B : Nat) (w0 : World) (xs : List Pr) (v : Value) (h : PrIn (· < B) w0 v xs) (hl : ∀ i, i < xs.length → (xs.getD i default).url.length ≤ 1048576) (W : World) (hb : Below B w0 W) (hB : B ≤ W.heap.size) :
    Calls Tryz.prog 39 #[v] W fun e w' => e = .returned (.bool (plB xs)) ∧ Below W.heap.size W w' := by
  obtain ⟨a, cap, b, off, rfl, hcap, hm, -, ha, hc⟩ := h
  have HC := Lib.hid hc
  have HA := Lib.hid ha
  have HB := Lib.hid hb
  have HL := Lib.hid hl
  clear hc ha hb hl
  by_cases h4 : xs.length ≤ 4
  · have E := Lib.hid (show plB xs = prsB [] xs by unfold plB; rw [decide_eq_true h4]; rfl)
    have g1 : ¬ (4 < (xs.length : Int)) := by omega
    go_enter Tryz.func39, Tryz.ntmps39
    go_wp2
    go_loopw [3] (fun i wr => ∃ k : Nat, k ≤ xs.length ∧ i = .int .i64 k ∧ prsB [] xs = prsB (xs.take k) (xs.drop k) ∧ Below W.heap.size W wr) (fun i _ => xs.length - (intOf i).toNat)
    case atStart => exact ⟨0, by omega, rfl, rfl, Below.refl _ _⟩
    case round =>
      obtain ⟨k, hk, rfl, hE, hR⟩ := hrel
      have HE := Lib.hid hE
      have HR := Lib.hid hR
      clear hE hR
      by_cases hlt : k < xs.length
      · obtain ⟨ea, hlb⟩ := HA.out (by omega)
        subst ea
        have hW := HB.out.trans (HR.out.mono hB)
        obtain ⟨c0, c1, c2, c3, c4, c5⟩ := HC.out k hlt
        have q0 := (hW.cell (p := ⟨b, off + k * 6, none⟩) hlb).trans c0
        have q1 := (hW.cell (p := ⟨b, off + k * 6 + 1, none⟩) hlb).trans c1
        have q2 := (hW.cell (p := ⟨b, off + k * 6 + 2, none⟩) hlb).trans c2
        have q3 := (hW.cell (p := ⟨b, off + k * 6 + 3, none⟩) hlb).trans c3
        have q4 := (hW.cell (p := ⟨b, off + k * 6 + 4, none⟩) hlb).trans c4
        have q5 := (hW.cell (p := ⟨b, off + k * 6 + 5, none⟩) hlb).trans c5
        have D := Lib.hid (prsB_drop k hlt)
        have hlx := HL.out k hlt
        clear c0 c1 c2 c3 c4 c5 hW
        generalize hxx : xs.getD k default = x at *
        clear hxx
        obtain ⟨u, p, q, f, r, g⟩ := x
        have HTG := Lib.hid (fun W' => show Calls Tryz.prog 59 #[.agg #[.string ⟨u.toArray⟩, .int .i64 p, .int .i64 q]] W' fun e w' => e = .returned (.bool (tgB ⟨u, p, q⟩)) ∧ Below W'.heap.size W' w' from tgS_any ⟨u, p, q⟩ W' (Nat.le_trans hlx (by omega)))
        have HF := Lib.hid (fun W' => show Calls Tryz.prog 40 #[.int .i64 f, .int .i64 0, .int .i64 1000000] W' fun e w' => e = .returned (.bool (nwB f)) ∧ W' = w' from in_any f 0 1000000 W')
        have HT := Lib.hid (fun W' => show Calls Tryz.prog 40 #[.int .i64 r, .int .i64 0, .int .i64 1000032] W' fun e w' => e = .returned (.bool (rtB r)) ∧ W' = w' from in_any r 0 1000032 W')
        have EP := Lib.hid (show prB ⟨u, p, q, f, r, g⟩ = (tgB ⟨u, p, q⟩ && (nwB f && rtB r && !(f == 0 && r != 0))) from rfl)
        simp only at hlx q0 q1 q2 q3 q4 q5
        generalize tgB ⟨u, p, q⟩ = b1 at *
        generalize nwB f = b2 at *
        generalize rtB r = b3 at *
        obtain ⟨w1, hw1⟩ : ∃ w1, w1 = wr.alloc (ipO ⟨u, p, q, f, r, g⟩) := ⟨_, rfl⟩
        have H1 := Lib.hid (show Hd w1 wr.heap.size (ipO ⟨u, p, q, f, r, g⟩) by rw [hw1]; exact Hd.new _ _)
        have B1 := Lib.hid (show Below W.heap.size W w1 by rw [hw1]; exact belI_alloc HR.out)
        go_wp2_with fail
        rw [← hw1]
        clear hw1
        refine (HTG.out _).mono ?_
        rintro e w2 ⟨rfl, hb2⟩
        have H2 := Lib.hid (H1.out.blw hb2)
        have B2 := Lib.hid (belI_step B1.out hb2)
        obtain ⟨m0, m1, m2, m3, m4, m5, -⟩ := H2.out.six
        clear hb2 H1 B1 q0 q1 q2 q3 q4 q5
        have HBAD := Lib.hid (fun (hh : prB ⟨u, p, q, f, r, g⟩ = false) => show plB xs = false by rw [E.out, HE.out, D.out, hh]; rfl)
        cases b1
        · go_wp2
          go_ret
          exact ⟨ret_b (HBAD.out (by rw [EP.out]; rfl)).symm, B2.out⟩
        go_wp2_with fail
        refine (HF.out _).mono ?_
        rintro e _ ⟨rfl, rfl⟩
        cases b2
        · go_wp2
          go_ret
          exact ⟨ret_b (HBAD.out (by rw [EP.out]; rfl)).symm, B2.out⟩
        go_wp2_with fail
        refine (HT.out _).mono ?_
        rintro e _ ⟨rfl, rfl⟩
        cases b3
        · go_wp2
          go_ret
          exact ⟨ret_b (HBAD.out (by rw [EP.out]; rfl)).symm, B2.out⟩
        have EP2 := Lib.hid (show prB ⟨u, p, q, f, r, g⟩ = !(f == 0 && r != 0) by rw [EP.out]; rfl)
        by_cases hbad : f = 0 ∧ ¬ r = 0
        · obtain ⟨rfl, hr0⟩ := hbad
          have z2 : (r != 0) = true := by simpa using hr0
          go_wp2
          go_ret
          exact ⟨ret_b (HBAD.out (by rw [EP2.out, z2]; rfl)).symm, B2.out⟩
        have GP := Lib.hid (show prB ⟨u, p, q, f, r, g⟩ = true by
          rw [EP2.out]
          by_cases hf0 : f = 0
          · have : r = 0 := Decidable.byContradiction fun hr0 => hbad ⟨hf0, hr0⟩
            subst hf0 this; rfl
          · have : (f == 0) = false := by simpa using hf0
            rw [this]; rfl)
        have hz : (f == 0) = true → (r != 0) = false := fun hf0 => by
          have hf1 : f = 0 := by simpa using hf0
          have : r = 0 := Decidable.byContradiction fun hr0 => hbad ⟨hf1, hr0⟩
          simp [this]
        clear hbad EP EP2
        obtain ⟨zf, hzf⟩ : ∃ z, (f == 0) = z := ⟨_, rfl⟩
        obtain ⟨zr, hzr⟩ : ∃ z, (r != 0) = z := ⟨_, rfl⟩
        rw [hzf, hzr] at hz
        have D2 := Lib.hid (show prsB [] xs = (!hasP (xs.take k) u && prsB (xs.take (k + 1)) (xs.drop (k + 1))) by rw [HE.out, D.out, GP.out]; simp)
        have zz := H2.out.lt
        clear HBAD GP D HTG HF HT m3 m4 m5 m1 m2
        rcases (show zf = false ∨ (zf = true ∧ zr = false) by cases zf <;> simp_all) with rfl | ⟨rfl, rfl⟩
        all_goals
          clear hz
          obtain ⟨-, -, -, m3, m4, -, -⟩ := H2.out.six
          go_wp2
          clear hzf hzr m0 m3 m4
          go_loopw [5] (fun j wq => ∃ m : Nat, m ≤ k ∧ j = .int .i64 m ∧ hasP (xs.take m) u = false ∧ Hd wq wr.heap.size (ipO ⟨u, p, q, f, r, g⟩) ∧ Below W.heap.size W wq) (fun j _ => k - (intOf j).toNat)
          case atStart => exact ⟨0, by omega, rfl, by simp [hasP], H2.out, B2.out⟩
          case round =>
            obtain ⟨m, hm5, rfl, hP, hH, hBq⟩ := hrel
            have HH := Lib.hid hH
            have HBQ := Lib.hid hBq
            have HP := Lib.hid hP
            clear hH hBq hP
            by_cases hmk : m < k
            · have hW := HB.out.trans (HBQ.out.mono hB)
              have q0 := (hW.cell (p := ⟨b, off + m * 6, none⟩) hlb).trans (HC.out m (by omega)).1
              have m0 := HH.out.six.1
              have DT := Lib.hid (hasP_take m u (show m < xs.length by omega))
              have DM := Lib.hid (fun (hh : ((xs.getD m default).url == u) = true) => hasP_mem m k u hmk (show m < xs.length by omega) hh)
              generalize (xs.getD m default).url = t at *
              obtain ⟨c, hcc⟩ : ∃ c, (t == u) = c := ⟨_, rfl⟩
              rw [hcc] at DT DM
              clear hW
              go_wp2_with fail
              go_quiet (fail)
              have HH2 := Lib.hid (HH.out.drewN nq)
              have HB2 := Lib.hid (Mk.belDrew HBQ.out nq)
              clear HH HBQ m0 q0
              generalize World.drewN _ nq = wx at *
              cases c
              · go_wp2
                go_roundw
                case rel => exact ⟨m + 1, by omega, by go_num, by rw [DT.out, HP.out]; rfl, HH2.out, HB2.out⟩
                case measure => simp [intOf]; omega
              · go_wp2
                go_ret
                exact ⟨ret_b (by rw [E.out, D2.out, DM.out (by first | rfl | trivial)]; rfl), HB2.out⟩
            · obtain rfl : m = k := by omega
              go_wp2
              go_roundw
              case rel => exact ⟨m + 1, by omega, by go_num, by rw [D2.out, HP.out]; rfl, HBQ.out⟩
              case measure => simp [intOf]; omega
      · go_wp2
        go_ret
        obtain rfl : k = xs.length := by omega
        exact ⟨ret_b (by rw [E.out, HE.out, List.drop_length]; rfl), HR.out⟩
  · have E := Lib.hid (show plB xs = false by unfold plB; rw [decide_eq_false h4]; rfl)
    have g1 : (4 < (xs.length : Int)) := by omega
    go_enter Tryz.func39, Tryz.ntmps39
    go_wp2
    go_ret
    exact ⟨ret_b E.out.symm, Below.refl _ _⟩
end Go.Proofs.YtakiigddbdapaaaGreatDoor.Pe
