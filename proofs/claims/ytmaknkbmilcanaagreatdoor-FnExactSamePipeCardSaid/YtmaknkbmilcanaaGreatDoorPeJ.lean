
/-
  Plainly: which peers are valid. The model's l07OK and l07Ask, walked. Peers appended onto an own row; a cell of an own row set; strings.Clone, slices.Clone of peers; the model's l07Put, walked. The program's backoffOK, PeersOK, peersCode, nowOK, ownTarget, walked. The program's PeersOK, walked.
-/
import Derived.Test.YtmaknkbmilcanaaGreatDoorPeA
import Derived.Test.YtmaknkbmilcanaaGreatDoorGrO
import Derived.Test.YtmaknkbmilcanaaGreatDoorPeW
import Derived.Test.YtmaknkbmilcanaaGreatDoorShelf
import Derived.Test.YtmaknkbmilcanaaGreatDoorApp
import Derived.Deep.Upon
import Derived.Deep.RegionHeld3
namespace Go.Proofs.YtmaknkbmilcanaaGreatDoor.Pe
open Go.RowKit
open Go.Proofs.YtmaknkbmilcanaaGreatDoor.Gr (Tg tV tgB hasU tgsB tgS_any belI_step belI_alloc ret_b ret_i)
open Go.Proofs.YtmaknkbmilcanaaGreatDoor.Ul (in_any)
open Go.Proofs.YtmaknkbmilcanaaGreatDoor.Mk
def nwB (n : Int) : Bool := decide (0 ≤ n ∧ n ≤ 1000000)
def rtB (n : Int) : Bool := decide (0 ≤ n ∧ n ≤ 1000032)
def bkB (x : Pr) : Bool := nwB x.fails && rtB x.retry && !(x.fails == 0 && x.retry != 0)
def prB (x : Pr) : Bool := tgB x.tg && bkB x
def hasP (xs : List Pr) (u : List UInt8) : Bool := xs.any (fun x => x.url == u)
def prsB : List Pr → List Pr → Bool
  | _, [] => true
  | before, t :: ts => (prB t && !hasP before t.url) && prsB (before ++ [t]) ts
def plB (xs : List Pr) : Bool := decide (xs.length ≤ 4) && prsB [] xs
theorem prsB_drop {xs : List Pr} (k : Nat) (hx : k < xs.length) : prsB (xs.take k) (xs.drop k) = ((prB (xs.getD k default) && !hasP (xs.take k) (xs.getD k default).url) && prsB (xs.take (k + 1)) (xs.drop (k + 1))) := by
  rw [List.drop_eq_getElem_cons hx, prsB]
  have e : xs.take k ++ [xs[k]] = xs.take (k + 1) := by rw [List.take_add_one, List.getElem?_eq_getElem hx]; rfl
  rw [e]
  simp [hx]
theorem hasP_map (xs : List Pr) (u : List UInt8) : hasU (xs.map Pr.tg) u = hasP xs u := by
  unfold hasU hasP
  rw [List.any_map]; rfl
theorem prsB_split : ∀ (ts b : List Pr), prsB b ts = (ts.all bkB && tgsB (b.map Pr.tg) (ts.map Pr.tg))
  | [], b => rfl
  | t :: r, b => by
    have ih := prsB_split r (b ++ [t])
    have hm := hasP_map b t.url
    simp only [prsB, ih, List.all_cons, List.map_cons, tgsB, List.map_append, List.map_nil, prB]
    rw [hm]
    cases tgB t.tg <;> cases bkB t <;> cases hasP b t.url <;> simp
theorem plB_split (xs : List Pr) : plB xs = (decide (xs.length ≤ 4) && (xs.all bkB && tgsB [] (xs.map Pr.tg))) := by
  unfold plB; rw [prsB_split]; rfl
theorem hasP_take {xs : List Pr} (k : Nat) (u : List UInt8) (hx : k < xs.length) : hasP (xs.take (k + 1)) u = (hasP (xs.take k) u || ((xs.getD k default).url == u)) := by
  unfold hasP
  rw [List.take_add_one, List.getElem?_eq_getElem hx, List.any_append]
  simp [hx]
theorem hasP_mem {xs : List Pr} (m k : Nat) (u : List UInt8) (hmk : m < k) (hm : m < xs.length) (h : ((xs.getD m default).url == u) = true) : hasP (xs.take k) u = true := by
  unfold hasP
  rw [List.any_eq_true]
  have hl : m < (xs.take k).length := by simp; omega
  refine ⟨(xs.take k)[m], List.getElem_mem hl, ?_⟩
  simpa [hm] using h
set_option maxRecDepth 100000 in
set_option maxHeartbeats 4000000 in
theorem okS_any (B : Nat) (w0 : World) (xs : List Pr) (v : Value) (h : PrIn (· < B) w0 v xs) (hl : ∀ i, i < xs.length → (xs.getD i default).url.length ≤ 1048576) (W : World) (hb : Below B w0 W) (hB : B ≤ W.heap.size) :
    Calls Tryz.prog 115 #[v] W fun e w' => e = .returned (.bool (plB xs)) ∧ Below W.heap.size W w' := by
  obtain ⟨a, cap, b, off, rfl, hcap, hm, -, ha, hc⟩ := h
  have HC := Lib.hid hc
  have HA := Lib.hid ha
  have HB := Lib.hid hb
  have HL := Lib.hid hl
  clear hc ha hb hl
  by_cases h4 : xs.length ≤ 4
  · have E := Lib.hid (show plB xs = prsB [] xs by unfold plB; rw [decide_eq_true h4]; rfl)
    have g1 : ¬ (4 < (xs.length : Int)) := by omega
    go_enter Tryz.func115, Tryz.ntmps115
    go_wp2
    go_loopw [3] (fun i wr => ∃ k : Nat, k ≤ xs.length ∧ i = .int .i64 k ∧ prsB [] xs = prsB (xs.take k) (xs.drop k) ∧ Below W.heap.size W wr) (fun i _ => xs.length - (intOf i).toNat)
    case atStart => exact ⟨0, by omega, rfl, rfl, Below.refl _ _⟩
    case round =>
      obtain ⟨k, hk, rfl, hE, hR⟩ := hrel
      have HE := Lib.hid hE
      have HR := Lib.hid hR
      clear hE hR
      by_cases hlt : k < xs.length
      · obtain ⟨ea, hlb⟩ := HA.out (by omega)
        subst ea
        have hW := HB.out.trans (HR.out.mono hB)
        obtain ⟨c0, c1, c2, c3, c4, c5⟩ := HC.out k hlt
        have q0 := (hW.cell (p := ⟨b, off + k * 6, none⟩) hlb).trans c0
        have q1 := (hW.cell (p := ⟨b, off + k * 6 + 1, none⟩) hlb).trans c1
        have q2 := (hW.cell (p := ⟨b, off + k * 6 + 2, none⟩) hlb).trans c2
        have q3 := (hW.cell (p := ⟨b, off + k * 6 + 3, none⟩) hlb).trans c3
        have q4 := (hW.cell (p := ⟨b, off + k * 6 + 4, none⟩) hlb).trans c4
        have q5 := (hW.cell (p := ⟨b, off + k * 6 + 5, none⟩) hlb).trans c5
        have D := Lib.hid (prsB_drop k hlt)
        have hlx := HL.out k hlt
        clear c0 c1 c2 c3 c4 c5 hW
        generalize hxx : xs.getD k default = x at *
        clear hxx
        obtain ⟨u, p, q, f, r, g⟩ := x
        have HTG := Lib.hid (fun W' => show Calls Tryz.prog 192 #[.agg #[.string ⟨u.toArray⟩, .int .i64 p, .int .i64 q]] W' fun e w' => e = .returned (.bool (tgB ⟨u, p, q⟩)) ∧ Below W'.heap.size W' w' from tgS_any ⟨u, p, q⟩ W' (Nat.le_trans hlx (by omega)))
        have HF := Lib.hid (fun W' => show Calls Tryz.prog 78 #[.int .i64 f, .int .i64 0, .int .i64 1000000] W' fun e w' => e = .returned (.bool (nwB f)) ∧ W' = w' from in_any f 0 1000000 W')
        have HT := Lib.hid (fun W' => show Calls Tryz.prog 78 #[.int .i64 r, .int .i64 0, .int .i64 1000032] W' fun e w' => e = .returned (.bool (rtB r)) ∧ W' = w' from in_any r 0 1000032 W')
        have EP := Lib.hid (show prB ⟨u, p, q, f, r, g⟩ = (tgB ⟨u, p, q⟩ && (nwB f && rtB r && !(f == 0 && r != 0))) from rfl)
        simp only at hlx q0 q1 q2 q3 q4 q5
        generalize tgB ⟨u, p, q⟩ = b1 at *
        generalize nwB f = b2 at *
        generalize rtB r = b3 at *
        obtain ⟨w1, hw1⟩ : ∃ w1, w1 = wr.alloc (ipO ⟨u, p, q, f, r, g⟩) := ⟨_, rfl⟩
        have H1 := Lib.hid (show Hd w1 wr.heap.size (ipO ⟨u, p, q, f, r, g⟩) by rw [hw1]; exact Hd.new _ _)
        have B1 := Lib.hid (show Below W.heap.size W w1 by rw [hw1]; exact belI_alloc HR.out)
        go_wp2_with fail
        rw [← hw1]
        clear hw1
        refine (HTG.out _).mono ?_
        rintro e w2 ⟨rfl, hb2⟩
        have H2 := Lib.hid (H1.out.blw hb2)
        have B2 := Lib.hid (belI_step B1.out hb2)
        obtain ⟨m0, m1, m2, m3, m4, m5, -⟩ := H2.out.six
        clear hb2 H1 B1 q0 q1 q2 q3 q4 q5
        have HBAD := Lib.hid (fun (hh : prB ⟨u, p, q, f, r, g⟩ = false) => show plB xs = false by rw [E.out, HE.out, D.out, hh]; rfl)
        cases b1
        · go_wp2
          go_ret
          exact ⟨ret_b (HBAD.out (by rw [EP.out]; rfl)).symm, B2.out⟩
        go_wp2_with fail
        refine (HF.out _).mono ?_
        rintro e _ ⟨rfl, rfl⟩
        cases b2
        · go_wp2
          go_ret
          exact ⟨ret_b (HBAD.out (by rw [EP.out]; rfl)).symm, B2.out⟩
        go_wp2_with fail
        refine (HT.out _).mono ?_
        rintro e _ ⟨rfl, rfl⟩
        cases b3
        · go_wp2
          go_ret
          exact ⟨ret_b (HBAD.out (by rw [EP.out]; rfl)).symm, B2.out⟩
        have EP2 := Lib.hid (show prB ⟨u, p, q, f, r, g⟩ = !(f == 0 && r != 0) by rw [EP.out]; rfl)
        by_cases hbad : f = 0 ∧ ¬ r = 0
        · obtain ⟨rfl, hr0⟩ := hbad
          have z2 : (r != 0) = true := by simpa using hr0
          go_wp2
          go_ret
          exact ⟨ret_b (HBAD.out (by rw [EP2.out, z2]; rfl)).symm, B2.out⟩
        have GP := Lib.hid (show prB ⟨u, p, q, f, r, g⟩ = true by
          rw [EP2.out]
          by_cases hf0 : f = 0
          · have : r = 0 := Decidable.byContradiction fun hr0 => hbad ⟨hf0, hr0⟩
            subst hf0 this; rfl
          · have : (f == 0) = false := by simpa using hf0
            rw [this]; rfl)
        have hz : (f == 0) = true → (r != 0) = false := fun hf0 => by
          have hf1 : f = 0 := by simpa using hf0
          have : r = 0 := Decidable.byContradiction fun hr0 => hbad ⟨hf1, hr0⟩
          simp [this]
        clear hbad EP EP2
        obtain ⟨zf, hzf⟩ : ∃ z, (f == 0) = z := ⟨_, rfl⟩
        obtain ⟨zr, hzr⟩ : ∃ z, (r != 0) = z := ⟨_, rfl⟩
        rw [hzf, hzr] at hz
        have D2 := Lib.hid (show prsB [] xs = (!hasP (xs.take k) u && prsB (xs.take (k + 1)) (xs.drop (k + 1))) by rw [HE.out, D.out, GP.out]; simp)
        have zz := H2.out.lt
        clear HBAD GP D HTG HF HT m3 m4 m5 m1 m2
        rcases (show zf = false ∨ (zf = true ∧ zr = false) by cases zf <;> simp_all) with rfl | ⟨rfl, rfl⟩
        all_goals
          clear hz
          obtain ⟨-, -, -, m3, m4, -, -⟩ := H2.out.six
          go_wp2
          clear hzf hzr m0 m3 m4
          go_loopw [5] (fun j wq => ∃ m : Nat, m ≤ k ∧ j = .int .i64 m ∧ hasP (xs.take m) u = false ∧ Hd wq wr.heap.size (ipO ⟨u, p, q, f, r, g⟩) ∧ Below W.heap.size W wq) (fun j _ => k - (intOf j).toNat)
          case atStart => exact ⟨0, by omega, rfl, by simp [hasP], H2.out, B2.out⟩
          case round =>
            obtain ⟨m, hm5, rfl, hP, hH, hBq⟩ := hrel
            have HH := Lib.hid hH
            have HBQ := Lib.hid hBq
            have HP := Lib.hid hP
            clear hH hBq hP
            by_cases hmk : m < k
            · have hW := HB.out.trans (HBQ.out.mono hB)
              have q0 := (hW.cell (p := ⟨b, off + m * 6, none⟩) hlb).trans (HC.out m (by omega)).1
              have m0 := HH.out.six.1
              have DT := Lib.hid (hasP_take m u (show m < xs.length by omega))
              have DM := Lib.hid (fun (hh : ((xs.getD m default).url == u) = true) => hasP_mem m k u hmk (show m < xs.length by omega) hh)
              generalize (xs.getD m default).url = t at *
              obtain ⟨c, hcc⟩ : ∃ c, (t == u) = c := ⟨_, rfl⟩
              rw [hcc] at DT DM
              clear hW
              go_wp2_with fail
              go_quiet (fail)
              have HH2 := Lib.hid (HH.out.drewN nq)
              have HB2 := Lib.hid (Mk.belDrew HBQ.out nq)
              clear HH HBQ m0 q0
              generalize World.drewN _ nq = wx at *
              cases c
              · go_wp2
                go_roundw
                case rel => exact ⟨m + 1, by omega, by go_num, by rw [DT.out, HP.out]; rfl, HH2.out, HB2.out⟩
                case measure => simp [intOf]; omega
              · go_wp2
                go_ret
                exact ⟨ret_b (by rw [E.out, D2.out, DM.out (by first | rfl | trivial)]; rfl), HB2.out⟩
            · obtain rfl : m = k := by omega
              go_wp2
              go_roundw
              case rel => exact ⟨m + 1, by omega, by go_num, by rw [D2.out, HP.out]; rfl, HBQ.out⟩
              case measure => simp [intOf]; omega
      · go_wp2
        go_ret
        obtain rfl : k = xs.length := by omega
        exact ⟨ret_b (by rw [E.out, HE.out, List.drop_length]; rfl), HR.out⟩
  · have E := Lib.hid (show plB xs = false by unfold plB; rw [decide_eq_false h4]; rfl)
    have g1 : (4 < (xs.length : Int)) := by omega
    go_enter Tryz.func115, Tryz.ntmps115
    go_wp2
    go_ret
    exact ⟨ret_b E.out.symm, Below.refl _ _⟩
end Go.Proofs.YtmaknkbmilcanaaGreatDoor.Pe
namespace Go.Proofs.YtmaknkbmilcanaaGreatDoor.Apq
open Go.RowKit
section
variable {P : Program} (w : World)
/-- append of a row, which may be empty -/
theorem wpList_app_any {ops : Array Oper} {rest : List Oper} {o : Oper} {a : Act} {Q : Exit → Act → World → Prop} (hgd : o.guard = none) (s x : Operand) (t : TypeId)
    (ho : o.op = .call { callee := .builtin .append, args := #[s, x], argTypes := #[t, t] })
    (base : Nat) (e : TypeId) (i : TypeInfo) (z : Value) (size bytes : Nat) (ht : P.underlying t = some (.slice e)) (hi : P.info? e = some i) (hz : i.zero = some z)
    (hsize : i.size = size) (hby : i.bytes = bytes) (hzs : z.cells.size = size) (hsz : 0 < size)
    (v : Value) (n : Nat) (xs : List Value) (hs : a.eval s = v) (hown : w.ownsRow base e size v n xs)
    (xo : Option Addr) (m c : Nat) (news : List Value) (hx : a.eval x = .slice xo m c) (hm : 0 < m → ∃ ad, xo = some ad ∧ ∀ j u, news[j]? = some u → w.cell? (ad.add j) = some u) (hl : news.length = m * size) (h1 : ∀ u ∈ news, u.oneCell' = true)
    (h63 : n + m ≤ 9223372036854775807) (hbytes : (n + m) * bytes ≤ 140737488355328) (hbase : base ≤ w.heap.size)
    (h : ∀ v' w', w'.ownsRow base e size v' (n + m) (xs ++ news) → w.grownBy w' v.ownBlock → (v'.ownBlock = v.ownBlock ∨ v'.ownBlock = some w.heap.size) → wpList P ops Q rest (a.put o.dst v') w') : wpList P ops Q (o :: rest) a w := by
  by_cases hm0 : m = 0
  · subst hm0
    have hn0 : news = [] := List.eq_nil_of_length_eq_zero (by rw [hl]; omega)
    subst hn0
    have hsrc : Src P i.size t (.slice xo 0 c) 0 [] w := by
      cases xo with
      | none => exact Src.ofNil w ht c
      | some ad => exact Src.ofSlice w ht ad 0 c [] (by simp) (fun j u h => by simp at h) (fun u h => by cases h)
    have hr : (Builtin.append_ #[t, t] o.type #[v, .slice xo 0 c]).run P w = .ok v w := by
      rcases hown.2 with ⟨rfl, rfl⟩ | ⟨g, cap, cur, rfl, _, _, hnc, _⟩
      · exact run_append_nothing w t t o.type e i ht hi none 0 0 (Nat.le_refl _) _ hsrc
      · exact run_append_nothing w t t o.type e i ht hi _ n cap hnc _ hsrc
    refine wpList_plain hgd fun K hK => ?_
    unfold Oper.wp execOp
    simp only [ho, resolve, invoke, builtin, Sem.run_bind, Sem.run_pure, Result.andThen_ok, List.map_toArray, List.map_cons, List.map_nil, hs, hx, hr]
    exact hK _ _ (h v w (by simpa using hown) ⟨rfl, rfl, rfl, Nat.le_refl _, fun _ _ _ => rfl⟩ (.inl rfl))
  · obtain ⟨ad, rfl, hc⟩ := hm (by omega)
    exact App.wpList_app w hgd s x t ho base e i z size bytes ht hi hz hsize hby hzs hsz v n xs hs hown ad m c news hx (by omega) hl hc h1 h63 hbytes hbase h
end
end Go.Proofs.YtmaknkbmilcanaaGreatDoor.Apq
namespace Go.Proofs.YtmaknkbmilcanaaGreatDoor.Pe
open Go.RowKit
open Go.Proofs.YtmaknkbmilcanaaGreatDoor.Gr (belI_step belI_alloc heap_set ret_b ret_i)
open Go.Proofs.YtmaknkbmilcanaaGreatDoor.Mk
theorem add_at (b off j : Nat) : (({ block := b, off := off } : Addr).add j) = ⟨b, off + j, none⟩ := by unfold Addr.add; split <;> simp_all
/-! ### a cell of an own row is set -/
theorem own_set {w : World} {B m n g cap : Nat} {T : TypeId} {xs : List Value} (h : w.ownsRow B T m (.slice (some ⟨g, 0, none⟩) n cap) n xs) (o : Nat) (v : Value) : (w.setCell ⟨g, o, none⟩ v).ownsRow B T m (.slice (some ⟨g, 0, none⟩) n cap) n (xs.set o v) := by
  obtain ⟨h1, h2⟩ := h
  refine ⟨by rw [List.length_set]; exact h1, ?_⟩
  rcases h2 with ⟨e, _⟩ | ⟨g', cap', cur, e, hb, hg, hnc, hcm, hs, ht⟩
  · cases e
  · injection e with e1 e2 e3
    injection e1 with e1
    injection e1 with e4
    subst e4 e3
    refine .inr ⟨g, cap, cur.setIfInBounds o v, rfl, hb, heap_set hg o v, hnc, hcm, by simpa using hs, ?_⟩
    rw [Array.toList_setIfInBounds, List.take_set, ht]
theorem own_frozen {w : World} {B m n g cap : Nat} {T : TypeId} {xs : List Value} (h : w.ownsRow B T m (.slice (some ⟨g, 0, none⟩) n cap) n xs) (o : Nat) : w.frozen? ⟨g, o, none⟩ = false := by
  rcases h.2 with ⟨e, _⟩ | ⟨g', cap', cur, e, hb, hg, hnc, hcm, hs, ht⟩
  · cases e
  · injection e with e1 e2 e3
    injection e1 with e1
    injection e1 with e4
    subst e4
    exact frozen_of_row w g o _ _ hg
theorem own_cell {w : World} {B m n g cap : Nat} {T : TypeId} {xs : List Value} (h : w.ownsRow B T m (.slice (some ⟨g, 0, none⟩) n cap) n xs) (o : Nat) (v : Value) (ho : xs[o]? = some v) : w.cell? ⟨g, o, none⟩ = some v := by
  rcases h.2 with ⟨e, _⟩ | ⟨g', cap', cur, e, hb, hg, hnc, hcm, hs, ht⟩
  · cases e
  · injection e with e1 e2 e3
    injection e1 with e1
    injection e1 with e4
    subst e4
    have hlt : o < n * m := by have := (List.getElem?_eq_some_iff.1 ho).1; rw [h.1] at this; exact this
    rw [← ht, List.getElem?_take_of_lt hlt] at ho
    simp [World.cell?, hg]
    simpa using ho
theorem prC_six : ∀ (xs : List Pr) (k : Nat) (y : Pr), k < xs.length → ((((((prC xs).set (k * 6) (.string ⟨y.url.toArray⟩)).set (k * 6 + 1) (.int .i64 y.pri)).set (k * 6 + 2) (.int .i64 y.wt)).set (k * 6 + 3) (.int .i64 y.fails)).set (k * 6 + 4) (.int .i64 y.retry)).set (k * 6 + 5) (.bool y.gone) = prC (xs.set k y)
  | [], k, y, h => by simp at h
  | t :: r, 0, y, _ => rfl
  | t :: r, k + 1, y, h => by
    have ih := prC_six r k y (by simpa using h)
    have e : (k + 1) * 6 = k * 6 + 1 + 1 + 1 + 1 + 1 + 1 := by omega
    rw [e]
    simpa [prC] using ih
theorem prC_fails : ∀ (xs : List Pr) (k : Nat) (f : Int), k < xs.length → (prC xs).set (k * 6 + 3) (.int .i64 f) = prC (xs.set k { xs.getD k default with fails := f })
  | [], k, f, h => by simp at h
  | t :: r, 0, f, _ => rfl
  | t :: r, k + 1, f, h => by
    have ih := prC_fails r k f (by simpa using h)
    have e : (k + 1) * 6 + 3 = k * 6 + 3 + 1 + 1 + 1 + 1 + 1 + 1 := by omega
    rw [e]
    simpa [prC] using ih
theorem prC_retry : ∀ (xs : List Pr) (k : Nat) (f : Int), k < xs.length → (prC xs).set (k * 6 + 4) (.int .i64 f) = prC (xs.set k { xs.getD k default with retry := f })
  | [], k, f, h => by simp at h
  | t :: r, 0, f, _ => rfl
  | t :: r, k + 1, f, h => by
    have ih := prC_retry r k f (by simpa using h)
    have e : (k + 1) * 6 + 4 = k * 6 + 4 + 1 + 1 + 1 + 1 + 1 + 1 := by omega
    rw [e]
    simpa [prC] using ih
theorem prC_gone : ∀ (xs : List Pr) (k : Nat) (f : Bool), k < xs.length → (prC xs).set (k * 6 + 5) (.bool f) = prC (xs.set k { xs.getD k default with gone := f })
  | [], k, f, h => by simp at h
  | t :: r, 0, f, _ => rfl
  | t :: r, k + 1, f, h => by
    have ih := prC_gone r k f (by simpa using h)
    have e : (k + 1) * 6 + 5 = k * 6 + 5 + 1 + 1 + 1 + 1 + 1 + 1 := by omega
    rw [e]
    simpa [prC] using ih
section
variable {w : World} {base g cap k : Nat} {xs : List Pr}
theorem O6.six (h : O6 w base (.slice (some ⟨g, 0, none⟩) xs.length cap) xs) (hk : k < xs.length) (y : Pr) : O6 (set6 w g (k * 6) (.string ⟨y.url.toArray⟩) (.int .i64 y.pri) (.int .i64 y.wt) (.int .i64 y.fails) (.int .i64 y.retry) (.bool y.gone)) base (.slice (some ⟨g, 0, none⟩) xs.length cap) (xs.set k y) := by
  have h6 := own_set (own_set (own_set (own_set (own_set (own_set h (k * 6) (.string ⟨y.url.toArray⟩)) (k * 6 + 1) (.int .i64 y.pri)) (k * 6 + 2) (.int .i64 y.wt)) (k * 6 + 3) (.int .i64 y.fails)) (k * 6 + 4) (.int .i64 y.retry)) (k * 6 + 5) (.bool y.gone)
  rw [prC_six xs k y hk] at h6
  unfold O6; rw [List.length_set]; exact h6
theorem O6.fails (h : O6 w base (.slice (some ⟨g, 0, none⟩) xs.length cap) xs) (hk : k < xs.length) (f : Int) : O6 (w.setCell ⟨g, k * 6 + 3, none⟩ (.int .i64 f)) base (.slice (some ⟨g, 0, none⟩) xs.length cap) (xs.set k { xs.getD k default with fails := f }) := by
  have h6 := own_set h (k * 6 + 3) (.int .i64 f)
  rw [prC_fails xs k f hk] at h6
  unfold O6; rw [List.length_set]; exact h6
theorem O6.retry (h : O6 w base (.slice (some ⟨g, 0, none⟩) xs.length cap) xs) (hk : k < xs.length) (f : Int) : O6 (w.setCell ⟨g, k * 6 + 4, none⟩ (.int .i64 f)) base (.slice (some ⟨g, 0, none⟩) xs.length cap) (xs.set k { xs.getD k default with retry := f }) := by
  have h6 := own_set h (k * 6 + 4) (.int .i64 f)
  rw [prC_retry xs k f hk] at h6
  unfold O6; rw [List.length_set]; exact h6
theorem O6.gone (h : O6 w base (.slice (some ⟨g, 0, none⟩) xs.length cap) xs) (hk : k < xs.length) (f : Bool) : O6 (w.setCell ⟨g, k * 6 + 5, none⟩ (.bool f)) base (.slice (some ⟨g, 0, none⟩) xs.length cap) (xs.set k { xs.getD k default with gone := f }) := by
  have h6 := own_set h (k * 6 + 5) (.bool f)
  rw [prC_gone xs k f hk] at h6
  unfold O6; rw [List.length_set]; exact h6
theorem O6.at (h : O6 w base (.slice (some ⟨g, 0, none⟩) xs.length cap) xs) (hk : k < xs.length) : w.cell? ⟨g, k * 6, none⟩ = some (.string ⟨(xs.getD k default).url.toArray⟩) ∧ w.cell? ⟨g, k * 6 + 1, none⟩ = some (.int .i64 (xs.getD k default).pri) ∧ w.cell? ⟨g, k * 6 + 2, none⟩ = some (.int .i64 (xs.getD k default).wt) ∧ w.cell? ⟨g, k * 6 + 3, none⟩ = some (.int .i64 (xs.getD k default).fails) ∧ w.cell? ⟨g, k * 6 + 4, none⟩ = some (.int .i64 (xs.getD k default).retry) ∧ w.cell? ⟨g, k * 6 + 5, none⟩ = some (.bool (xs.getD k default).gone) ∧ ∀ o, w.frozen? ⟨g, o, none⟩ = false := by
  obtain ⟨e0, e1, e2, e3, e4, e5⟩ := prC_get xs k hk
  exact ⟨own_cell h _ _ e0, own_cell h _ _ e1, own_cell h _ _ e2, own_cell h _ _ e3, own_cell h _ _ e4, own_cell h _ _ e5, own_frozen h⟩
end
end Go.Proofs.YtmaknkbmilcanaaGreatDoor.Pe
namespace Go.Proofs.YtmaknkbmilcanaaGreatDoor.Pe
open Go.RowKit
open Go.Proofs.YtmaknkbmilcanaaGreatDoor.Gr (Tg tV TgIn tgB tgsB tgsI_any belI_step belI_alloc ret_b ret_i heap_set)
open Go.Proofs.YtmaknkbmilcanaaGreatDoor.Ul (Tab MaxL)
open Go.Proofs.YtmaknkbmilcanaaGreatDoor.Mk
theorem nowP_any (n : Int) (w : World) : Calls Tryz.prog 132 #[.int .i64 n] w fun e w' => e = .returned (.bool (nwB n)) ∧ w = w' := by
  unfold nwB
  by_cases h1 : 0 ≤ n
  · by_cases h2 : n ≤ 1000000
    all_goals
      go_enter Tryz.func132, Tryz.ntmps132
      go_wp2
      go_ret
      exact ⟨ret_b (by simp; omega), rfl⟩
  · go_enter Tryz.func132, Tryz.ntmps132
    go_wp2
    go_ret
    exact ⟨ret_b (by simp; omega), rfl⟩
set_option maxRecDepth 100000 in
set_option maxHeartbeats 2000000 in
theorem backI_any (x : Pr) (W : World) : Calls Tryz.prog 264 #[pV x] W fun e w' => e = .returned (.bool (bkB x)) ∧ Below W.heap.size W w' := by
  obtain ⟨u, p, q, f, r, g⟩ := x
  have HN := Lib.hid (fun W' => nowP_any f W')
  have BF := Lib.hid ((Below.refl W.heap.size W).alloc (Nat.le_refl _) (ipO ⟨u, p, q, f, r, g⟩))
  have EB := Lib.hid (show bkB ⟨u, p, q, f, r, g⟩ = (nwB f && rtB r && !(f == 0 && r != 0)) from rfl)
  by_cases hf : f = 0
  · subst hf
    have E2 := Lib.hid (show bkB ⟨u, p, q, 0, r, g⟩ = (r == 0) by
      rw [EB.out]
      by_cases hr : r = 0
      · subst hr; rfl
      · have e1 : (r == 0) = false := by simpa using hr
        have e2 : (r != 0) = true := by simpa using hr
        rw [e1, e2]; simp)
    go_enter Tryz.func264, Tryz.ntmps264
    go_wp2
    go_ret
    exact ⟨ret_b E2.out.symm, BF.out⟩
  · have E2 := Lib.hid (show bkB ⟨u, p, q, f, r, g⟩ = (nwB f && rtB r) by
      rw [EB.out]
      have e1 : (f == 0) = false := by simpa using hf
      rw [e1]; simp)
    obtain ⟨b1, hb1⟩ : ∃ b, nwB f = b := ⟨_, rfl⟩
    rw [hb1] at HN E2
    cases b1
    · go_enter Tryz.func264, Tryz.ntmps264
      go_wp2_with fail
      refine (HN.out _).mono ?_
      rintro e _ ⟨rfl, rfl⟩
      go_wp2
      go_ret
      exact ⟨ret_b E2.out.symm, BF.out⟩
    · by_cases h0 : 0 ≤ r
      · by_cases h1 : r ≤ 1000032
        · have E3 := Lib.hid (show bkB ⟨u, p, q, f, r, g⟩ = true by rw [E2.out]; simp [rtB, h0, h1])
          go_enter Tryz.func264, Tryz.ntmps264
          go_wp2_with fail
          refine (HN.out _).mono ?_
          rintro e _ ⟨rfl, rfl⟩
          go_wp2
          go_ret
          exact ⟨ret_b (by rw [E3.out]), BF.out⟩
        · have E3 := Lib.hid (show bkB ⟨u, p, q, f, r, g⟩ = false by rw [E2.out]; simp [rtB, h0, h1])
          go_enter Tryz.func264, Tryz.ntmps264
          go_wp2_with fail
          refine (HN.out _).mono ?_
          rintro e _ ⟨rfl, rfl⟩
          go_wp2
          go_ret
          exact ⟨ret_b (by rw [E3.out]; first | rfl | (simp; omega)), BF.out⟩
      · have E3 := Lib.hid (show bkB ⟨u, p, q, f, r, g⟩ = false by rw [E2.out]; simp [rtB, h0])
        go_enter Tryz.func264, Tryz.ntmps264
        go_wp2_with fail
        refine (HN.out _).mono ?_
        rintro e _ ⟨rfl, rfl⟩
        go_wp2
        go_ret
        exact ⟨ret_b E3.out.symm, BF.out⟩
/-! ### a row of targets of the call's own -/
def tgC : List Tg → List Value
  | [] => []
  | t :: r => .string ⟨t.url.toArray⟩ :: .int .i64 t.pri :: .int .i64 t.wt :: tgC r
theorem tgC_len : ∀ ts : List Tg, (tgC ts).length = ts.length * 3
  | [] => rfl
  | t :: r => by have := tgC_len r; simp only [tgC, List.length_cons]; omega
theorem tgC_app : ∀ a b : List Tg, tgC (a ++ b) = tgC a ++ tgC b
  | [], b => rfl
  | t :: r, b => by simp [tgC, tgC_app r b]
theorem tgC_get : ∀ (ts : List Tg) (i : Nat), i < ts.length → (tgC ts)[i * 3]? = some (.string ⟨(ts.getD i default).url.toArray⟩) ∧ (tgC ts)[i * 3 + 1]? = some (.int .i64 (ts.getD i default).pri) ∧ (tgC ts)[i * 3 + 2]? = some (.int .i64 (ts.getD i default).wt)
  | [], i, h => by simp at h
  | t :: r, 0, _ => ⟨rfl, rfl, rfl⟩
  | t :: r, i + 1, h => by
    have ih := tgC_get r i (by simpa using h)
    have e : (i + 1) * 3 = i * 3 + 1 + 1 + 1 := by omega
    rw [e]
    simpa [tgC] using ih
def O3 (w : World) (base : Nat) (v : Value) (ts : List Tg) : Prop := w.ownsRow base 85 3 v ts.length (tgC ts)
theorem O3.nil (w : World) (a : Nat) : O3 w a (.slice none 0 0) [] := World.ownsRow_nil _ _ _ _
theorem O3.below {w w' : World} {base : Nat} {v : Value} {ts : List Tg} (h : O3 w base v ts) (hb : Below w.heap.size w w') : O3 w' base v ts := World.ownsRow.kept h (below_grownBy hb none) (by cases v.ownBlock <;> simp)
theorem O3.slice {w : World} {base : Nat} {v : Value} {ts : List Tg} (h : O3 w base v ts) : ∃ a c, v = .slice a ts.length c := own_slice h
theorem O3.tg {w : World} {base : Nat} {v : Value} {ts : List Tg} (h : O3 w base v ts) (hl : ∀ i, i < ts.length → (ts.getD i default).url.length ≤ 9223372036854775807) : TgIn (fun b => base ≤ b ∧ b < w.heap.size) w v ts := by
  obtain ⟨-, h⟩ := h
  rcases h with ⟨rfl, h0⟩ | ⟨g, cap, cur, rfl, hbg, hg, hnc, hcm, hs, ht⟩
  · obtain rfl : ts = [] := List.eq_nil_of_length_eq_zero h0
    exact ⟨none, 0, 0, 0, rfl, by simp, by simp, by simp, by simp, by simp⟩
  · have hlt : g < w.heap.size := (Array.getElem?_eq_some_iff.1 hg).1
    refine ⟨some ⟨g, 0, none⟩, cap, g, 0, rfl, hnc, by unfold maxLen at hcm; omega, hl, fun _ => ⟨rfl, hbg, hlt⟩, fun i hi => ?_⟩
    obtain ⟨e0, e1, e2⟩ := tgC_get ts i hi
    rw [← ht, List.getElem?_take_of_lt (by omega)] at e0 e1 e2
    simp only [Nat.zero_add]
    refine ⟨?_, ?_, ?_⟩ <;> simp [World.cell?, hg]
    · simpa using e0
    · simpa using e1
    · simpa using e2
theorem one_row3 (w : World) (a b c : Value) (T : TypeId) (j : Nat) (u : Value) (h : [a, b, c][j]? = some u) : (w.alloc (.cells #[a, b, c] T)).cell? ((⟨w.heap.size, 0, none⟩ : Addr).add j) = some u := by
  rw [add_at, Nat.zero_add]
  have k := (Hd.new w (.cells #[a, b, c] T)).three
  have hj : j < 3 := by have := (List.getElem?_eq_some_iff.1 h).1; simpa using this
  rcases (show j = 0 ∨ j = 1 ∨ j = 2 by omega) with rfl | rfl | rfl
  · simp at h; subst h; exact k.1
  · simp at h; subst h; exact k.2.1
  · simp at h; subst h; exact k.2.2.1
theorem map_take {xs : List Pr} (k : Nat) (hx : k < xs.length) : (xs.take (k + 1)).map Pr.tg = (xs.take k).map Pr.tg ++ [(xs.getD k default).tg] := by
  rw [show xs.take (k + 1) = xs.take k ++ [xs[k]] by rw [List.take_add_one, List.getElem?_eq_getElem hx]; rfl, List.map_append]
  simp [hx]
theorem all_take {xs : List Pr} (k : Nat) (hx : k < xs.length) : (xs.take (k + 1)).all bkB = ((xs.take k).all bkB && bkB (xs.getD k default)) := by
  rw [show xs.take (k + 1) = xs.take k ++ [xs[k]] by rw [List.take_add_one, List.getElem?_eq_getElem hx]; rfl, List.all_append]
  simp [hx]
theorem all_not {xs : List Pr} (k : Nat) (hx : k < xs.length) (h : bkB (xs.getD k default) = false) : xs.all bkB = false := by
  rw [← Bool.not_eq_true, List.all_eq_true]
  intro hh
  have := hh xs[k] (List.getElem_mem hx)
  simp [hx] at h
  rw [h] at this
  cases this
end Go.Proofs.YtmaknkbmilcanaaGreatDoor.Pe
namespace Go.Proofs.YtmaknkbmilcanaaGreatDoor.Pe
open Go.RowKit
open Go.Proofs.YtmaknkbmilcanaaGreatDoor.Gr (Tg tV TgIn tgB tgsB tgsI_any belI_step belI_alloc ret_b ret_i heap_set)
open Go.Proofs.YtmaknkbmilcanaaGreatDoor.Ul (Tab MaxL)
open Go.Proofs.YtmaknkbmilcanaaGreatDoor.Mk
set_option maxRecDepth 100000 in
set_option maxHeartbeats 4000000 in
theorem okI_any (B : Nat) (w0 : World) (xs : List Pr) (v : Value) (h : PrIn (· < B) w0 v xs) (W : World) (hb : Below B w0 W) (hB : B ≤ W.heap.size) (hT : Tab W) (hM : MaxL W) :
    Calls Tryz.prog 188 #[v] W fun e w' => e = .returned (.bool (plB xs)) ∧ Below W.heap.size W w' := by
  have E0 := Lib.hid (plB_split xs)
  obtain ⟨a, cap, b, off, rfl, hcap, hm, hlen, ha, hc⟩ := h
  have HC := Lib.hid hc
  have HA := Lib.hid ha
  have HB := Lib.hid hb
  have HL := Lib.hid hlen
  have HT := Lib.hid hT
  have HM := Lib.hid hM
  clear hc ha hb hlen hT hM
  by_cases h4 : xs.length ≤ 4
  · have E := Lib.hid (show plB xs = (xs.all bkB && tgsB [] (xs.map Pr.tg)) by rw [E0.out, decide_eq_true h4]; rfl)
    have g1 : ¬ (4 < (xs.length : Int)) := by omega
    obtain ⟨i0, hi, hz0, hz1, hz2⟩ := info_parts Gr.Tryz.infoT
    have HTG := Lib.hid (fun (W' : World) (v' : Value) (h1 : TgIn (· < W'.heap.size) W' v' (xs.map Pr.tg)) h4 h5 => tgsI_any W'.heap.size W' (xs.map Pr.tg) v' h1 W' (Below.refl _ _) (Nat.le_refl _) h4 h5)
    go_enter Tryz.func188, Tryz.ntmps188
    go_wp2
    go_loopw [3, 11] (fun tv i wr => ∃ k : Nat, k ≤ xs.length ∧ i = .int .i64 k ∧ O3 wr W.heap.size tv ((xs.take k).map Pr.tg) ∧ (xs.take k).all bkB = true ∧ Below W.heap.size W wr) (fun _ i _ => xs.length - (intOf i).toNat)
    case atStart => exact ⟨0, by omega, rfl, O3.nil _ _, rfl, Below.refl _ _⟩
    case round =>
      obtain ⟨k, hk, rfl, hO, hA, hR⟩ := hrel
      have HO := Lib.hid hO
      have HALL := Lib.hid hA
      have HR := Lib.hid hR
      obtain ⟨at0, ct0, hv⟩ := hO.slice
      rw [show ((xs.take k).map Pr.tg).length = k by simp; omega] at hv
      subst hv
      clear hO hA hR
      by_cases hlt : k < xs.length
      · obtain ⟨ea, hlb⟩ := HA.out (by omega)
        subst ea
        have hW := HB.out.trans (HR.out.mono hB)
        obtain ⟨c0, c1, c2, c3, c4, c5⟩ := HC.out k hlt
        have q0 := (hW.cell (p := ⟨b, off + k * 6, none⟩) hlb).trans c0
        have q1 := (hW.cell (p := ⟨b, off + k * 6 + 1, none⟩) hlb).trans c1
        have q2 := (hW.cell (p := ⟨b, off + k * 6 + 2, none⟩) hlb).trans c2
        have q3 := (hW.cell (p := ⟨b, off + k * 6 + 3, none⟩) hlb).trans c3
        have q4 := (hW.cell (p := ⟨b, off + k * 6 + 4, none⟩) hlb).trans c4
        have q5 := (hW.cell (p := ⟨b, off + k * 6 + 5, none⟩) hlb).trans c5
        have HMT := Lib.hid (map_take k hlt)
        have HAT := Lib.hid (all_take k hlt)
        have HAN := Lib.hid (all_not k hlt)
        have hlk : ((xs.take k).map Pr.tg).length = k := by simp; omega
        clear c0 c1 c2 c3 c4 c5 hW
        generalize xs.getD k default = x at *
        obtain ⟨u, p, q, f, r, g⟩ := x
        have HBK := Lib.hid (fun W' => show Calls Tryz.prog 264 #[.agg #[.string ⟨u.toArray⟩, .int .i64 p, .int .i64 q, .int .i64 f, .int .i64 r, .bool g]] W' fun e w' => e = .returned (.bool (bkB ⟨u, p, q, f, r, g⟩)) ∧ Below W'.heap.size W' w' from backI_any ⟨u, p, q, f, r, g⟩ W')
        simp only at q0 q1 q2 q3 q4 q5
        generalize (xs.take k).map Pr.tg = ts at *
        generalize bkB ⟨u, p, q, f, r, g⟩ = b1 at *
        subst hlk
        obtain ⟨w1, hw1⟩ : ∃ w1, w1 = wr.alloc (ipO ⟨u, p, q, f, r, g⟩) := ⟨_, rfl⟩
        have H1 := Lib.hid (show Hd w1 wr.heap.size (ipO ⟨u, p, q, f, r, g⟩) by rw [hw1]; exact Hd.new _ _)
        have B1 := Lib.hid (show Below W.heap.size W w1 by rw [hw1]; exact belI_alloc HR.out)
        have O1 := Lib.hid (show O3 w1 W.heap.size (.slice at0 ts.length ct0) ts by rw [hw1]; exact HO.out.below ((Below.refl _ _).alloc (Nat.le_refl _) _))
        go_wp2_with fail
        rw [← hw1]
        clear hw1
        refine (HBK.out _).mono ?_
        rintro e w2 ⟨rfl, hb2⟩
        have H2 := Lib.hid (H1.out.blw hb2)
        have B2 := Lib.hid (belI_step B1.out hb2)
        have O2 := Lib.hid (O1.out.below hb2)
        obtain ⟨m0, m1, m2, m3, m4, m5, -⟩ := H2.out.six
        clear hb2 H1 B1 O1 q0 q1 q2 q3 q4 q5
        cases b1
        · go_wp2
          go_ret
          exact ⟨ret_b (by rw [E.out, HAN.out (by first | rfl | trivial)]; rfl), B2.out⟩
        · have hn2 : ts.length ≤ 4 := by omega
          have OA := Lib.hid (O2.out.below ((Below.refl w2.heap.size w2).alloc (Nat.le_refl _) (.cells #[.string ⟨u.toArray⟩, .int .i64 p, .int .i64 q] 85)))
          have BA := Lib.hid (belI_alloc (o := .cells #[.string ⟨u.toArray⟩, .int .i64 p, .int .i64 q] 85) B2.out)
          have z2 := B2.out.size
          go_wp2_with (at_builtin; refine App.wpList_app _ rfl _ _ 80 rfl W.heap.size 85 i0 _ 3 32 Tryz.underlying80 hi hz0 hz1 hz2 rfl (by omega) _ ts.length (tgC ts) rfl OA.out ⟨w2.heap.size, 0, none⟩ 1 _ [.string ⟨u.toArray⟩, .int .i64 p, .int .i64 q] rfl (by omega) rfl (one_row3 w2 _ _ _ _) (by intro u hu; simp at hu; rcases hu with rfl | rfl | rfl <;> rfl) (by omega) (by omega) (by simp; omega) ?_; intro l' w4 hown' hgrow hplace; have O4 := Lib.hid (show O3 w4 W.heap.size l' (ts ++ [⟨u, p, q⟩]) by unfold O3; rw [List.length_append, tgC_app]; exact hown'); have B4 := Lib.hid (show Below W.heap.size W w4 from BA.out.grown hgrow (by simp; omega) (fun g e => (World.ownsRow.lt OA.out g e).1)); obtain ⟨a7, c7, rfl⟩ := O4.out.slice; clear hown' hgrow hplace)
          go_roundw
          case rel => exact ⟨ts.length + 1, by omega, by go_num, by have := O4.out; rw [HMT.out]; simpa using this, by rw [HAT.out, HALL.out]; rfl, B4.out⟩
          case measure => simp [intOf]; omega
      · obtain rfl : k = xs.length := by omega
        have ht : xs.take xs.length = xs := List.take_length
        rw [ht] at HO HALL
        have HLM := Lib.hid (fun i (hi : i < (xs.map Pr.tg).length) => show ((xs.map Pr.tg).getD i default).url.length ≤ 9223372036854775807 by
          have hi' : i < xs.length := by simpa using hi
          have := HL.out i hi'
          simpa [hi'] using this)
        have HC2 := Lib.hid (HTG.out wr (.slice at0 xs.length ct0) ((HO.out.tg HLM.out).mono fun _ hb => hb.2) (HT.out.below HR.out) (HM.out.below HR.out))
        clear ht
        go_wp2_with fail
        refine HC2.out.mono ?_
        rintro e w2 ⟨rfl, hb2⟩
        have BF := Lib.hid (belI_step HR.out hb2)
        clear hb2
        go_wp2
        go_ret
        exact ⟨ret_b (by rw [E.out, HALL.out]; rfl), BF.out⟩
  · have E := Lib.hid (show plB xs = false by rw [E0.out, decide_eq_false h4]; rfl)
    have g1 : (4 < (xs.length : Int)) := by omega
    go_enter Tryz.func188, Tryz.ntmps188
    go_wp2
    go_ret
    exact ⟨ret_b E.out.symm, Below.refl _ _⟩
end Go.Proofs.YtmaknkbmilcanaaGreatDoor.Pe
