
/-
  The program's buildItems and buildValue, walked.
-/
import Derived.Test.YtniflfgnelfpbaaJsVal
import Derived.Test.YtniflfgnelfpbaaApp
import Derived.Laws.BytesArg
import Derived.Laws.IdiomStrings
import Derived.Laws.OwnMore
import Derived.Maps.AppendAt
namespace Go.Proofs.Ytniflfgnelfpbaa.Js
open Go.RowKit
open Go.Proofs.Ytniflfgnelfpbaa.Ext (up up_below up_mk wp_region_ext call_ext call_ext_same call_ext_drewN)
theorem Try.infoI : (Try.prog.info? 53).map (fun i => (i.zero, i.size, i.bytes)) = some (some .nilIface, 1, 16) := by kernel_rfl
/-- the blocks that a value built in the world W may lie in, once the world is w': what was there below B, and what is new -/
def Sb (B : Nat) (W w' : World) (b : Nat) : Prop := b < B ∨ (W.heap.size ≤ b ∧ b < w'.heap.size)
def BldPost (B : Nat) (W : World) (r : Bool) (j : J) (e : Ending) (w' : World) : Prop := ∃ v, e = .returned (.tuple #[v, .bool r]) ∧ (r = true → VIn (Sb B W w') w' v (normJ j)) ∧ Below W.heap.size W w'
def BldL (B : Nat) (W : World) (r : Bool) (xs : List J) (e : Ending) (w' : World) : Prop := ∃ v, e = .returned (.tuple #[v, .bool r]) ∧ (r = true → VLn (Sb B W w') w' v (normL xs)) ∧ Below W.heap.size W w' ∧ ∃ a l c, v = .slice a l c
theorem VIn.one {S : Nat → Prop} {w : World} {v : Value} {j : J} (h : VIn S w v j) : ∀ u ∈ [v], u.oneCell' = true := by
  intro u hu
  simp at hu
  subst hu
  cases h <;> rfl
theorem VIn.iface {S : Nat → Prop} {w : World} {v : Value} {j : J} (h : VIn S w v j) : ∃ t u, v = .iface t u := by
  cases h <;> exact ⟨_, _, rfl⟩
/-- what has been built after k rounds: v holds the values of the first k items -/
def BRel (B : Nat) (W : World) (xs : List J) (k : Nat) (v : Value) (wr : World) : Prop :=
  ∃ vals : List Value, wr.ownsRow W.heap.size 53 1 v k vals ∧ (∀ i, i < k → VIn (fun b => Sb B W wr b ∧ v.ownBlock ≠ some b) wr (vals.getD i undef) (normJ (xs.getD i default))) ∧ Below W.heap.size W wr
theorem bldL_no {B : Nat} {W w' : World} {xs : List J} {a : Option Addr} {l c : Nat} (h : Below W.heap.size W w') : BldL B W false xs (.returned (.tuple #[.slice a l c, .bool false])) w' := ⟨_, rfl, (fun h => by cases h), h, _, _, _, rfl⟩
theorem bld_no {B : Nat} {W w' : World} {j : J} {v : Value} (h : Below W.heap.size W w') : BldPost B W false j (.returned (.tuple #[v, .bool false])) w' := ⟨v, rfl, (fun h => by cases h), h⟩
theorem bRel_start (B : Nat) (W : World) (xs : List J) : BRel B W xs 0 (.slice (some ⟨W.heap.size, 0, none⟩) 0 0) (W.alloc (.cells #[] 53)) :=
  ⟨[], World.ownsRow_made W #[] 0 (Nat.le_refl _) (by simp [maxLen]) rfl, fun i hi => by omega, (Below.refl _ _).alloc (Nat.le_refl _) _⟩
theorem bRel_end {B : Nat} {W w' : World} {xs : List J} {v : Value} (h : BRel B W xs xs.length v w') : BldL B W true xs (.returned (.tuple #[v, .bool true])) w' := by
  obtain ⟨vals, ho, hd, hb⟩ := h
  have hsl : ∃ a l c, v = .slice a l c := by
    rcases ho.2 with ⟨rfl, _⟩ | ⟨g, cap, cur, rfl, _⟩ <;> exact ⟨_, _, _, rfl⟩
  refine ⟨v, rfl, fun _ => ?_, hb, hsl⟩
  obtain ⟨hl, ho⟩ := ho
  have hnl := normL_length xs
  have hget : ∀ i, i < xs.length → (normL xs).getD i default = normJ (xs.getD i default) := fun i hi => by rw [normL_map]; simp [hi]
  rcases ho with ⟨rfl, h0⟩ | ⟨g, cap, cur, rfl, hg, hblk, hcap, hmc, hcs, htk⟩
  · refine ⟨none, 0, 0, 0, fun i => vals.getD i undef, by rw [hnl, h0], by omega, by omega, fun hp => by omega, fun i hi => by omega, fun i hi => by omega⟩
  · refine ⟨some ⟨g, 0, none⟩, cap, g, 0, fun i => vals.getD i undef, by rw [hnl], by rw [hnl]; exact hcap, hmc, fun hp => ⟨rfl, .inr ⟨hg, ?_⟩⟩, fun i hi => ?_, fun i hi => ?_⟩
    · rcases Nat.lt_or_ge g w'.heap.size with h' | h'
      · exact h'
      · simp [Array.getElem?_eq_none h'] at hblk
    · rw [hnl] at hi
      rw [Nat.zero_add, cell_of_row w' g i _ _ _ hblk]
      have hi2 : i < cur.size := by omega
      have e1 : cur.toList.take (xs.length * 1) = vals := htk
      have hv : vals.getD i undef = cur.toList[i]'(by simpa using hi2) := by rw [← e1]; simp [List.getD, hi, hi2]
      simp only [hv]
      simp [hi2]
    · rw [hnl] at hi
      rw [hget i hi]
      exact (hd i hi).mono' fun b hb => hb.1
/-- one round: the next value has been built (wx to w2) and appended (w2 to w4) -/
theorem bRel_step {B : Nat} {W wr wx w2 w4 : World} {xs : List J} {k : Nat} {l v l' : Value} {vals : List Value} {o : Obj} (hB : B ≤ W.heap.size) (ho : wr.ownsRow W.heap.size 53 1 l k vals)
    (hd : ∀ i, i < k → VIn (fun b => Sb B W wr b ∧ l.ownBlock ≠ some b) wr (vals.getD i undef) (normJ (xs.getD i default))) (hN : Below W.heap.size W wr)
    (hwx : Below wr.heap.size wr wx) (hb2 : Below wx.heap.size wx w2) (hv : VIn (Sb B wx w2) w2 v (normJ (xs.getD k default)))
    (h4 : w4.ownsRow W.heap.size 53 1 l' (k + 1) (vals ++ [v])) (hg : (w2.alloc o).grownBy w4 l.ownBlock) (hp : l'.ownBlock = l.ownBlock ∨ l'.ownBlock = some (w2.alloc o).heap.size) : BRel B W xs (k + 1) l' w4 := by
  have s1 := hwx.size
  have s2 := hb2.size
  have s0 := hN.size
  have s4 := hg.size
  have hlen : vals.length = k := by have := ho.1; omega
  have e2 : (w2.alloc o).heap.size = w2.heap.size + 1 := by simp
  have hlt := ho.lt
  -- an old block that is not the row's is as it was
  have keep : ∀ b, b < w2.heap.size → l.ownBlock ≠ some b → w4.heap[b]? = w2.heap[b]? := fun b hb hne => by
    rw [hg.block b (by omega) (fun e => hne e.symm), heap_alloc_old _ _ hb]
  have hne' : ∀ b, b < w2.heap.size → l.ownBlock ≠ some b → l'.ownBlock ≠ some b := fun b hb hne e => by
    rcases hp with h | h
    · exact hne (h ▸ e)
    · rw [h] at e; simp at e; omega
  refine ⟨vals ++ [v], h4, fun i hi => ?_, ?_⟩
  · by_cases hik : i < k
    · have e : (vals ++ [v]).getD i undef = vals.getD i undef := by simp [List.getD, List.getElem?_append_left (show i < vals.length by omega)]
      rw [e]
      refine (hd i hik).same fun b ⟨hS, hne⟩ => ?_
      have hbw : b < wr.heap.size := by rcases hS with h | h <;> omega
      refine ⟨⟨?_, hne' b (by omega) hne⟩, ?_⟩
      · rcases hS with h | h
        · exact .inl h
        · exact .inr ⟨h.1, by omega⟩
      · rw [keep b (by omega) hne, hb2.block b (by omega), hwx.block b hbw]
    · obtain rfl : i = k := by omega
      have e : (vals ++ [v]).getD i undef = v := by subst hlen; simp [List.getD]
      rw [e]
      refine hv.same fun b hS => ?_
      have hne : l.ownBlock ≠ some b := fun e => by
        have := hlt b e
        rcases hS with h | h <;> omega
      have hbw : b < w2.heap.size := by rcases hS with h | h <;> omega
      refine ⟨⟨?_, hne' b hbw hne⟩, keep b hbw hne⟩
      rcases hS with h | h
      · exact .inl h
      · exact .inr ⟨by omega, by omega⟩
  · have hbW : Below W.heap.size W w2 := (hN.trans (hwx.mono s0)).trans (hb2.mono (by omega))
    exact (hbW.alloc (by omega) o).grown hg (by omega) (fun b e => (hlt b e).1)
theorem bldL_get {xs : List J} (d k : Nat) (hx : k < xs.length) : bldL (xs.drop k) d = (bldJ (xs.getD k default) d && bldL (xs.drop (k + 1)) d) := by
  rw [List.drop_eq_getElem_cons hx]; simp [bldL, hx]
set_option maxRecDepth 100000 in
set_option maxHeartbeats 4000000 in
theorem bldL_of (B : Nat) (w0 : World) (m : Nat) (hm5 : m ≤ 5) (xs : List J) (v : Value) (h1 : LIn (· < B) w0 v xs)
    (ih : ∀ i, i < xs.length → ∀ (nv iv : Value), JIn (· < B) w0 (xs.getD i default) nv iv → ∀ (W : World), 1 ≤ m → Below B w0 W → B ≤ W.heap.size →
      Calls Try.prog 39 #[jV (xs.getD i default) nv iv, .int .i64 (m : Int)] W (BldPost B W (bldJ (xs.getD i default) m) (xs.getD i default)))
    (W : World) (hb : Below B w0 W) (hB : B ≤ W.heap.size) :
    Calls Try.prog 45 #[v, .int .i64 (m : Int)] W (BldL B W (decide (1 ≤ m) && decide (xs.length ≤ 12) && bldL xs m) xs) := by
  obtain ⟨a, cap, b, off, vn, vi, rfl, hcap, hm, ha, hc, hdp⟩ := h1
  have hn : xs.length ≤ 9223372036854775807 := by omega
  have HC := Lib.hid hc
  have HA := Lib.hid ha
  have HD := Lib.hid hdp
  have HI := Lib.hid ih
  have HB := Lib.hid hb
  clear hc ha hdp ih hb
  obtain ⟨i0, hi, hz0, hz1, hz2⟩ := info_parts Try.infoI
  by_cases h1 : 1 ≤ m
  · have g1 : decide ((m : Int) < 1) = false := by simp; omega
    by_cases h12 : xs.length ≤ 12
    · have g2 : decide (12 < (xs.length : Int)) = false := by simp; omega
      rw [show (decide (1 ≤ m) && decide (xs.length ≤ 12) && bldL xs m) = bldL xs m by simp [h1, h12]]
      go_enter Try.func45, Try.ntmps45
      go_wp2_with fail
      have HST := Lib.hid (bRel_start B W xs)
      go_loopw [6, 21] (fun l i wr => ∃ k : Nat, k ≤ xs.length ∧ i = .int .i64 k ∧ bldL xs m = bldL (xs.drop k) m ∧ BRel B W xs k l wr) (fun _ i _ => xs.length - (intOf i).toNat)
      case atStart => exact ⟨0, by omega, rfl, rfl, HST.out⟩
      case round =>
        obtain ⟨k, hk, rfl, hE, hR⟩ := hrel
        have HE := Lib.hid hE
        clear hE
        by_cases hlt : k < xs.length
        · obtain ⟨ea, hlb⟩ := HA.out (by omega)
          subst ea
          obtain ⟨vals, hown, hch, hRB⟩ := hR
          have HO := Lib.hid hown
          have HCH := Lib.hid hch
          have HRB := Lib.hid hRB
          clear hown hch
          have hW := HB.out.trans (hRB.mono hB)
          have hWB : B ≤ wr.heap.size := Nat.le_trans hB hRB.size
          obtain ⟨c0, c1, c2, c3, c4⟩ := HC.out k hlt
          have q0 := (hW.cell (p := ⟨b, off + k * 5, none⟩) hlb).trans c0
          have q1 := (hW.cell (p := ⟨b, off + k * 5 + 1, none⟩) hlb).trans c1
          have q2 := (hW.cell (p := ⟨b, off + k * 5 + 2, none⟩) hlb).trans c2
          have q3 := (hW.cell (p := ⟨b, off + k * 5 + 3, none⟩) hlb).trans c3
          have q4 := (hW.cell (p := ⟨b, off + k * 5 + 4, none⟩) hlb).trans c4
          have D := Lib.hid (bldL_get m k hlt)
          have HK := Lib.hid (fun (wx : World) (hx : Below W.heap.size W wx) => HI.out k hlt _ _ (HD.out k hlt) wx h1 (HB.out.trans (hx.mono hB)) (Nat.le_trans hB hx.size))
          obtain ⟨⟨an, ln, cn, en⟩, ⟨ai, li, ci, ei⟩⟩ := (HD.out k hlt).slices
          rw [en] at q3 HK
          rw [ei] at q4 HK
          clear c0 c1 c2 c3 c4 hW en ei
          generalize hx : xs.getD k default = x at *
          have HX := Lib.hid hx
          obtain ⟨s, hs⟩ : ∃ s, bldJ x m = s := ⟨_, rfl⟩
          rw [hs] at D HK
          clear hs hx
          have hBz : ∀ o : Array Value, Below W.heap.size W (wr.alloc (.cells o 36)) := fun o => hRB.alloc hRB.size _
          have HBz := Lib.hid hBz
          clear hBz hRB
          go_wp2_with fail
          refine (HK.out _ (HBz.out _)).mono ?_
          rintro e w2 ⟨v, rfl, hv, hb2⟩
          cases s with
          | false =>
            have HF := Lib.hid ((HBz.out _).trans (hb2.mono (HBz.out _).size))
            clear hv hb2
            go_wp2
            go_ret2
            rw [show bldL xs m = false by rw [HE.out, D.out]; rfl]
            exact bldL_no HF.out
          | true =>
            obtain ⟨vt, vu, rfl⟩ := (hv rfl).iface
            have HV := Lib.hid (hv rfl)
            have HB2 := Lib.hid hb2
            have hkeep : w2.ownsRow W.heap.size 53 1 u6 k vals :=
              HO.out.kept (row := none) ⟨hb2.os, hb2.tape, hb2.output, Nat.le_trans (by simp) hb2.size, fun b hb _ => by rw [hb2.block b (by simp; omega)]; exact heap_alloc_old _ _ hb⟩ (by rcases Classical.em (u6.ownBlock = none) with h | h; exact .inl h; exact .inr h)
            have HO2 := Lib.hid hkeep
            have hWw : W.heap.size ≤ w2.heap.size := Nat.le_trans HRB.out.size (Nat.le_trans (by simp) hb2.size)
            have C2 := HV.out.one
            clear hv hb2 hkeep
            go_wp2_with (at_builtin; refine App.wpList_app _ rfl _ _ 57 rfl W.heap.size 53 i0 .nilIface 1 16 Try.underlying57 hi hz0 hz1 hz2 rfl (by decide) _ _ _ rfl (HO2.out.alloc _) ⟨w2.heap.size, 0, none⟩ 1 1 [.iface vt vu] rfl (by decide) rfl (cell_one_new _ _ _) C2 (by omega) (by omega) (by simp; omega) ?_; intro l' w4 hown' hgrow hplace)
            go_roundw
            case rel => exact ⟨k + 1, by omega, by go_num, by rw [HE.out, D.out, Bool.true_and], bRel_step hB HO.out HCH.out HRB.out ((Below.refl _ _).alloc (Nat.le_refl _) _) HB2.out (by rw [HX.out]; exact HV.out) hown' hgrow hplace⟩
            case measure => simp [intOf]; omega
        · obtain rfl : k = xs.length := by omega
          have HF := Lib.hid (bRel_end hR)
          have e1 := Lib.hid (show bldL xs m = true by rw [HE.out, List.drop_length]; rfl)
          clear hR HE
          go_wp2
          go_ret2
          rw [e1.out]
          exact HF.out
    · have g2 : decide (12 < (xs.length : Int)) = true := by simp; omega
      rw [show (decide (1 ≤ m) && decide (xs.length ≤ 12) && bldL xs m) = false by simp [h12]]
      go_enter Try.func45, Try.ntmps45
      go_wp2
      go_ret2
      exact bldL_no (Below.refl _ _)
  · have g1 : decide ((m : Int) < 1) = true := by simp; omega
    rw [show (decide (1 ≤ m) && decide (xs.length ≤ 12) && bldL xs m) = false by simp [h1]]
    go_enter Try.func45, Try.ntmps45
    go_wp2
    go_ret2
    exact bldL_no (Below.refl _ _)
theorem norm2 (n : Int) (t : List UInt8) (ns : List (List UInt8)) (xs : List J) : normJ (.mk 2 n t ns xs) = .mk 2 (if (n == 1) = true then 1 else 0) [] [] [] := by simp [normJ]
theorem sb_alloc {B : Nat} {W w' : World} {o : Obj} {b : Nat} (h : Sb B (W.alloc o) w' b) : Sb B W w' b := by
  rcases h with h | h
  · exact .inl h
  · exact .inr ⟨by have := h.1; simp at this; omega, h.2⟩
theorem belDrew {B : Nat} {a w : World} (h : Below B a w) (n : Nat) : Below B a (w.drewN n) := ⟨h.os, h.tape, h.output, h.size, h.block⟩
set_option maxRecDepth 100000 in
set_option maxHeartbeats 4000000 in
theorem bld_go (B : Nat) (w0 : World) (j : J) : ∀ (d : Nat) (nv iv : Value), 1 ≤ d → d ≤ 5 → JIn (· < B) w0 j nv iv → ∀ (W : World), Below B w0 W → B ≤ W.heap.size →
    Calls Try.prog 39 #[jV j nv iv, .int .i64 (d : Int)] W (BldPost B W (bldJ j d) j) := by
  induction j using J.ind with
  | h k n t ns xs ih =>
    intro d nv iv hd1 hd5 h W hb hB
    obtain ⟨hL, hN, b1, b2, b3⟩ := h.inv
    have HBL := Lib.hid (bldL_of B w0 (d - 1) (by omega) xs iv hL (fun i hi nv iv h' W' h1 hb' hB' => ih _ (by simp [hi]) (d - 1) nv iv h1 (by omega) h' W' hb' hB'))
    have ed : ((d - 1 : Nat) : Int) = (d : Int) - 1 := by omega
    rw [ed] at HBL
    have hw1 : IntKind.i64.wrap ((d : Int) - 1) = (d : Int) - 1 := IntWalk.i64_in _ ⟨by omega, by omega⟩
    obtain ⟨an, ln, cn, rfl⟩ := hN.slice
    obtain ⟨ai, li, ci, rfl⟩ := hL.slice
    have HN := Lib.hid hN
    have HB := Lib.hid hb
    have HW1 := Lib.hid hw1
    clear ih h hL hN hb ed hw1
    show Calls _ _ #[.agg #[.int .i64 k, .int .i64 n, .string ⟨t.toArray⟩, .slice an ln cn, .slice ai li ci], .int .i64 (d : Int)] _ _
    by_cases h1 : k = 1
    · subst h1
      rw [show bldJ (.mk 1 n t ns xs) d = true by simp [bldJ]]
      go_enter Try.func39, Try.ntmps39
      go_wp2
      go_ret2
      exact ⟨_, rfl, fun _ => by simp only [normJ, if_true]; exact .null, (Below.refl _ _).alloc (Nat.le_refl _) _⟩
    by_cases h2 : k = 2
    · subst h2
      rw [show bldJ (.mk 2 n t ns xs) d = true by simp [bldJ]]
      obtain ⟨q, hq⟩ : ∃ q, (n == 1) = q := ⟨_, rfl⟩
      have HQ := Lib.hid hq
      cases q
      all_goals
        go_enter Try.func39, Try.ntmps39
        go_wp2
        go_ret2
        exact ⟨_, rfl, fun _ => by rw [norm2, HQ.out]; exact .bool _, (Below.refl _ _).alloc (Nat.le_refl _) _⟩
    by_cases h3 : k = 3
    · subst h3
      rw [show bldJ (.mk 3 n t ns xs) d = decide (-999999999 ≤ n ∧ n ≤ 999999999) by simp [bldJ]]
      have HNU := Lib.hid (fun w => number_any n w)
      generalize decide (-999999999 ≤ n ∧ n ≤ 999999999) = r at *
      go_enter Try.func39, Try.ntmps39
      go_wp2
      go_quiet ((go_at_call 44; exact Calls.quiet_of_same (HNU.out _)))
      go_wp2
      go_ret2
      exact ⟨_, rfl, fun _ => by simp only [normJ]; exact .num n b2, belI_drewN ((Below.refl _ _).alloc (Nat.le_refl _) _) _⟩
    by_cases h4 : k = 4
    · subst h4
      have f4 : decide ((t.length : Int) ≤ 120) = decide (t.length ≤ 120) := by rw [Bool.eq_iff_iff]; simp; omega
      rw [show bldJ (.mk 4 n t ns xs) d = decide (t.length ≤ 120) by simp [bldJ], ← f4]
      clear f4
      obtain ⟨q, hq⟩ : ∃ q, decide ((t.length : Int) ≤ 120) = q := ⟨_, rfl⟩
      rw [hq]
      cases q
      all_goals
        go_enter Try.func39, Try.ntmps39
        go_wp2
        go_quiet (fail)
        go_wp2
        go_ret2
        exact ⟨_, rfl, fun _ => by simp only [normJ]; exact .text t b3, belI_drewN ((Below.refl _ _).alloc (Nat.le_refl _) _) _⟩
    by_cases h5 : k = 5
    · subst h5
      rw [show bldJ (.mk 5 n t ns xs) d = (decide (1 ≤ d - 1) && decide (xs.length ≤ 12) && bldL xs (d - 1)) by simp [bldJ, show (2 ≤ d) = (1 ≤ d - 1) by simp; omega]]
      generalize (decide (1 ≤ d - 1) && decide (xs.length ≤ 12) && bldL xs (d - 1)) = r at *
      have hw1 := HW1.out
      go_enter Try.func39, Try.ntmps39
      go_wp2_with fail
      refine (HBL.out _ (HB.out.alloc hB _) (by simp; omega)).mono ?_
      rintro e w2 ⟨v, rfl, hv, hb2, av, lv, cv, rfl⟩
      have HV := Lib.hid hv
      have HB2 := Lib.hid (((Below.refl W.heap.size W).alloc (Nat.le_refl _) _).trans (hb2.mono (by simp)))
      clear hv hb2
      go_wp2
      go_ret2
      exact ⟨_, rfl, fun hr => by simp only [normJ]; exact ((HV.out hr).same fun b hS => ⟨sb_alloc hS, rfl⟩).value, HB2.out⟩
    by_cases h6 : k = 6
    · subst h6
      rw [show bldJ (.mk 6 n t ns xs) d = ((decide (1 ≤ d - 1) && decide (xs.length ≤ 12) && bldL xs (d - 1)) && ((ns.length == xs.length) && namesB [] ns)) by simp [bldJ, Bool.and_assoc, show (2 ≤ d) = (1 ≤ d - 1) by simp; omega]]
      generalize (decide (1 ≤ d - 1) && decide (xs.length ≤ 12) && bldL xs (d - 1)) = r at *
      have HNA := Lib.hid (fun (w : World) (hw : Below B w0 w) => namesI_any (· < B) ns (.slice an ln cn) xs.length w (HN.out.blw hw))
      generalize ((ns.length == xs.length) && namesB [] ns) = r2 at *
      have hw1 := HW1.out
      cases r with
      | false =>
        go_enter Try.func39, Try.ntmps39
        go_wp2_with fail
        refine (HBL.out _ (HB.out.alloc hB _) (by simp; omega)).mono ?_
        rintro e w2 ⟨v, rfl, hv, hb2, av, lv, cv, rfl⟩
        have m0 := five_cells ((hb2.block _ (by simp)).trans (heap_alloc_new W _))
        obtain ⟨m00, m01, m02, m03, m04, m0f⟩ := m0
        have HB2 := Lib.hid (((Below.refl W.heap.size W).alloc (Nat.le_refl _) _).trans (hb2.mono (by simp)))
        clear hv hb2
        go_wp2
        go_quiet (fail)
        go_wp2
        go_ret2
        exact bld_no (belI_drewN HB2.out _)
      | true =>
        go_enter Try.func39, Try.ntmps39
        go_wp2_with fail
        refine (HBL.out _ (HB.out.alloc hB _) (by simp; omega)).mono ?_
        rintro e w2 ⟨v, rfl, hv, hb2, av, lv, cv, rfl⟩
        have m0 := five_cells ((hb2.block _ (by simp)).trans (heap_alloc_new W _))
        obtain ⟨m00, m01, m02, m03, m04, m0f⟩ := m0
        have hbw := ((Below.refl W.heap.size W).alloc (Nat.le_refl _) (.cells #[.int .i64 6, .int .i64 n, .string ⟨t.toArray⟩, .slice an ln cn, .slice ai li ci] 36)).trans (hb2.mono (by simp))
        have hv2 := hv rfl
        obtain rfl : lv = xs.length := by
          obtain ⟨_, _, _, _, _, e, _⟩ := hv2
          have := normL_length xs
          simp at e
          omega
        have HNB := Lib.hid (fun n => HNA.out (w2.drewN n) (belDrew (HB.out.trans (hbw.mono hB)) n))
        have HFIN := Lib.hid (fun n => VLn.object (hv2.same fun b hS => ⟨sb_alloc hS, (rfl : (w2.drewN n).heap[b]? = w2.heap[b]?)⟩) ((HN.out.blw (HB.out.trans (hbw.mono hB))).same fun b hlt => ⟨Or.inl hlt, (rfl : (w2.drewN n).heap[b]? = w2.heap[b]?)⟩))
        have HB2 := Lib.hid hbw
        clear hv hb2 hbw hv2
        go_wp2
        go_quiet ((go_at_call 46; exact Calls.quiet_of (HNB.out _)))
        go_wp2
        go_ret2
        exact ⟨_, rfl, fun _ => by simp only [normJ]; exact HFIN.out _, belDrew HB2.out _⟩
    · rw [show bldJ (.mk k n t ns xs) d = false by simp [bldJ, h1, h2, h3, h4, h5, h6]]
      have k1 : (k == 1) = false := by simp; omega
      have k2 : (k == 2) = false := by simp; omega
      have k3 : (k == 3) = false := by simp; omega
      have k4 : (k == 4) = false := by simp; omega
      have k5 : (k == 5) = false := by simp; omega
      have k6 : (k == 6) = false := by simp; omega
      clear h1 h2 h3 h4 h5 h6
      go_enter Try.func39, Try.ntmps39
      go_wp2
      go_ret2
      exact bld_no ((Below.refl _ _).alloc (Nat.le_refl _) _)
end Go.Proofs.Ytniflfgnelfpbaa.Js
