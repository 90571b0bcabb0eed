
/-
  QueueOK, the model's and the program's, walked; the law FnExactQueueOK.
-/
import Derived.Test.YtmaknkbmilcanaaGreatDoorQuB
namespace Go.Proofs.YtmaknkbmilcanaaGreatDoor.Qu
open Go.RowKit
open Go.Proofs.YtmaknkbmilcanaaGreatDoor.Tx
open Go.Proofs.YtmaknkbmilcanaaGreatDoor.Ext (up up_below up_mk wp_region_ext call_ext call_ext_same)
@[local go_sem] theorem up_cellC (w : World) (y : Ext.Ext w) (b o : Nat) (h : b < w.heap.size) : (up w y).cell? ⟨b, o, none⟩ = w.cell? ⟨b, o, none⟩ := Ext.up_cell w y b o h
theorem past (w : World) (o : Obj) (b n : Nat) (h : b < w.heap.size) : (w.alloc o).cell? ⟨b, n, none⟩ = w.cell? ⟨b, n, none⟩ := World.cell?_alloc_past _ _ _ h
/-- may r be the next one behind these? -/
def folB (xs : List Rep) (r : Rep) : Bool := decide (xs.length = 0) || (decide ((xs.getD (xs.length - 1) default).id < r.id) && decide ((xs.getD (xs.length - 1) default).born ≤ r.born))
def itB : List Rep → List Rep → Bool
  | _, [] => true
  | pre, x :: xs => (repB x && folB pre x) && itB (pre ++ [x]) xs
def bodB (t : List UInt8) : Bool := decide ((1 : Int) ≤ t.length ∧ (t.length : Int) ≤ 8000)
def rcB : List (List UInt8) → List (List UInt8) → Bool
  | _, [] => true
  | pre, x :: xs => (bodB x && !pre.contains x) && rcB (pre ++ [x]) xs
def quB (q : Q) : Bool := decide (q.items.length ≤ 5) && (decide (q.recent.length ≤ 6) && (itB [] q.items && rcB [] q.recent))
theorem itB_drop {xs : List Rep} (k : Nat) (hx : k < xs.length) : itB (xs.take k) (xs.drop k) = ((repB (xs.getD k default) && folB (xs.take k) (xs.getD k default)) && itB (xs.take (k + 1)) (xs.drop (k + 1))) := by
  rw [List.drop_eq_getElem_cons hx, itB]
  have e : xs.take k ++ [xs[k]] = xs.take (k + 1) := by rw [List.take_add_one, List.getElem?_eq_getElem hx]; rfl
  rw [e]
  simp [hx]
theorem rcB_drop {xs : List (List UInt8)} (k : Nat) (hx : k < xs.length) : rcB (xs.take k) (xs.drop k) = ((bodB (xs.getD k []) && !(xs.take k).contains (xs.getD k [])) && rcB (xs.take (k + 1)) (xs.drop (k + 1))) := by
  rw [List.drop_eq_getElem_cons hx, rcB]
  have e : xs.take k ++ [xs[k]] = xs.take (k + 1) := by rw [List.take_add_one, List.getElem?_eq_getElem hx]; rfl
  rw [e]
  simp [hx]
theorem fol_zero (r : Rep) : folB [] r = true := rfl
theorem fol_take {xs : List Rep} {k p : Nat} (hk : k ≤ xs.length) (hp : k = p + 1) (r : Rep) : folB (xs.take k) r = (decide ((xs.getD p default).id < r.id) && decide ((xs.getD p default).born ≤ r.born)) := by
  have hl : (xs.take k).length = p + 1 := by simp; omega
  have hg : (xs.take k).getD p default = xs.getD p default := by simp [List.getD, show p < k by omega]
  unfold folB
  rw [hl, show p + 1 - 1 = p by omega, hg]
  simp
theorem RpIn.take {S : Nat → Prop} {w : World} {a : Option Addr} {n cap : Nat} {xs : List Rep} (h : RpIn S w (.slice a n cap) xs) (k : Nat) (hk : k ≤ xs.length) : RpIn S w (.slice a k cap) (xs.take k) := by
  obtain ⟨a', cap', b, off, e, h1, h2, h3, h4, h5⟩ := h
  obtain ⟨rfl, rfl, rfl⟩ := by simpa using e
  have hl : (xs.take k).length = k := by simp; omega
  have hg : ∀ i, i < k → (xs.take k).getD i default = xs.getD i default := fun i hi => by simp [List.getD, hi]
  refine ⟨a, cap, b, off, by rw [hl], by omega, h2, ?_, ?_, ?_⟩
  · rw [hl]; intro i hi; rw [hg i hi]; exact h3 i (by omega)
  · rw [hl]; intro hp; exact h4 (by omega)
  · rw [hl]; intro i hi; rw [hg i hi]; exact h5 i (by omega)
set_option maxRecDepth 100000 in
set_option maxHeartbeats 1000000 in
theorem follows_any (S : Nat → Prop) (xs : List Rep) (r : Rep) (v : Value) (w : World) (h : RpIn S w v xs) (hS : ∀ b, S b → b < w.heap.size) :
    Calls Tryz.prog 285 #[v, rV r] w fun e w' => e = .returned (.bool (folB xs r)) ∧ Below w.heap.size w w' := by
  obtain ⟨a, cap, b, off, rfl, hcap, hm, -, ha, hc⟩ := h
  have hB1 := (Below.refl w.heap.size w).alloc (Nat.le_refl _) (.cells (rC r) 134)
  by_cases h0 : xs.length = 0
  · have E := Lib.hid (show folB xs r = true by unfold folB; rw [decide_eq_true h0]; rfl)
    have HB1 := Lib.hid hB1
    clear hc ha hB1
    obtain ⟨i, bo, n, t⟩ := r
    rw [h0]
    go_enter Tryz.func285, Tryz.ntmps285
    go_wp2
    go_ret
    exact ⟨ret_b (by rw [E.out]), HB1.out⟩
  · obtain ⟨p, hp⟩ : ∃ p, xs.length = p + 1 := ⟨xs.length - 1, by omega⟩
    obtain ⟨rfl, hSb⟩ := ha (by omega)
    have hlb := hS b hSb
    obtain ⟨c0, c1, c2, c3⟩ := hc p (by omega)
    have E := Lib.hid (show folB xs r = (decide ((xs.getD p default).id < r.id) && decide ((xs.getD p default).born ≤ r.born)) by
      unfold folB; rw [decide_eq_false h0, hp, show p + 1 - 1 = p by omega]; rfl)
    rw [hp] at hcap ⊢
    generalize xs.getD p default = y at *
    have q0 := (past w (.cells (rC r) 134) b (off + p * 4) hlb).trans c0
    have q1 := (past w (.cells (rC r) 134) b (off + p * 4 + 1) hlb).trans c1
    have q2 := (past w (.cells (rC r) 134) b (off + p * 4 + 2) hlb).trans c2
    have q3 := (past w (.cells (rC r) 134) b (off + p * 4 + 3) hlb).trans c3
    have HB1 := Lib.hid (hB1.alloc (by simp) (.cells (rC y) 134))
    clear hc ha hB1 c0 c1 c2 c3 h0 hp
    have e1 : ((p : Int) + 1) - 1 = (p : Int) := by omega
    by_cases h1 : y.id < r.id
    · by_cases h2 : y.born ≤ r.born
      · have F := Lib.hid (show folB xs r = true by rw [E.out, decide_eq_true h1, decide_eq_true h2]; rfl)
        clear E
        obtain ⟨i, bo, n, t⟩ := r
        go_enter Tryz.func285, Tryz.ntmps285
        go_wp2
        go_ret
        exact ⟨ret_b (by rw [F.out]), HB1.out⟩
      · have F := Lib.hid (show folB xs r = false by rw [E.out, decide_eq_false h2, Bool.and_false])
        clear E
        obtain ⟨i, bo, n, t⟩ := r
        go_enter Tryz.func285, Tryz.ntmps285
        go_wp2
        go_ret
        exact ⟨ret_b (by rw [F.out]), HB1.out⟩
    · have F := Lib.hid (show folB xs r = false by rw [E.out, decide_eq_false h1, Bool.false_and])
      clear E
      obtain ⟨i, bo, n, t⟩ := r
      go_enter Tryz.func285, Tryz.ntmps285
      go_wp2
      go_ret
      exact ⟨ret_b (by rw [F.out]), HB1.out⟩
set_option maxRecDepth 100000 in
set_option maxHeartbeats 4000000 in
theorem itemsI_any (B : Nat) (w0 : World) (xs : List Rep) (v : Value) (h : RpIn (· < B) w0 v xs) (w : World) (hb : Below B w0 w) (hB : B ≤ w.heap.size) :
    Calls Tryz.prog 298 #[v] w fun e w' => e = .returned (.bool (itB [] xs)) ∧ Below w.heap.size w w' := by
  have HTK := Lib.hid h
  obtain ⟨a, cap, b, off, rfl, hcap, hm, hlen, ha, hc⟩ := h
  have hn : xs.length ≤ 9223372036854775807 := by omega
  have HC := Lib.hid hc
  have HA := Lib.hid ha
  have HB := Lib.hid hb
  have HL := Lib.hid hlen
  clear hc ha hlen hb
  go_enter Tryz.func298, Tryz.ntmps298
  go_wp2
  go_loopw [7] (fun i wr => ∃ k : Nat, k ≤ xs.length ∧ i = .int .i64 k ∧ itB [] xs = itB (xs.take k) (xs.drop k) ∧ Below w.heap.size w wr) (fun i _ => xs.length - (intOf i).toNat)
  case atStart => exact ⟨0, by omega, rfl, rfl, Below.refl _ _⟩
  case round =>
    obtain ⟨k, hk, rfl, hE, hR⟩ := hrel
    have HE := Lib.hid hE
    clear hE
    by_cases hlt : k < xs.length
    · obtain ⟨ea, hlb⟩ := HA.out (by omega)
      subst ea
      have hW := HB.out.trans (hR.mono hB)
      have z1 : w.heap.size ≤ wr.heap.size := hR.size
      obtain ⟨c0, c1, c2, c3⟩ := HC.out k hlt
      have q0 := (hW.cell (p := ⟨b, off + k * 4, none⟩) hlb).trans c0
      have q1 := (hW.cell (p := ⟨b, off + k * 4 + 1, none⟩) hlb).trans c1
      have q2 := (hW.cell (p := ⟨b, off + k * 4 + 2, none⟩) hlb).trans c2
      have q3 := (hW.cell (p := ⟨b, off + k * 4 + 3, none⟩) hlb).trans c3
      have TD := Lib.hid (itB_drop k hlt)
      have TK := Lib.hid (HTK.out.take k hk)
      have HO := Lib.hid (fun W => repI_any (xs.getD k default) (HL.out k hlt) W)
      have HR := Lib.hid hR
      have hk2 : (k : Int) ≤ (cap : Int) := by omega
      clear c0 c1 c2 c3 hW hR
      generalize xs.getD k default = x at *
      have HH := Lib.hid (fun (W : World) (h1 : Below B w0 W) (h2 : B ≤ W.heap.size) => follows_any (· < B) (xs.take k) x _ W (TK.out.blw h1) (fun b hb => Nat.lt_of_lt_of_le hb h2))
      generalize folB (xs.take k) x = c at *
      generalize repB x = tb at *
      go_wp2_with fail
      have D0 := Lib.hid (HR.out.alloc z1 (.cells (rC x) 134))
      obtain ⟨m0, m1, m2, m3, mf⟩ := (Hd.new wr (.cells (rC x) 134)).four
      have hz : wr.heap.size < (wr.alloc (.cells (rC x) 134)).heap.size := by simp
      clear q0 q1 q2 q3 HR mf
      simp only [rC] at m0 m1 m2 m3 hz D0
      generalize wr.alloc (.cells #[.int .i64 x.id, .int .i64 x.born, .int .i64 x.tries, .string ⟨x.body.toArray⟩] 134) = w1 at *
      have zB : B ≤ w1.heap.size := by omega
      have DB := Lib.hid (HB.out.trans (D0.out.mono hB))
      cases tb <;> cases c
      all_goals
        refine wp_region_ext (by kernel_rfl) (by kernel_rfl) ?_
        repeat (go_big_quiet_step ((first
          | (go_at_call 339; refine call_ext (v := .bool true) ?_; with_reducible exact HO.out _)
          | (go_at_call 339; refine call_ext (v := .bool false) ?_; with_reducible exact HO.out _)
          | (go_at_call 285; refine call_ext (v := .bool true) ?_; with_reducible exact HH.out _ (DB.out.trans ((up_below _ _).mono zB)) (Nat.le_trans zB (up_below _ _).size))
          | (go_at_call 285; refine call_ext (v := .bool false) ?_; with_reducible exact HH.out _ (DB.out.trans ((up_below _ _).mono zB)) (Nat.le_trans zB (up_below _ _).size)))))
        refine wpQuiet_nil ?_
        intro _ hw'
        obtain ⟨y8, rfl⟩ := hw'
        have hv8 := up_below _ y8
        generalize up _ y8 = v8 at *
        have D8 := Lib.hid (belI_step D0.out hv8)
        clear hv8 m0 m1 m2 m3
      · go_wp2
        go_ret
        exact ⟨ret_b (by rw [HE.out, TD.out]; rfl), D8.out⟩
      · go_wp2
        go_ret
        exact ⟨ret_b (by rw [HE.out, TD.out]; rfl), D8.out⟩
      · go_wp2
        go_ret
        exact ⟨ret_b (by rw [HE.out, TD.out]; rfl), D8.out⟩
      · go_wp2
        go_roundw
        case rel => exact ⟨k + 1, by omega, by go_num, by rw [HE.out, TD.out]; rfl, D8.out⟩
        case measure => simp [intOf]; omega
    · go_wp2
      go_ret
      obtain rfl : k = xs.length := by omega
      exact ⟨ret_b (by rw [HE.out, List.drop_length]; rfl), hR⟩
set_option maxRecDepth 100000 in
set_option maxHeartbeats 1000000 in
theorem idxI_any (S : Nat → Prop) (ns : List (List UInt8)) (t : List UInt8) (v : Value) (w : World) (h1 : TxtsIn S w v ns) :
    Calls Tryz.prog 355 #[v, .string ⟨t.toArray⟩] w fun e w' => (∃ i : Int, e = .returned (.int .i64 i) ∧ decide (0 ≤ i) = ns.contains t) ∧ w = w' := by
  obtain ⟨a, cap, b, off, rfl, hcap, hm, hlen, ha, hc⟩ := h1
  have hn : ns.length ≤ 9223372036854775807 := by omega
  have HC := Lib.hid hc
  have HA := Lib.hid ha
  clear hc ha hlen
  obtain ⟨r, hr⟩ : ∃ r, ns.contains t = r := ⟨_, rfl⟩
  have HRR := Lib.hid hr
  rw [hr]
  clear hr
  go_enter Tryz.func355, Tryz.ntmps355
  go_wp2
  go_loop [8] (fun i => ∃ k : Nat, k ≤ ns.length ∧ i = .int .i64 k ∧ r = (ns.drop k).contains t) (fun i => ns.length - (intOf i).toNat)
  case atStart => exact ⟨0, by omega, rfl, HRR.out.symm⟩
  case round =>
    obtain ⟨k, hk, rfl, hE⟩ := hrel
    have HE := Lib.hid hE
    clear hE
    by_cases hlt : k < ns.length
    · obtain ⟨ea, _⟩ := HA.out (by omega)
      subst ea
      have q0 := HC.out k hlt
      have D := Lib.hid (has_drop (t := t) k hlt)
      generalize ns.getD k [] = x at *
      by_cases ht : (x == t) = true
      · have D2 := Lib.hid (D.out.trans (by rw [ht, Bool.true_or]))
        obtain rfl : x = t := by simpa using ht
        clear ht
        go_wp2
        go_ret
        exact ⟨⟨_, rfl, by rw [HE.out, D2.out]; simp⟩, rfl⟩
      · have ht : (x == t) = false := by simpa using ht
        have ht2 : (t == x) = false := by rw [Bool.beq_comm]; exact ht
        have D2 := Lib.hid (D.out.trans (by rw [ht, Bool.false_or]))
        go_wp2
        go_round
        case rel => exact ⟨k + 1, by omega, by go_num, by rw [HE.out, D2.out]⟩
        case measure => simp [intOf]; omega
    · go_wp2
      go_ret
      obtain rfl : k = ns.length := by omega
      exact ⟨⟨_, rfl, by rw [HE.out, List.drop_length]; rfl⟩, rfl⟩
theorem hasI_any (S : Nat → Prop) (ns : List (List UInt8)) (t : List UInt8) (v : Value) (w : World) (h1 : TxtsIn S w v ns) :
    Calls Tryz.prog 341 #[v, .string ⟨t.toArray⟩] w fun e w' => e = .returned (.bool (ns.contains t)) ∧ w = w' := by
  have HI := Lib.hid (idxI_any S ns t v w h1)
  obtain ⟨a, l, c, rfl⟩ := h1.slice
  clear h1
  go_enter Tryz.func341, Tryz.ntmps341
  go_wp2_with fail
  refine HI.out.mono ?_
  rintro e w1 ⟨⟨i, rfl, hi⟩, rfl⟩
  have H := Lib.hid hi
  clear hi
  by_cases h0 : 0 ≤ i
  all_goals
    go_wp2
    go_ret
    exact ⟨ret_b (by rw [← H.out]; try (simp; omega)), rfl⟩
set_option maxRecDepth 100000 in
set_option maxHeartbeats 1000000 in
theorem recentI_any (S : Nat → Prop) (ns : List (List UInt8)) (v : Value) (w : World) (h : TxtsIn S w v ns) :
    Calls Tryz.prog 299 #[v] w fun e w' => e = .returned (.bool (rcB [] ns)) ∧ w = w' := by
  have HTK := Lib.hid h
  obtain ⟨a, cap, b, off, rfl, hcap, hm, hlen, ha, hc⟩ := h
  have hn : ns.length ≤ 9223372036854775807 := by omega
  have HC := Lib.hid hc
  have HA := Lib.hid ha
  have HL := Lib.hid hlen
  clear hc ha hlen
  obtain ⟨r, hr⟩ : ∃ r, rcB [] ns = r := ⟨_, rfl⟩
  have HRR := Lib.hid hr
  rw [hr]
  clear hr
  go_enter Tryz.func299, Tryz.ntmps299
  go_wp2
  go_loop [7] (fun i => ∃ k : Nat, k ≤ ns.length ∧ i = .int .i64 k ∧ r = rcB (ns.take k) (ns.drop k)) (fun i => ns.length - (intOf i).toNat)
  case atStart => exact ⟨0, by omega, rfl, HRR.out.symm⟩
  case round =>
    obtain ⟨k, hk, rfl, hE⟩ := hrel
    have HE := Lib.hid hE
    clear hE
    by_cases hlt : k < ns.length
    · obtain ⟨ea, _⟩ := HA.out (by omega)
      subst ea
      have q0 := HC.out k hlt
      have TD := Lib.hid (rcB_drop k hlt)
      have HO := Lib.hid (fun W => bodyI_any (ns.getD k []) W (HL.out k hlt))
      have HH := Lib.hid (hasI_any S (ns.take k) (ns.getD k []) _ w (HTK.out.take k hk))
      have hk2 : (k : Int) ≤ (cap : Int) := by omega
      have EB : bodB (ns.getD k []) = decide ((1 : Int) ≤ (ns.getD k []).length ∧ ((ns.getD k []).length : Int) ≤ 8000) := rfl
      rw [EB] at TD
      clear EB
      generalize ns.getD k [] = x at *
      generalize (ns.take k).contains x = c at *
      generalize decide ((1 : Int) ≤ x.length ∧ (x.length : Int) ≤ 8000) = tb at *
      cases tb with
      | false =>
        go_wp2_with fail
        refine (HO.out _).mono ?_
        rintro e w1 ⟨rfl, rfl⟩
        go_wp2
        go_ret
        exact ⟨ret_b (by rw [HE.out, TD.out]; rfl), rfl⟩
      | true =>
        cases c with
        | true =>
          go_wp2_with fail
          refine (HO.out _).mono ?_
          rintro e w1 ⟨rfl, rfl⟩
          go_wp2_with fail
          refine HH.out.mono ?_
          rintro e w1 ⟨rfl, rfl⟩
          go_wp2
          go_ret
          exact ⟨ret_b (by rw [HE.out, TD.out]; rfl), rfl⟩
        | false =>
          go_wp2_with fail
          refine (HO.out _).mono ?_
          rintro e w1 ⟨rfl, rfl⟩
          go_wp2_with fail
          refine HH.out.mono ?_
          rintro e w1 ⟨rfl, rfl⟩
          go_wp2
          go_round
          case rel => exact ⟨k + 1, by omega, by go_num, by rw [HE.out, TD.out]; rfl⟩
          case measure => simp [intOf]; omega
    · go_wp2
      go_ret
      obtain rfl : k = ns.length := by omega
      exact ⟨ret_b (by rw [HE.out, List.drop_length]; rfl), rfl⟩
set_option maxRecDepth 100000 in
set_option maxHeartbeats 1000000 in
theorem quI_any (B : Nat) (w0 : World) (q : Q) (iv rv : Value) (hi : RpIn (· < B) w0 iv q.items) (hr : TxtsIn (· < B) w0 rv q.recent) (W : World) (hb : Below B w0 W) (hB : B ≤ W.heap.size) :
    Calls Tryz.prog 233 #[qV iv rv] W fun e w' => e = .returned (.bool (quB q)) ∧ Below W.heap.size W w' := by
  obtain ⟨xs, us⟩ := q
  simp only at hi hr
  have HI := Lib.hid (fun W h1 h2 => itemsI_any B w0 xs iv hi W h1 h2)
  have HR := Lib.hid (fun W (h1 : Below B w0 W) => recentI_any (· < B) us rv W (hr.blw h1))
  obtain ⟨a1, c1, rfl⟩ := hi.slice2
  obtain ⟨a2, cap2, b2, o2, rfl, hcap2, hm2, -⟩ := hr
  have hl1 : xs.length ≤ 9223372036854775807 := by obtain ⟨_, cap, _, _, _, h1, h2, _⟩ := hi; omega
  have HB := Lib.hid hb
  have BF := Lib.hid ((Below.refl W.heap.size W).alloc (Nat.le_refl _) (.cells #[.slice a1 xs.length c1, .slice a2 us.length cap2] 130))
  have HK := Lib.hid (Hd.new W (.cells #[.slice a1 xs.length c1, .slice a2 us.length cap2] 130))
  have E : quB ⟨xs, us⟩ = (decide (xs.length ≤ 5) && (decide (us.length ≤ 6) && (itB [] xs && rcB [] us))) := rfl
  rw [E]
  clear E hi hb
  by_cases g1 : xs.length ≤ 5
  · rw [decide_eq_true g1]
    by_cases g2 : us.length ≤ 6
    · rw [decide_eq_true g2]
      generalize itB [] xs = r1 at *
      generalize rcB [] us = r2 at *
      cases r1 with
      | false =>
        go_enter Tryz.func233, Tryz.ntmps233
        go_wp2_with fail
        refine (HI.out _ (HB.out.alloc hB _) (by simp; omega)).mono ?_
        rintro e w1 ⟨rfl, hb1⟩
        have BF2 := Lib.hid (belI_step BF.out hb1)
        clear hb1
        go_wp2
        go_ret
        exact ⟨rfl, BF2.out⟩
      | true =>
        go_enter Tryz.func233, Tryz.ntmps233
        go_wp2_with fail
        refine (HI.out _ (HB.out.alloc hB _) (by simp; omega)).mono ?_
        rintro e w1 ⟨rfl, hb1⟩
        have BF2 := Lib.hid (belI_step BF.out hb1)
        obtain ⟨m0, m1, -⟩ := (HK.out.blw hb1).two
        clear hb1
        go_wp2_with fail
        refine (HR.out _ (HB.out.trans (BF2.out.mono hB))).mono ?_
        rintro e w2 ⟨rfl, rfl⟩
        go_wp2
        go_ret
        exact ⟨rfl, BF2.out⟩
    · rw [decide_eq_false g2]
      go_enter Tryz.func233, Tryz.ntmps233
      go_wp2
      go_ret
      exact ⟨rfl, BF.out⟩
  · rw [decide_eq_false g1]
    go_enter Tryz.func233, Tryz.ntmps233
    go_wp2
    go_ret
    exact ⟨rfl, BF.out⟩
end Go.Proofs.YtmaknkbmilcanaaGreatDoor.Qu
