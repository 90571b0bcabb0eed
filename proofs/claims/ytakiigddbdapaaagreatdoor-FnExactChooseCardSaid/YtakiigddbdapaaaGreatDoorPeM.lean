
/-
  The laws' marks: written over a row of peers that a call owns, and looked at again.
-/
import Derived.Test.YtakiigddbdapaaaGreatDoorPeT
namespace Go.Proofs.YtakiigddbdapaaaGreatDoor.Pe
open Go.RowKit
open Go.Proofs.YtakiigddbdapaaaGreatDoor.Gr (belI_step belI_alloc heap_set ret_b ret_i)
open Go.Proofs.YtakiigddbdapaaaGreatDoor.Mk
open Go.Proofs.YtakiigddbdapaaaGreatDoor.Ext (up up_below up_mk wp_region_ext call_ext call_ext_same call_ext_drewN)
@[local go_sem] theorem up_cellP (w : World) (y : Ext.Ext w) (b o : Nat) (h : b < w.heap.size) : (up w y).cell? ⟨b, o, none⟩ = w.cell? ⟨b, o, none⟩ := Ext.up_cell w y b o h
def mpr : Nat → Nat → List Pr
  | 0, _ => []
  | n + 1, k => ⟨mkT k, (k : Int) + 1, (k : Int) + 2, (k : Int) + 3, (k : Int) + 4, decide ((k + 5) % 3 = 0)⟩ :: mpr n (k + 6)
theorem mpr_len : ∀ n k, (mpr n k).length = n
  | 0, _ => rfl
  | n + 1, k => by simp [mpr, mpr_len n (k + 6)]
theorem mpr_get : ∀ n k i, i < n → (mpr n k).getD i default = ⟨mkT (k + 6 * i), ((k + 6 * i : Nat) : Int) + 1, ((k + 6 * i : Nat) : Int) + 2, ((k + 6 * i : Nat) : Int) + 3, ((k + 6 * i : Nat) : Int) + 4, decide ((k + 6 * i + 5) % 3 = 0)⟩
  | 0, _, i, h => by omega
  | n + 1, k, 0, _ => by simp [mpr]
  | n + 1, k, i + 1, h => by
    have := mpr_get n (k + 6) i (by omega)
    simp only [mpr, List.getD_cons_succ, this]
    have e : k + 6 + 6 * i = k + 6 * (i + 1) := by omega
    rw [e]
theorem mpr_lens (n k : Nat) (h : k + 6 * n ≤ 9000000) : ∀ i, i < (mpr n k).length → ((mpr n k).getD i default).url.length ≤ 9223372036854775807 := by
  intro i hi
  rw [mpr_len] at hi
  rw [mpr_get n k i hi]
  have := mkT_len (k + 6 * i) (by omega)
  simp only; omega
/-- what the row holds behind i rounds: the marks first, then what stood there -/
def mixP (F : Nat → Value) (k i j : Nat) : Value :=
  if j < 6 * i then (if j % 6 = 0 then .string ⟨(mkT (k + j)).toArray⟩ else if j % 6 = 5 then .bool (decide ((k + j) % 3 = 0)) else .int .i64 ((k + j : Nat) : Int)) else F j
theorem mixP_step (F : Nat → Value) (k i q : Nat) (hq : q = k + 6 * i) (j : Nat) :
    (if j = i * 6 + 5 then Value.bool (decide ((q + 5) % 3 = 0)) else if j = i * 6 + 4 then .int .i64 ((q : Int) + 1 + 1 + 1 + 1) else if j = i * 6 + 3 then .int .i64 ((q : Int) + 1 + 1 + 1) else if j = i * 6 + 2 then .int .i64 ((q : Int) + 1 + 1) else if j = i * 6 + 1 then .int .i64 ((q : Int) + 1) else if j = i * 6 then .string ⟨(mkT q).toArray⟩ else mixP F k i j) = mixP F k (i + 1) j := by
  subst hq
  unfold mixP
  by_cases e5 : j = i * 6 + 5
  · subst e5; rw [if_pos rfl, if_pos (by omega), if_neg (by omega), if_pos (by omega)]; congr 3; omega
  · rw [if_neg e5]
    by_cases e4 : j = i * 6 + 4
    · subst e4; rw [if_pos rfl, if_pos (by omega), if_neg (by omega), if_neg (by omega)]; congr 1; omega
    · rw [if_neg e4]
      by_cases e3 : j = i * 6 + 3
      · subst e3; rw [if_pos rfl, if_pos (by omega), if_neg (by omega), if_neg (by omega)]; congr 1; omega
      · rw [if_neg e3]
        by_cases e2 : j = i * 6 + 2
        · subst e2; rw [if_pos rfl, if_pos (by omega), if_neg (by omega), if_neg (by omega)]; congr 1; omega
        · rw [if_neg e2]
          by_cases e1 : j = i * 6 + 1
          · subst e1; rw [if_pos rfl, if_pos (by omega), if_neg (by omega), if_neg (by omega)]; congr 1; omega
          · rw [if_neg e1]
            by_cases e0 : j = i * 6
            · subst e0; rw [if_pos rfl, if_pos (by omega), if_pos (by omega)]; congr 4; omega
            · rw [if_neg e0]
              by_cases hj : j < 6 * i
              · have hj2 : j < 6 * (i + 1) := by omega
                rw [if_pos hj, if_pos hj2]
              · rw [if_neg hj, if_neg (by omega)]
theorem mpr_own {w : World} {base g cap n k : Nat} {F : Nat → Value} (hr : w.rowIs g 57 (cap * 6) (mixP F k n)) (hc : n ≤ cap) (hm : cap ≤ maxLen) (hb : base ≤ g) : O6 w base (.slice (some ⟨g, 0, none⟩) n cap) (mpr n k) := by
  have h := O6_of_row (base := base) (xs := mpr n k) hr (by rw [mpr_len]; exact hc) hm hb (fun i hi => by
    rw [mpr_len] at hi
    rw [mpr_get n k i hi]
    dsimp only
    unfold mixP
    refine ⟨?_, ?_, ?_, ?_, ?_, ?_⟩
    · rw [if_pos (by omega), if_pos (by omega)]; congr 4; omega
    · rw [if_pos (by omega), if_neg (by omega), if_neg (by omega)]; congr 1; omega
    · rw [if_pos (by omega), if_neg (by omega), if_neg (by omega)]; congr 1; omega
    · rw [if_pos (by omega), if_neg (by omega), if_neg (by omega)]; congr 1; omega
    · rw [if_pos (by omega), if_neg (by omega), if_neg (by omega)]; congr 1; omega
    · rw [if_pos (by omega), if_neg (by omega), if_pos (by omega)]; congr 3; omega)
  rwa [mpr_len] at h
set_option maxRecDepth 100000 in
set_option maxHeartbeats 2000000 in
theorem markPrs_any (base : Nat) (v : Value) (ts : List Pr) (k : Nat) (w : World) (h : O6 w base v ts) (hk : 0 < k) (hk2 : k + 6 * ts.length ≤ 9000000) :
    Calls Tryz.prog 16 #[v, .int .i64 (k : Int)] w fun e w' => e = .returned (.int .i64 ((k + 6 * ts.length : Nat) : Int)) ∧ O6 w' base v (mpr ts.length k) ∧ w.grownBy w' v.ownBlock := by
  obtain ⟨hlen, h⟩ := h
  rcases h with ⟨rfl, h0⟩ | ⟨g, cap, cur, rfl, hbg, hg, hnc, hcm, hs, ht⟩
  · obtain rfl : ts = [] := List.eq_nil_of_length_eq_zero h0
    go_enter Tryz.func16, Tryz.ntmps16
    go_wp2
    go_loopw [1, 5] (fun kv iv wr => iv = .int .i64 0 ∧ kv = .int .i64 (k : Int) ∧ wr = w) (fun _ _ _ => 0)
    case atStart => exact ⟨rfl, rfl, rfl⟩
    case round =>
      obtain ⟨rfl, rfl, rfl⟩ := hrel
      go_wp2
      go_ret
      exact ⟨rfl, ⟨rfl, .inl ⟨rfl, rfl⟩⟩, ⟨rfl, rfl, rfl, Nat.le_refl _, fun _ _ _ => rfl⟩⟩
  · have hlt : g < w.heap.size := (Array.getElem?_eq_some_iff.1 hg).1
    obtain ⟨F, hrow⟩ : ∃ F : Nat → Value, w.rowIs g 57 (cap * 6) F := ⟨fun i => cur[i]?.getD undef, cur, hg, hs, fun i hi => by
      have : i < cur.size := by omega
      simp [this]⟩
    have HROW := Lib.hid hrow
    clear ht hs hg hrow hlen
    generalize ts.length = n at *
    go_enter Tryz.func16, Tryz.ntmps16
    go_wp2
    go_loopw [1, 5] (fun kv iv wr => ∃ i q : Nat, i ≤ n ∧ iv = .int .i64 i ∧ kv = .int .i64 (q : Int) ∧ q = k + 6 * i ∧ wr.rowIs g 57 (cap * 6) (mixP F k i) ∧ w.grownBy wr (some g)) (fun _ iv _ => n - (intOf iv).toNat)
    case atStart => exact ⟨0, k, by omega, rfl, rfl, by omega, HROW.out.congr (fun j _ => by simp [mixP]), ⟨rfl, rfl, rfl, Nat.le_refl _, fun _ _ _ => rfl⟩⟩
    case round =>
      obtain ⟨i, q, hi, rfl, rfl, hq, hr, hG⟩ := hrel
      have HQE := Lib.hid hq
      have hqb : q ≤ 9000000 := by omega
      have hq0 : 0 < q := by omega
      have HR := Lib.hid hr
      have HG := Lib.hid hG
      by_cases hlt2 : i < n
      · have HT := Lib.hid (fun (W : World) => markText_any q hq0 (by omega) W)
        obtain ⟨tx, htx⟩ : ∃ t, mkT q = t := ⟨_, rfl⟩
        have HTX := Lib.hid htx
        rw [htx] at HT
        clear htx hr hG hq
        go_wp2_with fail
        refine (HT.out _).mono ?_
        rintro e w1 ⟨rfl, hb1⟩
        have hr1 := HR.out.of_block (hb1.block _ HR.out.lt)
        have p0 := hr1.cell (i := i * 6) (by omega)
        have p1 := hr1.cell (i := i * 6 + 1) (by omega)
        have p2 := hr1.cell (i := i * 6 + 2) (by omega)
        have p3 := hr1.cell (i := i * 6 + 3) (by omega)
        have p4 := hr1.cell (i := i * 6 + 4) (by omega)
        have p5 := hr1.cell (i := i * 6 + 5) (by omega)
        have pf := hr1.frozen
        have HR2 := Lib.hid (((((((hr1.set (i * 6) (.string ⟨tx.toArray⟩)).set (i * 6 + 1) (.int .i64 ((q : Int) + 1))).set (i * 6 + 2) (.int .i64 ((q : Int) + 1 + 1))).set (i * 6 + 3) (.int .i64 ((q : Int) + 1 + 1 + 1))).set (i * 6 + 4) (.int .i64 ((q : Int) + 1 + 1 + 1 + 1))).set (i * 6 + 5) (.bool (decide ((q + 5) % 3 = 0)))).congr (g := mixP F k (i + 1)) (fun j _ => by
          have := mixP_step F k i q HQE.out j
          rw [HTX.out] at this
          exact this))
        have HG2 := Lib.hid (grown6 (o := i * 6) (grown_below HG.out hb1) (.string ⟨tx.toArray⟩) (.int .i64 ((q : Int) + 1)) (.int .i64 ((q : Int) + 1 + 1)) (.int .i64 ((q : Int) + 1 + 1 + 1)) (.int .i64 ((q : Int) + 1 + 1 + 1 + 1)) (.bool (decide ((q + 5) % 3 = 0))))
        clear hb1 hr1
        generalize mixP F k i = F2 at *
        have hbg : (((q : Int) + 1 + 1 + 1 + 1 + 1) % 3 == 0) = decide ((q + 5) % 3 = 0) := by rw [Bool.eq_iff_iff, beq_iff_eq, decide_eq_true_iff]; omega
        go_wp2
        go_roundw
        case rel => exact ⟨i + 1, q + 6, by omega, by go_num, by go_num, by have := HQE.out; omega, HR2.out, HG2.out⟩
        case measure => simp [intOf]; omega
      · obtain rfl : i = n := by omega
        go_wp2
        go_ret
        refine ⟨ret_i (by omega), mpr_own HR.out hnc hcm hbg, HG.out⟩
set_option maxRecDepth 100000 in
set_option maxHeartbeats 2000000 in
theorem heldPrs_any (S : Nat → Prop) (v : Value) (n k : Nat) (w : World) (h : PrIn S w v (mpr n k)) (hS : ∀ b, S b → b < w.heap.size) (hk : 0 < k) (hk2 : k + 6 * n ≤ 9000000) :
    Calls Tryz.prog 17 #[v, .int .i64 (k : Int)] w fun e w' => e = .returned (.int .i64 ((k + 6 * n : Nat) : Int)) ∧ Below w.heap.size w w' := by
  obtain ⟨a, cap, b, off, rfl, hcap, hm, -, ha, hc⟩ := h
  have HC := Lib.hid hc
  have HA := Lib.hid ha
  rw [mpr_len] at hcap ⊢
  clear hc ha
  go_enter Tryz.func17, Tryz.ntmps17
  go_wp2
  go_loopw [1, 5] (fun kv iv wr => ∃ i q : Nat, i ≤ n ∧ iv = .int .i64 i ∧ kv = .int .i64 (q : Int) ∧ q = k + 6 * i ∧ Below w.heap.size w wr) (fun _ iv _ => n - (intOf iv).toNat)
  case atStart => exact ⟨0, k, by omega, rfl, rfl, by omega, Below.refl _ _⟩
  case round =>
    obtain ⟨i, q, hi, rfl, rfl, hq, hR⟩ := hrel
    have HQE := Lib.hid hq
    have HR := Lib.hid hR
    by_cases hlt : i < n
    · obtain ⟨ea, hlb⟩ := HA.out (by rw [mpr_len]; omega)
      subst ea
      obtain ⟨c0, c1, c2, c3, c4, c5⟩ := HC.out i (by rw [mpr_len]; exact hlt)
      rw [mpr_get n k i hlt] at c0 c1 c2 c3 c4 c5
      rw [← hq] at c0 c1 c2 c3 c4 c5
      simp only at c0 c1 c2 c3 c4 c5
      have hbw := hS b hlb
      have hd : b < wr.heap.size := Nat.lt_of_lt_of_le hbw hR.size
      have q0 := (hR.cell (p := ⟨b, off + i * 6, none⟩) hbw).trans c0
      have q1 := (hR.cell (p := ⟨b, off + i * 6 + 1, none⟩) hbw).trans c1
      have q2 := (hR.cell (p := ⟨b, off + i * 6 + 2, none⟩) hbw).trans c2
      have q3 := (hR.cell (p := ⟨b, off + i * 6 + 3, none⟩) hbw).trans c3
      have q4 := (hR.cell (p := ⟨b, off + i * 6 + 4, none⟩) hbw).trans c4
      have q5 := (hR.cell (p := ⟨b, off + i * 6 + 5, none⟩) hbw).trans c5
      have hqb : q ≤ 9000000 := by omega
      have hq0 : 0 < q := by omega
      have HT := Lib.hid (fun (W : World) => markText_any q hq0 (by omega) W)
      generalize mkT q = tx at *
      clear hq
      have e1 : (tx == tx) = true := by simp
      have e2 : (tx != tx) = false := by simp
      clear c0 c1 c2 c3 c4 c5 hR
      go_wp2_with fail
      refine wp_region_ext (by kernel_rfl) (by kernel_rfl) ?_
      repeat (go_big_quiet_step ((go_at_call 37; refine call_ext (v := .string ⟨tx.toArray⟩) ?_; exact HT.out _)))
      refine wpQuiet_nil ?_
      intro _ hw'
      obtain ⟨y8, rfl⟩ := hw'
      have hv8 := up_below _ y8
      generalize up _ y8 = v8 at *
      have D8 := Lib.hid (belI_step HR.out hv8)
      have s1 := (hv8.cell (p := ⟨b, off + i * 6 + 1, none⟩) hd).trans q1
      have s2 := (hv8.cell (p := ⟨b, off + i * 6 + 2, none⟩) hd).trans q2
      have s3 := (hv8.cell (p := ⟨b, off + i * 6 + 3, none⟩) hd).trans q3
      have s4 := (hv8.cell (p := ⟨b, off + i * 6 + 4, none⟩) hd).trans q4
      have s5 := (hv8.cell (p := ⟨b, off + i * 6 + 5, none⟩) hd).trans q5
      clear hv8 q0 q1 q2 q3 q4 q5
      have f1 : ((q : Int) + 1 != (q : Int) + 1) = false := by simp
      have f2 : ((q : Int) + 2 != (q : Int) + 1 + 1) = false := by simp; omega
      have f3 : ((q : Int) + 3 != (q : Int) + 1 + 1 + 1) = false := by simp; omega
      have f4 : ((q : Int) + 4 != (q : Int) + 1 + 1 + 1 + 1) = false := by simp; omega
      have hbg : (((q : Int) + 1 + 1 + 1 + 1 + 1) % 3 == 0) = decide ((q + 5) % 3 = 0) := by rw [Bool.eq_iff_iff, beq_iff_eq, decide_eq_true_iff]; omega
      have hbg3 : (!(decide ((q + 5) % 3 = 0) == decide ((q + 5) % 3 = 0))) = false := by simp
      go_wp2
      go_roundw
      case rel => exact ⟨i + 1, q + 6, by omega, by go_num, by go_num, by have := HQE.out; omega, D8.out⟩
      case measure => simp [intOf]; omega
    · obtain rfl : i = n := by omega
      go_wp2
      go_ret
      exact ⟨ret_i (by have := HQE.out; omega), hR⟩
end Go.Proofs.YtakiigddbdapaaaGreatDoor.Pe
