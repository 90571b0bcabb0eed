
/-
  The size of a JSON value, as the laws count it: szStringS, szJsonS, szJson.
-/
import Derived.Test.YtniflfgnelfpbaaJsAt
import Derived.WalkSpells
import Derived.WalkLawsBesides
import Derived.Lib.Hide
import Derived.RegionTactic
import Derived.BigRegion
import Derived.Deep.QuietTactic
import Derived.BigQuiet
import Derived.IntWalk
import Derived.Outline
namespace Go.Proofs.Ytniflfgnelfpbaa.Js
open Go.RowKit
/-- what is left of L -/
def szR (L : Int) (s : Nat) : Int := if (s : Int) ≤ L then L - s else -1
theorem szR_out {L : Int} {s : Nat} (_ : L < (s : Int)) : szR L s = -1 := by unfold szR; rw [if_neg (by omega)]
theorem szR_in {L : Int} {s : Nat} (h : (s : Int) ≤ L) : szR L s = L - s := by unfold szR; rw [if_pos h]
theorem szR_add {L : Int} {s r : Nat} (_ : (s : Int) ≤ L) : szR L (s + r) = szR (L - s) r := by
  unfold szR
  by_cases h2 : ((s + r : Nat) : Int) ≤ L
  · rw [if_pos h2, if_pos (by omega)]; omega
  · rw [if_neg h2, if_neg (by omega)]
theorem szR_zero {L : Int} (_ : 0 ≤ L) : szR L 0 = L := by unfold szR; rw [if_pos (by omega)]; omega
theorem szR_neg (L : Int) (s : Nat) (_ : 0 ≤ L) : szR L s < 0 ↔ L < s := by unfold szR; split <;> omega
theorem ret_i {a b : Int} (h : a = b) : Ending.returned (.int .i64 a) = .returned (.int .i64 b) := by rw [h]
set_option maxRecDepth 100000 in
set_option maxHeartbeats 1000000 in
theorem szT_any (S : Nat → Prop) (ns : List (List UInt8)) (v : Value) (L : Int) (w : World) (h : TxtsIn S w v ns) (h0 : 0 ≤ L) (h1 : L ≤ 1048576) :
    Calls Try.prog 19 #[v, .int .i64 L] w fun e w' => e = .returned (.int .i64 (szR L (ns.length + szT ns))) ∧ w = w' := by
  obtain ⟨a, cap, b, off, rfl, hcap, hm, hlen, ha, hc⟩ := h
  have hn : ns.length ≤ 9223372036854775807 := by omega
  by_cases hs : (ns.length : Int) ≤ L
  · have E := Lib.hid (szR_add (r := szT ns) hs)
    have HC := Lib.hid hc
    have HL := Lib.hid hlen
    have HA := Lib.hid ha
    clear hc hlen ha
    have g1 : decide (L - (ns.length : Int) < 0) = false := by simp; omega
    go_enter Try.func19, Try.ntmps19
    go_wp2
    go_loop [1, 5] (fun l i => ∃ (k : Nat) (m : Int), k ≤ ns.length ∧ i = .int .i64 k ∧ l = .int .i64 m ∧ 0 ≤ m ∧ m ≤ L ∧ szR (L - (ns.length : Int)) (szT ns) = szR m (szT (ns.drop k))) (fun _ i => ns.length - (intOf i).toNat)
    case atStart => exact ⟨0, _, by omega, rfl, rfl, by omega, by omega, rfl⟩
    case round =>
      obtain ⟨k, m, hk, rfl, rfl, hm0, hm1, hE⟩ := hrel
      have HE := Lib.hid hE
      clear hE
      by_cases hlt : k < ns.length
      · obtain ⟨ea, _⟩ := HA.out (by omega)
        subst ea
        have hcell := HC.out k hlt
        have hl := HL.out k hlt
        obtain ⟨t, ht⟩ : ∃ t, ns.getD k [] = t := ⟨_, rfl⟩
        have ht2 : ns[k] = t := by rw [← ht]; simp [hlt]
        have D := Lib.hid (szT_drop k hlt)
        rw [ht] at hcell hl
        rw [ht2] at D
        clear ht ht2
        by_cases hx : (t.length : Int) ≤ m
        · have F := Lib.hid (szR_add (r := szT (ns.drop (k + 1))) hx)
          have g2 : decide (m - (t.length : Int) < 0) = false := by simp; omega
          go_wp2
          go_round
          case rel => exact ⟨k + 1, _, by omega, by go_num, rfl, by omega, by omega, by rw [HE.out, D.out, F.out]⟩
          case measure => simp [intOf]; omega
        · have F := Lib.hid (szR_out (L := m) (s := t.length + szT (ns.drop (k + 1))) (by omega))
          have g2 : decide (m - (t.length : Int) < 0) = true := by simp; omega
          go_wp2
          go_ret
          exact ⟨ret_i (by rw [E.out, HE.out, D.out, F.out]), rfl⟩
      · go_wp2
        go_ret
        obtain rfl : k = ns.length := by omega
        exact ⟨ret_i (by rw [E.out, HE.out, List.drop_length]; exact (szR_zero hm0).symm), rfl⟩
  · have E := Lib.hid (szR_out (L := L) (s := ns.length + szT ns) (by omega))
    have g1 : decide (L - (ns.length : Int) < 0) = true := by simp; omega
    clear hc hlen ha
    go_enter Try.func19, Try.ntmps19
    go_wp2
    go_ret
    exact ⟨ret_i (by rw [E.out]), rfl⟩
theorem names_at {B : Nat} {w0 W : World} {v : Value} {ns : List (List UInt8)} (h : TxtsIn (· < B) w0 v ns) (hb : Below B w0 W) : TxtsIn (· < B) W v ns := h.blw hb
set_option maxRecDepth 100000 in
set_option maxHeartbeats 1000000 in
theorem szL_of (B : Nat) (w0 : World) (xs : List J) (a : Option Addr) (cap b off : Nat) (vn vi : Nat → Value) (hcap : xs.length ≤ cap) (hm : cap ≤ 9223372036854775807) (ha : 0 < xs.length → a = some ⟨b, off, none⟩ ∧ b < B)
    (c0 : ∀ i, i < xs.length → w0.cell? ⟨b, off + i * 5, none⟩ = some (.int .i64 (xs.getD i default).kind))
    (c1 : ∀ i, i < xs.length → w0.cell? ⟨b, off + i * 5 + 1, none⟩ = some (.int .i64 (xs.getD i default).num))
    (c2 : ∀ i, i < xs.length → w0.cell? ⟨b, off + i * 5 + 2, none⟩ = some (.string ⟨(xs.getD i default).text.toArray⟩))
    (c3 : ∀ i, i < xs.length → w0.cell? ⟨b, off + i * 5 + 3, none⟩ = some (vn i))
    (c4 : ∀ i, i < xs.length → w0.cell? ⟨b, off + i * 5 + 4, none⟩ = some (vi i))
    (ih : ∀ i, i < xs.length → ∀ (L : Int) (W : World), Below B w0 W → B ≤ W.heap.size → 0 ≤ L → L ≤ 1048576 → Calls Try.prog 9 #[jV (xs.getD i default) (vn i) (vi i), .int .i64 L] W fun e w' => e = .returned (.int .i64 (szR L (szJ (xs.getD i default)))) ∧ Below W.heap.size W w')
    (L : Int) (W : World) (hb : Below B w0 W) (hB : B ≤ W.heap.size) (h0 : 0 ≤ L) (h1 : L ≤ 1048576) :
    Calls Try.prog 20 #[.slice a xs.length cap, .int .i64 L] W fun e w' => e = .returned (.int .i64 (szR L (xs.length + szL xs))) ∧ Below W.heap.size W w' := by
  have hn : xs.length ≤ 9223372036854775807 := by omega
  have HC := Lib.hid (And.intro c0 (And.intro c1 (And.intro c2 (And.intro c3 c4))))
  have HI := Lib.hid ih
  have HA := Lib.hid ha
  have HB := Lib.hid hb
  clear c0 c1 c2 c3 c4 ih ha hb
  by_cases hs : (xs.length : Int) ≤ L
  · have E := Lib.hid (szR_add (r := szL xs) hs)
    have g1 : decide (L - (xs.length : Int) < 0) = false := by simp; omega
    go_enter Try.func20, Try.ntmps20
    go_wp2
    go_loopw [1, 5] (fun l i wr => ∃ (k : Nat) (m : Int), k ≤ xs.length ∧ i = .int .i64 k ∧ l = .int .i64 m ∧ 0 ≤ m ∧ m ≤ L ∧ szR (L - (xs.length : Int)) (szL xs) = szR m (szL (xs.drop k)) ∧ Below W.heap.size W wr) (fun _ i _ => xs.length - (intOf i).toNat)
    case atStart => exact ⟨0, _, by omega, rfl, rfl, by omega, by omega, rfl, Below.refl _ _⟩
    case round =>
      obtain ⟨k, m, hk, rfl, rfl, hm0, hm1, hE, hR⟩ := hrel
      have HE := Lib.hid hE
      clear hE
      have hR0 : Below B W wr := hR.mono hB
      have hR1 := HB.out.trans hR0
      have hR2 : B ≤ wr.heap.size := Nat.le_trans hB hR.size
      have HR := Lib.hid hR
      have HR1 := Lib.hid hR1
      clear hR hR0 hR1
      by_cases hlt : k < xs.length
      · obtain ⟨ea, hlb⟩ := HA.out (by omega)
        subst ea
        have q0 := (HR1.out.cell (p := ⟨b, off + k * 5, none⟩) hlb).trans (HC.out.1 k hlt)
        have q1 := (HR1.out.cell (p := ⟨b, off + k * 5 + 1, none⟩) hlb).trans (HC.out.2.1 k hlt)
        have q2 := (HR1.out.cell (p := ⟨b, off + k * 5 + 2, none⟩) hlb).trans (HC.out.2.2.1 k hlt)
        have q3 := (HR1.out.cell (p := ⟨b, off + k * 5 + 3, none⟩) hlb).trans (HC.out.2.2.2.1 k hlt)
        have q4 := (HR1.out.cell (p := ⟨b, off + k * 5 + 4, none⟩) hlb).trans (HC.out.2.2.2.2 k hlt)
        have D := Lib.hid (szL_drop k hlt)
        rw [show xs[k] = xs.getD k default by simp [hlt]] at D
        have HK := Lib.hid (HI.out k hlt m wr HR1.out hR2 hm0 (by omega))
        generalize xs.getD k default = x at *
        generalize vn k = n1 at *
        generalize vi k = i1 at *
        obtain ⟨r, hr⟩ : ∃ r, szR m (szJ x) = r := ⟨_, rfl⟩
        have F := Lib.hid hr
        rw [hr] at HK
        clear hr
        go_wp2_with fail
        refine HK.out.mono ?_
        rintro e w2 ⟨rfl, hb2⟩
        have hR3 : Below W.heap.size W w2 := HR.out.trans (hb2.mono HR.out.size)
        by_cases hx : m < (szJ x : Int)
        · have g2 : decide (r < 0) = true := by rw [← F.out, szR_out hx]; rfl
          have G := Lib.hid (szR_out (L := m) (s := szJ x + szL (xs.drop (k + 1))) (by omega))
          clear hx
          go_wp2
          go_ret
          exact ⟨ret_i (by rw [E.out, HE.out, D.out, G.out]), hR3⟩
        · have hr2 : r = m - szJ x := by rw [← F.out, szR_in (by omega)]
          have g2 : decide (r < 0) = false := by rw [hr2]; simp; omega
          have G := Lib.hid (szR_add (r := szL (xs.drop (k + 1))) (show (szJ x : Int) ≤ m by omega))
          have hr0 : 0 ≤ r ∧ r ≤ L := by omega
          rw [← hr2] at G
          clear hx hr2
          go_wp2
          go_roundw
          case rel => exact ⟨k + 1, r, by omega, by go_num, rfl, hr0.1, hr0.2, by rw [HE.out, D.out, G.out], hR3⟩
          case measure => simp [intOf]; omega
      · go_wp2
        go_ret
        obtain rfl : k = xs.length := by omega
        exact ⟨ret_i (by rw [E.out, HE.out, List.drop_length]; exact (szR_zero hm0).symm), HR.out⟩
  · have E := Lib.hid (szR_out (L := L) (s := xs.length + szL xs) (by omega))
    have g1 : decide (L - (xs.length : Int) < 0) = true := by simp; omega
    go_enter Try.func20, Try.ntmps20
    go_wp2
    go_ret
    exact ⟨ret_i (by rw [E.out]), Below.refl _ _⟩
set_option maxRecDepth 100000 in
set_option maxHeartbeats 1000000 in
theorem szJ_go (B : Nat) (w0 : World) (j : J) (nv iv : Value) (h : JIn (· < B) w0 j nv iv) : ∀ (L : Int) (W : World), Below B w0 W → B ≤ W.heap.size → 0 ≤ L → L ≤ 1048576 →
    Calls Try.prog 9 #[jV j nv iv, .int .i64 L] W fun e w' => e = .returned (.int .i64 (szR L (szJ j))) ∧ Below W.heap.size W w' := by
  induction h with
  | mk a cap b off vn vi hk hn ht names hcap hm ha c0 c1 c2 c3 c4 deep ih =>
    rename_i k n t ns xs nv
    intro L W hb hB h0 h1
    have SL := Lib.hid (szL_of B w0 xs a cap b off vn vi hcap hm ha c0 c1 c2 c3 c4 ih)
    have HN := Lib.hid names
    have HB := Lib.hid hb
    clear ih c0 c1 c2 c3 c4 ha deep names hb
    unfold jV szJ
    generalize Value.slice a xs.length cap = iv at *
    show Calls _ _ #[.agg #[.int .i64 k, .int .i64 n, .string ⟨t.toArray⟩, nv, iv], .int .i64 L] _ _
    by_cases hs : (t.length : Int) ≤ L
    · have E1 := Lib.hid (szR_add (r := ns.length + szT ns + (xs.length + szL xs)) hs)
      have g1 : decide (L - (t.length : Int) < 0) = false := by simp; omega
      have ST := Lib.hid (fun W' hW => szT_any (· < B) ns nv (L - (t.length : Int)) W' (names_at HN.out hW) (by omega) (by omega))
      by_cases hs2 : ((ns.length + szT ns : Nat) : Int) ≤ L - t.length
      · have E2 := Lib.hid (szR_add (r := xs.length + szL xs) hs2)
        have SL1 := Lib.hid (fun W' h2 h3 => SL.out (L - (t.length : Int) - ((ns.length + szT ns : Nat) : Int)) W' h2 h3 (by omega) (by omega))
        rw [szR_in hs2] at ST
        have g2 : decide (L - (t.length : Int) - ((ns.length + szT ns : Nat) : Int) < 0) = false := by simp; omega
        generalize hl2 : L - (t.length : Int) - ((ns.length + szT ns : Nat) : Int) = l2 at *
        have hl2' : 0 ≤ l2 ∧ l2 ≤ 1048576 := by omega
        obtain ⟨r, hr⟩ : ∃ r, szR l2 (xs.length + szL xs) = r := ⟨_, rfl⟩
        rw [hr] at SL1
        have F := Lib.hid hr
        have G := Lib.hid hl2
        clear hr hl2
        go_enter Try.func9, Try.ntmps9
        go_wp2_with fail
        refine (ST.out _ (HB.out.alloc hB _)).mono ?_
        rintro e w1 ⟨rfl, rfl⟩
        go_wp2_with fail
        refine (SL1.out _ (HB.out.alloc hB _) (by simp; omega)).mono ?_
        rintro e w2 ⟨rfl, hb2⟩
        have hB3 : Below W.heap.size W w2 := ((Below.refl _ _).alloc (Nat.le_refl _) _).trans (hb2.mono (by simp))
        clear hb2
        go_wp2
        all_goals
          go_ret
          refine ⟨ret_i ?_, hB3⟩
          have h5 := F.out
          have h6 := E1.out.trans (E2.out.trans F.out)
          simp only [Nat.add_assoc] at h6 ⊢
          rcases Decidable.em (((xs.length + szL xs : Nat) : Int) ≤ l2) with hh | hh
          · rw [szR_in hh] at h5; omega
          · rw [szR_out (by omega)] at h5; omega
      · have E2 := Lib.hid (szR_out (L := L - (t.length : Int)) (s := ns.length + szT ns + (xs.length + szL xs)) (by omega))
        rw [szR_out (L := L - (t.length : Int)) (s := ns.length + szT ns) (by omega)] at ST
        go_enter Try.func9, Try.ntmps9
        go_wp2_with fail
        refine (ST.out _ (HB.out.alloc hB _)).mono ?_
        rintro e w1 ⟨rfl, rfl⟩
        go_wp2
        go_ret
        exact ⟨ret_i (by have h6 := E1.out.trans E2.out; simp only [Nat.add_assoc] at h6 ⊢; omega), (Below.refl _ _).alloc (Nat.le_refl _) _⟩
    · have E := Lib.hid (szR_out (L := L) (s := t.length + (ns.length + szT ns) + (xs.length + szL xs)) (by omega))
      have g1 : decide (L - (t.length : Int) < 0) = true := by simp; omega
      go_enter Try.func9, Try.ntmps9
      go_wp2
      go_ret
      exact ⟨ret_i (by have h6 := E.out; simp only [Nat.add_assoc] at h6 ⊢; omega), (Below.refl _ _).alloc (Nat.le_refl _) _⟩
theorem szJ_any (j : J) (nv iv : Value) (L : Int) (W : World) (h : JIn (· < W.heap.size) W j nv iv) (h0 : 0 ≤ L) (h1 : L ≤ 1048576) :
    Calls Try.prog 9 #[jV j nv iv, .int .i64 L] W fun e w' => e = .returned (.int .i64 (szR L (szJ j))) ∧ Below W.heap.size W w' :=
  szJ_go W.heap.size W j nv iv h L W (Below.refl _ _) (Nat.le_refl _) h0 h1
end Go.Proofs.Ytniflfgnelfpbaa.Js
