
/-
  The laws' helpers on groups: their size, their copies, their comparison.
-/
import Derived.Test.YtakiigddbdapaaaGreatDoorGrAt
import Derived.Test.YtakiigddbdapaaaGreatDoorExt
import Derived.WalkSpells
import Derived.WalkLawsBesides
import Derived.Lib.Hide
import Derived.RegionTactic
import Derived.BigRegion
import Derived.Deep.QuietTactic
import Derived.BigQuiet
import Derived.IntWalk
import Derived.Outline
import Derived.Laws.Rows
import Derived.Deep.OwnRows
import Derived.Laws.MakeOwn
namespace Go.Proofs.YtakiigddbdapaaaGreatDoor.Gr
open Go.RowKit
open Go.Proofs.YtakiigddbdapaaaGreatDoor.Ext (up up_below up_mk wp_region_ext call_ext call_ext_same call_ext_drewN)
@[local go_sem] theorem up_cellG (w : World) (y : Ext.Ext w) (b o : Nat) (h : b < w.heap.size) : (up w y).cell? ⟨b, o, none⟩ = w.cell? ⟨b, o, none⟩ := Ext.up_cell w y b o h
def szR (L : Int) (s : Nat) : Int := if (s : Int) ≤ L then L - s else -1
theorem szR_out {L : Int} {s : Nat} (_ : L < (s : Int)) : szR L s = -1 := by unfold szR; rw [if_neg (by omega)]
theorem szR_in {L : Int} {s : Nat} (h : (s : Int) ≤ L) : szR L s = L - s := by unfold szR; rw [if_pos h]
theorem szR_add {L : Int} {s r : Nat} (_ : (s : Int) ≤ L) : szR L (s + r) = szR (L - s) r := by
  unfold szR
  by_cases h2 : ((s + r : Nat) : Int) ≤ L
  · rw [if_pos h2, if_pos (by omega)]; omega
  · rw [if_neg h2, if_neg (by omega)]
theorem szR_zero {L : Int} (_ : 0 ≤ L) : szR L 0 = L := by unfold szR; rw [if_pos (by omega)]; omega
theorem ret_i {a b : Int} (h : a = b) : Ending.returned (.int .i64 a) = .returned (.int .i64 b) := by rw [h]
theorem ret_b {a b : Bool} (h : a = b) : Ending.returned (.bool a) = .returned (.bool b) := by rw [h]
theorem belI_step {w Y Z : World} (h : Below w.heap.size w Y) (hb : Below Y.heap.size Y Z) : Below w.heap.size w Z := h.trans (hb.mono h.size)
theorem belDrew {B : Nat} {a w : World} (h : Below B a w) (n : Nat) : Below B a (w.drewN n) := ⟨h.os, h.tape, h.output, h.size, h.block⟩
theorem szTg_any (t : Tg) (L : Int) (W : World) (h0 : 0 ≤ L) (h1 : L ≤ 1048576) (hl : t.url.length ≤ 9223372036854775807) :
    Calls Tryz.prog 57 #[tV t, .int .i64 L] W fun e w' => e = .returned (.int .i64 (szR L t.url.length)) ∧ Below W.heap.size W w' := by
  by_cases hs : (t.url.length : Int) ≤ L
  · have E := Lib.hid (szR_in hs)
    have g1 : decide (L - (t.url.length : Int) < 0) = false := by simp; omega
    go_enter Tryz.func57, Tryz.ntmps57
    go_wp2
    go_ret
    exact ⟨ret_i (by rw [E.out]), (Below.refl _ _).alloc (Nat.le_refl _) _⟩
  · have E := Lib.hid (szR_out (L := L) (s := t.url.length) (by omega))
    have g1 : decide (L - (t.url.length : Int) < 0) = true := by simp; omega
    go_enter Tryz.func57, Tryz.ntmps57
    go_wp2
    go_ret
    exact ⟨ret_i (by rw [E.out]), (Below.refl _ _).alloc (Nat.le_refl _) _⟩
set_option maxHeartbeats 1000000 in
theorem szTs_any (B : Nat) (w0 : World) (xs : List Tg) (v : Value) (h : TgIn (· < B) w0 v xs) (L : Int) (W : World) (hb : Below B w0 W) (hB : B ≤ W.heap.size) (h0 : 0 ≤ L) (h1 : L ≤ 1048576) :
    Calls Tryz.prog 30 #[v, .int .i64 L] W fun e w' => e = .returned (.int .i64 (szR L (xs.length + szU xs))) ∧ Below W.heap.size W w' := by
  obtain ⟨a, cap, b, off, rfl, hcap, hm, hlen, ha, hc⟩ := h
  have hn : xs.length ≤ 9223372036854775807 := by omega
  have HC := Lib.hid hc
  have HL := Lib.hid hlen
  have HA := Lib.hid ha
  have HB := Lib.hid hb
  clear hc hlen ha hb
  by_cases hs : (xs.length : Int) ≤ L
  · have E := Lib.hid (szR_add (r := szU xs) hs)
    have g1 : decide (L - (xs.length : Int) < 0) = false := by simp; omega
    go_enter Tryz.func30, Tryz.ntmps30
    go_wp2
    go_loopw [1, 5] (fun l i wr => ∃ (k : Nat) (m : Int), k ≤ xs.length ∧ i = .int .i64 k ∧ l = .int .i64 m ∧ 0 ≤ m ∧ m ≤ L ∧ szR (L - (xs.length : Int)) (szU xs) = szR m (szU (xs.drop k)) ∧ Below W.heap.size W wr) (fun _ i _ => xs.length - (intOf i).toNat)
    case atStart => exact ⟨0, _, by omega, rfl, rfl, by omega, by omega, rfl, Below.refl _ _⟩
    case round =>
      obtain ⟨k, m, hk, rfl, rfl, hm0, hm1, hE, hR⟩ := hrel
      have HE := Lib.hid hE
      have hR1 := HB.out.trans (hR.mono hB)
      have HR := Lib.hid hR
      have HR1 := Lib.hid hR1
      clear hE hR hR1
      by_cases hlt : k < xs.length
      · obtain ⟨ea, hlb⟩ := HA.out (by omega)
        subst ea
        obtain ⟨c0, c1, c2⟩ := HC.out k hlt
        have q0 := (HR1.out.cell (p := ⟨b, off + k * 3, none⟩) hlb).trans c0
        have q1 := (HR1.out.cell (p := ⟨b, off + k * 3 + 1, none⟩) hlb).trans c1
        have q2 := (HR1.out.cell (p := ⟨b, off + k * 3 + 2, none⟩) hlb).trans c2
        have D := Lib.hid (szU_drop k hlt)
        have HK := Lib.hid (szTg_any (xs.getD k default) m wr hm0 (by omega) (HL.out k hlt))
        clear c0 c1 c2
        generalize xs.getD k default = x at *
        obtain ⟨r, hr⟩ : ∃ r, szR m x.url.length = r := ⟨_, rfl⟩
        have F := Lib.hid hr
        rw [hr] at HK
        clear hr
        go_wp2_with fail
        refine HK.out.mono ?_
        rintro e w2 ⟨rfl, hb2⟩
        have hR3 : Below W.heap.size W w2 := belI_step HR.out hb2
        by_cases hx : m < (x.url.length : Int)
        · have g2 : decide (r < 0) = true := by rw [← F.out, szR_out hx]; rfl
          have G := Lib.hid (szR_out (L := m) (s := x.url.length + szU (xs.drop (k + 1))) (by omega))
          clear hx
          go_wp2
          go_ret
          exact ⟨ret_i (by rw [E.out, HE.out, D.out, G.out]), hR3⟩
        · have hr2 : r = m - x.url.length := by rw [← F.out, szR_in (by omega)]
          have g2 : decide (r < 0) = false := by rw [hr2]; simp; omega
          have G := Lib.hid (szR_add (r := szU (xs.drop (k + 1))) (show (x.url.length : Int) ≤ m by omega))
          have hr0 : 0 ≤ r ∧ r ≤ L := by omega
          rw [← hr2] at G
          clear hx hr2
          go_wp2
          go_roundw
          case rel => exact ⟨k + 1, r, by omega, by go_num, rfl, hr0.1, hr0.2, by rw [HE.out, D.out, G.out], hR3⟩
          case measure => simp [intOf]; omega
      · go_wp2
        go_ret
        obtain rfl : k = xs.length := by omega
        exact ⟨ret_i (by rw [E.out, HE.out, List.drop_length]; exact (szR_zero hm0).symm), HR.out⟩
  · have E := Lib.hid (szR_out (L := L) (s := xs.length + szU xs) (by omega))
    have g1 : decide (L - (xs.length : Int) < 0) = true := by simp; omega
    go_enter Tryz.func30, Tryz.ntmps30
    go_wp2
    go_ret
    exact ⟨ret_i (by rw [E.out]), Below.refl _ _⟩
set_option maxHeartbeats 1000000 in
theorem szG_any (B : Nat) (w0 : World) (g : Gp) (tv : Value) (h : TgIn (· < B) w0 tv g.tgs) (hn : g.name.length ≤ 9223372036854775807) (L : Int) (W : World) (hb : Below B w0 W) (hB : B ≤ W.heap.size) (h0 : 0 ≤ L) (h1 : L ≤ 1048576) :
    Calls Tryz.prog 9 #[gV g tv, .int .i64 L] W fun e w' => e = .returned (.int .i64 (szR L (szG g))) ∧ Below W.heap.size W w' := by
  have HB := Lib.hid hb
  have SL := Lib.hid (fun L W' h2 h3 => szTs_any B w0 g.tgs tv h L W' h2 h3)
  clear h hb
  unfold szG
  by_cases hs : (g.name.length : Int) ≤ L
  · have E1 := Lib.hid (szR_add (r := g.tgs.length + szU g.tgs) hs)
    have g1 : decide (L - (g.name.length : Int) < 0) = false := by simp; omega
    have SL1 := Lib.hid (fun W' h2 h3 => SL.out (L - (g.name.length : Int)) W' h2 h3 (by omega) (by omega))
    obtain ⟨r, hr⟩ : ∃ r, szR (L - (g.name.length : Int)) (g.tgs.length + szU g.tgs) = r := ⟨_, rfl⟩
    rw [hr] at SL1
    have F := Lib.hid hr
    clear hr SL
    go_enter Tryz.func9, Tryz.ntmps9
    go_wp2_with fail
    refine (SL1.out _ (HB.out.alloc hB _) (by simp; omega)).mono ?_
    rintro e w2 ⟨rfl, hb2⟩
    have hB3 : Below W.heap.size W w2 := ((Below.refl _ _).alloc (Nat.le_refl _) _).trans (hb2.mono (by simp))
    clear hb2
    go_wp2
    all_goals
      go_ret
      refine ⟨ret_i ?_, hB3⟩
      have h5 := F.out
      have h6 := E1.out.trans F.out
      rcases Decidable.em (((g.tgs.length + szU g.tgs : Nat) : Int) ≤ L - (g.name.length : Int)) with hh | hh
      · rw [szR_in hh] at h5; omega
      · rw [szR_out (by omega)] at h5; omega
  · have E := Lib.hid (szR_out (L := L) (s := g.name.length + (g.tgs.length + szU g.tgs)) (by omega))
    have g1 : decide (L - (g.name.length : Int) < 0) = true := by simp; omega
    go_enter Tryz.func9, Tryz.ntmps9
    go_wp2
    go_ret
    exact ⟨ret_i (by rw [E.out]), (Below.refl _ _).alloc (Nat.le_refl _) _⟩
end Go.Proofs.YtakiigddbdapaaaGreatDoor.Gr
