
/-
  Groups and targets as plain data, and in memory; an argument of type laws.Group, opened. The laws' helpers on groups: their size, their copies, their comparison. The laws' copies of groups: toTarget, toTargetS, toGroup: new memory that holds the same. The laws' comparisons of groups, of a thing with its like: eqTarget, eqTargetS, eqGroup answer true.
-/
import Derived.Test.YtmaknkbmilcanaaGreatDoorChecked
import Derived.WalkKit
import Derived.Carry
import Derived.ProofKit
import Derived.OpenShut
import Derived.ChangeSlices
import Derived.Deep.Slices
import Derived.Lib.SmallJoins
import Derived.Test.YtmaknkbmilcanaaGreatDoorExt
import Derived.WalkSpells
import Derived.WalkLawsBesides
import Derived.Lib.Hide
import Derived.RegionTactic
import Derived.BigRegion
import Derived.Deep.QuietTactic
import Derived.BigQuiet
import Derived.IntWalk
import Derived.Outline
import Derived.Laws.Rows
import Derived.Deep.OwnRows
import Derived.Laws.MakeOwn
import Derived.Deep.RegionHeld
import Derived.Deep.RegionHeld3
import Derived.Deep.RegionWith
import Derived.Deep.Draws
namespace Go.Proofs.YtmaknkbmilcanaaGreatDoor.Gr
open Go.RowKit
open Go.ChangeShapes Go.WideShapes Go.ChangeAt Go.Deep
structure Tg where
  url : List UInt8
  pri : Int
  wt : Int
deriving DecidableEq
instance : Inhabited Tg := ⟨⟨[], 0, 0⟩⟩
structure Gp where
  name : List UInt8
  age : Int
  tgs : List Tg
/-- the lengths of all addresses of a list -/
def szU : List Tg → Nat
  | [] => 0
  | t :: ts => t.url.length + szU ts
def szG (g : Gp) : Nat := g.name.length + (g.tgs.length + szU g.tgs)
theorem szU_drop {xs : List Tg} (k : Nat) (hx : k < xs.length) : szU (xs.drop k) = (xs.getD k default).url.length + szU (xs.drop (k + 1)) := by
  rw [List.drop_eq_getElem_cons hx]; simp [szU, hx]
/-- v is a slice of the targets xs, in a block of S -/
def TgIn (S : Nat → Prop) (w : World) (v : Value) (xs : List Tg) : Prop :=
  ∃ (a : Option Addr) (cap b off : Nat), v = .slice a xs.length cap ∧ xs.length ≤ cap ∧ cap ≤ 9223372036854775807 ∧ (∀ i, i < xs.length → (xs.getD i default).url.length ≤ 9223372036854775807) ∧
    (0 < xs.length → a = some ⟨b, off, none⟩ ∧ S b) ∧
    ∀ i, i < xs.length → w.cell? ⟨b, off + i * 3, none⟩ = some (.string ⟨(xs.getD i default).url.toArray⟩) ∧ w.cell? ⟨b, off + i * 3 + 1, none⟩ = some (.int .i64 (xs.getD i default).pri) ∧ w.cell? ⟨b, off + i * 3 + 2, none⟩ = some (.int .i64 (xs.getD i default).wt)
abbrev tV (t : Tg) : Value := .agg #[.string ⟨t.url.toArray⟩, .int .i64 t.pri, .int .i64 t.wt]
abbrev gV (g : Gp) (tv : Value) : Value := .agg #[.string ⟨g.name.toArray⟩, .int .i64 g.age, tv]
theorem TgIn.same {S S' : Nat → Prop} {w w' : World} {v : Value} {xs : List Tg} (h : TgIn S w v xs) (hs : ∀ b, S b → S' b ∧ w'.heap[b]? = w.heap[b]?) : TgIn S' w' v xs := by
  obtain ⟨a, cap, b, off, e, h1, h2, h3, h4, h5⟩ := h
  have hc : ∀ i o, i < xs.length → w'.cell? ⟨b, o, none⟩ = w.cell? ⟨b, o, none⟩ := fun i o hi => World.cell?_of_block (w := w) (a := ⟨b, o, none⟩) (hs b (h4 (Nat.lt_of_le_of_lt (Nat.zero_le i) hi)).2).2
  exact ⟨a, cap, b, off, e, h1, h2, h3, fun hp => ⟨(h4 hp).1, (hs b (h4 hp).2).1⟩, fun i hi => ⟨(hc i _ hi).trans (h5 i hi).1, (hc i _ hi).trans (h5 i hi).2.1, (hc i _ hi).trans (h5 i hi).2.2⟩⟩
theorem TgIn.blw {B : Nat} {w w' : World} {v : Value} {xs : List Tg} (h : TgIn (· < B) w v xs) (hb : Below B w w') : TgIn (· < B) w' v xs := h.same fun b hlt => ⟨hlt, hb.block b hlt⟩
theorem TgIn.mono {S S' : Nat → Prop} {w : World} {v : Value} {xs : List Tg} (h : TgIn S w v xs) (hs : ∀ b, S b → S' b) : TgIn S' w v xs := h.same fun b hb => ⟨hs b hb, rfl⟩
theorem TgIn.later {S : Nat → Prop} {w wx : World} {v : Value} {xs : List Tg} (h : TgIn S w v xs) (hS : ∀ b, S b → b < w.heap.size) (hx : Below w.heap.size w wx) : TgIn (· < wx.heap.size) wx v xs :=
  h.same fun b hb => ⟨Nat.lt_of_lt_of_le (hS b hb) hx.size, hx.block b (hS b hb)⟩
theorem TgIn.slice {S : Nat → Prop} {w : World} {v : Value} {xs : List Tg} (h : TgIn S w v xs) : ∃ a l c, v = .slice a l c := by
  obtain ⟨a', cap', _, _, rfl, _⟩ := h; exact ⟨_, _, _, rfl⟩
theorem cellsTg : Tryz.prog.cellsOf 303 = 3 := by kernel_rfl
theorem cellsGp : Tryz.prog.cellsOf 170 = 3 := by kernel_rfl
theorem cellsStr : Tryz.prog.cellsOf 9 = 1 := by kernel_rfl
theorem cellsInt : Tryz.prog.cellsOf 3 = 1 := by kernel_rfl
theorem cellsTgs : Tryz.prog.cellsOf 168 = 1 := by kernel_rfl
theorem list3 {α : Type} {l : List α} (h : l.length = 3) : ∃ a b c, l = [a, b, c] := by
  match l, h with
  | [a, b, c], _ => exact ⟨a, b, c, rfl⟩
section
variable {H : Type} {enc : TypeId × Value → H} {w : World} {spare : Nat → Bool} {held : Bool}
theorem spot_of {a : Addr} {v : Value} (h : w.cell? (a.add 0) = some v) : a = ⟨a.block, a.off, none⟩ ∧ a.block < w.heap.size := by
  obtain ⟨b, off, spot⟩ := a
  have hs := World.cell?_spot h
  have : spot = none := by simpa [Addr.add] using hs
  subst this
  exact ⟨rfl, by have := World.block_lt_of_cell? _ _ h; simpa [add_plain] using this⟩
set_option maxRecDepth 100000 in
theorem open_tgs {fuel : Nat} {v : Value} {x : DataW H × List MemPlace} (h : DataW.trod enc Tryz.prog w 0 spare held fuel 168 [v] = some x) : ∃ xs, TgIn (· < w.heap.size) w v xs := by
  rcases open_slice Tryz.underlying168 h with ⟨e, _⟩ | ⟨a, len, cap, m, n, D, Pl, e, _, hl, hm, hmm, _, hel⟩
  · simp at e
    exact ⟨[], none, 0, 0, 0, e, by simp, by simp, by simp, by simp, by simp⟩
  · simp at e
    subst e
    have hlm : len ≤ m := by rw [hmm]; split <;> omega
    rw [cellsTg] at hel
    have each : ∀ i, i < len → ∃ y : Tg, w.cell? (a.add (i * 3)) = some (.string ⟨y.url.toArray⟩) ∧ w.cell? (a.add (i * 3 + 1)) = some (.int .i64 y.pri) ∧ w.cell? (a.add (i * 3 + 2)) = some (.int .i64 y.wt) ∧ y.url.length ≤ 9223372036854775807 := fun i hi => by
      obtain ⟨cs', h1, h2⟩ := hel i (by omega)
      obtain ⟨ys, n', _, _, hcl, hyl, hf⟩ := DataW.trod_struct Tryz.underlying303 h2
      rw [cellsTg] at hcl
      obtain ⟨v0, v1, v2, rfl⟩ := list3 hcl
      have hyl' : ys.length = 3 := hyl
      obtain ⟨y0, y1, y2, rfl⟩ := list3 hyl'
      have g0 := hf 0 _ rfl
      have g1 := hf 1 _ rfl
      have g2 := hf 2 _ rfl
      simp [cellsStr, cellsInt] at g0 g1 g2
      obtain ⟨t, a0, -, b0⟩ := DataW.trod_string Tryz.underlying9 g0
      obtain ⟨p, a1, -, b1⟩ := DataW.trod_int Tryz.underlying3 g1
      obtain ⟨q, a2, -, b2⟩ := DataW.trod_int Tryz.underlying3 g2
      simp only [List.cons.injEq, and_true] at a0 a1 a2
      subst a0 a1 a2
      have bt : t.data.toList.length ≤ 9223372036854775807 := by rw [Array.length_toList]; exact b0
      obtain ⟨_, _, hc⟩ := World.cells?_some h1
      simp only [Addr.add_add] at hc
      exact ⟨⟨t.data.toList, p, q⟩, by simpa using hc 0 (by omega), by simpa using hc 1 (by omega), by simpa using hc 2 (by omega), bt⟩
    obtain ⟨Y, hY⟩ := choose_lt each
    have hlen2 : ((List.range len).map Y).length = len := by simp
    have hget : ∀ i, i < len → ((List.range len).map Y).getD i default = Y i := fun i hi => by simp [hi]
    have hadr : ∀ i o, i < len → a.add (i * 3 + o) = ⟨a.block, a.off + i * 3 + o, none⟩ := fun i o hi => by
      obtain ⟨e1, _⟩ := spot_of (hY 0 (by omega)).1
      rw [e1, add_plain]
      simp only [Addr.mk.injEq, true_and, and_true]
      omega
    refine ⟨(List.range len).map Y, some a, cap, a.block, a.off, by rw [hlen2], by rw [hlen2]; exact hl, hm, ?_, ?_, ?_⟩
    · rw [hlen2]; intro i hi; rw [hget i hi]; exact (hY i hi).2.2.2
    · rw [hlen2]; intro hp
      obtain ⟨e1, e2⟩ := spot_of (hY 0 hp).1
      exact ⟨congrArg some e1, e2⟩
    · rw [hlen2]; intro i hi; rw [hget i hi]
      refine ⟨?_, ?_, ?_⟩
      · show w.cell? ⟨a.block, a.off + i * 3 + 0, none⟩ = _; rw [← hadr i 0 hi]; exact (hY i hi).1
      · rw [← hadr i 1 hi]; exact (hY i hi).2.1
      · rw [← hadr i 2 hi]; exact (hY i hi).2.2.1
end
end Go.Proofs.YtmaknkbmilcanaaGreatDoor.Gr
namespace Go.Proofs.YtmaknkbmilcanaaGreatDoor.Gr
open Go.RowKit
open Go.Proofs.YtmaknkbmilcanaaGreatDoor.Ext (up up_below up_mk wp_region_ext call_ext call_ext_same)
@[local go_sem] theorem up_cellG (w : World) (y : Ext.Ext w) (b o : Nat) (h : b < w.heap.size) : (up w y).cell? ⟨b, o, none⟩ = w.cell? ⟨b, o, none⟩ := Ext.up_cell w y b o h
def szR (L : Int) (s : Nat) : Int := if (s : Int) ≤ L then L - s else -1
theorem szR_out {L : Int} {s : Nat} (_ : L < (s : Int)) : szR L s = -1 := by unfold szR; rw [if_neg (by omega)]
theorem szR_in {L : Int} {s : Nat} (h : (s : Int) ≤ L) : szR L s = L - s := by unfold szR; rw [if_pos h]
theorem szR_add {L : Int} {s r : Nat} (_ : (s : Int) ≤ L) : szR L (s + r) = szR (L - s) r := by
  unfold szR
  by_cases h2 : ((s + r : Nat) : Int) ≤ L
  · rw [if_pos h2, if_pos (by omega)]; omega
  · rw [if_neg h2, if_neg (by omega)]
theorem szR_zero {L : Int} (_ : 0 ≤ L) : szR L 0 = L := by unfold szR; rw [if_pos (by omega)]; omega
theorem ret_i {a b : Int} (h : a = b) : Ending.returned (.int .i64 a) = .returned (.int .i64 b) := by rw [h]
theorem ret_b {a b : Bool} (h : a = b) : Ending.returned (.bool a) = .returned (.bool b) := by rw [h]
theorem belI_step {w Y Z : World} (h : Below w.heap.size w Y) (hb : Below Y.heap.size Y Z) : Below w.heap.size w Z := h.trans (hb.mono h.size)
theorem szTg_any (t : Tg) (L : Int) (W : World) (h0 : 0 ≤ L) (h1 : L ≤ 1048576) (hl : t.url.length ≤ 9223372036854775807) :
    Calls Tryz.prog 330 #[tV t, .int .i64 L] W fun e w' => e = .returned (.int .i64 (szR L t.url.length)) ∧ Below W.heap.size W w' := by
  by_cases hs : (t.url.length : Int) ≤ L
  · have E := Lib.hid (szR_in hs)
    have g1 : decide (L - (t.url.length : Int) < 0) = false := by simp; omega
    go_enter Tryz.func330, Tryz.ntmps330
    go_wp2
    go_ret
    exact ⟨ret_i (by rw [E.out]), (Below.refl _ _).alloc (Nat.le_refl _) _⟩
  · have E := Lib.hid (szR_out (L := L) (s := t.url.length) (by omega))
    have g1 : decide (L - (t.url.length : Int) < 0) = true := by simp; omega
    go_enter Tryz.func330, Tryz.ntmps330
    go_wp2
    go_ret
    exact ⟨ret_i (by rw [E.out]), (Below.refl _ _).alloc (Nat.le_refl _) _⟩
set_option maxHeartbeats 1000000 in
theorem szTs_any (B : Nat) (w0 : World) (xs : List Tg) (v : Value) (h : TgIn (· < B) w0 v xs) (L : Int) (W : World) (hb : Below B w0 W) (hB : B ≤ W.heap.size) (h0 : 0 ≤ L) (h1 : L ≤ 1048576) :
    Calls Tryz.prog 271 #[v, .int .i64 L] W fun e w' => e = .returned (.int .i64 (szR L (xs.length + szU xs))) ∧ Below W.heap.size W w' := by
  obtain ⟨a, cap, b, off, rfl, hcap, hm, hlen, ha, hc⟩ := h
  have hn : xs.length ≤ 9223372036854775807 := by omega
  have HC := Lib.hid hc
  have HL := Lib.hid hlen
  have HA := Lib.hid ha
  have HB := Lib.hid hb
  clear hc hlen ha hb
  by_cases hs : (xs.length : Int) ≤ L
  · have E := Lib.hid (szR_add (r := szU xs) hs)
    have g1 : decide (L - (xs.length : Int) < 0) = false := by simp; omega
    go_enter Tryz.func271, Tryz.ntmps271
    go_wp2
    go_loopw [1, 5] (fun l i wr => ∃ (k : Nat) (m : Int), k ≤ xs.length ∧ i = .int .i64 k ∧ l = .int .i64 m ∧ 0 ≤ m ∧ m ≤ L ∧ szR (L - (xs.length : Int)) (szU xs) = szR m (szU (xs.drop k)) ∧ Below W.heap.size W wr) (fun _ i _ => xs.length - (intOf i).toNat)
    case atStart => exact ⟨0, _, by omega, rfl, rfl, by omega, by omega, rfl, Below.refl _ _⟩
    case round =>
      obtain ⟨k, m, hk, rfl, rfl, hm0, hm1, hE, hR⟩ := hrel
      have HE := Lib.hid hE
      have hR1 := HB.out.trans (hR.mono hB)
      have HR := Lib.hid hR
      have HR1 := Lib.hid hR1
      clear hE hR hR1
      by_cases hlt : k < xs.length
      · obtain ⟨ea, hlb⟩ := HA.out (by omega)
        subst ea
        obtain ⟨c0, c1, c2⟩ := HC.out k hlt
        have q0 := (HR1.out.cell (p := ⟨b, off + k * 3, none⟩) hlb).trans c0
        have q1 := (HR1.out.cell (p := ⟨b, off + k * 3 + 1, none⟩) hlb).trans c1
        have q2 := (HR1.out.cell (p := ⟨b, off + k * 3 + 2, none⟩) hlb).trans c2
        have D := Lib.hid (szU_drop k hlt)
        have HK := Lib.hid (szTg_any (xs.getD k default) m wr hm0 (by omega) (HL.out k hlt))
        clear c0 c1 c2
        generalize xs.getD k default = x at *
        obtain ⟨r, hr⟩ : ∃ r, szR m x.url.length = r := ⟨_, rfl⟩
        have F := Lib.hid hr
        rw [hr] at HK
        clear hr
        go_wp2_with fail
        refine HK.out.mono ?_
        rintro e w2 ⟨rfl, hb2⟩
        have hR3 : Below W.heap.size W w2 := belI_step HR.out hb2
        by_cases hx : m < (x.url.length : Int)
        · have g2 : decide (r < 0) = true := by rw [← F.out, szR_out hx]; rfl
          have G := Lib.hid (szR_out (L := m) (s := x.url.length + szU (xs.drop (k + 1))) (by omega))
          clear hx
          go_wp2
          go_ret
          exact ⟨ret_i (by rw [E.out, HE.out, D.out, G.out]), hR3⟩
        · have hr2 : r = m - x.url.length := by rw [← F.out, szR_in (by omega)]
          have g2 : decide (r < 0) = false := by rw [hr2]; simp; omega
          have G := Lib.hid (szR_add (r := szU (xs.drop (k + 1))) (show (x.url.length : Int) ≤ m by omega))
          have hr0 : 0 ≤ r ∧ r ≤ L := by omega
          rw [← hr2] at G
          clear hx hr2
          go_wp2
          go_roundw
          case rel => exact ⟨k + 1, r, by omega, by go_num, rfl, hr0.1, hr0.2, by rw [HE.out, D.out, G.out], hR3⟩
          case measure => simp [intOf]; omega
      · go_wp2
        go_ret
        obtain rfl : k = xs.length := by omega
        exact ⟨ret_i (by rw [E.out, HE.out, List.drop_length]; exact (szR_zero hm0).symm), HR.out⟩
  · have E := Lib.hid (szR_out (L := L) (s := xs.length + szU xs) (by omega))
    have g1 : decide (L - (xs.length : Int) < 0) = true := by simp; omega
    go_enter Tryz.func271, Tryz.ntmps271
    go_wp2
    go_ret
    exact ⟨ret_i (by rw [E.out]), Below.refl _ _⟩
set_option maxHeartbeats 1000000 in
theorem szG_any (B : Nat) (w0 : World) (g : Gp) (tv : Value) (h : TgIn (· < B) w0 tv g.tgs) (hn : g.name.length ≤ 9223372036854775807) (L : Int) (W : World) (hb : Below B w0 W) (hB : B ≤ W.heap.size) (h0 : 0 ≤ L) (h1 : L ≤ 1048576) :
    Calls Tryz.prog 194 #[gV g tv, .int .i64 L] W fun e w' => e = .returned (.int .i64 (szR L (szG g))) ∧ Below W.heap.size W w' := by
  have HB := Lib.hid hb
  have SL := Lib.hid (fun L W' h2 h3 => szTs_any B w0 g.tgs tv h L W' h2 h3)
  clear h hb
  unfold szG
  by_cases hs : (g.name.length : Int) ≤ L
  · have E1 := Lib.hid (szR_add (r := g.tgs.length + szU g.tgs) hs)
    have g1 : decide (L - (g.name.length : Int) < 0) = false := by simp; omega
    have SL1 := Lib.hid (fun W' h2 h3 => SL.out (L - (g.name.length : Int)) W' h2 h3 (by omega) (by omega))
    obtain ⟨r, hr⟩ : ∃ r, szR (L - (g.name.length : Int)) (g.tgs.length + szU g.tgs) = r := ⟨_, rfl⟩
    rw [hr] at SL1
    have F := Lib.hid hr
    clear hr SL
    go_enter Tryz.func194, Tryz.ntmps194
    go_wp2_with fail
    refine (SL1.out _ (HB.out.alloc hB _) (by simp; omega)).mono ?_
    rintro e w2 ⟨rfl, hb2⟩
    have hB3 : Below W.heap.size W w2 := ((Below.refl _ _).alloc (Nat.le_refl _) _).trans (hb2.mono (by simp))
    clear hb2
    go_wp2
    all_goals
      go_ret
      refine ⟨ret_i ?_, hB3⟩
      have h5 := F.out
      have h6 := E1.out.trans F.out
      rcases Decidable.em (((g.tgs.length + szU g.tgs : Nat) : Int) ≤ L - (g.name.length : Int)) with hh | hh
      · rw [szR_in hh] at h5; omega
      · rw [szR_out (by omega)] at h5; omega
  · have E := Lib.hid (szR_out (L := L) (s := g.name.length + (g.tgs.length + szU g.tgs)) (by omega))
    have g1 : decide (L - (g.name.length : Int) < 0) = true := by simp; omega
    go_enter Tryz.func194, Tryz.ntmps194
    go_wp2
    go_ret
    exact ⟨ret_i (by rw [E.out]), (Below.refl _ _).alloc (Nat.le_refl _) _⟩
end Go.Proofs.YtmaknkbmilcanaaGreatDoor.Gr
namespace Go.Proofs.YtmaknkbmilcanaaGreatDoor.Gr
open Go.RowKit
theorem Tryz.infoT : (Tryz.prog.info? 85).map (fun i => (i.zero, i.size, i.bytes)) = some (some (.agg #[.string ByteArray.empty, .int .i64 0, .int .i64 0]), 3, 32) := by kernel_rfl
def TRel (W : World) (xs : List Tg) (k : Nat) (wr : World) : Prop :=
  ∃ (F : Nat → Value), wr.rowIs W.heap.size 85 (xs.length * 3) F ∧
    (∀ i, i < k → F (i * 3) = .string ⟨(xs.getD i default).url.toArray⟩ ∧ F (i * 3 + 1) = .int .i64 (xs.getD i default).pri ∧ F (i * 3 + 2) = .int .i64 (xs.getD i default).wt) ∧ Below W.heap.size W wr
theorem run_makeT (n : Nat) (hn : n ≤ 1048576) (w : World) : (Instr.makeSlice 80 (.int .i64 (n : Int)) (.int .i64 (n : Int))).run Tryz.prog w = .ok (.slice (some ⟨w.heap.size, 0, none⟩) n n) (w.alloc (.cells (madeCells #[.string ByteArray.empty, .int .i64 0, .int .i64 0] (n * 3)) 85)) := by
  obtain ⟨i0, hi, hz0, hz1, hz2⟩ := info_parts Tryz.infoT
  have h := run_make (P := Tryz.prog) w 80 85 i0 _ Tryz.underlying80 hi hz0 .i64 .i64 n n (by omega) (by omega) (by rw [hz2]; omega) (by omega)
  rw [hz1] at h
  simpa [Value.cells] using h
theorem tRel_start (W : World) (xs : List Tg) : TRel W xs 0 (W.alloc (.cells (madeCells #[.string ByteArray.empty, .int .i64 0, .int .i64 0] (xs.length * 3)) 85)) := by
  refine ⟨fun i => #[.string ByteArray.empty, .int .i64 0, .int .i64 0][i % 3]!, ?_, fun i hi => by omega, (Below.refl _ _).alloc (Nat.le_refl _) _⟩
  exact ⟨_, heap_alloc_new _ _, size_madeCells _ _, fun i hi => by simp [madeCells, hi]⟩
abbrev set3 (w : World) (g o : Nat) (a b c : Value) : World := ((w.setCell ⟨g, o, none⟩ a).setCell ⟨g, o + 1, none⟩ b).setCell ⟨g, o + 2, none⟩ c
theorem tRel_step {W wr w2 : World} {xs : List Tg} {k : Nat} {x : Tg} {F : Nat → Value} (hx : xs.getD k default = x) (hr : w2.rowIs W.heap.size 85 (xs.length * 3) F)
    (hf : ∀ i, i < k → F (i * 3) = .string ⟨(xs.getD i default).url.toArray⟩ ∧ F (i * 3 + 1) = .int .i64 (xs.getD i default).pri ∧ F (i * 3 + 2) = .int .i64 (xs.getD i default).wt) (hN : Below W.heap.size W wr) (hlt : W.heap.size < wr.heap.size) (hb2 : Below wr.heap.size wr w2) :
    TRel W xs (k + 1) (set3 w2 W.heap.size (k * 3) (.string ⟨x.url.toArray⟩) (.int .i64 x.pri) (.int .i64 x.wt)) := by
  refine ⟨fun j => if j = k * 3 + 2 then .int .i64 x.wt else if j = k * 3 + 1 then .int .i64 x.pri else if j = k * 3 then .string ⟨x.url.toArray⟩ else F j, ((hr.set _ _).set _ _).set _ _, fun i hi => ?_, ?_⟩
  · by_cases e : i = k
    · subst e
      rw [hx]
      refine ⟨?_, ?_, ?_⟩ <;> simp
    · obtain ⟨f0, f1, f2⟩ := hf i (by omega)
      refine ⟨?_, ?_, ?_⟩ <;> dsimp only
      · rw [if_neg (by omega), if_neg (by omega), if_neg (by omega), f0]
      · rw [if_neg (by omega), if_neg (by omega), if_neg (by omega), f1]
      · rw [if_neg (by omega), if_neg (by omega), if_neg (by omega), f2]
  · have hb3 : Below W.heap.size W w2 := hN.trans (hb2.mono (by omega))
    exact ((hb3.setCell (by simp) _).setCell (by simp) _).setCell (by simp) _
theorem three_cells {w : World} {g : Nat} {a b c : Value} {T : TypeId} (h : w.heap[g]? = some (.cells #[a, b, c] T (0, 0))) :
    w.cell? ⟨g, 0, none⟩ = some a ∧ w.cell? ⟨g, 1, none⟩ = some b ∧ w.cell? ⟨g, 2, none⟩ = some c ∧ ∀ o, w.frozen? ⟨g, o, none⟩ = false :=
  ⟨cell_of_row w g 0 _ _ _ h, cell_of_row w g 1 _ _ _ h, cell_of_row w g 2 _ _ _ h, fun o => frozen_of_row w g o _ _ h⟩
theorem alloc3_0 (W : World) (a b c : Obj) : (((W.alloc a).alloc b).alloc c).heap[W.heap.size]? = some a := by
  rw [heap_alloc_old _ _ (by simp; omega), heap_alloc_old _ _ (by simp), heap_alloc_new]
theorem alloc3_1 (W : World) (a b c : Obj) : (((W.alloc a).alloc b).alloc c).heap[W.heap.size + 1]? = some b := by
  rw [heap_alloc_old _ _ (by simp)]; exact heap_alloc2_new W a b
theorem alloc3_2 (W : World) (a b c : Obj) : (((W.alloc a).alloc b).alloc c).heap[W.heap.size + 1 + 1]? = some c := by
  have := heap_alloc2_new (W.alloc a) b c
  simpa using this
theorem heap_set {w : World} {b : Nat} {C : Array Value} {T : TypeId} {fr : Nat × Nat} (hb : w.heap[b]? = some (.cells C T fr)) (o : Nat) (v : Value) : (w.setCell ⟨b, o, none⟩ v).heap[b]? = some (.cells (C.setIfInBounds o v) T fr) := by
  simp [World.setCell, Array.getElem?_modify, hb]
theorem ret_T {fn : Func} {a B : Nat} {tmps : Array Value} {X : World} {c0 c1 c2 : Value} {T : TypeId} (hres : fn.results = #[.cell a 85]) (ha : tmps[a]?.getD undef = .pointer (some ⟨B, 0, none⟩)) (h : X.heap[B]? = some (.cells #[c0, c1, c2] T (0, 0))) :
    (results fn tmps).run Tryz.prog X = .ok (.agg #[c0, c1, c2]) X := by
  obtain ⟨k0, k1, k2, _⟩ := three_cells h
  simp [results, hres, ha, go_sem, k0, k1, k2]
theorem ret_G {fn : Func} {a B : Nat} {tmps : Array Value} {X : World} {c0 c1 c2 : Value} {T : TypeId} (hres : fn.results = #[.cell a 82]) (ha : tmps[a]?.getD undef = .pointer (some ⟨B, 0, none⟩)) (h : X.heap[B]? = some (.cells #[c0, c1, c2] T (0, 0))) :
    (results fn tmps).run Tryz.prog X = .ok (.agg #[c0, c1, c2]) X := by
  obtain ⟨k0, k1, k2, _⟩ := three_cells h
  simp [results, hres, ha, go_sem, k0, k1, k2]
set_option maxHeartbeats 1000000 in
theorem toTg_any (t : Tg) (W : World) : Calls Tryz.prog 332 #[tV t] W fun e w' => e = .returned (tV t) ∧ Below W.heap.size W w' := by
  go_enter Tryz.func332, Tryz.ntmps332
  have hf : ((((W.alloc (.cells #[.string ⟨t.url.toArray⟩, .int .i64 t.pri, .int .i64 t.wt] 303)).alloc (.cells #[.string ⟨t.url.toArray⟩, .int .i64 t.pri, .int .i64 t.wt] 85)).alloc (.cells #[.string ⟨t.url.toArray⟩, .int .i64 t.pri, .int .i64 t.wt] 85))).heap[W.heap.size + 1]? = some (.cells #[.string ⟨t.url.toArray⟩, .int .i64 t.pri, .int .i64 t.wt] 85) := alloc3_1 W _ _ _
  go_wp2
  exact bodyPost_ret (ret_T Tryz.results332 rfl hf) rfl ⟨rfl, (((Below.refl _ _).alloc (Nat.le_refl _) _).alloc (by simp) _).alloc (by simp; omega) _⟩
end Go.Proofs.YtmaknkbmilcanaaGreatDoor.Gr
namespace Go.Proofs.YtmaknkbmilcanaaGreatDoor.Gr
open Go.RowKit
theorem belI_alloc {w Y : World} {o : Obj} (h : Below w.heap.size w Y) : Below w.heap.size w (Y.alloc o) := h.alloc h.size o
set_option maxRecDepth 100000 in
set_option maxHeartbeats 2000000 in
theorem eqTg_self (t : Tg) (W : World) : Calls Tryz.prog 336 #[tV t, tV t] W fun e w' => e = .returned (.bool true) ∧ Below W.heap.size W w' := by
  obtain ⟨u, p, q⟩ := t
  have e1 : (u == u) = true := by simp
  have e2 : (u != u) = false := by simp
  have e3 : (p == p) = true := by simp
  have e4 : (p != p) = false := by simp
  have e5 : (q == q) = true := by simp
  have e6 : (q != q) = false := by simp
  go_enter Tryz.func336, Tryz.ntmps336
  go_wp2
  go_ret
  exact ⟨rfl, ((Below.refl _ _).alloc (Nat.le_refl _) _).alloc (by simp) _⟩
set_option maxRecDepth 100000 in
set_option maxHeartbeats 2000000 in
theorem eqTs_self (B : Nat) (w0 : World) (xs : List Tg) (v u : Value) (h1 : TgIn (· < B) w0 v xs) (h2 : TgIn (· < B) w0 u xs) (W : World) (hb : Below B w0 W) (hB : B ≤ W.heap.size) :
    Calls Tryz.prog 289 #[v, u] W fun e w' => e = .returned (.bool true) ∧ Below W.heap.size W w' := by
  obtain ⟨a, cap, b, off, rfl, hcap, hm, hlen, ha, hc⟩ := h1
  obtain ⟨a', cap', b', off', rfl, hcap', hm', hlen', ha', hc'⟩ := h2
  have hn : xs.length ≤ 9223372036854775807 := by omega
  have HC := Lib.hid hc
  have HA := Lib.hid ha
  have HC' := Lib.hid hc'
  have HA' := Lib.hid ha'
  have HB := Lib.hid hb
  clear hc ha hc' ha' hb hlen hlen'
  have g1 : ((xs.length : Int) != (xs.length : Int)) = false := by simp
  go_enter Tryz.func289, Tryz.ntmps289
  go_wp2
  go_loopw [5] (fun i wr => ∃ k : Nat, k ≤ xs.length ∧ i = .int .i64 k ∧ Below W.heap.size W wr) (fun i _ => xs.length - (intOf i).toNat)
  case atStart => exact ⟨0, by omega, rfl, Below.refl _ _⟩
  case round =>
    obtain ⟨k, hk, rfl, hR⟩ := hrel
    by_cases hlt : k < xs.length
    · obtain ⟨ea, hlb⟩ := HA.out (by omega)
      obtain ⟨ea', hlb'⟩ := HA'.out (by omega)
      subst ea ea'
      have hW := HB.out.trans (hR.mono hB)
      have hWB : B ≤ wr.heap.size := Nat.le_trans hB hR.size
      obtain ⟨c0, c1, c2⟩ := HC.out k hlt
      obtain ⟨c0', c1', c2'⟩ := HC'.out k hlt
      have q0 := (hW.cell (p := ⟨b, off + k * 3, none⟩) hlb).trans c0
      have q1 := (hW.cell (p := ⟨b, off + k * 3 + 1, none⟩) hlb).trans c1
      have q2 := (hW.cell (p := ⟨b, off + k * 3 + 2, none⟩) hlb).trans c2
      have r0 := (hW.cell (p := ⟨b', off' + k * 3, none⟩) hlb').trans c0'
      have r1 := (hW.cell (p := ⟨b', off' + k * 3 + 1, none⟩) hlb').trans c1'
      have r2 := (hW.cell (p := ⟨b', off' + k * 3 + 2, none⟩) hlb').trans c2'
      clear c0 c1 c2 c0' c1' c2' hW
      generalize xs.getD k default = x at *
      go_wp2_with fail
      go_region_held3 (fun wx => wx.cell? ⟨b, off + k * 3, none⟩ = some (.string ⟨x.url.toArray⟩) ∧ wx.cell? ⟨b, off + k * 3 + 1, none⟩ = some (.int .i64 x.pri) ∧ wx.cell? ⟨b, off + k * 3 + 2, none⟩ = some (.int .i64 x.wt) ∧ wx.cell? ⟨b', off' + k * 3, none⟩ = some (.string ⟨x.url.toArray⟩) ∧ wx.cell? ⟨b', off' + k * 3 + 1, none⟩ = some (.int .i64 x.pri) ∧ wx.cell? ⟨b', off' + k * 3 + 2, none⟩ = some (.int .i64 x.wt) ∧ Below W.heap.size W wx)
        (first
          | (simp [*, Below.drew]; done)
          | (go_split_ands
             have hz : B ≤ _ := Nat.le_trans hB (Below.size (by assumption))
             refine ⟨?_, ?_, ?_, ?_, ?_, ?_, belI_step (by assumption) hb⟩
             · (rw [hb.cell (p := ⟨b, off + k * 3, none⟩) (Nat.lt_of_lt_of_le hlb hz)]; assumption)
             · (rw [hb.cell (p := ⟨b, off + k * 3 + 1, none⟩) (Nat.lt_of_lt_of_le hlb hz)]; assumption)
             · (rw [hb.cell (p := ⟨b, off + k * 3 + 2, none⟩) (Nat.lt_of_lt_of_le hlb hz)]; assumption)
             · (rw [hb.cell (p := ⟨b', off' + k * 3, none⟩) (Nat.lt_of_lt_of_le hlb' hz)]; assumption)
             · (rw [hb.cell (p := ⟨b', off' + k * 3 + 1, none⟩) (Nat.lt_of_lt_of_le hlb' hz)]; assumption)
             · (rw [hb.cell (p := ⟨b', off' + k * 3 + 2, none⟩) (Nat.lt_of_lt_of_le hlb' hz)]; assumption)))
        (first
          | (go_split_ands; go_at_call 336; refine (eqTg_self x _).mono ?_; rintro e w1 ⟨rfl, hb⟩))
      go_split_ands
      rename_i hNW
      have HN := Lib.hid hNW
      clear hNW
      go_wp2
      go_roundw
      case rel => exact ⟨k + 1, by omega, by go_num, HN.out⟩
      case measure => simp [intOf]; omega
    · go_wp2
      go_ret
      exact ⟨rfl, hR⟩
set_option maxRecDepth 100000 in
set_option maxHeartbeats 2000000 in
theorem eqG_self (B : Nat) (w0 : World) (g : Gp) (v u : Value) (h1 : TgIn (· < B) w0 v g.tgs) (h2 : TgIn (· < B) w0 u g.tgs) (W : World) (hb : Below B w0 W) (hB : B ≤ W.heap.size) :
    Calls Tryz.prog 215 #[gV g v, gV g u] W fun e w' => e = .returned (.bool true) ∧ Below W.heap.size W w' := by
  obtain ⟨n, k, xs⟩ := g
  have HK := Lib.hid (fun W h2' h3' => eqTs_self B w0 xs v u h1 h2 W h2' h3')
  obtain ⟨a1, l1, cc1, rfl⟩ := h1.slice
  obtain ⟨a2, l2, cc2, rfl⟩ := h2.slice
  have HB := Lib.hid hb
  clear h1 h2 hb
  have e1 : (n == n) = true := by simp
  have e2 : (n != n) = false := by simp
  have e3 : (k == k) = true := by simp
  have e4 : (k != k) = false := by simp
  go_enter Tryz.func215, Tryz.ntmps215
  go_wp2_with fail
  refine (HK.out _ ((HB.out.alloc hB _).alloc (by simp; omega) _) (by simp; omega)).mono ?_
  rintro e w1 ⟨rfl, hb1⟩
  have hf : Below W.heap.size W w1 := (((Below.refl W.heap.size W).alloc (Nat.le_refl _) _).alloc (by simp) _).trans (hb1.mono (by simp; omega))
  clear hb1
  go_wp2
  go_ret
  exact ⟨rfl, hf⟩
end Go.Proofs.YtmaknkbmilcanaaGreatDoor.Gr
