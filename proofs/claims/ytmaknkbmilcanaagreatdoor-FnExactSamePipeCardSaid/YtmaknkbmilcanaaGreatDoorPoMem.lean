
/-
  Rules and policies as plain data, and in memory; an argument of type laws.Policy, opened. The laws' helpers on rules and policies: their size. The laws' copies of rules and policies: toRule, toRuleS, toPolicy: new memory that holds the same. The laws' toPolicy, and their comparisons of a thing with its like: eqRule, eqRuleS, eqPolicy answer true.
-/
import Derived.Test.YtmaknkbmilcanaaGreatDoorTx
import Derived.Test.YtmaknkbmilcanaaGreatDoorExt
namespace Go.Proofs.YtmaknkbmilcanaaGreatDoor.Po
open Go.RowKit
open Go.Proofs.YtmaknkbmilcanaaGreatDoor.Tx
open Go.ChangeShapes Go.WideShapes Go.ChangeAt Go.Deep
structure Rl where
  name : List UInt8
  words : List (List UInt8)
deriving DecidableEq
instance : Inhabited Rl := ⟨⟨[], []⟩⟩
structure Pl where
  rep : List UInt8
  uris : List (List UInt8)
  rules : List Rl
def szL (r : Rl) : Nat := r.name.length + (r.words.length + szT r.words)
def szLs : List Rl → Nat
  | [] => 0
  | r :: rs => szL r + szLs rs
def szP (p : Pl) : Nat := p.rep.length + ((p.uris.length + szT p.uris) + (p.rules.length + szLs p.rules))
theorem szLs_drop {xs : List Rl} (k : Nat) (hx : k < xs.length) : szLs (xs.drop k) = szL (xs.getD k default) + szLs (xs.drop (k + 1)) := by
  rw [List.drop_eq_getElem_cons hx]; simp [szLs, hx]
/-- v is a slice of the rules xs, in blocks of S -/
def RlIn (S : Nat → Prop) (w : World) (v : Value) (xs : List Rl) : Prop :=
  ∃ (a : Option Addr) (cap b off : Nat) (vs : Nat → Value), v = .slice a xs.length cap ∧ xs.length ≤ cap ∧ cap ≤ 9223372036854775807 ∧ (∀ i, i < xs.length → (xs.getD i default).name.length ≤ 9223372036854775807) ∧
    (0 < xs.length → a = some ⟨b, off, none⟩ ∧ S b) ∧
    ∀ i, i < xs.length → w.cell? ⟨b, off + i * 2, none⟩ = some (.string ⟨(xs.getD i default).name.toArray⟩) ∧ w.cell? ⟨b, off + i * 2 + 1, none⟩ = some (vs i) ∧ TxtsIn S w (vs i) (xs.getD i default).words
abbrev rV (r : Rl) (v : Value) : Value := .agg #[.string ⟨r.name.toArray⟩, v]
abbrev pV (p : Pl) (uv rv : Value) : Value := .agg #[.string ⟨p.rep.toArray⟩, uv, rv]
theorem RlIn.same {S S' : Nat → Prop} {w w' : World} {v : Value} {xs : List Rl} (h : RlIn S w v xs) (hs : ∀ b, S b → S' b ∧ w'.heap[b]? = w.heap[b]?) : RlIn S' w' v xs := by
  obtain ⟨a, cap, b, off, vs, e, h1, h2, h3, h4, h5⟩ := h
  have hc : ∀ i o, i < xs.length → w'.cell? ⟨b, o, none⟩ = w.cell? ⟨b, o, none⟩ := fun i o hi => World.cell?_of_block (w := w) (a := ⟨b, o, none⟩) (hs b (h4 (Nat.lt_of_le_of_lt (Nat.zero_le i) hi)).2).2
  exact ⟨a, cap, b, off, vs, e, h1, h2, h3, fun hp => ⟨(h4 hp).1, (hs b (h4 hp).2).1⟩, fun i hi => ⟨(hc i _ hi).trans (h5 i hi).1, (hc i _ hi).trans (h5 i hi).2.1, (h5 i hi).2.2.same hs⟩⟩
theorem RlIn.blw {B : Nat} {w w' : World} {v : Value} {xs : List Rl} (h : RlIn (· < B) w v xs) (hb : Below B w w') : RlIn (· < B) w' v xs := h.same fun b hlt => ⟨hlt, hb.block b hlt⟩
theorem RlIn.mono {S S' : Nat → Prop} {w : World} {v : Value} {xs : List Rl} (h : RlIn S w v xs) (hs : ∀ b, S b → S' b) : RlIn S' w v xs := h.same fun b hb => ⟨hs b hb, rfl⟩
theorem RlIn.later {S : Nat → Prop} {w wx : World} {v : Value} {xs : List Rl} (h : RlIn S w v xs) (hS : ∀ b, S b → b < w.heap.size) (hx : Below w.heap.size w wx) : RlIn (· < wx.heap.size) wx v xs :=
  h.same fun b hb => ⟨Nat.lt_of_lt_of_le (hS b hb) hx.size, hx.block b (hS b hb)⟩
theorem RlIn.slice {S : Nat → Prop} {w : World} {v : Value} {xs : List Rl} (h : RlIn S w v xs) : ∃ a l c, v = .slice a l c := by
  obtain ⟨a', cap', _, _, _, rfl, _⟩ := h; exact ⟨_, _, _, rfl⟩
theorem cellsRl : Tryz.prog.cellsOf 236 = 2 := by kernel_rfl
theorem cellsPl : Tryz.prog.cellsOf 26 = 3 := by kernel_rfl
theorem cellsRls : Tryz.prog.cellsOf 24 = 1 := by kernel_rfl
theorem list3 {α : Type} {l : List α} (h : l.length = 3) : ∃ a b c, l = [a, b, c] := by
  match l, h with
  | [a, b, c], _ => exact ⟨a, b, c, rfl⟩
theorem list2 {α : Type} {l : List α} (h : l.length = 2) : ∃ a b, l = [a, b] := by
  match l, h with
  | [a, b], _ => exact ⟨a, b, rfl⟩
section
variable {H : Type} {enc : TypeId × Value → H} {w : World} {spare : Nat → Bool} {held : Bool}
set_option maxRecDepth 100000 in
theorem open_rls {fuel : Nat} {v : Value} {x : DataW H × List MemPlace} (h : DataW.trod enc Tryz.prog w 0 spare held fuel 24 [v] = some x) : ∃ xs, RlIn (· < w.heap.size) w v xs := by
  rcases open_slice Tryz.underlying24 h with ⟨e, _⟩ | ⟨a, len, cap, m, n, D, Pl, e, _, hl, hm, hmm, _, hel⟩
  · simp at e
    exact ⟨[], none, 0, 0, 0, fun _ => undef, e, by simp, by simp, by simp, by simp, by simp⟩
  · simp at e
    subst e
    have hlm : len ≤ m := by rw [hmm]; split <;> omega
    rw [cellsRl] at hel
    have each : ∀ i, i < len → ∃ y : Rl × Value, w.cell? (a.add (i * 2)) = some (.string ⟨y.1.name.toArray⟩) ∧ w.cell? (a.add (i * 2 + 1)) = some y.2 ∧ TxtsIn (· < w.heap.size) w y.2 y.1.words ∧ y.1.name.length ≤ 9223372036854775807 := fun i hi => by
      obtain ⟨cs', h1, h2⟩ := hel i (by omega)
      obtain ⟨ys, n', _, _, hcl, hyl, hf⟩ := DataW.trod_struct Tryz.underlying236 h2
      rw [cellsRl] at hcl
      obtain ⟨v0, v1, rfl⟩ := list2 hcl
      have hyl' : ys.length = 2 := hyl
      obtain ⟨y0, y1, rfl⟩ := list2 hyl'
      have g0 := hf 0 _ rfl
      have g1 := hf 1 _ rfl
      simp [cellsStr, cellsTxts] at g0 g1
      obtain ⟨t, a0, -, b0⟩ := DataW.trod_string Tryz.underlying9 g0
      obtain ⟨ns, hns⟩ := open_txts g1
      simp only [List.cons.injEq, and_true] at a0
      subst a0
      have bt : t.data.toList.length ≤ 9223372036854775807 := by rw [Array.length_toList]; exact b0
      obtain ⟨_, _, hc⟩ := World.cells?_some h1
      simp only [Addr.add_add] at hc
      exact ⟨(⟨t.data.toList, ns⟩, v1), by simpa using hc 0 (by omega), by simpa using hc 1 (by omega), hns, bt⟩
    obtain ⟨Y, hY⟩ := choose_lt each
    have hlen2 : ((List.range len).map fun i => (Y i).1).length = len := by simp
    have hget : ∀ i, i < len → ((List.range len).map fun i => (Y i).1).getD i default = (Y i).1 := fun i hi => by simp [hi]
    have hadr : ∀ i o, i < len → a.add (i * 2 + o) = ⟨a.block, a.off + i * 2 + o, none⟩ := fun i o hi => by
      obtain ⟨e1, _⟩ := spot_of (hY 0 (by omega)).1
      rw [e1, add_plain]
      simp only [Addr.mk.injEq, true_and, and_true]
      omega
    refine ⟨(List.range len).map fun i => (Y i).1, some a, cap, a.block, a.off, fun i => (Y i).2, by rw [hlen2], by rw [hlen2]; exact hl, hm, ?_, ?_, ?_⟩
    · rw [hlen2]; intro i hi; rw [hget i hi]; exact (hY i hi).2.2.2
    · rw [hlen2]; intro hp
      obtain ⟨e1, e2⟩ := spot_of (hY 0 hp).1
      exact ⟨congrArg some e1, e2⟩
    · rw [hlen2]; intro i hi; rw [hget i hi]
      refine ⟨?_, ?_, (hY i hi).2.2.1⟩
      · show w.cell? ⟨a.block, a.off + i * 2 + 0, none⟩ = _; rw [← hadr i 0 hi]; exact (hY i hi).1
      · rw [← hadr i 1 hi]; exact (hY i hi).2.1
end
end Go.Proofs.YtmaknkbmilcanaaGreatDoor.Po
namespace Go.Proofs.YtmaknkbmilcanaaGreatDoor.Po
open Go.RowKit
open Go.Proofs.YtmaknkbmilcanaaGreatDoor.Tx
theorem belI_step {w Y Z : World} (h : Below w.heap.size w Y) (hb : Below Y.heap.size Y Z) : Below w.heap.size w Z := h.trans (hb.mono h.size)
theorem belI_alloc {w Y : World} {o : Obj} (h : Below w.heap.size w Y) : Below w.heap.size w (Y.alloc o) := h.alloc h.size o
theorem belI_drewN {w Y : World} (h : Below w.heap.size w Y) (n : Nat) : Below w.heap.size w (Y.drewN n) := ⟨h.os, h.tape, h.output, h.size, h.block⟩
theorem belDrew {B : Nat} {a w : World} (h : Below B a w) (n : Nat) : Below B a (w.drewN n) := ⟨h.os, h.tape, h.output, h.size, h.block⟩
set_option maxHeartbeats 1000000 in
theorem szRl_any (B : Nat) (w0 : World) (r : Rl) (v : Value) (h : TxtsIn (· < B) w0 v r.words) (L : Int) (W : World) (hb : Below B w0 W) (hB : B ≤ W.heap.size) (h0 : 0 ≤ L) (h1 : L ≤ 1048576) (hn : r.name.length ≤ 9223372036854775807) :
    Calls Tryz.prog 197 #[rV r v, .int .i64 L] W fun e w' => e = .returned (.int .i64 (szR L (szL r))) ∧ Below W.heap.size W w' := by
  obtain ⟨n, ns⟩ := r
  simp only at h hn
  have HB := Lib.hid hb
  have SL := Lib.hid (fun L W' (h2 : Below B w0 W') => szT_any (· < B) ns v L W' (h.blw h2))
  obtain ⟨a1, l1, c1, rfl⟩ := h.slice
  clear h hb
  unfold szL
  simp only
  by_cases hs : (n.length : Int) ≤ L
  · have E1 := Lib.hid (szR_add (r := ns.length + szT ns) hs)
    have g1 : decide (L - (n.length : Int) < 0) = false := by simp; omega
    have SL1 := Lib.hid (fun W' h2 => SL.out (L - (n.length : Int)) W' h2 (by omega) (by omega))
    obtain ⟨r, hr⟩ : ∃ r, szR (L - (n.length : Int)) (ns.length + szT ns) = r := ⟨_, rfl⟩
    rw [hr] at SL1
    have F := Lib.hid hr
    clear hr SL
    go_enter Tryz.func197, Tryz.ntmps197
    go_wp2_with fail
    refine (SL1.out _ (HB.out.alloc hB _)).mono ?_
    rintro e w2 ⟨rfl, rfl⟩
    go_wp2
    all_goals
      go_ret
      refine ⟨ret_i ?_, (Below.refl _ _).alloc (Nat.le_refl _) _⟩
      have h5 := F.out
      have h6 := E1.out.trans F.out
      rcases Decidable.em (((ns.length + szT ns : Nat) : Int) ≤ L - (n.length : Int)) with hh | hh
      · rw [szR_in hh] at h5; omega
      · rw [szR_out (by omega)] at h5; omega
  · have E := Lib.hid (szR_out (L := L) (s := n.length + (ns.length + szT ns)) (by omega))
    have g1 : decide (L - (n.length : Int) < 0) = true := by simp; omega
    go_enter Tryz.func197, Tryz.ntmps197
    go_wp2
    go_ret
    exact ⟨ret_i (by rw [E.out]), (Below.refl _ _).alloc (Nat.le_refl _) _⟩
set_option maxHeartbeats 1000000 in
theorem szRls_any (B : Nat) (w0 : World) (xs : List Rl) (v : Value) (h : RlIn (· < B) w0 v xs) (L : Int) (W : World) (hb : Below B w0 W) (hB : B ≤ W.heap.size) (h0 : 0 ≤ L) (h1 : L ≤ 1048576) :
    Calls Tryz.prog 121 #[v, .int .i64 L] W fun e w' => e = .returned (.int .i64 (szR L (xs.length + szLs xs))) ∧ Below W.heap.size W w' := by
  obtain ⟨a, cap, b, off, vs, rfl, hcap, hm, hlen, ha, hc⟩ := h
  have hn : xs.length ≤ 9223372036854775807 := by omega
  have HC := Lib.hid hc
  have HL := Lib.hid hlen
  have HA := Lib.hid ha
  have HB := Lib.hid hb
  clear hc hlen ha hb
  by_cases hs : (xs.length : Int) ≤ L
  · have E := Lib.hid (szR_add (r := szLs xs) hs)
    have g1 : decide (L - (xs.length : Int) < 0) = false := by simp; omega
    go_enter Tryz.func121, Tryz.ntmps121
    go_wp2
    go_loopw [1, 5] (fun l i wr => ∃ (k : Nat) (m : Int), k ≤ xs.length ∧ i = .int .i64 k ∧ l = .int .i64 m ∧ 0 ≤ m ∧ m ≤ L ∧ szR (L - (xs.length : Int)) (szLs xs) = szR m (szLs (xs.drop k)) ∧ Below W.heap.size W wr) (fun _ i _ => xs.length - (intOf i).toNat)
    case atStart => exact ⟨0, _, by omega, rfl, rfl, by omega, by omega, rfl, Below.refl _ _⟩
    case round =>
      obtain ⟨k, m, hk, rfl, rfl, hm0, hm1, hE, hR⟩ := hrel
      have HE := Lib.hid hE
      have hR1 := HB.out.trans (hR.mono hB)
      have hzz := Nat.le_trans hB hR.size
      have HR := Lib.hid hR
      have HR1 := Lib.hid hR1
      clear hE hR hR1
      by_cases hlt : k < xs.length
      · obtain ⟨ea, hlb⟩ := HA.out (by omega)
        subst ea
        obtain ⟨c0, c1, c2⟩ := HC.out k hlt
        have q0 := (HR1.out.cell (p := ⟨b, off + k * 2, none⟩) hlb).trans c0
        have q1 := (HR1.out.cell (p := ⟨b, off + k * 2 + 1, none⟩) hlb).trans c1
        have D := Lib.hid (szLs_drop k hlt)
        have HK := Lib.hid (szRl_any B w0 (xs.getD k default) (vs k) c2 m wr HR1.out hzz hm0 (by omega) (HL.out k hlt))
        obtain ⟨a5, l5, c5, e5⟩ := c2.slice
        rw [e5] at q1 HK
        clear c0 c1 c2
        generalize xs.getD k default = x at *
        obtain ⟨r, hr⟩ : ∃ r, szR m (szL x) = r := ⟨_, rfl⟩
        have F := Lib.hid hr
        rw [hr] at HK
        clear hr
        go_wp2_with fail
        refine HK.out.mono ?_
        rintro e w2 ⟨rfl, hb2⟩
        have hR3 : Below W.heap.size W w2 := belI_step HR.out hb2
        by_cases hx : m < (szL x : Int)
        · have g2 : decide (r < 0) = true := by rw [← F.out, szR_out hx]; rfl
          have G := Lib.hid (szR_out (L := m) (s := szL x + szLs (xs.drop (k + 1))) (by omega))
          clear hx
          go_wp2
          go_ret
          exact ⟨ret_i (by rw [E.out, HE.out, D.out, G.out]), hR3⟩
        · have hr2 : r = m - szL x := by rw [← F.out, szR_in (by omega)]
          have g2 : decide (r < 0) = false := by rw [hr2]; simp; omega
          have G := Lib.hid (szR_add (r := szLs (xs.drop (k + 1))) (show (szL x : Int) ≤ m by omega))
          have hr0 : 0 ≤ r ∧ r ≤ L := by omega
          rw [← hr2] at G
          clear hx hr2
          go_wp2
          go_roundw
          case rel => exact ⟨k + 1, r, by omega, by go_num, rfl, hr0.1, hr0.2, by rw [HE.out, D.out, G.out], hR3⟩
          case measure => simp [intOf]; omega
      · go_wp2
        go_ret
        obtain rfl : k = xs.length := by omega
        exact ⟨ret_i (by rw [E.out, HE.out, List.drop_length]; exact (szR_zero hm0).symm), HR.out⟩
  · have E := Lib.hid (szR_out (L := L) (s := xs.length + szLs xs) (by omega))
    have g1 : decide (L - (xs.length : Int) < 0) = true := by simp; omega
    go_enter Tryz.func121, Tryz.ntmps121
    go_wp2
    go_ret
    exact ⟨ret_i (by rw [E.out]), Below.refl _ _⟩
theorem szR_neg (L : Int) (s : Nat) (_ : 0 ≤ L) : szR L s < 0 ↔ L < s := by unfold szR; split <;> omega
set_option maxHeartbeats 1000000 in
theorem szP_any (B : Nat) (w0 : World) (p : Pl) (uv rv : Value) (hu : TxtsIn (· < B) w0 uv p.uris) (hr : RlIn (· < B) w0 rv p.rules) (hn : p.rep.length ≤ 9223372036854775807) (L : Int) (W : World) (hb : Below B w0 W) (hB : B ≤ W.heap.size) (h0 : 0 ≤ L) (h1 : L ≤ 1048576) :
    Calls Tryz.prog 58 #[pV p uv rv, .int .i64 L] W fun e w' => e = .returned (.int .i64 (szR L (szP p))) ∧ Below W.heap.size W w' := by
  obtain ⟨n, us, xs⟩ := p
  simp only at hu hr hn
  have HB := Lib.hid hb
  have SU := Lib.hid (fun L W' (h2 : Below B w0 W') => szT_any (· < B) us uv L W' (hu.blw h2))
  have SR := Lib.hid (fun L W' h2 h3 => szRls_any B w0 xs rv hr L W' h2 h3)
  obtain ⟨a1, l1, c1, rfl⟩ := hu.slice
  obtain ⟨a2, l2, c2, rfl⟩ := hr.slice
  clear hu hr hb
  unfold szP
  simp only
  by_cases hs : (n.length : Int) ≤ L
  · have g1 : decide (L - (n.length : Int) < 0) = false := by simp; omega
    have E1 := Lib.hid (szR_add (r := (us.length + szT us) + (xs.length + szLs xs)) hs)
    have SU1 := Lib.hid (fun W' h2 => SU.out (L - (n.length : Int)) W' h2 (by omega) (by omega))
    by_cases hs2 : ((us.length + szT us : Nat) : Int) ≤ L - (n.length : Int)
    · have E2 := Lib.hid (szR_add (r := xs.length + szLs xs) hs2)
      rw [szR_in hs2] at SU1
      have g2 : decide (L - (n.length : Int) - ((us.length + szT us : Nat) : Int) < 0) = false := by simp; omega
      have SR1 := Lib.hid (fun W' h2 h3 => SR.out (L - (n.length : Int) - ((us.length + szT us : Nat) : Int)) W' h2 h3 (by omega) (by omega))
      have hL2 : 0 ≤ L - (n.length : Int) - ((us.length + szT us : Nat) : Int) ∧ L - (n.length : Int) - ((us.length + szT us : Nat) : Int) ≤ L := by omega
      generalize hL2e : L - (n.length : Int) - ((us.length + szT us : Nat) : Int) = L2 at *
      obtain ⟨r, hr⟩ : ∃ r, szR L2 (xs.length + szLs xs) = r := ⟨_, rfl⟩
      rw [hr] at SR1 E2
      rw [E2.out] at E1
      have F := Lib.hid hr
      clear hr SU SR hL2e E2
      go_enter Tryz.func58, Tryz.ntmps58
      go_wp2_with fail
      refine (SU1.out _ (HB.out.alloc hB _)).mono ?_
      rintro e w2 ⟨rfl, rfl⟩
      go_wp2_with fail
      refine (SR1.out _ (HB.out.alloc hB _) (by simp; omega)).mono ?_
      rintro e w2 ⟨rfl, hb2⟩
      have hB3 : Below W.heap.size W w2 := ((Below.refl _ _).alloc (Nat.le_refl _) _).trans (hb2.mono (by simp))
      clear hb2
      rcases Decidable.em (r < 0) with hneg | hneg
      · have g3 : decide (r < 0) = true := by simpa using hneg
        have e5 : r = -1 := by
          have := F.out
          rw [← this]
          exact szR_out ((szR_neg _ _ hL2.1).1 (by rw [this]; exact hneg))
        subst e5
        go_wp2
        go_ret
        exact ⟨ret_i (by rw [E1.out]), hB3⟩
      · have g3 : decide (r < 0) = false := by simpa using hneg
        go_wp2
        go_ret
        exact ⟨ret_i (by rw [E1.out]), hB3⟩
    · rw [szR_out (by omega)] at SU1
      have E2 := Lib.hid (szR_out (L := L - (n.length : Int)) (s := (us.length + szT us) + (xs.length + szLs xs)) (by omega))
      have E3 := Lib.hid (E1.out.trans E2.out)
      clear SU SR E1 E2
      go_enter Tryz.func58, Tryz.ntmps58
      go_wp2_with fail
      refine (SU1.out _ (HB.out.alloc hB _)).mono ?_
      rintro e w2 ⟨rfl, rfl⟩
      go_wp2
      go_ret
      exact ⟨ret_i (by rw [E3.out]), (Below.refl _ _).alloc (Nat.le_refl _) _⟩
  · have E := Lib.hid (szR_out (L := L) (s := n.length + ((us.length + szT us) + (xs.length + szLs xs))) (by omega))
    have g1 : decide (L - (n.length : Int) < 0) = true := by simp; omega
    go_enter Tryz.func58, Tryz.ntmps58
    go_wp2
    go_ret
    exact ⟨ret_i (by rw [E.out]), (Below.refl _ _).alloc (Nat.le_refl _) _⟩
end Go.Proofs.YtmaknkbmilcanaaGreatDoor.Po
namespace Go.Proofs.YtmaknkbmilcanaaGreatDoor.Po
open Go.RowKit
open Go.Proofs.YtmaknkbmilcanaaGreatDoor.Tx
def NewRs (W : World) (xs : List Rl) (e : Ending) (w' : World) : Prop := ∃ v, e = .returned v ∧ RlIn (fun b => W.heap.size ≤ b ∧ b < w'.heap.size) w' v xs ∧ Below W.heap.size W w'
theorem Tryz.infoR : (Tryz.prog.info? 205).map (fun i => (i.zero, i.size, i.bytes)) = some (some (.agg #[.string ByteArray.empty, .slice none 0 0]), 2, 40) := by kernel_rfl
theorem two_cells {w : World} {g : Nat} {a b : Value} {T : TypeId} (h : w.heap[g]? = some (.cells #[a, b] T (0, 0))) :
    w.cell? ⟨g, 0, none⟩ = some a ∧ w.cell? ⟨g, 1, none⟩ = some b ∧ ∀ o, w.frozen? ⟨g, o, none⟩ = false :=
  ⟨cell_of_row w g 0 _ _ _ h, cell_of_row w g 1 _ _ _ h, fun o => frozen_of_row w g o _ _ h⟩
theorem three_cells {w : World} {g : Nat} {a b c : Value} {T : TypeId} (h : w.heap[g]? = some (.cells #[a, b, c] T (0, 0))) :
    w.cell? ⟨g, 0, none⟩ = some a ∧ w.cell? ⟨g, 1, none⟩ = some b ∧ w.cell? ⟨g, 2, none⟩ = some c ∧ ∀ o, w.frozen? ⟨g, o, none⟩ = false :=
  ⟨cell_of_row w g 0 _ _ _ h, cell_of_row w g 1 _ _ _ h, cell_of_row w g 2 _ _ _ h, fun o => frozen_of_row w g o _ _ h⟩
theorem alloc3_0 (W : World) (a b c : Obj) : (((W.alloc a).alloc b).alloc c).heap[W.heap.size]? = some a := by
  rw [heap_alloc_old _ _ (by simp; omega), heap_alloc_old _ _ (by simp), heap_alloc_new]
theorem alloc3_1 (W : World) (a b c : Obj) : (((W.alloc a).alloc b).alloc c).heap[W.heap.size + 1]? = some b := by
  rw [heap_alloc_old _ _ (by simp)]; exact heap_alloc2_new W a b
theorem alloc3_2 (W : World) (a b c : Obj) : (((W.alloc a).alloc b).alloc c).heap[W.heap.size + 1 + 1]? = some c := by
  have := heap_alloc2_new (W.alloc a) b c
  simpa using this
theorem ret_R {fn : Func} {a B : Nat} {tmps : Array Value} {X : World} {c0 c1 : Value} {T : TypeId} (hres : fn.results = #[.cell a 205]) (ha : tmps[a]?.getD undef = .pointer (some ⟨B, 0, none⟩)) (h : X.heap[B]? = some (.cells #[c0, c1] T (0, 0))) :
    (results fn tmps).run Tryz.prog X = .ok (.agg #[c0, c1]) X := by
  obtain ⟨k0, k1, _⟩ := two_cells h
  simp [results, hres, ha, go_sem, k0, k1]
theorem ret_P {fn : Func} {a B : Nat} {tmps : Array Value} {X : World} {c0 c1 c2 : Value} {T : TypeId} (hres : fn.results = #[.cell a 37]) (ha : tmps[a]?.getD undef = .pointer (some ⟨B, 0, none⟩)) (h : X.heap[B]? = some (.cells #[c0, c1, c2] T (0, 0))) :
    (results fn tmps).run Tryz.prog X = .ok (.agg #[c0, c1, c2]) X := by
  obtain ⟨k0, k1, k2, _⟩ := three_cells h
  simp [results, hres, ha, go_sem, k0, k1, k2]
abbrev set2 (w : World) (g o : Nat) (a b : Value) : World := (w.setCell ⟨g, o, none⟩ a).setCell ⟨g, o + 1, none⟩ b
abbrev set3 (w : World) (g o : Nat) (a b c : Value) : World := ((w.setCell ⟨g, o, none⟩ a).setCell ⟨g, o + 1, none⟩ b).setCell ⟨g, o + 2, none⟩ c
theorem set2_far (w : World) (g o b : Nat) (a c : Value) (h : b ≠ g) : (set2 w g o a c).heap[b]? = w.heap[b]? :=
  (heap_setCell_other _ ⟨g, o + 1, none⟩ b c h).trans (heap_setCell_other _ ⟨g, o, none⟩ b a h)
theorem set2_size (w : World) (g o : Nat) (a c : Value) : (set2 w g o a c).heap.size = w.heap.size := by simp [set2]
theorem set3_far (w : World) (g o b : Nat) (a c d : Value) (h : b ≠ g) : (set3 w g o a c d).heap[b]? = w.heap[b]? :=
  (heap_setCell_other _ ⟨g, o + 2, none⟩ b d h).trans ((heap_setCell_other _ ⟨g, o + 1, none⟩ b c h).trans (heap_setCell_other _ ⟨g, o, none⟩ b a h))
theorem set3_size (w : World) (g o : Nat) (a c d : Value) : (set3 w g o a c d).heap.size = w.heap.size := by simp [set3]
def RRel (W : World) (xs : List Rl) (k : Nat) (wr : World) : Prop :=
  ∃ (F vs : Nat → Value), wr.rowIs W.heap.size 205 (xs.length * 2) F ∧
    (∀ i, i < k → F (i * 2) = .string ⟨(xs.getD i default).name.toArray⟩ ∧ F (i * 2 + 1) = vs i) ∧
    (∀ i, i < k → TxtsIn (fun b => W.heap.size < b ∧ b < wr.heap.size) wr (vs i) (xs.getD i default).words) ∧ Below W.heap.size W wr
theorem run_makeR (n : Nat) (hn : n ≤ 1048576) (w : World) : (Instr.makeSlice 35 (.int .i64 (n : Int)) (.int .i64 (n : Int))).run Tryz.prog w = .ok (.slice (some ⟨w.heap.size, 0, none⟩) n n) (w.alloc (.cells (madeCells #[.string ByteArray.empty, .slice none 0 0] (n * 2)) 205)) := by
  obtain ⟨i0, hi, hz0, hz1, hz2⟩ := info_parts Tryz.infoR
  have h := run_make (P := Tryz.prog) w 35 205 i0 _ Tryz.underlying35 hi hz0 .i64 .i64 n n (by omega) (by omega) (by rw [hz2]; omega) (by omega)
  rw [hz1] at h
  simpa [Value.cells] using h
theorem rRel_start (W : World) (xs : List Rl) : RRel W xs 0 (W.alloc (.cells (madeCells #[.string ByteArray.empty, .slice none 0 0] (xs.length * 2)) 205)) := by
  refine ⟨fun i => #[.string ByteArray.empty, .slice none 0 0][i % 2]!, fun _ => undef, ?_, fun i hi => by omega, fun i hi => by omega, (Below.refl _ _).alloc (Nat.le_refl _) _⟩
  exact ⟨_, heap_alloc_new _ _, size_madeCells _ _, fun i hi => by simp [madeCells, hi]⟩
theorem rRel_end {W w' : World} {xs : List Rl} (h : RRel W xs xs.length w') (hm : xs.length ≤ 1048576) (hl : ∀ i, i < xs.length → (xs.getD i default).name.length ≤ 9223372036854775807) : NewRs W xs (.returned (.slice (some ⟨W.heap.size, 0, none⟩) xs.length xs.length)) w' := by
  obtain ⟨F, vs, hr, hf, hj, hb⟩ := h
  refine ⟨_, rfl, ⟨some ⟨W.heap.size, 0, none⟩, xs.length, W.heap.size, 0, vs, rfl, Nat.le_refl _, by omega, hl, fun _ => ⟨rfl, Nat.le_refl _, hr.lt⟩, fun i hi => ?_⟩, hb⟩
  obtain ⟨f0, f1⟩ := hf i hi
  simp only [Nat.zero_add]
  exact ⟨by rw [hr.cell (by omega), f0], by rw [hr.cell (by omega), f1], (hj i hi).mono fun b hb => ⟨by omega, hb.2⟩⟩
end Go.Proofs.YtmaknkbmilcanaaGreatDoor.Po
namespace Go.Proofs.YtmaknkbmilcanaaGreatDoor.Po
open Go.RowKit
open Go.Proofs.YtmaknkbmilcanaaGreatDoor.Tx
set_option maxRecDepth 100000 in
set_option maxHeartbeats 2000000 in
theorem eqRl_self (S1 S2 : Nat → Prop) (r : Rl) (v u : Value) (W : World) (h1 : TxtsIn S1 W v r.words) (h2 : TxtsIn S2 W u r.words) (hS1 : ∀ b, S1 b → b < W.heap.size) (hS2 : ∀ b, S2 b → b < W.heap.size) : Calls Tryz.prog 218 #[rV r v, rV r u] W fun e w' => e = .returned (.bool true) ∧ Below W.heap.size W w' := by
  obtain ⟨n, ws⟩ := r
  simp only at h1 h2
  have HE := Lib.hid (fun (W' : World) (h : Below W.heap.size W W') => eqT_any _ _ ws ws v u W' (h1.later hS1 h) (h2.later hS2 h))
  rw [show (ws == ws) = true by simp] at HE
  obtain ⟨a1, l1, c1, rfl⟩ := h1.slice
  obtain ⟨a2, l2, c2, rfl⟩ := h2.slice
  clear h1 h2
  have e1 : (n == n) = true := by simp
  have e2 : (n != n) = false := by simp
  go_enter Tryz.func218, Tryz.ntmps218
  go_wp2_with fail
  refine (HE.out _ (((Below.refl _ _).alloc (Nat.le_refl _) _).alloc (by simp) _)).mono ?_
  rintro e w1 ⟨rfl, nn, rfl⟩
  go_wp2
  go_ret
  exact ⟨rfl, belDrew (((Below.refl _ _).alloc (Nat.le_refl _) _).alloc (by simp) _) _⟩
set_option maxRecDepth 100000 in
set_option maxHeartbeats 2000000 in
theorem eqRls_self (B : Nat) (w0 : World) (xs : List Rl) (v u : Value) (h1 : RlIn (· < B) w0 v xs) (h2 : RlIn (· < B) w0 u xs) (W : World) (hb : Below B w0 W) (hB : B ≤ W.heap.size) :
    Calls Tryz.prog 140 #[v, u] W fun e w' => e = .returned (.bool true) ∧ Below W.heap.size W w' := by
  obtain ⟨a, cap, b, off, vs, rfl, hcap, hm, hlen, ha, hc⟩ := h1
  obtain ⟨a', cap', b', off', vs', rfl, hcap', hm', hlen', ha', hc'⟩ := h2
  have hn : xs.length ≤ 9223372036854775807 := by omega
  have HC := Lib.hid hc
  have HA := Lib.hid ha
  have HC' := Lib.hid hc'
  have HA' := Lib.hid ha'
  have HB := Lib.hid hb
  clear hc ha hc' ha' hb hlen hlen'
  have g1 : ((xs.length : Int) != (xs.length : Int)) = false := by simp
  go_enter Tryz.func140, Tryz.ntmps140
  go_wp2
  go_loopw [5] (fun i wr => ∃ k : Nat, k ≤ xs.length ∧ i = .int .i64 k ∧ Below W.heap.size W wr) (fun i _ => xs.length - (intOf i).toNat)
  case atStart => exact ⟨0, by omega, rfl, Below.refl _ _⟩
  case round =>
    obtain ⟨k, hk, rfl, hR⟩ := hrel
    by_cases hlt : k < xs.length
    · obtain ⟨ea, hlb⟩ := HA.out (by omega)
      obtain ⟨ea', hlb'⟩ := HA'.out (by omega)
      subst ea ea'
      have hW := HB.out.trans (hR.mono hB)
      have hWB : B ≤ wr.heap.size := Nat.le_trans hB hR.size
      obtain ⟨c0, c1, T⟩ := HC.out k hlt
      obtain ⟨c0', c1', T'⟩ := HC'.out k hlt
      have q0 := (hW.cell (p := ⟨b, off + k * 2, none⟩) hlb).trans c0
      have q1 := (hW.cell (p := ⟨b, off + k * 2 + 1, none⟩) hlb).trans c1
      have r0 := (hW.cell (p := ⟨b', off' + k * 2, none⟩) hlb').trans c0'
      have r1 := (hW.cell (p := ⟨b', off' + k * 2 + 1, none⟩) hlb').trans c1'
      have HK := Lib.hid (fun (W' : World) (h : Below B w0 W') (h' : B ≤ W'.heap.size) => eqRl_self (· < B) (· < B) (xs.getD k default) (vs k) (vs' k) W' (T.blw h) (T'.blw h) (fun b hb => Nat.lt_of_lt_of_le hb h') (fun b hb => Nat.lt_of_lt_of_le hb h'))
      obtain ⟨a5, l5, c5, e5⟩ := T.slice
      obtain ⟨a6, l6, c6, e6⟩ := T'.slice
      rw [e5] at q1 HK
      rw [e6] at r1 HK
      clear c0 c1 c0' c1' T T' hW e5 e6
      generalize xs.getD k default = x at *
      go_wp2_with fail
      go_region_held3 (fun wx => wx.cell? ⟨b, off + k * 2, none⟩ = some (.string ⟨x.name.toArray⟩) ∧ wx.cell? ⟨b, off + k * 2 + 1, none⟩ = some (.slice a5 l5 c5) ∧ wx.cell? ⟨b', off' + k * 2, none⟩ = some (.string ⟨x.name.toArray⟩) ∧ wx.cell? ⟨b', off' + k * 2 + 1, none⟩ = some (.slice a6 l6 c6) ∧ Below W.heap.size W wx)
        (first
          | (simp [*, Below.drew]; done)
          | (go_split_ands
             have hz : B ≤ _ := Nat.le_trans hB (Below.size (by assumption))
             refine ⟨?_, ?_, ?_, ?_, belI_step (by assumption) hb⟩
             · (rw [hb.cell (p := ⟨b, off + k * 2, none⟩) (Nat.lt_of_lt_of_le hlb hz)]; assumption)
             · (rw [hb.cell (p := ⟨b, off + k * 2 + 1, none⟩) (Nat.lt_of_lt_of_le hlb hz)]; assumption)
             · (rw [hb.cell (p := ⟨b', off' + k * 2, none⟩) (Nat.lt_of_lt_of_le hlb' hz)]; assumption)
             · (rw [hb.cell (p := ⟨b', off' + k * 2 + 1, none⟩) (Nat.lt_of_lt_of_le hlb' hz)]; assumption)))
        (first
          | (go_split_ands; go_at_call 218; have hbx : Below W.heap.size W _ := (by assumption); refine (HK.out _ (HB.out.trans (hbx.mono hB)) (Nat.le_trans hB hbx.size)).mono ?_; rintro e w1 ⟨rfl, hb⟩))
      go_split_ands
      rename_i hNW
      have HN := Lib.hid hNW
      clear hNW
      go_wp2
      go_roundw
      case rel => exact ⟨k + 1, by omega, by go_num, HN.out⟩
      case measure => simp [intOf]; omega
    · go_wp2
      go_ret
      exact ⟨rfl, hR⟩
set_option maxRecDepth 100000 in
set_option maxHeartbeats 2000000 in
theorem eqP_self (B : Nat) (w0 : World) (p : Pl) (uv rv uv' rv' : Value) (h1 : TxtsIn (· < B) w0 uv p.uris) (h2 : RlIn (· < B) w0 rv p.rules) (h3 : TxtsIn (· < B) w0 uv' p.uris) (h4 : RlIn (· < B) w0 rv' p.rules) (W : World) (hb : Below B w0 W) (hB : B ≤ W.heap.size) :
    Calls Tryz.prog 70 #[pV p uv rv, pV p uv' rv'] W fun e w' => e = .returned (.bool true) ∧ Below W.heap.size W w' := by
  obtain ⟨n, us, xs⟩ := p
  simp only at h1 h2 h3 h4
  have HR := Lib.hid (fun W h2' h3' => eqRls_self B w0 xs rv rv' h2 h4 W h2' h3')
  have HE := Lib.hid (fun (W' : World) (h : Below B w0 W') => eqT_any _ _ us us uv uv' W' (h1.blw h) (h3.blw h))
  rw [show (us == us) = true by simp] at HE
  obtain ⟨a1, l1, c1, rfl⟩ := h1.slice
  obtain ⟨a2, l2, c2, rfl⟩ := h2.slice
  obtain ⟨a3, l3, c3, rfl⟩ := h3.slice
  obtain ⟨a4, l4, c4, rfl⟩ := h4.slice
  have HB := Lib.hid hb
  clear h1 h2 h3 h4 hb
  have e1 : (n == n) = true := by simp
  have e2 : (n != n) = false := by simp
  go_enter Tryz.func70, Tryz.ntmps70
  go_wp2_with fail
  refine (HE.out _ ((HB.out.alloc hB _).alloc (by simp; omega) _)).mono ?_
  rintro e w1 ⟨rfl, nn, rfl⟩
  go_wp2_with fail
  refine (HR.out _ (belDrew ((HB.out.alloc hB _).alloc (by simp; omega) _) _) (by simp; omega)).mono ?_
  rintro e w1 ⟨rfl, hb1⟩
  have hf : Below W.heap.size W w1 := (belDrew (((Below.refl W.heap.size W).alloc (Nat.le_refl _) _).alloc (by simp) _) nn).trans (hb1.mono (by simp; omega))
  clear hb1
  go_wp2
  go_ret
  exact ⟨rfl, hf⟩
end Go.Proofs.YtmaknkbmilcanaaGreatDoor.Po
