
/-
  Reports and queues as plain data, and in memory; arguments of types laws.Report and laws.Queue, opened. The laws' helpers on them: their size, their copies, their comparison with their like.
-/
import Derived.Test.YtmaknkbmilcanaaGreatDoorTx
import Derived.Test.YtmaknkbmilcanaaGreatDoorExt
namespace Go.Proofs.YtmaknkbmilcanaaGreatDoor.Qu
open Go.RowKit
open Go.Proofs.YtmaknkbmilcanaaGreatDoor.Tx
open Go.ChangeShapes Go.WideShapes Go.ChangeAt Go.Deep
structure Rep where
  id : Int
  born : Int
  tries : Int
  body : List UInt8
deriving DecidableEq
instance : Inhabited Rep := ⟨⟨0, 0, 0, []⟩⟩
structure Q where
  items : List Rep
  recent : List (List UInt8)
/-- that the parts fit a machine -/
structure Fit (r : Rep) : Prop where
  a0 : -9223372036854775808 ≤ r.id
  a1 : r.id ≤ 9223372036854775807
  b0 : -9223372036854775808 ≤ r.born
  b1 : r.born ≤ 9223372036854775807
  c0 : -9223372036854775808 ≤ r.tries
  c1 : r.tries ≤ 9223372036854775807
  m : r.body.length ≤ 9223372036854775807
def szB : List Rep → Nat
  | [] => 0
  | r :: rs => r.body.length + szB rs
def szQ (q : Q) : Nat := (q.items.length + szB q.items) + (q.recent.length + szT q.recent)
theorem szB_drop {xs : List Rep} (k : Nat) (hx : k < xs.length) : szB (xs.drop k) = (xs.getD k default).body.length + szB (xs.drop (k + 1)) := by
  rw [List.drop_eq_getElem_cons hx]; simp [szB, hx]
/-- v is a slice of the reports xs, in a block of S -/
def RpIn (S : Nat → Prop) (w : World) (v : Value) (xs : List Rep) : Prop :=
  ∃ (a : Option Addr) (cap b off : Nat), v = .slice a xs.length cap ∧ xs.length ≤ cap ∧ cap ≤ 9223372036854775807 ∧ (∀ i, i < xs.length → Fit (xs.getD i default)) ∧
    (0 < xs.length → a = some ⟨b, off, none⟩ ∧ S b) ∧
    ∀ i, i < xs.length → w.cell? ⟨b, off + i * 4, none⟩ = some (.int .i64 (xs.getD i default).id) ∧ w.cell? ⟨b, off + i * 4 + 1, none⟩ = some (.int .i64 (xs.getD i default).born) ∧ w.cell? ⟨b, off + i * 4 + 2, none⟩ = some (.int .i64 (xs.getD i default).tries) ∧ w.cell? ⟨b, off + i * 4 + 3, none⟩ = some (.string ⟨(xs.getD i default).body.toArray⟩)
abbrev rC (r : Rep) : Array Value := #[.int .i64 r.id, .int .i64 r.born, .int .i64 r.tries, .string ⟨r.body.toArray⟩]
abbrev rV (r : Rep) : Value := .agg #[.int .i64 r.id, .int .i64 r.born, .int .i64 r.tries, .string ⟨r.body.toArray⟩]
abbrev qV (iv rv : Value) : Value := .agg #[iv, rv]
theorem RpIn.same {S S' : Nat → Prop} {w w' : World} {v : Value} {xs : List Rep} (h : RpIn S w v xs) (hs : ∀ b, S b → S' b ∧ w'.heap[b]? = w.heap[b]?) : RpIn S' w' v xs := by
  obtain ⟨a, cap, b, off, e, h1, h2, h3, h4, h5⟩ := h
  have hc : ∀ i o, i < xs.length → w'.cell? ⟨b, o, none⟩ = w.cell? ⟨b, o, none⟩ := fun i o hi => World.cell?_of_block (w := w) (a := ⟨b, o, none⟩) (hs b (h4 (Nat.lt_of_le_of_lt (Nat.zero_le i) hi)).2).2
  exact ⟨a, cap, b, off, e, h1, h2, h3, fun hp => ⟨(h4 hp).1, (hs b (h4 hp).2).1⟩, fun i hi => ⟨(hc i _ hi).trans (h5 i hi).1, (hc i _ hi).trans (h5 i hi).2.1, (hc i _ hi).trans (h5 i hi).2.2.1, (hc i _ hi).trans (h5 i hi).2.2.2⟩⟩
theorem RpIn.blw {B : Nat} {w w' : World} {v : Value} {xs : List Rep} (h : RpIn (· < B) w v xs) (hb : Below B w w') : RpIn (· < B) w' v xs := h.same fun b hlt => ⟨hlt, hb.block b hlt⟩
theorem RpIn.mono {S S' : Nat → Prop} {w : World} {v : Value} {xs : List Rep} (h : RpIn S w v xs) (hs : ∀ b, S b → S' b) : RpIn S' w v xs := h.same fun b hb => ⟨hs b hb, rfl⟩
theorem RpIn.later {S : Nat → Prop} {w wx : World} {v : Value} {xs : List Rep} (h : RpIn S w v xs) (hS : ∀ b, S b → b < w.heap.size) (hx : Below w.heap.size w wx) : RpIn (· < wx.heap.size) wx v xs :=
  h.same fun b hb => ⟨Nat.lt_of_lt_of_le (hS b hb) hx.size, hx.block b (hS b hb)⟩
theorem RpIn.slice {S : Nat → Prop} {w : World} {v : Value} {xs : List Rep} (h : RpIn S w v xs) : ∃ a l c, v = .slice a l c := by
  obtain ⟨a', cap', _, _, rfl, _⟩ := h; exact ⟨_, _, _, rfl⟩
theorem RpIn.slice2 {S : Nat → Prop} {w : World} {v : Value} {xs : List Rep} (h : RpIn S w v xs) : ∃ a c, v = .slice a xs.length c := by
  obtain ⟨a', cap', _, _, rfl, _⟩ := h; exact ⟨_, _, rfl⟩
theorem RpIn.nil (S : Nat → Prop) (w : World) : RpIn S w (.slice none 0 0) [] := ⟨none, 0, 0, 0, rfl, by simp, by simp, by simp, by simp, by simp⟩
theorem cellsRep : Tryz.prog.cellsOf 345 = 4 := by kernel_rfl
theorem cellsQ : Tryz.prog.cellsOf 174 = 2 := by kernel_rfl
theorem cellsReps : Tryz.prog.cellsOf 172 = 1 := by kernel_rfl
theorem list4 {α : Type} {l : List α} (h : l.length = 4) : ∃ a b c d, l = [a, b, c, d] := by
  match l, h with
  | [a, b, c, d], _ => exact ⟨a, b, c, d, rfl⟩
theorem fit_of {a b c : Int} {s : ByteArray} (ha : (Lit.int .i64 a).wf = true) (hb : (Lit.int .i64 b).wf = true) (hc : (Lit.int .i64 c).wf = true) (hs : s.size ≤ maxLen) : Fit ⟨a, b, c, s.data.toList⟩ := by
  have a' := bounds_i64 ha
  have b' := bounds_i64 hb
  have c' := bounds_i64 hc
  exact ⟨a'.1, a'.2, b'.1, b'.2, c'.1, c'.2, by rw [Array.length_toList]; exact hs⟩
section
variable {H : Type} {enc : TypeId × Value → H} {w : World} {spare : Nat → Bool} {held : Bool}
set_option maxRecDepth 100000 in
theorem open_reps {fuel : Nat} {v : Value} {x : DataW H × List MemPlace} (h : DataW.trod enc Tryz.prog w 0 spare held fuel 172 [v] = some x) : ∃ xs, RpIn (· < w.heap.size) w v xs := by
  rcases open_slice Tryz.underlying172 h with ⟨e, _⟩ | ⟨a, len, cap, m, n, D, Pl, e, _, hl, hm, hmm, _, hel⟩
  · simp at e
    exact ⟨[], none, 0, 0, 0, e, by simp, by simp, by simp, by simp, by simp⟩
  · simp at e
    subst e
    have hlm : len ≤ m := by rw [hmm]; split <;> omega
    rw [cellsRep] at hel
    have each : ∀ i, i < len → ∃ y : Rep, w.cell? (a.add (i * 4)) = some (.int .i64 y.id) ∧ w.cell? (a.add (i * 4 + 1)) = some (.int .i64 y.born) ∧ w.cell? (a.add (i * 4 + 2)) = some (.int .i64 y.tries) ∧ w.cell? (a.add (i * 4 + 3)) = some (.string ⟨y.body.toArray⟩) ∧ Fit y := fun i hi => by
      obtain ⟨cs', h1, h2⟩ := hel i (by omega)
      obtain ⟨ys, n', _, _, hcl, hyl, hf⟩ := DataW.trod_struct Tryz.underlying345 h2
      rw [cellsRep] at hcl
      obtain ⟨v0, v1, v2, v3, rfl⟩ := list4 hcl
      have hyl' : ys.length = 4 := hyl
      obtain ⟨y0, y1, y2, y3, rfl⟩ := list4 hyl'
      have g0 := hf 0 _ rfl
      have g1 := hf 1 _ rfl
      have g2 := hf 2 _ rfl
      have g3 := hf 3 _ rfl
      simp [cellsStr, cellsInt] at g0 g1 g2 g3
      obtain ⟨p0, a0, -, b0⟩ := DataW.trod_int Tryz.underlying3 g0
      obtain ⟨p1, a1, -, b1⟩ := DataW.trod_int Tryz.underlying3 g1
      obtain ⟨p2, a2, -, b2⟩ := DataW.trod_int Tryz.underlying3 g2
      obtain ⟨t, a3, -, b3⟩ := DataW.trod_string Tryz.underlying9 g3
      simp only [List.cons.injEq, and_true] at a0 a1 a2 a3
      subst a0 a1 a2 a3
      obtain ⟨_, _, hc⟩ := World.cells?_some h1
      simp only [Addr.add_add] at hc
      exact ⟨⟨p0, p1, p2, t.data.toList⟩, by simpa using hc 0 (by omega), by simpa using hc 1 (by omega), by simpa using hc 2 (by omega), by simpa using hc 3 (by omega), fit_of b0 b1 b2 b3⟩
    obtain ⟨Y, hY⟩ := choose_lt each
    have hlen2 : ((List.range len).map Y).length = len := by simp
    have hget : ∀ i, i < len → ((List.range len).map Y).getD i default = Y i := fun i hi => by simp [hi]
    have hadr : ∀ i o, i < len → a.add (i * 4 + o) = ⟨a.block, a.off + i * 4 + o, none⟩ := fun i o hi => by
      obtain ⟨e1, _⟩ := spot_of (hY 0 (by omega)).1
      rw [e1, add_plain]
      simp only [Addr.mk.injEq, true_and, and_true]
      omega
    refine ⟨(List.range len).map Y, some a, cap, a.block, a.off, by rw [hlen2], by rw [hlen2]; exact hl, hm, ?_, ?_, ?_⟩
    · rw [hlen2]; intro i hi; rw [hget i hi]; exact (hY i hi).2.2.2.2
    · rw [hlen2]; intro hp
      obtain ⟨e1, e2⟩ := spot_of (hY 0 hp).1
      exact ⟨congrArg some e1, e2⟩
    · rw [hlen2]; intro i hi; rw [hget i hi]
      refine ⟨?_, ?_, ?_, ?_⟩
      · show w.cell? ⟨a.block, a.off + i * 4 + 0, none⟩ = _; rw [← hadr i 0 hi]; exact (hY i hi).1
      · rw [← hadr i 1 hi]; exact (hY i hi).2.1
      · rw [← hadr i 2 hi]; exact (hY i hi).2.2.1
      · rw [← hadr i 3 hi]; exact (hY i hi).2.2.2.1
end
theorem belI_step {w Y Z : World} (h : Below w.heap.size w Y) (hb : Below Y.heap.size Y Z) : Below w.heap.size w Z := h.trans (hb.mono h.size)
theorem belI_alloc {w Y : World} {o : Obj} (h : Below w.heap.size w Y) : Below w.heap.size w (Y.alloc o) := h.alloc h.size o
theorem belI_drewN {w Y : World} (h : Below w.heap.size w Y) (n : Nat) : Below w.heap.size w (Y.drewN n) := ⟨h.os, h.tape, h.output, h.size, h.block⟩
theorem szR_neg (L : Int) (s : Nat) (_ : 0 ≤ L) : szR L s < 0 ↔ L < s := by unfold szR; split <;> omega
/-! ### sizes -/
theorem szRp_any (t : Rep) (L : Int) (W : World) (h0 : 0 ≤ L) (h1 : L ≤ 1048576) (hl : t.body.length ≤ 9223372036854775807) :
    Calls Tryz.prog 331 #[rV t, .int .i64 L] W fun e w' => e = .returned (.int .i64 (szR L t.body.length)) ∧ Below W.heap.size W w' := by
  by_cases hs : (t.body.length : Int) ≤ L
  · have E := Lib.hid (szR_in hs)
    have g1 : decide (L - (t.body.length : Int) < 0) = false := by simp; omega
    go_enter Tryz.func331, Tryz.ntmps331
    go_wp2
    go_ret
    exact ⟨ret_i (by rw [E.out]), (Below.refl _ _).alloc (Nat.le_refl _) _⟩
  · have E := Lib.hid (szR_out (L := L) (s := t.body.length) (by omega))
    have g1 : decide (L - (t.body.length : Int) < 0) = true := by simp; omega
    go_enter Tryz.func331, Tryz.ntmps331
    go_wp2
    go_ret
    exact ⟨ret_i (by rw [E.out]), (Below.refl _ _).alloc (Nat.le_refl _) _⟩
set_option maxHeartbeats 1000000 in
theorem szRps_any (B : Nat) (w0 : World) (xs : List Rep) (v : Value) (h : RpIn (· < B) w0 v xs) (L : Int) (W : World) (hb : Below B w0 W) (hB : B ≤ W.heap.size) (h0 : 0 ≤ L) (h1 : L ≤ 1048576) :
    Calls Tryz.prog 273 #[v, .int .i64 L] W fun e w' => e = .returned (.int .i64 (szR L (xs.length + szB xs))) ∧ Below W.heap.size W w' := by
  obtain ⟨a, cap, b, off, rfl, hcap, hm, hlen, ha, hc⟩ := h
  have hn : xs.length ≤ 9223372036854775807 := by omega
  have HC := Lib.hid hc
  have HL := Lib.hid hlen
  have HA := Lib.hid ha
  have HB := Lib.hid hb
  clear hc hlen ha hb
  by_cases hs : (xs.length : Int) ≤ L
  · have E := Lib.hid (szR_add (r := szB xs) hs)
    have g1 : decide (L - (xs.length : Int) < 0) = false := by simp; omega
    go_enter Tryz.func273, Tryz.ntmps273
    go_wp2
    go_loopw [1, 5] (fun l i wr => ∃ (k : Nat) (m : Int), k ≤ xs.length ∧ i = .int .i64 k ∧ l = .int .i64 m ∧ 0 ≤ m ∧ m ≤ L ∧ szR (L - (xs.length : Int)) (szB xs) = szR m (szB (xs.drop k)) ∧ Below W.heap.size W wr) (fun _ i _ => xs.length - (intOf i).toNat)
    case atStart => exact ⟨0, _, by omega, rfl, rfl, by omega, by omega, rfl, Below.refl _ _⟩
    case round =>
      obtain ⟨k, m, hk, rfl, rfl, hm0, hm1, hE, hR⟩ := hrel
      have HE := Lib.hid hE
      have hR1 := HB.out.trans (hR.mono hB)
      have HR := Lib.hid hR
      have HR1 := Lib.hid hR1
      clear hE hR hR1
      by_cases hlt : k < xs.length
      · obtain ⟨ea, hlb⟩ := HA.out (by omega)
        subst ea
        obtain ⟨c0, c1, c2, c3⟩ := HC.out k hlt
        have q0 := (HR1.out.cell (p := ⟨b, off + k * 4, none⟩) hlb).trans c0
        have q1 := (HR1.out.cell (p := ⟨b, off + k * 4 + 1, none⟩) hlb).trans c1
        have q2 := (HR1.out.cell (p := ⟨b, off + k * 4 + 2, none⟩) hlb).trans c2
        have q3 := (HR1.out.cell (p := ⟨b, off + k * 4 + 3, none⟩) hlb).trans c3
        have D := Lib.hid (szB_drop k hlt)
        have HK := Lib.hid (szRp_any (xs.getD k default) m wr hm0 (by omega) (HL.out k hlt).m)
        clear c0 c1 c2 c3
        generalize xs.getD k default = x at *
        obtain ⟨r, hr⟩ : ∃ r, szR m x.body.length = r := ⟨_, rfl⟩
        have F := Lib.hid hr
        rw [hr] at HK
        clear hr
        go_wp2_with fail
        refine HK.out.mono ?_
        rintro e w2 ⟨rfl, hb2⟩
        have hR3 : Below W.heap.size W w2 := belI_step HR.out hb2
        by_cases hx : m < (x.body.length : Int)
        · have g2 : decide (r < 0) = true := by rw [← F.out, szR_out hx]; rfl
          have G := Lib.hid (szR_out (L := m) (s := x.body.length + szB (xs.drop (k + 1))) (by omega))
          clear hx
          go_wp2
          go_ret
          exact ⟨ret_i (by rw [E.out, HE.out, D.out, G.out]), hR3⟩
        · have hr2 : r = m - x.body.length := by rw [← F.out, szR_in (by omega)]
          have g2 : decide (r < 0) = false := by rw [hr2]; simp; omega
          have G := Lib.hid (szR_add (r := szB (xs.drop (k + 1))) (show (x.body.length : Int) ≤ m by omega))
          have hr0 : 0 ≤ r ∧ r ≤ L := by omega
          rw [← hr2] at G
          clear hx hr2
          go_wp2
          go_roundw
          case rel => exact ⟨k + 1, r, by omega, by go_num, rfl, hr0.1, hr0.2, by rw [HE.out, D.out, G.out], hR3⟩
          case measure => simp [intOf]; omega
      · go_wp2
        go_ret
        obtain rfl : k = xs.length := by omega
        exact ⟨ret_i (by rw [E.out, HE.out, List.drop_length]; exact (szR_zero hm0).symm), HR.out⟩
  · have E := Lib.hid (szR_out (L := L) (s := xs.length + szB xs) (by omega))
    have g1 : decide (L - (xs.length : Int) < 0) = true := by simp; omega
    go_enter Tryz.func273, Tryz.ntmps273
    go_wp2
    go_ret
    exact ⟨ret_i (by rw [E.out]), Below.refl _ _⟩
set_option maxHeartbeats 1000000 in
theorem szQ_any (B : Nat) (w0 : World) (q : Q) (iv rv : Value) (hi : RpIn (· < B) w0 iv q.items) (hr : TxtsIn (· < B) w0 rv q.recent) (L : Int) (W : World) (hb : Below B w0 W) (hB : B ≤ W.heap.size) (h0 : 0 ≤ L) (h1 : L ≤ 1048576) :
    Calls Tryz.prog 196 #[qV iv rv, .int .i64 L] W fun e w' => e = .returned (.int .i64 (szR L (szQ q))) ∧ Below W.heap.size W w' := by
  obtain ⟨xs, us⟩ := q
  simp only at hi hr
  have HB := Lib.hid hb
  have SI := Lib.hid (fun W' h2 h3 => szRps_any B w0 xs iv hi L W' h2 h3 h0 h1)
  have SU := Lib.hid (fun L W' (h2 : Below B w0 W') => szT_any (· < B) us rv L W' (hr.blw h2))
  obtain ⟨a1, l1, c1, rfl⟩ := hi.slice
  obtain ⟨a2, l2, c2, rfl⟩ := hr.slice
  clear hi hr hb
  unfold szQ
  simp only
  by_cases hs : ((xs.length + szB xs : Nat) : Int) ≤ L
  · rw [szR_in hs] at SI
    have E1 := Lib.hid (szR_add (r := us.length + szT us) hs)
    have g1 : ¬ (L - ((xs.length + szB xs : Nat) : Int) < 0) := by omega
    have SU1 := Lib.hid (fun W' h2 => SU.out (L - ((xs.length + szB xs : Nat) : Int)) W' h2 (by omega) (by omega))
    have hL2 : 0 ≤ L - ((xs.length + szB xs : Nat) : Int) := by omega
    generalize L - ((xs.length + szB xs : Nat) : Int) = L2 at *
    obtain ⟨r, hr⟩ : ∃ r, szR L2 (us.length + szT us) = r := ⟨_, rfl⟩
    rw [hr] at SU1
    rw [hr] at E1
    have F := Lib.hid hr
    clear hr SU
    go_enter Tryz.func196, Tryz.ntmps196
    go_wp2_with fail
    refine (SI.out _ (HB.out.alloc hB _) (by simp; omega)).mono ?_
    rintro e w2 ⟨rfl, hb2⟩
    have hB3 : Below W.heap.size W w2 := ((Below.refl _ _).alloc (Nat.le_refl _) _).trans (hb2.mono (by simp))
    have k0 := (hb2.block W.heap.size (by simp)).trans (heap_alloc_new W (.cells #[.slice a1 l1 c1, .slice a2 l2 c2] 174))
    have m0 := cell_of_row w2 W.heap.size 0 _ _ _ k0
    have m1 := cell_of_row w2 W.heap.size 1 _ _ _ k0
    have HB4 := Lib.hid (HB.out.trans (hB3.mono hB))
    have HB3 := Lib.hid hB3
    clear hb2 k0 hB3
    go_wp2_with fail
    refine (SU1.out _ HB4.out).mono ?_
    rintro e w3 ⟨rfl, rfl⟩
    rcases Decidable.em (r < 0) with hneg | hneg
    · have e5 : r = -1 := by
        have := F.out
        rw [← this]
        exact szR_out ((szR_neg _ _ hL2).1 (by rw [this]; exact hneg))
      subst e5
      go_wp2
      go_ret
      exact ⟨ret_i (by rw [E1.out]), HB3.out⟩
    · go_wp2
      go_ret
      exact ⟨ret_i (by rw [E1.out]), HB3.out⟩
  · rw [szR_out (by omega)] at SI
    have E := Lib.hid (szR_out (L := L) (s := (xs.length + szB xs) + (us.length + szT us)) (by omega))
    clear SU
    go_enter Tryz.func196, Tryz.ntmps196
    go_wp2_with fail
    refine (SI.out _ (HB.out.alloc hB _) (by simp; omega)).mono ?_
    rintro e w2 ⟨rfl, hb2⟩
    have hB3 : Below W.heap.size W w2 := ((Below.refl _ _).alloc (Nat.le_refl _) _).trans (hb2.mono (by simp))
    clear hb2
    go_wp2
    go_ret
    exact ⟨ret_i (by rw [E.out]), hB3⟩
end Go.Proofs.YtmaknkbmilcanaaGreatDoor.Qu
