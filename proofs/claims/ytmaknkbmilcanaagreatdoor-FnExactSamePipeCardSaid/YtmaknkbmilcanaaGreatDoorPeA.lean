
/-
  Peers as plain data, and in memory; an argument of type []laws.Peer, opened. The laws' helpers on them: their size. The laws' copies of peers (toPeer, toPeerS: new memory that holds the same, owned by the copy) and their comparison of a list with its like (eqPeer, eqPeerS answer true).
-/
import Derived.Test.YtmaknkbmilcanaaGreatDoorMk
import Derived.Deep.Cut
namespace Go.Proofs.YtmaknkbmilcanaaGreatDoor.Pe
open Go.RowKit
open Go.Proofs.YtmaknkbmilcanaaGreatDoor.Gr Go.Proofs.YtmaknkbmilcanaaGreatDoor.Mk
open Go.ChangeShapes Go.WideShapes Go.ChangeAt Go.Deep
structure Pr where
  url : List UInt8
  pri : Int
  wt : Int
  fails : Int
  retry : Int
  gone : Bool
deriving DecidableEq
instance : Inhabited Pr := ⟨⟨[], 0, 0, 0, 0, false⟩⟩
abbrev Pr.tg (x : Pr) : Tg := ⟨x.url, x.pri, x.wt⟩
def szP : List Pr → Nat
  | [] => 0
  | t :: ts => t.url.length + szP ts
theorem szP_drop {xs : List Pr} (k : Nat) (hx : k < xs.length) : szP (xs.drop k) = (xs.getD k default).url.length + szP (xs.drop (k + 1)) := by
  rw [List.drop_eq_getElem_cons hx]; simp [szP, hx]
/-- v is a slice of the peers xs, in a block of S -/
def PrIn (S : Nat → Prop) (w : World) (v : Value) (xs : List Pr) : Prop :=
  ∃ (a : Option Addr) (cap b off : Nat), v = .slice a xs.length cap ∧ xs.length ≤ cap ∧ cap ≤ 9223372036854775807 ∧ (∀ i, i < xs.length → (xs.getD i default).url.length ≤ 9223372036854775807) ∧
    (0 < xs.length → a = some ⟨b, off, none⟩ ∧ S b) ∧
    ∀ i, i < xs.length → w.cell? ⟨b, off + i * 6, none⟩ = some (.string ⟨(xs.getD i default).url.toArray⟩) ∧ w.cell? ⟨b, off + i * 6 + 1, none⟩ = some (.int .i64 (xs.getD i default).pri) ∧ w.cell? ⟨b, off + i * 6 + 2, none⟩ = some (.int .i64 (xs.getD i default).wt) ∧ w.cell? ⟨b, off + i * 6 + 3, none⟩ = some (.int .i64 (xs.getD i default).fails) ∧ w.cell? ⟨b, off + i * 6 + 4, none⟩ = some (.int .i64 (xs.getD i default).retry) ∧ w.cell? ⟨b, off + i * 6 + 5, none⟩ = some (.bool (xs.getD i default).gone)
abbrev pC (x : Pr) : Array Value := #[.string ⟨x.url.toArray⟩, .int .i64 x.pri, .int .i64 x.wt, .int .i64 x.fails, .int .i64 x.retry, .bool x.gone]
abbrev pV (x : Pr) : Value := .agg #[.string ⟨x.url.toArray⟩, .int .i64 x.pri, .int .i64 x.wt, .int .i64 x.fails, .int .i64 x.retry, .bool x.gone]
theorem PrIn.same {S S' : Nat → Prop} {w w' : World} {v : Value} {xs : List Pr} (h : PrIn S w v xs) (hs : ∀ b, S b → S' b ∧ w'.heap[b]? = w.heap[b]?) : PrIn S' w' v xs := by
  obtain ⟨a, cap, b, off, e, h1, h2, h3, h4, h5⟩ := h
  have hc : ∀ i o, i < xs.length → w'.cell? ⟨b, o, none⟩ = w.cell? ⟨b, o, none⟩ := fun i o hi => World.cell?_of_block (w := w) (a := ⟨b, o, none⟩) (hs b (h4 (Nat.lt_of_le_of_lt (Nat.zero_le i) hi)).2).2
  exact ⟨a, cap, b, off, e, h1, h2, h3, fun hp => ⟨(h4 hp).1, (hs b (h4 hp).2).1⟩, fun i hi => ⟨(hc i _ hi).trans (h5 i hi).1, (hc i _ hi).trans (h5 i hi).2.1, (hc i _ hi).trans (h5 i hi).2.2.1, (hc i _ hi).trans (h5 i hi).2.2.2.1, (hc i _ hi).trans (h5 i hi).2.2.2.2.1, (hc i _ hi).trans (h5 i hi).2.2.2.2.2⟩⟩
theorem PrIn.blw {B : Nat} {w w' : World} {v : Value} {xs : List Pr} (h : PrIn (· < B) w v xs) (hb : Below B w w') : PrIn (· < B) w' v xs := h.same fun b hlt => ⟨hlt, hb.block b hlt⟩
theorem PrIn.mono {S S' : Nat → Prop} {w : World} {v : Value} {xs : List Pr} (h : PrIn S w v xs) (hs : ∀ b, S b → S' b) : PrIn S' w v xs := h.same fun b hb => ⟨hs b hb, rfl⟩
theorem PrIn.later {S : Nat → Prop} {w wx : World} {v : Value} {xs : List Pr} (h : PrIn S w v xs) (hS : ∀ b, S b → b < w.heap.size) (hx : Below w.heap.size w wx) : PrIn (· < wx.heap.size) wx v xs :=
  h.same fun b hb => ⟨Nat.lt_of_lt_of_le (hS b hb) hx.size, hx.block b (hS b hb)⟩
theorem PrIn.slice {S : Nat → Prop} {w : World} {v : Value} {xs : List Pr} (h : PrIn S w v xs) : ∃ a l c, v = .slice a l c := by
  obtain ⟨a', cap', _, _, rfl, _⟩ := h; exact ⟨_, _, _, rfl⟩
theorem PrIn.slice2 {S : Nat → Prop} {w : World} {v : Value} {xs : List Pr} (h : PrIn S w v xs) : ∃ a c, v = .slice a xs.length c := by
  obtain ⟨a', cap', _, _, rfl, _⟩ := h; exact ⟨_, _, rfl⟩
theorem PrIn.nil (S : Nat → Prop) (w : World) : PrIn S w (.slice none 0 0) [] := ⟨none, 0, 0, 0, rfl, by simp, by simp, by simp, by simp, by simp⟩
theorem PrIn.lens {S : Nat → Prop} {w : World} {v : Value} {xs : List Pr} (h : PrIn S w v xs) : ∀ i, i < xs.length → (xs.getD i default).url.length ≤ 9223372036854775807 := by
  obtain ⟨_, _, _, _, _, _, _, h3, _⟩ := h; exact h3
theorem Ch.pr {S T : Nat → Prop} {w w' : World} {v : Value} {xs : List Pr} (hm : Ch S w w') (h : PrIn T w v xs) (hT : ∀ b, T b → b < w.heap.size ∧ ¬ S b) : PrIn T w' v xs := h.same fun b hb => ⟨hb, hm.block b (hT b hb).1 (hT b hb).2⟩
theorem cellsPr : Tryz.prog.cellsOf 305 = 6 := by kernel_rfl
theorem cellsBool : Tryz.prog.cellsOf 4 = 1 := by kernel_rfl
theorem list6 {α : Type} {l : List α} (h : l.length = 6) : ∃ a b c d e f, l = [a, b, c, d, e, f] := by
  match l, h with
  | [a, b, c, d, e, f], _ => exact ⟨a, b, c, d, e, f, rfl⟩
theorem list4 {α : Type} {l : List α} (h : l.length = 4) : ∃ a b c d, l = [a, b, c, d] := by
  match l, h with
  | [a, b, c, d], _ => exact ⟨a, b, c, d, rfl⟩
section
variable {H : Type} {enc : TypeId × Value → H} {w : World} {spare : Nat → Bool} {held : Bool}
set_option maxRecDepth 100000 in
theorem open_prs {fuel : Nat} {v : Value} {x : DataW H × List MemPlace} (h : DataW.trod enc Tryz.prog w 0 spare held fuel 171 [v] = some x) : ∃ xs, PrIn (· < w.heap.size) w v xs := by
  rcases open_slice Tryz.underlying171 h with ⟨e, _⟩ | ⟨a, len, cap, m, n, D, Pl, e, _, hl, hm, hmm, _, hel⟩
  · simp at e
    exact ⟨[], none, 0, 0, 0, e, by simp, by simp, by simp, by simp, by simp⟩
  · simp at e
    subst e
    have hlm : len ≤ m := by rw [hmm]; split <;> omega
    rw [cellsPr] at hel
    have each : ∀ i, i < len → ∃ y : Pr, w.cell? (a.add (i * 6)) = some (.string ⟨y.url.toArray⟩) ∧ w.cell? (a.add (i * 6 + 1)) = some (.int .i64 y.pri) ∧ w.cell? (a.add (i * 6 + 2)) = some (.int .i64 y.wt) ∧ w.cell? (a.add (i * 6 + 3)) = some (.int .i64 y.fails) ∧ w.cell? (a.add (i * 6 + 4)) = some (.int .i64 y.retry) ∧ w.cell? (a.add (i * 6 + 5)) = some (.bool y.gone) ∧ y.url.length ≤ 9223372036854775807 := fun i hi => by
      obtain ⟨cs', h1, h2⟩ := hel i (by omega)
      obtain ⟨ys, n', _, _, hcl, hyl, hf⟩ := DataW.trod_struct Tryz.underlying305 h2
      rw [cellsPr] at hcl
      obtain ⟨v0, v1, v2, v3, v4, v5, rfl⟩ := list6 hcl
      have hyl' : ys.length = 4 := hyl
      obtain ⟨y0, y1, y2, y3, rfl⟩ := list4 hyl'
      have g0 := hf 0 _ rfl
      have g1 := hf 1 _ rfl
      have g2 := hf 2 _ rfl
      have g3 := hf 3 _ rfl
      simp [cellsTg, cellsInt, cellsBool] at g0 g1 g2 g3
      obtain ⟨zs, n2, _, _, hcl2, hzl, hf2⟩ := DataW.trod_struct Tryz.underlying303 g0
      have hzl' : zs.length = 3 := hzl
      obtain ⟨z0, z1, z2, rfl⟩ := list3 hzl'
      have k0 := hf2 0 _ rfl
      have k1 := hf2 1 _ rfl
      have k2 := hf2 2 _ rfl
      simp [cellsStr, cellsInt] at k0 k1 k2
      obtain ⟨t, a0, -, b0⟩ := DataW.trod_string Tryz.underlying9 k0
      obtain ⟨p1, a1, -, b1⟩ := DataW.trod_int Tryz.underlying3 k1
      obtain ⟨p2, a2, -, b2⟩ := DataW.trod_int Tryz.underlying3 k2
      obtain ⟨p3, a3, -, b3⟩ := DataW.trod_int Tryz.underlying3 g1
      obtain ⟨p4, a4, -, b4⟩ := DataW.trod_int Tryz.underlying3 g2
      obtain ⟨p5, a5, -⟩ := DataW.trod_bool Tryz.underlying4 g3
      simp only [List.cons.injEq, and_true] at a0 a1 a2 a3 a4 a5
      subst a0 a1 a2 a3 a4 a5
      have bt : t.data.toList.length ≤ 9223372036854775807 := by rw [Array.length_toList]; exact b0
      obtain ⟨_, _, hc⟩ := World.cells?_some h1
      simp only [Addr.add_add] at hc
      exact ⟨⟨t.data.toList, p1, p2, p3, p4, p5⟩, by simpa using hc 0 (by omega), by simpa using hc 1 (by omega), by simpa using hc 2 (by omega), by simpa using hc 3 (by omega), by simpa using hc 4 (by omega), by simpa using hc 5 (by omega), bt⟩
    obtain ⟨Y, hY⟩ := choose_lt each
    have hlen2 : ((List.range len).map Y).length = len := by simp
    have hget : ∀ i, i < len → ((List.range len).map Y).getD i default = Y i := fun i hi => by simp [hi]
    have hadr : ∀ i o, i < len → a.add (i * 6 + o) = ⟨a.block, a.off + i * 6 + o, none⟩ := fun i o hi => by
      obtain ⟨e1, _⟩ := spot_of (hY 0 (by omega)).1
      rw [e1, add_plain]
      simp only [Addr.mk.injEq, true_and, and_true]
      omega
    refine ⟨(List.range len).map Y, some a, cap, a.block, a.off, by rw [hlen2], by rw [hlen2]; exact hl, hm, ?_, ?_, ?_⟩
    · rw [hlen2]; intro i hi; rw [hget i hi]; exact (hY i hi).2.2.2.2.2.2
    · rw [hlen2]; intro hp
      obtain ⟨e1, e2⟩ := spot_of (hY 0 hp).1
      exact ⟨congrArg some e1, e2⟩
    · rw [hlen2]; intro i hi; rw [hget i hi]
      refine ⟨?_, ?_, ?_, ?_, ?_, ?_⟩
      · show w.cell? ⟨a.block, a.off + i * 6 + 0, none⟩ = _; rw [← hadr i 0 hi]; exact (hY i hi).1
      · rw [← hadr i 1 hi]; exact (hY i hi).2.1
      · rw [← hadr i 2 hi]; exact (hY i hi).2.2.1
      · rw [← hadr i 3 hi]; exact (hY i hi).2.2.2.1
      · rw [← hadr i 4 hi]; exact (hY i hi).2.2.2.2.1
      · rw [← hadr i 5 hi]; exact (hY i hi).2.2.2.2.2.1
end
set_option maxHeartbeats 1000000 in
theorem szPr_any (x : Pr) (L : Int) (W : World) (h0 : 0 ≤ L) (h1 : L ≤ 1048576) (hl : x.url.length ≤ 9223372036854775807) :
    Calls Tryz.prog 272 #[pV x, .int .i64 L] W fun e w' => e = .returned (.int .i64 (szR L x.url.length)) ∧ Below W.heap.size W w' := by
  have HK := Lib.hid (fun W' => szTg_any x.tg L W' h0 h1 hl)
  obtain ⟨u, a, b, c, d, g⟩ := x
  simp only at hl HK ⊢
  obtain ⟨r, hr⟩ : ∃ r, szR L u.length = r := ⟨_, rfl⟩
  have E := Lib.hid hr
  rw [hr] at HK ⊢
  clear hr hl
  go_enter Tryz.func272, Tryz.ntmps272
  go_wp2_with fail
  refine (HK.out _).mono ?_
  rintro e w2 ⟨rfl, hb2⟩
  have hB3 : Below W.heap.size W w2 := ((Below.refl _ _).alloc (Nat.le_refl _) _).trans (hb2.mono (by simp))
  rcases Decidable.em (r < 0) with hneg | hneg
  · have e5 : r = -1 := by
      have := E.out
      unfold szR at this
      split at this <;> omega
    subst e5
    go_wp2
    go_ret
    exact ⟨rfl, hB3⟩
  · go_wp2
    go_ret
    exact ⟨rfl, hB3⟩
set_option maxHeartbeats 1000000 in
theorem szPrs_any (B : Nat) (w0 : World) (xs : List Pr) (v : Value) (h : PrIn (· < B) w0 v xs) (L : Int) (W : World) (hb : Below B w0 W) (hB : B ≤ W.heap.size) (h0 : 0 ≤ L) (h1 : L ≤ 1048576) :
    Calls Tryz.prog 195 #[v, .int .i64 L] W fun e w' => e = .returned (.int .i64 (szR L (xs.length + szP xs))) ∧ Below W.heap.size W w' := by
  obtain ⟨a, cap, b, off, rfl, hcap, hm, hlen, ha, hc⟩ := h
  have hn : xs.length ≤ 9223372036854775807 := by omega
  have HC := Lib.hid hc
  have HL := Lib.hid hlen
  have HA := Lib.hid ha
  have HB := Lib.hid hb
  clear hc hlen ha hb
  by_cases hs : (xs.length : Int) ≤ L
  · have E := Lib.hid (szR_add (r := szP xs) hs)
    have g1 : decide (L - (xs.length : Int) < 0) = false := by simp; omega
    go_enter Tryz.func195, Tryz.ntmps195
    go_wp2
    go_loopw [1, 5] (fun l i wr => ∃ (k : Nat) (m : Int), k ≤ xs.length ∧ i = .int .i64 k ∧ l = .int .i64 m ∧ 0 ≤ m ∧ m ≤ L ∧ szR (L - (xs.length : Int)) (szP xs) = szR m (szP (xs.drop k)) ∧ Below W.heap.size W wr) (fun _ i _ => xs.length - (intOf i).toNat)
    case atStart => exact ⟨0, _, by omega, rfl, rfl, by omega, by omega, rfl, Below.refl _ _⟩
    case round =>
      obtain ⟨k, m, hk, rfl, rfl, hm0, hm1, hE, hR⟩ := hrel
      have HE := Lib.hid hE
      have hR1 := HB.out.trans (hR.mono hB)
      have HR := Lib.hid hR
      have HR1 := Lib.hid hR1
      clear hE hR hR1
      by_cases hlt : k < xs.length
      · obtain ⟨ea, hlb⟩ := HA.out (by omega)
        subst ea
        obtain ⟨c0, c1, c2, c3, c4, c5⟩ := HC.out k hlt
        have q0 := (HR1.out.cell (p := ⟨b, off + k * 6, none⟩) hlb).trans c0
        have q1 := (HR1.out.cell (p := ⟨b, off + k * 6 + 1, none⟩) hlb).trans c1
        have q2 := (HR1.out.cell (p := ⟨b, off + k * 6 + 2, none⟩) hlb).trans c2
        have q3 := (HR1.out.cell (p := ⟨b, off + k * 6 + 3, none⟩) hlb).trans c3
        have q4 := (HR1.out.cell (p := ⟨b, off + k * 6 + 4, none⟩) hlb).trans c4
        have q5 := (HR1.out.cell (p := ⟨b, off + k * 6 + 5, none⟩) hlb).trans c5
        have D := Lib.hid (szP_drop k hlt)
        have HK := Lib.hid (szPr_any (xs.getD k default) m wr hm0 (by omega) (HL.out k hlt))
        clear c0 c1 c2 c3 c4 c5
        generalize xs.getD k default = x at *
        obtain ⟨r, hr⟩ : ∃ r, szR m x.url.length = r := ⟨_, rfl⟩
        have F := Lib.hid hr
        rw [hr] at HK
        clear hr
        go_wp2_with fail
        refine HK.out.mono ?_
        rintro e w2 ⟨rfl, hb2⟩
        have hR3 : Below W.heap.size W w2 := belI_step HR.out hb2
        by_cases hx : m < (x.url.length : Int)
        · have g2 : decide (r < 0) = true := by rw [← F.out, szR_out hx]; rfl
          have G := Lib.hid (szR_out (L := m) (s := x.url.length + szP (xs.drop (k + 1))) (by omega))
          clear hx
          go_wp2
          go_ret
          exact ⟨ret_i (by rw [E.out, HE.out, D.out, G.out]), hR3⟩
        · have hr2 : r = m - x.url.length := by rw [← F.out, szR_in (by omega)]
          have g2 : decide (r < 0) = false := by rw [hr2]; simp; omega
          have G := Lib.hid (szR_add (r := szP (xs.drop (k + 1))) (show (x.url.length : Int) ≤ m by omega))
          have hr0 : 0 ≤ r ∧ r ≤ L := by omega
          rw [← hr2] at G
          clear hx hr2
          go_wp2
          go_roundw
          case rel => exact ⟨k + 1, r, by omega, by go_num, rfl, hr0.1, hr0.2, by rw [HE.out, D.out, G.out], hR3⟩
          case measure => simp [intOf]; omega
      · go_wp2
        go_ret
        obtain rfl : k = xs.length := by omega
        exact ⟨ret_i (by rw [E.out, HE.out, List.drop_length]; exact (szR_zero hm0).symm), HR.out⟩
  · have E := Lib.hid (szR_out (L := L) (s := xs.length + szP xs) (by omega))
    have g1 : decide (L - (xs.length : Int) < 0) = true := by simp; omega
    go_enter Tryz.func195, Tryz.ntmps195
    go_wp2
    go_ret
    exact ⟨ret_i (by rw [E.out]), Below.refl _ _⟩
end Go.Proofs.YtmaknkbmilcanaaGreatDoor.Pe
namespace Go.Proofs.YtmaknkbmilcanaaGreatDoor.Pe
open Go.RowKit
open Go.Proofs.YtmaknkbmilcanaaGreatDoor.Gr (Tg tV toTg_any eqTg_self belI_step belI_alloc heap_set ret_b ret_i)
open Go.Proofs.YtmaknkbmilcanaaGreatDoor.Mk
def prC : List Pr → List Value
  | [] => []
  | t :: r => .string ⟨t.url.toArray⟩ :: .int .i64 t.pri :: .int .i64 t.wt :: .int .i64 t.fails :: .int .i64 t.retry :: .bool t.gone :: prC r
theorem prC_len : ∀ ts : List Pr, (prC ts).length = ts.length * 6
  | [] => rfl
  | t :: r => by have := prC_len r; simp only [prC, List.length_cons]; omega
theorem prC_get : ∀ (ts : List Pr) (i : Nat), i < ts.length → (prC ts)[i * 6]? = some (.string ⟨(ts.getD i default).url.toArray⟩) ∧ (prC ts)[i * 6 + 1]? = some (.int .i64 (ts.getD i default).pri) ∧ (prC ts)[i * 6 + 2]? = some (.int .i64 (ts.getD i default).wt) ∧ (prC ts)[i * 6 + 3]? = some (.int .i64 (ts.getD i default).fails) ∧ (prC ts)[i * 6 + 4]? = some (.int .i64 (ts.getD i default).retry) ∧ (prC ts)[i * 6 + 5]? = some (.bool (ts.getD i default).gone)
  | [], i, h => by simp at h
  | t :: r, 0, _ => ⟨rfl, rfl, rfl, rfl, rfl, rfl⟩
  | t :: r, i + 1, h => by
    have ih := prC_get r i (by simpa using h)
    have e : (i + 1) * 6 = i * 6 + 1 + 1 + 1 + 1 + 1 + 1 := by omega
    rw [e]
    simpa [prC] using ih
/-- v is a row of the call's own from base on: the peers ts -/
def O6 (w : World) (base : Nat) (v : Value) (ts : List Pr) : Prop := w.ownsRow base 87 6 v ts.length (prC ts)
theorem O6.slice {w : World} {base : Nat} {v : Value} {ts : List Pr} (h : O6 w base v ts) : ∃ a c, v = .slice a ts.length c := own_slice h
theorem O6.kept {w w' : World} {base : Nat} {v : Value} {ts : List Pr} {row : Option Nat} (h : O6 w base v ts) (hg : w.grownBy w' row) (hne : v.ownBlock = none ∨ v.ownBlock ≠ row) : O6 w' base v ts := World.ownsRow.kept h hg hne
theorem O6.below {w w' : World} {base : Nat} {v : Value} {ts : List Pr} (h : O6 w base v ts) (hb : Below w.heap.size w w') : O6 w' base v ts := h.kept (below_grownBy hb none) (by cases v.ownBlock <;> simp)
theorem O6.base {w : World} {a b : Nat} {v : Value} {ts : List Pr} (h : O6 w a v ts) (hab : b ≤ a) : O6 w b v ts := own_base h hab
theorem O6.nil (w : World) (a : Nat) : O6 w a (.slice none 0 0) [] := World.ownsRow_nil _ _ _ _
theorem O6.pr {w : World} {base : Nat} {v : Value} {ts : List Pr} (h : O6 w base v ts) (hl : ∀ i, i < ts.length → (ts.getD i default).url.length ≤ 9223372036854775807) : PrIn (fun b => base ≤ b ∧ b < w.heap.size) w v ts := by
  obtain ⟨-, h⟩ := h
  rcases h with ⟨rfl, h0⟩ | ⟨g, cap, cur, rfl, hbg, hg, hnc, hcm, hs, ht⟩
  · obtain rfl : ts = [] := List.eq_nil_of_length_eq_zero h0
    exact PrIn.nil _ _
  · have hlt : g < w.heap.size := (Array.getElem?_eq_some_iff.1 hg).1
    refine ⟨some ⟨g, 0, none⟩, cap, g, 0, rfl, hnc, by unfold maxLen at hcm; omega, hl, fun _ => ⟨rfl, hbg, hlt⟩, fun i hi => ?_⟩
    obtain ⟨e0, e1, e2, e3, e4, e5⟩ := prC_get ts i hi
    rw [← ht, List.getElem?_take_of_lt (by omega)] at e0 e1 e2 e3 e4 e5
    simp only [Nat.zero_add]
    refine ⟨?_, ?_, ?_, ?_, ?_, ?_⟩ <;> simp [World.cell?, hg]
    · simpa using e0
    · simpa using e1
    · simpa using e2
    · simpa using e3
    · simpa using e4
    · simpa using e5
theorem ret_P {fn : Func} {a B : Nat} {tmps : Array Value} {X : World} {c0 c1 c2 c3 c4 c5 : Value} {T : TypeId} (hres : fn.results = #[.cell a 87]) (ha : tmps[a]?.getD undef = .pointer (some ⟨B, 0, none⟩)) (h : Hd X B (.cells #[c0, c1, c2, c3, c4, c5] T)) :
    (results fn tmps).run Tryz.prog X = .ok (.agg #[c0, c1, c2, c3, c4, c5]) X := by
  obtain ⟨k0, k1, k2, k3, k4, k5, _⟩ := h.six
  simp [results, hres, ha, go_sem, k0, k1, k2, k3, k4, k5]
def NewPrs (W : World) (xs : List Pr) (e : Ending) (w' : World) : Prop := ∃ v, e = .returned v ∧ O6 w' W.heap.size v xs ∧ Below W.heap.size W w'
theorem Tryz.infoPr : (Tryz.prog.info? 87).map (fun i => (i.zero, i.size, i.bytes)) = some (some (.agg #[.string ByteArray.empty, .int .i64 0, .int .i64 0, .int .i64 0, .int .i64 0, .bool false]), 6, 56) := by kernel_rfl
abbrev lpO (x : Pr) : Obj := .cells (pC x) 305
abbrev ipO (x : Pr) : Obj := .cells (pC x) 87
abbrev zpO : Obj := .cells #[.string ⟨#[]⟩, .int .i64 0, .int .i64 0, .int .i64 0, .int .i64 0, .bool false] 87
set_option maxRecDepth 100000 in
set_option maxHeartbeats 2000000 in
theorem toPr_any (x : Pr) (W : World) : Calls Tryz.prog 277 #[pV x] W fun e w' => e = .returned (pV x) ∧ Below W.heap.size W w' := by
  obtain ⟨u, a, b, c, d, g⟩ := x
  have HK := Lib.hid (fun W' => (toTg_any ⟨u, a, b⟩ W' : Calls Tryz.prog 332 #[.agg #[.string ⟨u.toArray⟩, .int .i64 a, .int .i64 b]] W' fun e w' => e = .returned (.agg #[.string ⟨u.toArray⟩, .int .i64 a, .int .i64 b]) ∧ Below W'.heap.size W' w'))
  obtain ⟨w1, hw1⟩ : ∃ w1, w1 = (((W.alloc (lpO ⟨u, a, b, c, d, g⟩)).alloc zpO).alloc zpO) := ⟨_, rfl⟩
  have H0 := Lib.hid (show Hd w1 W.heap.size (lpO ⟨u, a, b, c, d, g⟩) from hw1 ▸ alloc3_0 W _ _ _)
  have H1 := Lib.hid (show Hd w1 (W.heap.size + 1) zpO from hw1 ▸ alloc3_1 W _ _ _)
  have H2 := Lib.hid (show Hd w1 (W.heap.size + 1 + 1) zpO from hw1 ▸ alloc3_2 W _ _ _)
  have BF := Lib.hid (show Below W.heap.size W w1 from hw1 ▸ (((Below.refl W.heap.size W).alloc (Nat.le_refl _) _).alloc (by simp) _).alloc (by simp; omega) _)
  go_enter Tryz.func277, Tryz.ntmps277
  go_wp2_with fail
  rw [← hw1]
  clear hw1
  refine (HK.out _).mono ?_
  rintro e w2 ⟨rfl, hb2⟩
  have B2 := Lib.hid (below_chain BF.out hb2)
  have z2 := hb2.size
  have z1 := H2.out.lt
  obtain ⟨m0, m1, m2, m3, m4, m5, -⟩ := (H0.out.blw hb2).six
  obtain ⟨n0, n1, n2, n3, n4, n5, nf⟩ := (H2.out.blw hb2).six
  obtain ⟨p0, p1, p2, p3, p4, p5, pf⟩ := (H1.out.blw hb2).six
  have A1 := Lib.hid (H1.out.blw hb2)
  have A2 := Lib.hid (H2.out.blw hb2)
  clear hb2 m0 m1 m2 p0 p1 p2 p3 p4 p5 pf
  go_upto_region 6 with fail
  obtain ⟨w3, hw3⟩ : ∃ w3, w3 = set6 w2 (W.heap.size + 1 + 1) 0 (.string ⟨u.toArray⟩) (.int .i64 a) (.int .i64 b) (.int .i64 c) (.int .i64 d) (.bool g) := ⟨_, rfl⟩
  have C2 := Lib.hid (show Hd w3 (W.heap.size + 1 + 1) (ipO ⟨u, a, b, c, d, g⟩) by rw [hw3]; exact Hd.set6 A2.out _ _ _ _ _ _)
  have C1 := Lib.hid (show Hd w3 (W.heap.size + 1) zpO by rw [hw3]; exact Hd.far6 A1.out (by omega) _ _ _ _ _ _)
  have B3 := Lib.hid (show Below W.heap.size W w3 by rw [hw3]; exact bel6 B2.out (by omega) _ _ _ _ _ _)
  obtain ⟨r0, r1, r2, r3, r4, r5, -⟩ := C2.out.six
  obtain ⟨p0, p1, p2, p3, p4, p5, pf⟩ := C1.out.six
  have HR := Lib.hid (Hd.set6 C1.out (.string ⟨u.toArray⟩) (.int .i64 a) (.int .i64 b) (.int .i64 c) (.int .i64 d) (.bool g))
  have HB := Lib.hid (bel6 (o := 0) B3.out (show W.heap.size ≤ W.heap.size + 1 by omega) (.string ⟨u.toArray⟩) (.int .i64 a) (.int .i64 b) (.int .i64 c) (.int .i64 d) (.bool g))
  rw [show (((((w2.setCell ⟨W.heap.size + 1 + 1, 0, none⟩ (.string ⟨u.toArray⟩)).setCell ⟨W.heap.size + 1 + 1, 1, none⟩ (.int .i64 a)).setCell ⟨W.heap.size + 1 + 1, 2, none⟩ (.int .i64 b)).setCell ⟨W.heap.size + 1 + 1, 3, none⟩ (.int .i64 c)).setCell ⟨W.heap.size + 1 + 1, 4, none⟩ (.int .i64 d)).setCell ⟨W.heap.size + 1 + 1, 5, none⟩ (.bool g) = w3 from hw3.symm]
  clear hw3 n0 n1 n2 n3 n4 n5 nf m3 m4 m5
  go_wp2
  exact bodyPost_ret (ret_P Tryz.results277 rfl HR.out) rfl ⟨rfl, HB.out⟩
def PRel (W : World) (xs : List Pr) (k : Nat) (wr : World) : Prop :=
  ∃ (F : Nat → Value), wr.rowIs W.heap.size 87 (xs.length * 6) F ∧
    (∀ i, i < k → F (i * 6) = .string ⟨(xs.getD i default).url.toArray⟩ ∧ F (i * 6 + 1) = .int .i64 (xs.getD i default).pri ∧ F (i * 6 + 2) = .int .i64 (xs.getD i default).wt ∧ F (i * 6 + 3) = .int .i64 (xs.getD i default).fails ∧ F (i * 6 + 4) = .int .i64 (xs.getD i default).retry ∧ F (i * 6 + 5) = .bool (xs.getD i default).gone) ∧ Below W.heap.size W wr
theorem run_makeP (n : Nat) (hn : n ≤ 1048576) (w : World) : (Instr.makeSlice 78 (.int .i64 (n : Int)) (.int .i64 (n : Int))).run Tryz.prog w = .ok (.slice (some ⟨w.heap.size, 0, none⟩) n n) (w.alloc (.cells (madeCells #[.string ByteArray.empty, .int .i64 0, .int .i64 0, .int .i64 0, .int .i64 0, .bool false] (n * 6)) 87)) := by
  obtain ⟨i0, hi, hz0, hz1, hz2⟩ := info_parts Tryz.infoPr
  have h := run_make (P := Tryz.prog) w 78 87 i0 _ Tryz.underlying78 hi hz0 .i64 .i64 n n (by omega) (by omega) (by rw [hz2]; omega) (by omega)
  rw [hz1] at h
  simpa [Value.cells] using h
theorem pRel_start (W : World) (xs : List Pr) : PRel W xs 0 (W.alloc (.cells (madeCells #[.string ByteArray.empty, .int .i64 0, .int .i64 0, .int .i64 0, .int .i64 0, .bool false] (xs.length * 6)) 87)) := by
  refine ⟨fun i => #[.string ByteArray.empty, .int .i64 0, .int .i64 0, .int .i64 0, .int .i64 0, .bool false][i % 6]!, ?_, fun i hi => by omega, (Below.refl _ _).alloc (Nat.le_refl _) _⟩
  exact ⟨_, heap_alloc_new _ _, size_madeCells _ _, fun i hi => by simp [madeCells, hi]⟩
/-- a row whose cells are those of the peers is owned -/
theorem O6_of_row {w : World} {base g cap : Nat} {xs : List Pr} {F : Nat → Value} (hr : w.rowIs g 87 (cap * 6) F) (hc : xs.length ≤ cap) (hm : cap ≤ maxLen) (hb : base ≤ g)
    (hf : ∀ i, i < xs.length → F (i * 6) = .string ⟨(xs.getD i default).url.toArray⟩ ∧ F (i * 6 + 1) = .int .i64 (xs.getD i default).pri ∧ F (i * 6 + 2) = .int .i64 (xs.getD i default).wt ∧ F (i * 6 + 3) = .int .i64 (xs.getD i default).fails ∧ F (i * 6 + 4) = .int .i64 (xs.getD i default).retry ∧ F (i * 6 + 5) = .bool (xs.getD i default).gone) :
    O6 w base (.slice (some ⟨g, 0, none⟩) xs.length cap) xs := by
  obtain ⟨C, hC, hCs, hCf⟩ := hr
  refine ⟨prC_len xs, .inr ⟨g, cap, C, rfl, hb, hC, hc, hm, hCs, ?_⟩⟩
  apply List.ext_getElem?
  intro j
  by_cases hj : j < xs.length * 6
  · rw [List.getElem?_take_of_lt hj]
    have h1 : C.toList[j]? = some (F j) := by have := hCf j (by omega); simpa using this
    rw [h1]
    obtain ⟨g0, g1, g2, g3, g4, g5⟩ := prC_get xs (j / 6) (by omega)
    obtain ⟨f0, f1, f2, f3, f4, f5⟩ := hf (j / 6) (by omega)
    rcases (show j % 6 = 0 ∨ j % 6 = 1 ∨ j % 6 = 2 ∨ j % 6 = 3 ∨ j % 6 = 4 ∨ j % 6 = 5 by omega) with e | e | e | e | e | e
    · have ej : j = j / 6 * 6 := by omega
      rw [← ej] at g0 f0
      rw [g0, f0]
    · have ej : j = j / 6 * 6 + 1 := by omega
      rw [← ej] at g1 f1
      rw [g1, f1]
    · have ej : j = j / 6 * 6 + 2 := by omega
      rw [← ej] at g2 f2
      rw [g2, f2]
    · have ej : j = j / 6 * 6 + 3 := by omega
      rw [← ej] at g3 f3
      rw [g3, f3]
    · have ej : j = j / 6 * 6 + 4 := by omega
      rw [← ej] at g4 f4
      rw [g4, f4]
    · have ej : j = j / 6 * 6 + 5 := by omega
      rw [← ej] at g5 f5
      rw [g5, f5]
  · rw [List.getElem?_eq_none (by simp; omega), List.getElem?_eq_none (by rw [prC_len]; omega)]
theorem pRel_end {W w' : World} {xs : List Pr} (h : PRel W xs xs.length w') (hm : xs.length ≤ 1048576) : NewPrs W xs (.returned (.slice (some ⟨W.heap.size, 0, none⟩) xs.length xs.length)) w' := by
  obtain ⟨F, hr, hf, hb⟩ := h
  exact ⟨_, rfl, O6_of_row hr (Nat.le_refl _) (by unfold maxLen; omega) (Nat.le_refl _) hf, hb⟩
theorem pRel_step {W wr w2 : World} {xs : List Pr} {k : Nat} {x : Pr} {F : Nat → Value} (hx : xs.getD k default = x) (hr : w2.rowIs W.heap.size 87 (xs.length * 6) F)
    (hf : ∀ i, i < k → F (i * 6) = .string ⟨(xs.getD i default).url.toArray⟩ ∧ F (i * 6 + 1) = .int .i64 (xs.getD i default).pri ∧ F (i * 6 + 2) = .int .i64 (xs.getD i default).wt ∧ F (i * 6 + 3) = .int .i64 (xs.getD i default).fails ∧ F (i * 6 + 4) = .int .i64 (xs.getD i default).retry ∧ F (i * 6 + 5) = .bool (xs.getD i default).gone) (hN : Below W.heap.size W wr) (hlt : W.heap.size < wr.heap.size) (hb2 : Below wr.heap.size wr w2) :
    PRel W xs (k + 1) (set6 w2 W.heap.size (k * 6) (.string ⟨x.url.toArray⟩) (.int .i64 x.pri) (.int .i64 x.wt) (.int .i64 x.fails) (.int .i64 x.retry) (.bool x.gone)) := by
  refine ⟨fun j => if j = k * 6 + 5 then .bool x.gone else if j = k * 6 + 4 then .int .i64 x.retry else if j = k * 6 + 3 then .int .i64 x.fails else if j = k * 6 + 2 then .int .i64 x.wt else if j = k * 6 + 1 then .int .i64 x.pri else if j = k * 6 then .string ⟨x.url.toArray⟩ else F j, (((((hr.set _ _).set _ _).set _ _).set _ _).set _ _).set _ _, fun i hi => ?_, ?_⟩
  · by_cases e : i = k
    · subst e
      rw [hx]
      refine ⟨?_, ?_, ?_, ?_, ?_, ?_⟩ <;> simp
    · obtain ⟨f0, f1, f2, f3, f4, f5⟩ := hf i (by omega)
      refine ⟨?_, ?_, ?_, ?_, ?_, ?_⟩ <;> dsimp only
      · rw [if_neg (by omega), if_neg (by omega), if_neg (by omega), if_neg (by omega), if_neg (by omega), if_neg (by omega), f0]
      · rw [if_neg (by omega), if_neg (by omega), if_neg (by omega), if_neg (by omega), if_neg (by omega), if_neg (by omega), f1]
      · rw [if_neg (by omega), if_neg (by omega), if_neg (by omega), if_neg (by omega), if_neg (by omega), if_neg (by omega), f2]
      · rw [if_neg (by omega), if_neg (by omega), if_neg (by omega), if_neg (by omega), if_neg (by omega), if_neg (by omega), f3]
      · rw [if_neg (by omega), if_neg (by omega), if_neg (by omega), if_neg (by omega), if_neg (by omega), if_neg (by omega), f4]
      · rw [if_neg (by omega), if_neg (by omega), if_neg (by omega), if_neg (by omega), if_neg (by omega), if_neg (by omega), f5]
  · have hb3 : Below W.heap.size W w2 := hN.trans (hb2.mono (by omega))
    exact (((((hb3.setCell (by simp) _).setCell (by simp) _).setCell (by simp) _).setCell (by simp) _).setCell (by simp) _).setCell (by simp) _
set_option maxHeartbeats 1000000 in
theorem toPrs_any (B : Nat) (w0 : World) (xs : List Pr) (v : Value) (h : PrIn (· < B) w0 v xs) (hsz : xs.length ≤ 1048576) (W : World) (hb : Below B w0 W) (hB : B ≤ W.heap.size) :
    Calls Tryz.prog 205 #[v] W (NewPrs W xs) := by
  obtain ⟨a, cap, b, off, rfl, hcap, hm, -, ha, hc⟩ := h
  have HC := Lib.hid hc
  have HA := Lib.hid ha
  have HB := Lib.hid hb
  clear hc ha hb
  have hmk := fun w => run_makeP xs.length hsz w
  have HR0 := Lib.hid (pRel_start W xs)
  go_enter Tryz.func205, Tryz.ntmps205
  go_wp2
  go_loopw [4] (fun i wr => ∃ (k : Nat), k ≤ xs.length ∧ i = .int .i64 k ∧ PRel W xs k wr) (fun i _ => xs.length - (intOf i).toNat)
  case atStart => exact ⟨0, by omega, rfl, HR0.out⟩
  case round =>
    obtain ⟨k, hk, rfl, hR⟩ := hrel
    by_cases hlt : k < xs.length
    · obtain ⟨ea, hlb⟩ := HA.out (by omega)
      subst ea
      obtain ⟨F, hr, hf, hN⟩ := hR
      have hW : Below B w0 wr := HB.out.trans (hN.mono hB)
      obtain ⟨d0, d1, d2, d3, d4, d5⟩ := HC.out k hlt
      have q0 := (hW.cell (p := ⟨b, off + k * 6, none⟩) hlb).trans d0
      have q1 := (hW.cell (p := ⟨b, off + k * 6 + 1, none⟩) hlb).trans d1
      have q2 := (hW.cell (p := ⟨b, off + k * 6 + 2, none⟩) hlb).trans d2
      have q3 := (hW.cell (p := ⟨b, off + k * 6 + 3, none⟩) hlb).trans d3
      have q4 := (hW.cell (p := ⟨b, off + k * 6 + 4, none⟩) hlb).trans d4
      have q5 := (hW.cell (p := ⟨b, off + k * 6 + 5, none⟩) hlb).trans d5
      clear d0 d1 d2 d3 d4 d5
      have HF := Lib.hid hf
      have HN := Lib.hid hN
      have HR := Lib.hid hr
      clear hf hN hW hr
      generalize hx : xs.getD k default = x at *
      have HX := Lib.hid hx
      have HK := Lib.hid (toPr_any x wr)
      clear hx
      go_wp2_with fail
      refine HK.out.mono ?_
      rintro e w2 ⟨rfl, hb2⟩
      have z2 := hb2.size
      have hr2 := HR.out.of_block (hb2.block _ HR.out.lt)
      have p0 := hr2.cell (i := k * 6) (by omega)
      have p1 := hr2.cell (i := k * 6 + 1) (by omega)
      have p2 := hr2.cell (i := k * 6 + 2) (by omega)
      have p3 := hr2.cell (i := k * 6 + 3) (by omega)
      have p4 := hr2.cell (i := k * 6 + 4) (by omega)
      have p5 := hr2.cell (i := k * 6 + 5) (by omega)
      have pf := hr2.frozen
      have HR2 := Lib.hid hr2
      have HB2 := Lib.hid hb2
      clear hr2 hb2
      go_wp2
      go_roundw
      case rel => exact ⟨k + 1, by omega, by go_num, pRel_step HX.out HR2.out HF.out HN.out HR.out.lt HB2.out⟩
      case measure => simp [intOf]; omega
    · obtain rfl : k = xs.length := by omega
      have hF := Lib.hid (pRel_end hR hsz)
      go_wp2
      go_ret
      exact hF.out
/-! ### a thing compared with its like -/
set_option maxRecDepth 100000 in
set_option maxHeartbeats 2000000 in
theorem eqPr_self (x : Pr) (W : World) : Calls Tryz.prog 290 #[pV x, pV x] W fun e w' => e = .returned (.bool true) ∧ Below W.heap.size W w' := by
  have HK := Lib.hid (fun W' => eqTg_self x.tg W')
  obtain ⟨u, a, b, c, d, g⟩ := x
  try dsimp only at HK ⊢
  have e3 : (c == c) = true := by simp
  have e4 : (c != c) = false := by simp
  have e5 : (d == d) = true := by simp
  have e6 : (d != d) = false := by simp
  have e7 : (g == g) = true := by simp
  have e8 : (g != g) = false := by simp
  go_enter Tryz.func290, Tryz.ntmps290
  go_wp2_with fail
  refine (HK.out _).mono ?_
  rintro e w2 ⟨rfl, hb2⟩
  have B2 := Lib.hid ((((Below.refl W.heap.size W).alloc (Nat.le_refl _) _).alloc (by simp) _).trans (hb2.mono (by simp; omega)))
  obtain ⟨m0, m1, m2, m3, m4, m5, -⟩ := (((Hd.new W (ipO ⟨u, a, b, c, d, g⟩)).al (ipO ⟨u, a, b, c, d, g⟩)).blw hb2).six
  obtain ⟨n0, n1, n2, n3, n4, n5, -⟩ := (((by simpa using Hd.new (W.alloc (ipO ⟨u, a, b, c, d, g⟩)) (ipO ⟨u, a, b, c, d, g⟩) : Hd ((W.alloc (ipO ⟨u, a, b, c, d, g⟩)).alloc (ipO ⟨u, a, b, c, d, g⟩)) (W.heap.size + 1) (ipO ⟨u, a, b, c, d, g⟩))).blw hb2).six
  clear hb2
  go_wp2
  go_ret
  exact ⟨rfl, B2.out⟩
set_option maxRecDepth 100000 in
set_option maxHeartbeats 2000000 in
theorem eqPrs_self (B : Nat) (w0 : World) (xs : List Pr) (v u : Value) (h1 : PrIn (· < B) w0 v xs) (h2 : PrIn (· < B) w0 u xs) (W : World) (hb : Below B w0 W) (hB : B ≤ W.heap.size) :
    Calls Tryz.prog 216 #[v, u] W fun e w' => e = .returned (.bool true) ∧ Below W.heap.size W w' := by
  obtain ⟨a, cap, b, off, rfl, hcap, hm, hlen, ha, hc⟩ := h1
  obtain ⟨a', cap', b', off', rfl, hcap', hm', hlen', ha', hc'⟩ := h2
  have hn : xs.length ≤ 9223372036854775807 := by omega
  have HC := Lib.hid hc
  have HA := Lib.hid ha
  have HC' := Lib.hid hc'
  have HA' := Lib.hid ha'
  have HB := Lib.hid hb
  clear hc ha hc' ha' hb hlen hlen'
  have g1 : ((xs.length : Int) != (xs.length : Int)) = false := by simp
  go_enter Tryz.func216, Tryz.ntmps216
  go_wp2
  go_loopw [5] (fun i wr => ∃ k : Nat, k ≤ xs.length ∧ i = .int .i64 k ∧ Below W.heap.size W wr) (fun i _ => xs.length - (intOf i).toNat)
  case atStart => exact ⟨0, by omega, rfl, Below.refl _ _⟩
  case round =>
    obtain ⟨k, hk, rfl, hR⟩ := hrel
    by_cases hlt : k < xs.length
    · obtain ⟨ea, hlb⟩ := HA.out (by omega)
      obtain ⟨ea', hlb'⟩ := HA'.out (by omega)
      subst ea ea'
      have hW := HB.out.trans (hR.mono hB)
      obtain ⟨c0, c1, c2, c3, c4, c5⟩ := HC.out k hlt
      obtain ⟨c0', c1', c2', c3', c4', c5'⟩ := HC'.out k hlt
      have q0 := (hW.cell (p := ⟨b, off + k * 6, none⟩) hlb).trans c0
      have q1 := (hW.cell (p := ⟨b, off + k * 6 + 1, none⟩) hlb).trans c1
      have q2 := (hW.cell (p := ⟨b, off + k * 6 + 2, none⟩) hlb).trans c2
      have q3 := (hW.cell (p := ⟨b, off + k * 6 + 3, none⟩) hlb).trans c3
      have q4 := (hW.cell (p := ⟨b, off + k * 6 + 4, none⟩) hlb).trans c4
      have q5 := (hW.cell (p := ⟨b, off + k * 6 + 5, none⟩) hlb).trans c5
      have r0 := (hW.cell (p := ⟨b', off' + k * 6, none⟩) hlb').trans c0'
      have r1 := (hW.cell (p := ⟨b', off' + k * 6 + 1, none⟩) hlb').trans c1'
      have r2 := (hW.cell (p := ⟨b', off' + k * 6 + 2, none⟩) hlb').trans c2'
      have r3 := (hW.cell (p := ⟨b', off' + k * 6 + 3, none⟩) hlb').trans c3'
      have r4 := (hW.cell (p := ⟨b', off' + k * 6 + 4, none⟩) hlb').trans c4'
      have r5 := (hW.cell (p := ⟨b', off' + k * 6 + 5, none⟩) hlb').trans c5'
      clear c0 c1 c2 c3 c4 c5 c0' c1' c2' c3' c4' c5' hW
      generalize xs.getD k default = x at *
      go_wp2_with fail
      go_region_held3 (fun wx => wx.cell? ⟨b, off + k * 6, none⟩ = some (.string ⟨x.url.toArray⟩) ∧ wx.cell? ⟨b, off + k * 6 + 1, none⟩ = some (.int .i64 x.pri) ∧ wx.cell? ⟨b, off + k * 6 + 2, none⟩ = some (.int .i64 x.wt) ∧ wx.cell? ⟨b, off + k * 6 + 3, none⟩ = some (.int .i64 x.fails) ∧ wx.cell? ⟨b, off + k * 6 + 4, none⟩ = some (.int .i64 x.retry) ∧ wx.cell? ⟨b, off + k * 6 + 5, none⟩ = some (.bool x.gone) ∧ wx.cell? ⟨b', off' + k * 6, none⟩ = some (.string ⟨x.url.toArray⟩) ∧ wx.cell? ⟨b', off' + k * 6 + 1, none⟩ = some (.int .i64 x.pri) ∧ wx.cell? ⟨b', off' + k * 6 + 2, none⟩ = some (.int .i64 x.wt) ∧ wx.cell? ⟨b', off' + k * 6 + 3, none⟩ = some (.int .i64 x.fails) ∧ wx.cell? ⟨b', off' + k * 6 + 4, none⟩ = some (.int .i64 x.retry) ∧ wx.cell? ⟨b', off' + k * 6 + 5, none⟩ = some (.bool x.gone) ∧ Below W.heap.size W wx)
        (first
          | (simp [*, Below.drew]; done)
          | (go_split_ands
             have hz : B ≤ _ := Nat.le_trans hB (Below.size (by assumption))
             refine ⟨?_, ?_, ?_, ?_, ?_, ?_, ?_, ?_, ?_, ?_, ?_, ?_, belI_step (by assumption) hb⟩
             · (rw [hb.cell (p := ⟨b, off + k * 6, none⟩) (Nat.lt_of_lt_of_le hlb hz)]; assumption)
             · (rw [hb.cell (p := ⟨b, off + k * 6 + 1, none⟩) (Nat.lt_of_lt_of_le hlb hz)]; assumption)
             · (rw [hb.cell (p := ⟨b, off + k * 6 + 2, none⟩) (Nat.lt_of_lt_of_le hlb hz)]; assumption)
             · (rw [hb.cell (p := ⟨b, off + k * 6 + 3, none⟩) (Nat.lt_of_lt_of_le hlb hz)]; assumption)
             · (rw [hb.cell (p := ⟨b, off + k * 6 + 4, none⟩) (Nat.lt_of_lt_of_le hlb hz)]; assumption)
             · (rw [hb.cell (p := ⟨b, off + k * 6 + 5, none⟩) (Nat.lt_of_lt_of_le hlb hz)]; assumption)
             · (rw [hb.cell (p := ⟨b', off' + k * 6, none⟩) (Nat.lt_of_lt_of_le hlb' hz)]; assumption)
             · (rw [hb.cell (p := ⟨b', off' + k * 6 + 1, none⟩) (Nat.lt_of_lt_of_le hlb' hz)]; assumption)
             · (rw [hb.cell (p := ⟨b', off' + k * 6 + 2, none⟩) (Nat.lt_of_lt_of_le hlb' hz)]; assumption)
             · (rw [hb.cell (p := ⟨b', off' + k * 6 + 3, none⟩) (Nat.lt_of_lt_of_le hlb' hz)]; assumption)
             · (rw [hb.cell (p := ⟨b', off' + k * 6 + 4, none⟩) (Nat.lt_of_lt_of_le hlb' hz)]; assumption)
             · (rw [hb.cell (p := ⟨b', off' + k * 6 + 5, none⟩) (Nat.lt_of_lt_of_le hlb' hz)]; assumption)))
        (first
          | (go_split_ands; go_at_call 290; refine (eqPr_self x _).mono ?_; rintro e w1 ⟨rfl, hb⟩))
      go_split_ands
      rename_i hNW
      have HN := Lib.hid hNW
      clear hNW
      go_wp2
      go_roundw
      case rel => exact ⟨k + 1, by omega, by go_num, HN.out⟩
      case measure => simp [intOf]; omega
    · go_wp2
      go_ret
      exact ⟨rfl, hR⟩
end Go.Proofs.YtmaknkbmilcanaaGreatDoor.Pe
