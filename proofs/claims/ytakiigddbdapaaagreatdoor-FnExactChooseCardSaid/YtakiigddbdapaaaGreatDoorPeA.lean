
/-
  Peers as plain data, and in memory; an argument of type []laws.Peer, opened. The laws' helpers on them: their size.
-/
import Derived.Test.YtakiigddbdapaaaGreatDoorMk
namespace Go.Proofs.YtakiigddbdapaaaGreatDoor.Pe
open Go.RowKit
open Go.Proofs.YtakiigddbdapaaaGreatDoor.Gr Go.Proofs.YtakiigddbdapaaaGreatDoor.Mk
open Go.ChangeShapes Go.WideShapes Go.ChangeAt Go.Deep
structure Pr where
  url : List UInt8
  pri : Int
  wt : Int
  fails : Int
  retry : Int
  gone : Bool
deriving DecidableEq
instance : Inhabited Pr := ⟨⟨[], 0, 0, 0, 0, false⟩⟩
abbrev Pr.tg (x : Pr) : Tg := ⟨x.url, x.pri, x.wt⟩
def szP : List Pr → Nat
  | [] => 0
  | t :: ts => t.url.length + szP ts
theorem szP_drop {xs : List Pr} (k : Nat) (hx : k < xs.length) : szP (xs.drop k) = (xs.getD k default).url.length + szP (xs.drop (k + 1)) := by
  rw [List.drop_eq_getElem_cons hx]; simp [szP, hx]
/-- v is a slice of the peers xs, in a block of S -/
def PrIn (S : Nat → Prop) (w : World) (v : Value) (xs : List Pr) : Prop :=
  ∃ (a : Option Addr) (cap b off : Nat), v = .slice a xs.length cap ∧ xs.length ≤ cap ∧ cap ≤ 9223372036854775807 ∧ (∀ i, i < xs.length → (xs.getD i default).url.length ≤ 9223372036854775807) ∧
    (0 < xs.length → a = some ⟨b, off, none⟩ ∧ S b) ∧
    ∀ i, i < xs.length → w.cell? ⟨b, off + i * 6, none⟩ = some (.string ⟨(xs.getD i default).url.toArray⟩) ∧ w.cell? ⟨b, off + i * 6 + 1, none⟩ = some (.int .i64 (xs.getD i default).pri) ∧ w.cell? ⟨b, off + i * 6 + 2, none⟩ = some (.int .i64 (xs.getD i default).wt) ∧ w.cell? ⟨b, off + i * 6 + 3, none⟩ = some (.int .i64 (xs.getD i default).fails) ∧ w.cell? ⟨b, off + i * 6 + 4, none⟩ = some (.int .i64 (xs.getD i default).retry) ∧ w.cell? ⟨b, off + i * 6 + 5, none⟩ = some (.bool (xs.getD i default).gone)
abbrev pC (x : Pr) : Array Value := #[.string ⟨x.url.toArray⟩, .int .i64 x.pri, .int .i64 x.wt, .int .i64 x.fails, .int .i64 x.retry, .bool x.gone]
abbrev pV (x : Pr) : Value := .agg #[.string ⟨x.url.toArray⟩, .int .i64 x.pri, .int .i64 x.wt, .int .i64 x.fails, .int .i64 x.retry, .bool x.gone]
theorem PrIn.same {S S' : Nat → Prop} {w w' : World} {v : Value} {xs : List Pr} (h : PrIn S w v xs) (hs : ∀ b, S b → S' b ∧ w'.heap[b]? = w.heap[b]?) : PrIn S' w' v xs := by
  obtain ⟨a, cap, b, off, e, h1, h2, h3, h4, h5⟩ := h
  have hc : ∀ i o, i < xs.length → w'.cell? ⟨b, o, none⟩ = w.cell? ⟨b, o, none⟩ := fun i o hi => World.cell?_of_block (w := w) (a := ⟨b, o, none⟩) (hs b (h4 (Nat.lt_of_le_of_lt (Nat.zero_le i) hi)).2).2
  exact ⟨a, cap, b, off, e, h1, h2, h3, fun hp => ⟨(h4 hp).1, (hs b (h4 hp).2).1⟩, fun i hi => ⟨(hc i _ hi).trans (h5 i hi).1, (hc i _ hi).trans (h5 i hi).2.1, (hc i _ hi).trans (h5 i hi).2.2.1, (hc i _ hi).trans (h5 i hi).2.2.2.1, (hc i _ hi).trans (h5 i hi).2.2.2.2.1, (hc i _ hi).trans (h5 i hi).2.2.2.2.2⟩⟩
theorem PrIn.blw {B : Nat} {w w' : World} {v : Value} {xs : List Pr} (h : PrIn (· < B) w v xs) (hb : Below B w w') : PrIn (· < B) w' v xs := h.same fun b hlt => ⟨hlt, hb.block b hlt⟩
theorem PrIn.mono {S S' : Nat → Prop} {w : World} {v : Value} {xs : List Pr} (h : PrIn S w v xs) (hs : ∀ b, S b → S' b) : PrIn S' w v xs := h.same fun b hb => ⟨hs b hb, rfl⟩
theorem PrIn.later {S : Nat → Prop} {w wx : World} {v : Value} {xs : List Pr} (h : PrIn S w v xs) (hS : ∀ b, S b → b < w.heap.size) (hx : Below w.heap.size w wx) : PrIn (· < wx.heap.size) wx v xs :=
  h.same fun b hb => ⟨Nat.lt_of_lt_of_le (hS b hb) hx.size, hx.block b (hS b hb)⟩
theorem PrIn.slice {S : Nat → Prop} {w : World} {v : Value} {xs : List Pr} (h : PrIn S w v xs) : ∃ a l c, v = .slice a l c := by
  obtain ⟨a', cap', _, _, rfl, _⟩ := h; exact ⟨_, _, _, rfl⟩
theorem PrIn.slice2 {S : Nat → Prop} {w : World} {v : Value} {xs : List Pr} (h : PrIn S w v xs) : ∃ a c, v = .slice a xs.length c := by
  obtain ⟨a', cap', _, _, rfl, _⟩ := h; exact ⟨_, _, rfl⟩
theorem PrIn.nil (S : Nat → Prop) (w : World) : PrIn S w (.slice none 0 0) [] := ⟨none, 0, 0, 0, rfl, by simp, by simp, by simp, by simp, by simp⟩
theorem PrIn.lens {S : Nat → Prop} {w : World} {v : Value} {xs : List Pr} (h : PrIn S w v xs) : ∀ i, i < xs.length → (xs.getD i default).url.length ≤ 9223372036854775807 := by
  obtain ⟨_, _, _, _, _, _, _, h3, _⟩ := h; exact h3
theorem Ch.pr {S T : Nat → Prop} {w w' : World} {v : Value} {xs : List Pr} (hm : Ch S w w') (h : PrIn T w v xs) (hT : ∀ b, T b → b < w.heap.size ∧ ¬ S b) : PrIn T w' v xs := h.same fun b hb => ⟨hb, hm.block b (hT b hb).1 (hT b hb).2⟩
theorem cellsPr : Tryz.prog.cellsOf 64 = 6 := by kernel_rfl
theorem cellsBool : Tryz.prog.cellsOf 4 = 1 := by kernel_rfl
theorem list6 {α : Type} {l : List α} (h : l.length = 6) : ∃ a b c d e f, l = [a, b, c, d, e, f] := by
  match l, h with
  | [a, b, c, d, e, f], _ => exact ⟨a, b, c, d, e, f, rfl⟩
theorem list4 {α : Type} {l : List α} (h : l.length = 4) : ∃ a b c d, l = [a, b, c, d] := by
  match l, h with
  | [a, b, c, d], _ => exact ⟨a, b, c, d, rfl⟩
section
variable {H : Type} {enc : TypeId × Value → H} {w : World} {spare : Nat → Bool} {held : Bool}
set_option maxRecDepth 100000 in
theorem open_prs {fuel : Nat} {v : Value} {x : DataW H × List MemPlace} (h : DataW.trod enc Tryz.prog w 0 spare held fuel 38 [v] = some x) : ∃ xs, PrIn (· < w.heap.size) w v xs := by
  rcases open_slice Tryz.underlying38 h with ⟨e, _⟩ | ⟨a, len, cap, m, n, D, Pl, e, _, hl, hm, hmm, _, hel⟩
  · simp at e
    exact ⟨[], none, 0, 0, 0, e, by simp, by simp, by simp, by simp, by simp⟩
  · simp at e
    subst e
    have hlm : len ≤ m := by rw [hmm]; split <;> omega
    rw [cellsPr] at hel
    have each : ∀ i, i < len → ∃ y : Pr, w.cell? (a.add (i * 6)) = some (.string ⟨y.url.toArray⟩) ∧ w.cell? (a.add (i * 6 + 1)) = some (.int .i64 y.pri) ∧ w.cell? (a.add (i * 6 + 2)) = some (.int .i64 y.wt) ∧ w.cell? (a.add (i * 6 + 3)) = some (.int .i64 y.fails) ∧ w.cell? (a.add (i * 6 + 4)) = some (.int .i64 y.retry) ∧ w.cell? (a.add (i * 6 + 5)) = some (.bool y.gone) ∧ y.url.length ≤ 9223372036854775807 := fun i hi => by
      obtain ⟨cs', h1, h2⟩ := hel i (by omega)
      obtain ⟨ys, n', _, _, hcl, hyl, hf⟩ := DataW.trod_struct Tryz.underlying64 h2
      rw [cellsPr] at hcl
      obtain ⟨v0, v1, v2, v3, v4, v5, rfl⟩ := list6 hcl
      have hyl' : ys.length = 4 := hyl
      obtain ⟨y0, y1, y2, y3, rfl⟩ := list4 hyl'
      have g0 := hf 0 _ rfl
      have g1 := hf 1 _ rfl
      have g2 := hf 2 _ rfl
      have g3 := hf 3 _ rfl
      simp [cellsTg, cellsInt, cellsBool] at g0 g1 g2 g3
      obtain ⟨zs, n2, _, _, hcl2, hzl, hf2⟩ := DataW.trod_struct Tryz.underlying62 g0
      have hzl' : zs.length = 3 := hzl
      obtain ⟨z0, z1, z2, rfl⟩ := list3 hzl'
      have k0 := hf2 0 _ rfl
      have k1 := hf2 1 _ rfl
      have k2 := hf2 2 _ rfl
      simp [cellsStr, cellsInt] at k0 k1 k2
      obtain ⟨t, a0, -, b0⟩ := DataW.trod_string Tryz.underlying9 k0
      obtain ⟨p1, a1, -, b1⟩ := DataW.trod_int Tryz.underlying3 k1
      obtain ⟨p2, a2, -, b2⟩ := DataW.trod_int Tryz.underlying3 k2
      obtain ⟨p3, a3, -, b3⟩ := DataW.trod_int Tryz.underlying3 g1
      obtain ⟨p4, a4, -, b4⟩ := DataW.trod_int Tryz.underlying3 g2
      obtain ⟨p5, a5, -⟩ := DataW.trod_bool Tryz.underlying4 g3
      simp only [List.cons.injEq, and_true] at a0 a1 a2 a3 a4 a5
      subst a0 a1 a2 a3 a4 a5
      have bt : t.data.toList.length ≤ 9223372036854775807 := by rw [Array.length_toList]; exact b0
      obtain ⟨_, _, hc⟩ := World.cells?_some h1
      simp only [Addr.add_add] at hc
      exact ⟨⟨t.data.toList, p1, p2, p3, p4, p5⟩, by simpa using hc 0 (by omega), by simpa using hc 1 (by omega), by simpa using hc 2 (by omega), by simpa using hc 3 (by omega), by simpa using hc 4 (by omega), by simpa using hc 5 (by omega), bt⟩
    obtain ⟨Y, hY⟩ := choose_lt each
    have hlen2 : ((List.range len).map Y).length = len := by simp
    have hget : ∀ i, i < len → ((List.range len).map Y).getD i default = Y i := fun i hi => by simp [hi]
    have hadr : ∀ i o, i < len → a.add (i * 6 + o) = ⟨a.block, a.off + i * 6 + o, none⟩ := fun i o hi => by
      obtain ⟨e1, _⟩ := spot_of (hY 0 (by omega)).1
      rw [e1, add_plain]
      simp only [Addr.mk.injEq, true_and, and_true]
      omega
    refine ⟨(List.range len).map Y, some a, cap, a.block, a.off, by rw [hlen2], by rw [hlen2]; exact hl, hm, ?_, ?_, ?_⟩
    · rw [hlen2]; intro i hi; rw [hget i hi]; exact (hY i hi).2.2.2.2.2.2
    · rw [hlen2]; intro hp
      obtain ⟨e1, e2⟩ := spot_of (hY 0 hp).1
      exact ⟨congrArg some e1, e2⟩
    · rw [hlen2]; intro i hi; rw [hget i hi]
      refine ⟨?_, ?_, ?_, ?_, ?_, ?_⟩
      · show w.cell? ⟨a.block, a.off + i * 6 + 0, none⟩ = _; rw [← hadr i 0 hi]; exact (hY i hi).1
      · rw [← hadr i 1 hi]; exact (hY i hi).2.1
      · rw [← hadr i 2 hi]; exact (hY i hi).2.2.1
      · rw [← hadr i 3 hi]; exact (hY i hi).2.2.2.1
      · rw [← hadr i 4 hi]; exact (hY i hi).2.2.2.2.1
      · rw [← hadr i 5 hi]; exact (hY i hi).2.2.2.2.2.1
set_option maxRecDepth 100000 in
theorem open_prs2 {r : Reach} {b0 : Nat} {v : Value} {d : DataW H} {p : List MemPlace} (hv : Value.okWide Tryz.prog w r b0 38 v) (h : DataW.Trod enc Tryz.prog w 0 spare held 38 v d p) : ∃ xs, PrIn (· < w.heap.size) w v xs := by
  obtain ⟨a0, len, cap, rfl⟩ := okWide_slice Tryz.underlying38 hv
  obtain ⟨fuel, hf⟩ := h
  exact open_prs (by simpa [Value.cells] using hf)
end
set_option maxHeartbeats 1000000 in
theorem szPr_any (x : Pr) (L : Int) (W : World) (h0 : 0 ≤ L) (h1 : L ≤ 1048576) (hl : x.url.length ≤ 9223372036854775807) :
    Calls Tryz.prog 38 #[pV x, .int .i64 L] W fun e w' => e = .returned (.int .i64 (szR L x.url.length)) ∧ Below W.heap.size W w' := by
  have HK := Lib.hid (fun W' => szTg_any x.tg L W' h0 h1 hl)
  obtain ⟨u, a, b, c, d, g⟩ := x
  simp only at hl HK ⊢
  obtain ⟨r, hr⟩ : ∃ r, szR L u.length = r := ⟨_, rfl⟩
  have E := Lib.hid hr
  rw [hr] at HK ⊢
  clear hr hl
  go_enter Tryz.func38, Tryz.ntmps38
  go_wp2_with fail
  refine (HK.out _).mono ?_
  rintro e w2 ⟨rfl, hb2⟩
  have hB3 : Below W.heap.size W w2 := ((Below.refl _ _).alloc (Nat.le_refl _) _).trans (hb2.mono (by simp))
  rcases Decidable.em (r < 0) with hneg | hneg
  · have e5 : r = -1 := by
      have := E.out
      unfold szR at this
      split at this <;> omega
    subst e5
    go_wp2
    go_ret
    exact ⟨rfl, hB3⟩
  · go_wp2
    go_ret
    exact ⟨rfl, hB3⟩
set_option maxHeartbeats 1000000 in
theorem szPrs_any (B : Nat) (w0 : World) (xs : List Pr) (v : Value) (h : PrIn (· < B) w0 v xs) (L : Int) (W : World) (hb : Below B w0 W) (hB : B ≤ W.heap.size) (h0 : 0 ≤ L) (h1 : L ≤ 1048576) :
    Calls Tryz.prog 18 #[v, .int .i64 L] W fun e w' => e = .returned (.int .i64 (szR L (xs.length + szP xs))) ∧ Below W.heap.size W w' := by
  obtain ⟨a, cap, b, off, rfl, hcap, hm, hlen, ha, hc⟩ := h
  have hn : xs.length ≤ 9223372036854775807 := by omega
  have HC := Lib.hid hc
  have HL := Lib.hid hlen
  have HA := Lib.hid ha
  have HB := Lib.hid hb
  clear hc hlen ha hb
  by_cases hs : (xs.length : Int) ≤ L
  · have E := Lib.hid (szR_add (r := szP xs) hs)
    have g1 : decide (L - (xs.length : Int) < 0) = false := by simp; omega
    go_enter Tryz.func18, Tryz.ntmps18
    go_wp2
    go_loopw [1, 5] (fun l i wr => ∃ (k : Nat) (m : Int), k ≤ xs.length ∧ i = .int .i64 k ∧ l = .int .i64 m ∧ 0 ≤ m ∧ m ≤ L ∧ szR (L - (xs.length : Int)) (szP xs) = szR m (szP (xs.drop k)) ∧ Below W.heap.size W wr) (fun _ i _ => xs.length - (intOf i).toNat)
    case atStart => exact ⟨0, _, by omega, rfl, rfl, by omega, by omega, rfl, Below.refl _ _⟩
    case round =>
      obtain ⟨k, m, hk, rfl, rfl, hm0, hm1, hE, hR⟩ := hrel
      have HE := Lib.hid hE
      have hR1 := HB.out.trans (hR.mono hB)
      have HR := Lib.hid hR
      have HR1 := Lib.hid hR1
      clear hE hR hR1
      by_cases hlt : k < xs.length
      · obtain ⟨ea, hlb⟩ := HA.out (by omega)
        subst ea
        obtain ⟨c0, c1, c2, c3, c4, c5⟩ := HC.out k hlt
        have q0 := (HR1.out.cell (p := ⟨b, off + k * 6, none⟩) hlb).trans c0
        have q1 := (HR1.out.cell (p := ⟨b, off + k * 6 + 1, none⟩) hlb).trans c1
        have q2 := (HR1.out.cell (p := ⟨b, off + k * 6 + 2, none⟩) hlb).trans c2
        have q3 := (HR1.out.cell (p := ⟨b, off + k * 6 + 3, none⟩) hlb).trans c3
        have q4 := (HR1.out.cell (p := ⟨b, off + k * 6 + 4, none⟩) hlb).trans c4
        have q5 := (HR1.out.cell (p := ⟨b, off + k * 6 + 5, none⟩) hlb).trans c5
        have D := Lib.hid (szP_drop k hlt)
        have HK := Lib.hid (szPr_any (xs.getD k default) m wr hm0 (by omega) (HL.out k hlt))
        clear c0 c1 c2 c3 c4 c5
        generalize xs.getD k default = x at *
        obtain ⟨r, hr⟩ : ∃ r, szR m x.url.length = r := ⟨_, rfl⟩
        have F := Lib.hid hr
        rw [hr] at HK
        clear hr
        go_wp2_with fail
        refine HK.out.mono ?_
        rintro e w2 ⟨rfl, hb2⟩
        have hR3 : Below W.heap.size W w2 := belI_step HR.out hb2
        by_cases hx : m < (x.url.length : Int)
        · have g2 : decide (r < 0) = true := by rw [← F.out, szR_out hx]; rfl
          have G := Lib.hid (szR_out (L := m) (s := x.url.length + szP (xs.drop (k + 1))) (by omega))
          clear hx
          go_wp2
          go_ret
          exact ⟨ret_i (by rw [E.out, HE.out, D.out, G.out]), hR3⟩
        · have hr2 : r = m - x.url.length := by rw [← F.out, szR_in (by omega)]
          have g2 : decide (r < 0) = false := by rw [hr2]; simp; omega
          have G := Lib.hid (szR_add (r := szP (xs.drop (k + 1))) (show (x.url.length : Int) ≤ m by omega))
          have hr0 : 0 ≤ r ∧ r ≤ L := by omega
          rw [← hr2] at G
          clear hx hr2
          go_wp2
          go_roundw
          case rel => exact ⟨k + 1, r, by omega, by go_num, rfl, hr0.1, hr0.2, by rw [HE.out, D.out, G.out], hR3⟩
          case measure => simp [intOf]; omega
      · go_wp2
        go_ret
        obtain rfl : k = xs.length := by omega
        exact ⟨ret_i (by rw [E.out, HE.out, List.drop_length]; exact (szR_zero hm0).symm), HR.out⟩
  · have E := Lib.hid (szR_out (L := L) (s := xs.length + szP xs) (by omega))
    have g1 : decide (L - (xs.length : Int) < 0) = true := by simp; omega
    go_enter Tryz.func18, Tryz.ntmps18
    go_wp2
    go_ret
    exact ⟨ret_i (by rw [E.out]), Below.refl _ _⟩
end Go.Proofs.YtakiigddbdapaaaGreatDoor.Pe
