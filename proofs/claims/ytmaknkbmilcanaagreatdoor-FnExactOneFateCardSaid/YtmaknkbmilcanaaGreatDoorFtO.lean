
/-
  One fate of a report, and the same numbers, of the model: walked. OneFate of the model, walked. OneFate of the program, walked. (Made by ftx.py.)
-/
import Derived.Test.YtmaknkbmilcanaaGreatDoorFtN
import Derived.ChangeKeysEq
import Derived.Test.YtmaknkbmilcanaaGreatDoorSpA
namespace Go.Proofs.YtmaknkbmilcanaaGreatDoor.Ft
open Go.RowKit
open Go.Proofs.YtmaknkbmilcanaaGreatDoor.Tx (TxtsIn ret_b)
open Go.Proofs.YtmaknkbmilcanaaGreatDoor.Gr (Tg Gp TgIn ret_i)
open Go.Proofs.YtmaknkbmilcanaaGreatDoor.Pe (Pr PrIn)
open Go.Proofs.YtmaknkbmilcanaaGreatDoor.Qu (Rep Q RpIn IntsIn OI Hd intV)
open Go.Proofs.YtmaknkbmilcanaaGreatDoor.Po (Pl RlIn)
open Go.Proofs.YtmaknkbmilcanaaGreatDoor.Gr (belI_step belI_alloc)
open Go.Proofs.YtmaknkbmilcanaaGreatDoor.Pi (Cn En Wi Pp EnIn WiIn CnIn CnN CV PpN PV pV8 ppV eV)
open Go.Proofs.YtmaknkbmilcanaaGreatDoor.Ul (Tab MaxL in_any)
open Go.Proofs.YtmaknkbmilcanaaGreatDoor.Pi (Sm ppB)
open Go.Proofs.YtmaknkbmilcanaaGreatDoor.Mk (below_grownBy own_slice own_base)

theorem is_drop {xs ys : List Int} (k : Nat) (hx : k < xs.length) (hy : k < ys.length) : (xs.drop k == ys.drop k) = ((xs.getD k 0 == ys.getD k 0) && (xs.drop (k + 1) == ys.drop (k + 1))) := by
  rw [List.drop_eq_getElem_cons hx, List.drop_eq_getElem_cons hy, List.cons_beq_cons]
  simp [hx, hy]
set_option maxRecDepth 100000 in
set_option maxHeartbeats 2000000 in
theorem sameI_any (xs ys : List Int) (v u : Value) (w : World) (h1 : IntsIn (· < w.heap.size) w v xs) (h2 : IntsIn (· < w.heap.size) w u ys) :
    Calls Tryz.prog 87 #[v, u] w fun e w' => e = .returned (.bool (xs == ys)) ∧ Below w.heap.size w w' := by
  obtain ⟨a, cap, b, off, rfl, hcap, hm, ha, hc⟩ := h1
  obtain ⟨a', cap', b', off', rfl, hcap', hm', ha', hc'⟩ := h2
  have hn : xs.length ≤ 9223372036854775807 := by omega
  have hn' : ys.length ≤ 9223372036854775807 := by omega
  have HC := Lib.hid hc
  have HA := Lib.hid ha
  have HC' := Lib.hid hc'
  have HA' := Lib.hid ha'
  clear hc ha hc' ha'
  have B0 := Lib.hid (Below.refl w.heap.size w)
  by_cases hl : xs.length = ys.length
  · have HL := Lib.hid hl
    have g1 : ((xs.length : Int) != (ys.length : Int)) = false := by simp [hl]
    clear hl
    go_enter Tryz.func87, Tryz.ntmps87
    go_wp2
    go_loopw [5] (fun i wr => ∃ k : Nat, k ≤ xs.length ∧ i = .int .i64 k ∧ (xs == ys) = (xs.drop k == ys.drop k) ∧ Below w.heap.size w wr) (fun i _ => xs.length - (intOf i).toNat)
    case atStart => exact ⟨0, by omega, rfl, rfl, B0.out⟩
    case round =>
      obtain ⟨k, hk, rfl, hE, hR⟩ := hrel
      have HE := Lib.hid hE
      have HR := Lib.hid hR
      clear hE hR
      by_cases hlt : k < xs.length
      · have hlt' : k < ys.length := by have := HL.out; omega
        obtain ⟨ea, hlb⟩ := HA.out (by omega)
        obtain ⟨ea', hlb'⟩ := HA'.out (by omega)
        subst ea ea'
        have q0 := (HR.out.cell (p := ⟨b, off + k, none⟩) hlb).trans (HC.out k hlt)
        have q1 := (HR.out.cell (p := ⟨b', off' + k, none⟩) hlb').trans (HC'.out k hlt')
        have D := Lib.hid (is_drop k hlt hlt')
        generalize xs.getD k 0 = x at *
        generalize ys.getD k 0 = y at *
        by_cases hxy : x = y
        · subst hxy
          have e1 : (x != x) = false := by simp
          have D2 := Lib.hid (show (xs == ys) = (xs.drop (k + 1) == ys.drop (k + 1)) by rw [HE.out, D.out]; simp)
          clear D
          go_wp2_with fail
          go_quiet (fail)
          go_wp2
          go_roundw
          case rel => exact ⟨k + 1, by omega, by go_num, D2.out, belI_drewN HR.out _⟩
          case measure => simp [intOf]; omega
        · have e1 : (x != y) = true := by simp [hxy]
          have D2 := Lib.hid (show (xs == ys) = false by rw [HE.out, D.out]; simp [hxy])
          clear D
          go_wp2_with fail
          go_quiet (fail)
          go_wp2
          go_ret
          exact ⟨ret_b D2.out.symm, belI_drewN HR.out _⟩
      · have hkI : ¬ ((k : Int) < (xs.length : Int)) := by omega
        obtain rfl : k = xs.length := by omega
        have D2 := Lib.hid (show (xs == ys) = true by rw [HE.out, List.drop_length, HL.out, List.drop_length]; rfl)
        go_wp2
        go_ret
        exact ⟨ret_b D2.out.symm, HR.out⟩
  · have g1 : ((xs.length : Int) != (ys.length : Int)) = true := by simp; omega
    have D2 := Lib.hid (show (xs == ys) = false by
      have : xs ≠ ys := fun e => hl (by rw [e])
      simpa using this)
    clear hl
    go_enter Tryz.func87, Tryz.ntmps87
    go_wp2
    go_ret
    exact ⟨ret_b D2.out.symm, B0.out⟩
set_option maxRecDepth 100000 in
set_option maxHeartbeats 4000000 in
theorem oneS_any (B : Nat) (w0 : World) (xs : List En) (u : Value) (h : EnIn (· < B) w0 u xs) (hsz : xs.length ≤ 1048576) (cv : Value) (rp : List UInt8) (uv rv : Value) (now next : Int) (wv : Value) (id : Int) (W : World) (hb : Below B w0 W) (hB : B ≤ W.heap.size) :
    Calls Tryz.prog 86 #[rawP cv rp uv rv now next u wv, .int .i64 id] W fun e w' => e = .returned (.bool (oneB (ofId xs id))) ∧ Below W.heap.size W w' := by
  have HF := Lib.hid (fun W' a b => entriesS_any B w0 xs u h hsz cv rp uv rv now next wv id W' a b)
  obtain ⟨a, l, c, rfl⟩ := h.slice
  have HB := Lib.hid hb
  generalize ofId xs id = L at *
  clear h hb
  have BA := Lib.hid ((Below.refl W.heap.size W).alloc (Nat.le_refl _) (.cells #[cv, .string ⟨rp.toArray⟩, uv, rv, .int .i64 now, .int .i64 next, .slice a l c, wv] 41))
  have K := Lib.hid (Hd.new W (.cells #[cv, .string ⟨rp.toArray⟩, uv, rv, .int .i64 now, .int .i64 next, .slice a l c, wv] 41))
  go_enter Tryz.func86, Tryz.ntmps86
  go_wp2_with fail
  refine (HF.out _ (HB.out.trans (BA.out.mono hB)) (Nat.le_trans hB BA.out.size)).mono ?_
  rintro e w2 ⟨v, rfl, hO, hb2⟩
  have B2 := Lib.hid (belI_step BA.out hb2)
  have HE := Lib.hid (OE.en hO)
  obtain ⟨a9, c9, rfl⟩ := OE.slice hO
  clear hb2 hO K BA HF
  rcases L with _ | ⟨x, _ | ⟨y, _ | ⟨z, r⟩⟩⟩
  · simp only [List.length_nil]
    go_wp2
    go_ret
    exact ⟨ret_b rfl, B2.out⟩
  · obtain ⟨a', cap', b', off', e, h1, -, -, h4, h5⟩ := HE.out
    injection e with e1 e2 e3
    obtain ⟨e4, -⟩ := h4 (by simp)
    rw [e4] at e1
    subst e1
    have q0 : w2.cell? ⟨b', off', none⟩ = some (.int .i64 x.kind) := by simpa using (h5 0 (by simp)).1
    clear h1 h4 h5 e2 e3 e4
    obtain ⟨k, id', tm⟩ := x
    simp only at q0
    simp only [List.length_cons, List.length_nil]
    by_cases k1 : k = 1
    · subst k1
      go_wp2
      go_ret
      exact ⟨ret_b rfl, B2.out⟩
    · by_cases k6 : k = 6
      · subst k6
        go_wp2
        go_ret
        exact ⟨ret_b rfl, B2.out⟩
      · have HZ2 := Lib.hid (show (k == 7) = oneB [⟨k, id', tm⟩] by simp only [oneB]; simp [k1, k6]; rfl)
        have e1 : (k == 1) = false := by simp [k1]
        have e6 : (k == 6) = false := by simp [k6]
        go_wp2
        go_ret
        exact ⟨ret_b HZ2.out, B2.out⟩
  · obtain ⟨a', cap', b', off', e, h1, -, -, h4, h5⟩ := HE.out
    injection e with e1 e2 e3
    obtain ⟨e4, -⟩ := h4 (by simp)
    rw [e4] at e1
    subst e1
    have q0 : w2.cell? ⟨b', off', none⟩ = some (.int .i64 x.kind) := by simpa using (h5 0 (by simp)).1
    have q1 : w2.cell? ⟨b', off' + 3, none⟩ = some (.int .i64 y.kind) := by simpa using (h5 1 (by simp)).1
    clear h1 h4 h5 e2 e3 e4
    obtain ⟨k, id', tm⟩ := x
    obtain ⟨k2, id2, tm2⟩ := y
    simp only at q0 q1
    have HIN := Lib.hid (in_any k2 2 5 w2)
    simp only [List.length_cons, List.length_nil]
    by_cases k1 : k = 1
    · subst k1
      have HZ2 := Lib.hid (show (decide (2 ≤ k2) && decide (k2 ≤ 5)) = oneB [⟨1, id', tm⟩, ⟨k2, id2, tm2⟩] by simp only [oneB]; simp)
      go_wp2_with fail
      refine HIN.out.mono ?_
      rintro e w3 ⟨rfl, rfl⟩
      go_wp2
      go_ret
      exact ⟨ret_b HZ2.out, B2.out⟩
    · have e1 : (k == 1) = false := by simp [k1]
      have HZ2 := Lib.hid (show false = oneB [⟨k, id', tm⟩, ⟨k2, id2, tm2⟩] by simp only [oneB]; simp [k1])
      go_wp2
      go_ret
      exact ⟨ret_b HZ2.out, B2.out⟩
  · have hl3 : ((x :: y :: z :: r).length : Int) = (r.length : Int) + 3 := by simp; omega
    have hg2 : (2 : Int) < (r.length : Int) + 3 := by omega
    have hg0 : (((r.length : Int) + 3) == 0) = false := by simp; omega
    clear HE
    rw [show (x :: y :: z :: r).length = r.length + 3 by simp]
    go_wp2
    go_ret
    exact ⟨ret_b rfl, B2.out⟩
end Go.Proofs.YtmaknkbmilcanaaGreatDoor.Ft
namespace Go.Proofs.YtmaknkbmilcanaaGreatDoor.Ft
open Go.RowKit
open Go.Proofs.YtmaknkbmilcanaaGreatDoor.Tx (TxtsIn ret_b)
open Go.Proofs.YtmaknkbmilcanaaGreatDoor.Gr (Tg Gp TgIn ret_i)
open Go.Proofs.YtmaknkbmilcanaaGreatDoor.Pe (Pr PrIn)
open Go.Proofs.YtmaknkbmilcanaaGreatDoor.Qu (Rep Q RpIn IntsIn OI Hd intV)
open Go.Proofs.YtmaknkbmilcanaaGreatDoor.Po (Pl RlIn)
open Go.Proofs.YtmaknkbmilcanaaGreatDoor.Gr (belI_step belI_alloc)
open Go.Proofs.YtmaknkbmilcanaaGreatDoor.Pi (Cn En Wi Pp EnIn WiIn CnIn CnN CV PpN PV pV8 ppV eV)
open Go.Proofs.YtmaknkbmilcanaaGreatDoor.Ul (Tab MaxL in_any)
open Go.Proofs.YtmaknkbmilcanaaGreatDoor.Pi (Sm ppB)
open Go.Proofs.YtmaknkbmilcanaaGreatDoor.Mk (below_grownBy own_slice own_base)

/-- each Id below n has one fate -/
def allOne (xs : List En) (n : Nat) : Bool := (List.range n).all fun i => decide (i = 0) || oneB (ofId xs (i : Int))
theorem allOne_yes {xs : List En} {n : Nat} (h : ∀ i : Nat, 1 ≤ i → i < n → oneB (ofId xs (i : Int)) = true) : allOne xs n = true := by
  unfold allOne
  rw [List.all_eq_true]
  intro i hi
  have := List.mem_range.1 hi
  by_cases e : i = 0
  · simp [e]
  · rw [h i (by omega) this]; simp
theorem allOne_no {xs : List En} {n i : Nat} (h1 : 1 ≤ i) (h2 : i < n) (h : oneB (ofId xs (i : Int)) = false) : allOne xs n = false := by
  unfold allOne
  rw [List.all_eq_false]
  exact ⟨i, List.mem_range.2 h2, by rw [h]; simp; omega⟩
def oneR (p : Pp) : Bool := if asC p = 0 then (allOne p.log p.next.toNat && (idsZ p.log 1 p.next.toNat == insAll (nowL p.chs) [])) else false
def HoB (W : World) (b : Bool) (c : Int) (e : Ending) (w' : World) : Prop := e = .returned (.tuple #[.bool b, .int .i64 c]) ∧ Below W.heap.size W w'
theorem ints_step {w w' : World} {v : Value} {ns : List Int} (h : IntsIn (· < w.heap.size) w v ns) (hb : Below w.heap.size w w') : IntsIn (· < w'.heap.size) w' v ns :=
  h.same fun b hlt => ⟨Nat.lt_of_lt_of_le hlt hb.size, hb.block b hlt⟩
theorem oi_low {w : World} {base : Nat} {v : Value} {ns : List Int} (h : OI w base v ns) : IntsIn (· < w.heap.size) w v ns := (OI.ints h).mono fun _ hb => hb.2
set_option maxRecDepth 100000 in
set_option maxHeartbeats 8000000 in
theorem oneFateS_any (B : Nat) (w0 : World) (p : Pp) (u : PV) (h : PpN (· < B) w0 u p) (sm : Sm p) (hlg : p.log.length ≤ 1048576) (W : World) (hb : Below B w0 W) (hB : B ≤ W.heap.size) :
    Calls Tryz.prog 34 #[pV8 p u] W (HoB W (oneR p) (asC p)) := by
  obtain ⟨c, hc⟩ : ∃ c, asC p = c := ⟨_, rfl⟩
  have HAS := Lib.hid (fun (W' : World) (hb : Below B w0 W') (hB : B ≤ W'.heap.size) => show Calls Tryz.prog 77 #[pV8 p u] W' (fun e w' => e = .returned (.int .i64 c) ∧ Below W'.heap.size W' w') from hc ▸ askS_any B w0 p u h sm W' hb hB)
  have HR := Lib.hid (show oneR p = if c = 0 then (allOne p.log p.next.toNat && (idsZ p.log 1 p.next.toNat == insAll (nowL p.chs) [])) else false by subst hc; rfl)
  have HG := Lib.hid (show c = 0 → p.next ≤ 4096 ∧ 1 ≤ p.next ∧ (∀ x ∈ p.log, (1 ≤ x.kind ∧ x.kind ≤ 7) ∧ (1 ≤ x.id ∧ x.id ≤ p.next - 1)) ∧ (nowL p.chs).length ≤ 25 ∧ ∀ i, i < p.chs.length → (p.chs.getD i default).q.items.length ≤ 5 from fun e => by
    have hh := asC_at (hc.trans e)
    exact ⟨hh.2.1, hh.2.2, pp_log hh.1, pp_now hh.1⟩)
  have HB := Lib.hid hb
  rw [hc]
  clear hc hb sm
  generalize oneR p = R at *
  obtain ⟨chs, ⟨rp, uris, rules⟩, now, next, log, ws⟩ := p
  obtain ⟨u1, u2, u3, u4, u5⟩ := u
  obtain ⟨h1, h2, h3, h4, h5⟩ := h
  simp only at h1 h2 h3 h4 h5 HR HG hlg
  have HON := Lib.hid (fun (n : Nat) (e : next = (n : Int)) (id : Int) W' a b => e ▸ oneS_any B w0 log u4 h4 hlg u1 rp u2 u3 now n u5 id W' a b)
  have HID := Lib.hid (fun (n : Nat) (e : next = (n : Int)) (hn : n ≤ 4096) (hn1 : 1 ≤ n) (h0 : fateB log 0 log.length ≠ 1) W' a b => e ▸ idsS_any B w0 log u4 h4 u1 rp u2 u3 now n hn hn1 u5 1 h0 W' a b)
  have HNO := Lib.hid (fun a b W' c d => nowS_any B w0 chs u1 h1 rp u2 u3 now next u4 u5 a b W' c d)
  obtain ⟨a1, l1, c1, rfl⟩ := h1.slice
  obtain ⟨a2, l2, c2, rfl⟩ := h2.slice
  obtain ⟨a3, l3, c3, rfl⟩ := h3.slice
  obtain ⟨a4, l4, c4, rfl⟩ := h4.slice
  obtain ⟨a5, l5, c5, rfl⟩ := h5.slice
  clear h1 h2 h3 h4 h5
  have BA := Lib.hid ((Below.refl W.heap.size W).alloc (Nat.le_refl _) (.cells #[.slice a1 l1 c1, .string ⟨rp.toArray⟩, .slice a2 l2 c2, .slice a3 l3 c3, .int .i64 now, .int .i64 next, .slice a4 l4 c4, .slice a5 l5 c5] 41))
  have K := Lib.hid (Hd.new W (.cells #[.slice a1 l1 c1, .string ⟨rp.toArray⟩, .slice a2 l2 c2, .slice a3 l3 c3, .int .i64 now, .int .i64 next, .slice a4 l4 c4, .slice a5 l5 c5] 41))
  go_enter Tryz.func34, Tryz.ntmps34
  go_wp2_with fail
  refine (HAS.out _ (HB.out.trans (BA.out.mono hB)) (Nat.le_trans hB BA.out.size)).mono ?_
  rintro e w1 ⟨rfl, hb1⟩
  have B1 := Lib.hid (belI_step BA.out hb1)
  have K1 := Lib.hid (K.out.blw hb1)
  clear hb1 K BA HAS
  by_cases hc0 : c = 0
  · have cne : (c != 0) = false := by simp [hc0]
    have hg := HG.out hc0
    obtain ⟨n, hn⟩ : ∃ n : Nat, next = (n : Int) := ⟨next.toNat, by omega⟩
    have hn4 : n ≤ 4096 := by omega
    have hn1 : 1 ≤ n := by omega
    have hz : fateB log 0 log.length = 0 := fate_zero (fun x hx => (hg.2.2.1 x hx).2.1)
    have HR0 := Lib.hid (show R = (allOne log n && (idsZ log 1 n == insAll (nowL chs) [])) by rw [HR.out, if_pos hc0, hn]; rfl)
    have HC0 := Lib.hid hc0
    have HON1 := Lib.hid (HON.out n hn)
    have HID1 := Lib.hid (HID.out n hn hn4 hn1 (by rw [hz]; omega))
    have HNO1 := Lib.hid (HNO.out hg.2.2.2.1 hg.2.2.2.2)
    subst hn
    clear HG HON HID HNO hg hc0 hz HR
    go_wp2
    go_loopw [5] (fun iv wr => ∃ k : Nat, 1 ≤ k ∧ k ≤ n ∧ iv = .int .i64 k ∧ (∀ i : Nat, 1 ≤ i → i < k → oneB (ofId log (i : Int)) = true) ∧ Hd wr W.heap.size (.cells #[.slice a1 l1 c1, .string ⟨rp.toArray⟩, .slice a2 l2 c2, .slice a3 l3 c3, .int .i64 now, .int .i64 (n : Int), .slice a4 l4 c4, .slice a5 l5 c5] 41) ∧ Below W.heap.size W wr) (fun iv _ => n - (intOf iv).toNat)
    case atStart => exact ⟨1, Nat.le_refl _, hn1, rfl, fun i h1 h2 => by omega, K1.out, B1.out⟩
    case round =>
      obtain ⟨k, hk1, hk, rfl, hA, hK, hRr⟩ := hrel
      have HA := Lib.hid hA
      have HRr := Lib.hid hRr
      have HK := Lib.hid hK
      have m0 := cell_of_row wr W.heap.size 0 _ _ _ hK
      have m1 := cell_of_row wr W.heap.size 1 _ _ _ hK
      have m2 := cell_of_row wr W.heap.size 2 _ _ _ hK
      have m3 := cell_of_row wr W.heap.size 3 _ _ _ hK
      have m4 := cell_of_row wr W.heap.size 4 _ _ _ hK
      have m5 := cell_of_row wr W.heap.size 5 _ _ _ hK
      have m6 := cell_of_row wr W.heap.size 6 _ _ _ hK
      have m7 := cell_of_row wr W.heap.size 7 _ _ _ hK
      clear hA hRr hK
      have hW := HB.out.trans (HRr.out.mono hB)
      have zB : B ≤ wr.heap.size := Nat.le_trans hB HRr.out.size
      by_cases hlt : k < n
      · have hkI : (k : Int) < (n : Int) := by omega
        obtain ⟨b1, hb1⟩ : ∃ b1, oneB (ofId log (k : Int)) = b1 := ⟨_, rfl⟩
        have HO1 := Lib.hid (HON1.out (k : Int) wr hW zB)
        rw [hb1] at HO1
        have HB1 := Lib.hid hb1
        clear hb1 hW zB
        go_wp2_with fail
        refine HO1.out.mono ?_
        rintro e w2 ⟨rfl, hb2⟩
        have K2 := Lib.hid (HK.out.blw hb2)
        have B2 := Lib.hid (belI_step HRr.out hb2)
        clear hb2 m0 m1 m2 m3 m4 m5 m6 m7
        cases b1
        · have HFIN := Lib.hid (show HoB W R c (.returned (.tuple #[.bool false, .int .i64 0])) w2 by
            rw [HR0.out, HC0.out, allOne_no hk1 hlt HB1.out]; exact ⟨rfl, B2.out⟩)
          go_wp2
          exact bodyPost_ret (ret_2 Tryz.results34) rfl HFIN.out
        · go_wp2
          go_roundw
          case rel => exact ⟨k + 1, by omega, by omega, by go_num, fun i h1 h2 => by
            by_cases e : i = k
            · subst e; exact HB1.out
            · exact HA.out i h1 (by omega), K2.out, B2.out⟩
          case measure => simp [intOf]; omega
      · have hkI : ¬ ((k : Int) < (n : Int)) := by omega
        obtain rfl : k = n := by omega
        have HAL := Lib.hid (allOne_yes HA.out)
        have HBW := Lib.hid (fun wx (h : Below W.heap.size W wx) => And.intro (HB.out.trans (h.mono hB)) (Nat.le_trans hB h.size))
        have HALL := Lib.hid (fun wx (hd : Hd wx W.heap.size (.cells #[.slice a1 l1 c1, .string ⟨rp.toArray⟩, .slice a2 l2 c2, .slice a3 l3 c3, .int .i64 now, .int .i64 (k : Int), .slice a4 l4 c4, .slice a5 l5 c5] 41) ∧ Below W.heap.size W wx) =>
          And.intro (cell_of_row wx W.heap.size 0 _ _ _ hd.1) (And.intro (cell_of_row wx W.heap.size 1 _ _ _ hd.1) (And.intro (cell_of_row wx W.heap.size 2 _ _ _ hd.1) (And.intro (cell_of_row wx W.heap.size 3 _ _ _ hd.1) (And.intro (cell_of_row wx W.heap.size 4 _ _ _ hd.1) (And.intro (cell_of_row wx W.heap.size 5 _ _ _ hd.1) (And.intro (cell_of_row wx W.heap.size 6 _ _ _ hd.1) (And.intro (cell_of_row wx W.heap.size 7 _ _ _ hd.1) hd))))))))
        have HST := Lib.hid (And.intro HK.out HRr.out)
        have HSM := Lib.hid (fun (v u : Value) (w : World) h1 h2 => sameI_any (idsZ log 1 k) (insAll (nowL chs) []) v u w h1 h2)
        have HFIN := Lib.hid (fun wx (h : Below W.heap.size W wx) => show HoB W R c (.returned (.tuple #[.bool (idsZ log 1 k == insAll (nowL chs) []), .int .i64 0])) wx from by
          rw [HR0.out, HC0.out, HAL.out]; exact ⟨by simp, h⟩)
        clear HA hW zB HON1 HR0
        generalize idsZ log 1 k = is at *
        generalize insAll (nowL chs) [] = ns at *
        go_wp2_with fail
        go_region_held3 (fun wx => wx.cell? ⟨W.heap.size, 0, none⟩ = some (.slice a1 l1 c1) ∧ wx.cell? ⟨W.heap.size, 1, none⟩ = some (.string ⟨rp.toArray⟩) ∧ wx.cell? ⟨W.heap.size, 2, none⟩ = some (.slice a2 l2 c2) ∧ wx.cell? ⟨W.heap.size, 3, none⟩ = some (.slice a3 l3 c3) ∧ wx.cell? ⟨W.heap.size, 4, none⟩ = some (.int .i64 now) ∧ wx.cell? ⟨W.heap.size, 5, none⟩ = some (.int .i64 (k : Int)) ∧ wx.cell? ⟨W.heap.size, 6, none⟩ = some (.slice a4 l4 c4) ∧ wx.cell? ⟨W.heap.size, 7, none⟩ = some (.slice a5 l5 c5) ∧
            Hd wx W.heap.size (.cells #[.slice a1 l1 c1, .string ⟨rp.toArray⟩, .slice a2 l2 c2, .slice a3 l3 c3, .int .i64 now, .int .i64 (k : Int), .slice a4 l4 c4, .slice a5 l5 c5] 41) ∧ Below W.heap.size W wx)
          (first
            | exact HALL.out _ HST.out
            | exact HALL.out _ ⟨HST.out.1, Below.drew HST.out.2⟩
            | (go_split_ands; exact HALL.out _ ⟨by assumption, by assumption⟩)
            | (go_split_ands; exact HALL.out _ ⟨by assumption, Below.drew (by assumption)⟩))
          (first
            | (go_split_ands
               have hx := hIA
               have hy := hNB
               go_at_call 87
               refine (HSM.out _ _ _ hx hy).mono ?_
               rintro e w9 ⟨rfl, hb9⟩
               have hG9 : Hd w9 W.heap.size (.cells #[.slice a1 l1 c1, .string ⟨rp.toArray⟩, .slice a2 l2 c2, .slice a3 l3 c3, .int .i64 now, .int .i64 (k : Int), .slice a4 l4 c4, .slice a5 l5 c5] 41) ∧ Below W.heap.size W w9 := And.intro (Hd.blw (by assumption) hb9) (belI_step (by assumption) hb9))
            | (go_split_ands
               go_at_call 79
               have hd := HBW.out _ (by assumption)
               refine (HID1.out _ hd.1 hd.2).mono ?_
               clear hd
               rintro e wA ⟨vA, rfl, hoA, hbA⟩
               have hGA : Hd wA W.heap.size (.cells #[.slice a1 l1 c1, .string ⟨rp.toArray⟩, .slice a2 l2 c2, .slice a3 l3 c3, .int .i64 now, .int .i64 (k : Int), .slice a4 l4 c4, .slice a5 l5 c5] 41) ∧ Below W.heap.size W wA := And.intro (Hd.blw (by assumption) hbA) (belI_step (by assumption) hbA)
               first | (have hNB := ints_step hNB hbA) | skip
               have hIA := oi_low hoA
               obtain ⟨a7, c7, rfl⟩ := OI.slice hoA)
            | (go_split_ands
               go_at_call 84
               have hd := HBW.out _ (by assumption)
               refine (HNO1.out _ hd.1 hd.2).mono ?_
               clear hd
               rintro e wB ⟨vB, rfl, hoB, hbB⟩
               have hGB : Hd wB W.heap.size (.cells #[.slice a1 l1 c1, .string ⟨rp.toArray⟩, .slice a2 l2 c2, .slice a3 l3 c3, .int .i64 now, .int .i64 (k : Int), .slice a4 l4 c4, .slice a5 l5 c5] 41) ∧ Below W.heap.size W wB := And.intro (Hd.blw (by assumption) hbB) (belI_step (by assumption) hbB)
               first | (have hIA := ints_step hIA hbB) | skip
               have hNB := oi_low hoB
               obtain ⟨a8, c8, rfl⟩ := OI.slice hoB))
        all_goals
          go_split_ands
          have HF9 := Lib.hid (HFIN.out w9 (by assumption))
          go_wp2
          exact bodyPost_ret (ret_2 Tryz.results34) rfl HF9.out
  · have cne : (c != 0) = true := by simp [hc0]
    have HFIN := Lib.hid (show HoB W R c (.returned (.tuple #[.bool false, .int .i64 c])) w1 by
      rw [HR.out, if_neg hc0]; exact ⟨rfl, B1.out⟩)
    clear HG
    go_wp2
    exact bodyPost_ret (ret_2 Tryz.results34) rfl HFIN.out
end Go.Proofs.YtmaknkbmilcanaaGreatDoor.Ft
namespace Go.Proofs.YtmaknkbmilcanaaGreatDoor.Ft
open Go.RowKit
open Go.Proofs.YtmaknkbmilcanaaGreatDoor.Tx (TxtsIn ret_b)
open Go.Proofs.YtmaknkbmilcanaaGreatDoor.Gr (Tg Gp TgIn ret_i)
open Go.Proofs.YtmaknkbmilcanaaGreatDoor.Pe (Pr PrIn)
open Go.Proofs.YtmaknkbmilcanaaGreatDoor.Qu (Rep Q RpIn IntsIn OI Hd intV)
open Go.Proofs.YtmaknkbmilcanaaGreatDoor.Po (Pl RlIn)
open Go.Proofs.YtmaknkbmilcanaaGreatDoor.Gr (belI_step belI_alloc)
open Go.Proofs.YtmaknkbmilcanaaGreatDoor.Pi (Cn En Wi Pp EnIn WiIn CnIn CnN CV PpN PV pV8 ppV eV)
open Go.Proofs.YtmaknkbmilcanaaGreatDoor.Ul (Tab MaxL in_any)
open Go.Proofs.YtmaknkbmilcanaaGreatDoor.Pi (Sm ppB)
open Go.Proofs.YtmaknkbmilcanaaGreatDoor.Mk (below_grownBy own_slice own_base)

theorem fate_nat2 {xs : List En} (h : ∀ x ∈ xs, 1 ≤ x.kind ∧ x.kind ≤ 7) (id : Int) : 0 ≤ fateB xs id xs.length ∧ fateB xs id xs.length ≤ 7 := by
  have h1 := fateB_last xs id xs.length (Nat.le_refl _)
  rw [List.take_length] at h1
  have h2 := lastK_in (ofId_all h id)
  rw [← h1] at h2
  omega
/-- two tallies compared -/
theorem run_eqTa (w : World) (c0 c1 c2 c3 c4 c5 c6 c7 e0 e1 e2 e3 e4 e5 e6 e7 : Int) : (Op.equalIn 10000 124 (.agg #[.int .i64 c0, .int .i64 c1, .int .i64 c2, .int .i64 c3, .int .i64 c4, .int .i64 c5, .int .i64 c6, .int .i64 c7]) (.agg #[.int .i64 e0, .int .i64 e1, .int .i64 e2, .int .i64 e3, .int .i64 e4, .int .i64 e5, .int .i64 e6, .int .i64 e7])).run Tryz.prog w = .ok (c0 == e0 && (c1 == e1 && (c2 == e2 && (c3 == e3 && (c4 == e4 && (c5 == e5 && (c6 == e6 && c7 == e7))))))) w := by
  obtain ⟨i0, hi, hz0, hz1, hz2⟩ := info_parts Pi.Tryz.infoInt
  have hu : Tryz.prog.underlying 124 = some (.array 8 3) := by kernel_rfl
  have hc : Tryz.prog.cellsOf 3 = 1 := by kernel_rfl
  have h3 : Tryz.prog.underlying 3 = some (.int .i64) := by kernel_rfl
  rw [run_equalIn_array (w := w) 9999 _ _ hu hi, hc]
  simp only [List.range, List.range.loop, Op.eqItems, Sem.run_bind]
  simp only [go_sem, part]
  simp [go_sem]
  repeat' split
  all_goals simp [*]
theorem run_dropRec (w : World) (a : Option Addr) (l c n : Nat) (h1 : n ≤ l) :
    (Instr.slice 121 (.slice a l c) (some (.int .i64 (n : Int))) none none).run Tryz.prog w = .ok (.slice (if c = n then a else a.map (fun x => x.add (n * 9))) (l - n) (c - n)) w := by
  have hn : (n : Int) ≤ (l : Int) := by omega
  simp [Instr.slice, Instr.sliceBounds, go_sem, hn]
/-- the counts of a record are those that its fate asks for: just where the report has one fate -/
theorem cmp_one {xs : List En} (hx : ∀ x ∈ xs, 1 ≤ x.kind ∧ x.kind ≤ 7) (id f : Int) (hf : fateB xs id xs.length = f) :
    (cntB xs id 0 xs.length == efK f 0 && (cntB xs id 1 xs.length == efK f 1 && (cntB xs id 2 xs.length == efK f 2 && (cntB xs id 3 xs.length == efK f 3 && (cntB xs id 4 xs.length == efK f 4 && (cntB xs id 5 xs.length == efK f 5 && (cntB xs id 6 xs.length == efK f 6 && cntB xs id 7 xs.length == efK f 7))))))) = oneB (ofId xs id) := by
  have hc := fun kd => cntB_eq xs id kd xs.length (Nat.le_refl _)
  have hl := fateB_last xs id xs.length (Nat.le_refl _)
  rw [List.take_length, hf] at hl
  simp only [List.take_length] at hc
  rw [Bool.eq_iff_iff, one_iff (ofId_all hx id), ← hl]
  simp only [Bool.and_eq_true, beq_iff_eq, hc]
  constructor
  · rintro ⟨h0, h1, h2, h3, h4, h5, h6, h7⟩ k k0 k7
    rcases (show k = 0 ∨ k = 1 ∨ k = 2 ∨ k = 3 ∨ k = 4 ∨ k = 5 ∨ k = 6 ∨ k = 7 by omega) with rfl | rfl | rfl | rfl | rfl | rfl | rfl | rfl
    · exact h0
    · exact h1
    · exact h2
    · exact h3
    · exact h4
    · exact h5
    · exact h6
    · exact h7
  · intro h
    exact ⟨h 0 (by omega) (by omega), h 1 (by omega) (by omega), h 2 (by omega) (by omega), h 3 (by omega) (by omega), h 4 (by omega) (by omega), h 5 (by omega) (by omega), h 6 (by omega) (by omega), h 7 (by omega) (by omega)⟩
set_option maxRecDepth 100000 in
set_option maxHeartbeats 8000000 in
theorem oneFateI_any (B : Nat) (w0 : World) (p : Pp) (u : PV) (h : PpN (· < B) w0 u p) (sm : Sm p) (hlg : p.log.length ≤ 1048576) (W : World) (hb : Below B w0 W) (hB : B ≤ W.heap.size) (hT : Tab W) (hM : MaxL W) :
    Calls Tryz.prog 35 #[pV8 p u] W (HoB W (oneR p) (asC p)) := by
  obtain ⟨c, hc⟩ : ∃ c, asC p = c := ⟨_, rfl⟩
  have HAS := Lib.hid (fun (W' : World) (hb : Below B w0 W') (hB : B ≤ W'.heap.size) (h2 : Tab W') (h3 : MaxL W') => show Calls Tryz.prog 80 #[pV8 p u] W' (fun e w' => e = .returned (.int .i64 c) ∧ Below W'.heap.size W' w') from hc ▸ askI_any B w0 p u h sm W' hb hB h2 h3)
  have HR := Lib.hid (show oneR p = if c = 0 then (allOne p.log p.next.toNat && (idsZ p.log 1 p.next.toNat == insAll (nowL p.chs) [])) else false by subst hc; rfl)
  have HG := Lib.hid (show c = 0 → p.next ≤ 4096 ∧ 1 ≤ p.next ∧ (∀ x ∈ p.log, (1 ≤ x.kind ∧ x.kind ≤ 7) ∧ (1 ≤ x.id ∧ x.id ≤ p.next - 1)) ∧ nowR p = insAll (nowL p.chs) [] from fun e => by
    have hh := asC_at (hc.trans e)
    exact ⟨hh.2.1, hh.2.2, pp_log hh.1, by unfold nowR; rw [if_pos hh.1]⟩)
  have HNI := Lib.hid (fun (W' : World) (hb : Below B w0 W') (hB : B ≤ W'.heap.size) (h2 : Tab W') (h3 : MaxL W') => nowI_any B w0 p u h sm W' hb hB h2 h3)
  have HB := Lib.hid hb
  have HT := Lib.hid hT
  have HM := Lib.hid hM
  rw [hc]
  clear hc hb sm hT hM
  generalize oneR p = R at *
  generalize enCo p = C0 at *
  generalize nowR p = NR at *
  obtain ⟨chs, ⟨rp, uris, rules⟩, now, next, log, ws⟩ := p
  obtain ⟨u1, u2, u3, u4, u5⟩ := u
  obtain ⟨h1, h2, h3, h4, h5⟩ := h
  simp only at h1 h2 h3 h4 h5 HR HG hlg
  have HRC := Lib.hid (fun (n : Nat) (e : next = (n : Int)) (hn : n ≤ 4096) (hx : ∀ x ∈ log, (1 ≤ x.kind ∧ x.kind ≤ 7) ∧ (1 ≤ x.id ∧ x.id ≤ (n : Int) - 1)) W' a b => e ▸ recs_any B w0 log u4 h4 hlg u1 rp u2 u3 now n hn u5 hx W' a b)
  obtain ⟨a1, l1, c1, rfl⟩ := h1.slice
  obtain ⟨a2, l2, c2, rfl⟩ := h2.slice
  obtain ⟨a3, l3, c3, rfl⟩ := h3.slice
  obtain ⟨a4, l4, c4, rfl⟩ := h4.slice
  obtain ⟨a5, l5, c5, rfl⟩ := h5.slice
  clear h1 h2 h3 h4 h5
  have BA := Lib.hid ((Below.refl W.heap.size W).alloc (Nat.le_refl _) (.cells #[.slice a1 l1 c1, .string ⟨rp.toArray⟩, .slice a2 l2 c2, .slice a3 l3 c3, .int .i64 now, .int .i64 next, .slice a4 l4 c4, .slice a5 l5 c5] 41))
  have K := Lib.hid (Hd.new W (.cells #[.slice a1 l1 c1, .string ⟨rp.toArray⟩, .slice a2 l2 c2, .slice a3 l3 c3, .int .i64 now, .int .i64 next, .slice a4 l4 c4, .slice a5 l5 c5] 41))
  go_enter Tryz.func35, Tryz.ntmps35
  go_wp2_with fail
  refine (HAS.out _ (HB.out.trans (BA.out.mono hB)) (Nat.le_trans hB BA.out.size) (HT.out.below BA.out) (HM.out.below BA.out)).mono ?_
  rintro e w1 ⟨rfl, hb1⟩
  have B1 := Lib.hid (belI_step BA.out hb1)
  have K1 := Lib.hid (K.out.blw hb1)
  clear hb1 K BA HAS
  by_cases hc0 : c = 0
  · have cne : (c != 0) = false := by simp [hc0]
    have hg := HG.out hc0
    obtain ⟨n, hn⟩ : ∃ n : Nat, next = (n : Int) := ⟨next.toNat, by omega⟩
    have hn4 : n ≤ 4096 := by omega
    have hn1 : 1 ≤ n := by omega
    have hgl := hg.2.2.1
    rw [hn] at hgl
    have HRC1 := Lib.hid (HRC.out n hn hn4 hgl)
    have HFN := Lib.hid (fate_nat2 (xs := log) (fun x hx => (hgl x hx).1))
    have HCO := Lib.hid (fun (id f : Int) e => cmp_one (xs := log) (fun x hx => (hgl x hx).1) id f e)
    have HR0 := Lib.hid (show R = (allOne log n && (idsZ log 1 n == NR)) by rw [HR.out, if_pos hc0, hn, hg.2.2.2]; rfl)
    have HC0 := Lib.hid hc0
    subst hn
    have kk := K1.out
    have m0 := cell_of_row w1 W.heap.size 0 _ _ _ kk
    have m1 := cell_of_row w1 W.heap.size 1 _ _ _ kk
    have m2 := cell_of_row w1 W.heap.size 2 _ _ _ kk
    have m3 := cell_of_row w1 W.heap.size 3 _ _ _ kk
    have m4 := cell_of_row w1 W.heap.size 4 _ _ _ kk
    have m5 := cell_of_row w1 W.heap.size 5 _ _ _ kk
    have m6 := cell_of_row w1 W.heap.size 6 _ _ _ kk
    have m7 := cell_of_row w1 W.heap.size 7 _ _ _ kk
    clear kk HG HRC hg hc0 hgl HR
    go_wp2_with fail
    refine (HRC1.out w1 (HB.out.trans (B1.out.mono hB)) (Nat.le_trans hB B1.out.size)).mono ?_
    rintro e w2 ⟨g, hgW, rfl, hrow, hb2⟩
    have R2 := Lib.hid hrow
    have K2 := Lib.hid (K1.out.blw hb2)
    have B2 := Lib.hid (belI_step B1.out hb2)
    clear hrow hb2 m0 m1 m2 m3 m4 m5 m6 m7 HRC1
    have hsl := fun w => run_dropRec w (some ⟨g, 0, none⟩) n n 1 hn1
    obtain ⟨aX, hax⟩ : ∃ x, (if n = 1 then (some ⟨g, 0, none⟩ : Option Addr) else (some ⟨g, 0, none⟩ : Option Addr).map (fun x => x.add (1 * 9))) = x := ⟨_, rfl⟩
    have HAX := Lib.hid (show 1 < n → aX = some ⟨g, 9, none⟩ from fun e => by rw [← hax, if_neg (by omega)]; rfl)
    rw [hax, show ((1 : Nat) : Int) = 1 from rfl] at hsl
    clear hax
    go_wp2
    clear hsl
    go_loopw [20] (fun iv wr => ∃ k : Nat, k + 1 ≤ n ∧ iv = .int .i64 k ∧ (∀ i : Nat, 1 ≤ i → i < k + 1 → oneB (ofId log (i : Int)) = true) ∧ wr.rowIs g 126 (n * 9) (RF log log.length) ∧ Hd wr W.heap.size (.cells #[.slice a1 l1 c1, .string ⟨rp.toArray⟩, .slice a2 l2 c2, .slice a3 l3 c3, .int .i64 now, .int .i64 (n : Int), .slice a4 l4 c4, .slice a5 l5 c5] 41) ∧ Below W.heap.size W wr) (fun iv _ => n - (intOf iv).toNat)
    case atStart => exact ⟨0, by omega, rfl, fun i h1 h2 => by omega, R2.out, K2.out, B2.out⟩
    case round =>
      obtain ⟨k, hk, rfl, hA, hr, hK, hRr⟩ := hrel
      obtain ⟨wo, hwo⟩ : ∃ wo, wo = wr := ⟨_, rfl⟩
      subst hwo
      have HA := Lib.hid hA
      have HRr := Lib.hid hRr
      have HK := Lib.hid hK
      have HRW := Lib.hid hr
      clear hA hRr hK K2 R2 B2
      by_cases hlt : k + 1 < n
      · have hkI : (k : Int) < ((n - 1 : Nat) : Int) := by omega
        have hkN : k < n - 1 := by omega
        have eax := HAX.out (by omega)
        subst eax
        obtain ⟨q0, q1, q2, q3, q4, q5, q6, q7, q8⟩ := rec_cells hr hlt
        rw [show (k + 1) * 9 = 9 + k * 9 by omega] at q0 q1 q2 q3 q4 q5 q6 q7 q8
        have hfn := HFN.out ((k + 1 : Nat) : Int)
        obtain ⟨f, hf⟩ : ∃ f, fateB log ((k + 1 : Nat) : Int) log.length = f := ⟨_, rfl⟩
        have hcm := HCO.out ((k + 1 : Nat) : Int) f hf
        rw [hf] at q0 hfn
        clear hr hf
        generalize cntB log ((k + 1 : Nat) : Int) 0 log.length = y0 at *
        generalize cntB log ((k + 1 : Nat) : Int) 1 log.length = y1 at *
        generalize cntB log ((k + 1 : Nat) : Int) 2 log.length = y2 at *
        generalize cntB log ((k + 1 : Nat) : Int) 3 log.length = y3 at *
        generalize cntB log ((k + 1 : Nat) : Int) 4 log.length = y4 at *
        generalize cntB log ((k + 1 : Nat) : Int) 5 log.length = y5 at *
        generalize cntB log ((k + 1 : Nat) : Int) 6 log.length = y6 at *
        generalize cntB log ((k + 1 : Nat) : Int) 7 log.length = y7 at *
        have HEF := Lib.hid (efI_any f hfn)
        unfold efV at HEF
        generalize efK f 0 = e0 at *
        generalize efK f 1 = e1 at *
        generalize efK f 2 = e2 at *
        generalize efK f 3 = e3 at *
        generalize efK f 4 = e4 at *
        generalize efK f 5 = e5 at *
        generalize efK f 6 = e6 at *
        generalize efK f 7 = e7 at *
        obtain ⟨b1, hb1⟩ : ∃ b1, oneB (ofId log ((k + 1 : Nat) : Int)) = b1 := ⟨_, rfl⟩
        rw [hb1] at hcm
        have HB1 := Lib.hid hb1
        have hne := fun w => run_eqTa w y0 y1 y2 y3 y4 y5 y6 y7 e0 e1 e2 e3 e4 e5 e6 e7
        rw [hcm] at hne
        clear hb1 hcm hfn
        obtain ⟨wa, hwa⟩ : ∃ wa, wa = wo.alloc (.cells #[.int .i64 f, .int .i64 y0, .int .i64 y1, .int .i64 y2, .int .i64 y3, .int .i64 y4, .int .i64 y5, .int .i64 y6, .int .i64 y7] 126) := ⟨_, rfl⟩
        have I0 := Lib.hid (show Hd wa wo.heap.size (.cells #[.int .i64 f, .int .i64 y0, .int .i64 y1, .int .i64 y2, .int .i64 y3, .int .i64 y4, .int .i64 y5, .int .i64 y6, .int .i64 y7] 126) by rw [hwa]; exact Hd.new wo _)
        have RW := Lib.hid (show wa.rowIs g 126 (n * 9) (RF log log.length) by rw [hwa]; exact HRW.out.of_block (heap_alloc_old _ _ HRW.out.lt))
        have KW := Lib.hid (show Hd wa W.heap.size (.cells #[.slice a1 l1 c1, .string ⟨rp.toArray⟩, .slice a2 l2 c2, .slice a3 l3 c3, .int .i64 now, .int .i64 (n : Int), .slice a4 l4 c4, .slice a5 l5 c5] 41) by rw [hwa]; exact HK.out.al _)
        have BW := Lib.hid (show Below W.heap.size W wa by rw [hwa]; exact belI_alloc HRr.out)
        have HALL := Lib.hid (fun wx (hi : Hd wx wo.heap.size (.cells #[.int .i64 f, .int .i64 y0, .int .i64 y1, .int .i64 y2, .int .i64 y3, .int .i64 y4, .int .i64 y5, .int .i64 y6, .int .i64 y7] 126)) (hr : wx.rowIs g 126 (n * 9) (RF log log.length)) (hk : Hd wx W.heap.size (.cells #[.slice a1 l1 c1, .string ⟨rp.toArray⟩, .slice a2 l2 c2, .slice a3 l3 c3, .int .i64 now, .int .i64 (n : Int), .slice a4 l4 c4, .slice a5 l5 c5] 41)) (hb : Below W.heap.size W wx) =>
          And.intro (cell_of_row wx wo.heap.size 0 _ _ _ hi) (And.intro (cell_of_row wx wo.heap.size 1 _ _ _ hi) (And.intro (cell_of_row wx wo.heap.size 2 _ _ _ hi) (And.intro (cell_of_row wx wo.heap.size 3 _ _ _ hi) (And.intro (cell_of_row wx wo.heap.size 4 _ _ _ hi) (And.intro (cell_of_row wx wo.heap.size 5 _ _ _ hi) (And.intro (cell_of_row wx wo.heap.size 6 _ _ _ hi) (And.intro (cell_of_row wx wo.heap.size 7 _ _ _ hi) (And.intro (cell_of_row wx wo.heap.size 8 _ _ _ hi) (And.intro hi (And.intro hr (And.intro hk hb))))))))))))
        have kk := I0.out
        have x0 := cell_of_row wa wo.heap.size 0 _ _ _ kk
        have x1 := cell_of_row wa wo.heap.size 1 _ _ _ kk
        have x2 := cell_of_row wa wo.heap.size 2 _ _ _ kk
        have x3 := cell_of_row wa wo.heap.size 3 _ _ _ kk
        have x4 := cell_of_row wa wo.heap.size 4 _ _ _ kk
        have x5 := cell_of_row wa wo.heap.size 5 _ _ _ kk
        have x6 := cell_of_row wa wo.heap.size 6 _ _ _ kk
        have x7 := cell_of_row wa wo.heap.size 7 _ _ _ kk
        have x8 := cell_of_row wa wo.heap.size 8 _ _ _ kk
        clear kk
        cases b1
        all_goals
          go_upto_region 8 with fail
          rw [← hwa]
          clear hwa q0 q1 q2 q3 q4 q5 q6 q7 q8
          go_region_held3 (fun wx => wx.cell? ⟨wo.heap.size, 0, none⟩ = some (.int .i64 f) ∧ wx.cell? ⟨wo.heap.size, 1, none⟩ = some (.int .i64 y0) ∧ wx.cell? ⟨wo.heap.size, 2, none⟩ = some (.int .i64 y1) ∧ wx.cell? ⟨wo.heap.size, 3, none⟩ = some (.int .i64 y2) ∧ wx.cell? ⟨wo.heap.size, 4, none⟩ = some (.int .i64 y3) ∧ wx.cell? ⟨wo.heap.size, 5, none⟩ = some (.int .i64 y4) ∧ wx.cell? ⟨wo.heap.size, 6, none⟩ = some (.int .i64 y5) ∧ wx.cell? ⟨wo.heap.size, 7, none⟩ = some (.int .i64 y6) ∧ wx.cell? ⟨wo.heap.size, 8, none⟩ = some (.int .i64 y7) ∧ Hd wx wo.heap.size (.cells #[.int .i64 f, .int .i64 y0, .int .i64 y1, .int .i64 y2, .int .i64 y3, .int .i64 y4, .int .i64 y5, .int .i64 y6, .int .i64 y7] 126) ∧ wx.rowIs g 126 (n * 9) (RF log log.length) ∧ Hd wx W.heap.size (.cells #[.slice a1 l1 c1, .string ⟨rp.toArray⟩, .slice a2 l2 c2, .slice a3 l3 c3, .int .i64 now, .int .i64 (n : Int), .slice a4 l4 c4, .slice a5 l5 c5] 41) ∧ Below W.heap.size W wx)
            (first
              | exact HALL.out _ I0.out RW.out KW.out BW.out
              | exact HALL.out _ I0.out RW.out KW.out (Below.drew BW.out)
              | (go_split_ands; exact HALL.out _ hI5 hR5 hK5 hB5)
              | (go_split_ands; exact HALL.out _ (by assumption) (by assumption) (by assumption) (Below.drew (by assumption))))
            (first
              | (go_split_ands
                 go_at_call 88
                 refine (HEF.out _).mono ?_
                 rintro e w5 ⟨rfl, hb5⟩
                 have hI5 : Hd w5 wo.heap.size (.cells #[.int .i64 f, .int .i64 y0, .int .i64 y1, .int .i64 y2, .int .i64 y3, .int .i64 y4, .int .i64 y5, .int .i64 y6, .int .i64 y7] 126) := Hd.blw (by assumption) hb5
                 have hR5 : w5.rowIs g 126 (n * 9) (RF log log.length) := World.rowIs.of_block (by assumption) (hb5.block _ (World.rowIs.lt (by assumption)))
                 have hK5 : Hd w5 W.heap.size (.cells #[.slice a1 l1 c1, .string ⟨rp.toArray⟩, .slice a2 l2 c2, .slice a3 l3 c3, .int .i64 now, .int .i64 (n : Int), .slice a4 l4 c4, .slice a5 l5 c5] 41) := Hd.blw (by assumption) hb5
                 have hB5 : Below W.heap.size W w5 := belI_step (by assumption) hb5)
              | fail)
        all_goals
          go_split_ands
        · have HFIN := Lib.hid (show HoB W R c (.returned (.tuple #[.bool false, .int .i64 0])) w5 by
            rw [HR0.out, HC0.out, allOne_no (by omega) hlt HB1.out]; exact ⟨rfl, hB5⟩)
          go_wp2
          exact bodyPost_ret (ret_2 Tryz.results35) rfl HFIN.out
        · have G5 := Lib.hid (And.intro hR5 (And.intro hK5 hB5))
          go_wp2
          go_roundw
          case rel => exact ⟨k + 1, by omega, by go_num, fun i h1 h2 => by
            by_cases e : i = k + 1
            · subst e; exact HB1.out
            · exact HA.out i h1 (by omega), G5.out.1, G5.out.2.1, G5.out.2.2⟩
          case measure => simp [intOf]; omega
      · have hkI : ¬ ((k : Int) < ((n - 1 : Nat) : Int)) := by omega
        have hkN : ¬ (k < n - 1) := by omega
        have HAL := Lib.hid (allOne_yes (xs := log) (n := n) (fun i h1 h2 => HA.out i h1 (by omega)))
        have hK := HK.out
        have m0 := cell_of_row wo W.heap.size 0 _ _ _ hK
        have m1 := cell_of_row wo W.heap.size 1 _ _ _ hK
        have m2 := cell_of_row wo W.heap.size 2 _ _ _ hK
        have m3 := cell_of_row wo W.heap.size 3 _ _ _ hK
        have m4 := cell_of_row wo W.heap.size 4 _ _ _ hK
        have m5 := cell_of_row wo W.heap.size 5 _ _ _ hK
        have m6 := cell_of_row wo W.heap.size 6 _ _ _ hK
        have m7 := cell_of_row wo W.heap.size 7 _ _ _ hK
        clear hK HA hr
        go_wp2_with fail
        refine (HNI.out wo (HB.out.trans (HRr.out.mono hB)) (Nat.le_trans hB HRr.out.size) (HT.out.below HRr.out) (HM.out.below HRr.out)).mono ?_
        rintro e w6 ⟨v6, rfl, hO6, hb6⟩
        have I6 := Lib.hid (oi_low hO6)
        have R6 := Lib.hid (HRW.out.of_block (hb6.block _ HRW.out.lt))
        have B6 := Lib.hid (belI_step HRr.out hb6)
        obtain ⟨a8, c8, rfl⟩ := OI.slice hO6
        have HIW := Lib.hid (idsI_any log g n hn4 1 w6 R6.out)
        clear hO6 hb6 m0 m1 m2 m3 m4 m5 m6 m7
        go_wp2_with fail
        refine HIW.out.mono ?_
        rintro e w7 ⟨v7, rfl, hO7, hb7⟩
        have I7 := Lib.hid (oi_low hO7)
        have I6 := Lib.hid (ints_step I6.out hb7)
        have B7 := Lib.hid (belI_step B6.out hb7)
        obtain ⟨a9, c9, rfl⟩ := OI.slice hO7
        have HEQ := Lib.hid (Pi.slEqI_any _ _ (idsZ log 1 n) NR _ _ w7 I7.out I6.out)
        have HFIN := Lib.hid (fun w' (h : Below W.heap.size W w') => show HoB W R c (.returned (.tuple #[.bool (idsZ log 1 n == NR), .int .i64 0])) w' from by
          rw [HR0.out, HC0.out, HAL.out]; exact ⟨by simp, h⟩)
        clear hO7 hb7
        generalize idsZ log 1 n = is at *
        go_wp2_with fail
        refine HEQ.out.mono ?_
        rintro e w8 ⟨rfl, nd, rfl⟩
        have HF9 := Lib.hid (HFIN.out _ (belI_drewN B7.out nd))
        go_wp2
        exact bodyPost_ret (ret_2 Tryz.results35) rfl HF9.out
  · have cne : (c != 0) = true := by simp [hc0]
    have HFIN := Lib.hid (show HoB W R c (.returned (.tuple #[.bool false, .int .i64 c])) w1 by
      rw [HR.out, if_neg hc0]; exact ⟨rfl, B1.out⟩)
    clear HG
    go_wp2
    exact bodyPost_ret (ret_2 Tryz.results35) rfl HFIN.out
end Go.Proofs.YtmaknkbmilcanaaGreatDoor.Ft
