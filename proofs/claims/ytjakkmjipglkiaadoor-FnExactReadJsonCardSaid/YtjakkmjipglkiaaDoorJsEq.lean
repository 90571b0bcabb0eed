
/-
  JSON values compared: the laws' eqStringS, eqJson, and the model's l00SameTexts, l02Same. JSON values compared by the program: slices.Equal, slices.EqualFunc, equalJson. JSON values compared by the model: l02Same. Is a text in a list: the model's l01Has.
-/
import Derived.Test.YtjakkmjipglkiaaDoorJsAt
namespace Go.Proofs.YtjakkmjipglkiaaDoor.Js
open Go.RowKit
theorem ret_b {a b : Bool} (h : a = b) : Ending.returned (.bool a) = .returned (.bool b) := by rw [h]
theorem eqT_drop {xs ys : List (List UInt8)} (k : Nat) (hx : k < xs.length) (hy : k < ys.length) : (xs.drop k == ys.drop k) = ((xs.getD k [] == ys.getD k []) && (xs.drop (k + 1) == ys.drop (k + 1))) := by
  rw [List.drop_eq_getElem_cons hx, List.drop_eq_getElem_cons hy, List.cons_beq_cons]
  simp [hx, hy]
theorem eqT_len {xs ys : List (List UInt8)} (h : xs.length ≠ ys.length) : (xs == ys) = false := by
  simp only [beq_eq_false_iff_ne, ne_eq]; intro e; exact h (by rw [e])
theorem TxtsIn.drewN {S : Nat → Prop} {w : World} {v : Value} {ns : List (List UInt8)} (h : TxtsIn S w v ns) (n : Nat) : TxtsIn S (w.drewN n) v ns := h.same fun _ hb => ⟨hb, rfl⟩
set_option maxRecDepth 100000 in
set_option maxHeartbeats 1000000 in
theorem eqT_any (S1 S2 : Nat → Prop) (ns ms : List (List UInt8)) (v u : Value) (w : World) (h1 : TxtsIn S1 w v ns) (h2 : TxtsIn S2 w u ms) :
    Calls Tryd.prog 13 #[v, u] w fun e w' => e = .returned (.bool (ns == ms)) ∧ ∃ n, w' = w.drewN n := by
  obtain ⟨a, cap, b, off, rfl, hcap, hm, hlen, ha, hc⟩ := h1
  obtain ⟨a', cap', b', off', rfl, hcap', hm', hlen', ha', hc'⟩ := h2
  have hn : ns.length ≤ 9223372036854775807 := by omega
  have hn' : ms.length ≤ 9223372036854775807 := by omega
  have HC := Lib.hid hc
  have HA := Lib.hid ha
  have HC' := Lib.hid hc'
  have HA' := Lib.hid ha'
  clear hc ha hc' ha' hlen hlen'
  by_cases hl : ns.length = ms.length
  · have HL := Lib.hid hl
    have g1 : ((ns.length : Int) != (ms.length : Int)) = false := by simp [hl]
    clear hl
    go_enter Tryd.func13, Tryd.ntmps13
    go_wp2
    go_loopw [5] (fun i wr => ∃ k n : Nat, k ≤ ns.length ∧ i = .int .i64 k ∧ (ns == ms) = (ns.drop k == ms.drop k) ∧ wr = w.drewN n) (fun i _ => ns.length - (intOf i).toNat)
    case atStart => exact ⟨0, 0, by omega, rfl, rfl, rfl⟩
    case round =>
      obtain ⟨k, n, hk, rfl, hE, rfl⟩ := hrel
      have HE := Lib.hid hE
      clear hE
      by_cases hlt : k < ns.length
      · have hlt' : k < ms.length := by have := HL.out; omega
        obtain ⟨ea, _⟩ := HA.out (by omega)
        obtain ⟨ea', _⟩ := HA'.out (by omega)
        subst ea ea'
        have q0 := HC.out k hlt
        have q1 := HC'.out k hlt'
        have D := Lib.hid (eqT_drop k hlt hlt')
        generalize ns.getD k [] = t at *
        generalize ms.getD k [] = t' at *
        by_cases ht : t = t'
        · subst ht
          have e1 : (t == t) = true := by simp
          have D2 := Lib.hid (D.out.trans (by rw [e1, Bool.true_and]))
          go_wp2
          go_quiet (fail)
          go_wp2
          go_roundw
          case rel => exact ⟨k + 1, n + nq, by omega, by go_num, by rw [HE.out, D2.out], by first | rfl | exact World.drewN_drewN _ _ _⟩
          case measure => simp [intOf]; omega
        · have e1 : (t == t') = false := by simpa using ht
          have D2 := Lib.hid (D.out.trans (by rw [e1, Bool.false_and]))
          go_wp2
          go_quiet (fail)
          go_wp2
          go_ret
          exact ⟨ret_b (by rw [HE.out, D2.out]), n + nq, World.drewN_drewN _ _ _⟩
      · go_wp2
        go_ret
        obtain rfl : k = ns.length := by omega
        exact ⟨ret_b (by rw [HE.out, List.drop_length, HL.out, List.drop_length]; rfl), n, rfl⟩
  · have E := Lib.hid (eqT_len hl)
    have g1 : ((ns.length : Int) != (ms.length : Int)) = true := by simp only [bne_iff_ne, ne_eq]; omega
    clear hl
    go_enter Tryd.func13, Tryd.ntmps13
    go_wp2
    go_ret
    exact ⟨ret_b E.out.symm, 0, rfl⟩
theorem belI_step {w Y Z : World} (h : Below w.heap.size w Y) (hb : Below Y.heap.size Y Z) : Below w.heap.size w Z := h.trans (hb.mono h.size)
theorem belI_alloc {w Y : World} {o : Obj} (h : Below w.heap.size w Y) : Below w.heap.size w (Y.alloc o) := h.alloc h.size o
theorem belI_drewN {w Y : World} (h : Below w.heap.size w Y) (n : Nat) : Below w.heap.size w (Y.drewN n) := ⟨h.os, h.tape, h.output, h.size, h.block⟩
theorem sameL_lenF {xs ys : List J} (h : xs.length ≠ ys.length) : sameL xs ys = false := by
  cases e : sameL xs ys
  · rfl
  · exact absurd (sameL_len e) h
theorem sameL_get {xs ys : List J} (k : Nat) (hx : k < xs.length) (hy : k < ys.length) : sameL (xs.drop k) (ys.drop k) = (sameJ (xs.getD k default) (ys.getD k default) && sameL (xs.drop (k + 1)) (ys.drop (k + 1))) := by
  rw [sameL_drop k hx hy]; simp [hx, hy]
set_option maxRecDepth 100000 in
set_option maxHeartbeats 2000000 in
theorem eqL_of (B : Nat) (w0 : World) (xs ys : List J) (v u : Value) (h1 : LIn (· < B) w0 v xs) (h2 : LIn (· < B) w0 u ys)
    (ih : ∀ i, i < xs.length → ∀ (y : J) (nv iv nv' iv' : Value), JIn (· < B) w0 (xs.getD i default) nv iv → JIn (· < B) w0 y nv' iv' → ∀ (W : World), Below B w0 W → B ≤ W.heap.size →
      Calls Tryd.prog 6 #[jV (xs.getD i default) nv iv, jV y nv' iv'] W fun e w' => e = .returned (.bool (sameJ (xs.getD i default) y)) ∧ Below W.heap.size W w')
    (W : World) (hb : Below B w0 W) (hB : B ≤ W.heap.size) :
    Calls Tryd.prog 14 #[v, u] W fun e w' => e = .returned (.bool (sameL xs ys)) ∧ Below W.heap.size W w' := by
  obtain ⟨a, cap, b, off, vn, vi, rfl, hcap, hm, ha, hc, hd⟩ := h1
  obtain ⟨a', cap', b', off', vn', vi', rfl, hcap', hm', ha', hc', hd'⟩ := h2
  have hn : xs.length ≤ 9223372036854775807 := by omega
  have hn' : ys.length ≤ 9223372036854775807 := by omega
  have HC := Lib.hid hc
  have HA := Lib.hid ha
  have HD := Lib.hid hd
  have HC' := Lib.hid hc'
  have HA' := Lib.hid ha'
  have HD' := Lib.hid hd'
  have HI := Lib.hid ih
  have HB := Lib.hid hb
  clear hc ha hd hc' ha' hd' ih hb
  by_cases hl : xs.length = ys.length
  · have HL := Lib.hid hl
    have g1 : ((xs.length : Int) != (ys.length : Int)) = false := by simp [hl]
    clear hl
    go_enter Tryd.func14, Tryd.ntmps14
    go_wp2
    go_loopw [5] (fun i wr => ∃ k : Nat, k ≤ xs.length ∧ i = .int .i64 k ∧ sameL xs ys = sameL (xs.drop k) (ys.drop k) ∧ Below W.heap.size W wr) (fun i _ => xs.length - (intOf i).toNat)
    case atStart => exact ⟨0, by omega, rfl, rfl, Below.refl _ _⟩
    case round =>
      obtain ⟨k, hk, rfl, hE, hR⟩ := hrel
      have HE := Lib.hid hE
      clear hE
      by_cases hlt : k < xs.length
      · have hlt' : k < ys.length := by have := HL.out; omega
        obtain ⟨ea, hlb⟩ := HA.out (by omega)
        obtain ⟨ea', hlb'⟩ := HA'.out (by omega)
        subst ea ea'
        have hW := HB.out.trans (hR.mono hB)
        have hWB : B ≤ wr.heap.size := Nat.le_trans hB hR.size
        obtain ⟨c0, c1, c2, c3, c4⟩ := HC.out k hlt
        obtain ⟨c0', c1', c2', c3', c4'⟩ := HC'.out k hlt'
        have q0 := (hW.cell (p := ⟨b, off + k * 5, none⟩) hlb).trans c0
        have q1 := (hW.cell (p := ⟨b, off + k * 5 + 1, none⟩) hlb).trans c1
        have q2 := (hW.cell (p := ⟨b, off + k * 5 + 2, none⟩) hlb).trans c2
        have q3 := (hW.cell (p := ⟨b, off + k * 5 + 3, none⟩) hlb).trans c3
        have q4 := (hW.cell (p := ⟨b, off + k * 5 + 4, none⟩) hlb).trans c4
        have r0 := (hW.cell (p := ⟨b', off' + k * 5, none⟩) hlb').trans c0'
        have r1 := (hW.cell (p := ⟨b', off' + k * 5 + 1, none⟩) hlb').trans c1'
        have r2 := (hW.cell (p := ⟨b', off' + k * 5 + 2, none⟩) hlb').trans c2'
        have r3 := (hW.cell (p := ⟨b', off' + k * 5 + 3, none⟩) hlb').trans c3'
        have r4 := (hW.cell (p := ⟨b', off' + k * 5 + 4, none⟩) hlb').trans c4'
        have D := Lib.hid (sameL_get k hlt hlt')
        have HK := Lib.hid (fun (wx : World) (hx : Below W.heap.size W wx) => HI.out k hlt _ _ _ _ _ (HD.out k hlt) (HD'.out k hlt') wx (HB.out.trans (hx.mono hB)) (Nat.le_trans hB hx.size))
        clear c0 c1 c2 c3 c4 c0' c1' c2' c3' c4' hW
        generalize xs.getD k default = x at *
        generalize ys.getD k default = y at *
        generalize vn k = n1 at *
        generalize vi k = i1 at *
        generalize vn' k = n2 at *
        generalize vi' k = i2 at *
        obtain ⟨s, hs⟩ : ∃ s, sameJ x y = s := ⟨_, rfl⟩
        rw [hs] at D HK
        clear hs
        go_wp2_with fail
        go_region_held3 (fun wx => wx.cell? ⟨b, off + k * 5, none⟩ = some (.int .i64 x.kind) ∧ wx.cell? ⟨b, off + k * 5 + 1, none⟩ = some (.int .i64 x.num) ∧ wx.cell? ⟨b, off + k * 5 + 2, none⟩ = some (.string ⟨x.text.toArray⟩) ∧ wx.cell? ⟨b, off + k * 5 + 3, none⟩ = some n1 ∧ wx.cell? ⟨b, off + k * 5 + 4, none⟩ = some i1 ∧ wx.cell? ⟨b', off' + k * 5, none⟩ = some (.int .i64 y.kind) ∧ wx.cell? ⟨b', off' + k * 5 + 1, none⟩ = some (.int .i64 y.num) ∧ wx.cell? ⟨b', off' + k * 5 + 2, none⟩ = some (.string ⟨y.text.toArray⟩) ∧ wx.cell? ⟨b', off' + k * 5 + 3, none⟩ = some n2 ∧ wx.cell? ⟨b', off' + k * 5 + 4, none⟩ = some i2 ∧ Below W.heap.size W wx)
          (first
            | (simp [*, Below.drew]; done)
            | (go_split_ands
               have hz : B ≤ _ := Nat.le_trans hB (Below.size (by assumption))
               refine ⟨?_, ?_, ?_, ?_, ?_, ?_, ?_, ?_, ?_, ?_, belI_step (by assumption) hb⟩
               · (rw [hb.cell (p := ⟨b, off + k * 5, none⟩) (Nat.lt_of_lt_of_le hlb hz)]; assumption)
               · (rw [hb.cell (p := ⟨b, off + k * 5 + 1, none⟩) (Nat.lt_of_lt_of_le hlb hz)]; assumption)
               · (rw [hb.cell (p := ⟨b, off + k * 5 + 2, none⟩) (Nat.lt_of_lt_of_le hlb hz)]; assumption)
               · (rw [hb.cell (p := ⟨b, off + k * 5 + 3, none⟩) (Nat.lt_of_lt_of_le hlb hz)]; assumption)
               · (rw [hb.cell (p := ⟨b, off + k * 5 + 4, none⟩) (Nat.lt_of_lt_of_le hlb hz)]; assumption)
               · (rw [hb.cell (p := ⟨b', off' + k * 5, none⟩) (Nat.lt_of_lt_of_le hlb' hz)]; assumption)
               · (rw [hb.cell (p := ⟨b', off' + k * 5 + 1, none⟩) (Nat.lt_of_lt_of_le hlb' hz)]; assumption)
               · (rw [hb.cell (p := ⟨b', off' + k * 5 + 2, none⟩) (Nat.lt_of_lt_of_le hlb' hz)]; assumption)
               · (rw [hb.cell (p := ⟨b', off' + k * 5 + 3, none⟩) (Nat.lt_of_lt_of_le hlb' hz)]; assumption)
               · (rw [hb.cell (p := ⟨b', off' + k * 5 + 4, none⟩) (Nat.lt_of_lt_of_le hlb' hz)]; assumption)))
          (first
            | (go_split_ands; go_at_call 6; refine (HK.out _ (by assumption)).mono ?_; rintro e w1 ⟨rfl, hb⟩))
        go_split_ands
        rename_i hNW
        have HN := Lib.hid hNW
        clear hNW
        cases s with
        | false =>
          go_wp2
          go_ret
          exact ⟨ret_b (by rw [HE.out, D.out]; rfl), HN.out⟩
        | true =>
          go_wp2
          go_roundw
          case rel => exact ⟨k + 1, by omega, by go_num, by rw [HE.out, D.out, Bool.true_and], HN.out⟩
          case measure => simp [intOf]; omega
      · go_wp2
        go_ret
        obtain rfl : k = xs.length := by omega
        exact ⟨ret_b (by rw [HE.out, List.drop_length, HL.out, List.drop_length]; rfl), hR⟩
  · have E := Lib.hid (sameL_lenF hl)
    have g1 : ((xs.length : Int) != (ys.length : Int)) = true := by simp only [bne_iff_ne, ne_eq]; omega
    clear hl
    go_enter Tryd.func14, Tryd.ntmps14
    go_wp2
    go_ret
    exact ⟨ret_b E.out.symm, Below.refl _ _⟩
theorem alloc2_0 (W : World) (a b : Obj) : ((W.alloc a).alloc b).heap[W.heap.size]? = some a := by
  rw [heap_alloc_old _ _ (by simp), heap_alloc_new]
theorem alloc2_1 (W : World) (a b : Obj) : ((W.alloc a).alloc b).heap[W.heap.size + 1]? = some b := heap_alloc2_new W a b
set_option maxRecDepth 100000 in
set_option maxHeartbeats 2000000 in
theorem eqJ_go (B : Nat) (w0 : World) (j : J) : ∀ (y : J) (nv iv nv' iv' : Value), JIn (· < B) w0 j nv iv → JIn (· < B) w0 y nv' iv' → ∀ (W : World), Below B w0 W → B ≤ W.heap.size →
    Calls Tryd.prog 6 #[jV j nv iv, jV y nv' iv'] W fun e w' => e = .returned (.bool (sameJ j y)) ∧ Below W.heap.size W w' := by
  induction j using J.ind with
  | h k n t ns xs ih =>
    intro y nv iv nv' iv' h1 h2 W hb hB
    obtain ⟨k', n', t', ns', xs'⟩ := y
    obtain ⟨hL, hN, b1, b2, b3⟩ := h1.inv
    obtain ⟨hL', hN', b1', b2', b3'⟩ := h2.inv
    have EL := Lib.hid (eqL_of B w0 xs xs' iv iv' hL hL' (fun i hi => ih _ (by simp [hi])))
    have ET := Lib.hid (fun (w : World) (h : Below B w0 w) => eqT_any (· < B) (· < B) ns ns' nv nv' w (hN.blw h) (hN'.blw h))
    have HB := Lib.hid hb
    clear ih hL hN hL' hN' h1 h2 hb
    obtain ⟨q, hq⟩ : ∃ q, (ns == ns') = q := ⟨_, rfl⟩
    obtain ⟨r, hr⟩ : ∃ r, sameL xs xs' = r := ⟨_, rfl⟩
    rw [hq] at ET
    rw [hr] at EL
    unfold sameJ
    rw [hq, hr]
    clear hq hr
    show Calls _ _ #[.agg #[.int .i64 k, .int .i64 n, .string ⟨t.toArray⟩, nv, iv], .agg #[.int .i64 k', .int .i64 n', .string ⟨t'.toArray⟩, nv', iv']] _ _
    by_cases e1 : (k == k') = true
    · by_cases e2 : (n == n') = true
      · by_cases e3 : (t == t') = true
        · rw [e1, e2, e3]
          obtain rfl : k = k' := by simpa using e1
          obtain rfl : n = n' := by simpa using e2
          obtain rfl : t = t' := by simpa using e3
          clear e1 e2 e3
          cases q with
          | false =>
            go_enter Tryd.func6, Tryd.ntmps6
            go_wp2_with fail
            refine (ET.out _ ((HB.out.alloc hB _).alloc (by simp; omega) _)).mono ?_
            rintro e w1 ⟨rfl, m, rfl⟩
            go_wp2
            go_ret
            exact ⟨ret_b (by rfl), belI_drewN (((Below.refl _ _).alloc (Nat.le_refl _) _).alloc (by simp) _) m⟩
          | true =>
            go_enter Tryd.func6, Tryd.ntmps6
            go_wp2_with fail
            refine (ET.out _ ((HB.out.alloc hB _).alloc (by simp; omega) _)).mono ?_
            rintro e w1 ⟨rfl, m, rfl⟩
            go_wp2_with fail
            have hb1 : ∀ o1 o2, Below W.heap.size W (((W.alloc o1).alloc o2).drewN m) := fun o1 o2 => belI_drewN (((Below.refl _ _).alloc (Nat.le_refl _) _).alloc (by simp) _) m
            refine (EL.out _ (HB.out.trans ((hb1 _ _).mono hB)) (by simp; omega)).mono ?_
            rintro e w2 ⟨rfl, hb2⟩
            have HB3 := Lib.hid ((hb1 _ _).trans (hb2.mono (by simp; omega)))
            clear hb2 hb1
            cases r with
            | false =>
              go_wp2
              go_ret
              exact ⟨ret_b (by rfl), HB3.out⟩
            | true =>
              go_wp2
              go_ret
              exact ⟨ret_b (by rfl), HB3.out⟩
        · have e3 : (t == t') = false := by simpa using e3
          rw [e1, e2, e3]
          obtain rfl : k = k' := by simpa using e1
          obtain rfl : n = n' := by simpa using e2
          clear e1 e2
          go_enter Tryd.func6, Tryd.ntmps6
          go_wp2
          go_ret
          exact ⟨ret_b (by rfl), ((Below.refl _ _).alloc (Nat.le_refl _) _).alloc (by simp) _⟩
      · have e2' : (n == n') = false := by simpa using e2
        have e2 : (n != n') = true := by simpa using e2
        rw [e1, e2']
        obtain rfl : k = k' := by simpa using e1
        clear e1 e2'
        go_enter Tryd.func6, Tryd.ntmps6
        go_wp2
        go_ret
        exact ⟨ret_b (by rfl), ((Below.refl _ _).alloc (Nat.le_refl _) _).alloc (by simp) _⟩
    · have e1' : (k == k') = false := by simpa using e1
      have e1 : (k != k') = true := by simpa using e1
      rw [e1']
      clear e1'
      go_enter Tryd.func6, Tryd.ntmps6
      go_wp2
      go_ret
      exact ⟨ret_b (by rfl), ((Below.refl _ _).alloc (Nat.le_refl _) _).alloc (by simp) _⟩
end Go.Proofs.YtjakkmjipglkiaaDoor.Js
namespace Go.Proofs.YtjakkmjipglkiaaDoor.Js
open Go.RowKit
end Go.Proofs.YtjakkmjipglkiaaDoor.Js
namespace Go.Proofs.YtjakkmjipglkiaaDoor.Js
open Go.RowKit
/-- what holds at the head of the model's loop -/
def SameRel (W : World) (iv iv' : Value) (wr : World) : Prop := wr.cell? ⟨W.heap.size, 4, none⟩ = some iv ∧ wr.cell? ⟨W.heap.size + 1, 4, none⟩ = some iv' ∧ W.heap.size + 1 < wr.heap.size ∧ Below W.heap.size W wr
end Go.Proofs.YtjakkmjipglkiaaDoor.Js
namespace Go.Proofs.YtjakkmjipglkiaaDoor.Js
open Go.RowKit
theorem TxtsIn.take {S : Nat → Prop} {w : World} {a : Option Addr} {n cap : Nat} {ns : List (List UInt8)} (h : TxtsIn S w (.slice a n cap) ns) (k : Nat) (hk : k ≤ ns.length) : TxtsIn S w (.slice a k cap) (ns.take k) := by
  obtain ⟨a', cap', b, off, e, h1, h2, h3, h4, h5⟩ := h
  obtain ⟨rfl, rfl, rfl⟩ := by simpa using e
  have hl : (ns.take k).length = k := by simp; omega
  have hg : ∀ i, i < k → (ns.take k).getD i [] = ns.getD i [] := fun i hi => by simp [List.getD, hi]
  refine ⟨a, cap, b, off, by rw [hl], by omega, h2, ?_, ?_, ?_⟩
  · rw [hl]; intro i hi; rw [hg i hi]; exact h3 i (by omega)
  · rw [hl]; intro hp; exact h4 (by omega)
  · rw [hl]; intro i hi; rw [hg i hi]; exact h5 i (by omega)
theorem has_drop {ns : List (List UInt8)} {t : List UInt8} (k : Nat) (hk : k < ns.length) : (ns.drop k).contains t = ((ns.getD k [] == t) || (ns.drop (k + 1)).contains t) := by
  rw [List.drop_eq_getElem_cons hk, List.contains_cons]
  simp only [List.getD_eq_getElem?_getD, List.getElem?_eq_getElem hk, Option.getD_some]
  rw [Bool.beq_comm]
theorem namesB_get {ns : List (List UInt8)} (k : Nat) (hx : k < ns.length) : namesB (ns.take k) (ns.drop k) = ((decide ((ns.getD k []).length ≤ 120) && !((ns.take k).contains (ns.getD k []))) && namesB (ns.take (k + 1)) (ns.drop (k + 1))) := by
  rw [List.drop_eq_getElem_cons hx, namesB]
  have : ns.take k ++ [ns[k]] = ns.take (k + 1) := by rw [List.take_succ_eq_append_getElem hx]
  rw [this]
  simp [hx]
set_option maxRecDepth 100000 in
set_option maxHeartbeats 1000000 in
theorem hasS_any (S : Nat → Prop) (ns : List (List UInt8)) (t : List UInt8) (v : Value) (w : World) (h1 : TxtsIn S w v ns) :
    Calls Tryd.prog 67 #[v, .string ⟨t.toArray⟩] w fun e w' => e = .returned (.bool (ns.contains t)) ∧ w = w' := by
  obtain ⟨a, cap, b, off, rfl, hcap, hm, hlen, ha, hc⟩ := h1
  have hn : ns.length ≤ 9223372036854775807 := by omega
  have HC := Lib.hid hc
  have HA := Lib.hid ha
  clear hc ha hlen
  obtain ⟨r, hr⟩ : ∃ r, ns.contains t = r := ⟨_, rfl⟩
  have HRR := Lib.hid hr
  rw [hr]
  clear hr
  go_enter Tryd.func67, Tryd.ntmps67
  go_wp2
  go_loop [5] (fun i => ∃ k : Nat, k ≤ ns.length ∧ i = .int .i64 k ∧ r = (ns.drop k).contains t) (fun i => ns.length - (intOf i).toNat)
  case atStart => exact ⟨0, by omega, rfl, HRR.out.symm⟩
  case round =>
    obtain ⟨k, hk, rfl, hE⟩ := hrel
    have HE := Lib.hid hE
    clear hE
    by_cases hlt : k < ns.length
    · obtain ⟨ea, _⟩ := HA.out (by omega)
      subst ea
      have q0 := HC.out k hlt
      have D := Lib.hid (has_drop (t := t) k hlt)
      generalize ns.getD k [] = x at *
      by_cases ht : (x == t) = true
      · have D2 := Lib.hid (D.out.trans (by rw [ht, Bool.true_or]))
        obtain rfl : x = t := by simpa using ht
        clear ht
        go_wp2
        go_ret
        exact ⟨ret_b (by rw [HE.out, D2.out]), rfl⟩
      · have ht : (x == t) = false := by simpa using ht
        have D2 := Lib.hid (D.out.trans (by rw [ht, Bool.false_or]))
        go_wp2
        go_round
        case rel => exact ⟨k + 1, by omega, by go_num, by rw [HE.out, D2.out]⟩
        case measure => simp [intOf]; omega
    · go_wp2
      go_ret
      obtain rfl : k = ns.length := by omega
      exact ⟨ret_b (by rw [HE.out, List.drop_length]; rfl), rfl⟩
end Go.Proofs.YtjakkmjipglkiaaDoor.Js
