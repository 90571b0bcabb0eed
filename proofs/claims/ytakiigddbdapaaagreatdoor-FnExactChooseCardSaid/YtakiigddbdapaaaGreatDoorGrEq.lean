
/-
  The laws' comparisons of groups, of a thing with its like: eqTarget, eqTargetS, eqGroup answer true.
-/
import Derived.Test.YtakiigddbdapaaaGreatDoorGrTo
namespace Go.Proofs.YtakiigddbdapaaaGreatDoor.Gr
open Go.RowKit
theorem belI_alloc {w Y : World} {o : Obj} (h : Below w.heap.size w Y) : Below w.heap.size w (Y.alloc o) := h.alloc h.size o
theorem alloc2_0 (W : World) (a b : Obj) : ((W.alloc a).alloc b).heap[W.heap.size]? = some a := by
  rw [heap_alloc_old _ _ (by simp), heap_alloc_new]
theorem alloc2_1 (W : World) (a b : Obj) : ((W.alloc a).alloc b).heap[W.heap.size + 1]? = some b := heap_alloc2_new W a b
set_option maxRecDepth 100000 in
set_option maxHeartbeats 2000000 in
theorem eqTg_self (t : Tg) (W : World) : Calls Tryz.prog 62 #[tV t, tV t] W fun e w' => e = .returned (.bool true) ∧ Below W.heap.size W w' := by
  obtain ⟨u, p, q⟩ := t
  have e1 : (u == u) = true := by simp
  have e2 : (u != u) = false := by simp
  have e3 : (p == p) = true := by simp
  have e4 : (p != p) = false := by simp
  have e5 : (q == q) = true := by simp
  have e6 : (q != q) = false := by simp
  go_enter Tryz.func62, Tryz.ntmps62
  go_wp2
  go_ret
  exact ⟨rfl, ((Below.refl _ _).alloc (Nat.le_refl _) _).alloc (by simp) _⟩
set_option maxRecDepth 100000 in
set_option maxHeartbeats 2000000 in
theorem eqTs_self (B : Nat) (w0 : World) (xs : List Tg) (v u : Value) (h1 : TgIn (· < B) w0 v xs) (h2 : TgIn (· < B) w0 u xs) (W : World) (hb : Below B w0 W) (hB : B ≤ W.heap.size) :
    Calls Tryz.prog 35 #[v, u] W fun e w' => e = .returned (.bool true) ∧ Below W.heap.size W w' := by
  obtain ⟨a, cap, b, off, rfl, hcap, hm, hlen, ha, hc⟩ := h1
  obtain ⟨a', cap', b', off', rfl, hcap', hm', hlen', ha', hc'⟩ := h2
  have hn : xs.length ≤ 9223372036854775807 := by omega
  have HC := Lib.hid hc
  have HA := Lib.hid ha
  have HC' := Lib.hid hc'
  have HA' := Lib.hid ha'
  have HB := Lib.hid hb
  clear hc ha hc' ha' hb hlen hlen'
  have g1 : ((xs.length : Int) != (xs.length : Int)) = false := by simp
  go_enter Tryz.func35, Tryz.ntmps35
  go_wp2
  go_loopw [5] (fun i wr => ∃ k : Nat, k ≤ xs.length ∧ i = .int .i64 k ∧ Below W.heap.size W wr) (fun i _ => xs.length - (intOf i).toNat)
  case atStart => exact ⟨0, by omega, rfl, Below.refl _ _⟩
  case round =>
    obtain ⟨k, hk, rfl, hR⟩ := hrel
    by_cases hlt : k < xs.length
    · obtain ⟨ea, hlb⟩ := HA.out (by omega)
      obtain ⟨ea', hlb'⟩ := HA'.out (by omega)
      subst ea ea'
      have hW := HB.out.trans (hR.mono hB)
      have hWB : B ≤ wr.heap.size := Nat.le_trans hB hR.size
      obtain ⟨c0, c1, c2⟩ := HC.out k hlt
      obtain ⟨c0', c1', c2'⟩ := HC'.out k hlt
      have q0 := (hW.cell (p := ⟨b, off + k * 3, none⟩) hlb).trans c0
      have q1 := (hW.cell (p := ⟨b, off + k * 3 + 1, none⟩) hlb).trans c1
      have q2 := (hW.cell (p := ⟨b, off + k * 3 + 2, none⟩) hlb).trans c2
      have r0 := (hW.cell (p := ⟨b', off' + k * 3, none⟩) hlb').trans c0'
      have r1 := (hW.cell (p := ⟨b', off' + k * 3 + 1, none⟩) hlb').trans c1'
      have r2 := (hW.cell (p := ⟨b', off' + k * 3 + 2, none⟩) hlb').trans c2'
      clear c0 c1 c2 c0' c1' c2' hW
      generalize xs.getD k default = x at *
      go_wp2_with fail
      go_region_held3 (fun wx => wx.cell? ⟨b, off + k * 3, none⟩ = some (.string ⟨x.url.toArray⟩) ∧ wx.cell? ⟨b, off + k * 3 + 1, none⟩ = some (.int .i64 x.pri) ∧ wx.cell? ⟨b, off + k * 3 + 2, none⟩ = some (.int .i64 x.wt) ∧ wx.cell? ⟨b', off' + k * 3, none⟩ = some (.string ⟨x.url.toArray⟩) ∧ wx.cell? ⟨b', off' + k * 3 + 1, none⟩ = some (.int .i64 x.pri) ∧ wx.cell? ⟨b', off' + k * 3 + 2, none⟩ = some (.int .i64 x.wt) ∧ Below W.heap.size W wx)
        (first
          | (simp [*, Below.drew]; done)
          | (go_split_ands
             have hz : B ≤ _ := Nat.le_trans hB (Below.size (by assumption))
             refine ⟨?_, ?_, ?_, ?_, ?_, ?_, belI_step (by assumption) hb⟩
             · (rw [hb.cell (p := ⟨b, off + k * 3, none⟩) (Nat.lt_of_lt_of_le hlb hz)]; assumption)
             · (rw [hb.cell (p := ⟨b, off + k * 3 + 1, none⟩) (Nat.lt_of_lt_of_le hlb hz)]; assumption)
             · (rw [hb.cell (p := ⟨b, off + k * 3 + 2, none⟩) (Nat.lt_of_lt_of_le hlb hz)]; assumption)
             · (rw [hb.cell (p := ⟨b', off' + k * 3, none⟩) (Nat.lt_of_lt_of_le hlb' hz)]; assumption)
             · (rw [hb.cell (p := ⟨b', off' + k * 3 + 1, none⟩) (Nat.lt_of_lt_of_le hlb' hz)]; assumption)
             · (rw [hb.cell (p := ⟨b', off' + k * 3 + 2, none⟩) (Nat.lt_of_lt_of_le hlb' hz)]; assumption)))
        (first
          | (go_split_ands; go_at_call 62; refine (eqTg_self x _).mono ?_; rintro e w1 ⟨rfl, hb⟩))
      go_split_ands
      rename_i hNW
      have HN := Lib.hid hNW
      clear hNW
      go_wp2
      go_roundw
      case rel => exact ⟨k + 1, by omega, by go_num, HN.out⟩
      case measure => simp [intOf]; omega
    · go_wp2
      go_ret
      exact ⟨rfl, hR⟩
set_option maxRecDepth 100000 in
set_option maxHeartbeats 2000000 in
theorem eqG_self (B : Nat) (w0 : World) (g : Gp) (v u : Value) (h1 : TgIn (· < B) w0 v g.tgs) (h2 : TgIn (· < B) w0 u g.tgs) (W : World) (hb : Below B w0 W) (hB : B ≤ W.heap.size) :
    Calls Tryz.prog 14 #[gV g v, gV g u] W fun e w' => e = .returned (.bool true) ∧ Below W.heap.size W w' := by
  obtain ⟨n, k, xs⟩ := g
  have HK := Lib.hid (fun W h2' h3' => eqTs_self B w0 xs v u h1 h2 W h2' h3')
  obtain ⟨a1, l1, cc1, rfl⟩ := h1.slice
  obtain ⟨a2, l2, cc2, rfl⟩ := h2.slice
  have HB := Lib.hid hb
  clear h1 h2 hb
  have e1 : (n == n) = true := by simp
  have e2 : (n != n) = false := by simp
  have e3 : (k == k) = true := by simp
  have e4 : (k != k) = false := by simp
  go_enter Tryz.func14, Tryz.ntmps14
  go_wp2_with fail
  refine (HK.out _ ((HB.out.alloc hB _).alloc (by simp; omega) _) (by simp; omega)).mono ?_
  rintro e w1 ⟨rfl, hb1⟩
  have hf : Below W.heap.size W w1 := (((Below.refl W.heap.size W).alloc (Nat.le_refl _) _).alloc (by simp) _).trans (hb1.mono (by simp; omega))
  clear hb1
  go_wp2
  go_ret
  exact ⟨rfl, hf⟩
end Go.Proofs.YtakiigddbdapaaaGreatDoor.Gr
