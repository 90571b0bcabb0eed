
/-
  The program's hasUrl, walked: slices.ContainsFunc, slices.IndexFunc, and the function that it is given; then targetsOK, GroupOK.
-/
import Derived.Test.YtakiigddbdapaaaGreatDoorGrT
namespace Go.Proofs.YtakiigddbdapaaaGreatDoor.Gr
open Go.RowKit
open Go.Proofs.YtakiigddbdapaaaGreatDoor.Ul
set_option maxRecDepth 100000 in
theorem clo_any (x : Tg) (g : Nat) (u : List UInt8) (w : World) (hg : w.cell? ⟨g, 0, none⟩ = some (.string ⟨u.toArray⟩)) (hlt : g < w.heap.size) :
    Calls Tryz.prog 96 #[tV x, .pointer (some ⟨g, 0, none⟩)] w fun e w' => e = .returned (.bool (x.url == u)) ∧ Below w.heap.size w w' := by
  obtain ⟨t, p, q⟩ := x
  simp only
  have hg2 : (w.alloc (.cells #[.string ⟨t.toArray⟩, .int .i64 p, .int .i64 q] 55)).cell? ⟨g, 0, none⟩ = some (.string ⟨u.toArray⟩) := by rw [World.cell?_alloc_past _ _ _ hlt]; exact hg
  go_enter Tryz.func96, Tryz.ntmps96
  go_wp2
  go_ret
  exact ⟨ret_b (by first | rfl | simp), (Below.refl _ _).alloc (Nat.le_refl _) _⟩
abbrev cloV (g : Nat) : Value := .func (.func 96) #[] #[.pointer (some ⟨g, 0, none⟩)]
set_option maxRecDepth 100000 in
set_option maxHeartbeats 1000000 in
theorem idx_any (B : Nat) (w0 : World) (xs : List Tg) (v : Value) (u : List UInt8) (g : Nat) (h : TgIn (· < B) w0 v xs) (w : World) (hb : Below B w0 w) (hB : B ≤ w.heap.size) (hg : w.cell? ⟨g, 0, none⟩ = some (.string ⟨u.toArray⟩)) (hlt : g < w.heap.size) :
    Calls Tryz.prog 104 #[v, cloV g] w fun e w' => e = .returned (.int .i64 (atF u 0 xs)) ∧ Below w.heap.size w w' := by
  obtain ⟨a, cap, b, off, rfl, hcap, hm, hlen, ha, hc⟩ := h
  have hn : xs.length ≤ 9223372036854775807 := by omega
  have HC := Lib.hid hc
  have HA := Lib.hid ha
  have HB := Lib.hid hb
  have HG := Lib.hid hg
  clear hc ha hlen hb hg
  go_enter Tryz.func104, Tryz.ntmps104
  go_wp2
  go_loopw [8] (fun i wr => ∃ k : Nat, k ≤ xs.length ∧ i = .int .i64 k ∧ atF u 0 xs = atF u k (xs.drop k) ∧ Below w.heap.size w wr) (fun i _ => xs.length - (intOf i).toNat)
  case atStart => exact ⟨0, by omega, rfl, rfl, Below.refl _ _⟩
  case round =>
    obtain ⟨k, hk, rfl, hE, hR⟩ := hrel
    have HE := Lib.hid hE
    clear hE
    by_cases hl : k < xs.length
    · obtain ⟨ea, hlb⟩ := HA.out (by omega)
      subst ea
      have hW := HB.out.trans (hR.mono hB)
      obtain ⟨c0, c1, c2⟩ := HC.out k hl
      have q0 := (hW.cell (p := ⟨b, off + k * 3, none⟩) hlb).trans c0
      have q1 := (hW.cell (p := ⟨b, off + k * 3 + 1, none⟩) hlb).trans c1
      have q2 := (hW.cell (p := ⟨b, off + k * 3 + 2, none⟩) hlb).trans c2
      have D := Lib.hid (atF_drop u k hl)
      have HK := Lib.hid (clo_any (xs.getD k default) g u wr ((hR.cell (p := ⟨g, 0, none⟩) hlt).trans HG.out) (Nat.lt_of_lt_of_le hlt hR.size))
      have HR := Lib.hid hR
      clear c0 c1 c2 hW hR
      generalize xs.getD k default = x at *
      obtain ⟨c, hcc⟩ : ∃ c, (x.url == u) = c := ⟨_, rfl⟩
      rw [hcc] at D HK
      clear hcc
      go_wp2_with fail
      refine HK.out.mono ?_
      rintro e w1 ⟨rfl, hb1⟩
      have D1 := Lib.hid (belI_step HR.out hb1)
      clear hb1 q0 q1 q2
      cases c with
      | true =>
        go_wp2
        go_ret
        exact ⟨ret_i (by rw [HE.out, D.out]; rfl), D1.out⟩
      | false =>
        go_wp2
        go_roundw
        case rel => exact ⟨k + 1, by omega, by go_num, by rw [HE.out, D.out]; simp, D1.out⟩
        case measure => simp [intOf]; omega
    · go_wp2
      go_ret
      obtain rfl : k = xs.length := by omega
      exact ⟨ret_i (by rw [HE.out, List.drop_length]; rfl), hR⟩
theorem atF_has (u : List UInt8) : ∀ (xs : List Tg) (j : Nat), decide (0 ≤ atF u j xs) = hasU xs u
  | [], _ => by simp [atF, hasU]
  | x :: r, j => by
    have ih := atF_has u r (j + 1)
    cases hx : (x.url == u) with
    | true => simp [atF, hasU, hx]
    | false =>
      simp only [atF, hx, Bool.false_eq_true, if_false]
      rw [ih]
      simp [hasU, hx]
set_option maxRecDepth 100000 in
theorem cont_any (B : Nat) (w0 : World) (xs : List Tg) (v : Value) (u : List UInt8) (g : Nat) (h : TgIn (· < B) w0 v xs) (w : World) (hb : Below B w0 w) (hB : B ≤ w.heap.size) (hg : w.cell? ⟨g, 0, none⟩ = some (.string ⟨u.toArray⟩)) (hlt : g < w.heap.size) :
    Calls Tryz.prog 95 #[v, cloV g] w fun e w' => e = .returned (.bool (hasU xs u)) ∧ Below w.heap.size w w' := by
  have HI := Lib.hid (idx_any B w0 xs v u g h w hb hB hg hlt)
  have E := Lib.hid (atF_has u xs 0)
  obtain ⟨a1, l1, cc1, rfl⟩ := h.slice
  clear h hb hg
  generalize atF u 0 xs = ai at *
  go_enter Tryz.func95, Tryz.ntmps95
  go_wp2_with fail
  refine HI.out.mono ?_
  rintro e w1 ⟨rfl, hb1⟩
  have hE := E.out
  go_wp2
  go_ret
  exact ⟨ret_b (by rw [← hE]), hb1⟩
set_option maxRecDepth 100000 in
theorem has_any (B : Nat) (w0 : World) (xs : List Tg) (v : Value) (u : List UInt8) (h : TgIn (· < B) w0 v xs) (w : World) (hb : Below B w0 w) (hB : B ≤ w.heap.size) :
    Calls Tryz.prog 84 #[v, .string ⟨u.toArray⟩] w fun e w' => e = .returned (.bool (hasU xs u)) ∧ Below w.heap.size w w' := by
  have HI := Lib.hid (cont_any B w0 xs v u w.heap.size h (w.alloc (.cells #[.string ⟨u.toArray⟩] 9)) (hb.alloc hB _) (by simp; omega) (cell_of_row _ _ 0 _ _ _ (heap_alloc_new _ _)) (by simp))
  obtain ⟨a1, l1, cc1, rfl⟩ := h.slice
  clear h hb
  go_enter Tryz.func84, Tryz.ntmps84
  go_wp2_with fail
  refine HI.out.mono ?_
  rintro e w1 ⟨rfl, hb1⟩
  go_wp2
  go_ret
  exact ⟨rfl, ((Below.refl w.heap.size w).alloc (Nat.le_refl _) _).trans (hb1.mono (by simp))⟩
end Go.Proofs.YtakiigddbdapaaaGreatDoor.Gr
