
/-
  GroupOK, the model's and the program's.
-/
import Derived.Test.YtakiigddbdapaaaGreatDoorGrK
namespace Go.Proofs.YtakiigddbdapaaaGreatDoor.Gr
open Go.RowKit
open Go.Proofs.YtakiigddbdapaaaGreatDoor.Ul
open Go.Proofs.YtakiigddbdapaaaGreatDoor.Ext (up up_below up_mk wp_region_ext call_ext call_ext_same call_ext_drewN)
@[local go_sem] theorem up_cellO (w : World) (y : Ext.Ext w) (b o : Nat) (h : b < w.heap.size) : (up w y).cell? ⟨b, o, none⟩ = w.cell? ⟨b, o, none⟩ := Ext.up_cell w y b o h
theorem ageG_any (n : Int) (w : World) : Calls Tryz.prog 70 #[.int .i64 n] w fun e w' => e = .returned (.bool (decide (1 ≤ n ∧ n ≤ 100))) ∧ w = w' := by
  by_cases h1 : 1 ≤ n
  · by_cases h2 : n ≤ 100
    all_goals
      go_enter Tryz.func70, Tryz.ntmps70
      go_wp2
      go_ret
      exact ⟨ret_b (by simp; omega), rfl⟩
  · go_enter Tryz.func70, Tryz.ntmps70
    go_wp2
    go_ret
    exact ⟨ret_b (by simp; omega), rfl⟩
set_option maxRecDepth 100000 in
set_option maxHeartbeats 4000000 in
theorem groupI (B : Nat) (w0 : World) (g : Gp) (v : Value) (h : TgIn (· < B) w0 v g.tgs) (hn : g.name.length ≤ 1048576) (W : World) (hb : Below B w0 W) (hB : B ≤ W.heap.size) (hT : Tab W) (hM : MaxL W) :
    Calls Tryz.prog 55 #[gV g v] W fun e w' => e = .returned (.bool (gpB g)) ∧ Below W.heap.size W w' := by
  obtain ⟨n, ag, xs⟩ := g
  simp only at h hn
  have HS := Lib.hid (fun (W' : World) h1 h2 h3 h4 => tgsI_any B w0 xs v h W' h1 h2 h3 h4)
  obtain ⟨a, cap, b, off, rfl, hcap, hm, -, -, -⟩ := h
  have HN := Lib.hid (fun W => Nm.NameOK_any ⟨n.toArray⟩ W (by simp [ByteArray.size, maxLen]; omega))
  have HB := Lib.hid hb
  have HT := Lib.hid hT
  have HM := Lib.hid hM
  clear hb hT hM hn
  unfold gpB
  simp only
  generalize Nm.nameB ⟨n.toArray⟩ = b1 at *
  generalize tgsB [] xs = b4 at *
  go_enter Tryz.func55, Tryz.ntmps55
  go_wp2_with fail
  refine (HN.out _).mono ?_
  rintro e w1 ⟨rfl, hb1⟩
  obtain ⟨m0, m1, m2, mf⟩ := three_cells ((hb1.block W.heap.size (by simp)).trans (heap_alloc_new W (.cells #[.string ⟨n.toArray⟩, .int .i64 ag, .slice a xs.length cap] 31)))
  have z1 : W.heap.size ≤ w1.heap.size := by have := hb1.size; simp at this; omega
  have HF := Lib.hid (((Below.refl W.heap.size W).alloc (Nat.le_refl _) (.cells #[.string ⟨n.toArray⟩, .int .i64 ag, .slice a xs.length cap] 31)).trans (hb1.mono (by simp)))
  clear hb1
  cases b1
  · go_wp2
    go_ret
    exact ⟨rfl, HF.out⟩
  have HAG := Lib.hid (ageG_any ag w1)
  obtain ⟨b2, hb2⟩ : ∃ b, decide (1 ≤ ag ∧ ag ≤ 100) = b := ⟨_, rfl⟩
  rw [hb2] at HAG
  have E1 := Lib.hid hb2
  clear hb2
  go_wp2_with fail
  refine HAG.out.mono ?_
  rintro e _ ⟨rfl, rfl⟩
  cases b2
  · go_wp2
    go_ret
    exact ⟨ret_b (by rw [E1.out]; rfl), HF.out⟩
  by_cases a3 : 1 ≤ xs.length
  · have d3 : decide ((1 : Int) ≤ (xs.length : Int)) = true := by simp; omega
    by_cases a4 : xs.length ≤ 4
    · have d4 : decide ((xs.length : Int) ≤ 4) = true := by simp; omega
      have e2 := Lib.hid (show decide (1 ≤ xs.length ∧ xs.length ≤ 4) = true by simp; omega)
      go_wp2_with fail
      refine (HS.out w1 (HB.out.trans (HF.out.mono hB)) (by omega) (HT.out.below HF.out) (HM.out.below HF.out)).mono ?_
      rintro e w2 ⟨rfl, hb2⟩
      have HF2 := Lib.hid (HF.out.trans (hb2.mono z1))
      clear hb2 m0 m1 m2 mf
      go_wp2
      go_ret
      exact ⟨ret_b (by rw [E1.out, e2.out]; rfl), HF2.out⟩
    · have d4 : decide ((xs.length : Int) ≤ 4) = false := by simp; omega
      have e2 := Lib.hid (show decide (1 ≤ xs.length ∧ xs.length ≤ 4) = false by simp; omega)
      go_wp2
      go_ret
      exact ⟨ret_b (by rw [E1.out, e2.out]; rfl), HF.out⟩
  · have d3 : decide ((1 : Int) ≤ (xs.length : Int)) = false := by simp; omega
    have e2 := Lib.hid (show decide (1 ≤ xs.length ∧ xs.length ≤ 4) = false by simp; omega)
    go_wp2
    go_ret
    exact ⟨ret_b (by rw [E1.out, e2.out]; rfl), HF.out⟩
end Go.Proofs.YtakiigddbdapaaaGreatDoor.Gr
