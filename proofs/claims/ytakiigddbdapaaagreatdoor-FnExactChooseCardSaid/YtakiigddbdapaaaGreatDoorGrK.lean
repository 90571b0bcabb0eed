
/-
  The program's targetsOK and GroupOK, walked.
-/
import Derived.Test.YtakiigddbdapaaaGreatDoorGrH
namespace Go.Proofs.YtakiigddbdapaaaGreatDoor.Gr
open Go.RowKit
open Go.Proofs.YtakiigddbdapaaaGreatDoor.Ul
open Go.Proofs.YtakiigddbdapaaaGreatDoor.Ext (up up_below up_mk wp_region_ext call_ext call_ext_same call_ext_drewN)
@[local go_sem] theorem up_cellK (w : World) (y : Ext.Ext w) (b o : Nat) (h : b < w.heap.size) : (up w y).cell? ⟨b, o, none⟩ = w.cell? ⟨b, o, none⟩ := Ext.up_cell w y b o h
theorem TgIn.take {S : Nat → Prop} {w : World} {xs : List Tg} {b off cap : Nat} (hn : xs.length ≤ cap) (hm : cap ≤ 9223372036854775807) (hl : ∀ i, i < xs.length → (xs.getD i default).url.length ≤ 9223372036854775807) (hS : S b)
    (hc : ∀ i, i < xs.length → w.cell? ⟨b, off + i * 3, none⟩ = some (.string ⟨(xs.getD i default).url.toArray⟩) ∧ w.cell? ⟨b, off + i * 3 + 1, none⟩ = some (.int .i64 (xs.getD i default).pri) ∧ w.cell? ⟨b, off + i * 3 + 2, none⟩ = some (.int .i64 (xs.getD i default).wt)) (k : Nat) (hk : k ≤ xs.length) :
    TgIn S w (.slice (some ⟨b, off, none⟩) k cap) (xs.take k) := by
  have hlen : (xs.take k).length = k := by simp; omega
  have hg : ∀ i, i < k → (xs.take k).getD i default = xs.getD i default := fun i hi => by simp [List.getD, hi]
  refine ⟨some ⟨b, off, none⟩, cap, b, off, by rw [hlen], by rw [hlen]; omega, hm, ?_, fun _ => ⟨rfl, hS⟩, ?_⟩
  · intro i hi; rw [hlen] at hi; rw [hg i hi]; exact hl i (by omega)
  · intro i hi; rw [hlen] at hi; rw [hg i hi]; exact hc i (by omega)
set_option maxRecDepth 100000 in
set_option maxHeartbeats 4000000 in
theorem tgsI_any (B : Nat) (w0 : World) (xs : List Tg) (v : Value) (h : TgIn (· < B) w0 v xs) (w : World) (hb : Below B w0 w) (hB : B ≤ w.heap.size) (hT : Tab w) (hM : MaxL w) :
    Calls Tryz.prog 71 #[v] w fun e w' => e = .returned (.bool (tgsB [] xs)) ∧ Below w.heap.size w w' := by
  obtain ⟨a, cap, b, off, rfl, hcap, hm, hlen, ha, hc⟩ := h
  have hn : xs.length ≤ 9223372036854775807 := by omega
  have HC := Lib.hid hc
  have HA := Lib.hid ha
  have HB := Lib.hid hb
  have HL := Lib.hid hlen
  have HT := Lib.hid hT
  have HM := Lib.hid hM
  clear hc ha hlen hb hT hM
  go_enter Tryz.func71, Tryz.ntmps71
  go_wp2
  go_loopw [7] (fun i wr => ∃ k : Nat, k ≤ xs.length ∧ i = .int .i64 k ∧ tgsB [] xs = tgsB (xs.take k) (xs.drop k) ∧ Below w.heap.size w wr) (fun i _ => xs.length - (intOf i).toNat)
  case atStart => exact ⟨0, by omega, rfl, rfl, Below.refl _ _⟩
  case round =>
    obtain ⟨k, hk, rfl, hE, hR⟩ := hrel
    have HE := Lib.hid hE
    clear hE
    by_cases hlt : k < xs.length
    · obtain ⟨ea, hlb⟩ := HA.out (by omega)
      subst ea
      have hW := HB.out.trans (hR.mono hB)
      have z1 : w.heap.size ≤ wr.heap.size := hR.size
      obtain ⟨c0, c1, c2⟩ := HC.out k hlt
      have q0 := (hW.cell (p := ⟨b, off + k * 3, none⟩) hlb).trans c0
      have q1 := (hW.cell (p := ⟨b, off + k * 3 + 1, none⟩) hlb).trans c1
      have q2 := (hW.cell (p := ⟨b, off + k * 3 + 2, none⟩) hlb).trans c2
      have TD := Lib.hid (tgsB_drop k hlt)
      have TK := Lib.hid (TgIn.take (S := (· < B)) (w := w0) (b := b) (off := off) hcap hm HL.out hlb HC.out k hk)
      have HO := Lib.hid (fun W hT hM => tgOK_any (xs.getD k default) W hT hM (HL.out k hlt))
      have HR := Lib.hid hR
      have hk2 : (k : Int) ≤ (cap : Int) := by omega
      clear c0 c1 c2 hW hR
      generalize xs.getD k default = x at *
      have HH := Lib.hid (fun (W : World) (h1 : Below B w0 W) (h2 : B ≤ W.heap.size) => has_any B w0 (xs.take k) _ x.url TK.out W h1 h2)
      generalize hasU (xs.take k) x.url = c at *
      generalize tgB x = tb at *
      go_wp2_with fail
      have D0 := Lib.hid (HR.out.alloc z1 (.cells #[.string ⟨x.url.toArray⟩, .int .i64 x.pri, .int .i64 x.wt] 55))
      obtain ⟨m0, m1, m2, mf⟩ := three_cells (heap_alloc_new wr (.cells #[.string ⟨x.url.toArray⟩, .int .i64 x.pri, .int .i64 x.wt] 55))
      have hz : wr.heap.size < (wr.alloc (.cells #[.string ⟨x.url.toArray⟩, .int .i64 x.pri, .int .i64 x.wt] 55)).heap.size := by simp
      clear q0 q1 q2 HR
      generalize wr.alloc (.cells #[.string ⟨x.url.toArray⟩, .int .i64 x.pri, .int .i64 x.wt] 55) = w1 at *
      have zB : B ≤ w1.heap.size := by omega
      have DB := Lib.hid (HB.out.trans (D0.out.mono hB))
      clear mf
      cases tb <;> cases c
      all_goals
        refine wp_region_ext (by kernel_rfl) (by kernel_rfl) ?_
        repeat (go_big_quiet_step ((first
          | (go_at_call 83; refine call_ext (v := .bool true) ?_; with_reducible exact HO.out _ (HT.out.below (belI_step D0.out (up_below _ _))) (HM.out.below (belI_step D0.out (up_below _ _))))
          | (go_at_call 83; refine call_ext (v := .bool false) ?_; with_reducible exact HO.out _ (HT.out.below (belI_step D0.out (up_below _ _))) (HM.out.below (belI_step D0.out (up_below _ _))))
          | (go_at_call 84; refine call_ext (v := .bool true) ?_; with_reducible exact HH.out _ (DB.out.trans ((up_below _ _).mono zB)) (Nat.le_trans zB (up_below _ _).size))
          | (go_at_call 84; refine call_ext (v := .bool false) ?_; with_reducible exact HH.out _ (DB.out.trans ((up_below _ _).mono zB)) (Nat.le_trans zB (up_below _ _).size)))))
        refine wpQuiet_nil ?_
        intro _ hw'
        obtain ⟨y8, rfl⟩ := hw'
        have hv8 := up_below _ y8
        generalize up _ y8 = v8 at *
        have D8 := Lib.hid (belI_step D0.out hv8)
        clear hv8 m0 m1 m2
      · go_wp2
        go_ret
        exact ⟨ret_b (by rw [HE.out, TD.out]; rfl), D8.out⟩
      · go_wp2
        go_ret
        exact ⟨ret_b (by rw [HE.out, TD.out]; rfl), D8.out⟩
      · go_wp2
        go_roundw
        case rel => exact ⟨k + 1, by omega, by go_num, by rw [HE.out, TD.out]; rfl, D8.out⟩
        case measure => simp [intOf]; omega
      · go_wp2
        go_ret
        exact ⟨ret_b (by rw [HE.out, TD.out]; rfl), D8.out⟩
    · go_wp2
      go_ret
      obtain rfl : k = xs.length := by omega
      exact ⟨ret_b (by rw [HE.out, List.drop_length]; rfl), hR⟩
end Go.Proofs.YtakiigddbdapaaaGreatDoor.Gr
