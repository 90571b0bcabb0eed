
/-
  The program's PeersOK, walked.
-/
import Derived.Test.YtakiigddbdapaaaGreatDoorPeI
namespace Go.Proofs.YtakiigddbdapaaaGreatDoor.Pe
open Go.RowKit
open Go.Proofs.YtakiigddbdapaaaGreatDoor.Gr (Tg tV TgIn tgB tgsB tgsI_any belI_step belI_alloc ret_b ret_i heap_set)
open Go.Proofs.YtakiigddbdapaaaGreatDoor.Ul (Tab MaxL)
open Go.Proofs.YtakiigddbdapaaaGreatDoor.Mk
set_option maxRecDepth 100000 in
set_option maxHeartbeats 4000000 in
theorem okI_any (B : Nat) (w0 : World) (xs : List Pr) (v : Value) (h : PrIn (· < B) w0 v xs) (W : World) (hb : Below B w0 W) (hB : B ≤ W.heap.size) (hT : Tab W) (hM : MaxL W) :
    Calls Tryz.prog 64 #[v] W fun e w' => e = .returned (.bool (plB xs)) ∧ Below W.heap.size W w' := by
  have E0 := Lib.hid (plB_split xs)
  obtain ⟨a, cap, b, off, rfl, hcap, hm, hlen, ha, hc⟩ := h
  have HC := Lib.hid hc
  have HA := Lib.hid ha
  have HB := Lib.hid hb
  have HL := Lib.hid hlen
  have HT := Lib.hid hT
  have HM := Lib.hid hM
  clear hc ha hb hlen hT hM
  by_cases h4 : xs.length ≤ 4
  · have E := Lib.hid (show plB xs = (xs.all bkB && tgsB [] (xs.map Pr.tg)) by rw [E0.out, decide_eq_true h4]; rfl)
    have g1 : ¬ (4 < (xs.length : Int)) := by omega
    obtain ⟨i0, hi, hz0, hz1, hz2⟩ := info_parts Gr.Tryz.infoT
    have HTG := Lib.hid (fun (W' : World) (v' : Value) (h1 : TgIn (· < W'.heap.size) W' v' (xs.map Pr.tg)) h4 h5 => tgsI_any W'.heap.size W' (xs.map Pr.tg) v' h1 W' (Below.refl _ _) (Nat.le_refl _) h4 h5)
    go_enter Tryz.func64, Tryz.ntmps64
    go_wp2
    go_loopw [3, 11] (fun tv i wr => ∃ k : Nat, k ≤ xs.length ∧ i = .int .i64 k ∧ O3 wr W.heap.size tv ((xs.take k).map Pr.tg) ∧ (xs.take k).all bkB = true ∧ Below W.heap.size W wr) (fun _ i _ => xs.length - (intOf i).toNat)
    case atStart => exact ⟨0, by omega, rfl, O3.nil _ _, rfl, Below.refl _ _⟩
    case round =>
      obtain ⟨k, hk, rfl, hO, hA, hR⟩ := hrel
      have HO := Lib.hid hO
      have HALL := Lib.hid hA
      have HR := Lib.hid hR
      obtain ⟨at0, ct0, hv⟩ := hO.slice
      rw [show ((xs.take k).map Pr.tg).length = k by simp; omega] at hv
      subst hv
      clear hO hA hR
      by_cases hlt : k < xs.length
      · obtain ⟨ea, hlb⟩ := HA.out (by omega)
        subst ea
        have hW := HB.out.trans (HR.out.mono hB)
        obtain ⟨c0, c1, c2, c3, c4, c5⟩ := HC.out k hlt
        have q0 := (hW.cell (p := ⟨b, off + k * 6, none⟩) hlb).trans c0
        have q1 := (hW.cell (p := ⟨b, off + k * 6 + 1, none⟩) hlb).trans c1
        have q2 := (hW.cell (p := ⟨b, off + k * 6 + 2, none⟩) hlb).trans c2
        have q3 := (hW.cell (p := ⟨b, off + k * 6 + 3, none⟩) hlb).trans c3
        have q4 := (hW.cell (p := ⟨b, off + k * 6 + 4, none⟩) hlb).trans c4
        have q5 := (hW.cell (p := ⟨b, off + k * 6 + 5, none⟩) hlb).trans c5
        have HMT := Lib.hid (map_take k hlt)
        have HAT := Lib.hid (all_take k hlt)
        have HAN := Lib.hid (all_not k hlt)
        have hlk : ((xs.take k).map Pr.tg).length = k := by simp; omega
        clear c0 c1 c2 c3 c4 c5 hW
        generalize xs.getD k default = x at *
        obtain ⟨u, p, q, f, r, g⟩ := x
        have HBK := Lib.hid (fun W' => show Calls Tryz.prog 78 #[.agg #[.string ⟨u.toArray⟩, .int .i64 p, .int .i64 q, .int .i64 f, .int .i64 r, .bool g]] W' fun e w' => e = .returned (.bool (bkB ⟨u, p, q, f, r, g⟩)) ∧ Below W'.heap.size W' w' from backI_any ⟨u, p, q, f, r, g⟩ W')
        simp only at q0 q1 q2 q3 q4 q5
        generalize (xs.take k).map Pr.tg = ts at *
        generalize bkB ⟨u, p, q, f, r, g⟩ = b1 at *
        subst hlk
        obtain ⟨w1, hw1⟩ : ∃ w1, w1 = wr.alloc (ipO ⟨u, p, q, f, r, g⟩) := ⟨_, rfl⟩
        have H1 := Lib.hid (show Hd w1 wr.heap.size (ipO ⟨u, p, q, f, r, g⟩) by rw [hw1]; exact Hd.new _ _)
        have B1 := Lib.hid (show Below W.heap.size W w1 by rw [hw1]; exact belI_alloc HR.out)
        have O1 := Lib.hid (show O3 w1 W.heap.size (.slice at0 ts.length ct0) ts by rw [hw1]; exact HO.out.below ((Below.refl _ _).alloc (Nat.le_refl _) _))
        go_wp2_with fail
        rw [← hw1]
        clear hw1
        refine (HBK.out _).mono ?_
        rintro e w2 ⟨rfl, hb2⟩
        have H2 := Lib.hid (H1.out.blw hb2)
        have B2 := Lib.hid (belI_step B1.out hb2)
        have O2 := Lib.hid (O1.out.below hb2)
        obtain ⟨m0, m1, m2, m3, m4, m5, -⟩ := H2.out.six
        clear hb2 H1 B1 O1 q0 q1 q2 q3 q4 q5
        cases b1
        · go_wp2
          go_ret
          exact ⟨ret_b (by rw [E.out, HAN.out (by first | rfl | trivial)]; rfl), B2.out⟩
        · have hn2 : ts.length ≤ 4 := by omega
          have OA := Lib.hid (O2.out.below ((Below.refl w2.heap.size w2).alloc (Nat.le_refl _) (.cells #[.string ⟨u.toArray⟩, .int .i64 p, .int .i64 q] 55)))
          have BA := Lib.hid (belI_alloc (o := .cells #[.string ⟨u.toArray⟩, .int .i64 p, .int .i64 q] 55) B2.out)
          have z2 := B2.out.size
          go_wp2_with (at_builtin; refine App.wpList_app _ rfl _ _ 29 rfl W.heap.size 55 i0 _ 3 32 Tryz.underlying29 hi hz0 hz1 hz2 rfl (by omega) _ ts.length (tgC ts) rfl OA.out ⟨w2.heap.size, 0, none⟩ 1 _ [.string ⟨u.toArray⟩, .int .i64 p, .int .i64 q] rfl (by omega) rfl (one_row3 w2 _ _ _ _) (by intro u hu; simp at hu; rcases hu with rfl | rfl | rfl <;> rfl) (by omega) (by omega) (by simp; omega) ?_; intro l' w4 hown' hgrow hplace; have O4 := Lib.hid (show O3 w4 W.heap.size l' (ts ++ [⟨u, p, q⟩]) by unfold O3; rw [List.length_append, tgC_app]; exact hown'); have B4 := Lib.hid (show Below W.heap.size W w4 from BA.out.grown hgrow (by simp; omega) (fun g e => (World.ownsRow.lt OA.out g e).1)); obtain ⟨a7, c7, rfl⟩ := O4.out.slice; clear hown' hgrow hplace)
          go_roundw
          case rel => exact ⟨ts.length + 1, by omega, by go_num, by have := O4.out; rw [HMT.out]; simpa using this, by rw [HAT.out, HALL.out]; rfl, B4.out⟩
          case measure => simp [intOf]; omega
      · obtain rfl : k = xs.length := by omega
        have ht : xs.take xs.length = xs := List.take_length
        rw [ht] at HO HALL
        have HLM := Lib.hid (fun i (hi : i < (xs.map Pr.tg).length) => show ((xs.map Pr.tg).getD i default).url.length ≤ 9223372036854775807 by
          have hi' : i < xs.length := by simpa using hi
          have := HL.out i hi'
          simpa [hi'] using this)
        have HC2 := Lib.hid (HTG.out wr (.slice at0 xs.length ct0) ((HO.out.tg HLM.out).mono fun _ hb => hb.2) (HT.out.below HR.out) (HM.out.below HR.out))
        clear ht
        go_wp2_with fail
        refine HC2.out.mono ?_
        rintro e w2 ⟨rfl, hb2⟩
        have BF := Lib.hid (belI_step HR.out hb2)
        clear hb2
        go_wp2
        go_ret
        exact ⟨ret_b (by rw [E.out, HALL.out]; rfl), BF.out⟩
  · have E := Lib.hid (show plB xs = false by rw [E0.out, decide_eq_false h4]; rfl)
    have g1 : (4 < (xs.length : Int)) := by omega
    go_enter Tryz.func64, Tryz.ntmps64
    go_wp2
    go_ret
    exact ⟨ret_b E.out.symm, Below.refl _ _⟩
end Go.Proofs.YtakiigddbdapaaaGreatDoor.Pe
