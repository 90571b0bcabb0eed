
/-
  readList, walked.
-/
import Derived.Test.YtjakkmjipglkiaaDoorRdF
namespace Go.Proofs.YtjakkmjipglkiaaDoor.Rd
open Go.RowKit
open Go.Proofs.YtjakkmjipglkiaaDoor.Rm
open Go.Proofs.YtjakkmjipglkiaaDoor.Js (J VIn VLn)
theorem vs_row {D : Nat → Prop} {base : Nat} {w : World} {lv : Value} {vals : List Value} {xs : List J} (ho : w.ownsRow base 33 1 lv xs.length vals) (hv : Vs D base w vals xs) : VLn (fun b => base ≤ b ∧ b < w.heap.size) w lv xs := by
  obtain ⟨hl, ho⟩ := ho
  have hvl := hv.len
  rcases ho with ⟨rfl, h0⟩ | ⟨g, cap, cur, rfl, hg, hblk, hcap, hmc, hcs, htk⟩
  · exact ⟨none, 0, 0, 0, fun i => vals.getD i undef, by rw [h0], by omega, by omega, fun hp => by omega, fun i hi => by omega, fun i hi => by omega⟩
  · refine ⟨some ⟨g, 0, none⟩, cap, g, 0, fun i => vals.getD i undef, rfl, hcap, hmc, fun hp => ⟨rfl, hg, ?_⟩, fun i hi => ?_, fun i hi => ?_⟩
    · rcases Nat.lt_or_ge g w.heap.size with h' | h'
      · exact h'
      · simp [Array.getElem?_eq_none h'] at hblk
    · rw [Nat.zero_add, cell_of_row w g i _ _ _ hblk]
      have hi2 : i < cur.size := by omega
      have e1 : cur.toList.take (xs.length * 1) = vals := htk
      have hv : vals.getD i undef = cur.toList[i]'(by simpa using hi2) := by rw [← e1]; simp [List.getD, hi, hi2]
      simp only [hv]
      simp [hi2]
    · exact (hv.at_ i hi).mono' fun b hb => ⟨hb.1, hb.2.1⟩
theorem vs_list {D : Nat → Prop} {base : Nat} {w : World} {lv : Value} {vals : List Value} {xs : List J} (ho : w.ownsRow base 33 1 lv xs.length vals) (hv : Vs D base w vals xs) : VIn (fun b => base ≤ b ∧ b < w.heap.size) w (.iface 57 lv) (.mk 5 0 [] [] xs) := (vs_row ho hv).value
theorem ls_fin {R Br Bo L : Nat} {oi : Int} {W0 w : World} {xs : List J} {rs : B} (h : LS R Br Bo L oi W0 xs rs w) {lv : Value} (hl : Hd w L (.cells #[lv] 57)) : VIn (fun b => W0.heap.size ≤ b ∧ b < w.heap.size) w (.iface 57 lv) (.mk 5 0 [] [] xs) := by
  obtain ⟨lv', vals, h1, h2, h3⟩ := h.li
  have e : lv' = lv := by
    unfold Hd at h1 hl
    rw [h1] at hl
    simp only [Option.some.injEq, Obj.cells.injEq] at hl
    have := hl.1
    simpa using this
  subst e
  exact vs_list h2 h3
set_option maxRecDepth 100000 in
set_option maxHeartbeats 1000000 in
theorem items_deep (R : Nat) (p : B) (oi : Int) (f : Value) (w : World) (hoi : 4 ≤ oi) : Calls Tryd.prog 38 #[ptI R, .string ⟨p.toArray⟩, .int .i64 oi, f] w fun e w' => e = .returned (.int .i64 12) ∧ w = w' := by
  have g4 : decide ((4 : Int) ≤ oi) = true := by simpa using hoi
  go_enter Tryd.func38, Tryd.ntmps38
  go_wp2
  go_ret
  exact ⟨rfl, rfl⟩
set_option maxRecDepth 100000 in
set_option maxHeartbeats 4000000 in
theorem listI_deep (R : Nat) (oi : Int) (rs : B) (W0 : World) (h : Hd W0 R (rdO rs)) (hoi : 4 ≤ oi) (r : B) (j : J) : Calls Tryd.prog 23 #[ptI R, .int .i64 oi] W0 (ValP R W0 (12, j, r)) := by
  have HD := Lib.hid (fun f w => items_deep R [93] oi f w hoi)
  have H := Lib.hid h
  have hlt := h.lt
  clear h
  go_enter Tryd.func23, Tryd.ntmps23
  go_wp2_with fail
  refine (HD.out _ _).mono ?_
  rintro e w1 ⟨rfl, rfl⟩
  go_wp2
  go_ret2
  exact ⟨_, rs, rfl, (fun h => by cases h), .inr ⟨_, _, rfl⟩, ((((H.out.al _).al _).al _).al _), ((((Ch.refl _ _).alloc _).alloc _).alloc _).alloc _⟩
set_option maxRecDepth 100000 in
set_option maxHeartbeats 4000000 in
theorem listI_any (R : Nat) (oi : Int) (hoi : 0 ≤ oi ∧ oi < 4) (rd : B → Int × J × B) (hrl : ∀ bs, (rd bs).2.2.length ≤ bs.length) (hrd : RdV R (oi + 1) rd) (rs : B) (W0 : World) (h : Hd W0 R (rdO rs)) (hl : rs.length ≤ 65536) (hs : SynV W0) (hRg : R ≠ 2) :
    Calls Tryd.prog 23 #[ptI R, .int .i64 oi] W0 (ValP R W0 ((bodyR rd false 93 rs).1, .mk 5 0 [] [] (bodyR rd false 93 rs).2.1.2, (bodyR rd false 93 rs).2.2)) := by
  have hlt := h.lt
  have HI := Lib.hid (fun w h => listI_items R W0.heap.size (W0.heap.size + 1) (W0.heap.size + 1 + 1 + 1) oi hoi rd hrl W0 hrd hs hRg hlt (Nat.le_refl _) (by omega) (by omega) (by omega) (by omega) rs w hl h _ rfl)
  have HS0 := Lib.hid (show LS R W0.heap.size (W0.heap.size + 1) (W0.heap.size + 1 + 1 + 1) oi W0 [] rs ((((W0.alloc (.cells #[ptI R] 45)).alloc (.cells #[.int .i64 oi] 3)).alloc (.cells #[] 33)).alloc (.cells #[.slice (some ⟨W0.heap.size + 1 + 1, 0, none⟩) 0 0] 57)) from by
    have e1 : (W0.alloc (.cells #[ptI R] 45)).heap.size = W0.heap.size + 1 := by simp
    have e2 : ((W0.alloc (.cells #[ptI R] 45)).alloc (.cells #[.int .i64 oi] 3)).heap.size = W0.heap.size + 1 + 1 := by simp
    have e3 : (((W0.alloc (.cells #[ptI R] 45)).alloc (.cells #[.int .i64 oi] 3)).alloc (.cells #[] 33)).heap.size = W0.heap.size + 1 + 1 + 1 := by simp
    refine ⟨(((h.al _).al _).al _).al _, (((Hd.new W0 _).al _).al _).al _, ?_, ⟨.slice (some ⟨W0.heap.size + 1 + 1, 0, none⟩) 0 0, [], ?_, ?_, Vs.nil _ _ _⟩, ((((Ch.refl _ _).alloc _).alloc _).alloc _).alloc _⟩
    · have := ((Hd.new (W0.alloc (.cells #[ptI R] 45)) (.cells #[.int .i64 oi] 3)).al (.cells #[] 33)).al (.cells #[.slice (some ⟨W0.heap.size + 1 + 1, 0, none⟩) 0 0] 57)
      rw [e1] at this
      exact this
    · have := Hd.new (((W0.alloc (.cells #[ptI R] 45)).alloc (.cells #[.int .i64 oi] 3)).alloc (.cells #[] 33)) (.cells #[.slice (some ⟨W0.heap.size + 1 + 1, 0, none⟩) 0 0] 57)
      rw [e3] at this
      exact this
    · have := (World.ownsRow_made (base := W0.heap.size) (e := 33) (size := 1) ((W0.alloc (.cells #[ptI R] 45)).alloc (.cells #[.int .i64 oi] 3)) #[] 0 (by omega) (by unfold maxLen; omega) rfl).alloc (.cells #[.slice (some ⟨W0.heap.size + 1 + 1, 0, none⟩) 0 0] 57)
      rw [e2] at this
      exact this)
  clear h hs hrd hrl
  generalize bodyR rd false 93 rs = res at *
  go_enter Tryd.func23, Tryd.ntmps23
  go_wp2_with fail
  refine (HI.out _ HS0.out).mono ?_
  rintro e w1 ⟨rfl, hls, hle⟩
  obtain ⟨⟨rs', hr⟩, ⟨lv, hlv⟩, hch⟩ := hle
  obtain ⟨l0, -⟩ := hlv.one
  have HF := Lib.hid (show ValP R W0 (res.1, .mk 5 0 [] [] res.2.1.2, res.2.2) (.returned (.tuple #[.iface 57 lv, .int .i64 res.1])) w1 from by
    by_cases h0 : res.1 = 0
    · have h1 := hls h0
      exact ⟨_, _, rfl, fun _ => ⟨rfl, ls_fin h1 hlv⟩, .inr ⟨_, _, rfl⟩, h1.rd, hch⟩
    · exact ⟨_, rs', rfl, fun h => absurd h h0, .inr ⟨_, _, rfl⟩, hr, hch⟩)
  clear hls hr hlv hch
  go_wp2
  go_ret2
  exact HF.out
end Go.Proofs.YtjakkmjipglkiaaDoor.Rd
