
/-
  PeerFails, PeerWorks, PeerGone: what they answer, plainly; the model's, walked.
-/
import Derived.Test.YtakiigddbdapaaaGreatDoorPeP
import Derived.Test.YtakiigddbdapaaaGreatDoorPeQ
namespace Go.Proofs.YtakiigddbdapaaaGreatDoor.Pe
open Go.RowKit
open Go.Proofs.YtakiigddbdapaaaGreatDoor.Gr (belI_step belI_alloc ret_b ret_i)
open Go.Proofs.YtakiigddbdapaaaGreatDoor.Ul (in_any)
open Go.Proofs.YtakiigddbdapaaaGreatDoor.Mk
open Go.Proofs.YtakiigddbdapaaaGreatDoor.Pw (waF waS_any waF_le)
def askC (xs : List Pr) (k : Int) : Int := if 4096 < xs.length then 2 else if plB xs = true then (if 0 ≤ k ∧ k < xs.length then 0 else 5) else 1
def failP (x : Pr) (now : Int) : Pr := { x with fails := min (x.fails + 1) 1000000, retry := now + waF (min (x.fails + 1) 1000000) }
def workP (x : Pr) : Pr := { x with fails := 0, retry := 0 }
def goneP (x : Pr) : Pr := { x with gone := true }
def pfC (xs : List Pr) (k now : Int) : Int := if askC xs k = 0 then (if nwB now = true then 0 else 4) else askC xs k
def pfR (xs : List Pr) (k now : Int) : List Pr := if pfC xs k now = 0 then xs.set k.toNat (failP (xs.getD k.toNat default) now) else []
def pwR (xs : List Pr) (k : Int) : List Pr := if askC xs k = 0 then xs.set k.toNat (workP (xs.getD k.toNat default)) else []
def pgC (xs : List Pr) (k : Int) : Int := if askC xs k = 0 then (if (xs.getD k.toNat default).gone = true then 15 else 0) else askC xs k
def pgR (xs : List Pr) (k : Int) : List Pr := if askC xs k = 0 then (if (xs.getD k.toNat default).gone = true then xs else xs.set k.toNat (goneP (xs.getD k.toNat default))) else []
def NewL (W : World) (R : List Pr) (C : Int) (e : Ending) (w' : World) : Prop := ∃ v, e = .returned (.tuple #[v, .int .i64 C]) ∧ O6 w' W.heap.size v R ∧ Below W.heap.size W w'
theorem newL_nil {W w' : World} {R : List Pr} {C D : Int} (hR : R = []) (hC : C = D) (hb : Below W.heap.size W w') : NewL W R C (.returned (.tuple #[.slice none 0 0, .int .i64 D])) w' := by
  subst hR hC; exact ⟨_, rfl, O6.nil _ _, hb⟩
theorem askC_at {xs : List Pr} {k : Int} (h : askC xs k = 0) : plB xs = true ∧ 0 ≤ k ∧ k < xs.length := by
  unfold askC at h
  split at h
  · omega
  · split at h
    · split at h
      · exact ⟨by assumption, by assumption⟩
      · omega
    · omega
set_option maxRecDepth 100000 in
set_option maxHeartbeats 2000000 in
theorem askS_any (B : Nat) (w0 : World) (xs : List Pr) (v : Value) (h : PrIn (· < B) w0 v xs) (hl : ∀ i, i < xs.length → (xs.getD i default).url.length ≤ 1048576) (k : Int) (W : World) (hb : Below B w0 W) (hB : B ≤ W.heap.size) :
    Calls Tryz.prog 48 #[v, .int .i64 k] W fun e w' => e = .returned (.int .i64 (askC xs k)) ∧ Below W.heap.size W w' := by
  have HK := Lib.hid (okS_any B w0 xs v h hl W hb hB)
  obtain ⟨a, c, rfl⟩ := h.slice2
  have hcap : (xs.length : Int) ≤ 9223372036854775807 := by
    obtain ⟨_, _, _, _, e, h1, h2, _⟩ := h
    omega
  clear h hb hl
  unfold askC
  by_cases h1 : 4096 < xs.length
  · have g1 : (4096 : Int) < (xs.length : Int) := by omega
    rw [if_pos h1]
    go_enter Tryz.func48, Tryz.ntmps48
    go_wp2
    go_ret
    exact ⟨rfl, Below.refl _ _⟩
  · have g1 : ¬ ((4096 : Int) < (xs.length : Int)) := by omega
    rw [if_neg h1]
    obtain ⟨p, hp⟩ : ∃ p, plB xs = p := ⟨_, rfl⟩
    rw [hp] at HK ⊢
    clear hp
    cases p
    · go_enter Tryz.func48, Tryz.ntmps48
      go_wp2_with fail
      refine HK.out.mono ?_
      rintro e w1 ⟨rfl, hb1⟩
      go_wp2
      go_ret
      exact ⟨rfl, hb1⟩
    · have HI := Lib.hid (fun W' => show Calls Tryz.prog 40 #[.int .i64 k, .int .i64 0, .int .i64 ((xs.length : Int) - 1)] W' fun e w' => e = .returned (.bool (decide (0 ≤ k ∧ k < xs.length))) ∧ W' = w' by
        have := in_any k 0 ((xs.length : Int) - 1) W'
        rw [show decide (0 ≤ k ∧ k ≤ (xs.length : Int) - 1) = decide (0 ≤ k ∧ k < (xs.length : Int)) by rw [decide_eq_decide]; omega] at this
        exact this)
      have w1 : IntKind.i64.wrap ((xs.length : Int) - 1) = (xs.length : Int) - 1 := IntWalk.i64_in _ (by omega)
      by_cases h2 : 0 ≤ k ∧ k < (xs.length : Int)
      · rw [if_pos rfl, if_pos h2]
        rw [decide_eq_true h2] at HI
        go_enter Tryz.func48, Tryz.ntmps48
        go_wp2_with fail
        refine HK.out.mono ?_
        rintro e w1 ⟨rfl, hb1⟩
        go_wp2_with fail
        refine (HI.out _).mono ?_
        rintro e _ ⟨rfl, rfl⟩
        go_wp2
        go_ret
        exact ⟨rfl, hb1⟩
      · rw [if_pos rfl, if_neg h2]
        rw [decide_eq_false h2] at HI
        go_enter Tryz.func48, Tryz.ntmps48
        go_wp2_with fail
        refine HK.out.mono ?_
        rintro e w1 ⟨rfl, hb1⟩
        go_wp2_with fail
        refine (HI.out _).mono ?_
        rintro e _ ⟨rfl, rfl⟩
        go_wp2
        go_ret
        exact ⟨rfl, hb1⟩
set_option maxRecDepth 100000 in
set_option maxHeartbeats 2000000 in
theorem failsS_in (B : Nat) (w0 : World) (xs : List Pr) (v : Value) (h : PrIn (· < B) w0 v xs) (hsz : xs.length ≤ 1048576) (k : Nat) (hk : k < xs.length) (hf : 0 ≤ (xs.getD k default).fails ∧ (xs.getD k default).fails ≤ 1000000) (now : Int) (hn : 0 ≤ now ∧ now ≤ 1000000) (W : World) (hb : Below B w0 W) (hB : B ≤ W.heap.size) :
    Calls Tryz.prog 49 #[v, .int .i64 (k : Int), .int .i64 now] W (NewPrs W (xs.set k (failP (xs.getD k default) now))) := by
  have HP := Lib.hid (fun (y : Pr) (W' : World) h1 h2 => putS_any B w0 xs v h hsz k hk y W' h1 h2)
  obtain ⟨a, cap, b, off, rfl, hcap, hm, -, ha, hc⟩ := h
  obtain ⟨ea, hlb⟩ := ha (by omega)
  subst ea
  obtain ⟨c0, c1, c2, c3, c4, c5⟩ := hc k hk
  have q0 := (hb.cell (p := ⟨b, off + k * 6, none⟩) hlb).trans c0
  have q1 := (hb.cell (p := ⟨b, off + k * 6 + 1, none⟩) hlb).trans c1
  have q2 := (hb.cell (p := ⟨b, off + k * 6 + 2, none⟩) hlb).trans c2
  have q3 := (hb.cell (p := ⟨b, off + k * 6 + 3, none⟩) hlb).trans c3
  have q4 := (hb.cell (p := ⟨b, off + k * 6 + 4, none⟩) hlb).trans c4
  have q5 := (hb.cell (p := ⟨b, off + k * 6 + 5, none⟩) hlb).trans c5
  have HB := Lib.hid hb
  clear c0 c1 c2 c3 c4 c5 hc ha hb
  generalize xs.getD k default = x at *
  obtain ⟨u, p, q, f, r, g⟩ := x
  simp only at hf q0 q1 q2 q3 q4 q5
  have hmin : min (f + 1) 1000000 ≤ 1000000 ∧ 1 ≤ min (f + 1) 1000000 := by omega
  obtain ⟨f2, hf2⟩ : ∃ z, min (f + 1) 1000000 = z := ⟨_, rfl⟩
  rw [hf2] at hmin
  have HW := Lib.hid (fun W' => waS_any f2 hmin.2 (by omega) W')
  have hwl := waF_le f2
  have HEQ := Lib.hid (show failP ⟨u, p, q, f, r, g⟩ now = ⟨u, p, q, f2, now + waF f2, g⟩ by unfold failP; simp only; rw [hf2])
  rw [HEQ.out]
  clear HEQ
  generalize waF f2 = wt at *
  have HPY := Lib.hid (fun W' h1 h2 => show Calls Tryz.prog 67 #[.slice (some ⟨b, off, none⟩) xs.length cap, .int .i64 (k : Int), .agg #[.string ⟨u.toArray⟩, .int .i64 p, .int .i64 q, .int .i64 f2, .int .i64 (now + wt), .bool g]] W' (NewPrs W' (xs.set k ⟨u, p, q, f2, now + wt, g⟩)) from HP.out ⟨u, p, q, f2, now + wt, g⟩ W' h1 h2)
  clear HP
  obtain ⟨w1, hw1⟩ : ∃ w1, w1 = W.alloc (ipO ⟨u, p, q, f, r, g⟩) := ⟨_, rfl⟩
  have H1 := Lib.hid (show Hd w1 W.heap.size (ipO ⟨u, p, q, f, r, g⟩) by rw [hw1]; exact Hd.new _ _)
  have B1 := Lib.hid (show Below W.heap.size W w1 by rw [hw1]; exact (Below.refl _ _).alloc (Nat.le_refl _) _)
  go_enter Tryz.func49, Tryz.ntmps49
  go_upto_region 2 with fail
  rw [← hw1]
  clear hw1
  obtain ⟨m0, m1, m2, m3, m4, m5, mf⟩ := H1.out.six
  clear q0 q1 q2 q3 q4 q5
  go_upto_region 4 with (refine (HW.out _).mono ?_; rintro e _ ⟨rfl, rfl⟩)
  obtain ⟨w2, hw2⟩ : ∃ w2, w2 = (w1.setCell ⟨W.heap.size, 3, none⟩ (.int .i64 f2)).setCell ⟨W.heap.size, 4, none⟩ (.int .i64 (now + wt)) := ⟨_, rfl⟩
  have H2 := Lib.hid (show Hd w2 W.heap.size (ipO ⟨u, p, q, f2, now + wt, g⟩) by rw [hw2]; exact Gr.heap_set (Gr.heap_set H1.out 3 (.int .i64 f2)) 4 (.int .i64 (now + wt)))
  have B2 := Lib.hid (show Below W.heap.size W w2 by rw [hw2]; exact (B1.out.setCell (p := ⟨W.heap.size, 3, none⟩) (Nat.le_refl _) _).setCell (p := ⟨W.heap.size, 4, none⟩) (Nat.le_refl _) _)
  rw [← hw2]
  clear hw2 m0 m1 m2 m3 m4 m5 mf
  obtain ⟨m0, m1, m2, m3, m4, m5, mf⟩ := H2.out.six
  go_wp2_with fail
  refine (HPY.out w2 (HB.out.trans (B2.out.mono hB)) (Nat.le_trans hB B2.out.size)).mono ?_
  rintro e w3 ⟨v3, rfl, ho3, hb3⟩
  have HF := Lib.hid (show NewPrs W (xs.set k ⟨u, p, q, f2, now + wt, g⟩) (.returned v3) w3 from ⟨_, rfl, ho3.base B2.out.size, below_chain B2.out hb3⟩)
  obtain ⟨a3, c3, rfl⟩ := ho3.slice
  rw [List.length_set] at HF
  clear ho3 hb3
  go_wp2
  go_ret
  exact HF.out
set_option maxRecDepth 100000 in
set_option maxHeartbeats 2000000 in
theorem worksS_in (B : Nat) (w0 : World) (xs : List Pr) (v : Value) (h : PrIn (· < B) w0 v xs) (hsz : xs.length ≤ 1048576) (k : Nat) (hk : k < xs.length) (W : World) (hb : Below B w0 W) (hB : B ≤ W.heap.size) :
    Calls Tryz.prog 52 #[v, .int .i64 (k : Int)] W (NewPrs W (xs.set k (workP (xs.getD k default)))) := by
  have HP := Lib.hid (fun (y : Pr) (W' : World) h1 h2 => putS_any B w0 xs v h hsz k hk y W' h1 h2)
  obtain ⟨a, cap, b, off, rfl, hcap, hm, -, ha, hc⟩ := h
  obtain ⟨ea, hlb⟩ := ha (by omega)
  subst ea
  obtain ⟨c0, c1, c2, c3, c4, c5⟩ := hc k hk
  have q0 := (hb.cell (p := ⟨b, off + k * 6, none⟩) hlb).trans c0
  have q1 := (hb.cell (p := ⟨b, off + k * 6 + 1, none⟩) hlb).trans c1
  have q2 := (hb.cell (p := ⟨b, off + k * 6 + 2, none⟩) hlb).trans c2
  have q3 := (hb.cell (p := ⟨b, off + k * 6 + 3, none⟩) hlb).trans c3
  have q4 := (hb.cell (p := ⟨b, off + k * 6 + 4, none⟩) hlb).trans c4
  have q5 := (hb.cell (p := ⟨b, off + k * 6 + 5, none⟩) hlb).trans c5
  have HB := Lib.hid hb
  clear c0 c1 c2 c3 c4 c5 hc ha hb
  generalize xs.getD k default = x at *
  obtain ⟨u, p, q, f, r, g⟩ := x
  simp only at q0 q1 q2 q3 q4 q5
  rw [show workP ⟨u, p, q, f, r, g⟩ = ⟨u, p, q, 0, 0, g⟩ from rfl]
  have HPY := Lib.hid (fun W' h1 h2 => show Calls Tryz.prog 67 #[.slice (some ⟨b, off, none⟩) xs.length cap, .int .i64 (k : Int), .agg #[.string ⟨u.toArray⟩, .int .i64 p, .int .i64 q, .int .i64 0, .int .i64 0, .bool g]] W' (NewPrs W' (xs.set k ⟨u, p, q, 0, 0, g⟩)) from HP.out ⟨u, p, q, 0, 0, g⟩ W' h1 h2)
  clear HP
  obtain ⟨w1, hw1⟩ : ∃ w1, w1 = W.alloc (ipO ⟨u, p, q, f, r, g⟩) := ⟨_, rfl⟩
  have H1 := Lib.hid (show Hd w1 W.heap.size (ipO ⟨u, p, q, f, r, g⟩) by rw [hw1]; exact Hd.new _ _)
  have B1 := Lib.hid (show Below W.heap.size W w1 by rw [hw1]; exact (Below.refl _ _).alloc (Nat.le_refl _) _)
  go_enter Tryz.func52, Tryz.ntmps52
  go_upto_region 2 with fail
  rw [← hw1]
  clear hw1
  obtain ⟨m0, m1, m2, m3, m4, m5, mf⟩ := H1.out.six
  clear q0 q1 q2 q3 q4 q5
  go_upto_region 4 with fail
  obtain ⟨w2, hw2⟩ : ∃ w2, w2 = (w1.setCell ⟨W.heap.size, 3, none⟩ (.int .i64 0)).setCell ⟨W.heap.size, 4, none⟩ (.int .i64 0) := ⟨_, rfl⟩
  have H2 := Lib.hid (show Hd w2 W.heap.size (ipO ⟨u, p, q, 0, 0, g⟩) by rw [hw2]; exact Gr.heap_set (Gr.heap_set H1.out 3 (.int .i64 0)) 4 (.int .i64 0))
  have B2 := Lib.hid (show Below W.heap.size W w2 by rw [hw2]; exact (B1.out.setCell (p := ⟨W.heap.size, 3, none⟩) (Nat.le_refl _) _).setCell (p := ⟨W.heap.size, 4, none⟩) (Nat.le_refl _) _)
  rw [← hw2]
  clear hw2 m0 m1 m2 m3 m4 m5 mf
  obtain ⟨m0, m1, m2, m3, m4, m5, mf⟩ := H2.out.six
  go_wp2_with fail
  refine (HPY.out w2 (HB.out.trans (B2.out.mono hB)) (Nat.le_trans hB B2.out.size)).mono ?_
  rintro e w3 ⟨v3, rfl, ho3, hb3⟩
  have HF := Lib.hid (show NewPrs W (xs.set k ⟨u, p, q, 0, 0, g⟩) (.returned v3) w3 from ⟨_, rfl, ho3.base B2.out.size, below_chain B2.out hb3⟩)
  obtain ⟨a3, c3, rfl⟩ := ho3.slice
  rw [List.length_set] at HF
  clear ho3 hb3
  go_wp2
  go_ret
  exact HF.out
set_option maxRecDepth 100000 in
set_option maxHeartbeats 2000000 in
theorem leaveS_in (B : Nat) (w0 : World) (xs : List Pr) (v : Value) (h : PrIn (· < B) w0 v xs) (hsz : xs.length ≤ 1048576) (k : Nat) (hk : k < xs.length) (W : World) (hb : Below B w0 W) (hB : B ≤ W.heap.size) :
    Calls Tryz.prog 53 #[v, .int .i64 (k : Int)] W (NewPrs W (xs.set k (goneP (xs.getD k default)))) := by
  have HP := Lib.hid (fun (y : Pr) (W' : World) h1 h2 => putS_any B w0 xs v h hsz k hk y W' h1 h2)
  obtain ⟨a, cap, b, off, rfl, hcap, hm, -, ha, hc⟩ := h
  obtain ⟨ea, hlb⟩ := ha (by omega)
  subst ea
  obtain ⟨c0, c1, c2, c3, c4, c5⟩ := hc k hk
  have q0 := (hb.cell (p := ⟨b, off + k * 6, none⟩) hlb).trans c0
  have q1 := (hb.cell (p := ⟨b, off + k * 6 + 1, none⟩) hlb).trans c1
  have q2 := (hb.cell (p := ⟨b, off + k * 6 + 2, none⟩) hlb).trans c2
  have q3 := (hb.cell (p := ⟨b, off + k * 6 + 3, none⟩) hlb).trans c3
  have q4 := (hb.cell (p := ⟨b, off + k * 6 + 4, none⟩) hlb).trans c4
  have q5 := (hb.cell (p := ⟨b, off + k * 6 + 5, none⟩) hlb).trans c5
  have HB := Lib.hid hb
  clear c0 c1 c2 c3 c4 c5 hc ha hb
  generalize xs.getD k default = x at *
  obtain ⟨u, p, q, f, r, g⟩ := x
  simp only at q0 q1 q2 q3 q4 q5
  rw [show goneP ⟨u, p, q, f, r, g⟩ = ⟨u, p, q, f, r, true⟩ from rfl]
  have HPY := Lib.hid (fun W' h1 h2 => show Calls Tryz.prog 67 #[.slice (some ⟨b, off, none⟩) xs.length cap, .int .i64 (k : Int), .agg #[.string ⟨u.toArray⟩, .int .i64 p, .int .i64 q, .int .i64 f, .int .i64 r, .bool true]] W' (NewPrs W' (xs.set k ⟨u, p, q, f, r, true⟩)) from HP.out ⟨u, p, q, f, r, true⟩ W' h1 h2)
  clear HP
  obtain ⟨w1, hw1⟩ : ∃ w1, w1 = W.alloc (ipO ⟨u, p, q, f, r, g⟩) := ⟨_, rfl⟩
  have H1 := Lib.hid (show Hd w1 W.heap.size (ipO ⟨u, p, q, f, r, g⟩) by rw [hw1]; exact Hd.new _ _)
  have B1 := Lib.hid (show Below W.heap.size W w1 by rw [hw1]; exact (Below.refl _ _).alloc (Nat.le_refl _) _)
  go_enter Tryz.func53, Tryz.ntmps53
  go_upto_region 2 with fail
  rw [← hw1]
  clear hw1
  obtain ⟨m0, m1, m2, m3, m4, m5, mf⟩ := H1.out.six
  clear q0 q1 q2 q3 q4 q5
  go_upto_region 3 with fail
  obtain ⟨w2, hw2⟩ : ∃ w2, w2 = w1.setCell ⟨W.heap.size, 5, none⟩ (.bool true) := ⟨_, rfl⟩
  have H2 := Lib.hid (show Hd w2 W.heap.size (ipO ⟨u, p, q, f, r, true⟩) by rw [hw2]; exact Gr.heap_set H1.out 5 (.bool true))
  have B2 := Lib.hid (show Below W.heap.size W w2 by rw [hw2]; exact B1.out.setCell (p := ⟨W.heap.size, 5, none⟩) (Nat.le_refl _) _)
  rw [← hw2]
  clear hw2 m0 m1 m2 m3 m4 m5 mf
  obtain ⟨m0, m1, m2, m3, m4, m5, mf⟩ := H2.out.six
  go_wp2_with fail
  refine (HPY.out w2 (HB.out.trans (B2.out.mono hB)) (Nat.le_trans hB B2.out.size)).mono ?_
  rintro e w3 ⟨v3, rfl, ho3, hb3⟩
  have HF := Lib.hid (show NewPrs W (xs.set k ⟨u, p, q, f, r, true⟩) (.returned v3) w3 from ⟨_, rfl, ho3.base B2.out.size, below_chain B2.out hb3⟩)
  obtain ⟨a3, c3, rfl⟩ := ho3.slice
  rw [List.length_set] at HF
  clear ho3 hb3
  go_wp2
  go_ret
  exact HF.out
end Go.Proofs.YtakiigddbdapaaaGreatDoor.Pe
