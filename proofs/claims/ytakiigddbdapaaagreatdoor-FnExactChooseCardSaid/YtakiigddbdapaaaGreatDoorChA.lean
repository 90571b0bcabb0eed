
/-
  Choose, plainly: the least priority of those ready, the model's first loop, the two agree. isReady of the program, l07Ready of the model, leastPriority, walked.
-/
import Derived.Test.YtakiigddbdapaaaGreatDoorPeK
namespace Go.Proofs.YtakiigddbdapaaaGreatDoor.Pe
open Go.RowKit
open Go.Proofs.YtakiigddbdapaaaGreatDoor.Gr (belI_step belI_alloc ret_b ret_i)
open Go.Proofs.YtakiigddbdapaaaGreatDoor.Mk
def rdy (now : Int) (x : Pr) : Bool := !x.gone && decide (x.retry ≤ now)
def ls (now : Int) : Int → List Pr → Int
  | l, [] => l
  | l, x :: r => ls now (if rdy now x && (l == 0 || decide (x.pri < l)) then x.pri else l) r
def c1 (now b sm : Int) (x : Pr) : Int × Int :=
  if !rdy now x || (decide (0 < sm) && decide (b < x.pri)) then (b, sm) else if sm == 0 || decide (x.pri < b) then (x.pri, x.wt) else (b, sm + x.wt)
def ch1 (now : Int) : Int → Int → List Pr → Int × Int
  | b, sm, [] => (b, sm)
  | b, sm, x :: r => ch1 now (c1 now b sm x).1 (c1 now b sm x).2 r
/-- the weights of those ready at a priority -/
def wS (now b : Int) : List Pr → Int
  | [] => 0
  | x :: r => (if rdy now x && (x.pri == b) then x.wt else 0) + wS now b r
theorem ls_drop {xs : List Pr} (now l : Int) (k : Nat) (hx : k < xs.length) : ls now l (xs.drop k) = ls now (if rdy now (xs.getD k default) && (l == 0 || decide ((xs.getD k default).pri < l)) then (xs.getD k default).pri else l) (xs.drop (k + 1)) := by
  rw [List.drop_eq_getElem_cons hx, ls]; simp [hx]
theorem ch1_drop {xs : List Pr} (now b sm : Int) (k : Nat) (hx : k < xs.length) : ch1 now b sm (xs.drop k) = ch1 now (c1 now b sm (xs.getD k default)).1 (c1 now b sm (xs.getD k default)).2 (xs.drop (k + 1)) := by
  rw [List.drop_eq_getElem_cons hx, ch1]; simp [hx]
set_option maxRecDepth 100000 in
theorem rdyI_any (x : Pr) (now : Int) (W : World) : Calls Tryz.prog 46 #[pV x, .int .i64 now] W fun e w' => e = .returned (.bool (rdy now x)) ∧ Below W.heap.size W w' := by
  obtain ⟨u, p, q, f, r, g⟩ := x
  have HF := Lib.hid ((Below.refl W.heap.size W).alloc (Nat.le_refl _) (.cells #[.string ⟨u.toArray⟩, .int .i64 p, .int .i64 q, .int .i64 f, .int .i64 r, .bool g] 57))
  cases g
  · by_cases h : r ≤ now
    all_goals
      go_enter Tryz.func46, Tryz.ntmps46
      go_wp2
      go_ret
      exact ⟨ret_b (by simp [rdy, h]), HF.out⟩
  · go_enter Tryz.func46, Tryz.ntmps46
    go_wp2
    go_ret
    exact ⟨ret_b (by simp [rdy]), HF.out⟩
set_option maxRecDepth 100000 in
theorem rdyS_any (x : Pr) (now : Int) (W : World) : Calls Tryz.prog 63 #[pV x, .int .i64 now] W fun e w' => e = .returned (.bool (rdy now x)) ∧ Below W.heap.size W w' := by
  obtain ⟨u, p, q, f, r, g⟩ := x
  have HF := Lib.hid ((Below.refl W.heap.size W).alloc (Nat.le_refl _) (.cells #[.string ⟨u.toArray⟩, .int .i64 p, .int .i64 q, .int .i64 f, .int .i64 r, .bool g] 57))
  cases g
  · by_cases h : r ≤ now
    all_goals
      go_enter Tryz.func63, Tryz.ntmps63
      go_wp2
      go_ret
      exact ⟨ret_b (by simp [rdy, h]), HF.out⟩
  · go_enter Tryz.func63, Tryz.ntmps63
    go_wp2
    go_ret
    exact ⟨ret_b (by simp [rdy]), HF.out⟩
set_option maxRecDepth 100000 in
set_option maxHeartbeats 2000000 in
theorem leastI_any (B : Nat) (w0 : World) (xs : List Pr) (v : Value) (h : PrIn (· < B) w0 v xs) (now : Int) (W : World) (hb : Below B w0 W) (hB : B ≤ W.heap.size) :
    Calls Tryz.prog 45 #[v, .int .i64 now] W fun e w' => e = .returned (.int .i64 (ls now 0 xs)) ∧ Below W.heap.size W w' := by
  obtain ⟨a, cap, b, off, rfl, hcap, hmx, -, ha, hc⟩ := h
  have HC := Lib.hid hc
  have HA := Lib.hid ha
  have HB := Lib.hid hb
  have HR0 := Lib.hid (fun (x : Pr) (W' : World) => rdyI_any x now W')
  have HLX := Lib.hid (show xs.length ≤ 9223372036854775807 by omega)
  clear hc ha hb
  go_enter Tryz.func45, Tryz.ntmps45
  go_wp2
  go_loopw [5, 10] (fun lv iv wr => ∃ (k : Nat) (l : Int), k ≤ xs.length ∧ iv = .int .i64 k ∧ lv = .int .i64 l ∧ ls now l (xs.drop k) = ls now 0 xs ∧ Below W.heap.size W wr) (fun _ iv _ => xs.length - (intOf iv).toNat)
  case atStart => exact ⟨0, 0, by omega, rfl, rfl, rfl, Below.refl _ _⟩
  case round =>
    obtain ⟨k, l, hk, rfl, rfl, hE, hR⟩ := hrel
    have HE := Lib.hid hE
    have HR := Lib.hid hR
    clear hE hR
    by_cases hlt : k < xs.length
    · obtain ⟨ea, hlb⟩ := HA.out (by omega)
      subst ea
      have hW := HB.out.trans (HR.out.mono hB)
      obtain ⟨c0, c1, c2, c3, c4, c5⟩ := HC.out k hlt
      have q0 := (hW.cell (p := ⟨b, off + k * 6, none⟩) hlb).trans c0
      have q1 := (hW.cell (p := ⟨b, off + k * 6 + 1, none⟩) hlb).trans c1
      have q2 := (hW.cell (p := ⟨b, off + k * 6 + 2, none⟩) hlb).trans c2
      have q3 := (hW.cell (p := ⟨b, off + k * 6 + 3, none⟩) hlb).trans c3
      have q4 := (hW.cell (p := ⟨b, off + k * 6 + 4, none⟩) hlb).trans c4
      have q5 := (hW.cell (p := ⟨b, off + k * 6 + 5, none⟩) hlb).trans c5
      have D := Lib.hid ((ls_drop now l k hlt).symm.trans HE.out)
      have HRX := Lib.hid (fun W' => HR0.out (xs.getD k default) W')
      clear c0 c1 c2 c3 c4 c5 hW
      generalize xs.getD k default = x at *
      obtain ⟨u, p, q, f, r, g⟩ := x
      simp only at q0 q1 q2 q3 q4 q5 D
      obtain ⟨c, hcc⟩ : ∃ c, rdy now ⟨u, p, q, f, r, g⟩ = c := ⟨_, rfl⟩
      rw [hcc] at D HRX
      clear hcc
      obtain ⟨w1, hw1⟩ : ∃ w1, w1 = wr.alloc (.cells #[.string ⟨u.toArray⟩, .int .i64 p, .int .i64 q, .int .i64 f, .int .i64 r, .bool g] 57) := ⟨_, rfl⟩
      have H1 := Lib.hid (show Hd w1 wr.heap.size (.cells #[.string ⟨u.toArray⟩, .int .i64 p, .int .i64 q, .int .i64 f, .int .i64 r, .bool g] 57) by rw [hw1]; exact Hd.new _ _)
      have B1 := Lib.hid (show Below W.heap.size W w1 by rw [hw1]; exact belI_alloc HR.out)
      have n1 := H1.out.six
      go_upto_region 5 with fail
      rw [← hw1]
      clear hw1 q0 q1 q2 q3 q4 q5
      obtain ⟨m0, m1, m2, m3, m4, m5, -⟩ := n1
      go_wp2_with fail
      refine (HRX.out w1).mono ?_
      rintro e w2 ⟨rfl, hb2⟩
      have B2 := Lib.hid (below_chain B1.out hb2)
      obtain ⟨n0, n1, n2, n3, n4, n5, -⟩ := (H1.out.blw hb2).six
      clear hb2 m0 m1 m2 m3 m4 m5
      cases c
      · go_wp2
        go_roundw
        case rel => exact ⟨k + 1, l, by omega, by go_num, rfl, by have := D.out; simpa using this, B2.out⟩
        case measure => simp [intOf]; omega
      · by_cases e0 : l = 0
        · subst e0
          go_wp2
          go_roundw
          case rel => exact ⟨k + 1, p, by omega, by go_num, rfl, by have := D.out; simpa using this, B2.out⟩
          case measure => simp [intOf]; omega
        · have e0b : (l == 0) = false := by simpa using e0
          by_cases e1 : p < l
          · go_wp2
            go_roundw
            case rel => exact ⟨k + 1, p, by omega, by go_num, rfl, by have := D.out; simpa [e1] using this, B2.out⟩
            case measure => simp [intOf]; omega
          · have HN := Lib.hid (show ls now l (xs.drop (k + 1)) = ls now 0 xs by have := D.out; simpa [e0, e1] using this)
            go_wp2
            go_roundw
            case rel => exact ⟨k + 1, l, by omega, by go_num, rfl, HN.out, B2.out⟩
            case measure => simp [intOf]; omega
    · obtain rfl : k = xs.length := by omega
      go_wp2
      go_ret
      exact ⟨ret_i (by have := HE.out; rw [List.drop_length] at this; exact this), HR.out⟩
end Go.Proofs.YtakiigddbdapaaaGreatDoor.Pe
