
/-
  NextWake: what it answers, plainly; the model's and the program's, walked.
-/
import Derived.Test.YtakiigddbdapaaaDoorPeJ
namespace Go.Proofs.YtakiigddbdapaaaDoor.Pe
open Go.RowKit
open Go.Proofs.YtakiigddbdapaaaDoor.Gr (belI_step belI_alloc ret_b ret_i)
open Go.Proofs.YtakiigddbdapaaaDoor.Ul (Tab MaxL in_any)
open Go.Proofs.YtakiigddbdapaaaDoor.Mk
def tms (now : Int) : List Pr → List Int
  | [] => []
  | x :: r => if x.gone = true then tms now r else max now x.retry :: tms now r
theorem tms_app (now : Int) : ∀ a b : List Pr, tms now (a ++ b) = tms now a ++ tms now b
  | [], b => rfl
  | x :: r, b => by
    have ih := tms_app now r b
    simp only [List.cons_append, tms]
    split
    · exact ih
    · rw [ih]; rfl
theorem tms_take (now : Int) {xs : List Pr} (k : Nat) (hx : k < xs.length) : tms now (xs.take (k + 1)) = tms now (xs.take k) ++ (if (xs.getD k default).gone = true then [] else [max now (xs.getD k default).retry]) := by
  rw [show xs.take (k + 1) = xs.take k ++ [xs[k]] by rw [List.take_add_one, List.getElem?_eq_getElem hx]; rfl, tms_app]
  congr 1
  have e : xs.getD k default = xs[k] := by simp [hx]
  rw [e]
  simp only [tms]
theorem tms_nonneg (now : Int) (hn : 0 ≤ now) : ∀ (xs : List Pr), ∀ t ∈ tms now xs, 0 ≤ t
  | [], t, h => by simp [tms] at h
  | x :: r, t, h => by
    simp only [tms] at h
    split at h
    · exact tms_nonneg now hn r t h
    · rcases List.mem_cons.1 h with rfl | h
      · omega
      · exact tms_nonneg now hn r t h
theorem tms_len (now : Int) : ∀ (xs : List Pr), (tms now xs).length ≤ xs.length
  | [] => by simp [tms]
  | x :: r => by
    have := tms_len now r
    simp only [tms]
    split
    · simp; omega
    · simp; omega
def mnL : Int → List Int → Int
  | m, [] => m
  | m, x :: r => mnL (min m x) r
def bs : List Int → Int
  | [] => -1
  | t :: r => mnL t r
theorem mnL_app : ∀ (xs : List Int) (m t : Int), mnL m (xs ++ [t]) = min (mnL m xs) t
  | [], _, _ => rfl
  | x :: r, m, t => mnL_app r (min m x) t
theorem bs_app {ts : List Int} (t : Int) (h : ts ≠ []) : bs (ts ++ [t]) = min (bs ts) t := by
  cases ts with
  | nil => exact absurd rfl h
  | cons x r => exact mnL_app r x t
theorem mnL_nonneg : ∀ (xs : List Int) (m : Int), 0 ≤ m → (∀ t ∈ xs, 0 ≤ t) → 0 ≤ mnL m xs
  | [], m, h, _ => h
  | x :: r, m, h, h2 => mnL_nonneg r (min m x) (by have := h2 x (by simp); omega) (fun t ht => h2 t (by simp [ht]))
theorem bs_nonneg {ts : List Int} (h : ts ≠ []) (h2 : ∀ t ∈ ts, 0 ≤ t) : 0 ≤ bs ts := by
  cases ts with
  | nil => exact absurd rfl h
  | cons x r => exact mnL_nonneg r x (h2 x (by simp)) (fun t ht => h2 t (by simp [ht]))
def pcN (xs : List Pr) : Int := if 4096 < xs.length then 2 else if plB xs = true then 0 else 1
def nwC (xs : List Pr) (now : Int) : Int := if pcN xs = 0 then (if nwB now = true then (if tms now xs = [] then 5 else 0) else 4) else pcN xs
def nwV (xs : List Pr) (now : Int) : Int := if nwC xs now = 0 then bs (tms now xs) else 0
theorem ret_2n {fn : Func} {a b : Nat} {tmps : Array Value} {X : World} (hres : fn.results = #[.tmp a, .tmp b]) : (results fn tmps).run Tryd.prog X = .ok (.tuple #[tmps[a]?.getD undef, tmps[b]?.getD undef]) X := by simp [results, hres, go_sem]
theorem pcN_pl {xs : List Pr} (h : pcN xs = 0) : plB xs = true := by
  unfold pcN at h
  split at h
  · omega
  · split at h
    · assumption
    · omega
def Two (W : World) (V C : Int) (e : Ending) (w' : World) : Prop := e = .returned (.tuple #[.int .i64 V, .int .i64 C]) ∧ Below W.heap.size W w'
theorem two_bad {W w : World} {xs : List Pr} {now : Int} {D : Int} (hC : nwC xs now = D) (h0 : D ≠ 0) (hb : Below W.heap.size W w) : Two W (nwV xs now) (nwC xs now) (.returned (.tuple #[.int .i64 0, .int .i64 D])) w := by
  refine ⟨?_, hb⟩
  unfold nwV
  rw [hC, if_neg h0]
theorem two_ok {W w : World} {xs : List Pr} {now : Int} {b : Int} (hC : nwC xs now = 0) (hv : b = bs (tms now xs)) (hb : Below W.heap.size W w) : Two W (nwV xs now) (nwC xs now) (.returned (.tuple #[.int .i64 b, .int .i64 0])) w := by
  refine ⟨?_, hb⟩
  unfold nwV
  rw [hC, if_pos rfl, hv]
set_option maxRecDepth 100000 in
set_option maxHeartbeats 2000000 in
theorem wakeS_any (B : Nat) (w0 : World) (xs : List Pr) (v : Value) (h : PrIn (· < B) w0 v xs) (hl : ∀ i, i < xs.length → (xs.getD i default).url.length ≤ 1048576) (now : Int) (W : World) (hb : Below B w0 W) (hB : B ≤ W.heap.size) :
    Calls Tryd.prog 12 #[v, .int .i64 now] W (Two W (nwV xs now) (nwC xs now)) := by
  have HK := Lib.hid (okS_any B w0 xs v h hl W hb hB)
  have HI := Lib.hid (fun W' => show Calls Tryd.prog 27 #[.int .i64 now, .int .i64 0, .int .i64 1000000] W' fun e w' => e = .returned (.bool (nwB now)) ∧ W' = w' from in_any now 0 1000000 W')
  obtain ⟨a, cap, b, off, rfl, hcap, hm, -, ha, hc⟩ := h
  have HC := Lib.hid hc
  have HA := Lib.hid ha
  have HB := Lib.hid hb
  clear hc ha hb hl
  by_cases h1 : 4096 < xs.length
  · have g1 : (4096 : Int) < (xs.length : Int) := by omega
    have HF := Lib.hid (two_bad (W := W) (xs := xs) (now := now) (D := 2) (by unfold nwC pcN; rw [if_pos h1]; rfl) (by decide) (Below.refl _ _))
    go_enter Tryd.func12, Tryd.ntmps12
    go_wp2
    exact bodyPost_ret (ret_2n Tryd.results12) rfl HF.out
  have g1 : ¬ ((4096 : Int) < (xs.length : Int)) := by omega
  by_cases hp : plB xs = true
  · rw [hp] at HK
    have e0 : pcN xs = 0 := by unfold pcN; rw [if_neg h1, if_pos hp]
    by_cases hn : nwB now = true
    · rw [hn] at HI
      have hn2 : 0 ≤ now ∧ now ≤ 1000000 := by unfold nwB at hn; simpa using hn
      have E := Lib.hid (show nwC xs now = if tms now xs = [] then 5 else 0 by unfold nwC; rw [e0, if_pos rfl, if_pos hn])
      have HNN := Lib.hid (fun k => tms_nonneg now hn2.1 (xs.take k))
      clear hp hn e0
      go_enter Tryd.func12, Tryd.ntmps12
      go_wp2_with fail
      refine HK.out.mono ?_
      rintro e w1 ⟨rfl, hb1⟩
      have B1 := Lib.hid hb1
      clear hb1
      go_wp2_with fail
      refine (HI.out _).mono ?_
      rintro e _ ⟨rfl, rfl⟩
      go_wp2
      go_loopw [6, 7] (fun bv iv wr => ∃ k : Nat, k ≤ xs.length ∧ iv = .int .i64 k ∧ bv = .int .i64 (bs (tms now (xs.take k))) ∧ wr = w1) (fun _ iv _ => xs.length - (intOf iv).toNat)
      case atStart => exact ⟨0, by omega, rfl, rfl, rfl⟩
      case round =>
        obtain ⟨k, hk, rfl, rfl, rfl⟩ := hrel
        by_cases hlt : k < xs.length
        · obtain ⟨ea, hlb⟩ := HA.out (by omega)
          subst ea
          have hW := HB.out.trans (B1.out.mono hB)
          obtain ⟨c0, c1, c2, c3, c4, c5⟩ := HC.out k hlt
          have q4 := (hW.cell (p := ⟨b, off + k * 6 + 4, none⟩) hlb).trans c4
          have q5 := (hW.cell (p := ⟨b, off + k * 6 + 5, none⟩) hlb).trans c5
          have TT := Lib.hid (tms_take now k hlt)
          have hbn := fun h => bs_nonneg (ts := tms now (xs.take k)) h (HNN.out k)
          have hba := fun t h => bs_app (ts := tms now (xs.take k)) t h
          clear c0 c1 c2 c3 c4 c5 hW
          generalize xs.getD k default = x at *
          obtain ⟨u, p, q, f, r, g⟩ := x
          simp only at q4 q5
          generalize tms now (xs.take k) = ts at *
          obtain ⟨t, ht⟩ : ∃ t, max now r = t := ⟨_, rfl⟩
          rw [ht] at TT
          have ht0 : 0 ≤ t := by omega
          cases g
          · have TT2 := Lib.hid (show tms now (xs.take (k + 1)) = ts ++ [t] by rw [TT.out]; rfl)
            clear TT
            by_cases hts : ts = []
            · subst hts
              have EB := Lib.hid (show bs (([] : List Int) ++ [t]) = t from rfl)
              have e1 : bs ([] : List Int) = -1 := rfl
              rw [e1]
              clear hbn hba e1
              go_wp2
              go_roundw
              case rel => exact ⟨k + 1, by omega, by go_num, by rw [TT2.out, EB.out], trivial⟩
              case measure => simp [intOf]; omega
            · have hb0 := hbn hts
              have EB := Lib.hid (hba t hts)
              clear hbn hba
              generalize bs ts = m at *
              have d0 : ¬ (m < 0) := by omega
              by_cases hlt2 : t < m
              · go_wp2
                go_roundw
                case rel => exact ⟨k + 1, by omega, by go_num, by rw [TT2.out, EB.out]; congr 1; omega, trivial⟩
                case measure => simp [intOf]; omega
              · go_wp2
                go_roundw
                case rel => exact ⟨k + 1, by omega, by go_num, by rw [TT2.out, EB.out]; congr 1; omega, trivial⟩
                case measure => simp [intOf]; omega
          · have TT2 := Lib.hid (show tms now (xs.take (k + 1)) = ts by rw [TT.out]; simp)
            clear TT hbn hba
            go_wp2
            go_roundw
            case rel => exact ⟨k + 1, by omega, by go_num, by rw [TT2.out], trivial⟩
            case measure => simp [intOf]; omega
        · obtain rfl : k = xs.length := by omega
          rw [List.take_length]
          have hnn := HNN.out xs.length
          rw [List.take_length] at hnn
          by_cases hts : tms now xs = []
          · rw [hts]
            have HF := Lib.hid (two_bad (W := W) (xs := xs) (now := now) (D := 5) (by rw [E.out, if_pos hts]) (by decide) B1.out)
            have e1 : bs ([] : List Int) = -1 := rfl
            rw [e1]
            go_wp2
            exact bodyPost_ret (ret_2n Tryd.results12) rfl HF.out
          · have hb0 := bs_nonneg hts hnn
            have HF := Lib.hid (fun m (hm : m = bs (tms now xs)) => two_ok (W := W) (xs := xs) (now := now) (b := m) (by rw [E.out, if_neg hts]) hm B1.out)
            obtain ⟨m, hm⟩ : ∃ m, m = bs (tms now xs) := ⟨_, rfl⟩
            have HM := Lib.hid hm
            rw [← hm] at hb0 ⊢
            have d0 : ¬ (m < 0) := by omega
            clear hm
            go_wp2
            exact bodyPost_ret (ret_2n Tryd.results12) rfl (HF.out m HM.out)
    · have hn' : nwB now = false := by simpa using hn
      rw [hn'] at HI
      have HF := Lib.hid (fun w (h : Below W.heap.size W w) => two_bad (W := W) (xs := xs) (now := now) (D := 4) (by unfold nwC; rw [e0, if_pos rfl, if_neg hn]) (by decide) h)
      clear hp hn e0
      go_enter Tryd.func12, Tryd.ntmps12
      go_wp2_with fail
      refine HK.out.mono ?_
      rintro e w1 ⟨rfl, hb1⟩
      have HF1 := Lib.hid (HF.out w1 hb1)
      clear hb1 HF
      go_wp2_with fail
      refine (HI.out _).mono ?_
      rintro e _ ⟨rfl, rfl⟩
      go_wp2
      exact bodyPost_ret (ret_2n Tryd.results12) rfl HF1.out
  · have hp' : plB xs = false := by simpa using hp
    rw [hp'] at HK
    have HF := Lib.hid (fun w (h : Below W.heap.size W w) => two_bad (W := W) (xs := xs) (now := now) (D := 1) (by unfold nwC pcN; rw [if_neg h1, if_neg hp]; rfl) (by decide) h)
    clear hp hp'
    go_enter Tryd.func12, Tryd.ntmps12
    go_wp2_with fail
    refine HK.out.mono ?_
    rintro e w1 ⟨rfl, hb1⟩
    have HF1 := Lib.hid (HF.out w1 hb1)
    clear hb1 HF
    go_wp2
    exact bodyPost_ret (ret_2n Tryd.results12) rfl HF1.out
end Go.Proofs.YtakiigddbdapaaaDoor.Pe
