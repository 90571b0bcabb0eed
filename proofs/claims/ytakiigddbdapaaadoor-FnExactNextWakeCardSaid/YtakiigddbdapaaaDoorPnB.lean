
/-
  NextWake of the program, walked; the law FnExactNextWake, walked.
-/
import Derived.Test.YtakiigddbdapaaaDoorPnA
import Derived.Deep.Cut
namespace Go.Proofs.YtakiigddbdapaaaDoor.Pe
open Go.RowKit
open Go.Proofs.YtakiigddbdapaaaDoor.Gr (szR szR_in szR_out belI_step belI_alloc ret_b ret_i)
open Go.Proofs.YtakiigddbdapaaaDoor.Ul (Tab MaxL)
open Go.Proofs.YtakiigddbdapaaaDoor.Mk
abbrev inV (ns : List Int) : List Value := ns.map fun n => Value.int .i64 n
def ON (w : World) (base : Nat) (v : Value) (ns : List Int) : Prop := w.ownsRow base 3 1 v ns.length (inV ns)
theorem ON.nil (w : World) (a : Nat) : ON w a (.slice none 0 0) [] := World.ownsRow_nil _ _ _ _
theorem ON.below {w w' : World} {base : Nat} {v : Value} {ts : List Int} (h : ON w base v ts) (hb : Below w.heap.size w w') : ON w' base v ts := World.ownsRow.kept h (below_grownBy hb none) (by cases v.ownBlock <;> simp)
theorem ON.slice {w : World} {base : Nat} {v : Value} {ts : List Int} (h : ON w base v ts) : ∃ a c, v = .slice a ts.length c := own_slice h
theorem ON.at {w : World} {base g cap k : Nat} {ns : List Int} (h : ON w base (.slice (some ⟨g, 0, none⟩) ns.length cap) ns) (hk : k < ns.length) : w.cell? ⟨g, k, none⟩ = some (.int .i64 (ns.getD k 0)) :=
  own_cell h k _ (by simp [inV, hk])
theorem ON.isRow {w : World} {base : Nat} {v : Value} {ns : List Int} (h : ON w base v ns) (hk : 0 < ns.length) : ∃ g cap, v = .slice (some ⟨g, 0, none⟩) ns.length cap ∧ ns.length ≤ 9223372036854775807 := by
  rcases h.2 with ⟨rfl, h0⟩ | ⟨g, cap, cur, rfl, hb, hg, hnc, hcm, _⟩
  · omega
  · exact ⟨g, cap, rfl, by unfold maxLen at hcm; omega⟩
theorem Tryd.infoInt : (Tryd.prog.info? 3).map (fun i => (i.zero, i.size, i.bytes)) = some (some (.int .i64 0), 1, 8) := by kernel_rfl
theorem one_row1 (w : World) (a : Value) (T : TypeId) (j : Nat) (u : Value) (h : [a][j]? = some u) : (w.alloc (.cells #[a] T)).cell? ((⟨w.heap.size, 0, none⟩ : Addr).add j) = some u := by
  rw [add_at, Nat.zero_add]
  have hj : j < 1 := by have := (List.getElem?_eq_some_iff.1 h).1; simpa using this
  obtain rfl : j = 0 := by omega
  simp at h; subst h
  exact cell_of_row _ _ 0 _ _ _ (heap_alloc_new w (.cells #[a] T))
theorem bs_take {ns : List Int} (k : Nat) (h1 : 1 ≤ k) (hk : k < ns.length) : bs (ns.take (k + 1)) = min (bs (ns.take k)) (ns.getD k 0) := by
  rw [show ns.take (k + 1) = ns.take k ++ [ns[k]] by rw [List.take_add_one, List.getElem?_eq_getElem hk]; rfl, bs_app _ (by
    intro e
    have : (ns.take k).length = 0 := by rw [e]; rfl
    rw [List.length_take] at this; omega)]
  simp [hk]
theorem bs_one {ns : List Int} (h : 0 < ns.length) : bs (ns.take 1) = ns.getD 0 0 := by
  cases ns with
  | nil => simp at h
  | cons x r => rfl
set_option maxRecDepth 100000 in
set_option maxHeartbeats 1000000 in
theorem minI_any (w : World) (base : Nat) (v : Value) (ns : List Int) (h : ON w base v ns) (h0 : 0 < ns.length) :
    Calls Tryd.prog 30 #[v] w fun e w' => e = .returned (.int .i64 (bs ns)) ∧ w = w' := by
  obtain ⟨g, cap, rfl, hm⟩ := ON.isRow h h0
  have HC := Lib.hid (fun k hk => ON.at (k := k) h hk)
  have q0 := HC.out 0 h0
  have HB1 := Lib.hid (bs_one h0)
  have g1 : ¬ ((ns.length : Int) < 1) := by omega
  have hpos : (0 : Int) < (ns.length : Int) := by omega
  generalize ns.getD 0 0 = t0 at *
  clear h
  go_enter Tryd.func30, Tryd.ntmps30
  go_wp2
  go_loop [3, 4] (fun mv iv => ∃ k : Nat, 1 ≤ k ∧ k ≤ ns.length ∧ iv = .int .i64 k ∧ mv = .int .i64 (bs (ns.take k))) (fun _ iv => ns.length - (intOf iv).toNat)
  case atStart => exact ⟨1, by omega, by omega, rfl, by rw [HB1.out]⟩
  case round =>
    obtain ⟨k, hk1, hk, rfl, rfl⟩ := hrel
    by_cases hlt : k < ns.length
    · have q1 := HC.out k hlt
      have HT := Lib.hid (bs_take k hk1 hlt)
      generalize ns.getD k 0 = t at *
      generalize bs (ns.take k) = m at *
      go_wp2
      go_round
      case rel => exact ⟨k + 1, by omega, by omega, by go_num, by rw [HT.out]⟩
      case measure => simp [intOf]; omega
    · obtain rfl : k = ns.length := by omega
      rw [List.take_length]
      obtain ⟨m, hm⟩ : ∃ m, bs ns = m := ⟨_, rfl⟩
      have HM := Lib.hid hm
      rw [hm]
      clear hm
      go_wp2
      go_ret
      exact ⟨ret_i HM.out.symm, rfl⟩
set_option maxRecDepth 100000 in
set_option maxHeartbeats 1000000 in
theorem pcN_any (B : Nat) (w0 : World) (xs : List Pr) (v : Value) (h : PrIn (· < B) w0 v xs) (W : World) (hb : Below B w0 W) (hB : B ≤ W.heap.size) (hT : Tab W) (hM : MaxL W) :
    Calls Tryd.prog 28 #[v] W fun e w' => e = .returned (.int .i64 (pcN xs)) ∧ Below W.heap.size W w' := by
  have HK := Lib.hid (okI_any B w0 xs v h W hb hB hT hM)
  obtain ⟨a, c, rfl⟩ := h.slice2
  clear h hb
  unfold pcN
  by_cases h1 : 4096 < xs.length
  · have g1 : (4096 : Int) < (xs.length : Int) := by omega
    rw [if_pos h1]
    go_enter Tryd.func28, Tryd.ntmps28
    go_wp2
    go_ret
    exact ⟨rfl, Below.refl _ _⟩
  · have g1 : ¬ ((4096 : Int) < (xs.length : Int)) := by omega
    rw [if_neg h1]
    obtain ⟨p, hp⟩ : ∃ p, plB xs = p := ⟨_, rfl⟩
    rw [hp] at HK ⊢
    clear hp
    cases p
    all_goals
      go_enter Tryd.func28, Tryd.ntmps28
      go_wp2_with fail
      refine HK.out.mono ?_
      rintro e w1 ⟨rfl, hb1⟩
      go_wp2
      go_ret
      exact ⟨rfl, hb1⟩
set_option maxRecDepth 100000 in
set_option maxHeartbeats 4000000 in
theorem wakeI_any (B : Nat) (w0 : World) (xs : List Pr) (v : Value) (h : PrIn (· < B) w0 v xs) (now : Int) (W : World) (hb : Below B w0 W) (hB : B ≤ W.heap.size) (hT : Tab W) (hM : MaxL W) :
    Calls Tryd.prog 13 #[v, .int .i64 now] W (Two W (nwV xs now) (nwC xs now)) := by
  have HP := Lib.hid (pcN_any B w0 xs v h W hb hB hT hM)
  have HI := Lib.hid (fun W' => nowP_any now W')
  obtain ⟨a, cap, b, off, rfl, hcap, hm, -, ha, hc⟩ := h
  have HC := Lib.hid hc
  have HA := Lib.hid ha
  have HB := Lib.hid hb
  clear hc ha hb hT hM
  obtain ⟨A, hA⟩ : ∃ A, pcN xs = A := ⟨_, rfl⟩
  rw [hA] at HP
  by_cases hA0 : A = 0
  · subst hA0
    have hsz := (plB_at (pcN_pl hA)).1
    by_cases hn : nwB now = true
    · rw [hn] at HI
      have hn2 : 0 ≤ now ∧ now ≤ 1000000 := by unfold nwB at hn; simpa using hn
      have E := Lib.hid (show nwC xs now = if tms now xs = [] then 5 else 0 by unfold nwC; rw [hA, if_pos rfl, if_pos hn])
      have HTL := Lib.hid (fun k => tms_len now (xs.take k))
      obtain ⟨i0, hi, hz0, hz1, hz2⟩ := info_parts Tryd.infoInt
      clear hn hA
      go_enter Tryd.func13, Tryd.ntmps13
      go_wp2_with fail
      refine HP.out.mono ?_
      rintro e w1 ⟨rfl, hb1⟩
      have B1 := Lib.hid hb1
      clear hb1
      go_wp2_with fail
      refine (HI.out _).mono ?_
      rintro e _ ⟨rfl, rfl⟩
      go_wp2
      go_loopw [7, 22] (fun tv iv wr => ∃ k : Nat, k ≤ xs.length ∧ iv = .int .i64 k ∧ ON wr W.heap.size tv (tms now (xs.take k)) ∧ Below W.heap.size W wr) (fun _ iv _ => xs.length - (intOf iv).toNat)
      case atStart => exact ⟨0, by omega, rfl, ON.nil _ _, B1.out⟩
      case round =>
        obtain ⟨k, hk, rfl, hO, hR⟩ := hrel
        have HO := Lib.hid hO
        have HR := Lib.hid hR
        obtain ⟨at0, ct0, rfl⟩ := hO.slice
        have hlen := HTL.out k
        have hlk : (xs.take k).length = k := by simp; omega
        rw [hlk] at hlen
        clear hO hR hlk
        by_cases hlt : k < xs.length
        · obtain ⟨ea, hlb⟩ := HA.out (by omega)
          subst ea
          have hW := HB.out.trans (HR.out.mono hB)
          obtain ⟨c0, c1, c2, c3, c4, c5⟩ := HC.out k hlt
          have q0 := (hW.cell (p := ⟨b, off + k * 6, none⟩) hlb).trans c0
          have q1 := (hW.cell (p := ⟨b, off + k * 6 + 1, none⟩) hlb).trans c1
          have q2 := (hW.cell (p := ⟨b, off + k * 6 + 2, none⟩) hlb).trans c2
          have q3 := (hW.cell (p := ⟨b, off + k * 6 + 3, none⟩) hlb).trans c3
          have q4 := (hW.cell (p := ⟨b, off + k * 6 + 4, none⟩) hlb).trans c4
          have q5 := (hW.cell (p := ⟨b, off + k * 6 + 5, none⟩) hlb).trans c5
          have TT := Lib.hid (tms_take now k hlt)
          clear c0 c1 c2 c3 c4 c5 hW
          generalize xs.getD k default = x at *
          obtain ⟨u, p, q, f, r, g⟩ := x
          simp only at q0 q1 q2 q3 q4 q5
          generalize tms now (xs.take k) = ts at *
          obtain ⟨t, ht⟩ : ∃ t, max now r = t := ⟨_, rfl⟩
          rw [ht] at TT
          obtain ⟨w3, hw3⟩ : ∃ w3, w3 = wr.alloc (ipO ⟨u, p, q, f, r, g⟩) := ⟨_, rfl⟩
          have H3 := Lib.hid (show Hd w3 wr.heap.size (ipO ⟨u, p, q, f, r, g⟩) by rw [hw3]; exact Hd.new _ _)
          have B3 := Lib.hid (show Below W.heap.size W w3 by rw [hw3]; exact belI_alloc HR.out)
          have O3 := Lib.hid (show ON w3 W.heap.size (.slice at0 ts.length ct0) ts by rw [hw3]; exact HO.out.below ((Below.refl _ _).alloc (Nat.le_refl _) _))
          go_upto_region 10 with fail
          rw [← hw3]
          clear hw3 q0 q1 q2 q3 q4 q5
          obtain ⟨q0, q1, q2, q3, q4, q5, -⟩ := H3.out.six
          cases g
          · have TT2 := Lib.hid (show tms now (xs.take (k + 1)) = ts ++ [t] by rw [TT.out]; rfl)
            have OA := Lib.hid (O3.out.below ((Below.refl w3.heap.size w3).alloc (Nat.le_refl _) (.cells #[.int .i64 t] 3)))
            have BA := Lib.hid (belI_alloc (o := .cells #[.int .i64 t] 3) B3.out)
            have z3 := B3.out.size
            clear TT
            go_wp2_with (at_builtin; (refine App.wpList_app _ rfl _ _ 59 rfl W.heap.size 3 i0 _ 1 8 Tryd.underlying59 hi hz0 hz1 hz2 rfl (by omega) _ ts.length (inV ts) rfl OA.out ⟨w3.heap.size, 0, none⟩ 1 _ [.int .i64 t] rfl (by omega) rfl (one_row1 w3 _ _) (by intro u hu; simp at hu; subst hu; rfl) (by omega) (by omega) (by simp; omega) ?_; intro l' w4 hown' hgrow hplace; have O4 := Lib.hid (show ON w4 W.heap.size l' (ts ++ [t]) by unfold ON; rw [List.length_append, show inV (ts ++ [t]) = inV ts ++ [Value.int .i64 t] by simp [inV]]; exact hown'); have B4 := Lib.hid (show Below W.heap.size W w4 from BA.out.grown hgrow (by simp; omega) (fun g e => (World.ownsRow.lt OA.out g e).1)); obtain ⟨a7, c7, rfl⟩ := O4.out.slice; clear hown' hgrow hplace))
            go_roundw
            case rel => exact ⟨k + 1, by omega, by go_num, by have := O4.out; rw [TT2.out]; simpa using this, B4.out⟩
            case measure => simp [intOf]; omega
          · have TT2 := Lib.hid (show tms now (xs.take (k + 1)) = ts by rw [TT.out]; simp)
            clear TT
            go_wp2
            go_roundw
            case rel => exact ⟨k + 1, by omega, by go_num, by rw [TT2.out]; exact O3.out, B3.out⟩
            case measure => simp [intOf]; omega
        · obtain rfl : k = xs.length := by omega
          have ht : xs.take xs.length = xs := List.take_length
          rw [ht] at HO ⊢
          clear ht
          by_cases hts : tms now xs = []
          · have HF := Lib.hid (two_bad (W := W) (xs := xs) (now := now) (D := 5) (by rw [E.out, if_pos hts]) (by decide) HR.out)
            rw [hts]
            go_wp2
            exact bodyPost_ret (ret_2n Tryd.results13) rfl HF.out
          · have hpos : 0 < (tms now xs).length := List.length_pos_iff.2 hts
            have HF := Lib.hid (two_ok (W := W) (xs := xs) (now := now) (b := bs (tms now xs)) (by rw [E.out, if_neg hts]) rfl HR.out)
            have HMN := Lib.hid (minI_any wr W.heap.size _ (tms now xs) HO.out hpos)
            have hne : ¬ ((tms now xs).length : Int) = 0 := by omega
            generalize bs (tms now xs) = m at *
            generalize (tms now xs).length = nn at *
            go_wp2_with fail
            refine HMN.out.mono ?_
            rintro e _ ⟨rfl, rfl⟩
            go_wp2
            exact bodyPost_ret (ret_2n Tryd.results13) rfl HF.out
    · have hn' : nwB now = false := by simpa using hn
      rw [hn'] at HI
      have HF := Lib.hid (fun w (h : Below W.heap.size W w) => two_bad (W := W) (xs := xs) (now := now) (D := 4) (by unfold nwC; rw [hA, if_pos rfl, if_neg hn]) (by decide) h)
      clear hn hA
      go_enter Tryd.func13, Tryd.ntmps13
      go_wp2_with fail
      refine HP.out.mono ?_
      rintro e w1 ⟨rfl, hb1⟩
      have HF1 := Lib.hid (HF.out w1 hb1)
      clear hb1 HF
      go_wp2_with fail
      refine (HI.out _).mono ?_
      rintro e _ ⟨rfl, rfl⟩
      go_wp2
      exact bodyPost_ret (ret_2n Tryd.results13) rfl HF1.out
  · have HF := Lib.hid (fun w (h : Below W.heap.size W w) => two_bad (W := W) (xs := xs) (now := now) (D := A) (by unfold nwC; rw [hA, if_neg hA0]) hA0 h)
    have hA1 : (A != 0) = true := by simpa using hA0
    clear hA
    go_enter Tryd.func13, Tryd.ntmps13
    go_wp2_with fail
    refine HP.out.mono ?_
    rintro e w1 ⟨rfl, hb1⟩
    have HF1 := Lib.hid (HF.out w1 hb1)
    clear hb1 HF
    go_wp2
    exact bodyPost_ret (ret_2n Tryd.results13) rfl HF1.out
end Go.Proofs.YtakiigddbdapaaaDoor.Pe
