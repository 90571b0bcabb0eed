
/-
  The model's l04Make, walked.
-/
import Derived.Test.YtmaknkbmilcanaaGreatDoorPoS
import Derived.Laws.AppendOwn
import Derived.Laws.OwnMore
namespace Go.Proofs.YtmaknkbmilcanaaGreatDoor.Po
open Go.RowKit
open Go.Proofs.YtmaknkbmilcanaaGreatDoor.Tx
open Go.Proofs.YtmaknkbmilcanaaGreatDoor.Ul hiding ret_bool
open Go.Proofs.YtmaknkbmilcanaaGreatDoor.Cl
abbrev strV (us : List (List UInt8)) : List Value := us.map fun t => Value.string ⟨t.toArray⟩
theorem Tryz.infoS : (Tryz.prog.info? 9).map (fun i => (i.zero, i.size, i.bytes)) = some (some (.string ByteArray.empty), 1, 16) := by kernel_rfl
/-- a row of the call's own, as a slice of texts -/
theorem own_txts {B : Nat} {w : World} {v : Value} {us : List (List UInt8)} (h : w.ownsRow B 9 1 v us.length (strV us)) (hn : us.length ≤ 9223372036854775807) (hl : ∀ i, i < us.length → (us.getD i []).length ≤ 9223372036854775807) : TxtsIn (fun b => B ≤ b ∧ b < w.heap.size) w v us := by
  obtain ⟨-, h⟩ := h
  rcases h with ⟨rfl, h0⟩ | ⟨g, cap, cur, rfl, hbg, hg, hnc, hcm, hs, ht⟩
  · obtain rfl : us = [] := List.eq_nil_of_length_eq_zero h0
    exact ⟨none, 0, 0, 0, rfl, by simp, by omega, by simp, by simp, by simp⟩
  · have hlt : g < w.heap.size := (Array.getElem?_eq_some_iff.1 hg).1
    refine ⟨some ⟨g, 0, none⟩, cap, g, 0, rfl, hnc, by unfold maxLen at hcm; omega, hl, fun _ => ⟨rfl, hbg, hlt⟩, fun i hi => ?_⟩
    have e : (cur.toList.take (us.length * 1))[i]? = some (.string ⟨(us.getD i []).toArray⟩) := by rw [ht]; simp [hi]
    rw [List.getElem?_take_of_lt (by omega)] at e
    rw [Nat.zero_add]
    simp [World.cell?, hg]
    simpa using e
theorem own_block_ne {B : Nat} {w : World} {v : Value} {us : List Value} {n b : Nat} {C : Array Value} {T : TypeId} {fr : Nat × Nat} (h : w.ownsRow B 9 1 v n us) (hT : T ≠ 9) (hb : w.heap[b]? = some (.cells C T fr)) : some b ≠ v.ownBlock := by
  obtain ⟨-, h⟩ := h
  rcases h with ⟨rfl, h0⟩ | ⟨g, cap, cur, rfl, hbg, hg, hnc, hcm, hs, ht⟩
  · simp [Value.ownBlock]
  · intro e
    simp only [Value.ownBlock, Option.some.injEq] at e
    subst e
    rw [hg] at hb
    simp only [Option.some.injEq, Obj.cells.injEq] at hb
    exact hT hb.2.1.symm
/-- the state of l04Make: its policy lies in a block of its own, and so do its addresses -/
def MSt (W : World) (rep : List UInt8) (us : List (List UInt8)) (rv uv : Value) (wr : World) : Prop :=
  wr.heap[W.heap.size + 1 + 1]? = some (.cells #[.string ⟨rep.toArray⟩, uv, rv] 37 (0, 0)) ∧ wr.heap[W.heap.size]? = some (.cells #[.string ⟨#[]⟩, .slice none 0 0, .slice none 0 0] 37 (0, 0)) ∧
    wr.ownsRow (W.heap.size + 1) 9 1 uv us.length (strV us) ∧ Below W.heap.size W wr
abbrev mW (W : World) (rep : List UInt8) (rv : Value) : World := ((W.alloc (.cells #[.string ⟨#[]⟩, .slice none 0 0, .slice none 0 0] 37)).alloc (.cells #[] 9)).alloc (.cells #[.string ⟨rep.toArray⟩, .slice (some ⟨W.heap.size + 1, 0, none⟩) 0 0, rv] 37)
theorem mSt_start (W : World) (rep : List UInt8) (rv : Value) : MSt W rep [] rv (.slice (some ⟨W.heap.size + 1, 0, none⟩) 0 0) (mW W rep rv) := by
  refine ⟨alloc3_2 _ _ _ _, alloc3_0 _ _ _ _, ⟨rfl, .inr ⟨W.heap.size + 1, 0, #[], rfl, Nat.le_refl _, alloc3_1 _ _ _ _, Nat.le_refl _, by unfold maxLen; omega, rfl, rfl⟩⟩, ?_⟩
  exact (((Below.refl _ _).alloc (Nat.le_refl _) _).alloc (by simp) _).alloc (by simp; omega) _
theorem mBel (W : World) (rep : List UInt8) (rv : Value) : Below W.heap.size W (mW W rep rv) := (mSt_start W rep rv).2.2.2
theorem MSt.later {W wr w1 : World} {rep : List UInt8} {us : List (List UInt8)} {rv uv : Value} (h : MSt W rep us rv uv wr) (hb : Below wr.heap.size wr w1) : MSt W rep us rv uv w1 := by
  obtain ⟨h1, h2, h3, h4⟩ := h
  refine ⟨(hb.block _ (Array.getElem?_eq_some_iff.1 h1).1).trans h1, (hb.block _ (Array.getElem?_eq_some_iff.1 h2).1).trans h2, ?_, belI_step h4 hb⟩
  exact h3.kept (row := none) ⟨hb.os, hb.tape, hb.output, hb.size, fun k hk _ => hb.block k hk⟩ (by cases uv.ownBlock <;> simp)
theorem own_set {B : Nat} {w : World} {v : Value} {us : List Value} {n : Nat} (h : w.ownsRow B 9 1 v n us) {a : Addr} (hne : some a.block ≠ v.ownBlock) (u : Value) : (w.setCell a u).ownsRow B 9 1 v n us :=
  h.kept (row := some a.block) ⟨rfl, rfl, rfl, by simp [World.setCell], fun k _ hk2 => Below.heap_setCell _ _ _ _ (by intro e; exact hk2 (by rw [e]))⟩ (.inr (fun e => hne e.symm))
theorem own_slice {B : Nat} {w : World} {v : Value} {us : List Value} {n : Nat} (h : w.ownsRow B 9 1 v n us) : ∃ a c, v = .slice a n c := by
  obtain ⟨-, h⟩ := h
  rcases h with ⟨rfl, h0⟩ | ⟨g, cap, cur, rfl, _⟩
  · exact ⟨none, 0, by rw [h0]⟩
  · exact ⟨_, _, rfl⟩
theorem mSt_step {W w1 w2 : World} {rep t : List UInt8} {us : List (List UInt8)} {rv uv v' : Value} {o : Obj} (h : MSt W rep us rv uv w1) (hown : w2.ownsRow (W.heap.size + 1) 9 1 v' (us.length + 1) (strV us ++ [.string ⟨t.toArray⟩])) (hg : (w1.alloc o).grownBy w2 uv.ownBlock) :
    MSt W rep (us ++ [t]) rv v' (w2.setCell ⟨W.heap.size + 1 + 1, 1, none⟩ v') ∧ w2.cell? ⟨W.heap.size + 1 + 1, 1, none⟩ = some uv ∧ w2.frozen? ⟨W.heap.size + 1 + 1, 1, none⟩ = false := by
  obtain ⟨h1, h2, h3, h4⟩ := h
  have l1 := (Array.getElem?_eq_some_iff.1 h1).1
  have l2 := (Array.getElem?_eq_some_iff.1 h2).1
  have n1 := own_block_ne h3 (by decide) h1
  have n2 := own_block_ne h3 (by decide) h2
  have k1 := (hg.block _ (by simp; omega) n1).trans ((heap_alloc_old _ o l1).trans h1)
  have k2 := (hg.block _ (by simp; omega) n2).trans ((heap_alloc_old _ o l2).trans h2)
  obtain ⟨-, c1, -, cf⟩ := three_cells k1
  have n3 := own_block_ne hown (by decide) k1
  refine ⟨⟨heap_set k1 1 v', (heap_setCell_other _ ⟨W.heap.size + 1 + 1, 1, none⟩ _ _ (by simp; omega)).trans k2, ?_, ?_⟩, c1, cf 1⟩
  · have e : strV (us ++ [t]) = strV us ++ [.string ⟨t.toArray⟩] := by simp [strV]
    have e2 : (us ++ [t]).length = us.length + 1 := by simp
    rw [e, e2]
    exact own_set hown (a := ⟨W.heap.size + 1 + 1, 1, none⟩) n3 v'
  · have hb : Below W.heap.size W w2 := (h4.alloc h4.size o).grown hg (by simp; have := h4.size; omega) (fun j hj => by have := (h3.lt j hj).1; omega)
    exact hb.setCell (by simp; omega) _
theorem uris_small : ∀ (ws us : List (List UInt8)), (∀ t ∈ us, t.length ≤ 100) → ∀ t ∈ ws.foldl addU us, t.length ≤ 100
  | [], us, h => h
  | x :: r, us, h => by
    refine uris_small r (addU us x) ?_
    unfold addU
    split
    · intro t ht
      rcases List.mem_append.1 ht with h1 | h1
      · exact h t h1
      · simp only [List.mem_singleton] at h1; subst h1; exact cleanL_len x
    · exact h
theorem uris_get (ws : List (List UInt8)) (k : Nat) : ∀ i, i < ((ws.take k).foldl addU []).length → (((ws.take k).foldl addU []).getD i []).length ≤ 9223372036854775807 := fun i hi => by
  have := uris_small (ws.take k) [] (by simp) (((ws.take k).foldl addU [])[i]'hi) (List.getElem_mem hi)
  simp only [List.getD_eq_getElem?_getD, List.getElem?_eq_getElem hi, Option.getD_some]
  omega
theorem uris_four (ws : List (List UInt8)) : ∀ us : List (List UInt8), us.length ≤ 4 → (ws.foldl addU us).length ≤ 4 := by
  induction ws with
  | nil => exact fun us h => h
  | cons x r ih => exact fun us h => ih _ (addU_len us x h)
theorem txts_nil (S : Nat → Prop) (w : World) (g : Nat) : TxtsIn S w (.slice (some ⟨g, 0, none⟩) 0 0) [] := ⟨some ⟨g, 0, none⟩, 0, 0, 0, rfl, by simp, by omega, by simp, by simp, by simp⟩
theorem mFin {W wr : World} {rep : List UInt8} {us : List (List UInt8)} {rv uv : Value} (h : MSt W rep us rv uv wr) (hn : us.length ≤ 4) (hl : ∀ i, i < us.length → (us.getD i []).length ≤ 9223372036854775807) :
    (set3 wr W.heap.size 0 (.string ⟨rep.toArray⟩) uv rv).heap[W.heap.size]? = some (.cells #[.string ⟨rep.toArray⟩, uv, rv] 37 (0, 0)) ∧
    TxtsIn (fun b => W.heap.size ≤ b ∧ b < (set3 wr W.heap.size 0 (.string ⟨rep.toArray⟩) uv rv).heap.size) (set3 wr W.heap.size 0 (.string ⟨rep.toArray⟩) uv rv) uv us ∧ Below W.heap.size W (set3 wr W.heap.size 0 (.string ⟨rep.toArray⟩) uv rv) := by
  obtain ⟨h1, h2, h3, h4⟩ := h
  refine ⟨heap_set (heap_set (heap_set h2 0 (.string ⟨rep.toArray⟩)) 1 uv) 2 rv, ?_, ?_⟩
  · exact (own_txts h3 (by omega) hl).same fun b hb => ⟨⟨by omega, by rw [set3_size]; exact hb.2⟩, set3_far _ _ _ _ _ _ _ (by omega)⟩
  · exact ((h4.setCell (by simp) _).setCell (by simp) _).setCell (by simp) _
theorem mOpen {W wr : World} {rep : List UInt8} {us : List (List UInt8)} {rv uv : Value} (h : MSt W rep us rv uv wr) : wr.cell? ⟨W.heap.size + 1 + 1, 0, none⟩ = some (.string ⟨rep.toArray⟩) ∧ wr.cell? ⟨W.heap.size + 1 + 1, 1, none⟩ = some uv ∧ wr.cell? ⟨W.heap.size + 1 + 1, 2, none⟩ = some rv ∧
    wr.cell? ⟨W.heap.size, 0, none⟩ = some (.string ⟨#[]⟩) ∧ wr.cell? ⟨W.heap.size, 1, none⟩ = some (.slice none 0 0) ∧ wr.cell? ⟨W.heap.size, 2, none⟩ = some (.slice none 0 0) ∧ (∀ o, wr.frozen? ⟨W.heap.size, o, none⟩ = false) ∧ (∀ o, wr.frozen? ⟨W.heap.size + 1 + 1, o, none⟩ = false) := by
  obtain ⟨h1, h2, h3, h4⟩ := h
  obtain ⟨a, b, c, d⟩ := three_cells h1
  obtain ⟨a', b', c', d'⟩ := three_cells h2
  exact ⟨a, b, c, a', b', c', d', d⟩
theorem addU_as (us : List (List UInt8)) (x : List UInt8) : addU us x = if (cleanC x && !us.contains (cleanL x)) && decide (us.length < 4) then us ++ [cleanL x] else us := rfl
theorem one_str (a : ByteArray) : ∀ u ∈ [Value.string a], u.oneCell' = true := by
  intro u hu; simp at hu; subst hu; rfl
set_option maxRecDepth 100000 in
set_option maxHeartbeats 2000000 in
theorem makeS_any (B : Nat) (w0 : World) (xs : List Rl) (v : Value) (h : RlIn (· < B) w0 v xs) (hx : xs.length ≤ 1048576) (hw : ∀ i, i < xs.length → (xs.getD i default).words.length ≤ 1048576 ∧ ∀ j, j < (xs.getD i default).words.length → ((xs.getD i default).words.getD j []).length ≤ 1048576) (W : World) (hb : Below B w0 W) (hB : B ≤ W.heap.size) :
    Calls Tryz.prog 201 #[v] W fun e w' => ∃ uv, e = .returned (pV (makeP xs) uv v) ∧ TxtsIn (fun b => W.heap.size ≤ b ∧ b < w'.heap.size) w' uv (makeP xs).uris ∧ Below W.heap.size W w' := by
  have H1 := fun (W' : World) (hb' : Below W.heap.size W W') => atS_any (· < B) xs v rtoL W' (h.blw (hb.trans (hb'.mono hB)))
  have H2 := fun (W' : World) (hb' : Below W.heap.size W W') => atS_any (· < B) xs v ruriL W' (h.blw (hb.trans (hb'.mono hB)))
  have HP : (makeP xs) = ⟨firstN (wordsOf rtoL xs), urisOf (wordsOf ruriL xs), xs⟩ := rfl
  rw [HP]
  clear HP
  simp only
  have A1 := at_words rtoL xs 0
  have A2 := at_words ruriL xs 0
  obtain ⟨a, cap, b, off, vs, rfl, hcap, hm, hlen, ha, hc⟩ := h
  have HC := Lib.hid hc
  have HA := Lib.hid ha
  have HB := Lib.hid hb
  have HW := Lib.hid hw
  clear hc ha hlen hb hw
  generalize atN rtoL 0 xs = k1 at *
  generalize atN ruriL 0 xs = k2 at *
  generalize wordsOf rtoL xs = w1 at *
  generalize wordsOf ruriL xs = w2 at *
  simp only [rtoL, ruriL] at H1 H2
  have H1 := Lib.hid H1
  rcases A1 with ⟨rfl, rfl⟩ | ⟨k, hk, rfl, rfl⟩
  · show _
    have H2 := Lib.hid H2
    rcases A2 with ⟨rfl, rfl⟩ | ⟨k2, hk2, rfl, rfl⟩
    · go_enter Tryz.func201, Tryz.ntmps201
      go_wp2_with fail
      refine (H1.out _ (mBel W [] _)).mono ?_
      rintro e w' ⟨rfl, rfl⟩
      go_wp2_with fail
      refine (H2.out _ (mBel W [] _)).mono ?_
      rintro e w' ⟨rfl, rfl⟩
      go_wp2
      exact bodyPost_ret (ret_P Tryz.results201 rfl (alloc3_0 W _ _ _)) rfl ⟨_, rfl, txts_nil _ _ _, (((Below.refl _ _).alloc (Nat.le_refl _) _).alloc (by simp) _).alloc (by simp; omega) _⟩
    · obtain ⟨d0, d1, T2⟩ := HC.out k2 hk2
      obtain ⟨ea, hlb⟩ := HA.out (by omega)
      try subst ea
      obtain ⟨a5, cap5, b5, off5, e5, hcap5, hm5, hl5, ha5, hc5⟩ := T2
      rw [e5] at d1
      have HA5 := Lib.hid ha5
      have HC5 := Lib.hid hc5
      have HX := Lib.hid (HW.out k2 hk2)
      have D1 := Lib.hid d1
      have hws : (xs.getD k2 default).words.length ≤ 1048576 := (HW.out k2 hk2).1
      clear d0 d1 ha5 hc5 e5 hl5
      generalize (xs.getD k2 default).words = ws at *
      have p1 := (HB.out.trans ((mBel W [] (.slice (some ⟨b, off, none⟩) xs.length cap)).mono hB)).cell (p := ⟨b, off + k2 * 2 + 1, none⟩) hlb |>.trans D1.out
      have HS := Lib.hid (mSt_start W [] (.slice (some ⟨b, off, none⟩) xs.length cap))
      go_enter Tryz.func201, Tryz.ntmps201
      go_wp2_with fail
      refine (H1.out _ (mBel W [] _)).mono ?_
      rintro e w' ⟨rfl, rfl⟩
      go_wp2_with fail
      refine (H2.out _ (mBel W [] _)).mono ?_
      rintro e w' ⟨rfl, rfl⟩
      go_wp2
      go_loopw [6] (fun i wr => ∃ (k : Nat) (uv : Value), k ≤ ws.length ∧ i = .int .i64 k ∧ MSt W [] ((ws.take k).foldl addU []) (.slice (some ⟨b, off, none⟩) xs.length cap) uv wr) (fun i _ => ws.length - (intOf i).toNat)
      case atStart => exact ⟨0, _, by omega, rfl, HS.out⟩
      case round =>
        obtain ⟨k, uv, hk, rfl, hM⟩ := hrel
        have hbw : Below W.heap.size W wr := hM.2.2.2
        have hW : Below B w0 wr := HB.out.trans (hbw.mono hB)
        have q1 := (hW.cell (p := ⟨b, off + k2 * 2 + 1, none⟩) hlb).trans D1.out
        have hus := uris_four (ws.take k) [] (by simp)
        have hug := uris_get ws k
        by_cases hlt : k < ws.length
        · obtain ⟨ea5, hlb5⟩ := HA5.out (by omega)
          subst ea5
          have q2 := (hW.cell (p := ⟨b5, off5 + k, none⟩) hlb5).trans (HC5.out k hlt)
          have UT := Lib.hid (uris_take ws k hlt)
          have HCL := Lib.hid (fun W => cleanS_any (ws.getD k []) W (Nat.le_trans (HX.out.2 k hlt) (by omega)))
          generalize ws.getD k [] = x at *
          have UA := Lib.hid (UT.out.trans (addU_as _ x))
          have hcl := cleanL_len x
          generalize (ws.take k).foldl addU [] = us at *
          generalize cleanC x = cb at *
          generalize cleanL x = cl at *
          have HM := Lib.hid hM
          have HUG := Lib.hid hug
          have Q1 := Lib.hid q1
          clear hM UT hW hbw hug
          go_wp2_with fail
          refine (HCL.out wr).mono ?_
          rintro e wx ⟨rfl, hb1⟩
          have hM1 := HM.out.later hb1
          have hz1 := hb1.size
          have hzw := hM1.2.2.2.size
          obtain ⟨au, cu, rfl⟩ := own_slice hM1.2.2.1
          obtain ⟨m0, m1, m2, -, -, -, -, mf⟩ := mOpen hM1
          have hT := own_txts hM1.2.2.1 (by omega) HUG.out
          have HH := Lib.hid (hasS_any _ us cl _ wx hT)
          have HM1 := Lib.hid hM1
          clear hM1 HM hb1 hT HCL q1 q2 Q1
          cases cb
          · go_wp2
            go_roundw
            case rel => exact ⟨k + 1, _, by omega, by go_num, by rw [UA.out]; exact HM1.out⟩
            case measure => simp [intOf]; omega
          · generalize us.contains cl = c at *
            cases c
            · by_cases h4 : us.length < 4
              · have d4 : decide ((us.length : Int) < 4) = true := by simp; omega
                have C3 : us.length + 1 ≤ maxLen := by unfold maxLen; omega
                have C4 : (us.length + 1) * 16 ≤ 140737488355328 := by omega
                have UB := Lib.hid (show (ws.take (k + 1)).foldl addU [] = us ++ [cl] by rw [UA.out, decide_eq_true h4]; rfl)
                have HO := Lib.hid HM1.out.2.2.1
                obtain ⟨i0, hi, hz0, hz1', hz2⟩ := info_parts Tryz.infoS
                clear h4
                go_wp2_with (first
                  | (go_at_call 235; refine HH.out.mono ?_; rintro e w' ⟨rfl, rfl⟩)
                  | (at_builtin; refine wpList_append_own _ rfl _ _ 23 rfl (W.heap.size + 1) 9 i0 (.string ByteArray.empty) 1 16 Tryz.underlying23 hi hz0 hz1' hz2 rfl (by decide) _ _ _ rfl (HO.out.alloc _) ⟨wx.heap.size, 0, none⟩ 1 1 [.string ⟨cl.toArray⟩] rfl rfl (cell_one_new _ _ _) (one_str _) C3 C4 (by simp; omega) ?_; intro v' w2 hown' hgrow _; obtain ⟨av, cv, rfl⟩ := own_slice hown'; obtain ⟨S1, S2, S3⟩ := mSt_step HM1.out hown' hgrow; have HS1 := Lib.hid S1; clear hown' hgrow S1 HO HH m0 m1 m2 mf))
                go_roundw
                case rel => exact ⟨k + 1, _, by omega, by go_num, by rw [UB.out]; exact HS1.out⟩
                case measure => simp [intOf]; omega
              · have d4 : decide ((us.length : Int) < 4) = false := by simp; omega
                have UB := Lib.hid (show (ws.take (k + 1)).foldl addU [] = us by rw [UA.out, decide_eq_false h4]; rfl)
                clear h4
                go_wp2_with (first
                  | (go_at_call 235; refine HH.out.mono ?_; rintro e w' ⟨rfl, rfl⟩))
                go_roundw
                case rel => exact ⟨k + 1, _, by omega, by go_num, by rw [UB.out]; exact HM1.out⟩
                case measure => simp [intOf]; omega
            · go_wp2_with (first
                | (go_at_call 235; refine HH.out.mono ?_; rintro e w' ⟨rfl, rfl⟩))
              go_roundw
              case rel => exact ⟨k + 1, _, by omega, by go_num, by rw [UA.out]; exact HM1.out⟩
              case measure => simp [intOf]; omega
        · obtain rfl : k = ws.length := by omega
          rw [List.take_length] at hM hus hug
          obtain ⟨au, cu, rfl⟩ := own_slice hM.2.2.1
          obtain ⟨m0, m1, m2, p0, p1', p2, pf, mf⟩ := mOpen hM
          obtain ⟨F1, F2, F3⟩ := mFin hM hus hug
          have HF1 := Lib.hid F1
          have HF2 := Lib.hid F2
          have HF3 := Lib.hid F3
          clear hM F1 F2 F3 hW hbw hug
          go_wp2
          exact bodyPost_ret (ret_P Tryz.results201 rfl HF1.out) rfl ⟨_, rfl, HF2.out, HF3.out⟩
  · obtain ⟨g0, g1, T1⟩ := HC.out k hk
    obtain ⟨eb, hlc⟩ := HA.out (by omega)
    subst eb
    obtain ⟨a6, cap6, b6, off6, e6, hcap6, hm6, hl6, ha6, hc6⟩ := T1
    rw [e6] at g1
    have r1 := (HB.out.trans ((mBel W [] (.slice (some ⟨b, off, none⟩) xs.length cap)).mono hB)).cell (p := ⟨b, off + k * 2 + 1, none⟩) hlc |>.trans g1
    have HR1 := HW.out k hk
    clear g0 g1 e6
    generalize (xs.getD k default).words = wz at *
    cases wz with
    | nil =>
      show _
      have H2 := Lib.hid H2
      rcases A2 with ⟨rfl, rfl⟩ | ⟨k2, hk2, rfl, rfl⟩
      · go_enter Tryz.func201, Tryz.ntmps201
        go_wp2_with fail
        refine (H1.out _ (mBel W [] _)).mono ?_
        rintro e w' ⟨rfl, rfl⟩
        go_wp2_with fail
        refine (H2.out _ (mBel W [] _)).mono ?_
        rintro e w' ⟨rfl, rfl⟩
        go_wp2
        exact bodyPost_ret (ret_P Tryz.results201 rfl (alloc3_0 W _ _ _)) rfl ⟨_, rfl, txts_nil _ _ _, (((Below.refl _ _).alloc (Nat.le_refl _) _).alloc (by simp) _).alloc (by simp; omega) _⟩
      · obtain ⟨d0, d1, T2⟩ := HC.out k2 hk2
        obtain ⟨ea, hlb⟩ := HA.out (by omega)
        try subst ea
        obtain ⟨a5, cap5, b5, off5, e5, hcap5, hm5, hl5, ha5, hc5⟩ := T2
        rw [e5] at d1
        have HA5 := Lib.hid ha5
        have HC5 := Lib.hid hc5
        have HX := Lib.hid (HW.out k2 hk2)
        have D1 := Lib.hid d1
        have hws : (xs.getD k2 default).words.length ≤ 1048576 := (HW.out k2 hk2).1
        clear d0 d1 ha5 hc5 e5 hl5
        generalize (xs.getD k2 default).words = ws at *
        have p1 := (HB.out.trans ((mBel W [] (.slice (some ⟨b, off, none⟩) xs.length cap)).mono hB)).cell (p := ⟨b, off + k2 * 2 + 1, none⟩) hlb |>.trans D1.out
        have HS := Lib.hid (mSt_start W [] (.slice (some ⟨b, off, none⟩) xs.length cap))
        go_enter Tryz.func201, Tryz.ntmps201
        go_wp2_with fail
        refine (H1.out _ (mBel W [] _)).mono ?_
        rintro e w' ⟨rfl, rfl⟩
        go_wp2_with fail
        refine (H2.out _ (mBel W [] _)).mono ?_
        rintro e w' ⟨rfl, rfl⟩
        go_wp2
        go_loopw [6] (fun i wr => ∃ (k : Nat) (uv : Value), k ≤ ws.length ∧ i = .int .i64 k ∧ MSt W [] ((ws.take k).foldl addU []) (.slice (some ⟨b, off, none⟩) xs.length cap) uv wr) (fun i _ => ws.length - (intOf i).toNat)
        case atStart => exact ⟨0, _, by omega, rfl, HS.out⟩
        case round =>
          obtain ⟨k, uv, hk, rfl, hM⟩ := hrel
          have hbw : Below W.heap.size W wr := hM.2.2.2
          have hW : Below B w0 wr := HB.out.trans (hbw.mono hB)
          have q1 := (hW.cell (p := ⟨b, off + k2 * 2 + 1, none⟩) hlb).trans D1.out
          have hus := uris_four (ws.take k) [] (by simp)
          have hug := uris_get ws k
          by_cases hlt : k < ws.length
          · obtain ⟨ea5, hlb5⟩ := HA5.out (by omega)
            subst ea5
            have q2 := (hW.cell (p := ⟨b5, off5 + k, none⟩) hlb5).trans (HC5.out k hlt)
            have UT := Lib.hid (uris_take ws k hlt)
            have HCL := Lib.hid (fun W => cleanS_any (ws.getD k []) W (Nat.le_trans (HX.out.2 k hlt) (by omega)))
            generalize ws.getD k [] = x at *
            have UA := Lib.hid (UT.out.trans (addU_as _ x))
            have hcl := cleanL_len x
            generalize (ws.take k).foldl addU [] = us at *
            generalize cleanC x = cb at *
            generalize cleanL x = cl at *
            have HM := Lib.hid hM
            have HUG := Lib.hid hug
            have Q1 := Lib.hid q1
            clear hM UT hW hbw hug
            go_wp2_with fail
            refine (HCL.out wr).mono ?_
            rintro e wx ⟨rfl, hb1⟩
            have hM1 := HM.out.later hb1
            have hz1 := hb1.size
            have hzw := hM1.2.2.2.size
            obtain ⟨au, cu, rfl⟩ := own_slice hM1.2.2.1
            obtain ⟨m0, m1, m2, -, -, -, -, mf⟩ := mOpen hM1
            have hT := own_txts hM1.2.2.1 (by omega) HUG.out
            have HH := Lib.hid (hasS_any _ us cl _ wx hT)
            have HM1 := Lib.hid hM1
            clear hM1 HM hb1 hT HCL q1 q2 Q1
            cases cb
            · go_wp2
              go_roundw
              case rel => exact ⟨k + 1, _, by omega, by go_num, by rw [UA.out]; exact HM1.out⟩
              case measure => simp [intOf]; omega
            · generalize us.contains cl = c at *
              cases c
              · by_cases h4 : us.length < 4
                · have d4 : decide ((us.length : Int) < 4) = true := by simp; omega
                  have C3 : us.length + 1 ≤ maxLen := by unfold maxLen; omega
                  have C4 : (us.length + 1) * 16 ≤ 140737488355328 := by omega
                  have UB := Lib.hid (show (ws.take (k + 1)).foldl addU [] = us ++ [cl] by rw [UA.out, decide_eq_true h4]; rfl)
                  have HO := Lib.hid HM1.out.2.2.1
                  obtain ⟨i0, hi, hz0, hz1', hz2⟩ := info_parts Tryz.infoS
                  clear h4
                  go_wp2_with (first
                    | (go_at_call 235; refine HH.out.mono ?_; rintro e w' ⟨rfl, rfl⟩)
                    | (at_builtin; refine wpList_append_own _ rfl _ _ 23 rfl (W.heap.size + 1) 9 i0 (.string ByteArray.empty) 1 16 Tryz.underlying23 hi hz0 hz1' hz2 rfl (by decide) _ _ _ rfl (HO.out.alloc _) ⟨wx.heap.size, 0, none⟩ 1 1 [.string ⟨cl.toArray⟩] rfl rfl (cell_one_new _ _ _) (one_str _) C3 C4 (by simp; omega) ?_; intro v' w2 hown' hgrow _; obtain ⟨av, cv, rfl⟩ := own_slice hown'; obtain ⟨S1, S2, S3⟩ := mSt_step HM1.out hown' hgrow; have HS1 := Lib.hid S1; clear hown' hgrow S1 HO HH m0 m1 m2 mf))
                  go_roundw
                  case rel => exact ⟨k + 1, _, by omega, by go_num, by rw [UB.out]; exact HS1.out⟩
                  case measure => simp [intOf]; omega
                · have d4 : decide ((us.length : Int) < 4) = false := by simp; omega
                  have UB := Lib.hid (show (ws.take (k + 1)).foldl addU [] = us by rw [UA.out, decide_eq_false h4]; rfl)
                  clear h4
                  go_wp2_with (first
                    | (go_at_call 235; refine HH.out.mono ?_; rintro e w' ⟨rfl, rfl⟩))
                  go_roundw
                  case rel => exact ⟨k + 1, _, by omega, by go_num, by rw [UB.out]; exact HM1.out⟩
                  case measure => simp [intOf]; omega
              · go_wp2_with (first
                  | (go_at_call 235; refine HH.out.mono ?_; rintro e w' ⟨rfl, rfl⟩))
                go_roundw
                case rel => exact ⟨k + 1, _, by omega, by go_num, by rw [UA.out]; exact HM1.out⟩
                case measure => simp [intOf]; omega
          · obtain rfl : k = ws.length := by omega
            rw [List.take_length] at hM hus hug
            obtain ⟨au, cu, rfl⟩ := own_slice hM.2.2.1
            obtain ⟨m0, m1, m2, p0, p1', p2, pf, mf⟩ := mOpen hM
            obtain ⟨F1, F2, F3⟩ := mFin hM hus hug
            have HF1 := Lib.hid F1
            have HF2 := Lib.hid F2
            have HF3 := Lib.hid F3
            clear hM F1 F2 F3 hW hbw hug
            go_wp2
            exact bodyPost_ret (ret_P Tryz.results201 rfl HF1.out) rfl ⟨_, rfl, HF2.out, HF3.out⟩
    | cons y yr =>
      obtain ⟨ec, hld⟩ := ha6 (by simp)
      subst ec
      have r2 := (HB.out.trans ((mBel W [] (.slice (some ⟨b, off, none⟩) xs.length cap)).mono hB)).cell (p := ⟨b6, off6, none⟩) hld |>.trans (hc6 0 (by simp))
      have hy : y.length ≤ 1048576 := by have := HR1.2 0 (by simp); simpa using this
      have HN := Lib.hid (fun W => Nm.l00Word_any ⟨y.toArray⟩ W (by simp [ByteArray.size, maxLen]; omega))
      simp only [List.getD_cons_zero] at r2
      have HFN : firstN (y :: yr) = if Nm.nameB ⟨y.toArray⟩ then y else [] := rfl
      rw [HFN]
      clear HFN ha6 hc6 hl6 HR1
      generalize Nm.nameB ⟨y.toArray⟩ = nb at *
      cases nb
      · show _
        have H2 := Lib.hid H2
        rcases A2 with ⟨rfl, rfl⟩ | ⟨k2, hk2, rfl, rfl⟩
        · go_enter Tryz.func201, Tryz.ntmps201
          go_wp2_with fail
          refine (H1.out _ (mBel W [] _)).mono ?_
          rintro e w' ⟨rfl, rfl⟩
          go_wp2_with fail
          refine (HN.out _).mono ?_
          rintro e w' ⟨rfl, rfl⟩
          go_wp2_with fail
          refine (H2.out _ (mBel W [] _)).mono ?_
          rintro e w' ⟨rfl, rfl⟩
          go_wp2
          exact bodyPost_ret (ret_P Tryz.results201 rfl (alloc3_0 W _ _ _)) rfl ⟨_, rfl, txts_nil _ _ _, (((Below.refl _ _).alloc (Nat.le_refl _) _).alloc (by simp) _).alloc (by simp; omega) _⟩
        · obtain ⟨d0, d1, T2⟩ := HC.out k2 hk2
          obtain ⟨ea, hlb⟩ := HA.out (by omega)
          try subst ea
          obtain ⟨a5, cap5, b5, off5, e5, hcap5, hm5, hl5, ha5, hc5⟩ := T2
          rw [e5] at d1
          have HA5 := Lib.hid ha5
          have HC5 := Lib.hid hc5
          have HX := Lib.hid (HW.out k2 hk2)
          have D1 := Lib.hid d1
          have hws : (xs.getD k2 default).words.length ≤ 1048576 := (HW.out k2 hk2).1
          clear d0 d1 ha5 hc5 e5 hl5
          generalize (xs.getD k2 default).words = ws at *
          have p1 := (HB.out.trans ((mBel W [] (.slice (some ⟨b, off, none⟩) xs.length cap)).mono hB)).cell (p := ⟨b, off + k2 * 2 + 1, none⟩) hlb |>.trans D1.out
          have HS := Lib.hid (mSt_start W [] (.slice (some ⟨b, off, none⟩) xs.length cap))
          go_enter Tryz.func201, Tryz.ntmps201
          go_wp2_with fail
          refine (H1.out _ (mBel W [] _)).mono ?_
          rintro e w' ⟨rfl, rfl⟩
          go_wp2_with fail
          refine (HN.out _).mono ?_
          rintro e w' ⟨rfl, rfl⟩
          go_wp2_with fail
          refine (H2.out _ (mBel W [] _)).mono ?_
          rintro e w' ⟨rfl, rfl⟩
          go_wp2
          go_loopw [6] (fun i wr => ∃ (k : Nat) (uv : Value), k ≤ ws.length ∧ i = .int .i64 k ∧ MSt W [] ((ws.take k).foldl addU []) (.slice (some ⟨b, off, none⟩) xs.length cap) uv wr) (fun i _ => ws.length - (intOf i).toNat)
          case atStart => exact ⟨0, _, by omega, rfl, HS.out⟩
          case round =>
            obtain ⟨k, uv, hk, rfl, hM⟩ := hrel
            have hbw : Below W.heap.size W wr := hM.2.2.2
            have hW : Below B w0 wr := HB.out.trans (hbw.mono hB)
            have q1 := (hW.cell (p := ⟨b, off + k2 * 2 + 1, none⟩) hlb).trans D1.out
            have hus := uris_four (ws.take k) [] (by simp)
            have hug := uris_get ws k
            by_cases hlt : k < ws.length
            · obtain ⟨ea5, hlb5⟩ := HA5.out (by omega)
              subst ea5
              have q2 := (hW.cell (p := ⟨b5, off5 + k, none⟩) hlb5).trans (HC5.out k hlt)
              have UT := Lib.hid (uris_take ws k hlt)
              have HCL := Lib.hid (fun W => cleanS_any (ws.getD k []) W (Nat.le_trans (HX.out.2 k hlt) (by omega)))
              generalize ws.getD k [] = x at *
              have UA := Lib.hid (UT.out.trans (addU_as _ x))
              have hcl := cleanL_len x
              generalize (ws.take k).foldl addU [] = us at *
              generalize cleanC x = cb at *
              generalize cleanL x = cl at *
              have HM := Lib.hid hM
              have HUG := Lib.hid hug
              have Q1 := Lib.hid q1
              clear hM UT hW hbw hug
              go_wp2_with fail
              refine (HCL.out wr).mono ?_
              rintro e wx ⟨rfl, hb1⟩
              have hM1 := HM.out.later hb1
              have hz1 := hb1.size
              have hzw := hM1.2.2.2.size
              obtain ⟨au, cu, rfl⟩ := own_slice hM1.2.2.1
              obtain ⟨m0, m1, m2, -, -, -, -, mf⟩ := mOpen hM1
              have hT := own_txts hM1.2.2.1 (by omega) HUG.out
              have HH := Lib.hid (hasS_any _ us cl _ wx hT)
              have HM1 := Lib.hid hM1
              clear hM1 HM hb1 hT HCL q1 q2 Q1
              cases cb
              · go_wp2
                go_roundw
                case rel => exact ⟨k + 1, _, by omega, by go_num, by rw [UA.out]; exact HM1.out⟩
                case measure => simp [intOf]; omega
              · generalize us.contains cl = c at *
                cases c
                · by_cases h4 : us.length < 4
                  · have d4 : decide ((us.length : Int) < 4) = true := by simp; omega
                    have C3 : us.length + 1 ≤ maxLen := by unfold maxLen; omega
                    have C4 : (us.length + 1) * 16 ≤ 140737488355328 := by omega
                    have UB := Lib.hid (show (ws.take (k + 1)).foldl addU [] = us ++ [cl] by rw [UA.out, decide_eq_true h4]; rfl)
                    have HO := Lib.hid HM1.out.2.2.1
                    obtain ⟨i0, hi, hz0, hz1', hz2⟩ := info_parts Tryz.infoS
                    clear h4
                    go_wp2_with (first
                      | (go_at_call 235; refine HH.out.mono ?_; rintro e w' ⟨rfl, rfl⟩)
                      | (at_builtin; refine wpList_append_own _ rfl _ _ 23 rfl (W.heap.size + 1) 9 i0 (.string ByteArray.empty) 1 16 Tryz.underlying23 hi hz0 hz1' hz2 rfl (by decide) _ _ _ rfl (HO.out.alloc _) ⟨wx.heap.size, 0, none⟩ 1 1 [.string ⟨cl.toArray⟩] rfl rfl (cell_one_new _ _ _) (one_str _) C3 C4 (by simp; omega) ?_; intro v' w2 hown' hgrow _; obtain ⟨av, cv, rfl⟩ := own_slice hown'; obtain ⟨S1, S2, S3⟩ := mSt_step HM1.out hown' hgrow; have HS1 := Lib.hid S1; clear hown' hgrow S1 HO HH m0 m1 m2 mf))
                    go_roundw
                    case rel => exact ⟨k + 1, _, by omega, by go_num, by rw [UB.out]; exact HS1.out⟩
                    case measure => simp [intOf]; omega
                  · have d4 : decide ((us.length : Int) < 4) = false := by simp; omega
                    have UB := Lib.hid (show (ws.take (k + 1)).foldl addU [] = us by rw [UA.out, decide_eq_false h4]; rfl)
                    clear h4
                    go_wp2_with (first
                      | (go_at_call 235; refine HH.out.mono ?_; rintro e w' ⟨rfl, rfl⟩))
                    go_roundw
                    case rel => exact ⟨k + 1, _, by omega, by go_num, by rw [UB.out]; exact HM1.out⟩
                    case measure => simp [intOf]; omega
                · go_wp2_with (first
                    | (go_at_call 235; refine HH.out.mono ?_; rintro e w' ⟨rfl, rfl⟩))
                  go_roundw
                  case rel => exact ⟨k + 1, _, by omega, by go_num, by rw [UA.out]; exact HM1.out⟩
                  case measure => simp [intOf]; omega
            · obtain rfl : k = ws.length := by omega
              rw [List.take_length] at hM hus hug
              obtain ⟨au, cu, rfl⟩ := own_slice hM.2.2.1
              obtain ⟨m0, m1, m2, p0, p1', p2, pf, mf⟩ := mOpen hM
              obtain ⟨F1, F2, F3⟩ := mFin hM hus hug
              have HF1 := Lib.hid F1
              have HF2 := Lib.hid F2
              have HF3 := Lib.hid F3
              clear hM F1 F2 F3 hW hbw hug
              go_wp2
              exact bodyPost_ret (ret_P Tryz.results201 rfl HF1.out) rfl ⟨_, rfl, HF2.out, HF3.out⟩
      · show _
        have H2 := Lib.hid H2
        rcases A2 with ⟨rfl, rfl⟩ | ⟨k2, hk2, rfl, rfl⟩
        · go_enter Tryz.func201, Tryz.ntmps201
          go_wp2_with fail
          refine (H1.out _ (mBel W [] _)).mono ?_
          rintro e w' ⟨rfl, rfl⟩
          go_wp2_with fail
          refine (HN.out _).mono ?_
          rintro e w' ⟨rfl, rfl⟩
          go_wp2_with fail
          refine (H2.out _ (mBel W y _)).mono ?_
          rintro e w' ⟨rfl, rfl⟩
          go_wp2
          exact bodyPost_ret (ret_P Tryz.results201 rfl (alloc3_0 W _ _ _)) rfl ⟨_, rfl, txts_nil _ _ _, (((Below.refl _ _).alloc (Nat.le_refl _) _).alloc (by simp) _).alloc (by simp; omega) _⟩
        · obtain ⟨d0, d1, T2⟩ := HC.out k2 hk2
          obtain ⟨ea, hlb⟩ := HA.out (by omega)
          try subst ea
          obtain ⟨a5, cap5, b5, off5, e5, hcap5, hm5, hl5, ha5, hc5⟩ := T2
          rw [e5] at d1
          have HA5 := Lib.hid ha5
          have HC5 := Lib.hid hc5
          have HX := Lib.hid (HW.out k2 hk2)
          have D1 := Lib.hid d1
          have hws : (xs.getD k2 default).words.length ≤ 1048576 := (HW.out k2 hk2).1
          clear d0 d1 ha5 hc5 e5 hl5
          generalize (xs.getD k2 default).words = ws at *
          have p1 := (HB.out.trans ((mBel W y (.slice (some ⟨b, off, none⟩) xs.length cap)).mono hB)).cell (p := ⟨b, off + k2 * 2 + 1, none⟩) hlb |>.trans D1.out
          have HS := Lib.hid (mSt_start W y (.slice (some ⟨b, off, none⟩) xs.length cap))
          go_enter Tryz.func201, Tryz.ntmps201
          go_wp2_with fail
          refine (H1.out _ (mBel W [] _)).mono ?_
          rintro e w' ⟨rfl, rfl⟩
          go_wp2_with fail
          refine (HN.out _).mono ?_
          rintro e w' ⟨rfl, rfl⟩
          go_wp2_with fail
          refine (H2.out _ (mBel W y _)).mono ?_
          rintro e w' ⟨rfl, rfl⟩
          go_wp2
          go_loopw [6] (fun i wr => ∃ (k : Nat) (uv : Value), k ≤ ws.length ∧ i = .int .i64 k ∧ MSt W y ((ws.take k).foldl addU []) (.slice (some ⟨b, off, none⟩) xs.length cap) uv wr) (fun i _ => ws.length - (intOf i).toNat)
          case atStart => exact ⟨0, _, by omega, rfl, HS.out⟩
          case round =>
            obtain ⟨k, uv, hk, rfl, hM⟩ := hrel
            have hbw : Below W.heap.size W wr := hM.2.2.2
            have hW : Below B w0 wr := HB.out.trans (hbw.mono hB)
            have q1 := (hW.cell (p := ⟨b, off + k2 * 2 + 1, none⟩) hlb).trans D1.out
            have hus := uris_four (ws.take k) [] (by simp)
            have hug := uris_get ws k
            by_cases hlt : k < ws.length
            · obtain ⟨ea5, hlb5⟩ := HA5.out (by omega)
              subst ea5
              have q2 := (hW.cell (p := ⟨b5, off5 + k, none⟩) hlb5).trans (HC5.out k hlt)
              have UT := Lib.hid (uris_take ws k hlt)
              have HCL := Lib.hid (fun W => cleanS_any (ws.getD k []) W (Nat.le_trans (HX.out.2 k hlt) (by omega)))
              generalize ws.getD k [] = x at *
              have UA := Lib.hid (UT.out.trans (addU_as _ x))
              have hcl := cleanL_len x
              generalize (ws.take k).foldl addU [] = us at *
              generalize cleanC x = cb at *
              generalize cleanL x = cl at *
              have HM := Lib.hid hM
              have HUG := Lib.hid hug
              have Q1 := Lib.hid q1
              clear hM UT hW hbw hug
              go_wp2_with fail
              refine (HCL.out wr).mono ?_
              rintro e wx ⟨rfl, hb1⟩
              have hM1 := HM.out.later hb1
              have hz1 := hb1.size
              have hzw := hM1.2.2.2.size
              obtain ⟨au, cu, rfl⟩ := own_slice hM1.2.2.1
              obtain ⟨m0, m1, m2, -, -, -, -, mf⟩ := mOpen hM1
              have hT := own_txts hM1.2.2.1 (by omega) HUG.out
              have HH := Lib.hid (hasS_any _ us cl _ wx hT)
              have HM1 := Lib.hid hM1
              clear hM1 HM hb1 hT HCL q1 q2 Q1
              cases cb
              · go_wp2
                go_roundw
                case rel => exact ⟨k + 1, _, by omega, by go_num, by rw [UA.out]; exact HM1.out⟩
                case measure => simp [intOf]; omega
              · generalize us.contains cl = c at *
                cases c
                · by_cases h4 : us.length < 4
                  · have d4 : decide ((us.length : Int) < 4) = true := by simp; omega
                    have C3 : us.length + 1 ≤ maxLen := by unfold maxLen; omega
                    have C4 : (us.length + 1) * 16 ≤ 140737488355328 := by omega
                    have UB := Lib.hid (show (ws.take (k + 1)).foldl addU [] = us ++ [cl] by rw [UA.out, decide_eq_true h4]; rfl)
                    have HO := Lib.hid HM1.out.2.2.1
                    obtain ⟨i0, hi, hz0, hz1', hz2⟩ := info_parts Tryz.infoS
                    clear h4
                    go_wp2_with (first
                      | (go_at_call 235; refine HH.out.mono ?_; rintro e w' ⟨rfl, rfl⟩)
                      | (at_builtin; refine wpList_append_own _ rfl _ _ 23 rfl (W.heap.size + 1) 9 i0 (.string ByteArray.empty) 1 16 Tryz.underlying23 hi hz0 hz1' hz2 rfl (by decide) _ _ _ rfl (HO.out.alloc _) ⟨wx.heap.size, 0, none⟩ 1 1 [.string ⟨cl.toArray⟩] rfl rfl (cell_one_new _ _ _) (one_str _) C3 C4 (by simp; omega) ?_; intro v' w2 hown' hgrow _; obtain ⟨av, cv, rfl⟩ := own_slice hown'; obtain ⟨S1, S2, S3⟩ := mSt_step HM1.out hown' hgrow; have HS1 := Lib.hid S1; clear hown' hgrow S1 HO HH m0 m1 m2 mf))
                    go_roundw
                    case rel => exact ⟨k + 1, _, by omega, by go_num, by rw [UB.out]; exact HS1.out⟩
                    case measure => simp [intOf]; omega
                  · have d4 : decide ((us.length : Int) < 4) = false := by simp; omega
                    have UB := Lib.hid (show (ws.take (k + 1)).foldl addU [] = us by rw [UA.out, decide_eq_false h4]; rfl)
                    clear h4
                    go_wp2_with (first
                      | (go_at_call 235; refine HH.out.mono ?_; rintro e w' ⟨rfl, rfl⟩))
                    go_roundw
                    case rel => exact ⟨k + 1, _, by omega, by go_num, by rw [UB.out]; exact HM1.out⟩
                    case measure => simp [intOf]; omega
                · go_wp2_with (first
                    | (go_at_call 235; refine HH.out.mono ?_; rintro e w' ⟨rfl, rfl⟩))
                  go_roundw
                  case rel => exact ⟨k + 1, _, by omega, by go_num, by rw [UA.out]; exact HM1.out⟩
                  case measure => simp [intOf]; omega
            · obtain rfl : k = ws.length := by omega
              rw [List.take_length] at hM hus hug
              obtain ⟨au, cu, rfl⟩ := own_slice hM.2.2.1
              obtain ⟨m0, m1, m2, p0, p1', p2, pf, mf⟩ := mOpen hM
              obtain ⟨F1, F2, F3⟩ := mFin hM hus hug
              have HF1 := Lib.hid F1
              have HF2 := Lib.hid F2
              have HF3 := Lib.hid F3
              clear hM F1 F2 F3 hW hbw hug
              go_wp2
              exact bodyPost_ret (ret_P Tryz.results201 rfl HF1.out) rfl ⟨_, rfl, HF2.out, HF3.out⟩
end Go.Proofs.YtmaknkbmilcanaaGreatDoor.Po
