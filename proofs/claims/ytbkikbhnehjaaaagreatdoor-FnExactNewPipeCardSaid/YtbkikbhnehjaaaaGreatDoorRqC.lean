
/-
  The program's strings.Split at ';', strings.FieldsFunc at isHeaderSpace, and readRule, walked. The program's ReadPolicy, walked. The law FnExactReadPolicy, walked.
-/
import Derived.Test.YtbkikbhnehjaaaaGreatDoorRqA
import Derived.Test.YtbkikbhnehjaaaaGreatDoorShelf
import Derived.Test.YtbkikbhnehjaaaaGreatDoorUrlImplA
import Derived.Deep.AppendLies
import Derived.Deep.RegionLaw
namespace Go.Proofs.YtbkikbhnehjaaaaGreatDoor.Rp
open Go.RowKit
open Go.Proofs.YtbkikbhnehjaaaaGreatDoor.Po
open Go.Proofs.YtbkikbhnehjaaaaGreatDoor.Tx hiding ret_b ret_i
open Go.Proofs.YtbkikbhnehjaaaaGreatDoor.Ow
open Go.Proofs.YtbkikbhnehjaaaaGreatDoor.Ul (lowL low_len Tab MaxL)
theorem own_full {w : World} {b0 : Nat} {ns : List (List UInt8)} {A : Nat} (hA : b0 ≤ A) (hw : w.heap[A]? = some (.cells (strV ns).toArray 9 (0, 0))) (hn : ns.length ≤ maxLen) : O1 w b0 (.slice (some ⟨A, 0, none⟩) ns.length ns.length) ns :=
  ⟨by simp [strV], .inr ⟨A, _, _, rfl, hA, hw, Nat.le_refl _, hn, by simp [strV], by simp [strV, List.take_of_length_le]⟩⟩
theorem strV_map (l : List ByteArray) : l.map Value.string = strV (l.map fun s => s.data.toList) := by
  unfold strV
  rw [List.map_map]
  apply List.map_congr_left
  intro x _
  simp
theorem splitI_any (t : List UInt8) (w : World) (hM : MaxL w) (hl : t.length ≤ 65536) : Calls Tryz.prog 111 #[.string ⟨t.toArray⟩, .string ⟨#[59]⟩] w (NewO w (cutA 59 [] t)) := by
  obtain ⟨m, hm⟩ := hM
  have h := Tryz.strings_Split ⟨t.toArray⟩ ⟨#[59]⟩ m w (by simp [ByteArray.size]; omega) hm (by decide)
  have hd : (Lib.splitB ⟨#[59]⟩ 0 (Lib.countB ⟨t.toArray⟩ ⟨#[59]⟩) ⟨t.toArray⟩).map (fun s => s.data.toList) = cutA 59 [] t := by
    rw [Lib.splitB_data]; exact split_cut 59 t
  have hn : Lib.countB ⟨t.toArray⟩ ⟨#[59]⟩ + 1 = (cutA 59 [] t).length := by rw [← hd, List.length_map, Lib.splitB_all _ (by decide) 0 _ _ rfl]
  rw [strV_map, hd, hn] at h
  refine h.mono ?_
  rintro e w' ⟨rfl, rfl⟩
  have := (cutA_len 59 t []).1
  exact ⟨_, rfl, own_full (Nat.le_refl _) (heap_alloc_new _ _) (by unfold maxLen; omega), (Below.refl _ _).alloc (Nat.le_refl _) _⟩
theorem fieldsI_any (t : List UInt8) (w : World) (hl : t.length ≤ 65536) : Calls Tryz.prog 202 #[.string ⟨t.toArray⟩, .func (.func 203) #[] #[]] w (NewO w (wordsA [] t)) := by
  have h := Tryz.strings_FieldsFunc_grows 203 #[] (fun args w => enters_of Tryz.func203 (by kernel_rfl) rfl args w) blkP ⟨t.toArray⟩ w (by simp [ByteArray.size]; omega) (fun W x hx _ => Bk.space_any x hx W)
  have hd := fields_words t
  have hn : (Lib.goFieldsP blkP ⟨t.toArray⟩).length = (wordsA [] t).length := by rw [← hd, List.length_map]
  rw [strV_map, hd, hn] at h
  refine h.mono ?_
  rintro e w' ⟨A, rfl, _, ho, hb⟩
  exact ⟨_, rfl, ho, hb⟩
/-- the words behind k rounds, in the rule that lies in block g -/
def WRel (w1 : World) (base g : Nat) (nm : List UInt8) (us : List (List UInt8)) (wr : World) : Prop :=
  ∃ cur, wr.heap[g]? = some (.cells #[.string ⟨nm.toArray⟩, cur] 149 (0, 0)) ∧ O1 wr base cur us ∧ cur.ownBlock ≠ some g ∧ Below w1.heap.size w1 wr
theorem O1.far {w : World} {a g o : Nat} {v x : Value} {ns : List (List UInt8)} (h : O1 w a v ns) (hne : v.ownBlock ≠ some g) : O1 (w.setCell ⟨g, o, none⟩ x) a v ns :=
  h.kept (row := some g) (far_grown w g o x) (.inr hne)
theorem wRel_own {B : Nat} {wr w2 : World} {cur : Value} {us : List (List UInt8)} (h : O1 wr B cur us) (hb : Below wr.heap.size wr.drew w2) : w2.ownsRow B 9 1 cur us.length (strV us) :=
  h.kept (w' := w2) (row := none) ⟨hb.os, hb.tape, hb.output, hb.size, fun b hlt _ => hb.block b hlt⟩ (by rcases Classical.em (cur.ownBlock = none) with h | h; exact .inl h; exact .inr h)
theorem wRel_step {w1 wr w2 w4 : World} {base g : Nat} {cur : Value} {nm : List UInt8} {us : List (List UInt8)} {t2 : List UInt8} {gg ccap : Nat} {o : Obj}
    (hblk : wr.heap[g]? = some (.cells #[.string ⟨nm.toArray⟩, cur] 149 (0, 0))) (hRB : Below w1.heap.size w1 wr) (hg0 : w1.heap.size ≤ g) (hb0 : w1.heap.size ≤ base) (hGlt : g < wr.heap.size) (hne : cur.ownBlock ≠ some g)
    (ho : O1 wr base cur us) (hb : Below wr.drew.heap.size wr.drew w2)
    (h4 : w4.ownsRow base 9 1 (.slice (some ⟨gg, 0, none⟩) (us.length + 1) ccap) (us.length + 1) (strV us ++ [.string ⟨t2.toArray⟩])) (hg : (w2.alloc o).grownBy w4 cur.ownBlock) (hat : cur.ownBlock = some gg ∨ gg = w2.heap.size + 1) :
    WRel w1 base g nm (us ++ [t2]) (w4.setCell ⟨g, 1, none⟩ (.slice (some ⟨gg, 0, none⟩) (us.length + 1) ccap)) := by
  have hlt := World.ownsRow.lt ho
  have hbs : wr.heap.size ≤ w2.heap.size := hb.size
  have hgg : gg ≠ g := by
    intro e
    rcases hat with h | h
    · exact hne (by rw [h, e])
    · omega
  have hw4 : w4.heap[g]? = wr.heap[g]? := by
    rw [hg.block _ (by simp; omega) (fun e => hne e.symm), heap_alloc_old _ _ (by omega)]
    exact hb.block _ hGlt
  have hsz := hRB.size
  have hbW : Below w1.heap.size w1 w2 := hRB.trans (Below.mono (w := wr) ⟨hb.os, hb.tape, hb.output, hb.size, hb.block⟩ hsz)
  have h4' : O1 w4 base (.slice (some ⟨gg, 0, none⟩) (us.length + 1) ccap) (us ++ [t2]) := O1.snoc h4
  have hne2 : (Value.slice (some ⟨gg, 0, none⟩) (us.length + 1) ccap).ownBlock ≠ some g := fun e => hgg (by simpa [Value.ownBlock] using e)
  exact ⟨_, heap_set (hw4.trans hblk) 1 _, O1.far h4' hne2, hne2, ((hbW.alloc (by omega) o).grown hg (by simp; omega) (fun b e => by have := hlt b e; omega)).setCell hg0 _⟩
theorem ret_R2 {fn : Func} {a s B : Nat} {tmps : Array Value} {X : World} {c0 c1 x : Value} {T : TypeId} (hres : fn.results = #[.cell a 149, .tmp s]) (ha : tmps[a]?.getD undef = .pointer (some ⟨B, 0, none⟩)) (hs : tmps[s]?.getD undef = x) (h : X.heap[B]? = some (.cells #[c0, c1] T (0, 0))) :
    (results fn tmps).run Tryz.prog X = .ok (.tuple #[.agg #[c0, c1], x]) X := by
  obtain ⟨k0, k1, _⟩ := two_cells h
  simp [results, hres, ha, hs, go_sem, k0, k1]
theorem heap_set2 {w : World} {b : Nat} {a0 a1 : Value} {T : TypeId} (h : w.heap[b]? = some (.cells #[a0, a1] T (0, 0))) (x y : Value) : (set2 w b 0 x y).heap[b]? = some (.cells #[x, y] T (0, 0)) :=
  heap_set (heap_set h 0 x) 1 y
abbrev zeroR : Obj := .cells #[.string ⟨#[]⟩, .slice none 0 0] 149
theorem below_set2 {W w : World} (h : Below W.heap.size W w) (x y : Value) : Below W.heap.size W (set2 w W.heap.size 0 x y) := (h.setCell (by simp) _).setCell (by simp) _
/-- a rule read, if there is one -/
def RuPost (W : World) (p : List UInt8) (e : Ending) (w' : World) : Prop :=
  ∃ (nm : List UInt8) (wv : Value) (ok : Bool), e = .returned (.tuple #[.agg #[.string ⟨nm.toArray⟩, wv], .bool ok]) ∧ (∃ a l c, wv = .slice a l c) ∧ Below W.heap.size W w' ∧
    ((ok = false ∧ ruleOf p = none) ∨ (ok = true ∧ ∃ ws, ruleOf p = some ⟨nm, ws⟩ ∧ O1 w' W.heap.size wv ws))
theorem rule_nil {p : List UInt8} (h : wordsA [] p = []) : ruleOf p = none := by simp [ruleOf, h]
theorem rule_bad {p w : List UInt8} {ws : List (List UInt8)} (h : wordsA [] p = w :: ws) (hn : rnameB (lowL w) = false) : ruleOf p = none := by simp [ruleOf, h, hn]
theorem rule_some {p w : List UInt8} {ws : List (List UInt8)} (h : wordsA [] p = w :: ws) (hn : rnameB (lowL w) = true) : ruleOf p = some ⟨lowL w, ws⟩ := by simp [ruleOf, h, hn]
set_option maxRecDepth 100000 in
set_option maxHeartbeats 8000000 in
theorem readRule_any (p : List UInt8) (hl : p.length ≤ 65536) (W : World) :
    Calls Tryz.prog 112 #[.string ⟨p.toArray⟩] W (RuPost W p) := by
  obtain ⟨hwl, hwm⟩ := wordsA_len p []
  have HF := Lib.hid (fun W' => fieldsI_any p W' hl)
  have RN := Lib.hid (fun h => rule_nil (p := p) h)
  have RB := Lib.hid (fun w ws h h2 => rule_bad (p := p) (w := w) (ws := ws) h h2)
  have RS := Lib.hid (fun w ws h h2 => rule_some (p := p) (w := w) (ws := ws) h h2)
  generalize wordsA [] p = ww at *
  have B0 := Lib.hid ((Below.refl W.heap.size W).alloc (Nat.le_refl _) zeroR)
  have Z0 := Lib.hid (heap_alloc_new W zeroR)
  obtain ⟨i0, hi, hz0, hz1, hz2⟩ := info_parts Tryz.infoS
  go_enter Tryz.func112, Tryz.ntmps112
  go_wp2_with fail
  refine (HF.out _).mono ?_
  rintro e w1 ⟨wv, rfl, ho1, hb1⟩
  have hs1 : W.heap.size + 1 ≤ w1.heap.size := by have := hb1.size; simpa using this
  have Z1 := Lib.hid ((hb1.block W.heap.size (by simp)).trans Z0.out)
  have B1 := Lib.hid (below_chain B0.out hb1)
  obtain ⟨aw, cw, rfl⟩ := ho1.slice
  obtain ⟨n0, n1, nf⟩ := two_cells Z1.out
  clear hb1
  cases ww with
  | nil =>
    have HFIN := Lib.hid (heap_set2 Z1.out (.string ⟨#[]⟩) (.slice none 0 0))
    have E := Lib.hid (RN.out rfl)
    have BF := Lib.hid (below_set2 B1.out (.string ⟨#[]⟩) (.slice none 0 0))
    go_wp2
    exact bodyPost_ret (ret_R2 Tryz.results112 rfl rfl HFIN.out) rfl ⟨[], _, false, rfl, ⟨_, _, _, rfl⟩, BF.out, .inl ⟨rfl, E.out⟩⟩
  | cons h ws =>
    obtain ⟨a0, c0, b0, o0, ea0, hcap, -, -, hpa, hpc⟩ := ho1.txts (fun p hh => by have := hwm p hh; simp at this; omega) (by simp at hwl ⊢; omega)
    obtain ⟨ea, -, hlb⟩ := hpa (by simp)
    cases ea0
    subst ea
    have q0 := hpc 0 (by simp)
    have HPC := Lib.hid (fun i (hi : i < ws.length) => (hpc (i + 1) (by simpa using hi)))
    simp only [List.getD_cons_zero, Nat.add_zero] at q0
    have hhl : h.length ≤ 65537 := by have := hwm h (by simp); simp at this; omega
    have hws : ws.length ≤ 65537 := by simp only [List.length_cons] at hwl; omega
    have HWM := Lib.hid (fun i (hi : i < ws.length) => show (ws.getD i []).length ≤ 65537 by have := hwm (ws.getD i []) (List.mem_cons_of_mem _ (getT_mem ws i hi)); simp only [List.length_nil] at this; omega)
    have HLO := Lib.hid (fun W' => Ul.lowerI_any h W' (by omega))
    have hnl : (lowL h).length ≤ 65537 := by rw [low_len]; exact hhl
    have RB := Lib.hid (RB.out h ws rfl)
    have RS := Lib.hid (RS.out h ws rfl)
    generalize lowL h = nm at *
    clear hpa hpc hwm RN
    go_wp2_with fail
    refine (HLO.out w1).mono ?_
    rintro e w2 ⟨rfl, hb2⟩
    have hs2 := hb2.size
    have Z2 := Lib.hid ((hb2.block W.heap.size (by omega)).trans Z1.out)
    have B2 := Lib.hid (below_chain B1.out hb2)
    have HP2 := Lib.hid (fun i (hi : i < ws.length) => (hb2.cell (p := ⟨b0, o0 + (i + 1), none⟩) hlb).trans (HPC.out i hi))
    have X3 := Lib.hid (heap_alloc_new w2 (.cells #[.string ⟨nm.toArray⟩, .slice none 0 0] 149))
    have HNm := Lib.hid (fun W => nameI_any nm W (by omega))
    obtain ⟨nb, hnb⟩ : ∃ c, rnameB nm = c := ⟨_, rfl⟩
    rw [hnb] at HNm
    obtain ⟨x0, x1, xf⟩ := two_cells X3.out
    have B3 := Lib.hid (B2.out.alloc B2.out.size (.cells #[.string ⟨nm.toArray⟩, .slice none 0 0] 149))
    have Z3 := Lib.hid ((heap_alloc_old w2 (.cells #[.string ⟨nm.toArray⟩, .slice none 0 0] 149) (by omega)).trans Z2.out)
    clear hb2 q0 HPC n0 n1 nf
    cases nb with
    | false =>
      have E := Lib.hid (RB.out hnb)
      go_wp2_with fail
      refine (HNm.out _).mono ?_
      rintro e w4 ⟨rfl, hb4⟩
      have z4 := (hb4.block W.heap.size (by simp; omega)).trans Z3.out
      obtain ⟨m0, m1, mf⟩ := two_cells z4
      have HFIN := Lib.hid (heap_set2 z4 (.string ⟨#[]⟩) (.slice none 0 0))
      have BF := Lib.hid (below_set2 (below_chain B3.out hb4) (.string ⟨#[]⟩) (.slice none 0 0))
      clear hb4 z4
      go_wp2
      exact bodyPost_ret (ret_R2 Tryz.results112 rfl rfl HFIN.out) rfl ⟨[], _, false, rfl, ⟨_, _, _, rfl⟩, BF.out, .inl ⟨rfl, E.out⟩⟩
    | true =>
      have E := Lib.hid (RS.out hnb)
      go_wp2_with fail
      refine (HNm.out _).mono ?_
      rintro e w4 ⟨rfl, hb4⟩
      have x4 := (hb4.block w2.heap.size (by simp)).trans X3.out
      have hs4 := hb4.size
      simp at hs4
      have Z4 := Lib.hid ((hb4.block W.heap.size (by simp; omega)).trans Z3.out)
      have B4 := Lib.hid (below_chain B3.out hb4)
      have HST := Lib.hid (show WRel w2 (w2.heap.size + 1) w2.heap.size nm [] w4 from ⟨_, x4, O1.nil _ _, by simp [Value.ownBlock], ((Below.refl w2.heap.size w2).alloc (Nat.le_refl _) _).trans (hb4.mono (by simp))⟩)
      clear hb4 x4 x0 x1 xf hnb X3 Z3 B3
      have hww := hs2
      rcases (show (cw = 1 ∧ ws = []) ∨ ¬ cw = 1 from by
        by_cases h1 : cw = 1
        · exact .inl ⟨h1, List.eq_nil_of_length_eq_zero (by simp at hcap; omega)⟩
        · exact .inr h1) with ⟨rfl, rfl⟩ | hc1
      · obtain ⟨cur, hblk, hown, hne, hRB⟩ := HST.out
        obtain ⟨x0, x1, xf⟩ := two_cells hblk
        obtain ⟨m0, m1, mf⟩ := two_cells Z4.out
        obtain ⟨ac, cc, rfl⟩ := hown.slice
        have HFIN := Lib.hid (heap_set2 Z4.out (.string ⟨nm.toArray⟩) (.slice ac ([] : List (List UInt8)).length cc))
        have BF := Lib.hid (below_set2 B4.out (.string ⟨nm.toArray⟩) (.slice ac ([] : List (List UInt8)).length cc))
        have hnb := own_base_le hown
        have OF := Lib.hid (O1.far (x := .slice ac ([] : List (List UInt8)).length cc) (o := 0 + 1) (O1.far (x := .string ⟨nm.toArray⟩) (o := 0) (hown.base (b := W.heap.size) (by omega)) (g := W.heap.size) (fun e => by have := hnb _ e; omega)) (g := W.heap.size) (fun e => by have := hnb _ e; omega))
        clear hblk hown hne hRB hnb
        go_wp2
        go_loopw [27] (fun i wr => i = .int .i64 0 ∧ wr = w4) (fun _ _ => 0)
        case atStart => exact ⟨rfl, rfl⟩
        case round =>
          obtain ⟨rfl, rfl⟩ := hrel
          go_wp2
          exact bodyPost_ret (ret_R2 Tryz.results112 rfl rfl HFIN.out) rfl ⟨nm, _, true, rfl, ⟨_, _, _, rfl⟩, BF.out, .inr ⟨rfl, _, E.out, OF.out⟩⟩
      · go_wp2_with fail
        go_loopw [7, 27] (fun _ i wr => ∃ us rest : List (List UInt8), ws = us ++ rest ∧ i = .int .i64 us.length ∧ WRel w2 (w2.heap.size + 1) w2.heap.size nm us wr) (fun _ i _ => ws.length - (intOf i).toNat)
        case atStart => exact ⟨[], ws, rfl, rfl, HST.out⟩
        case round =>
          obtain ⟨us, rest, hw, rfl, hR⟩ := hrel
          obtain ⟨cur, hblk, hown, hne, hRB⟩ := hR
          obtain ⟨ac, cc, rfl⟩ := hown.slice
          have hwr := hRB.size
          have hGlt : w2.heap.size < wr.heap.size := (Array.getElem?_eq_some_iff.1 hblk).1
          cases rest with
          | cons t2 rest =>
            have hln : ws.length = us.length + (rest.length + 1) := by rw [hw]; simp
            have hlt : us.length < ws.length := by omega
            have hx : ws.getD us.length [] = t2 := by rw [hw]; simp
            have q0 := (hRB.cell (p := ⟨b0, o0 + (us.length + 1), none⟩) (show b0 < w2.heap.size by omega)).trans (HP2.out us.length hlt)
            have htl := HWM.out us.length hlt
            rw [List.getD_cons_succ] at q0
            rw [hx] at q0 htl
            rw [show o0 + (us.length + 1) = o0 + 1 + us.length by omega] at q0
            obtain ⟨p0, p1, pf⟩ := two_cells hblk
            have pf2 := pf 1
            have HBLK := Lib.hid hblk
            have HOWN := Lib.hid hown
            have HNE := Lib.hid hne
            have HRB := Lib.hid hRB
            have HW := Lib.hid hw
            have HCL := Lib.hid (fun w => Ul.clone_any t2 w (by omega))
            clear hblk hown hne hRB hw hx p0 pf hln
            go_wp2_with fail
            go_region_law (first
              | (go_simp; go_at_call 119; refine (HCL.out _).mono ?_; rintro e w5 ⟨rfl, hb⟩; have hown2 := wRel_own HOWN.out hb; have zz2 : w2.heap.size < w5.heap.size := Nat.lt_of_lt_of_le hGlt hb.size; have p32 : w5.cell? ⟨w2.heap.size, 1, none⟩ = some (.slice ac us.length cc) := (hb.cell (p := ⟨w2.heap.size, 1, none⟩) hGlt).trans p1; have pf32 : w5.frozen? ⟨w2.heap.size, 1, none⟩ = false := (hb.frozen (p := ⟨w2.heap.size, 1, none⟩) hGlt).trans pf2)
              | (refine step_append_lies _ (by rfl) _ _ _ (by rfl) (w2.heap.size + 1) 9 i0 _ 1 16 Tryz.underlying23 hi hz0 hz1 hz2 rfl (by omega) (.slice ac us.length cc) us.length (strV us) (by rfl) (World.ownsRow.alloc hown2 _)
                  ⟨w5.heap.size, 0, none⟩ 1 1 [.string ⟨t2.toArray⟩] (by rfl) (by rfl) (World.news_of_block (cs := #[.string ⟨t2.toArray⟩]) (t := 9) (fr := (0, 0)) (heap_alloc_new w5 _)) (by simp [Value.oneCell'])
                  (by omega) (by unfold maxLen; omega) (by omega) (by simp; omega) (w5.heap.size + 1) (by simp) ?_; intro gg ccap w6 hown4 hgrow hat hlt4; have r3 : w6.cell? ⟨w2.heap.size, 1, none⟩ = some (.slice ac us.length cc) := ((hgrow.cell_far _ (by simp; omega) (Ne.symm HNE.out)).trans ((World.cell?_alloc_past _ _ _ zz2).trans p32)); have r3f : w6.frozen? ⟨w2.heap.size, 1, none⟩ = false := ((hgrow.frozen_far _ (by simp; omega) (Ne.symm HNE.out)).trans ((World.frozen?_alloc_past _ _ _ zz2).trans pf32))))
            all_goals
              have HN := Lib.hid (wRel_step HBLK.out HRB.out (Nat.le_refl _) (Nat.le_succ _) hGlt HNE.out HOWN.out hb hown4 hgrow hat)
              clear hb hown2 hown4 hgrow r3 r3f p32 pf32 hat
              go_wp2
              go_roundw
              case rel => exact ⟨us ++ [t2], rest, by rw [HW.out]; simp, by simp, HN.out⟩
              case measure => simp [intOf]; omega
          | nil =>
            rw [List.append_nil] at hw
            subst hw
            obtain ⟨x0, x1, xf⟩ := two_cells hblk
            have z9 := (hRB.block W.heap.size (by omega)).trans Z2.out
            obtain ⟨m0, m1, mf⟩ := two_cells z9
            have HFIN := Lib.hid (heap_set2 z9 (.string ⟨nm.toArray⟩) (.slice ac ws.length cc))
            have BF := Lib.hid (below_set2 (below_chain B2.out hRB) (.string ⟨nm.toArray⟩) (.slice ac ws.length cc))
            have hnb := own_base_le hown
            have OF := Lib.hid (O1.far (x := .slice ac ws.length cc) (o := 0 + 1) (O1.far (x := .string ⟨nm.toArray⟩) (o := 0) (hown.base (b := W.heap.size) (by omega)) (g := W.heap.size) (fun e => by have := hnb _ e; omega)) (g := W.heap.size) (fun e => by have := hnb _ e; omega))
            clear hblk hown hne hRB hnb z9
            go_wp2
            exact bodyPost_ret (ret_R2 Tryz.results112 rfl rfl HFIN.out) rfl ⟨nm, _, true, rfl, ⟨_, _, _, rfl⟩, BF.out, .inr ⟨rfl, _, E.out, OF.out⟩⟩
end Go.Proofs.YtbkikbhnehjaaaaGreatDoor.Rp
namespace Go.Proofs.YtbkikbhnehjaaaaGreatDoor.Rp
open Go.RowKit
open Go.Proofs.YtbkikbhnehjaaaaGreatDoor.Po
open Go.Proofs.YtbkikbhnehjaaaaGreatDoor.Tx hiding ret_b ret_i
open Go.Proofs.YtbkikbhnehjaaaaGreatDoor.Ow
open Go.Proofs.YtbkikbhnehjaaaaGreatDoor.Ul (lowL low_len Tab MaxL)
/-- the policy that is read, its code, and what it owns -/
def RpOwn (W : World) (t : List UInt8) (e : Ending) (w' : World) : Prop :=
  ∃ (uv rv : Value) (vs : List Value) (L : Nat), e = .returned (.tuple #[pV (rpP t) uv rv, .int .i64 (rpC t)]) ∧ W.heap.size ≤ L ∧ L ≤ w'.heap.size ∧ O1 w' L uv (rpP t).uris ∧ ORs w' W.heap.size rv (rpP t).rules vs ∧ UnderL L rv vs ∧ Below W.heap.size W w'
theorem few_take (ps : List (List UInt8)) (k : Nat) (h : fewB ((ps.take k).foldl addR []) = false) : fewB (ps.foldl addR []) = false := by
  cases hf : fewB (ps.foldl addR []) with
  | false => rfl
  | true =>
    rw [fold_split ps k] at hf
    rw [few_back _ _ hf] at h
    cases h
theorem few_bad (rs : List Rl) (x : Rl) (h : ¬ (rs.length + 1 ≤ 8 ∧ x.words.length ≤ 8)) : fewB (rs ++ [x]) = false := by
  rw [few_snoc]
  by_cases h1 : rs.length + 1 ≤ 8
  · have h2 : ¬ x.words.length ≤ 8 := fun e => h ⟨h1, e⟩
    simp [shortB, h2]
  · simp [h1]
theorem few_ok (rs : List Rl) (x : Rl) (hr : fewB rs = true) (h1 : rs.length + 1 ≤ 8) (h2 : x.words.length ≤ 8) : fewB (rs ++ [x]) = true := by
  rw [few_snoc, hr]; simp [h1, shortB, h2]
theorem has_snoc (rs : List Rl) (nm : List UInt8) (ws : List (List UInt8)) (f : List UInt8 → Bool) (h : ∀ t, f t = hasN rs t) : ∀ t, (if t = nm then true else f t) = hasN (rs ++ [⟨nm, ws⟩]) t := fun t => by
  by_cases e : t = nm
  · subst e; simp [hasN]
  · rw [if_neg e, h t]
    have : (nm == t) = false := by simpa using fun e2 => e e2.symm
    simp [hasN, this]
theorem has_same (rs : List Rl) (nm : List UInt8) (f : List UInt8 → Bool) (h : ∀ t, f t = hasN rs t) (hn : hasN rs nm = true) : ∀ t, (if t = nm then true else f t) = hasN rs t := fun t => by
  by_cases e : t = nm
  · subst e; rw [if_pos rfl, hn]
  · rw [if_neg e, h t]
theorem addR_none {p : List UInt8} (h : ruleOf p = none) (rs : List Rl) : addR rs p = rs := by simp [addR, h]
theorem addR_old {p : List UInt8} {r : Rl} (h : ruleOf p = some r) (rs : List Rl) (hn : hasN rs r.name = true) : addR rs p = rs := by simp [addR, h, hn]
theorem addR_new {p : List UInt8} {r : Rl} (h : ruleOf p = some r) (rs : List Rl) (hn : hasN rs r.name = false) : addR rs p = rs ++ [r] := by simp [addR, h, hn]
theorem Seen.grownR {w w' : World} {g b n B : Nat} {f : List UInt8 → Bool} {row : Option Nat} (h : Seen w g b n f) (hg : w.grownBy w' row) (hr : ∀ k, row = some k → B ≤ k) (h1 : g < B) (h2 : b < B) : Seen w' g b n f :=
  ⟨(hg.block g (Array.getElem?_eq_some_iff.1 h.1).1 (fun e => by have := hr g e.symm; omega)).trans h.1, h.2.1.kept (hg.block b h.2.1.lt (fun e => by have := hr b e.symm; omega)), h.2.2⟩
theorem Seen.alloc {w : World} {g b n : Nat} {f : List UInt8 → Bool} (h : Seen w g b n f) (o : Obj) : Seen (w.alloc o) g b n f := h.later ((Below.refl _ _).alloc (Nat.le_refl _) o)
theorem own_sl {w : World} {B n s : Nat} {T : TypeId} {v : Value} {xs : List Value} (h : w.ownsRow B T s v n xs) : ∃ a c, v = .slice a n c := by
  obtain ⟨-, h⟩ := h
  rcases h with ⟨rfl, h0⟩ | ⟨g, cap, cur, rfl, _⟩
  · exact ⟨none, 0, by rw [h0]⟩
  · exact ⟨_, _, rfl⟩
theorem own_low {w w' : World} {B s n : Nat} {T : TypeId} {v : Value} {xs : List Value} {row : Option Nat} (h : w.ownsRow B T s v n xs) (hg : w.grownBy w' row) (hr : ∀ g, row = some g → g < B) : w'.ownsRow B T s v n xs :=
  h.kept hg (by
    cases e : v.ownBlock with
    | none => exact .inl rfl
    | some k => exact .inr (fun e2 => by have := (h.lt k e).1; have := hr k e2.symm; omega))
theorem ORs.low {w w' : World} {B : Nat} {v : Value} {xs : List Rl} {vs : List Value} {row : Option Nat} (h : ORs w B v xs vs) (hg : w.grownBy w' row) (hr : ∀ g, row = some g → g < B) : ORs w' B v xs vs :=
  ⟨h.len, own_low h.row hg hr, fun i x u hx hu => own_low (h.wds i x u hx hu) hg hr, h.apart⟩
theorem ORs.base {w : World} {B C : Nat} {v : Value} {xs : List Rl} {vs : List Value} (h : ORs w B v xs vs) (hBC : C ≤ B) : ORs w C v xs vs :=
  ⟨h.len, own_base h.row hBC, fun i x u hx hu => (h.wds i x u hx hu).base hBC, h.apart⟩
theorem set3_grown (w : World) (g : Nat) (x y z : Value) : w.grownBy (set3 w g 0 x y z) (some g) :=
  ⟨rfl, rfl, rfl, by rw [set3_size]; exact Nat.le_refl _, fun b _ hb2 => set3_far _ _ _ _ _ _ _ (fun e => hb2 (congrArg some e))⟩
set_option maxRecDepth 100000 in
set_option maxHeartbeats 8000000 in
theorem rpI_any (t : List UInt8) (hn : t.length ≤ 9223372036854775807) (W : World) (hT : Tab W) (hM : MaxL W) : Calls Tryz.prog 42 #[.string ⟨t.toArray⟩] W (RpOwn W t) := by
  have B0 := Lib.hid ((Below.refl W.heap.size W).alloc (Nat.le_refl _) zeroP)
  have Z0 := Lib.hid (heap_alloc_new W zeroP)
  obtain ⟨n0, n1, n2, nf⟩ := three_cells Z0.out
  by_cases hl : 65536 < t.length
  · have d1 : decide ((65536 : Int) < (t.length : Int)) = true := by simp; omega
    obtain ⟨e1, e2⟩ := rp_long hl
    have E1 := Lib.hid e1
    have E2 := Lib.hid e2
    clear hl e1 e2
    go_enter Tryz.func42, Tryz.ntmps42
    go_wp2
    exact bodyPost_ret (ret_P2 Tryz.results42 rfl rfl Z0.out) rfl ⟨.slice none 0 0, .slice none 0 0, [], W.heap.size, by rw [E1.out, E2.out]; rfl, Nat.le_refl _, by simp, by rw [E1.out]; exact O1.nil _ _, by rw [E1.out]; exact ORs.nil _ _, ⟨fun g hg => by simp [Value.ownBlock] at hg, fun u hu => by simp at hu⟩, B0.out⟩
  · have d1 : decide ((65536 : Int) < (t.length : Int)) = false := by simp; omega
    have hl2 : t.length ≤ 65536 := by omega
    have G1 := Lib.hid (fun h => rp_many hl h)
    have G2 := Lib.hid (fun h => rp_good hl h)
    obtain ⟨hpl, hpm⟩ := cutA_len 59 t []
    have HGOOD := Lib.hid (readRs_good t)
    have HSP := Lib.hid (fun W' hM' => splitI_any t W' hM' hl2)
    obtain ⟨ps, hp⟩ : ∃ ps, cutA 59 [] t = ps := ⟨_, rfl⟩
    have hrs : readRs t = ps.foldl addR [] := by unfold readRs; rw [hp]
    rw [hrs] at G1 G2 HGOOD
    rw [hp] at hpl hpm HSP
    have hpp : ∀ p ∈ ps, p.length + 1 ≤ 65537 := fun p hh => by have := hpm p hh; simp at this; omega
    have LIM := Lib.hid (fun k (hk : k ≤ ps.length) => foldr_take ps 65537 k hpp hk)
    have HPM := Lib.hid hpp
    have hpn : ps.length ≤ 65537 := by omega
    have HT := Lib.hid hT
    have HM := Lib.hid hM
    clear hl hp hrs hpl hpm hpp hT hM
    go_enter Tryz.func42, Tryz.ntmps42
    go_wp2_with fail
    refine (first_any _).mono ?_
    rintro e w1 ⟨rfl, hS1, hb1⟩
    have hs1 : W.heap.size + 1 + 2 ≤ w1.heap.size := by have := (Array.getElem?_eq_some_iff.1 hS1.1).1; simp at this; omega
    have S1 := Lib.hid (show Seen w1 (W.heap.size + 1 + 1) (W.heap.size + 1) 0 (fun _ => false) from by simpa using hS1)
    have Z1 := Lib.hid ((hb1.block W.heap.size (by simp)).trans Z0.out)
    have B1 := Lib.hid (below_chain B0.out hb1)
    clear hS1 hb1 n0 n1 n2 nf
    go_wp2_with fail
    refine (HSP.out w1 (HM.out.below B1.out)).mono ?_
    rintro e w2 ⟨pv, rfl, ho2, hb2⟩
    have hs2 := hb2.size
    have HP2 := Lib.hid (ho2.base (b := W.heap.size + 3) (by omega))
    have S2 := Lib.hid (S1.out.later hb2)
    have Z2 := Lib.hid ((hb2.block W.heap.size (by omega)).trans Z1.out)
    have B2 := Lib.hid (below_chain B1.out hb2)
    obtain ⟨ap, cp, rfl⟩ := ho2.slice
    clear ho2 hb2
    go_wp2_with fail
    go_loopw [4, 18] (fun rv i wr => ∃ (k n : Nat) (f : List UInt8 → Bool) (vs : List Value), k ≤ ps.length ∧ n ≤ k ∧ i = .int .i64 k ∧ Seen wr (W.heap.size + 1 + 1) (W.heap.size + 1) n f ∧ (∀ t, f t = hasN ((ps.take k).foldl addR []) t) ∧ fewB ((ps.take k).foldl addR []) = true ∧
      ORs wr (W.heap.size + 3) rv ((ps.take k).foldl addR []) vs ∧ O1 wr (W.heap.size + 3) (.slice ap ps.length cp) ps ∧ wr.heap[W.heap.size]? = some zeroP ∧ W.heap.size + 3 ≤ wr.heap.size ∧ Below W.heap.size W wr) (fun _ i _ => ps.length - (intOf i).toNat)
    case atStart => exact ⟨0, 0, _, [], by omega, by omega, rfl, S2.out, fun t => rfl, rfl, ORs.nil _ _, HP2.out, Z2.out, by omega, B2.out⟩
    case round =>
      obtain ⟨k, n, f, vs, hk, hnk, rfl, hS, hf, hfw, hO, hP, hZ, hsz, hR⟩ := hrel
      obtain ⟨lm1, lm2⟩ := LIM.out k hk
      have FT := Lib.hid (few_take ps (k + 1))
      by_cases hlt : k < ps.length
      · have HFT := Lib.hid (fold_take ps k hlt)
        have hxm := HPM.out _ (getT_mem ps k hlt)
        obtain ⟨a0, c0, b0, o0, ea0, -, -, -, hpa, hpc⟩ := hP.txts (fun p hh => by have := HPM.out p hh; omega) (by omega)
        obtain ⟨ea, -, hlb⟩ := hpa (by omega)
        cases ea0
        subst ea
        have q0 := hpc k hlt
        generalize (ps.take k).foldl addR [] = rs at *
        generalize ps.getD k [] = x at *
        obtain ⟨ar, cr, rfl⟩ := hO.slice
        have HRU := Lib.hid (fun W' => readRule_any x (by omega) W')
        have HO := Lib.hid hO
        have HP := Lib.hid hP
        have HZ := Lib.hid hZ
        have HR := Lib.hid hR
        have HS := Lib.hid hS
        have HF := Lib.hid hf
        have HFW := Lib.hid hfw
        clear hO hP hZ hR hS hf hfw hpa hpc
        go_wp2_with fail
        refine (HRU.out wr).mono ?_
        rintro e w3 ⟨nm, wv, ok, rfl, ⟨a3, l3, c3, rfl⟩, hb3, hru⟩
        have hs3 := hb3.size
        have hal := (Below.refl w3.heap.size w3).alloc (Nat.le_refl _) (.cells #[.string ⟨nm.toArray⟩, .slice a3 l3 c3] 149)
        have hb4 := below_chain hb3 hal
        have HO4 := Lib.hid (HO.out.below hb4)
        have HP4 := Lib.hid (HP.out.below hb4)
        have HZ4 := Lib.hid ((hb4.block W.heap.size (by omega)).trans HZ.out)
        have HR4 := Lib.hid (HR.out.trans (hb4.mono (by omega)))
        have HS4 := Lib.hid (HS.out.later hb4)
        obtain ⟨m0, m1, mf⟩ := two_cells (heap_alloc_new w3 (.cells #[.string ⟨nm.toArray⟩, .slice a3 l3 c3] 149))
        have HU := Lib.hid (HO.out.under)
        have HX4 := Lib.hid (heap_alloc_new w3 (.cells #[.string ⟨nm.toArray⟩, .slice a3 l3 c3] 149))
        rcases hru with ⟨rfl, hnone⟩ | ⟨rfl, ws, hsome, hown⟩
        · have E := Lib.hid (HFT.out.trans (addR_none hnone rs))
          clear hb3 hb4 hal hnone q0
          go_wp2
          go_roundw
          case rel => exact ⟨k + 1, n, f, vs, by omega, by omega, by go_num, HS4.out, by rw [E.out]; exact HF.out, by rw [E.out]; exact HFW.out, by rw [E.out]; exact HO4.out, HP4.out, HZ4.out, by simp; omega, HR4.out⟩
          case measure => simp [intOf]; omega
        · have hrl := rule_lim hsome (Nat.le_refl (x.length + 1))
          obtain ⟨hrn, hrw, hrx⟩ := hrl
          simp only at hrn hrw hrx
          obtain ⟨ao, co, eo⟩ := hown.slice
          injection eo with eo1 eo2 eo3
          subst eo1 eo2 eo3
          have U4 := Lib.hid (hown.below hal)
          have HFx := HF.out nm
          have AO := Lib.hid (fun h => HFT.out.trans (addR_old hsome rs h))
          have AN := Lib.hid (fun h => HFT.out.trans (addR_new hsome rs h))
          have SO := Lib.hid (has_same rs nm f HF.out)
          have SN := Lib.hid (has_snoc rs nm ws f HF.out)
          have BAD := Lib.hid (few_bad rs ⟨nm, ws⟩)
          have GOOD := Lib.hid (few_ok rs ⟨nm, ws⟩ HFW.out)
          simp only at AO AN
          obtain ⟨hh, hhh⟩ : ∃ c, hasN rs nm = c := ⟨_, rfl⟩
          rw [hhh] at HFx AO AN SO
          clear hb3 hb4 hal hsome hown q0 hhh
          go_wp2_with fail
          refine (clo_any nm (by omega) _ _ _ n f HS4.out (by omega)).mono ?_
          rintro e w5 ⟨rfl, hS5, hg5⟩
          rw [HFx]
          have hlow : ∀ {B g : Nat}, W.heap.size + 3 ≤ B → some (W.heap.size + 1) = some g → g < B := fun h e => by cases e; omega
          have hs5 := hg5.size
          simp at hs5
          have HO5 := Lib.hid (ORs.low HO4.out hg5 (fun g e => hlow (Nat.le_refl _) e))
          have HP5 := Lib.hid (own_low HP4.out hg5 (fun g e => hlow (Nat.le_refl _) e))
          have U5 := Lib.hid (own_low U4.out hg5 (fun g e => hlow hsz e))
          have HZ5 := Lib.hid ((hg5.block W.heap.size (by simp; omega) (fun e => by simp at e)).trans HZ4.out)
          have HX5 := Lib.hid ((hg5.block w3.heap.size (by simp) (fun e => by simp at e; omega)).trans HX4.out)
          have HR5 := Lib.hid (Mp.below_grownM HR4.out hg5 (by omega) (by simp; omega))
          have HS5 := Lib.hid hS5
          obtain ⟨m0, m1, mf⟩ := two_cells HX5.out
          clear hS5 hg5 hlow HO4 HP4 U4 HZ4 HX4 HR4 HS4
          cases hh with
          | true =>
            have E := Lib.hid (AO.out (by first | rfl | trivial))
            have F2 := Lib.hid (SO.out (by first | rfl | trivial))
            go_wp2
            go_roundw
            case rel => exact ⟨k + 1, n + 1, _, vs, by omega, by omega, by go_num, HS5.out, by rw [E.out]; exact F2.out, by rw [E.out]; exact HFW.out, by rw [E.out]; exact HO5.out, HP5.out, HZ5.out, by omega, HR5.out⟩
            case measure => simp [intOf]; omega
          | false =>
            have E := Lib.hid (AN.out (by first | rfl | trivial))
            obtain ⟨i1, hi1, hy0, hy1, hy2⟩ := info_parts Tryz.infoRl
            by_cases h8 : rs.length + 1 ≤ 8
            · have d8 : decide ((8 : Int) < (rs.length : Int) + 1) = false := by simp; omega
              by_cases h9 : ws.length ≤ 8
              · have d9 : decide ((8 : Int) < (ws.length : Int)) = false := by simp; omega
                have F6 := Lib.hid (GOOD.out h8 h9)
                clear h8 h9
                go_wp2_with (first
                  | (at_builtin; have hh7 := HX5; refine wpList_append_own _ rfl _ _ 24 rfl (W.heap.size + 3) 149 i1 (.agg #[.string ByteArray.empty, .slice none 0 0]) 2 40 Tryz.underlying24 hi1 hy0 hy1 hy2 rfl (by decide) _ _ _ rfl (World.ownsRow.alloc HO5.out.row _) ⟨w5.heap.size, 0, none⟩ 1 1 [.string ⟨nm.toArray⟩, .slice a3 ws.length c3] rfl rfl (World.news_of_block (cs := #[.string ⟨nm.toArray⟩, .slice a3 ws.length c3]) (t := 149) (fr := (0, 0)) (heap_alloc_new w5 _)) (by simp [Value.oneCell']) (by unfold maxLen; omega) (by omega) (by simp; omega) ?_; intro v6 w6 hown6 hgrow6 _; have RW6 := Lib.hid (ORs.snoc (x := ⟨nm, ws⟩) HO5.out HU.out U5.out (by omega) hown6 hgrow6); have hal5 := (Below.refl w5.heap.size w5).alloc (Nat.le_refl _) (.cells #[.string ⟨nm.toArray⟩, .slice a3 ws.length c3] 149); have P6 := Lib.hid ((O1.below HP5.out hal5).kept hgrow6 (own_apart (O1.below HP5.out hal5) (World.ownsRow.alloc HO5.out.row _) (by decide))); have Z6 := Lib.hid ((hgrow6.block W.heap.size (by simp; omega) (fun e => by have := (HO5.out.row.lt _ e.symm).1; omega)).trans ((heap_alloc_old _ _ (by omega)).trans HZ5.out)); have X6 := Lib.hid ((hgrow6.block w3.heap.size (by simp; omega) (fun e => by have := HU.out.1 _ e.symm; omega)).trans ((heap_alloc_old _ _ (by omega)).trans HX5.out)); have S6 := Lib.hid (Seen.grownR (Seen.alloc HS5.out (.cells #[.string ⟨nm.toArray⟩, .slice a3 ws.length c3] 149)) hgrow6 (B := W.heap.size + 3) (fun g hg => (HO5.out.row.lt g hg).1) (by omega) (by omega)); have B6 := Lib.hid ((HR5.out.trans (hal5.mono (by omega))).grown hgrow6 (by simp; omega) (fun g hg => by have := (HO5.out.row.lt g hg).1; omega)); have hs6 := hgrow6.size; simp at hs6; obtain ⟨a6, c6, rfl⟩ := own_sl hown6; clear hown6 hgrow6 hal5 m0 m1 mf HX5 hh7; obtain ⟨m0, m1, mf⟩ := two_cells X6.out))
                go_roundw
                case rel => exact ⟨k + 1, n + 1, _, _, by omega, by omega, by go_num, S6.out, by rw [E.out]; exact SN.out, by rw [E.out]; exact F6.out, by rw [E.out]; exact RW6.out, P6.out, Z6.out, by omega, B6.out⟩
                case measure => simp [intOf]; omega
              · have d9 : decide ((8 : Int) < (ws.length : Int)) = true := by simp; omega
                obtain ⟨e1, e2⟩ := G1.out (FT.out (by rw [E.out]; exact BAD.out (fun h => h9 h.2)))
                have E1 := Lib.hid e1
                have E2 := Lib.hid e2
                clear h8 h9 e1 e2
                go_wp2_with (first
                  | (at_builtin; have hh7 := HX5; refine wpList_append_own _ rfl _ _ 24 rfl (W.heap.size + 3) 149 i1 (.agg #[.string ByteArray.empty, .slice none 0 0]) 2 40 Tryz.underlying24 hi1 hy0 hy1 hy2 rfl (by decide) _ _ _ rfl (World.ownsRow.alloc HO5.out.row _) ⟨w5.heap.size, 0, none⟩ 1 1 [.string ⟨nm.toArray⟩, .slice a3 ws.length c3] rfl rfl (World.news_of_block (cs := #[.string ⟨nm.toArray⟩, .slice a3 ws.length c3]) (t := 149) (fr := (0, 0)) (heap_alloc_new w5 _)) (by simp [Value.oneCell']) (by unfold maxLen; omega) (by omega) (by simp; omega) ?_; intro v6 w6 hown6 hgrow6 _; have RW6 := Lib.hid (ORs.snoc (x := ⟨nm, ws⟩) HO5.out HU.out U5.out (by omega) hown6 hgrow6); have hal5 := (Below.refl w5.heap.size w5).alloc (Nat.le_refl _) (.cells #[.string ⟨nm.toArray⟩, .slice a3 ws.length c3] 149); have P6 := Lib.hid ((O1.below HP5.out hal5).kept hgrow6 (own_apart (O1.below HP5.out hal5) (World.ownsRow.alloc HO5.out.row _) (by decide))); have Z6 := Lib.hid ((hgrow6.block W.heap.size (by simp; omega) (fun e => by have := (HO5.out.row.lt _ e.symm).1; omega)).trans ((heap_alloc_old _ _ (by omega)).trans HZ5.out)); have X6 := Lib.hid ((hgrow6.block w3.heap.size (by simp; omega) (fun e => by have := HU.out.1 _ e.symm; omega)).trans ((heap_alloc_old _ _ (by omega)).trans HX5.out)); have S6 := Lib.hid (Seen.grownR (Seen.alloc HS5.out (.cells #[.string ⟨nm.toArray⟩, .slice a3 ws.length c3] 149)) hgrow6 (B := W.heap.size + 3) (fun g hg => (HO5.out.row.lt g hg).1) (by omega) (by omega)); have B6 := Lib.hid ((HR5.out.trans (hal5.mono (by omega))).grown hgrow6 (by simp; omega) (fun g hg => by have := (HO5.out.row.lt g hg).1; omega)); have hs6 := hgrow6.size; simp at hs6; obtain ⟨a6, c6, rfl⟩ := own_sl hown6; clear hown6 hgrow6 hal5 m0 m1 mf HX5 hh7; obtain ⟨m0, m1, mf⟩ := two_cells X6.out; obtain ⟨z0, z1, z2, zf⟩ := three_cells Z6.out; have HFIN := Lib.hid (heap_set3 Z6.out (.string ⟨#[]⟩) (.slice none 0 0) (.slice none 0 0)); have BF := Lib.hid (below_set3 B6.out (.string ⟨#[]⟩) (.slice none 0 0) (.slice none 0 0))))
                exact bodyPost_ret (ret_P2 Tryz.results42 rfl rfl HFIN.out) rfl ⟨.slice none 0 0, .slice none 0 0, [], W.heap.size, by rw [E1.out, E2.out]; rfl, Nat.le_refl _, BF.out.size, by rw [E1.out]; exact O1.nil _ _, by rw [E1.out]; exact ORs.nil _ _, ⟨fun g hg => by simp [Value.ownBlock] at hg, fun u hu => by simp at hu⟩, BF.out⟩
            · have d8 : decide ((8 : Int) < (rs.length : Int) + 1) = true := by simp; omega
              obtain ⟨e1, e2⟩ := G1.out (FT.out (by rw [E.out]; exact BAD.out (fun h => h8 h.1)))
              have E1 := Lib.hid e1
              have E2 := Lib.hid e2
              clear h8 e1 e2
              go_wp2_with (first
                | (at_builtin; have hh7 := HX5; refine wpList_append_own _ rfl _ _ 24 rfl (W.heap.size + 3) 149 i1 (.agg #[.string ByteArray.empty, .slice none 0 0]) 2 40 Tryz.underlying24 hi1 hy0 hy1 hy2 rfl (by decide) _ _ _ rfl (World.ownsRow.alloc HO5.out.row _) ⟨w5.heap.size, 0, none⟩ 1 1 [.string ⟨nm.toArray⟩, .slice a3 ws.length c3] rfl rfl (World.news_of_block (cs := #[.string ⟨nm.toArray⟩, .slice a3 ws.length c3]) (t := 149) (fr := (0, 0)) (heap_alloc_new w5 _)) (by simp [Value.oneCell']) (by unfold maxLen; omega) (by omega) (by simp; omega) ?_; intro v6 w6 hown6 hgrow6 _; have RW6 := Lib.hid (ORs.snoc (x := ⟨nm, ws⟩) HO5.out HU.out U5.out (by omega) hown6 hgrow6); have hal5 := (Below.refl w5.heap.size w5).alloc (Nat.le_refl _) (.cells #[.string ⟨nm.toArray⟩, .slice a3 ws.length c3] 149); have P6 := Lib.hid ((O1.below HP5.out hal5).kept hgrow6 (own_apart (O1.below HP5.out hal5) (World.ownsRow.alloc HO5.out.row _) (by decide))); have Z6 := Lib.hid ((hgrow6.block W.heap.size (by simp; omega) (fun e => by have := (HO5.out.row.lt _ e.symm).1; omega)).trans ((heap_alloc_old _ _ (by omega)).trans HZ5.out)); have X6 := Lib.hid ((hgrow6.block w3.heap.size (by simp; omega) (fun e => by have := HU.out.1 _ e.symm; omega)).trans ((heap_alloc_old _ _ (by omega)).trans HX5.out)); have S6 := Lib.hid (Seen.grownR (Seen.alloc HS5.out (.cells #[.string ⟨nm.toArray⟩, .slice a3 ws.length c3] 149)) hgrow6 (B := W.heap.size + 3) (fun g hg => (HO5.out.row.lt g hg).1) (by omega) (by omega)); have B6 := Lib.hid ((HR5.out.trans (hal5.mono (by omega))).grown hgrow6 (by simp; omega) (fun g hg => by have := (HO5.out.row.lt g hg).1; omega)); have hs6 := hgrow6.size; simp at hs6; obtain ⟨a6, c6, rfl⟩ := own_sl hown6; clear hown6 hgrow6 hal5 m0 m1 mf HX5 hh7; obtain ⟨m0, m1, mf⟩ := two_cells X6.out; obtain ⟨z0, z1, z2, zf⟩ := three_cells Z6.out; have HFIN := Lib.hid (heap_set3 Z6.out (.string ⟨#[]⟩) (.slice none 0 0) (.slice none 0 0)); have BF := Lib.hid (below_set3 B6.out (.string ⟨#[]⟩) (.slice none 0 0) (.slice none 0 0))))
              exact bodyPost_ret (ret_P2 Tryz.results42 rfl rfl HFIN.out) rfl ⟨.slice none 0 0, .slice none 0 0, [], W.heap.size, by rw [E1.out, E2.out]; rfl, Nat.le_refl _, BF.out.size, by rw [E1.out]; exact O1.nil _ _, by rw [E1.out]; exact ORs.nil _ _, ⟨fun g hg => by simp [Value.ownBlock] at hg, fun u hu => by simp at hu⟩, BF.out⟩
      · obtain rfl : k = ps.length := by omega
        rw [List.take_length] at hO lm1 lm2 hfw
        obtain ⟨e1, e2⟩ := G2.out hfw
        have hd := HGOOD.out hfw
        clear HSP LIM HPM HGOOD G1 G2 FT hf
        generalize ps.foldl addR [] = rs at *
        have E1 := Lib.hid e1
        have E2 := Lib.hid e2
        obtain ⟨ar, cr, rfl⟩ := hO.slice
        have HMK := Lib.hid (makeI_any wr.heap.size wr rs (.slice ar rs.length cr) ((hO.rl (M := 65537) (by omega) (limR_of lm1 (by omega))).mono (S' := (· < wr.heap.size)) fun _ hb => hb.2) (by omega) (fun i hi => by have := (lm1 _ (getD_mem rs i hi)).1; omega) (lim_words lm1) hd wr (Below.refl _ _) (Nat.le_refl _) (HT.out.below hR) (HM.out.below hR))
        have HO := Lib.hid hO
        have HZ := Lib.hid hZ
        have HR := Lib.hid hR
        have HU := Lib.hid hO.under
        clear hO hP hZ hR lm1 lm2 hd e1 e2 hfw hS
        go_wp2_with fail
        refine HMK.out.mono ?_
        rintro e w6 ⟨uv, rfl, hT6, hb6, ho6⟩
        obtain ⟨a6, l6, c6, rfl⟩ := hT6.slice
        have z6 := (hb6.block W.heap.size (by omega)).trans HZ.out
        obtain ⟨z0, z1, z2, zf⟩ := three_cells z6
        have hs6 := hb6.size
        have HFIN := Lib.hid (heap_set3 z6 (.string ⟨(makeP rs).rep.toArray⟩) (.slice a6 l6 c6) (.slice ar rs.length cr))
        have BF := Lib.hid (below_set3 (HR.out.trans (hb6.mono (by omega))) (.string ⟨(makeP rs).rep.toArray⟩) (.slice a6 l6 c6) (.slice ar rs.length cr))
        have hsg := set3_grown w6 W.heap.size (.string ⟨(makeP rs).rep.toArray⟩) (.slice a6 l6 c6) (.slice ar rs.length cr)
        have OF := Lib.hid (own_low ho6 hsg (fun g e => by cases e; omega))
        have RF := Lib.hid (ORs.base (C := W.heap.size) (ORs.low (HO.out.below hb6) hsg (fun g e => by cases e; omega)) (by omega))
        have hsz6 := hsg.size
        clear hT6 hb6 ho6 z6 hsg
        go_wp2
        exact bodyPost_ret (ret_P2 Tryz.results42 rfl rfl HFIN.out) rfl ⟨_, _, vs, wr.heap.size, by rw [E1.out, E2.out]; rfl, by omega, Nat.le_trans hs6 hsz6, by rw [E1.out]; exact OF.out, by rw [E1.out]; exact RF.out, HU.out, BF.out⟩
end Go.Proofs.YtbkikbhnehjaaaaGreatDoor.Rp
namespace Go.Proofs.YtbkikbhnehjaaaaGreatDoor.Rp
open Go.RowKit
open Go.Proofs.YtbkikbhnehjaaaaGreatDoor.Po
open Go.Proofs.YtbkikbhnehjaaaaGreatDoor.Tx hiding ret_b ret_i
open Go.Proofs.YtbkikbhnehjaaaaGreatDoor.Ow
open Go.Proofs.YtbkikbhnehjaaaaGreatDoor.Pm
open Go.Proofs.YtbkikbhnehjaaaaGreatDoor.Ul (lowL low_len Tab MaxL)
def PostS (W : World) (p : Pl) (C : Int) (e : Ending) (w' : World) : Prop :=
  ∃ uv rv, e = .returned (.tuple #[pV p uv rv, .int .i64 C]) ∧ TxtsIn (fun b => W.heap.size ≤ b ∧ b < w'.heap.size) w' uv p.uris ∧ RlIn (fun b => W.heap.size ≤ b ∧ b < w'.heap.size) w' rv p.rules ∧ Below W.heap.size W w'
def PostI (W : World) (p : Pl) (C : Int) (e : Ending) (w' : World) : Prop :=
  ∃ (uv rv : Value) (vs : List Value) (L : Nat), e = .returned (.tuple #[pV p uv rv, .int .i64 C]) ∧ W.heap.size ≤ L ∧ L ≤ w'.heap.size ∧ O1 w' L uv p.uris ∧ ORs w' W.heap.size rv p.rules vs ∧ UnderL L rv vs ∧ Below W.heap.size W w'
theorem rpS2 (t : List UInt8) (hn : t.length ≤ 9223372036854775807) (p : Pl) (C : Int) (hp : rpP t = p) (hC : rpC t = C) (W : World) : Calls Tryz.prog 43 #[.string ⟨t.toArray⟩] W (PostS W p C) := by
  subst hp hC
  exact rpS_any t hn W
theorem rpI2 (t : List UInt8) (hn : t.length ≤ 9223372036854775807) (p : Pl) (C : Int) (hp : rpP t = p) (hC : rpC t = C) (W : World) (hT : Tab W) (hM : MaxL W) : Calls Tryz.prog 42 #[.string ⟨t.toArray⟩] W (PostI W p C) := by
  subst hp hC
  exact rpI_any t hn W hT hM
/-- how great a policy that is read may be -/
structure Sm (p : Pl) : Prop where
  uris : p.uris.length ≤ 4
  uri : ∀ u ∈ p.uris, u.length ≤ 100
  rules : p.rules.length ≤ 8
  lim : LimR 65537 p.rules
  tot : tot p.rules ≤ 72
theorem tot_few : ∀ (xs : List Rl) (n : Nat), xs.all shortB = true → xs.length ≤ n → tot xs ≤ 9 * n
  | [], n, _, _ => by simp [Ow.tot]
  | x :: r, n, h, hn => by
    simp only [List.all_cons, Bool.and_eq_true] at h
    have h1 : x.words.length ≤ 8 := by simpa [shortB] using h.1
    have h2 := tot_few r (n - 1) h.2 (by simp at hn; omega)
    simp only [List.length_cons] at hn
    simp only [Ow.tot]
    omega
theorem uris_mem (ws : List (List UInt8)) : ∀ us, (∀ u ∈ us, u.length ≤ 100) → ∀ u ∈ ws.foldl addU us, u.length ≤ 100 := by
  induction ws with
  | nil => exact fun us h => h
  | cons t r ih =>
    intro us h
    refine ih _ fun u hu => ?_
    unfold addU at hu
    split at hu
    · rcases List.mem_append.1 hu with h1 | h1
      · exact h u h1
      · simp at h1; subst h1; exact cleanL_len t
    · exact h u hu
theorem sm_rp (t : List UInt8) (_ : t.length ≤ 9223372036854775807) : Sm (rpP t) := by
  have hz : Sm ⟨[], [], []⟩ := ⟨by simp, by simp, by simp, fun x hx => by simp at hx, by simp [Ow.tot]⟩
  by_cases hl : 65536 < t.length
  · rw [(rp_long hl).1]; exact hz
  · cases hf : fewB (readRs t) with
    | false => rw [(rp_many hl hf).1]; exact hz
    | true =>
      rw [(rp_good hl hf).1]
      have hpp : ∀ p ∈ cutA 59 [] t, p.length + 1 ≤ 65537 := fun p hh => by have := (cutA_len 59 t []).2 p hh; simp at this; omega
      have hlm := (read_lim 65537 (cutA 59 [] t) hpp [] (by simp)).1
      have hf2 := hf
      unfold fewB at hf2
      simp only [Bool.and_eq_true, decide_eq_true_eq] at hf2
      exact ⟨uris_four _ [] (by simp), uris_mem _ [] (by simp), hf2.1, limR_of hlm (by omega), tot_few _ 8 hf2.2 hf2.1⟩
theorem mrs_lim (M : Nat) (hM : 21 ≤ M) : ∀ (xs : List Rl) (k : Nat), (∀ x ∈ xs, x.words.length ≤ M) → k + Ow.tot xs ≤ 4611686018427387904 → LimR M (mrs k xs)
  | [], k, _, _ => fun x hx => by simp [mrs] at hx
  | r :: t, k, h, hk => fun x hx => by
    simp only [mrs, List.mem_cons] at hx
    simp only [Ow.tot] at hk
    rcases hx with rfl | hx
    · refine ⟨Nat.le_trans (mkT_len k (by omega)) hM, by rw [mks_len]; exact h r (by simp), fun u hu => Nat.le_trans (mks_mem _ _ (by omega) u hu) hM⟩
    · exact mrs_lim M hM t _ (fun y hy => h y (by simp [hy])) (by omega) x hx
end Go.Proofs.YtbkikbhnehjaaaaGreatDoor.Rp
