
/-
  The laws' copies of JSON values, with what they own: toStringS, toJsonS, toJson.
-/
import Derived.Test.YtniflfgnelfpbaaJoA
import Derived.Test.YtniflfgnelfpbaaJsTo
namespace Go.Proofs.Ytniflfgnelfpbaa.Js
open Go.RowKit
/-- items that own their memory -/
def OL (w : World) (base : Nat) (S : Nat → Prop) (xs : List J) (iv : Value) : Prop :=
  ∃ (Sc : Nat → Nat → Prop) (vn vi : Nat → Value), RowJ w iv xs.length (fun j => xs.getD j default) vn vi ∧ (∀ b, iv.ownBlock = some b → base ≤ b) ∧ (∀ j, j < xs.length → FitJ (xs.getD j default)) ∧
    (∀ j, j < xs.length → OJ w base (Sc j) (xs.getD j default) (vn j) (vi j)) ∧ (∀ b, S b ↔ (iv.ownBlock = some b ∨ ∃ j, j < xs.length ∧ Sc j b)) ∧
    (∀ j, j < xs.length → ∀ b, Sc j b → iv.ownBlock ≠ some b) ∧ (∀ i j, i < xs.length → j < xs.length → i ≠ j → ∀ b, Sc i b → ¬ Sc j b)
theorem OL.slice {w : World} {base : Nat} {S : Nat → Prop} {xs : List J} {iv : Value} (h : OL w base S xs iv) : ∃ a l c, iv = .slice a l c := by
  obtain ⟨Sc, vn, vi, hr, _⟩ := h
  obtain ⟨a, c, e⟩ := hr.slice
  exact ⟨a, _, c, e⟩
theorem OL.lt {w : World} {base : Nat} {S : Nat → Prop} {xs : List J} {iv : Value} (h : OL w base S xs iv) : ∀ b, S b → base ≤ b ∧ b < w.heap.size := by
  obtain ⟨Sc, vn, vi, hr, hl, _, hd, hS, _⟩ := h
  intro b hb
  rcases (hS b).1 hb with h | ⟨j, hj, h⟩
  · exact ⟨hl b h, (hr.blk h).1⟩
  · exact (hd j hj).lt b h
theorem OL.same {w w' : World} {base : Nat} {S : Nat → Prop} {xs : List J} {iv : Value} (h : OL w base S xs iv) (he : ∀ b, S b → w'.heap[b]? = w.heap[b]?) : OL w' base S xs iv := by
  obtain ⟨Sc, vn, vi, hr, hl, hf, hd, hS, h1, h2⟩ := h
  exact ⟨Sc, vn, vi, hr.same fun b hb => he b ((hS b).2 (.inl hb)), hl, hf, fun j hj => (hd j hj).same fun b hb => he b ((hS b).2 (.inr ⟨j, hj, hb⟩)), hS, h1, h2⟩
theorem OL.base {w : World} {B C : Nat} {S : Nat → Prop} {xs : List J} {iv : Value} (h : OL w B S xs iv) (hC : C ≤ B) : OL w C S xs iv := by
  obtain ⟨Sc, vn, vi, hr, hl, hf, hd, hS, h1, h2⟩ := h
  exact ⟨Sc, vn, vi, hr, fun b hb => Nat.le_trans hC (hl b hb), hf, fun j hj => (hd j hj).base hC, hS, h1, h2⟩
theorem OL.nil (w : World) (base : Nat) : OL w base (fun _ => False) [] (.slice none 0 0) :=
  ⟨fun _ _ => False, fun _ => undef, fun _ => undef, .inl ⟨rfl, rfl⟩, fun b hb => by simp [Value.ownBlock] at hb, fun j hj => by simp at hj, fun j hj => by simp at hj, fun b => by simp [Value.ownBlock], fun j hj => by simp at hj, fun i j hi => by simp at hi⟩
/-- names and items that lie apart make a value -/
theorem OJ.of {w : World} {base : Nat} {S : Nat → Prop} {k n : Int} {t : List UInt8} {ns : List (List UInt8)} {xs : List J} {nv iv : Value} (hn : O1 w base nv ns) (hns : ∀ t ∈ ns, t.length ≤ 9223372036854775807) (hnl : ns.length ≤ 9223372036854775807) (h : OL w base S xs iv) (hd : ∀ b, S b → nv.ownBlock ≠ some b) :
    OJ w base (fun b => nv.ownBlock = some b ∨ S b) (.mk k n t ns xs) nv iv := by
  obtain ⟨Sc, vn, vi, hr, hl, hf, hdp, hS, h1, h2⟩ := h
  exact .mk Sc vn vi hn hns hnl hr hl hf hdp (fun b => by rw [hS b]) (fun j hj b hb => ⟨hd b ((hS b).2 (.inr ⟨j, hj, hb⟩)), h1 j hj b hb⟩) h2
theorem OJ.parts {w : World} {base : Nat} {S : Nat → Prop} {k n : Int} {t : List UInt8} {ns : List (List UInt8)} {xs : List J} {nv iv : Value} (h : OJ w base S (.mk k n t ns xs) nv iv) : O1 w base nv ns ∧ ∃ SL, OL w base SL xs iv ∧ (∀ b, SL b → S b ∧ nv.ownBlock ≠ some b) := by
  cases h with
  | mk Sc vn vi names hns hnl row low fit deep hS d1 d2 =>
    refine ⟨names, fun b => iv.ownBlock = some b ∨ ∃ j, j < xs.length ∧ Sc j b, ⟨Sc, vn, vi, row, low, fit, deep, fun b => Iff.rfl, fun j hj b hb => (d1 j hj b hb).2, d2⟩, fun b hb => ⟨(hS b).2 (.inr hb), fun e => ?_⟩⟩
    rcases hb with hb | ⟨j, hj, hb⟩
    · obtain ⟨_, _, C, hC⟩ := names.blk e
      obtain ⟨_, C', hC'⟩ := row.blk hb
      rw [hC] at hC'
      cases hC'
    · exact (d1 j hj b hb).1 e
/-- a new slice of the texts ns, all its own -/
def NewTO (W : World) (ns : List (List UInt8)) (e : Ending) (w' : World) : Prop := ∃ v, e = .returned v ∧ O1 w' W.heap.size v ns ∧ Below W.heap.size W w'
def NewJO (W : World) (j : J) (e : Ending) (w' : World) : Prop := ∃ nv iv S, e = .returned (jV j nv iv) ∧ OJ w' W.heap.size S j nv iv ∧ FitJ j ∧ Below W.heap.size W w'
def NewLO (W : World) (xs : List J) (e : Ending) (w' : World) : Prop := ∃ v S, e = .returned v ∧ OL w' W.heap.size S xs v ∧ Below W.heap.size W w'
/-- forgetting what is owned -/
theorem NewJO.plain {W : World} {j : J} {e : Ending} {w' : World} (h : NewJO W j e w') : NewJ W j e w' := by
  obtain ⟨nv, iv, S, rfl, ho, hf, hb⟩ := h
  exact ⟨nv, iv, rfl, (ho.jin hf).mono fun b hb' => ho.lt b hb', hb⟩
theorem newTO_of {W w' : World} {ns : List (List UInt8)} {f : Nat → Value} (hr : w'.rowIs W.heap.size 9 ns.length f) (hm : ns.length ≤ 1048576) (hf : ∀ i, i < ns.length → f i = .string ⟨(ns.getD i []).toArray⟩) (hb : Below W.heap.size W w') : NewTO W ns (.returned (.slice (some ⟨W.heap.size, 0, none⟩) ns.length ns.length)) w' := by
  obtain ⟨C, hC, hs, hCf⟩ := hr
  refine ⟨_, rfl, ⟨by simp, .inr ⟨W.heap.size, ns.length, C, rfl, Nat.le_refl _, hC, Nat.le_refl _, by unfold maxLen; omega, by omega, ?_⟩⟩, hb⟩
  apply List.ext_getElem?
  intro j
  by_cases hj : j < ns.length
  · rw [List.getElem?_take_of_lt (by omega)]
    have h1 : C.toList[j]? = some (f j) := by have := hCf j hj; simpa using this
    rw [h1, hf j hj]
    simp [hj]
  · rw [List.getElem?_eq_none (by simp; omega), List.getElem?_eq_none (by simp; omega)]
set_option maxRecDepth 100000 in
set_option maxHeartbeats 1000000 in
theorem toTO_any (B : Nat) (w0 : World) (ns : List (List UInt8)) (v : Value) (h : TxtsIn (· < B) w0 v ns) (hsz : ns.length ≤ 1048576) (W : World) (hb : Below B w0 W) (hB : B ≤ W.heap.size) :
    Calls Try.prog 24 #[v] W (NewTO W ns) := by
  have h' := h.blw hb
  obtain ⟨a, cap, b, off, rfl, hcap, hm, hlen, ha, hc⟩ := h'
  have HC := Lib.hid hc
  have HL := Lib.hid hlen
  have HA := Lib.hid ha
  clear hc hlen ha h hb
  have hmk := fun w => run_make_row' (P := Try.prog) 29 9 (.string ByteArray.empty) 16 Try.underlying29 Try.infoTxt rfl .i64 .i64 ns.length (by omega) (by omega) w
  have HR0 := Lib.hid (World.rowIs_made W (.string ByteArray.empty) ns.length 9)
  have HB0 := Lib.hid ((Below.refl W.heap.size W).alloc (Nat.le_refl _) (.cells (madeCells #[.string ByteArray.empty] ns.length) 9))
  go_enter Try.func24, Try.ntmps24
  go_wp2
  go_loopw [4] (fun i wr => ∃ (k : Nat), k ≤ ns.length ∧ i = .int .i64 k ∧ wr.rowIs W.heap.size 9 ns.length (txtF ns k) ∧ Below W.heap.size W wr) (fun i _ => ns.length - (intOf i).toNat)
  case atStart => exact ⟨0, by omega, rfl, HR0.out.congr (fun i _ => by simp [txtF]), HB0.out⟩
  case round =>
    obtain ⟨k, hk, rfl, hR, hN⟩ := hrel
    by_cases hlt : k < ns.length
    · obtain ⟨ea, hlb⟩ := HA.out (by omega)
      subst ea
      have q0 := (hN.cell (p := ⟨b, off + k, none⟩) (Nat.lt_of_lt_of_le hlb hB)).trans (HC.out k hlt)
      have q1 := hR.cell hlt
      have q2 := hR.frozen k
      have hR' := Lib.hid ((hR.set k (.string ⟨(ns.getD k []).toArray⟩)).congr (fun j _ => txtF_step ns k j))
      have hN' := Lib.hid (hN.setCell (p := ⟨W.heap.size, k, none⟩) (Nat.le_refl _) (.string ⟨(ns.getD k []).toArray⟩))
      clear hR hN
      generalize ns.getD k [] = t at *
      generalize txtF ns k k = z at *
      go_wp2
      go_roundw
      case rel => exact ⟨k + 1, by omega, by go_num, hR'.out, hN'.out⟩
      case measure => simp [intOf]; omega
    · obtain rfl : k = ns.length := by omega
      have hF : NewTO W ns (.returned (.slice (some ⟨W.heap.size, 0, none⟩) ns.length ns.length)) wr := newTO_of hR (by omega) (fun i hi => by simp [txtF, hi]) hN
      go_wp2
      go_ret
      exact hF
/-- what has been copied after k rounds -/
def ToRO (W : World) (xs : List J) (k : Nat) (wr : World) : Prop :=
  ∃ (F vn vi : Nat → Value) (Sc : Nat → Nat → Prop), wr.rowIs W.heap.size 36 (xs.length * 5) F ∧
    (∀ i, i < k → ∀ c, c < 5 → F (i * 5 + c) = cellJ (xs.getD i default) (vn i) (vi i) c) ∧ (∀ i, i < k → FitJ (xs.getD i default)) ∧
    (∀ i, i < k → OJ wr (W.heap.size + 1) (Sc i) (xs.getD i default) (vn i) (vi i)) ∧ (∀ i j, i < k → j < k → i ≠ j → ∀ b, Sc i b → ¬ Sc j b) ∧ Below W.heap.size W wr
theorem toRO_start (W : World) (xs : List J) : ToRO W xs 0 (W.alloc (.cells (madeCells #[.int .i64 0, .int .i64 0, .string ByteArray.empty, .slice none 0 0, .slice none 0 0] (xs.length * 5)) 36)) := by
  obtain ⟨F, vn, vi, hr, -, -, hb⟩ := toRel_start W xs
  exact ⟨F, vn, vi, fun _ _ => False, hr, fun i hi => by omega, fun i hi => by omega, fun i hi => by omega, fun i j hi => by omega, hb⟩
theorem toRO_end {W w' : World} {xs : List J} (h : ToRO W xs xs.length w') (hm : xs.length ≤ 1048576) : NewLO W xs (.returned (.slice (some ⟨W.heap.size, 0, none⟩) xs.length xs.length)) w' := by
  obtain ⟨F, vn, vi, Sc, hr, hf, hfit, hj, hd, hb⟩ := h
  refine ⟨_, fun b => (Value.slice (some ⟨W.heap.size, 0, none⟩) xs.length xs.length).ownBlock = some b ∨ ∃ j, j < xs.length ∧ Sc j b, rfl, ⟨Sc, vn, vi, .inr ⟨W.heap.size, xs.length, F, rfl, hr, Nat.le_refl _, by omega, hf⟩, fun b hb => ?_, hfit, fun j hj' => (hj j hj').base (by omega), fun b => Iff.rfl, fun j hj' b hb e => ?_, hd⟩, hb⟩
  · simp [Value.ownBlock] at hb; omega
  · have := (hj j hj').lt b hb
    simp [Value.ownBlock] at e; omega
theorem toRO_step {W wr w2 : World} {xs : List J} {k : Nat} {x : J} {nv iv : Value} {F wn wi : Nat → Value} {Sc : Nat → Nat → Prop} {S : Nat → Prop} (hx : xs.getD k default = x) (hr : w2.rowIs W.heap.size 36 (xs.length * 5) F)
    (hf : ∀ i, i < k → ∀ c, c < 5 → F (i * 5 + c) = cellJ (xs.getD i default) (wn i) (wi i) c) (hfit : ∀ i, i < k → FitJ (xs.getD i default))
    (hj : ∀ i, i < k → OJ wr (W.heap.size + 1) (Sc i) (xs.getD i default) (wn i) (wi i)) (hd : ∀ i j, i < k → j < k → i ≠ j → ∀ b, Sc i b → ¬ Sc j b) (hN : Below W.heap.size W wr) (hlt : W.heap.size < wr.heap.size)
    (hj2 : OJ w2 wr.heap.size S x nv iv) (hft : FitJ x) (hb2 : Below wr.heap.size wr w2) :
    ToRO W xs (k + 1) (set5 w2 W.heap.size (k * 5) (.int .i64 x.kind) (.int .i64 x.num) (.string ⟨x.text.toArray⟩) nv iv) := by
  have hs := hb2.size
  refine ⟨fun j => if j = k * 5 + 4 then iv else if j = k * 5 + 3 then nv else if j = k * 5 + 2 then .string ⟨x.text.toArray⟩ else if j = k * 5 + 1 then .int .i64 x.num else if j = k * 5 then .int .i64 x.kind else F j,
    fun i => if i = k then nv else wn i, fun i => if i = k then iv else wi i, fun i => if i = k then S else Sc i, ((((hr.set _ _).set _ _).set _ _).set _ _).set _ _, fun i hi c hc => ?_, fun i hi => ?_, fun i hi => ?_, fun i j hi hj' hne b => ?_, ?_⟩
  · by_cases e : i = k
    · subst e
      rw [hx]
      simp only [if_true]
      match c, hc with
      | 0, _ => simp [cellJ]
      | 1, _ => simp [cellJ]
      | 2, _ => simp [cellJ]
      | 3, _ => simp [cellJ]
      | 4, _ => simp [cellJ]
    · dsimp only
      rw [if_neg e, if_neg e, ← hf i (by omega) c hc]
      rw [if_neg (by omega), if_neg (by omega), if_neg (by omega), if_neg (by omega), if_neg (by omega)]
  · by_cases e : i = k
    · subst e; rw [hx]; exact hft
    · exact hfit i (by omega)
  · by_cases e : i = k
    · subst e
      rw [hx]
      simp only [if_true]
      exact (hj2.base (by omega)).same fun b hb => set5_far _ _ _ _ _ _ _ _ _ (by have := hj2.lt b hb; omega)
    · simp only [if_neg e]
      refine (hj i (by omega)).same fun b hb => ?_
      have := (hj i (by omega)).lt b hb
      rw [set5_far _ _ _ _ _ _ _ _ _ (by omega)]; exact hb2.block b this.2
  · dsimp only
    by_cases e1 : i = k
    · rw [if_pos e1, if_neg (by omega)]
      intro h1 h2
      have := hj2.lt b h1
      have := (hj j (by omega)).lt b h2
      omega
    · rw [if_neg e1]
      by_cases e2 : j = k
      · rw [if_pos e2]
        intro h1 h2
        have := hj2.lt b h2
        have := (hj i (by omega)).lt b h1
        omega
      · rw [if_neg e2]
        exact hd i j (by omega) (by omega) hne b
  · have hb3 : Below W.heap.size W w2 := hN.trans (hb2.mono (by omega))
    exact ((((hb3.setCell (by simp) _).setCell (by simp) _).setCell (by simp) _).setCell (by simp) _).setCell (by simp) _
set_option maxRecDepth 100000 in
set_option maxHeartbeats 1000000 in
theorem toLO_of (B : Nat) (w0 : World) (xs : List J) (v : Value) (h : LIn (· < B) w0 v xs) (hsz : xs.length ≤ 1048576)
    (ih : ∀ i, i < xs.length → ∀ (nv iv : Value), JIn (· < B) w0 (xs.getD i default) nv iv → ∀ (W : World), Below B w0 W → B ≤ W.heap.size → Calls Try.prog 11 #[jV (xs.getD i default) nv iv] W (NewJO W (xs.getD i default)))
    (W : World) (hb : Below B w0 W) (hB : B ≤ W.heap.size) :
    Calls Try.prog 25 #[v] W (NewLO W xs) := by
  obtain ⟨a, cap, b, off, vn, vi, rfl, hcap, hm, ha, hc, hd⟩ := h
  have HC := Lib.hid hc
  have HD := Lib.hid hd
  have HA := Lib.hid ha
  have HI := Lib.hid ih
  have HB := Lib.hid hb
  clear hc hd ha ih hb
  have hmk := fun w => run_makeJ xs.length hsz w
  have HR0 := Lib.hid (toRO_start W xs)
  go_enter Try.func25, Try.ntmps25
  go_wp2
  go_loopw [4] (fun i wr => ∃ (k : Nat), k ≤ xs.length ∧ i = .int .i64 k ∧ ToRO W xs k wr) (fun i _ => xs.length - (intOf i).toNat)
  case atStart => exact ⟨0, by omega, rfl, HR0.out⟩
  case round =>
    obtain ⟨k, hk, rfl, hR⟩ := hrel
    by_cases hlt : k < xs.length
    · obtain ⟨ea, hlb⟩ := HA.out (by omega)
      subst ea
      obtain ⟨F, wn, wi, Sc, hr, hf, hft, hj, hdd, hN⟩ := hR
      have hW : Below B w0 wr := HB.out.trans (hN.mono hB)
      obtain ⟨d0, d1, d2, d3, d4⟩ := HC.out k hlt
      have q0 := (hW.cell (p := ⟨b, off + k * 5, none⟩) hlb).trans d0
      have q1 := (hW.cell (p := ⟨b, off + k * 5 + 1, none⟩) hlb).trans d1
      have q2 := (hW.cell (p := ⟨b, off + k * 5 + 2, none⟩) hlb).trans d2
      have q3 := (hW.cell (p := ⟨b, off + k * 5 + 3, none⟩) hlb).trans d3
      have q4 := (hW.cell (p := ⟨b, off + k * 5 + 4, none⟩) hlb).trans d4
      clear d0 d1 d2 d3 d4
      have HK := Lib.hid (HI.out k hlt _ _ (HD.out k hlt) wr hW (Nat.le_trans hB hN.size))
      have HF := Lib.hid hf
      have HFT := Lib.hid hft
      have HDD := Lib.hid hdd
      have HJ := Lib.hid hj
      have HN := Lib.hid hN
      have HR := Lib.hid hr
      clear hf hj hN hW hr hft hdd
      generalize hx : xs.getD k default = x at *
      have HX := Lib.hid hx
      clear hx
      generalize vn k = n1 at *
      generalize vi k = i1 at *
      go_wp2_with fail
      refine HK.out.mono ?_
      rintro e w2 ⟨nv, iv, S, rfl, hj2, hft2, hb2⟩
      have HFT2 := Lib.hid hft2
      obtain ⟨⟨an, ln, cn, rfl⟩, ⟨ai, li, ci, rfl⟩⟩ := hj2.slices
      have z2 := hb2.size
      have hr2 := HR.out.of_block (hb2.block _ HR.out.lt)
      have p0 := hr2.cell (i := k * 5) (by omega)
      have p1 := hr2.cell (i := k * 5 + 1) (by omega)
      have p2 := hr2.cell (i := k * 5 + 2) (by omega)
      have p3 := hr2.cell (i := k * 5 + 3) (by omega)
      have p4 := hr2.cell (i := k * 5 + 4) (by omega)
      have pf := hr2.frozen
      have HR2 := Lib.hid hr2
      have HJ2 := Lib.hid hj2
      have HB2 := Lib.hid hb2
      clear hr2 hj2 hb2 hft2
      go_wp2
      go_roundw
      case rel => exact ⟨k + 1, by omega, by go_num, toRO_step HX.out HR2.out HF.out HFT.out HJ.out HDD.out HN.out HR.out.lt HJ2.out HFT2.out HB2.out⟩
      case measure => simp [intOf]; omega
    · obtain rfl : k = xs.length := by omega
      have hF := Lib.hid (toRO_end hR hsz)
      go_wp2
      go_ret
      exact hF.out
theorem names_len {S : Nat → Prop} {w : World} {v : Value} {ns : List (List UInt8)} (h : TxtsIn S w v ns) : (∀ t ∈ ns, t.length ≤ 9223372036854775807) ∧ ns.length ≤ 9223372036854775807 := by
  obtain ⟨a, cap, b, off, rfl, h1, h2, h3, _⟩ := h
  refine ⟨fun t ht => ?_, by omega⟩
  obtain ⟨i, hi, rfl⟩ := List.getElem_of_mem ht
  have := h3 i hi
  simpa [hi] using this
set_option maxRecDepth 100000 in
set_option maxHeartbeats 1000000 in
theorem toJO_go (B : Nat) (w0 : World) (j : J) : ∀ (nv iv : Value), JIn (· < B) w0 j nv iv → szJ j ≤ 1048576 → ∀ (W : World), Below B w0 W → B ≤ W.heap.size →
    Calls Try.prog 11 #[jV j nv iv] W (NewJO W j) := by
  induction j using J.ind with
  | h k n t ns xs ih =>
    intro nv iv h hs W hb hB
    unfold szJ at hs
    obtain ⟨hL, hN, b1, b2, b3⟩ := h.inv
    have HNL := Lib.hid (names_len hN)
    have hnsz : ns.length ≤ 1048576 := by omega
    have TL := Lib.hid (toLO_of B w0 xs iv hL (by omega) (fun i hi nv iv h' => ih _ (by simp [hi]) nv iv h' (by have := szL_len xs (xs.getD i default) (by simp [hi]); omega)))
    have TT := Lib.hid (toTO_any B w0 ns nv hN (by omega))
    have HB := Lib.hid hb
    clear ih hL hN h hb
    show Calls _ _ #[.agg #[.int .i64 k, .int .i64 n, .string ⟨t.toArray⟩, nv, iv]] _ _
    go_enter Try.func11, Try.ntmps11
    go_wp2_with fail
    have k0 := alloc3_0 W (.cells #[.int .i64 k, .int .i64 n, .string ⟨t.toArray⟩, nv, iv] 32) (.cells #[.int .i64 0, .int .i64 0, .string ⟨#[]⟩, .slice none 0 0, .slice none 0 0] 36) (.cells #[.int .i64 k, .int .i64 n, .string ⟨t.toArray⟩, .slice none 0 0, .slice none 0 0] 36)
    have k1 := alloc3_1 W (.cells #[.int .i64 k, .int .i64 n, .string ⟨t.toArray⟩, nv, iv] 32) (.cells #[.int .i64 0, .int .i64 0, .string ⟨#[]⟩, .slice none 0 0, .slice none 0 0] 36) (.cells #[.int .i64 k, .int .i64 n, .string ⟨t.toArray⟩, .slice none 0 0, .slice none 0 0] 36)
    have k2 := alloc3_2 W (.cells #[.int .i64 k, .int .i64 n, .string ⟨t.toArray⟩, nv, iv] 32) (.cells #[.int .i64 0, .int .i64 0, .string ⟨#[]⟩, .slice none 0 0, .slice none 0 0] 36) (.cells #[.int .i64 k, .int .i64 n, .string ⟨t.toArray⟩, .slice none 0 0, .slice none 0 0] 36)
    have hb3 : Below W.heap.size W (((W.alloc (.cells #[.int .i64 k, .int .i64 n, .string ⟨t.toArray⟩, nv, iv] 32)).alloc (.cells #[.int .i64 0, .int .i64 0, .string ⟨#[]⟩, .slice none 0 0, .slice none 0 0] 36)).alloc (.cells #[.int .i64 k, .int .i64 n, .string ⟨t.toArray⟩, .slice none 0 0, .slice none 0 0] 36)) := (((Below.refl _ _).alloc (Nat.le_refl _) _).alloc (by simp) _).alloc (by simp; omega) _
    have z3 : W.heap.size + 3 = (((W.alloc (.cells #[.int .i64 k, .int .i64 n, .string ⟨t.toArray⟩, nv, iv] 32)).alloc (.cells #[.int .i64 0, .int .i64 0, .string ⟨#[]⟩, .slice none 0 0, .slice none 0 0] 36)).alloc (.cells #[.int .i64 k, .int .i64 n, .string ⟨t.toArray⟩, .slice none 0 0, .slice none 0 0] 36)).heap.size := by simp
    generalize (((W.alloc (.cells #[.int .i64 k, .int .i64 n, .string ⟨t.toArray⟩, nv, iv] 32)).alloc (.cells #[.int .i64 0, .int .i64 0, .string ⟨#[]⟩, .slice none 0 0, .slice none 0 0] 36)).alloc (.cells #[.int .i64 k, .int .i64 n, .string ⟨t.toArray⟩, .slice none 0 0, .slice none 0 0] 36)) = w3 at *
    refine (TT.out w3 (HB.out.trans (hb3.mono hB)) (by omega)).mono ?_
    rintro e w4 ⟨v4, rfl, ht4, hb4⟩
    obtain ⟨a4, c4, rfl⟩ := ht4.slice
    have z4 := hb4.size
    have m0 := five_cells ((hb4.block _ (by omega)).trans k0)
    have m2 := five_cells ((hb4.block _ (by omega)).trans k2)
    have k1' := (hb4.block _ (by omega)).trans k1
    have k2' := (hb4.block _ (by omega)).trans k2
    have K1 := Lib.hid k1'
    have K2 := Lib.hid k2'
    have HT := Lib.hid ht4
    have H3 := Lib.hid hb3
    have H4 := Lib.hid hb4
    have Z3 := Lib.hid z3
    clear k0 k1 k2 k1' k2' ht4 hb3 hb4 z3
    obtain ⟨-, -, -, -, m04, -⟩ := m0
    obtain ⟨m20, m21, m22, m23, m24, m2f⟩ := m2
    go_wp2_with fail
    have hb5 : Below W.heap.size W (w4.setCell ⟨W.heap.size + 1 + 1, 3, none⟩ (.slice a4 ns.length c4)) := (H3.out.trans (H4.out.mono (by have := Z3.out; omega))).setCell (by simp; omega) _
    refine (TL.out (w4.setCell ⟨W.heap.size + 1 + 1, 3, none⟩ (.slice a4 ns.length c4)) (HB.out.trans (hb5.mono hB)) (by simp; have := Z3.out; omega)).mono ?_
    rintro e w6 ⟨v6, SL, rfl, hl6, hb6⟩
    obtain ⟨a6, l6, c6, rfl⟩ := hl6.slice
    have z6 : w4.heap.size ≤ w6.heap.size := by simpa using hb6.size
    have k2 := (hb6.block _ (by simp; have := Z3.out; omega)).trans (heap_set K2.out 3 (.slice a4 ns.length c4))
    have k1 := (hb6.block _ (by simp; have := Z3.out; omega)).trans ((heap_setCell_other _ ⟨W.heap.size + 1 + 1, 3, none⟩ _ _ (by simp)).trans K1.out)
    have m2 := five_cells k2
    have m1 := five_cells k1
    have K16 := Lib.hid k1
    have hO1 : O1 w6 w3.heap.size (.slice a4 ns.length c4) ns := own_blk HT.out fun b hb => by
      have := HT.out.blk hb
      exact (hb6.block b (by simp; omega)).trans (heap_setCell_other _ ⟨W.heap.size + 1 + 1, 3, none⟩ b _ (by have := Z3.out; simp; omega))
    have hJ : OJ w6 w3.heap.size (fun b => (Value.slice a4 ns.length c4).ownBlock = some b ∨ SL b) (.mk k n t ns xs) (.slice a4 ns.length c4) (.slice a6 l6 c6) :=
      .of hO1 HNL.out.1 HNL.out.2 (hl6.base (by simp; omega)) fun b hb e => by
        have h1 := hl6.lt b hb
        have h2 := HT.out.blk e
        simp at h1
        omega
    have hB6 : Below W.heap.size W w6 := hb5.trans (hb6.mono (by simp; have := Z3.out; omega))
    have HJ := Lib.hid hJ
    have H6 := Lib.hid hB6
    clear hl6 hb6 k1 k2 hO1 hJ hB6 hb5 m20 m21 m22 m23 m24 m2f m04
    obtain ⟨m20, m21, m22, m23, m24, m2f⟩ := m2
    obtain ⟨m10, m11, m12, m13, m14, m1f⟩ := m1
    have hfin : (set5 (w6.setCell ⟨W.heap.size + 1 + 1, 4, none⟩ (.slice a6 l6 c6)) (W.heap.size + 1) 0 (.int .i64 k) (.int .i64 n) (.string ⟨t.toArray⟩) (.slice a4 ns.length c4) (.slice a6 l6 c6)).heap[W.heap.size + 1]? = some (.cells #[.int .i64 k, .int .i64 n, .string ⟨t.toArray⟩, .slice a4 ns.length c4, .slice a6 l6 c6] 36 (0, 0)) :=
      heap_set (heap_set (heap_set (heap_set (heap_set ((heap_setCell_other _ ⟨W.heap.size + 1 + 1, 4, none⟩ _ _ (by simp)).trans K16.out) 0 (.int .i64 k)) 1 (.int .i64 n)) 2 (.string ⟨t.toArray⟩)) 3 (.slice a4 ns.length c4)) 4 (.slice a6 l6 c6)
    have HFIN := Lib.hid hfin
    have hpost : NewJO W (.mk k n t ns xs) (.returned (jV (.mk k n t ns xs) (.slice a4 ns.length c4) (.slice a6 l6 c6))) (set5 (w6.setCell ⟨W.heap.size + 1 + 1, 4, none⟩ (.slice a6 l6 c6)) (W.heap.size + 1) 0 (.int .i64 k) (.int .i64 n) (.string ⟨t.toArray⟩) (.slice a4 ns.length c4) (.slice a6 l6 c6)) := by
      refine ⟨_, _, _, rfl, (HJ.out.base (by have := Z3.out; omega)).same fun b hb => ?_, ⟨b1, b2, b3⟩, ?_⟩
      · have hlt := HJ.out.lt b hb
        rw [set5_far _ _ _ _ _ _ _ _ _ (by have := Z3.out; omega)]
        exact heap_setCell_other _ ⟨W.heap.size + 1 + 1, 4, none⟩ b _ (by have := Z3.out; simp; omega)
      · exact (((((H6.out.setCell (by simp; omega) _).setCell (by simp) _).setCell (by simp) _).setCell (by simp) _).setCell (by simp) _).setCell (by simp) _
    have HP := Lib.hid hpost
    clear hfin hpost
    go_wp2
    exact bodyPost_ret (ret_J Try.results11 rfl HFIN.out) rfl HP.out
end Go.Proofs.Ytniflfgnelfpbaa.Js
