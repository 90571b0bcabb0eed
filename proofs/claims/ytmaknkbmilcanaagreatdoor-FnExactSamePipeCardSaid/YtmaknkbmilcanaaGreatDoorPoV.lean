
/-
  The program's cleanUrls, walked. The program's policyOf, walked. PolicyOK, the model's and the program's. The law FnExactPolicyOK, walked. The laws' marks: markText; a slice of texts, of rules, of targets written over and looked at again. The laws' copies once more, with what they own: rows of the copies' own, not frozen, of their types. A policy's own memory written over: markStringS, markRuleS, markPolicy.
-/
import Derived.Test.YtmaknkbmilcanaaGreatDoorPoI
import Derived.Test.YtmaknkbmilcanaaGreatDoorPoS4
import Derived.Deep.RegionHeld3
import Derived.Test.YtmaknkbmilcanaaGreatDoorPoMem
import Derived.Test.YtmaknkbmilcanaaGreatDoorUrlSpecA
namespace Go.Proofs.YtmaknkbmilcanaaGreatDoor.Po
open Go.RowKit
open Go.Proofs.YtmaknkbmilcanaaGreatDoor.Tx
open Go.Proofs.YtmaknkbmilcanaaGreatDoor.Ul hiding ret_bool
open Go.Proofs.YtmaknkbmilcanaaGreatDoor.Cl
open Go.Proofs.YtmaknkbmilcanaaGreatDoor.Mp
theorem seen_add {f : List UInt8 → Bool} {us : List (List UInt8)} {cl : List UInt8} (h : seenU f us) : seenU (fun t => if t = cl then true else f t) (us ++ [cl]) := fun hl t => by
  have h1 := h (by simp at hl; omega) t
  dsimp only
  by_cases e : t = cl
  · rw [if_pos e]; subst e; simp
  · rw [if_neg e, h1]
    simp [e]
theorem seen_same {f : List UInt8 → Bool} {us : List (List UInt8)} {cl : List UInt8} (h : seenU f us) (hf : f cl = true) : seenU (fun t => if t = cl then true else f t) us := fun hl t => by
  have h1 := h hl t
  dsimp only
  by_cases e : t = cl
  · rw [if_pos e]; subst e; rw [← h1, hf]
  · rw [if_neg e, h1]
theorem seen_full {f : List UInt8 → Bool} {us : List (List UInt8)} (h : ¬ us.length < 4) : seenU f us := fun hl => absurd hl h
theorem addU_no (us : List (List UInt8)) (x : List UInt8) (h : cleanC x = false) : addU us x = us := by rw [addU_as, h]; simp
theorem addU_in {f : List UInt8 → Bool} (us : List (List UInt8)) (x : List UInt8) (h : seenU f us) (hf : f (cleanL x) = true) : addU us x = us := by
  rw [addU_as]
  by_cases hl : us.length < 4
  · rw [← h hl (cleanL x), hf]; simp
  · rw [decide_eq_false hl]; simp
theorem addU_full (us : List (List UInt8)) (x : List UInt8) (hl : ¬ us.length < 4) : addU us x = us := by rw [addU_as, decide_eq_false hl]; simp
theorem addU_new {f : List UInt8 → Bool} (us : List (List UInt8)) (x : List UInt8) (hc : cleanC x = true) (h : seenU f us) (hf : f (cleanL x) = false) (hl : us.length < 4) : addU us x = us ++ [cleanL x] := by
  rw [addU_as, hc, ← h hl (cleanL x), hf, decide_eq_true hl]; simp
theorem below_grownBy {w w' : World} (h : Below w.heap.size w w') (row : Option Nat) : w.grownBy w' row := ⟨h.os, h.tape, h.output, h.size, fun k hk _ => h.block k hk⟩
theorem own_kept {B : Nat} {w w' : World} {v : Value} {n : Nat} {xs : List Value} {b : Nat} (h : w.ownsRow B 9 1 v n xs) (hg : w.grownBy w' (some b)) (hb : b < B) : w'.ownsRow B 9 1 v n xs :=
  h.kept hg (by
    cases e : v.ownBlock with
    | none => exact .inl rfl
    | some k => have := (h.lt k e).1; exact .inr (by intro e2; cases e2; omega))
theorem Seen.app {w w' : World} {g b n B : Nat} {f : List UInt8 → Bool} {o : Obj} {v : Value} {m : Nat} {xs : List Value} (h : Seen w g b n f) (ho : w.ownsRow B 9 1 v m xs) (hg : (w.alloc o).grownBy w' v.ownBlock) (h1 : g < B) (h2 : b < B) : Seen w' g b n f := by
  have lg := (Array.getElem?_eq_some_iff.1 h.1).1
  have lb := h.2.1.lt
  have ne : ∀ k, k < B → some k ≠ v.ownBlock := fun k hk e => by have := (ho.lt k e.symm).1; omega
  exact ⟨(hg.block g (by simp; omega) (ne g h1)).trans ((heap_alloc_old _ o lg).trans h.1), h.2.1.kept ((hg.block b (by simp; omega) (ne b h2)).trans (heap_alloc_old _ o lb)), h.2.2⟩
theorem own_base {B C n s : Nat} {T : TypeId} {w : World} {v : Value} {xs : List Value} (h : w.ownsRow B T s v n xs) (hBC : C ≤ B) : w.ownsRow C T s v n xs := by
  obtain ⟨h1, h2⟩ := h
  refine ⟨h1, ?_⟩
  rcases h2 with hn | ⟨g, cap, cur, rfl, hb, rest⟩
  · exact .inl hn
  · exact .inr ⟨g, cap, cur, rfl, Nat.le_trans hBC hb, rest⟩
set_option maxRecDepth 100000 in
set_option maxHeartbeats 2000000 in
theorem urlsI_any (B : Nat) (w0 : World) (ws : List (List UInt8)) (v : Value) (h : TxtsIn (· < B) w0 v ws) (hx : ws.length ≤ 1048576) (hl : ∀ j, j < ws.length → (ws.getD j []).length ≤ 1048576) (W : World) (hb : Below B w0 W) (hB : B ≤ W.heap.size) (hT : Tab W) (hM : MaxL W) :
    Calls Tryz.prog 281 #[v] W fun e w' => ∃ uv, e = .returned uv ∧ TxtsIn (fun b => W.heap.size ≤ b ∧ b < w'.heap.size) w' uv (urisOf ws) ∧ Below W.heap.size W w' ∧ w'.ownsRow W.heap.size 9 1 uv (urisOf ws).length (strV (urisOf ws)) := by
  obtain ⟨a, cap, b, off, rfl, hcap, hm, hlen, ha, hc⟩ := h
  have HC := Lib.hid hc
  have HA := Lib.hid ha
  have HB := Lib.hid hb
  have HL := Lib.hid hl
  have HT := Lib.hid hT
  have HM := Lib.hid hM
  clear hc ha hlen hb hl hT hM
  go_enter Tryz.func281, Tryz.ntmps281
  go_wp2_with fail
  refine (first_any W).mono ?_
  rintro e w1 ⟨rfl, hS1, hb1⟩
  have HS1 := Lib.hid hS1
  have HB1 := Lib.hid hb1
  clear hS1 hb1
  go_wp2
  go_loopw [3, 12] (fun uv i wr => ∃ (k n : Nat) (f : List UInt8 → Bool), k ≤ ws.length ∧ n ≤ k ∧ i = .int .i64 k ∧ Seen wr (W.heap.size + 1) W.heap.size n f ∧ seenU f ((ws.take k).foldl addU []) ∧ wr.ownsRow (W.heap.size + 2) 9 1 uv ((ws.take k).foldl addU []).length (strV ((ws.take k).foldl addU [])) ∧ W.heap.size + 2 ≤ wr.heap.size ∧ Below W.heap.size W wr) (fun _ i _ => ws.length - (intOf i).toNat)
  case atStart => exact ⟨0, 0, _, by omega, by omega, rfl, HS1.out, fun _ t => rfl, World.ownsRow_nil _ _ _ _, by have := (Array.getElem?_eq_some_iff.1 HS1.out.1).1; omega, HB1.out⟩
  case round =>
    obtain ⟨k, n, f, hk, hnk, rfl, hS, hf, hO, hz, hR⟩ := hrel
    have hW : Below B w0 wr := HB.out.trans (hR.mono hB)
    have hus := uris_four (ws.take k) [] (by simp)
    have hug := uris_get ws k
    have HS := Lib.hid hS
    have HF := Lib.hid hf
    have HO := Lib.hid hO
    have HR := Lib.hid hR
    clear hS hf
    by_cases hlt : k < ws.length
    · obtain ⟨ea, hlb⟩ := HA.out (by omega)
      subst ea
      have q0 := (hW.cell (p := ⟨b, off + k, none⟩) hlb).trans (HC.out k hlt)
      have HCL := Lib.hid (fun W hT hM => clean_any (ws.getD k []) W hT hM (Nat.le_trans (HL.out k hlt) (by omega)))
      have UT := Lib.hid (uris_take ws k hlt)
      generalize ws.getD k [] = x at *
      have hcl := cleanL_len x
      generalize (ws.take k).foldl addU [] = us at *
      have NO := Lib.hid (addU_no us x)
      have IN := Lib.hid (addU_in us x HF.out)
      have FULL := Lib.hid (addU_full us x)
      have NEW := Lib.hid (fun hc => addU_new us x hc HF.out)
      generalize cleanC x = cb at *
      generalize cleanL x = cl at *
      obtain ⟨au, cu, rfl⟩ := own_slice hO
      clear hO hR hug
      go_wp2_with fail
      refine (HCL.out wr (HT.out.below HR.out) (HM.out.below HR.out)).mono ?_
      rintro e w2 ⟨rfl, hb2⟩
      have hz2 : W.heap.size + 2 ≤ w2.heap.size := Nat.le_trans hz hb2.size
      have HS2 := Lib.hid (HS.out.later hb2)
      have HO2 := Lib.hid (HO.out.kept (below_grownBy hb2 none) (by cases (Value.slice au us.length cu).ownBlock <;> simp))
      have HR2 := Lib.hid (belI_step HR.out hb2)
      clear hb2 HS HO HR HCL q0
      cases cb
      · have U := Lib.hid (UT.out.trans (NO.out (by first | rfl | trivial)))
        go_wp2
        go_roundw
        case rel => exact ⟨k + 1, n, f, by omega, by omega, by go_num, HS2.out, by rw [U.out]; exact HF.out, by rw [U.out]; exact HO2.out, hz2, HR2.out⟩
        case measure => simp [intOf]; omega
      · go_wp2_with fail
        refine (clo_any cl (by omega) w2 _ _ n f HS2.out (by omega)).mono ?_
        rintro e w3 ⟨rfl, hS3, hg3⟩
        have HS3 := Lib.hid hS3
        have HO3 := Lib.hid (own_kept HO2.out hg3 (by omega))
        have HR3 := Lib.hid (below_grownM HR2.out hg3 (Nat.le_refl _) (by omega))
        have hz3 : W.heap.size + 2 ≤ w3.heap.size := Nat.le_trans hz2 hg3.size
        clear hS3 hg3 HS2 HO2
        obtain ⟨c, hfc⟩ : ∃ c, f cl = c := ⟨_, rfl⟩
        rw [hfc]
        cases c
        · by_cases h4 : us.length < 4
          · have d4 : decide ((us.length : Int) < 4) = true := by simp; omega
            have U := Lib.hid (UT.out.trans (NEW.out (by first | rfl | trivial) hfc h4))
            have SU := Lib.hid (seen_add (cl := cl) HF.out)
            have C3 : us.length + 1 ≤ maxLen := by unfold maxLen; omega
            have C4 : (us.length + 1) * 16 ≤ 140737488355328 := by omega
            have hlen2 : (us ++ [cl]).length = us.length + 1 := by simp
            have hsv : strV (us ++ [cl]) = strV us ++ [.string ⟨cl.toArray⟩] := by simp [strV]
            have LV := Lib.hid hlen2
            have SV := Lib.hid hsv
            obtain ⟨i0, hi, hz0, hz1', hz2'⟩ := info_parts Tryz.infoS
            clear h4 hlen2 hsv hfc
            go_wp2_with (first
              | (at_builtin; refine wpList_append_own _ rfl _ _ 23 rfl (W.heap.size + 2) 9 i0 (.string ByteArray.empty) 1 16 Tryz.underlying23 hi hz0 hz1' hz2' rfl (by decide) _ _ _ rfl (HO3.out.alloc _) ⟨w3.heap.size, 0, none⟩ 1 1 [.string ⟨cl.toArray⟩] rfl rfl (cell_one_new _ _ _) (one_str _) C3 C4 (by simp; omega) ?_; intro v' w4 hown' hgrow _; have HS4 := Lib.hid (HS3.out.app HO3.out hgrow (by omega) (by omega)); have HR4 := Lib.hid ((HR3.out.alloc HR3.out.size _).grown hgrow (by simp; omega) (fun j hj => by have := (HO3.out.lt j hj).1; omega)); have hz4 : W.heap.size + 2 ≤ w4.heap.size := (by have := hgrow.size; simp at this; omega); have HO4 := Lib.hid hown'; clear hown' hgrow))
            go_roundw
            case rel => exact ⟨k + 1, n + 1, _, by omega, by omega, by go_num, HS4.out, by rw [U.out]; exact SU.out, by rw [U.out, LV.out, SV.out]; exact HO4.out, hz4, HR4.out⟩
            case measure => simp [intOf]; omega
          · have d4 : decide ((us.length : Int) < 4) = false := by simp; omega
            have U := Lib.hid (UT.out.trans (FULL.out h4))
            have SU := Lib.hid (seen_full (f := fun t => if t = cl then true else f t) h4)
            clear h4 hfc
            go_wp2
            go_roundw
            case rel => exact ⟨k + 1, n + 1, _, by omega, by omega, by go_num, HS3.out, by rw [U.out]; exact SU.out, by rw [U.out]; exact HO3.out, hz3, HR3.out⟩
            case measure => simp [intOf]; omega
        · have U := Lib.hid (UT.out.trans (IN.out hfc))
          have SU := Lib.hid (seen_same HF.out hfc)
          clear hfc
          go_wp2
          go_roundw
          case rel => exact ⟨k + 1, n + 1, _, by omega, by omega, by go_num, HS3.out, by rw [U.out]; exact SU.out, by rw [U.out]; exact HO3.out, hz3, HR3.out⟩
          case measure => simp [intOf]; omega
    · obtain rfl : k = ws.length := by omega
      rw [List.take_length] at hO hus hug
      have HTX := Lib.hid ((own_txts hO (by omega) hug).mono (S' := fun b => W.heap.size ≤ b ∧ b < wr.heap.size) (fun _ hb => ⟨by omega, hb.2⟩))
      have HOW := Lib.hid (own_base hO (show W.heap.size ≤ W.heap.size + 2 by omega))
      obtain ⟨au, cu, rfl⟩ := own_slice hO
      clear hO hR
      go_wp2
      go_ret
      exact ⟨_, rfl, HTX.out, HR.out, HOW.out⟩
end Go.Proofs.YtmaknkbmilcanaaGreatDoor.Po
namespace Go.Proofs.YtmaknkbmilcanaaGreatDoor.Po
open Go.RowKit
open Go.Proofs.YtmaknkbmilcanaaGreatDoor.Tx
open Go.Proofs.YtmaknkbmilcanaaGreatDoor.Ul hiding ret_bool
open Go.Proofs.YtmaknkbmilcanaaGreatDoor.Cl
open Go.Proofs.YtmaknkbmilcanaaGreatDoor.Mp
theorem rls_apart : ∀ (xs pre : List Rl), rlsB pre xs = true → ∀ i, i < xs.length → hasN (pre ++ xs.take i) (xs.getD i default).name = false
  | [], _, _, i, hi => by simp at hi
  | x :: r, pre, h, i, hi => by
    unfold rlsB at h
    simp only [Bool.and_eq_true] at h
    cases i with
    | zero => simpa using h.1.2
    | succ i =>
      have ih := rls_apart r (pre ++ [x]) h.2 i (by simpa using hi)
      simpa using ih
theorem words_at : ∀ (xs : List Rl) (i : Nat) (n : List UInt8), i < xs.length → (xs.getD i default).name = n → hasN (xs.take i) n = false → wordsOf n xs = (xs.getD i default).words
  | [], i, _, hi, _, _ => by simp at hi
  | x :: r, 0, n, _, hn, _ => by
    have : x.name = n := by simpa using hn
    simp [wordsOf, this]
  | x :: r, i + 1, n, hi, hn, hh => by
    simp only [hasN, List.take_succ_cons, List.any_cons, Bool.or_eq_false_iff] at hh
    have ih := words_at r i n (by simpa using hi) (by simpa using hn) hh.2
    simp only [wordsOf, hh.1, List.getD_cons_succ, Bool.false_eq_true, if_false]
    exact ih
theorem words_no : ∀ (xs : List Rl) (n : List UInt8), (∀ i, i < xs.length → (xs.getD i default).name ≠ n) → wordsOf n xs = []
  | [], _, _ => rfl
  | x :: r, n, h => by
    have h0 : (x.name == n) = false := by simpa using h 0 (by simp)
    have ih := words_no r n (fun i hi => by have := h (i + 1) (by simpa using hi); simpa using this)
    simp only [wordsOf, h0, Bool.false_eq_true, if_false]
    exact ih
/-- the map of words behind k rules -/
def WMap (xs : List Rl) (vs : Nat → Value) (k : Nat) (F : List UInt8 → Value) : Prop :=
  ∀ t, (F t = .slice none 0 0 ∧ ∀ i, i < k → (xs.getD i default).name ≠ t) ∨ ∃ i, i < k ∧ (xs.getD i default).name = t ∧ F t = vs i
theorem wmap_step {xs : List Rl} {vs : Nat → Value} {k : Nat} {F : List UInt8 → Value} (h : WMap xs vs k F) (x : Rl) (hx : xs.getD k default = x) : WMap xs vs (k + 1) (fun t => if t = x.name then vs k else F t) := fun t => by
  dsimp only
  by_cases e : t = x.name
  · rw [if_pos e]; exact .inr ⟨k, by omega, by rw [hx, e], rfl⟩
  · rw [if_neg e]
    rcases h t with ⟨h1, h2⟩ | ⟨i, hi, h1, h2⟩
    · refine .inl ⟨h1, fun i hi => ?_⟩
      by_cases ei : i = k
      · subst ei; rw [hx]; exact fun e2 => e e2.symm
      · exact h2 i (by omega)
    · exact .inr ⟨i, by omega, h1, h2⟩
theorem wmap_end {xs : List Rl} {vs : Nat → Value} {F : List UInt8 → Value} {S : Nat → Prop} {w : World} (h : WMap xs vs xs.length F) (hd : rlsB [] xs = true) (hT : ∀ i, i < xs.length → TxtsIn S w (vs i) (xs.getD i default).words) (t : List UInt8) : TxtsIn S w (F t) (wordsOf t xs) := by
  rcases h t with ⟨h1, h2⟩ | ⟨i, hi, h1, h2⟩
  · rw [h1, words_no xs t h2]
    exact ⟨none, 0, 0, 0, rfl, by simp, by omega, by simp, by simp, by simp⟩
  · rw [h2, words_at xs i t hi h1 (by have := rls_apart xs [] hd i hi; rw [h1] at this; simpa using this)]
    exact hT i hi
theorem words_small (xs : List Rl) (t : List UInt8) (hw : ∀ i, i < xs.length → (xs.getD i default).words.length ≤ 1048576 ∧ ∀ j, j < (xs.getD i default).words.length → ((xs.getD i default).words.getD j []).length ≤ 1048576) :
    (wordsOf t xs).length ≤ 1048576 ∧ ∀ j, j < (wordsOf t xs).length → ((wordsOf t xs).getD j []).length ≤ 1048576 := by
  rcases at_words t xs 0 with ⟨_, h⟩ | ⟨k, hk, _, h⟩
  · rw [h]; simp
  · rw [h]; exact hw k hk
def cellOf (w : World) (b o : Nat) : Value := (w.cell? ⟨b, o, none⟩).getD undef
/-- wx is wr but for the block W of the result, which has three cells -/
def Gst (B : Nat) (wr wx : World) : Prop := wr.grownBy wx (some B) ∧ ∃ C, wx.heap[B]? = some (.cells C 37 (0, 0)) ∧ C.size = 3
theorem gst_start {B : Nat} {wr : World} {a b c : Value} (h : wr.heap[B]? = some (.cells #[a, b, c] 37 (0, 0))) : Gst B wr wr.drew :=
  ⟨⟨rfl, rfl, rfl, Nat.le_refl _, fun _ _ _ => rfl⟩, _, h, rfl⟩
theorem gst_call {B : Nat} {wr wx wy : World} (h : Gst B wr wx) (hb : Below wx.heap.size wx wy) : Gst B wr wy := by
  obtain ⟨h1, C, h2, h3⟩ := h
  refine ⟨⟨hb.os.trans h1.os, hb.tape.trans h1.tape, hb.output.trans h1.output, Nat.le_trans h1.size hb.size, fun k hk hne => (hb.block k (Nat.lt_of_lt_of_le hk h1.size)).trans (h1.block k hk hne)⟩, C, (hb.block B (Array.getElem?_eq_some_iff.1 h2).1).trans h2, h3⟩
theorem gst_store {B : Nat} {wr wx : World} {a b c : Value} (h : Gst B wr wx) : Gst B wr (set3 wx B 0 a b c) := by
  obtain ⟨h1, C, h2, h3⟩ := h
  refine ⟨⟨h1.os, h1.tape, h1.output, by rw [set3_size]; exact h1.size, fun k hk hne => ?_⟩, _, heap_set (heap_set (heap_set h2 0 a) 1 b) 2 c, by simp [h3]⟩
  rw [set3_far _ _ _ _ _ _ _ (by intro e; subst e; exact hne rfl)]
  exact h1.block k hk hne
theorem gst_cells {B : Nat} {wr wx : World} (h : Gst B wr wx) : wx.cell? ⟨B, 0, none⟩ = some (cellOf wx B 0) ∧ wx.cell? ⟨B, 1, none⟩ = some (cellOf wx B 1) ∧ wx.cell? ⟨B, 2, none⟩ = some (cellOf wx B 2) ∧ ∀ o, wx.frozen? ⟨B, o, none⟩ = false := by
  obtain ⟨h1, C, h2, h3⟩ := h
  obtain ⟨x, y, z, e⟩ := list3 (l := C.toList) (by simpa using h3)
  have e2 : C = #[x, y, z] := by rw [← Array.toArray_toList (xs := C), e]
  subst e2
  obtain ⟨c0, c1, c2, cf⟩ := three_cells h2
  exact ⟨by unfold cellOf; rw [c0]; rfl, by unfold cellOf; rw [c1]; rfl, by unfold cellOf; rw [c2]; rfl, cf⟩
theorem gst_row {B : Nat} {wr wx : World} {a b c : Value} (h : Gst B wr wx) : (set3 wx B 0 a b c).heap[B]? = some (.cells #[a, b, c] 37 (0, 0)) := by
  obtain ⟨h1, C, h2, h3⟩ := h
  obtain ⟨x, y, z, e⟩ := list3 (l := C.toList) (by simpa using h3)
  have e2 : C = #[x, y, z] := by rw [← Array.toArray_toList (xs := C), e]
  subst e2
  exact heap_set (heap_set (heap_set h2 0 a) 1 b) 2 c
theorem gst_below {B : Nat} {W wr wx : World} (h : Gst B wr wx) (hR : Below B W wr) (hB : B ≤ wr.heap.size) : Below B W wx := hR.grown h.1 hB (fun k e => by cases e; exact Nat.le_refl _)
theorem gst_txts {B : Nat} {w7 wx : World} {uv a b c : Value} {us : List (List UInt8)} {lo : Nat} (h : TxtsIn (fun k => lo ≤ k ∧ k < w7.heap.size) w7 uv us) (hb : Below w7.heap.size w7 wx) (hlo : B < lo) :
    TxtsIn (fun k => B ≤ k ∧ k < (set3 wx B 0 a b c).heap.size) (set3 wx B 0 a b c) uv us :=
  h.same fun k hk => ⟨⟨by omega, by rw [set3_size]; exact Nat.lt_of_lt_of_le hk.2 hb.size⟩, by rw [set3_far _ _ _ _ _ _ _ (by omega)]; exact hb.block k hk.2⟩
theorem gst_own {B n lo : Nat} {w7 wx : World} {uv a b c : Value} {xs : List Value} (h : w7.ownsRow lo 9 1 uv n xs) (hb : Below w7.heap.size w7 wx) (hlo : B < lo) :
    (set3 wx B 0 a b c).ownsRow B 9 1 uv n xs := by
  have h1 := h.kept (below_grownBy hb none) (by cases uv.ownBlock <;> simp)
  have hg : wx.grownBy (set3 wx B 0 a b c) (some B) := ⟨rfl, rfl, rfl, by rw [set3_size]; exact Nat.le_refl _, fun k _ hne => set3_far _ _ _ _ _ _ _ (by intro e; subst e; exact hne rfl)⟩
  exact own_base (own_kept h1 hg hlo) (Nat.le_of_lt hlo)
set_option maxRecDepth 100000 in
set_option maxHeartbeats 2000000 in
theorem makeI_any (B : Nat) (w0 : World) (xs : List Rl) (v : Value) (h : RlIn (· < B) w0 v xs) (hx : xs.length ≤ 1048576) (hn : ∀ i, i < xs.length → (xs.getD i default).name.length ≤ 1048576)
    (hw : ∀ i, i < xs.length → (xs.getD i default).words.length ≤ 1048576 ∧ ∀ j, j < (xs.getD i default).words.length → ((xs.getD i default).words.getD j []).length ≤ 1048576) (hd : rlsB [] xs = true) (W : World) (hb : Below B w0 W) (hB : B ≤ W.heap.size) (hT : Tab W) (hM : MaxL W) :
    Calls Tryz.prog 210 #[v] W fun e w' => ∃ uv, e = .returned (pV (makeP xs) uv v) ∧ TxtsIn (fun b => W.heap.size ≤ b ∧ b < w'.heap.size) w' uv (makeP xs).uris ∧ Below W.heap.size W w' ∧ w'.ownsRow W.heap.size 9 1 uv (makeP xs).uris.length (strV (makeP xs).uris) := by
  have HP : (makeP xs) = ⟨firstN (wordsOf rtoL xs), urisOf (wordsOf ruriL xs), xs⟩ := rfl
  rw [HP]
  clear HP
  simp only
  have S1 := words_small xs rtoL hw
  have S2 := words_small xs ruriL hw
  obtain ⟨a, cap, b, off, vs, rfl, hcap, hm, hlen, ha, hc⟩ := h
  have HWE := Lib.hid (fun F (hF : WMap xs vs xs.length F) => wmap_end hF hd (fun i hi => (hc i hi).2.2))
  have HC := Lib.hid hc
  have HA := Lib.hid ha
  have HB := Lib.hid hb
  have HN := Lib.hid hn
  have HT := Lib.hid hT
  have HM := Lib.hid hM
  clear hc ha hlen hb hw hn hd hT hM
  obtain ⟨rep, hrep⟩ : ∃ r, firstN (wordsOf rtoL xs) = r := ⟨_, rfl⟩
  obtain ⟨us, hus⟩ : ∃ r, urisOf (wordsOf ruriL xs) = r := ⟨_, rfl⟩
  rw [hrep, hus]
  have HREP := Lib.hid hrep
  have HUS := Lib.hid hus
  clear hrep hus
  have hmm := @run_makeMap Tryz.prog
  have M0 := Lib.hid ((OMap.made (W.alloc (.cells #[.string ⟨#[]⟩, .slice none 0 0, .slice none 0 0] 37)) (.slice none 0 0)))
  go_enter Tryz.func210, Tryz.ntmps210
  go_wp2
  go_loopw [9] (fun i wr => ∃ (k n : Nat) (F : List UInt8 → Value), k ≤ xs.length ∧ n ≤ k ∧ i = .int .i64 k ∧ OMap wr (W.heap.size + 1) n (.slice none 0 0) F ∧ WMap xs vs k F ∧ wr.heap[W.heap.size]? = some (.cells #[.string ⟨#[]⟩, .slice none 0 0, .slice none 0 0] 37 (0, 0)) ∧ Below W.heap.size W wr) (fun i _ => xs.length - (intOf i).toNat)
  case atStart => exact ⟨0, 0, _, by omega, by omega, rfl, by simpa using M0.out, fun t => .inl ⟨rfl, fun i hi => by omega⟩, (heap_alloc_old _ _ (by simp)).trans (heap_alloc_new _ _), ((Below.refl _ _).alloc (Nat.le_refl _) _).alloc (by simp) _⟩
  case round =>
    obtain ⟨k, n, F, hk, hnk, rfl, hMp, hF, hP, hR⟩ := hrel
    have HMp := Lib.hid hMp
    have HF := Lib.hid hF
    have HPb := Lib.hid hP
    have HR := Lib.hid hR
    have hW : Below B w0 wr := HB.out.trans (hR.mono hB)
    have hzr := hR.size
    have hzw := (Array.getElem?_eq_some_iff.1 hP).1
    clear hMp hF hP hR
    by_cases hlt : k < xs.length
    · obtain ⟨ea, hlb⟩ := HA.out (by omega)
      subst ea
      obtain ⟨c0, c1, T1⟩ := HC.out k hlt
      have q0 := (hW.cell (p := ⟨b, off + k * 2, none⟩) hlb).trans c0
      have q1 := (hW.cell (p := ⟨b, off + k * 2 + 1, none⟩) hlb).trans c1
      have hnl := HN.out k hlt
      have HST := Lib.hid (wmap_step HF.out (xs.getD k default) rfl)
      obtain ⟨a5, l5, c5, e5⟩ := T1.slice
      rw [e5] at q1 HST
      have hd2 : b < wr.heap.size := by omega
      clear c0 c1 T1 e5 hW
      generalize xs.getD k default = x at *
      obtain ⟨nm, ws⟩ := x
      simp only at *
      go_wp2_with (first
        | (at_mapUpdate; refine wpList_store rfl _ rfl _ _ _ 312 rfl 23 Tryz.underlying312 rfl (HMp.out.alloc _) (by omega) nm _ rfl rfl (by omega) ?_; intro w' hm hg; have HM2 := Lib.hid hm; have HP2 := Lib.hid ((hg.block W.heap.size (by simp; omega) (by intro e; simp at e)).trans ((heap_alloc_old _ _ hzw).trans HPb.out)); have HR2 := Lib.hid (below_grownM (HR.out.alloc HR.out.size _) hg (by omega) (by simp; omega)); clear hm hg))
      go_roundw
      case rel => exact ⟨k + 1, n + 1, _, by omega, by omega, by go_num, HM2.out, HST.out, HP2.out, HR2.out⟩
      case measure => simp [intOf]; omega
    · obtain rfl : k = xs.length := by omega
      have TT1 := HWE.out F HF.out rtoL
      have TT2 := HWE.out F HF.out ruriL
      obtain ⟨a1, l1, c1, e1⟩ := TT1.slice
      obtain ⟨a2, l2, c2, e2⟩ := TT2.slice
      have hz : ∀ W, (zeroValue 23).run Tryz.prog W = .ok (.slice none 0 0) W := fun W => by kernel_rfl
      have L1 : ∀ wx, Gst W.heap.size wr wx → (Instr.lookup 312 (.map (some (W.heap.size + 1))) (.string ⟨rtoL.toArray⟩) false).run Tryz.prog wx = .ok (.slice a1 l1 c1) wx := fun wx hg => by
        rw [← e1]; exact (HMp.out.kept (hg.1.block _ HMp.out.lt (by intro e; simp at e))).look Tryz.underlying312 (hz _) rtoL (by decide)
      have L2 : ∀ wx, Gst W.heap.size wr wx → (Instr.lookup 312 (.map (some (W.heap.size + 1))) (.string ⟨ruriL.toArray⟩) false).run Tryz.prog wx = .ok (.slice a2 l2 c2) wx := fun wx hg => by
        rw [← e2]; exact (HMp.out.kept (hg.1.block _ HMp.out.lt (by intro e; simp at e))).look Tryz.underlying312 (hz _) ruriL (by decide)
      rw [e1] at TT1
      rw [e2] at TT2
      have BW : ∀ wx, Gst W.heap.size wr wx → Below W.heap.size W wx := fun wx hg => gst_below hg HR.out (by omega)
      have HFN := Lib.hid (fun (W' : World) (h : Gst W.heap.size wr W') => firstI_any B w0 _ _ TT1 S1.2 W' (HB.out.trans ((BW W' h).mono hB)) (Nat.le_trans hB (BW W' h).size))
      have HCU := Lib.hid (fun (W' : World) (h : Gst W.heap.size wr W') => urlsI_any B w0 _ _ TT2 S2.1 S2.2 W' (HB.out.trans ((BW W' h).mono hB)) (Nat.le_trans hB (BW W' h).size) (HT.out.below (BW W' h)) (HM.out.below (BW W' h)))
      have HBW := Lib.hid BW
      simp only [rtoL, ruriL] at L1 L2
      have HALL := Lib.hid (fun wx (hg : Gst W.heap.size wr wx) => And.intro (L1 wx hg) (And.intro (L2 wx hg) (And.intro (gst_cells hg) (And.intro hg (show wr.heap.size ≤ wx.heap.size from hg.1.size)))))
      have HST := Lib.hid (gst_start HPb.out)
      rw [HREP.out] at HFN
      rw [HUS.out] at HCU
      clear L1 L2 BW TT1 TT2 e1 e2 S1 S2 hW HMp HPb hz
      go_wp2_with fail
      go_region_held3 (fun wx => (Instr.lookup 312 (.map (some (W.heap.size + 1))) (.string ⟨#[114, 101, 112, 111, 114, 116, 45, 116, 111]⟩) false).run Tryz.prog wx = .ok (.slice a1 l1 c1) wx ∧ (Instr.lookup 312 (.map (some (W.heap.size + 1))) (.string ⟨#[114, 101, 112, 111, 114, 116, 45, 117, 114, 105]⟩) false).run Tryz.prog wx = .ok (.slice a2 l2 c2) wx ∧
          (wx.cell? ⟨W.heap.size, 0, none⟩ = some (cellOf wx W.heap.size 0) ∧ wx.cell? ⟨W.heap.size, 1, none⟩ = some (cellOf wx W.heap.size 1) ∧ wx.cell? ⟨W.heap.size, 2, none⟩ = some (cellOf wx W.heap.size 2) ∧ ∀ o, wx.frozen? ⟨W.heap.size, o, none⟩ = false) ∧ Gst W.heap.size wr wx ∧ wr.heap.size ≤ wx.heap.size)
        (first
          | exact HALL.out _ HST.out
          | (go_split_ands; exact HALL.out _ (gst_call (by assumption) hbF))
          | (go_split_ands; exact HALL.out _ (gst_call (by assumption) hbU))
          | (go_split_ands; exact HALL.out _ (gst_store (by assumption))))
        (first
          | (go_split_ands; go_at_call 280; refine (HFN.out _ (by assumption)).mono ?_; rintro e w6 ⟨rfl, hbF⟩)
          | (go_split_ands; go_at_call 281; refine (HCU.out _ (by assumption)).mono ?_; rintro e w7 ⟨uv, rfl, hTx, hbU, hOw⟩; obtain ⟨a7, l7, c7, rfl⟩ := hTx.slice))
      all_goals
        go_split_ands
        first
          | (have hG := gst_call (B := W.heap.size) (wr := wr) (by assumption) hbU
             have hTT := Lib.hid (gst_txts (B := W.heap.size) (a := .string ⟨rep.toArray⟩) (b := .slice a7 l7 c7) (c := .slice a xs.length cap) hTx (Below.refl _ _) (by omega))
             have hOO := Lib.hid (gst_own (B := W.heap.size) (a := .string ⟨rep.toArray⟩) (b := .slice a7 l7 c7) (c := .slice a xs.length cap) hOw (Below.refl _ _) (by omega))
             have hRW := Lib.hid (gst_row (a := .string ⟨rep.toArray⟩) (b := .slice a7 l7 c7) (c := .slice a xs.length cap) hG)
             have hBF := Lib.hid (HBW.out _ (gst_store (a := .string ⟨rep.toArray⟩) (b := .slice a7 l7 c7) (c := .slice a xs.length cap) hG))
             go_wp2
             exact bodyPost_ret (ret_P Tryz.results210 rfl hRW.out) rfl ⟨_, rfl, hTT.out, hBF.out, hOO.out⟩)
          | (have hG := gst_call (B := W.heap.size) (wr := wr) (by assumption) hbF
             have hTT := Lib.hid (gst_txts (B := W.heap.size) (a := .string ⟨rep.toArray⟩) (b := .slice a7 l7 c7) (c := .slice a xs.length cap) hTx hbF (by omega))
             have hOO := Lib.hid (gst_own (B := W.heap.size) (a := .string ⟨rep.toArray⟩) (b := .slice a7 l7 c7) (c := .slice a xs.length cap) hOw hbF (by omega))
             have hRW := Lib.hid (gst_row (a := .string ⟨rep.toArray⟩) (b := .slice a7 l7 c7) (c := .slice a xs.length cap) hG)
             have hBF := Lib.hid (HBW.out _ (gst_store (a := .string ⟨rep.toArray⟩) (b := .slice a7 l7 c7) (c := .slice a xs.length cap) hG))
             go_wp2
             exact bodyPost_ret (ret_P Tryz.results210 rfl hRW.out) rfl ⟨_, rfl, hTT.out, hBF.out, hOO.out⟩)
end Go.Proofs.YtmaknkbmilcanaaGreatDoor.Po
namespace Go.Proofs.YtmaknkbmilcanaaGreatDoor.Po
open Go.RowKit
open Go.Proofs.YtmaknkbmilcanaaGreatDoor.Tx
open Go.Proofs.YtmaknkbmilcanaaGreatDoor.Ul hiding ret_bool
open Go.Proofs.YtmaknkbmilcanaaGreatDoor.Cl
/-- how great a policy may be -/
structure Small (p : Pl) : Prop where
  rep : p.rep.length ≤ 1048576
  uris : p.uris.length ≤ 1048576
  uri : ∀ i, i < p.uris.length → (p.uris.getD i []).length ≤ 1048576
  rules : p.rules.length ≤ 1048576
  name : ∀ i, i < p.rules.length → (p.rules.getD i default).name.length ≤ 1048576
  words : ∀ i, i < p.rules.length → (p.rules.getD i default).words.length ≤ 1048576 ∧ ∀ j, j < (p.rules.getD i default).words.length → ((p.rules.getD i default).words.getD j []).length ≤ 1048576
set_option maxRecDepth 100000 in
set_option maxHeartbeats 1000000 in
theorem polI_any (B : Nat) (w0 : World) (p : Pl) (uv rv : Value) (hu : TxtsIn (· < B) w0 uv p.uris) (hr : RlIn (· < B) w0 rv p.rules) (hs : Small p) (W : World) (hb : Below B w0 W) (hB : B ≤ W.heap.size) (hT : Tab W) (hM : MaxL W) :
    Calls Tryz.prog 134 #[pV p uv rv] W fun e w' => e = .returned (.bool (plB p)) ∧ Below W.heap.size W w' := by
  obtain ⟨hsr, hsu, hsui, hsx, hsn, hsw⟩ := hs
  obtain ⟨rep, us, xs⟩ := p
  simp only at hu hr hsr hsu hsui hsx hsn hsw
  have HMK := Lib.hid (fun (hd : rlsB [] xs = true) (W' : World) h1 h2 h3 h4 => makeI_any B w0 xs rv hr hsx hsn hsw hd W' h1 h2 h3 h4)
  have HRS := Lib.hid (fun (W' : World) h1 h2 => rulesI_any B w0 xs rv hr hsx hsn hsw W' h1 h2)
  have HU := Lib.hid hu
  have HP := Lib.hid (plB_as ⟨rep, us, xs⟩)
  obtain ⟨r, hrr⟩ : ∃ r, plB ⟨rep, us, xs⟩ = r := ⟨_, rfl⟩
  rw [hrr] at HP
  rw [hrr]
  obtain ⟨au, lu, cu, rfl⟩ := hu.slice
  obtain ⟨ar, cr, br, offr, vsr, rfl, hcap, hm, -, -, -⟩ := hr
  have HB := Lib.hid hb
  have HT := Lib.hid hT
  have HM := Lib.hid hM
  clear hu hrr hb hT hM hsw hsn hsui
  simp only at HP
  by_cases h8 : xs.length ≤ 8
  · have d8 : decide ((8 : Int) < (xs.length : Int)) = false := by simp; omega
    have HP1 := Lib.hid (show r = (rlsB [] xs && ((rep == (makeP xs).rep) && (us == (makeP xs).uris))) by rw [HP.out, decide_eq_true h8]; rfl)
    clear HP
    obtain ⟨rb, hrb⟩ : ∃ rb, rlsB [] xs = rb := ⟨_, rfl⟩
    rw [hrb] at HRS HP1
    go_enter Tryz.func134, Tryz.ntmps134
    go_wp2_with fail
    refine (HRS.out _ (HB.out.alloc hB _) (by simp; omega)).mono ?_
    rintro e w1 ⟨rfl, hb1⟩
    have hk1 := (hb1.block W.heap.size (by simp)).trans (heap_alloc_new W (.cells #[.string ⟨rep.toArray⟩, .slice au lu cu, .slice ar xs.length cr] 37))
    obtain ⟨m0, m1, m2, mf⟩ := three_cells hk1
    have HK1 := Lib.hid hk1
    have HF := Lib.hid (((Below.refl W.heap.size W).alloc (Nat.le_refl _) (.cells #[.string ⟨rep.toArray⟩, .slice au lu cu, .slice ar xs.length cr] 37)).trans (hb1.mono (by simp)))
    have z1 : W.heap.size < w1.heap.size := by have := hb1.size; simp at this; omega
    clear hb1 hk1 HRS
    cases rb
    · go_wp2
      go_ret
      exact ⟨ret_b (by rw [HP1.out]; rfl), HF.out⟩
    · go_wp2_with fail
      refine (HMK.out hrb w1 (HB.out.trans (HF.out.mono hB)) (by omega) (HT.out.below HF.out) (HM.out.below HF.out)).mono ?_
      rintro e w2 ⟨uv2, rfl, hT2, hb2, -⟩
      have hz2 := hb2.size
      have hd3 : W.heap.size < w2.heap.size := by omega
      obtain ⟨a2, l2, c2, rfl⟩ := hT2.slice
      obtain ⟨n0, n1, n2, nf⟩ := three_cells ((hb2.block _ z1).trans HK1.out)
      have HB2 := Lib.hid (belI_step HF.out hb2)
      have HB2a := Lib.hid (fun (o : Obj) => HB2.out.alloc HB2.out.size o)
      have HS := Lib.hid (fun (W' : World) (h : Below w2.heap.size w2 W') => sEqual_any _ _ us (makeP xs).uris _ _ W' (HU.out.blw (HB.out.trans ((HB2.out.mono hB).trans (h.mono (by have := HB2.out.size; omega))))) (hT2.later (fun _ hb => hb.2) h))
      generalize makeP xs = q at *
      obtain ⟨rep2, us2, xs2⟩ := q
      simp only at *
      clear m0 m1 m2 mf hb2 hT2 HMK hrb
      obtain ⟨c, hcc⟩ : ∃ c, (rep == rep2) = c := ⟨_, rfl⟩
      rw [hcc] at HP1
      cases c
      · go_wp2
        go_ret
        exact ⟨ret_b (by rw [HP1.out]; rfl), HB2a.out _⟩
      · go_wp2_with (first
          | (go_at_call 153; refine (HS.out _ ((Below.refl _ _).alloc (Nat.le_refl _) _)).mono ?_; rintro e w' ⟨rfl, nn, rfl⟩))
        go_ret
        exact ⟨ret_b (by rw [HP1.out]; rfl), belI_drewN (HB2a.out _) _⟩
  · have d8 : decide ((8 : Int) < (xs.length : Int)) = true := by simp; omega
    have HB1 := Lib.hid ((Below.refl W.heap.size W).alloc (Nat.le_refl _) (.cells #[.string ⟨rep.toArray⟩, .slice au lu cu, .slice ar xs.length cr] 37))
    go_enter Tryz.func134, Tryz.ntmps134
    go_wp2
    go_ret
    exact ⟨ret_b (by rw [HP.out, decide_eq_false h8]; rfl), HB1.out⟩
end Go.Proofs.YtmaknkbmilcanaaGreatDoor.Po
namespace Go.Proofs.YtmaknkbmilcanaaGreatDoor.Po
open Go.RowKit
open Go.Proofs.YtmaknkbmilcanaaGreatDoor.Tx
open Go.Proofs.YtmaknkbmilcanaaGreatDoor.Ul hiding ret_bool
theorem szT_get : ∀ (xs : List (List UInt8)) (i : Nat), i < xs.length → (xs.getD i []).length ≤ szT xs
  | [], _, h => by simp at h
  | x :: r, 0, _ => by simp [szT]
  | x :: r, i + 1, h => by
    have := szT_get r i (by simpa using h)
    simp only [szT, List.getD_cons_succ]
    omega
theorem szLs_get : ∀ (xs : List Rl) (i : Nat), i < xs.length → szL (xs.getD i default) ≤ szLs xs
  | [], _, h => by simp at h
  | x :: r, 0, _ => by simp [szLs]
  | x :: r, i + 1, h => by
    have := szLs_get r i (by simpa using h)
    simp only [szLs, List.getD_cons_succ]
    omega
theorem small_of (p : Pl) (h : szP p ≤ 1048576) : Small p := by
  unfold szP at h
  refine ⟨by omega, by omega, fun i hi => ?_, by omega, fun i hi => ?_, fun i hi => ⟨?_, fun j hj => ?_⟩⟩
  · have := szT_get p.uris i hi; omega
  · have := szLs_get p.rules i hi; unfold szL at this; omega
  · have := szLs_get p.rules i hi; unfold szL at this; omega
  · have := szLs_get p.rules i hi; unfold szL at this; have := szT_get _ j hj; omega
end Go.Proofs.YtmaknkbmilcanaaGreatDoor.Po
