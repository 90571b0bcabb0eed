
/-
  The program's cleanUrls, walked. The program's policyOf, walked. PolicyOK, the model's and the program's. The law FnExactPolicyOK, walked. The laws' marks: markText; a slice of texts, of rules, of targets written over and looked at again. The laws' copies once more, with what they own: rows of the copies' own, not frozen, of their types. A policy's own memory written over: markStringS, markRuleS, markPolicy.
-/
import Derived.Test.YtmdplphjbgghoaaGreatDoorPoI
import Derived.Test.YtmdplphjbgghoaaGreatDoorPoS4
import Derived.Deep.RegionHeld3
import Derived.Test.YtmdplphjbgghoaaGreatDoorPoMem
import Derived.Test.YtmdplphjbgghoaaGreatDoorUrlSpecB
namespace Go.Proofs.YtmdplphjbgghoaaGreatDoor.Po
open Go.RowKit
open Go.Proofs.YtmdplphjbgghoaaGreatDoor.Tx
open Go.Proofs.YtmdplphjbgghoaaGreatDoor.Ul hiding ret_bool
open Go.Proofs.YtmdplphjbgghoaaGreatDoor.Cl
open Go.Proofs.YtmdplphjbgghoaaGreatDoor.Mp
theorem seen_add {f : List UInt8 → Bool} {us : List (List UInt8)} {cl : List UInt8} (h : seenU f us) : seenU (fun t => if t = cl then true else f t) (us ++ [cl]) := fun hl t => by
  have h1 := h (by simp at hl; omega) t
  dsimp only
  by_cases e : t = cl
  · rw [if_pos e]; subst e; simp
  · rw [if_neg e, h1]
    simp [e]
theorem seen_same {f : List UInt8 → Bool} {us : List (List UInt8)} {cl : List UInt8} (h : seenU f us) (hf : f cl = true) : seenU (fun t => if t = cl then true else f t) us := fun hl t => by
  have h1 := h hl t
  dsimp only
  by_cases e : t = cl
  · rw [if_pos e]; subst e; rw [← h1, hf]
  · rw [if_neg e, h1]
theorem seen_full {f : List UInt8 → Bool} {us : List (List UInt8)} (h : ¬ us.length < 4) : seenU f us := fun hl => absurd hl h
theorem addU_no (us : List (List UInt8)) (x : List UInt8) (h : cleanC x = false) : addU us x = us := by rw [addU_as, h]; simp
theorem addU_in {f : List UInt8 → Bool} (us : List (List UInt8)) (x : List UInt8) (h : seenU f us) (hf : f (cleanL x) = true) : addU us x = us := by
  rw [addU_as]
  by_cases hl : us.length < 4
  · rw [← h hl (cleanL x), hf]; simp
  · rw [decide_eq_false hl]; simp
theorem addU_full (us : List (List UInt8)) (x : List UInt8) (hl : ¬ us.length < 4) : addU us x = us := by rw [addU_as, decide_eq_false hl]; simp
theorem addU_new {f : List UInt8 → Bool} (us : List (List UInt8)) (x : List UInt8) (hc : cleanC x = true) (h : seenU f us) (hf : f (cleanL x) = false) (hl : us.length < 4) : addU us x = us ++ [cleanL x] := by
  rw [addU_as, hc, ← h hl (cleanL x), hf, decide_eq_true hl]; simp
theorem below_grownBy {w w' : World} (h : Below w.heap.size w w') (row : Option Nat) : w.grownBy w' row := ⟨h.os, h.tape, h.output, h.size, fun k hk _ => h.block k hk⟩
theorem own_kept {B : Nat} {w w' : World} {v : Value} {n : Nat} {xs : List Value} {b : Nat} (h : w.ownsRow B 9 1 v n xs) (hg : w.grownBy w' (some b)) (hb : b < B) : w'.ownsRow B 9 1 v n xs :=
  h.kept hg (by
    cases e : v.ownBlock with
    | none => exact .inl rfl
    | some k => have := (h.lt k e).1; exact .inr (by intro e2; cases e2; omega))
theorem Seen.app {w w' : World} {g b n B : Nat} {f : List UInt8 → Bool} {o : Obj} {v : Value} {m : Nat} {xs : List Value} (h : Seen w g b n f) (ho : w.ownsRow B 9 1 v m xs) (hg : (w.alloc o).grownBy w' v.ownBlock) (h1 : g < B) (h2 : b < B) : Seen w' g b n f := by
  have lg := (Array.getElem?_eq_some_iff.1 h.1).1
  have lb := h.2.1.lt
  have ne : ∀ k, k < B → some k ≠ v.ownBlock := fun k hk e => by have := (ho.lt k e.symm).1; omega
  exact ⟨(hg.block g (by simp; omega) (ne g h1)).trans ((heap_alloc_old _ o lg).trans h.1), h.2.1.kept ((hg.block b (by simp; omega) (ne b h2)).trans (heap_alloc_old _ o lb)), h.2.2⟩
theorem own_base {B C n s : Nat} {T : TypeId} {w : World} {v : Value} {xs : List Value} (h : w.ownsRow B T s v n xs) (hBC : C ≤ B) : w.ownsRow C T s v n xs := by
  obtain ⟨h1, h2⟩ := h
  refine ⟨h1, ?_⟩
  rcases h2 with hn | ⟨g, cap, cur, rfl, hb, rest⟩
  · exact .inl hn
  · exact .inr ⟨g, cap, cur, rfl, Nat.le_trans hBC hb, rest⟩
set_option maxRecDepth 100000 in
set_option maxHeartbeats 2000000 in
theorem urlsI_any (B : Nat) (w0 : World) (ws : List (List UInt8)) (v : Value) (h : TxtsIn (· < B) w0 v ws) (hx : ws.length ≤ 1048576) (hl : ∀ j, j < ws.length → (ws.getD j []).length ≤ 1048576) (W : World) (hb : Below B w0 W) (hB : B ≤ W.heap.size) (hT : Tab W) (hM : MaxL W) :
    Calls Tryz.prog 78 #[v] W fun e w' => ∃ uv, e = .returned uv ∧ TxtsIn (fun b => W.heap.size ≤ b ∧ b < w'.heap.size) w' uv (urisOf ws) ∧ Below W.heap.size W w' ∧ w'.ownsRow W.heap.size 9 1 uv (urisOf ws).length (strV (urisOf ws)) := by
  obtain ⟨a, cap, b, off, rfl, hcap, hm, hlen, ha, hc⟩ := h
  have HC := Lib.hid hc
  have HA := Lib.hid ha
  have HB := Lib.hid hb
  have HL := Lib.hid hl
  have HT := Lib.hid hT
  have HM := Lib.hid hM
  clear hc ha hlen hb hl hT hM
  go_enter Tryz.func78, Tryz.ntmps78
  go_wp2_with fail
  refine (first_any W).mono ?_
  rintro e w1 ⟨rfl, hS1, hb1⟩
  have HS1 := Lib.hid hS1
  have HB1 := Lib.hid hb1
  clear hS1 hb1
  go_wp2
  go_loopw [3, 12] (fun uv i wr => ∃ (k n : Nat) (f : List UInt8 → Bool), k ≤ ws.length ∧ n ≤ k ∧ i = .int .i64 k ∧ Seen wr (W.heap.size + 1) W.heap.size n f ∧ seenU f ((ws.take k).foldl addU []) ∧ wr.ownsRow (W.heap.size + 2) 9 1 uv ((ws.take k).foldl addU []).length (strV ((ws.take k).foldl addU [])) ∧ W.heap.size + 2 ≤ wr.heap.size ∧ Below W.heap.size W wr) (fun _ i _ => ws.length - (intOf i).toNat)
  case atStart => exact ⟨0, 0, _, by omega, by omega, rfl, HS1.out, fun _ t => rfl, World.ownsRow_nil _ _ _ _, by have := (Array.getElem?_eq_some_iff.1 HS1.out.1).1; omega, HB1.out⟩
  case round =>
    obtain ⟨k, n, f, hk, hnk, rfl, hS, hf, hO, hz, hR⟩ := hrel
    have hW : Below B w0 wr := HB.out.trans (hR.mono hB)
    have hus := uris_four (ws.take k) [] (by simp)
    have hug := uris_get ws k
    have HS := Lib.hid hS
    have HF := Lib.hid hf
    have HO := Lib.hid hO
    have HR := Lib.hid hR
    clear hS hf
    by_cases hlt : k < ws.length
    · obtain ⟨ea, hlb⟩ := HA.out (by omega)
      subst ea
      have q0 := (hW.cell (p := ⟨b, off + k, none⟩) hlb).trans (HC.out k hlt)
      have HCL := Lib.hid (fun W hT hM => clean_any (ws.getD k []) W hT hM (Nat.le_trans (HL.out k hlt) (by omega)))
      have UT := Lib.hid (uris_take ws k hlt)
      generalize ws.getD k [] = x at *
      have hcl := cleanL_len x
      generalize (ws.take k).foldl addU [] = us at *
      have NO := Lib.hid (addU_no us x)
      have IN := Lib.hid (addU_in us x HF.out)
      have FULL := Lib.hid (addU_full us x)
      have NEW := Lib.hid (fun hc => addU_new us x hc HF.out)
      generalize cleanC x = cb at *
      generalize cleanL x = cl at *
      obtain ⟨au, cu, rfl⟩ := own_slice hO
      clear hO hR hug
      go_wp2_with fail
      refine (HCL.out wr (HT.out.below HR.out) (HM.out.below HR.out)).mono ?_
      rintro e w2 ⟨rfl, hb2⟩
      have hz2 : W.heap.size + 2 ≤ w2.heap.size := Nat.le_trans hz hb2.size
      have HS2 := Lib.hid (HS.out.later hb2)
      have HO2 := Lib.hid (HO.out.kept (below_grownBy hb2 none) (by cases (Value.slice au us.length cu).ownBlock <;> simp))
      have HR2 := Lib.hid (belI_step HR.out hb2)
      clear hb2 HS HO HR HCL q0
      cases cb
      · have U := Lib.hid (UT.out.trans (NO.out (by first | rfl | trivial)))
        go_wp2
        go_roundw
        case rel => exact ⟨k + 1, n, f, by omega, by omega, by go_num, HS2.out, by rw [U.out]; exact HF.out, by rw [U.out]; exact HO2.out, hz2, HR2.out⟩
        case measure => simp [intOf]; omega
      · go_wp2_with fail
        refine (clo_any cl (by omega) w2 _ _ n f HS2.out (by omega)).mono ?_
        rintro e w3 ⟨rfl, hS3, hg3⟩
        have HS3 := Lib.hid hS3
        have HO3 := Lib.hid (own_kept HO2.out hg3 (by omega))
        have HR3 := Lib.hid (below_grownM HR2.out hg3 (Nat.le_refl _) (by omega))
        have hz3 : W.heap.size + 2 ≤ w3.heap.size := Nat.le_trans hz2 hg3.size
        clear hS3 hg3 HS2 HO2
        obtain ⟨c, hfc⟩ : ∃ c, f cl = c := ⟨_, rfl⟩
        rw [hfc]
        cases c
        · by_cases h4 : us.length < 4
          · have d4 : decide ((us.length : Int) < 4) = true := by simp; omega
            have U := Lib.hid (UT.out.trans (NEW.out (by first | rfl | trivial) hfc h4))
            have SU := Lib.hid (seen_add (cl := cl) HF.out)
            have C3 : us.length + 1 ≤ maxLen := by unfold maxLen; omega
            have C4 : (us.length + 1) * 16 ≤ 140737488355328 := by omega
            have hlen2 : (us ++ [cl]).length = us.length + 1 := by simp
            have hsv : strV (us ++ [cl]) = strV us ++ [.string ⟨cl.toArray⟩] := by simp [strV]
            have LV := Lib.hid hlen2
            have SV := Lib.hid hsv
            obtain ⟨i0, hi, hz0, hz1', hz2'⟩ := info_parts Tryz.infoS
            clear h4 hlen2 hsv hfc
            go_wp2_with (first
              | (at_builtin; refine wpList_append_own _ rfl _ _ 22 rfl (W.heap.size + 2) 9 i0 (.string ByteArray.empty) 1 16 Tryz.underlying22 hi hz0 hz1' hz2' rfl (by decide) _ _ _ rfl (HO3.out.alloc _) ⟨w3.heap.size, 0, none⟩ 1 1 [.string ⟨cl.toArray⟩] rfl rfl (cell_one_new _ _ _) (one_str _) C3 C4 (by simp; omega) ?_; intro v' w4 hown' hgrow _; have HS4 := Lib.hid (HS3.out.app HO3.out hgrow (by omega) (by omega)); have HR4 := Lib.hid ((HR3.out.alloc HR3.out.size _).grown hgrow (by simp; omega) (fun j hj => by have := (HO3.out.lt j hj).1; omega)); have hz4 : W.heap.size + 2 ≤ w4.heap.size := (by have := hgrow.size; simp at this; omega); have HO4 := Lib.hid hown'; clear hown' hgrow))
            go_roundw
            case rel => exact ⟨k + 1, n + 1, _, by omega, by omega, by go_num, HS4.out, by rw [U.out]; exact SU.out, by rw [U.out, LV.out, SV.out]; exact HO4.out, hz4, HR4.out⟩
            case measure => simp [intOf]; omega
          · have d4 : decide ((us.length : Int) < 4) = false := by simp; omega
            have U := Lib.hid (UT.out.trans (FULL.out h4))
            have SU := Lib.hid (seen_full (f := fun t => if t = cl then true else f t) h4)
            clear h4 hfc
            go_wp2
            go_roundw
            case rel => exact ⟨k + 1, n + 1, _, by omega, by omega, by go_num, HS3.out, by rw [U.out]; exact SU.out, by rw [U.out]; exact HO3.out, hz3, HR3.out⟩
            case measure => simp [intOf]; omega
        · have U := Lib.hid (UT.out.trans (IN.out hfc))
          have SU := Lib.hid (seen_same HF.out hfc)
          clear hfc
          go_wp2
          go_roundw
          case rel => exact ⟨k + 1, n + 1, _, by omega, by omega, by go_num, HS3.out, by rw [U.out]; exact SU.out, by rw [U.out]; exact HO3.out, hz3, HR3.out⟩
          case measure => simp [intOf]; omega
    · obtain rfl : k = ws.length := by omega
      rw [List.take_length] at hO hus hug
      have HTX := Lib.hid ((own_txts hO (by omega) hug).mono (S' := fun b => W.heap.size ≤ b ∧ b < wr.heap.size) (fun _ hb => ⟨by omega, hb.2⟩))
      have HOW := Lib.hid (own_base hO (show W.heap.size ≤ W.heap.size + 2 by omega))
      obtain ⟨au, cu, rfl⟩ := own_slice hO
      clear hO hR
      go_wp2
      go_ret
      exact ⟨_, rfl, HTX.out, HR.out, HOW.out⟩
end Go.Proofs.YtmdplphjbgghoaaGreatDoor.Po
namespace Go.Proofs.YtmdplphjbgghoaaGreatDoor.Po
open Go.RowKit
open Go.Proofs.YtmdplphjbgghoaaGreatDoor.Tx
open Go.Proofs.YtmdplphjbgghoaaGreatDoor.Ul hiding ret_bool
open Go.Proofs.YtmdplphjbgghoaaGreatDoor.Cl
open Go.Proofs.YtmdplphjbgghoaaGreatDoor.Mp
theorem rls_apart : ∀ (xs pre : List Rl), rlsB pre xs = true → ∀ i, i < xs.length → hasN (pre ++ xs.take i) (xs.getD i default).name = false
  | [], _, _, i, hi => by simp at hi
  | x :: r, pre, h, i, hi => by
    unfold rlsB at h
    simp only [Bool.and_eq_true] at h
    cases i with
    | zero => simpa using h.1.2
    | succ i =>
      have ih := rls_apart r (pre ++ [x]) h.2 i (by simpa using hi)
      simpa using ih
theorem words_at : ∀ (xs : List Rl) (i : Nat) (n : List UInt8), i < xs.length → (xs.getD i default).name = n → hasN (xs.take i) n = false → wordsOf n xs = (xs.getD i default).words
  | [], i, _, hi, _, _ => by simp at hi
  | x :: r, 0, n, _, hn, _ => by
    have : x.name = n := by simpa using hn
    simp [wordsOf, this]
  | x :: r, i + 1, n, hi, hn, hh => by
    simp only [hasN, List.take_succ_cons, List.any_cons, Bool.or_eq_false_iff] at hh
    have ih := words_at r i n (by simpa using hi) (by simpa using hn) hh.2
    simp only [wordsOf, hh.1, List.getD_cons_succ, Bool.false_eq_true, if_false]
    exact ih
theorem words_no : ∀ (xs : List Rl) (n : List UInt8), (∀ i, i < xs.length → (xs.getD i default).name ≠ n) → wordsOf n xs = []
  | [], _, _ => rfl
  | x :: r, n, h => by
    have h0 : (x.name == n) = false := by simpa using h 0 (by simp)
    have ih := words_no r n (fun i hi => by have := h (i + 1) (by simpa using hi); simpa using this)
    simp only [wordsOf, h0, Bool.false_eq_true, if_false]
    exact ih
/-- the map of words behind k rules -/
def WMap (xs : List Rl) (vs : Nat → Value) (k : Nat) (F : List UInt8 → Value) : Prop :=
  ∀ t, (F t = .slice none 0 0 ∧ ∀ i, i < k → (xs.getD i default).name ≠ t) ∨ ∃ i, i < k ∧ (xs.getD i default).name = t ∧ F t = vs i
theorem wmap_step {xs : List Rl} {vs : Nat → Value} {k : Nat} {F : List UInt8 → Value} (h : WMap xs vs k F) (x : Rl) (hx : xs.getD k default = x) : WMap xs vs (k + 1) (fun t => if t = x.name then vs k else F t) := fun t => by
  dsimp only
  by_cases e : t = x.name
  · rw [if_pos e]; exact .inr ⟨k, by omega, by rw [hx, e], rfl⟩
  · rw [if_neg e]
    rcases h t with ⟨h1, h2⟩ | ⟨i, hi, h1, h2⟩
    · refine .inl ⟨h1, fun i hi => ?_⟩
      by_cases ei : i = k
      · subst ei; rw [hx]; exact fun e2 => e e2.symm
      · exact h2 i (by omega)
    · exact .inr ⟨i, by omega, h1, h2⟩
theorem wmap_end {xs : List Rl} {vs : Nat → Value} {F : List UInt8 → Value} {S : Nat → Prop} {w : World} (h : WMap xs vs xs.length F) (hd : rlsB [] xs = true) (hT : ∀ i, i < xs.length → TxtsIn S w (vs i) (xs.getD i default).words) (t : List UInt8) : TxtsIn S w (F t) (wordsOf t xs) := by
  rcases h t with ⟨h1, h2⟩ | ⟨i, hi, h1, h2⟩
  · rw [h1, words_no xs t h2]
    exact ⟨none, 0, 0, 0, rfl, by simp, by omega, by simp, by simp, by simp⟩
  · rw [h2, words_at xs i t hi h1 (by have := rls_apart xs [] hd i hi; rw [h1] at this; simpa using this)]
    exact hT i hi
theorem words_small (xs : List Rl) (t : List UInt8) (hw : ∀ i, i < xs.length → (xs.getD i default).words.length ≤ 1048576 ∧ ∀ j, j < (xs.getD i default).words.length → ((xs.getD i default).words.getD j []).length ≤ 1048576) :
    (wordsOf t xs).length ≤ 1048576 ∧ ∀ j, j < (wordsOf t xs).length → ((wordsOf t xs).getD j []).length ≤ 1048576 := by
  rcases at_words t xs 0 with ⟨_, h⟩ | ⟨k, hk, _, h⟩
  · rw [h]; simp
  · rw [h]; exact hw k hk
def cellOf (w : World) (b o : Nat) : Value := (w.cell? ⟨b, o, none⟩).getD undef
/-- wx is wr but for the block W of the result, which has three cells -/
def Gst (B : Nat) (wr wx : World) : Prop := wr.grownBy wx (some B) ∧ ∃ C, wx.heap[B]? = some (.cells C 34 (0, 0)) ∧ C.size = 3
theorem gst_start {B : Nat} {wr : World} {a b c : Value} (h : wr.heap[B]? = some (.cells #[a, b, c] 34 (0, 0))) : Gst B wr wr.drew :=
  ⟨⟨rfl, rfl, rfl, Nat.le_refl _, fun _ _ _ => rfl⟩, _, h, rfl⟩
theorem gst_call {B : Nat} {wr wx wy : World} (h : Gst B wr wx) (hb : Below wx.heap.size wx wy) : Gst B wr wy := by
  obtain ⟨h1, C, h2, h3⟩ := h
  refine ⟨⟨hb.os.trans h1.os, hb.tape.trans h1.tape, hb.output.trans h1.output, Nat.le_trans h1.size hb.size, fun k hk hne => (hb.block k (Nat.lt_of_lt_of_le hk h1.size)).trans (h1.block k hk hne)⟩, C, (hb.block B (Array.getElem?_eq_some_iff.1 h2).1).trans h2, h3⟩
theorem gst_store {B : Nat} {wr wx : World} {a b c : Value} (h : Gst B wr wx) : Gst B wr (set3 wx B 0 a b c) := by
  obtain ⟨h1, C, h2, h3⟩ := h
  refine ⟨⟨h1.os, h1.tape, h1.output, by rw [set3_size]; exact h1.size, fun k hk hne => ?_⟩, _, heap_set (heap_set (heap_set h2 0 a) 1 b) 2 c, by simp [h3]⟩
  rw [set3_far _ _ _ _ _ _ _ (by intro e; subst e; exact hne rfl)]
  exact h1.block k hk hne
theorem gst_cells {B : Nat} {wr wx : World} (h : Gst B wr wx) : wx.cell? ⟨B, 0, none⟩ = some (cellOf wx B 0) ∧ wx.cell? ⟨B, 1, none⟩ = some (cellOf wx B 1) ∧ wx.cell? ⟨B, 2, none⟩ = some (cellOf wx B 2) ∧ ∀ o, wx.frozen? ⟨B, o, none⟩ = false := by
  obtain ⟨h1, C, h2, h3⟩ := h
  obtain ⟨x, y, z, e⟩ := list3 (l := C.toList) (by simpa using h3)
  have e2 : C = #[x, y, z] := by rw [← Array.toArray_toList (xs := C), e]
  subst e2
  obtain ⟨c0, c1, c2, cf⟩ := three_cells h2
  exact ⟨by unfold cellOf; rw [c0]; rfl, by unfold cellOf; rw [c1]; rfl, by unfold cellOf; rw [c2]; rfl, cf⟩
theorem gst_row {B : Nat} {wr wx : World} {a b c : Value} (h : Gst B wr wx) : (set3 wx B 0 a b c).heap[B]? = some (.cells #[a, b, c] 34 (0, 0)) := by
  obtain ⟨h1, C, h2, h3⟩ := h
  obtain ⟨x, y, z, e⟩ := list3 (l := C.toList) (by simpa using h3)
  have e2 : C = #[x, y, z] := by rw [← Array.toArray_toList (xs := C), e]
  subst e2
  exact heap_set (heap_set (heap_set h2 0 a) 1 b) 2 c
theorem gst_below {B : Nat} {W wr wx : World} (h : Gst B wr wx) (hR : Below B W wr) (hB : B ≤ wr.heap.size) : Below B W wx := hR.grown h.1 hB (fun k e => by cases e; exact Nat.le_refl _)
theorem gst_txts {B : Nat} {w7 wx : World} {uv a b c : Value} {us : List (List UInt8)} {lo : Nat} (h : TxtsIn (fun k => lo ≤ k ∧ k < w7.heap.size) w7 uv us) (hb : Below w7.heap.size w7 wx) (hlo : B < lo) :
    TxtsIn (fun k => B ≤ k ∧ k < (set3 wx B 0 a b c).heap.size) (set3 wx B 0 a b c) uv us :=
  h.same fun k hk => ⟨⟨by omega, by rw [set3_size]; exact Nat.lt_of_lt_of_le hk.2 hb.size⟩, by rw [set3_far _ _ _ _ _ _ _ (by omega)]; exact hb.block k hk.2⟩
theorem gst_own {B n lo : Nat} {w7 wx : World} {uv a b c : Value} {xs : List Value} (h : w7.ownsRow lo 9 1 uv n xs) (hb : Below w7.heap.size w7 wx) (hlo : B < lo) :
    (set3 wx B 0 a b c).ownsRow B 9 1 uv n xs := by
  have h1 := h.kept (below_grownBy hb none) (by cases uv.ownBlock <;> simp)
  have hg : wx.grownBy (set3 wx B 0 a b c) (some B) := ⟨rfl, rfl, rfl, by rw [set3_size]; exact Nat.le_refl _, fun k _ hne => set3_far _ _ _ _ _ _ _ (by intro e; subst e; exact hne rfl)⟩
  exact own_base (own_kept h1 hg hlo) (Nat.le_of_lt hlo)
set_option maxRecDepth 100000 in
set_option maxHeartbeats 2000000 in
theorem makeI_any (B : Nat) (w0 : World) (xs : List Rl) (v : Value) (h : RlIn (· < B) w0 v xs) (hx : xs.length ≤ 1048576) (hn : ∀ i, i < xs.length → (xs.getD i default).name.length ≤ 1048576)
    (hw : ∀ i, i < xs.length → (xs.getD i default).words.length ≤ 1048576 ∧ ∀ j, j < (xs.getD i default).words.length → ((xs.getD i default).words.getD j []).length ≤ 1048576) (hd : rlsB [] xs = true) (W : World) (hb : Below B w0 W) (hB : B ≤ W.heap.size) (hT : Tab W) (hM : MaxL W) :
    Calls Tryz.prog 44 #[v] W fun e w' => ∃ uv, e = .returned (pV (makeP xs) uv v) ∧ TxtsIn (fun b => W.heap.size ≤ b ∧ b < w'.heap.size) w' uv (makeP xs).uris ∧ Below W.heap.size W w' ∧ w'.ownsRow W.heap.size 9 1 uv (makeP xs).uris.length (strV (makeP xs).uris) := by
  have HP : (makeP xs) = ⟨firstN (wordsOf rtoL xs), urisOf (wordsOf ruriL xs), xs⟩ := rfl
  rw [HP]
  clear HP
  simp only
  have S1 := words_small xs rtoL hw
  have S2 := words_small xs ruriL hw
  obtain ⟨a, cap, b, off, vs, rfl, hcap, hm, hlen, ha, hc⟩ := h
  have HWE := Lib.hid (fun F (hF : WMap xs vs xs.length F) => wmap_end hF hd (fun i hi => (hc i hi).2.2))
  have HC := Lib.hid hc
  have HA := Lib.hid ha
  have HB := Lib.hid hb
  have HN := Lib.hid hn
  have HT := Lib.hid hT
  have HM := Lib.hid hM
  clear hc ha hlen hb hw hn hd hT hM
  obtain ⟨rep, hrep⟩ : ∃ r, firstN (wordsOf rtoL xs) = r := ⟨_, rfl⟩
  obtain ⟨us, hus⟩ : ∃ r, urisOf (wordsOf ruriL xs) = r := ⟨_, rfl⟩
  rw [hrep, hus]
  have HREP := Lib.hid hrep
  have HUS := Lib.hid hus
  clear hrep hus
  have hmm := @run_makeMap Tryz.prog
  have M0 := Lib.hid ((OMap.made (W.alloc (.cells #[.string ⟨#[]⟩, .slice none 0 0, .slice none 0 0] 34)) (.slice none 0 0)))
  go_enter Tryz.func44, Tryz.ntmps44
  go_wp2
  go_loopw [9] (fun i wr => ∃ (k n : Nat) (F : List UInt8 → Value), k ≤ xs.length ∧ n ≤ k ∧ i = .int .i64 k ∧ OMap wr (W.heap.size + 1) n (.slice none 0 0) F ∧ WMap xs vs k F ∧ wr.heap[W.heap.size]? = some (.cells #[.string ⟨#[]⟩, .slice none 0 0, .slice none 0 0] 34 (0, 0)) ∧ Below W.heap.size W wr) (fun i _ => xs.length - (intOf i).toNat)
  case atStart => exact ⟨0, 0, _, by omega, by omega, rfl, by simpa using M0.out, fun t => .inl ⟨rfl, fun i hi => by omega⟩, (heap_alloc_old _ _ (by simp)).trans (heap_alloc_new _ _), ((Below.refl _ _).alloc (Nat.le_refl _) _).alloc (by simp) _⟩
  case round =>
    obtain ⟨k, n, F, hk, hnk, rfl, hMp, hF, hP, hR⟩ := hrel
    have HMp := Lib.hid hMp
    have HF := Lib.hid hF
    have HPb := Lib.hid hP
    have HR := Lib.hid hR
    have hW : Below B w0 wr := HB.out.trans (hR.mono hB)
    have hzr := hR.size
    have hzw := (Array.getElem?_eq_some_iff.1 hP).1
    clear hMp hF hP hR
    by_cases hlt : k < xs.length
    · obtain ⟨ea, hlb⟩ := HA.out (by omega)
      subst ea
      obtain ⟨c0, c1, T1⟩ := HC.out k hlt
      have q0 := (hW.cell (p := ⟨b, off + k * 2, none⟩) hlb).trans c0
      have q1 := (hW.cell (p := ⟨b, off + k * 2 + 1, none⟩) hlb).trans c1
      have hnl := HN.out k hlt
      have HST := Lib.hid (wmap_step HF.out (xs.getD k default) rfl)
      obtain ⟨a5, l5, c5, e5⟩ := T1.slice
      rw [e5] at q1 HST
      have hd2 : b < wr.heap.size := by omega
      clear c0 c1 T1 e5 hW
      generalize xs.getD k default = x at *
      obtain ⟨nm, ws⟩ := x
      simp only at *
      go_wp2_with (first
        | (at_mapUpdate; refine wpList_store rfl _ rfl _ _ _ 98 rfl 22 Tryz.underlying98 rfl (HMp.out.alloc _) (by omega) nm _ rfl rfl (by omega) ?_; intro w' hm hg; have HM2 := Lib.hid hm; have HP2 := Lib.hid ((hg.block W.heap.size (by simp; omega) (by intro e; simp at e)).trans ((heap_alloc_old _ _ hzw).trans HPb.out)); have HR2 := Lib.hid (below_grownM (HR.out.alloc HR.out.size _) hg (by omega) (by simp; omega)); clear hm hg))
      go_roundw
      case rel => exact ⟨k + 1, n + 1, _, by omega, by omega, by go_num, HM2.out, HST.out, HP2.out, HR2.out⟩
      case measure => simp [intOf]; omega
    · obtain rfl : k = xs.length := by omega
      have TT1 := HWE.out F HF.out rtoL
      have TT2 := HWE.out F HF.out ruriL
      obtain ⟨a1, l1, c1, e1⟩ := TT1.slice
      obtain ⟨a2, l2, c2, e2⟩ := TT2.slice
      have hz : ∀ W, (zeroValue 22).run Tryz.prog W = .ok (.slice none 0 0) W := fun W => by kernel_rfl
      have L1 : ∀ wx, Gst W.heap.size wr wx → (Instr.lookup 98 (.map (some (W.heap.size + 1))) (.string ⟨rtoL.toArray⟩) false).run Tryz.prog wx = .ok (.slice a1 l1 c1) wx := fun wx hg => by
        rw [← e1]; exact (HMp.out.kept (hg.1.block _ HMp.out.lt (by intro e; simp at e))).look Tryz.underlying98 (hz _) rtoL (by decide)
      have L2 : ∀ wx, Gst W.heap.size wr wx → (Instr.lookup 98 (.map (some (W.heap.size + 1))) (.string ⟨ruriL.toArray⟩) false).run Tryz.prog wx = .ok (.slice a2 l2 c2) wx := fun wx hg => by
        rw [← e2]; exact (HMp.out.kept (hg.1.block _ HMp.out.lt (by intro e; simp at e))).look Tryz.underlying98 (hz _) ruriL (by decide)
      rw [e1] at TT1
      rw [e2] at TT2
      have BW : ∀ wx, Gst W.heap.size wr wx → Below W.heap.size W wx := fun wx hg => gst_below hg HR.out (by omega)
      have HFN := Lib.hid (fun (W' : World) (h : Gst W.heap.size wr W') => firstI_any B w0 _ _ TT1 S1.2 W' (HB.out.trans ((BW W' h).mono hB)) (Nat.le_trans hB (BW W' h).size))
      have HCU := Lib.hid (fun (W' : World) (h : Gst W.heap.size wr W') => urlsI_any B w0 _ _ TT2 S2.1 S2.2 W' (HB.out.trans ((BW W' h).mono hB)) (Nat.le_trans hB (BW W' h).size) (HT.out.below (BW W' h)) (HM.out.below (BW W' h)))
      have HBW := Lib.hid BW
      simp only [rtoL, ruriL] at L1 L2
      have HALL := Lib.hid (fun wx (hg : Gst W.heap.size wr wx) => And.intro (L1 wx hg) (And.intro (L2 wx hg) (And.intro (gst_cells hg) (And.intro hg (show wr.heap.size ≤ wx.heap.size from hg.1.size)))))
      have HST := Lib.hid (gst_start HPb.out)
      rw [HREP.out] at HFN
      rw [HUS.out] at HCU
      clear L1 L2 BW TT1 TT2 e1 e2 S1 S2 hW HMp HPb hz
      go_wp2_with fail
      go_region_held3 (fun wx => (Instr.lookup 98 (.map (some (W.heap.size + 1))) (.string ⟨#[114, 101, 112, 111, 114, 116, 45, 116, 111]⟩) false).run Tryz.prog wx = .ok (.slice a1 l1 c1) wx ∧ (Instr.lookup 98 (.map (some (W.heap.size + 1))) (.string ⟨#[114, 101, 112, 111, 114, 116, 45, 117, 114, 105]⟩) false).run Tryz.prog wx = .ok (.slice a2 l2 c2) wx ∧
          (wx.cell? ⟨W.heap.size, 0, none⟩ = some (cellOf wx W.heap.size 0) ∧ wx.cell? ⟨W.heap.size, 1, none⟩ = some (cellOf wx W.heap.size 1) ∧ wx.cell? ⟨W.heap.size, 2, none⟩ = some (cellOf wx W.heap.size 2) ∧ ∀ o, wx.frozen? ⟨W.heap.size, o, none⟩ = false) ∧ Gst W.heap.size wr wx ∧ wr.heap.size ≤ wx.heap.size)
        (first
          | exact HALL.out _ HST.out
          | (go_split_ands; exact HALL.out _ (gst_call (by assumption) hbF))
          | (go_split_ands; exact HALL.out _ (gst_call (by assumption) hbU))
          | (go_split_ands; exact HALL.out _ (gst_store (by assumption))))
        (first
          | (go_split_ands; go_at_call 77; refine (HFN.out _ (by assumption)).mono ?_; rintro e w6 ⟨rfl, hbF⟩)
          | (go_split_ands; go_at_call 78; refine (HCU.out _ (by assumption)).mono ?_; rintro e w7 ⟨uv, rfl, hTx, hbU, hOw⟩; obtain ⟨a7, l7, c7, rfl⟩ := hTx.slice))
      all_goals
        go_split_ands
        first
          | (have hG := gst_call (B := W.heap.size) (wr := wr) (by assumption) hbU
             have hTT := Lib.hid (gst_txts (B := W.heap.size) (a := .string ⟨rep.toArray⟩) (b := .slice a7 l7 c7) (c := .slice a xs.length cap) hTx (Below.refl _ _) (by omega))
             have hOO := Lib.hid (gst_own (B := W.heap.size) (a := .string ⟨rep.toArray⟩) (b := .slice a7 l7 c7) (c := .slice a xs.length cap) hOw (Below.refl _ _) (by omega))
             have hRW := Lib.hid (gst_row (a := .string ⟨rep.toArray⟩) (b := .slice a7 l7 c7) (c := .slice a xs.length cap) hG)
             have hBF := Lib.hid (HBW.out _ (gst_store (a := .string ⟨rep.toArray⟩) (b := .slice a7 l7 c7) (c := .slice a xs.length cap) hG))
             go_wp2
             exact bodyPost_ret (ret_P Tryz.results44 rfl hRW.out) rfl ⟨_, rfl, hTT.out, hBF.out, hOO.out⟩)
          | (have hG := gst_call (B := W.heap.size) (wr := wr) (by assumption) hbF
             have hTT := Lib.hid (gst_txts (B := W.heap.size) (a := .string ⟨rep.toArray⟩) (b := .slice a7 l7 c7) (c := .slice a xs.length cap) hTx hbF (by omega))
             have hOO := Lib.hid (gst_own (B := W.heap.size) (a := .string ⟨rep.toArray⟩) (b := .slice a7 l7 c7) (c := .slice a xs.length cap) hOw hbF (by omega))
             have hRW := Lib.hid (gst_row (a := .string ⟨rep.toArray⟩) (b := .slice a7 l7 c7) (c := .slice a xs.length cap) hG)
             have hBF := Lib.hid (HBW.out _ (gst_store (a := .string ⟨rep.toArray⟩) (b := .slice a7 l7 c7) (c := .slice a xs.length cap) hG))
             go_wp2
             exact bodyPost_ret (ret_P Tryz.results44 rfl hRW.out) rfl ⟨_, rfl, hTT.out, hBF.out, hOO.out⟩)
end Go.Proofs.YtmdplphjbgghoaaGreatDoor.Po
namespace Go.Proofs.YtmdplphjbgghoaaGreatDoor.Po
open Go.RowKit
open Go.Proofs.YtmdplphjbgghoaaGreatDoor.Tx
open Go.Proofs.YtmdplphjbgghoaaGreatDoor.Ul hiding ret_bool
open Go.Proofs.YtmdplphjbgghoaaGreatDoor.Cl
/-- how great a policy may be -/
structure Small (p : Pl) : Prop where
  rep : p.rep.length ≤ 1048576
  uris : p.uris.length ≤ 1048576
  uri : ∀ i, i < p.uris.length → (p.uris.getD i []).length ≤ 1048576
  rules : p.rules.length ≤ 1048576
  name : ∀ i, i < p.rules.length → (p.rules.getD i default).name.length ≤ 1048576
  words : ∀ i, i < p.rules.length → (p.rules.getD i default).words.length ≤ 1048576 ∧ ∀ j, j < (p.rules.getD i default).words.length → ((p.rules.getD i default).words.getD j []).length ≤ 1048576
set_option maxRecDepth 100000 in
set_option maxHeartbeats 1000000 in
theorem polI_any (B : Nat) (w0 : World) (p : Pl) (uv rv : Value) (hu : TxtsIn (· < B) w0 uv p.uris) (hr : RlIn (· < B) w0 rv p.rules) (hs : Small p) (W : World) (hb : Below B w0 W) (hB : B ≤ W.heap.size) (hT : Tab W) (hM : MaxL W) :
    Calls Tryz.prog 24 #[pV p uv rv] W fun e w' => e = .returned (.bool (plB p)) ∧ Below W.heap.size W w' := by
  obtain ⟨hsr, hsu, hsui, hsx, hsn, hsw⟩ := hs
  obtain ⟨rep, us, xs⟩ := p
  simp only at hu hr hsr hsu hsui hsx hsn hsw
  have HMK := Lib.hid (fun (hd : rlsB [] xs = true) (W' : World) h1 h2 h3 h4 => makeI_any B w0 xs rv hr hsx hsn hsw hd W' h1 h2 h3 h4)
  have HRS := Lib.hid (fun (W' : World) h1 h2 => rulesI_any B w0 xs rv hr hsx hsn hsw W' h1 h2)
  have HU := Lib.hid hu
  have HP := Lib.hid (plB_as ⟨rep, us, xs⟩)
  obtain ⟨r, hrr⟩ : ∃ r, plB ⟨rep, us, xs⟩ = r := ⟨_, rfl⟩
  rw [hrr] at HP
  rw [hrr]
  obtain ⟨au, lu, cu, rfl⟩ := hu.slice
  obtain ⟨ar, cr, br, offr, vsr, rfl, hcap, hm, -, -, -⟩ := hr
  have HB := Lib.hid hb
  have HT := Lib.hid hT
  have HM := Lib.hid hM
  clear hu hrr hb hT hM hsw hsn hsui
  simp only at HP
  by_cases h8 : xs.length ≤ 8
  · have d8 : decide ((8 : Int) < (xs.length : Int)) = false := by simp; omega
    have HP1 := Lib.hid (show r = (rlsB [] xs && ((rep == (makeP xs).rep) && (us == (makeP xs).uris))) by rw [HP.out, decide_eq_true h8]; rfl)
    clear HP
    obtain ⟨rb, hrb⟩ : ∃ rb, rlsB [] xs = rb := ⟨_, rfl⟩
    rw [hrb] at HRS HP1
    go_enter Tryz.func24, Tryz.ntmps24
    go_wp2_with fail
    refine (HRS.out _ (HB.out.alloc hB _) (by simp; omega)).mono ?_
    rintro e w1 ⟨rfl, hb1⟩
    have hk1 := (hb1.block W.heap.size (by simp)).trans (heap_alloc_new W (.cells #[.string ⟨rep.toArray⟩, .slice au lu cu, .slice ar xs.length cr] 34))
    obtain ⟨m0, m1, m2, mf⟩ := three_cells hk1
    have HK1 := Lib.hid hk1
    have HF := Lib.hid (((Below.refl W.heap.size W).alloc (Nat.le_refl _) (.cells #[.string ⟨rep.toArray⟩, .slice au lu cu, .slice ar xs.length cr] 34)).trans (hb1.mono (by simp)))
    have z1 : W.heap.size < w1.heap.size := by have := hb1.size; simp at this; omega
    clear hb1 hk1 HRS
    cases rb
    · go_wp2
      go_ret
      exact ⟨ret_b (by rw [HP1.out]; rfl), HF.out⟩
    · go_wp2_with fail
      refine (HMK.out hrb w1 (HB.out.trans (HF.out.mono hB)) (by omega) (HT.out.below HF.out) (HM.out.below HF.out)).mono ?_
      rintro e w2 ⟨uv2, rfl, hT2, hb2, -⟩
      have hz2 := hb2.size
      have hd3 : W.heap.size < w2.heap.size := by omega
      obtain ⟨a2, l2, c2, rfl⟩ := hT2.slice
      obtain ⟨n0, n1, n2, nf⟩ := three_cells ((hb2.block _ z1).trans HK1.out)
      have HB2 := Lib.hid (belI_step HF.out hb2)
      have HB2a := Lib.hid (fun (o : Obj) => HB2.out.alloc HB2.out.size o)
      have HS := Lib.hid (fun (W' : World) (h : Below w2.heap.size w2 W') => sEqual_any _ _ us (makeP xs).uris _ _ W' (HU.out.blw (HB.out.trans ((HB2.out.mono hB).trans (h.mono (by have := HB2.out.size; omega))))) (hT2.later (fun _ hb => hb.2) h))
      generalize makeP xs = q at *
      obtain ⟨rep2, us2, xs2⟩ := q
      simp only at *
      clear m0 m1 m2 mf hb2 hT2 HMK hrb
      obtain ⟨c, hcc⟩ : ∃ c, (rep == rep2) = c := ⟨_, rfl⟩
      rw [hcc] at HP1
      cases c
      · go_wp2
        go_ret
        exact ⟨ret_b (by rw [HP1.out]; rfl), HB2a.out _⟩
      · go_wp2_with (first
          | (go_at_call 54; refine (HS.out _ ((Below.refl _ _).alloc (Nat.le_refl _) _)).mono ?_; rintro e w' ⟨rfl, nn, rfl⟩))
        go_ret
        exact ⟨ret_b (by rw [HP1.out]; rfl), belI_drewN (HB2a.out _) _⟩
  · have d8 : decide ((8 : Int) < (xs.length : Int)) = true := by simp; omega
    have HB1 := Lib.hid ((Below.refl W.heap.size W).alloc (Nat.le_refl _) (.cells #[.string ⟨rep.toArray⟩, .slice au lu cu, .slice ar xs.length cr] 34))
    go_enter Tryz.func24, Tryz.ntmps24
    go_wp2
    go_ret
    exact ⟨ret_b (by rw [HP.out, decide_eq_false h8]; rfl), HB1.out⟩
end Go.Proofs.YtmdplphjbgghoaaGreatDoor.Po
namespace Go.Proofs.YtmdplphjbgghoaaGreatDoor.Po
open Go.RowKit
open Go.Proofs.YtmdplphjbgghoaaGreatDoor.Tx
open Go.Proofs.YtmdplphjbgghoaaGreatDoor.Ul hiding ret_bool
theorem szT_get : ∀ (xs : List (List UInt8)) (i : Nat), i < xs.length → (xs.getD i []).length ≤ szT xs
  | [], _, h => by simp at h
  | x :: r, 0, _ => by simp [szT]
  | x :: r, i + 1, h => by
    have := szT_get r i (by simpa using h)
    simp only [szT, List.getD_cons_succ]
    omega
theorem szLs_get : ∀ (xs : List Rl) (i : Nat), i < xs.length → szL (xs.getD i default) ≤ szLs xs
  | [], _, h => by simp at h
  | x :: r, 0, _ => by simp [szLs]
  | x :: r, i + 1, h => by
    have := szLs_get r i (by simpa using h)
    simp only [szLs, List.getD_cons_succ]
    omega
theorem small_of (p : Pl) (h : szP p ≤ 1048576) : Small p := by
  unfold szP at h
  refine ⟨by omega, by omega, fun i hi => ?_, by omega, fun i hi => ?_, fun i hi => ⟨?_, fun j hj => ?_⟩⟩
  · have := szT_get p.uris i hi; omega
  · have := szLs_get p.rules i hi; unfold szL at this; omega
  · have := szLs_get p.rules i hi; unfold szL at this; omega
  · have := szLs_get p.rules i hi; unfold szL at this; have := szT_get _ j hj; omega
theorem below_chain {W w w' : World} (h : Below W.heap.size W w) (h2 : Below w.heap.size w w') : Below W.heap.size W w' := h.trans (h2.mono h.size)
abbrev aO (p : Pl) (u v : Value) : Obj := .cells #[.string ⟨p.rep.toArray⟩, u, v] 25
abbrev xO (p : Pl) (u v : Value) : Obj := .cells #[.string ⟨p.rep.toArray⟩, u, v] 34
end Go.Proofs.YtmdplphjbgghoaaGreatDoor.Po
namespace Go.Proofs.YtmdplphjbgghoaaGreatDoor.Mk
open Go.RowKit
open Go.Proofs.YtmdplphjbgghoaaGreatDoor.Po
open Go.Proofs.YtmdplphjbgghoaaGreatDoor.Tx
open Go.Proofs.YtmdplphjbgghoaaGreatDoor.Ul (conv_one)
@[local go_sem] theorem bappM (a b : List UInt8) : (⟨a.toArray⟩ : ByteArray) ++ ⟨b.toArray⟩ = ⟨(a ++ b).toArray⟩ := by
  apply ByteArray.ext; simp
theorem ret_strM {a b : List UInt8} (h : a = b) : Ending.returned (.string ⟨a.toArray⟩) = .returned (.string ⟨b.toArray⟩) := by rw [h]
def dg (n : Nat) : List UInt8 := if n = 0 then [] else Lib.decDigits n
theorem dg_step (n : Nat) (h : 0 < n) : dg n = dg (n / 10) ++ [UInt8.ofNat (48 + n % 10)] := by
  unfold dg
  rw [if_neg (by omega)]
  by_cases h9 : n < 10
  · rw [Lib.decDigits_one h9, if_pos (by omega)]
    have : n % 10 = n := by omega
    rw [this]; rfl
  · rw [Lib.decDigits, dif_neg h9, if_neg (by omega)]
theorem dg_len (n : Nat) (h : n ≤ 9223372036854775807) : (dg n).length ≤ 20 := by
  unfold dg
  split
  · simp
  · have := Ul.digs_len 18 n (by omega); omega
def mkT (n : Nat) : List UInt8 := 109 :: dg n
set_option maxRecDepth 100000 in
set_option maxHeartbeats 1000000 in
theorem markText_any (n : Nat) (h0 : 0 < n) (hn : n ≤ 4611686018427387904) (w : World) : Calls Tryz.prog 67 #[.int .i64 (n : Int)] w fun e w' => e = .returned (.string ⟨(mkT n).toArray⟩) ∧ Below w.heap.size w w' := by
  have d1 : decide ((n : Int) ≤ 0) = false := by simp; omega
  have hcv := conv_one
  go_enter Tryz.func67, Tryz.ntmps67
  go_wp2
  go_loopw [0, 3] (fun kv ov wr => ∃ (m : Nat) (o : List UInt8), m ≤ n ∧ kv = .int .i64 (m : Int) ∧ ov = .string ⟨o.toArray⟩ ∧ dg n = dg m ++ o ∧ Below w.heap.size w wr) (fun kv _ _ => (intOf kv).toNat)
  case atStart => exact ⟨n, [], by omega, rfl, rfl, by simp, Below.refl _ _⟩
  case round =>
    obtain ⟨m, o, hm, rfl, rfl, hE, hR⟩ := hrel
    have HE := Lib.hid hE
    have HR := Lib.hid hR
    have hlo : o.length ≤ 20 := by have h1 := dg_len n (by omega); rw [hE, List.length_append] at h1; omega
    clear hE hR
    by_cases hp : 0 < m
    · have DS := Lib.hid (dg_step m hp)
      have d2 : decide ((0 : Int) < (m : Int)) = true := by simp; omega
      have w1 : IntKind.i64.wrap ((m : Int) / 10) = ((m / 10 : Nat) : Int) := IntWalk.i64_in _ (by omega)
      have HA := Lib.hid (belI_alloc (o := .cells #[.int .u8 (48 + (m : Int) % 10)] 5) HR.out)
      have b1 : ¬ 9223372036854775807 < o.length + 1 := by omega
      go_wp2
      go_roundw
      case rel => exact ⟨m / 10, UInt8.ofNat (48 + m % 10) :: o, by omega, by go_num, by rw [show UInt8.ofNat (48 + m % 10) = 48 + UInt8.ofNat (m % 10) by rw [UInt8.ofNat_add]; rfl], by rw [HE.out, DS.out]; simp, HA.out⟩
      case measure => simp [intOf]; omega
    · obtain rfl : m = 0 := by omega
      have EO := Lib.hid (show dg n = o by rw [HE.out]; rfl)
      have b1 : ¬ 9223372036854775807 < o.length + 1 := by omega
      have b2 : ¬ 9223372036854775807 < 1 + o.length := by omega
      go_wp2
      go_ret
      exact ⟨ret_strM (by rw [mkT, EO.out]), HR.out⟩
end Go.Proofs.YtmdplphjbgghoaaGreatDoor.Mk
namespace Go.Proofs.YtmdplphjbgghoaaGreatDoor.Mk
open Go.RowKit
open Go.Proofs.YtmdplphjbgghoaaGreatDoor.Po
open Go.Proofs.YtmdplphjbgghoaaGreatDoor.Tx hiding ret_b ret_i
def SRow (w : World) (g n : Nat) : Prop := ∃ f, w.rowIs g 9 n f
def RRow (w : World) (g n : Nat) (vs : Nat → Value) : Prop := ∃ F, w.rowIs g 68 (n * 2) F ∧ ∀ i, i < n → F (i * 2 + 1) = vs i
def OwnS (S : Nat → Prop) (w : World) (v : Value) (n : Nat) : Prop := ∃ g, v = .slice (some ⟨g, 0, none⟩) n n ∧ S g ∧ SRow w g n
def OwnR (S : Nat → Prop) (w : World) (v : Value) (n : Nat) (ns : Nat → Nat) : Prop := ∃ g vs, v = .slice (some ⟨g, 0, none⟩) n n ∧ S g ∧ RRow w g n vs ∧ ∀ i, i < n → OwnS S w (vs i) (ns i)
theorem rowIs_at {w w' : World} {g n : Nat} {t : TypeId} {f : Nat → Value} (h : w.rowIs g t n f) (e : w'.heap[g]? = w.heap[g]?) : w'.rowIs g t n f := by
  obtain ⟨c, h1, h2⟩ := h; exact ⟨c, e.trans h1, h2⟩
theorem OwnS.away {S S' : Nat → Prop} {w w' : World} {v : Value} {n : Nat} (h : OwnS S w v n) (hs : ∀ b, S b → S' b) (he : ∀ b, S b → w'.heap[b]? = w.heap[b]?) : OwnS S' w' v n := by
  obtain ⟨g, e, hg, f, hr⟩ := h
  exact ⟨g, e, hs g hg, f, rowIs_at hr (he g hg)⟩
theorem OwnR.away {S S' : Nat → Prop} {w w' : World} {v : Value} {n : Nat} {ns : Nat → Nat} (h : OwnR S w v n ns) (hs : ∀ b, S b → S' b) (he : ∀ b, S b → w'.heap[b]? = w.heap[b]?) : OwnR S' w' v n ns := by
  obtain ⟨g, vs, e, hg, ⟨F, hr, hF⟩, hd⟩ := h
  exact ⟨g, vs, e, hs g hg, ⟨F, rowIs_at hr (he g hg), hF⟩, fun i hi => (hd i hi).away hs he⟩
abbrev Fresh (W w' : World) : Nat → Prop := fun b => W.heap.size ≤ b ∧ b < w'.heap.size
def NewTO (W : World) (ns : List (List UInt8)) (e : Ending) (w' : World) : Prop := ∃ v, e = .returned v ∧ TxtsIn (fun b => W.heap.size ≤ b ∧ b < w'.heap.size) w' v ns ∧ Below W.heap.size W w' ∧ OwnS (fun b => W.heap.size ≤ b ∧ b < w'.heap.size) w' v ns.length
theorem newTO_of {W w' : World} {ns : List (List UInt8)} {f : Nat → Value} (h : NewTxts W ns (.returned (.slice (some ⟨W.heap.size, 0, none⟩) ns.length ns.length)) w') (hr : w'.rowIs W.heap.size 9 ns.length f) (hlt : W.heap.size < w'.heap.size) : NewTO W ns (.returned (.slice (some ⟨W.heap.size, 0, none⟩) ns.length ns.length)) w' := by
  obtain ⟨v, e, h1, h2⟩ := h
  cases e
  exact ⟨_, rfl, h1, h2, W.heap.size, rfl, ⟨Nat.le_refl _, hlt⟩, f, hr⟩
def NewRO (W : World) (r : Rl) (e : Ending) (w' : World) : Prop := ∃ v, e = .returned (rV r v) ∧ TxtsIn (fun b => W.heap.size ≤ b ∧ b < w'.heap.size) w' v r.words ∧ Below W.heap.size W w' ∧ OwnS (fun b => W.heap.size ≤ b ∧ b < w'.heap.size) w' v r.words.length
abbrev wl (xs : List Rl) : Nat → Nat := fun i => (xs.getD i default).words.length
def NewRsO (W : World) (xs : List Rl) (e : Ending) (w' : World) : Prop := ∃ v, e = .returned v ∧ RlIn (fun b => W.heap.size ≤ b ∧ b < w'.heap.size) w' v xs ∧ Below W.heap.size W w' ∧ OwnR (fun b => W.heap.size ≤ b ∧ b < w'.heap.size) w' v xs.length (wl xs)
def NewPO (W : World) (p : Pl) (e : Ending) (w' : World) : Prop := ∃ uv rv, e = .returned (pV p uv rv) ∧ TxtsIn (fun b => W.heap.size ≤ b ∧ b < w'.heap.size) w' uv p.uris ∧ RlIn (fun b => W.heap.size ≤ b ∧ b < w'.heap.size) w' rv p.rules ∧ Below W.heap.size W w' ∧
  OwnS (fun b => W.heap.size ≤ b ∧ b < w'.heap.size) w' uv p.uris.length ∧ OwnR (fun b => W.heap.size ≤ b ∧ b < w'.heap.size) w' rv p.rules.length (wl p.rules)
def RRelO (W : World) (xs : List Rl) (k : Nat) (wr : World) : Prop :=
  ∃ (F vs : Nat → Value), wr.rowIs W.heap.size 68 (xs.length * 2) F ∧
    (∀ i, i < k → F (i * 2) = .string ⟨(xs.getD i default).name.toArray⟩ ∧ F (i * 2 + 1) = vs i) ∧
    (∀ i, i < k → TxtsIn (fun b => W.heap.size < b ∧ b < wr.heap.size) wr (vs i) (xs.getD i default).words) ∧
    (∀ i, i < k → OwnS (fun b => W.heap.size < b ∧ b < wr.heap.size) wr (vs i) (wl xs i)) ∧ Below W.heap.size W wr
theorem rRelO_start (W : World) (xs : List Rl) : RRelO W xs 0 (W.alloc (.cells (madeCells #[.string ByteArray.empty, .slice none 0 0] (xs.length * 2)) 68)) := by
  obtain ⟨F, vs, h1, h2, h3, h4⟩ := rRel_start W xs
  exact ⟨F, vs, h1, h2, h3, fun i hi => by omega, h4⟩
theorem rRelO_end {W w' : World} {xs : List Rl} (h : RRelO W xs xs.length w') (hm : xs.length ≤ 1048576) (hl : ∀ i, i < xs.length → (xs.getD i default).name.length ≤ 9223372036854775807) : NewRsO W xs (.returned (.slice (some ⟨W.heap.size, 0, none⟩) xs.length xs.length)) w' := by
  obtain ⟨F, vs, hr, hf, hj, ho, hb⟩ := h
  obtain ⟨v, e, h1, h2⟩ := rRel_end (W := W) (w' := w') ⟨F, vs, hr, hf, hj, hb⟩ hm hl
  cases e
  exact ⟨_, rfl, h1, h2, W.heap.size, vs, rfl, ⟨Nat.le_refl _, hr.lt⟩, ⟨F, hr, fun i hi => (hf i hi).2⟩, fun i hi => (ho i hi).away (fun b hb => ⟨by omega, hb.2⟩) (fun _ _ => rfl)⟩
theorem rRelO_step {W wr w2 : World} {xs : List Rl} {k : Nat} {x : Rl} {nv : Value} {F wn : Nat → Value} (hx : xs.getD k default = x) (hr : w2.rowIs W.heap.size 68 (xs.length * 2) F)
    (hf : ∀ i, i < k → F (i * 2) = .string ⟨(xs.getD i default).name.toArray⟩ ∧ F (i * 2 + 1) = wn i)
    (hj : ∀ i, i < k → TxtsIn (fun b => W.heap.size < b ∧ b < wr.heap.size) wr (wn i) (xs.getD i default).words)
    (ho : ∀ i, i < k → OwnS (fun b => W.heap.size < b ∧ b < wr.heap.size) wr (wn i) (wl xs i)) (hN : Below W.heap.size W wr) (hlt : W.heap.size < wr.heap.size)
    (hj2 : TxtsIn (fun b => wr.heap.size ≤ b ∧ b < w2.heap.size) w2 nv x.words) (ho2 : OwnS (fun b => wr.heap.size ≤ b ∧ b < w2.heap.size) w2 nv x.words.length) (hb2 : Below wr.heap.size wr w2) :
    RRelO W xs (k + 1) (set2 w2 W.heap.size (k * 2) (.string ⟨x.name.toArray⟩) nv) := by
  have hs := hb2.size
  refine ⟨fun j => if j = k * 2 + 1 then nv else if j = k * 2 then .string ⟨x.name.toArray⟩ else F j, fun i => if i = k then nv else wn i, (hr.set _ _).set _ _, fun i hi => ?_, fun i hi => ?_, fun i hi => ?_, ?_⟩
  · by_cases e : i = k
    · subst e
      rw [hx]
      refine ⟨?_, ?_⟩ <;> simp
    · obtain ⟨f0, f1⟩ := hf i (by omega)
      refine ⟨?_, ?_⟩ <;> dsimp only
      · rw [if_neg (by omega), if_neg (by omega), f0]
      · rw [if_neg (by omega), if_neg (by omega), f1, if_neg e]
  · by_cases e : i = k
    · subst e
      rw [hx]
      simp only [if_true]
      exact hj2.same fun b hb => ⟨⟨by omega, by rw [set2_size]; exact hb.2⟩, set2_far _ _ _ _ _ _ (by omega)⟩
    · simp only [if_neg e]
      exact (hj i (by omega)).same fun b hb => ⟨⟨hb.1, by rw [set2_size]; omega⟩, by rw [set2_far _ _ _ _ _ _ (by omega)]; exact hb2.block b hb.2⟩
  · by_cases e : i = k
    · subst e
      simp only [if_true]
      show OwnS _ _ _ (xs.getD i default).words.length
      rw [hx]
      exact ho2.away (fun b hb => ⟨by omega, by rw [set2_size]; exact hb.2⟩) (fun b hb => set2_far _ _ _ _ _ _ (by omega))
    · simp only [if_neg e]
      exact (ho i (by omega)).away (fun b hb => ⟨hb.1, by rw [set2_size]; omega⟩) (fun b hb => by rw [set2_far _ _ _ _ _ _ (by omega)]; exact hb2.block b hb.2)
  · have hb3 : Below W.heap.size W w2 := hN.trans (hb2.mono (by omega))
    exact (hb3.setCell (by simp) _).setCell (by simp) _
set_option maxHeartbeats 1000000 in
theorem toT_own (B : Nat) (w0 : World) (ns : List (List UInt8)) (v : Value) (h : TxtsIn (· < B) w0 v ns) (hsz : ns.length ≤ 1048576) (W : World) (hb : Below B w0 W) (hB : B ≤ W.heap.size) :
    Calls Tryz.prog 30 #[v] W (NewTO W ns) := by
  have h' := h.blw hb
  obtain ⟨a, cap, b, off, rfl, hcap, hm, hlen, ha, hc⟩ := h'
  have HC := Lib.hid hc
  have HL := Lib.hid hlen
  have HA := Lib.hid ha
  clear hc hlen ha h hb
  have hmk := fun w => run_make_row' (P := Tryz.prog) 22 9 (.string ByteArray.empty) 16 Tryz.underlying22 Tryz.infoTxt rfl .i64 .i64 ns.length (by omega) (by omega) w
  have HR0 := Lib.hid (World.rowIs_made W (.string ByteArray.empty) ns.length 9)
  have HB0 := Lib.hid ((Below.refl W.heap.size W).alloc (Nat.le_refl _) (.cells (madeCells #[.string ByteArray.empty] ns.length) 9))
  go_enter Tryz.func30, Tryz.ntmps30
  go_wp2
  go_loopw [4] (fun i wr => ∃ (k : Nat), k ≤ ns.length ∧ i = .int .i64 k ∧ wr.rowIs W.heap.size 9 ns.length (txtF ns k) ∧ Below W.heap.size W wr) (fun i _ => ns.length - (intOf i).toNat)
  case atStart => exact ⟨0, by omega, rfl, HR0.out.congr (fun i _ => by simp [txtF]), HB0.out⟩
  case round =>
    obtain ⟨k, hk, rfl, hR, hN⟩ := hrel
    by_cases hlt : k < ns.length
    · obtain ⟨ea, hlb⟩ := HA.out (by omega)
      subst ea
      have q0 := (hN.cell (p := ⟨b, off + k, none⟩) (Nat.lt_of_lt_of_le hlb hB)).trans (HC.out k hlt)
      have q1 := hR.cell hlt
      have q2 := hR.frozen k
      have hR' := Lib.hid ((hR.set k (.string ⟨(ns.getD k []).toArray⟩)).congr (fun j _ => txtF_step ns k j))
      have hN' := Lib.hid (hN.setCell (p := ⟨W.heap.size, k, none⟩) (Nat.le_refl _) (.string ⟨(ns.getD k []).toArray⟩))
      clear hR hN
      generalize ns.getD k [] = t at *
      generalize txtF ns k k = z at *
      go_wp2
      go_roundw
      case rel => exact ⟨k + 1, by omega, by go_num, hR'.out, hN'.out⟩
      case measure => simp [intOf]; omega
    · obtain rfl : k = ns.length := by omega
      have hF : NewTO W ns (.returned (.slice (some ⟨W.heap.size, 0, none⟩) ns.length ns.length)) wr := by
        exact newTO_of (newTxts_of (Nat.le_refl _) (by omega) HL.out hR (fun i hi => by simp [txtF, hi]) hN) hR hR.lt
      go_wp2
      go_ret
      exact hF
set_option maxHeartbeats 1000000 in
theorem toRl_own (B : Nat) (w0 : World) (r : Rl) (v : Value) (h : TxtsIn (· < B) w0 v r.words) (hsz : r.words.length ≤ 1048576) (W : World) (hb : Below B w0 W) (hB : B ≤ W.heap.size) :
    Calls Tryz.prog 63 #[rV r v] W (NewRO W r) := by
  obtain ⟨n, ns⟩ := r
  have TT := Lib.hid (toT_own B w0 ns v h hsz)
  have HB := Lib.hid hb
  obtain ⟨a1, l1, c1, rfl⟩ := h.slice
  clear h hb
  go_enter Tryz.func63, Tryz.ntmps63
  go_wp2_with fail
  have k1 := alloc3_1 W (.cells #[.string ⟨n.toArray⟩, .slice a1 l1 c1] 86) (.cells #[.string ⟨#[]⟩, .slice none 0 0] 68) (.cells #[.string ⟨n.toArray⟩, .slice none 0 0] 68)
  have k2 := alloc3_2 W (.cells #[.string ⟨n.toArray⟩, .slice a1 l1 c1] 86) (.cells #[.string ⟨#[]⟩, .slice none 0 0] 68) (.cells #[.string ⟨n.toArray⟩, .slice none 0 0] 68)
  have hb3 : Below W.heap.size W (((W.alloc (.cells #[.string ⟨n.toArray⟩, .slice a1 l1 c1] 86)).alloc (.cells #[.string ⟨#[]⟩, .slice none 0 0] 68)).alloc (.cells #[.string ⟨n.toArray⟩, .slice none 0 0] 68)) := (((Below.refl _ _).alloc (Nat.le_refl _) _).alloc (by simp) _).alloc (by simp; omega) _
  have z3 : W.heap.size + 3 = (((W.alloc (.cells #[.string ⟨n.toArray⟩, .slice a1 l1 c1] 86)).alloc (.cells #[.string ⟨#[]⟩, .slice none 0 0] 68)).alloc (.cells #[.string ⟨n.toArray⟩, .slice none 0 0] 68)).heap.size := by simp
  generalize (((W.alloc (.cells #[.string ⟨n.toArray⟩, .slice a1 l1 c1] 86)).alloc (.cells #[.string ⟨#[]⟩, .slice none 0 0] 68)).alloc (.cells #[.string ⟨n.toArray⟩, .slice none 0 0] 68)) = w3 at *
  refine (TT.out w3 (HB.out.trans (hb3.mono hB)) (by omega)).mono ?_
  rintro e w4 ⟨v4, rfl, ht4, hb4, ho4⟩
  obtain ⟨a4, l4, c4, rfl⟩ := ht4.slice
  have z4 := hb4.size
  have k1' := (hb4.block _ (by omega)).trans k1
  have k2' := (hb4.block _ (by omega)).trans k2
  obtain ⟨m10, m11, m1f⟩ := two_cells k1'
  obtain ⟨m20, m21, m2f⟩ := two_cells k2'
  have hfin : (set2 (w4.setCell ⟨W.heap.size + 1 + 1, 1, none⟩ (.slice a4 l4 c4)) (W.heap.size + 1) 0 (.string ⟨n.toArray⟩) (.slice a4 l4 c4)).heap[W.heap.size + 1]? = some (.cells #[.string ⟨n.toArray⟩, .slice a4 l4 c4] 68 (0, 0)) :=
    heap_set (heap_set ((heap_setCell_other _ ⟨W.heap.size + 1 + 1, 1, none⟩ _ _ (by simp)).trans k1') 0 (.string ⟨n.toArray⟩)) 1 (.slice a4 l4 c4)
  have HFIN := Lib.hid hfin
  have hown := ho4.away (S' := fun b => W.heap.size ≤ b ∧ b < (set2 (w4.setCell ⟨W.heap.size + 1 + 1, 1, none⟩ (.slice a4 l4 c4)) (W.heap.size + 1) 0 (.string ⟨n.toArray⟩) (.slice a4 l4 c4)).heap.size) (w' := set2 (w4.setCell ⟨W.heap.size + 1 + 1, 1, none⟩ (.slice a4 l4 c4)) (W.heap.size + 1) 0 (.string ⟨n.toArray⟩) (.slice a4 l4 c4)) (fun b hb => ⟨by omega, by rw [set2_size]; simpa using hb.2⟩) (fun b hb => (show (set2 (w4.setCell ⟨W.heap.size + 1 + 1, 1, none⟩ (.slice a4 l4 c4)) (W.heap.size + 1) 0 (.string ⟨n.toArray⟩) (.slice a4 l4 c4)).heap[b]? = w4.heap[b]? by
    rw [set2_far _ _ _ _ _ _ (by omega)]
    exact heap_setCell_other _ ⟨W.heap.size + 1 + 1, 1, none⟩ b _ (by simp; omega)))
  have hpost : NewRO W ⟨n, ns⟩ (.returned (rV ⟨n, ns⟩ (.slice a4 l4 c4))) (set2 (w4.setCell ⟨W.heap.size + 1 + 1, 1, none⟩ (.slice a4 l4 c4)) (W.heap.size + 1) 0 (.string ⟨n.toArray⟩) (.slice a4 l4 c4)) := by
    refine ⟨_, rfl, ht4.same fun b hb => ⟨⟨by omega, by rw [set2_size]; simpa using hb.2⟩, ?_⟩, ?_, hown⟩
    · rw [set2_far _ _ _ _ _ _ (by omega)]
      exact heap_setCell_other _ ⟨W.heap.size + 1 + 1, 1, none⟩ b _ (by simp; omega)
    · exact (((hb3.trans (hb4.mono (by omega))).setCell (by simp; omega) _).setCell (by simp) _).setCell (by simp) _
  have HP := Lib.hid hpost
  clear hfin hpost hown ho4 k1 k2 k1' k2' ht4 hb4 hb3
  go_wp2
  exact bodyPost_ret (ret_R Tryz.results63 rfl HFIN.out) rfl HP.out
set_option maxHeartbeats 1000000 in
theorem toRls_own (B : Nat) (w0 : World) (xs : List Rl) (v : Value) (h : RlIn (· < B) w0 v xs) (hsz : xs.length ≤ 1048576) (hsw : ∀ i, i < xs.length → (xs.getD i default).words.length ≤ 1048576) (W : World) (hb : Below B w0 W) (hB : B ≤ W.heap.size) :
    Calls Tryz.prog 31 #[v] W (NewRsO W xs) := by
  obtain ⟨a, cap, b, off, vs, rfl, hcap, hm, hlen, ha, hc⟩ := h
  have HC := Lib.hid hc
  have HL := Lib.hid hlen
  have HA := Lib.hid ha
  have HB := Lib.hid hb
  have HS := Lib.hid hsw
  clear hc ha hb hlen hsw
  have hmk := fun w => run_makeR xs.length hsz w
  have HR0 := Lib.hid (rRelO_start W xs)
  go_enter Tryz.func31, Tryz.ntmps31
  go_wp2
  go_loopw [4] (fun i wr => ∃ (k : Nat), k ≤ xs.length ∧ i = .int .i64 k ∧ RRelO W xs k wr) (fun i _ => xs.length - (intOf i).toNat)
  case atStart => exact ⟨0, by omega, rfl, HR0.out⟩
  case round =>
    obtain ⟨k, hk, rfl, hR⟩ := hrel
    by_cases hlt : k < xs.length
    · obtain ⟨ea, hlb⟩ := HA.out (by omega)
      subst ea
      obtain ⟨F, wn, hr, hf, hj, ho, hN⟩ := hR
      have hW : Below B w0 wr := HB.out.trans (hN.mono hB)
      obtain ⟨d0, d1, d2⟩ := HC.out k hlt
      have q0 := (hW.cell (p := ⟨b, off + k * 2, none⟩) hlb).trans d0
      have q1 := (hW.cell (p := ⟨b, off + k * 2 + 1, none⟩) hlb).trans d1
      have HK := Lib.hid (toRl_own B w0 (xs.getD k default) (vs k) d2 (HS.out k hlt) wr hW (Nat.le_trans hB hN.size))
      obtain ⟨a5, l5, c5, e5⟩ := d2.slice
      rw [e5] at q1 HK
      clear d0 d1 d2
      have HF := Lib.hid hf
      have HJ := Lib.hid hj
      have HO := Lib.hid ho
      have HN := Lib.hid hN
      have HR := Lib.hid hr
      clear hf hj ho hN hW hr
      generalize hx : xs.getD k default = x at *
      have HX := Lib.hid hx
      clear hx
      go_wp2_with fail
      refine HK.out.mono ?_
      rintro e w2 ⟨nv, rfl, hj2, hb2, ho2⟩
      obtain ⟨an, ln, cn, rfl⟩ := hj2.slice
      have z2 := hb2.size
      have hr2 := HR.out.of_block (hb2.block _ HR.out.lt)
      have p0 := hr2.cell (i := k * 2) (by omega)
      have p1 := hr2.cell (i := k * 2 + 1) (by omega)
      have pf := hr2.frozen
      have HR2 := Lib.hid hr2
      have HJ2 := Lib.hid hj2
      have HO2 := Lib.hid ho2
      have HB2 := Lib.hid hb2
      clear hr2 hj2 hb2 ho2
      go_wp2
      go_roundw
      case rel => exact ⟨k + 1, by omega, by go_num, rRelO_step HX.out HR2.out HF.out HJ.out HO.out HN.out HR.out.lt HJ2.out HO2.out HB2.out⟩
      case measure => simp [intOf]; omega
    · obtain rfl : k = xs.length := by omega
      have hF := Lib.hid (rRelO_end hR hsz HL.out)
      go_wp2
      go_ret
      exact hF.out
set_option maxRecDepth 100000 in
set_option maxHeartbeats 1000000 in
theorem toP_own (B : Nat) (w0 : World) (p : Pl) (uv rv : Value) (hu : TxtsIn (· < B) w0 uv p.uris) (hr : RlIn (· < B) w0 rv p.rules) (hsu : p.uris.length ≤ 1048576) (hsr : p.rules.length ≤ 1048576) (hsw : ∀ i, i < p.rules.length → (p.rules.getD i default).words.length ≤ 1048576) (W : World) (hb : Below B w0 W) (hB : B ≤ W.heap.size) :
    Calls Tryz.prog 8 #[pV p uv rv] W (NewPO W p) := by
  obtain ⟨n, us, xs⟩ := p
  simp only at hu hr hsu hsr hsw
  have TU := Lib.hid (toT_own B w0 us uv hu hsu)
  have TR := Lib.hid (toRls_own B w0 xs rv hr hsr hsw)
  have HB := Lib.hid hb
  obtain ⟨a1, l1, c1, rfl⟩ := hu.slice
  obtain ⟨a2, l2, c2, rfl⟩ := hr.slice
  clear hu hr hb hsw
  go_enter Tryz.func8, Tryz.ntmps8
  go_wp2_with fail
  have k1 := alloc3_1 W (.cells #[.string ⟨n.toArray⟩, .slice a1 l1 c1, .slice a2 l2 c2] 25) (.cells #[.string ⟨#[]⟩, .slice none 0 0, .slice none 0 0] 34) (.cells #[.string ⟨n.toArray⟩, .slice none 0 0, .slice none 0 0] 34)
  have k2 := alloc3_2 W (.cells #[.string ⟨n.toArray⟩, .slice a1 l1 c1, .slice a2 l2 c2] 25) (.cells #[.string ⟨#[]⟩, .slice none 0 0, .slice none 0 0] 34) (.cells #[.string ⟨n.toArray⟩, .slice none 0 0, .slice none 0 0] 34)
  have k0 := alloc3_0 W (.cells #[.string ⟨n.toArray⟩, .slice a1 l1 c1, .slice a2 l2 c2] 25) (.cells #[.string ⟨#[]⟩, .slice none 0 0, .slice none 0 0] 34) (.cells #[.string ⟨n.toArray⟩, .slice none 0 0, .slice none 0 0] 34)
  have hb3 : Below W.heap.size W (((W.alloc (.cells #[.string ⟨n.toArray⟩, .slice a1 l1 c1, .slice a2 l2 c2] 25)).alloc (.cells #[.string ⟨#[]⟩, .slice none 0 0, .slice none 0 0] 34)).alloc (.cells #[.string ⟨n.toArray⟩, .slice none 0 0, .slice none 0 0] 34)) := (((Below.refl _ _).alloc (Nat.le_refl _) _).alloc (by simp) _).alloc (by simp; omega) _
  have z3 : W.heap.size + 3 = (((W.alloc (.cells #[.string ⟨n.toArray⟩, .slice a1 l1 c1, .slice a2 l2 c2] 25)).alloc (.cells #[.string ⟨#[]⟩, .slice none 0 0, .slice none 0 0] 34)).alloc (.cells #[.string ⟨n.toArray⟩, .slice none 0 0, .slice none 0 0] 34)).heap.size := by simp
  generalize (((W.alloc (.cells #[.string ⟨n.toArray⟩, .slice a1 l1 c1, .slice a2 l2 c2] 25)).alloc (.cells #[.string ⟨#[]⟩, .slice none 0 0, .slice none 0 0] 34)).alloc (.cells #[.string ⟨n.toArray⟩, .slice none 0 0, .slice none 0 0] 34)) = w3 at *
  refine (TU.out w3 (HB.out.trans (hb3.mono hB)) (by omega)).mono ?_
  rintro e w4 ⟨v4, rfl, ht4, hb4, ho4⟩
  obtain ⟨a4, l4, c4, rfl⟩ := ht4.slice
  have z4 := hb4.size
  have k1' := (hb4.block _ (by omega)).trans k1
  have k2' := (hb4.block _ (by omega)).trans k2
  have k0' := (hb4.block _ (by omega)).trans k0
  obtain ⟨m00, m01, m02, m0f⟩ := three_cells k0'
  obtain ⟨m20, m21, m22, m2f⟩ := three_cells k2'
  have hf0 : (w4.setCell ⟨W.heap.size + 1 + 1, 1, none⟩ (.slice a4 l4 c4)).heap[W.heap.size]? = _ := (heap_setCell_other _ ⟨W.heap.size + 1 + 1, 1, none⟩ _ _ (by simp; omega)).trans k0'
  have hf1 : (w4.setCell ⟨W.heap.size + 1 + 1, 1, none⟩ (.slice a4 l4 c4)).heap[W.heap.size + 1]? = _ := (heap_setCell_other _ ⟨W.heap.size + 1 + 1, 1, none⟩ _ _ (by simp)).trans k1'
  have hf2 : (w4.setCell ⟨W.heap.size + 1 + 1, 1, none⟩ (.slice a4 l4 c4)).heap[W.heap.size + 1 + 1]? = _ := heap_set k2' 1 (.slice a4 l4 c4)
  have hB4 : Below W.heap.size W (w4.setCell ⟨W.heap.size + 1 + 1, 1, none⟩ (.slice a4 l4 c4)) := (hb3.trans (hb4.mono (by omega))).setCell (by simp; omega) _
  have ht5 : TxtsIn (fun b => w3.heap.size ≤ b ∧ b < (w4.setCell ⟨W.heap.size + 1 + 1, 1, none⟩ (.slice a4 l4 c4)).heap.size) (w4.setCell ⟨W.heap.size + 1 + 1, 1, none⟩ (.slice a4 l4 c4)) (.slice a4 l4 c4) us :=
    ht4.same fun b hb => ⟨⟨hb.1, by simpa using hb.2⟩, heap_setCell_other _ ⟨W.heap.size + 1 + 1, 1, none⟩ b _ (by simp; omega)⟩
  have ho5 := ho4.away (S' := fun b => w3.heap.size ≤ b ∧ b < (w4.setCell ⟨W.heap.size + 1 + 1, 1, none⟩ (.slice a4 l4 c4)).heap.size) (w' := w4.setCell ⟨W.heap.size + 1 + 1, 1, none⟩ (.slice a4 l4 c4)) (fun b hb => ⟨hb.1, by simpa using hb.2⟩) (fun b hb => heap_setCell_other _ ⟨W.heap.size + 1 + 1, 1, none⟩ b _ (by simp; omega))
  have HO5 := Lib.hid ho5
  clear ho4 ho5
  have z5 : w4.heap.size = (w4.setCell ⟨W.heap.size + 1 + 1, 1, none⟩ (.slice a4 l4 c4)).heap.size := by simp
  have HF0 := Lib.hid hf0
  have HF1 := Lib.hid hf1
  have HF2 := Lib.hid hf2
  have HB4 := Lib.hid hB4
  have HT5 := Lib.hid ht5
  clear k0 k1 k2 k0' k1' k2' ht4 hb4 hb3 hf0 hf1 hf2 hB4 ht5
  go_wp2_with fail
  generalize w4.setCell ⟨W.heap.size + 1 + 1, 1, none⟩ (.slice a4 l4 c4) = w5 at *
  refine (TR.out w5 (HB.out.trans (HB4.out.mono hB)) (by omega)).mono ?_
  rintro e w6 ⟨v6, rfl, ht6, hb6, ho6⟩
  obtain ⟨a6, l6, c6, rfl⟩ := ht6.slice
  have z6 := hb6.size
  have k1' := (hb6.block _ (by omega)).trans HF1.out
  have k2' := (hb6.block _ (by omega)).trans HF2.out
  obtain ⟨p10, p11, p12, p1f⟩ := three_cells k1'
  obtain ⟨p20, p21, p22, p2f⟩ := three_cells k2'
  have hfin : (set3 (w6.setCell ⟨W.heap.size + 1 + 1, 2, none⟩ (.slice a6 l6 c6)) (W.heap.size + 1) 0 (.string ⟨n.toArray⟩) (.slice a4 l4 c4) (.slice a6 l6 c6)).heap[W.heap.size + 1]? = some (.cells #[.string ⟨n.toArray⟩, .slice a4 l4 c4, .slice a6 l6 c6] 34 (0, 0)) :=
    heap_set (heap_set (heap_set ((heap_setCell_other _ ⟨W.heap.size + 1 + 1, 2, none⟩ _ _ (by simp)).trans k1') 0 (.string ⟨n.toArray⟩)) 1 (.slice a4 l4 c4)) 2 (.slice a6 l6 c6)
  have HFIN := Lib.hid hfin
  have far : ∀ b, w3.heap.size ≤ b → (set3 (w6.setCell ⟨W.heap.size + 1 + 1, 2, none⟩ (.slice a6 l6 c6)) (W.heap.size + 1) 0 (.string ⟨n.toArray⟩) (.slice a4 l4 c4) (.slice a6 l6 c6)).heap[b]? = w6.heap[b]? := fun b hb => by
    rw [set3_far _ _ _ _ _ _ _ (by omega)]
    exact heap_setCell_other _ ⟨W.heap.size + 1 + 1, 2, none⟩ b _ (by simp; omega)
  have hpost : NewPO W ⟨n, us, xs⟩ (.returned (pV ⟨n, us, xs⟩ (.slice a4 l4 c4) (.slice a6 l6 c6))) (set3 (w6.setCell ⟨W.heap.size + 1 + 1, 2, none⟩ (.slice a6 l6 c6)) (W.heap.size + 1) 0 (.string ⟨n.toArray⟩) (.slice a4 l4 c4) (.slice a6 l6 c6)) := by
    refine ⟨_, _, rfl, HT5.out.same fun b hb => ⟨⟨by omega, by rw [set3_size]; simp; omega⟩, (far b hb.1).trans (hb6.block b hb.2)⟩, ht6.same fun b hb => ⟨⟨by omega, by rw [set3_size]; simpa using hb.2⟩, far b (by omega)⟩, ?_, HO5.out.away (fun b hb => ⟨by omega, by rw [set3_size]; simp; omega⟩) (fun b hb => (far b hb.1).trans (hb6.block b hb.2)), ho6.away (fun b hb => ⟨by omega, by rw [set3_size]; simpa using hb.2⟩) (fun b hb => far b (by omega))⟩
    exact ((((HB4.out.trans (hb6.mono (by omega))).setCell (by simp; omega) _).setCell (by simp) _).setCell (by simp) _).setCell (by simp) _
  have HP := Lib.hid hpost
  clear hfin hpost k1' k2' ht6 hb6 ho6 far m00 m01 m02 m0f m20 m21 m22 m2f
  go_wp2
  exact bodyPost_ret (ret_P Tryz.results8 rfl HFIN.out) rfl HP.out
end Go.Proofs.YtmdplphjbgghoaaGreatDoor.Mk
namespace Go.Proofs.YtmdplphjbgghoaaGreatDoor.Mk
open Go.RowKit
open Go.Proofs.YtmdplphjbgghoaaGreatDoor.Po
open Go.Proofs.YtmdplphjbgghoaaGreatDoor.Tx hiding ret_b ret_i
/-- w' is w but for what lies in S, and the rows of texts and of rules are such rows still -/
structure Marked (S : Nat → Prop) (w w' : World) : Prop where
  os : w'.os = w.os
  tape : w'.tape = w.tape
  output : w'.output = w.output
  size : w.heap.size ≤ w'.heap.size
  block : ∀ k, k < w.heap.size → ¬ S k → w'.heap[k]? = w.heap[k]?
  srow : ∀ g n, SRow w g n → SRow w' g n
  rrow : ∀ g n vs, RRow w g n vs → RRow w' g n vs
theorem row_lt {w : World} {g n : Nat} {t : TypeId} {f : Nat → Value} (h : w.rowIs g t n f) : g < w.heap.size := h.lt
theorem Marked.refl (S : Nat → Prop) (w : World) : Marked S w w := ⟨rfl, rfl, rfl, Nat.le_refl _, fun _ _ _ => rfl, fun _ _ h => h, fun _ _ _ h => h⟩
theorem Marked.trans {S : Nat → Prop} {a b c : World} (h : Marked S a b) (k : Marked S b c) : Marked S a c :=
  ⟨k.os.trans h.os, k.tape.trans h.tape, k.output.trans h.output, Nat.le_trans h.size k.size, fun i hi hs => (k.block i (Nat.lt_of_lt_of_le hi h.size) hs).trans (h.block i hi hs), fun g n hh => k.srow g n (h.srow g n hh), fun g n vs hh => k.rrow g n vs (h.rrow g n vs hh)⟩
theorem Marked.below {S : Nat → Prop} {a b : World} (h : Below a.heap.size a b) : Marked S a b :=
  ⟨h.os, h.tape, h.output, h.size, fun i hi _ => h.block i hi, fun g _ ⟨f, hf⟩ => ⟨f, rowIs_at hf (h.block g hf.lt)⟩, fun g _ _ ⟨F, hF, hv⟩ => ⟨F, rowIs_at hF (h.block g hF.lt), hv⟩⟩
theorem rowIs_type {w : World} {g n m : Nat} {t u : TypeId} {f f' : Nat → Value} (h : w.rowIs g t n f) (h' : w.rowIs g u m f') : t = u := by
  obtain ⟨c, h1, _⟩ := h
  obtain ⟨c', h2, _⟩ := h'
  rw [h1] at h2
  simp only [Option.some.injEq, Obj.cells.injEq] at h2
  exact h2.2.1
theorem Marked.text {S : Nat → Prop} {w : World} {g n k : Nat} (h : SRow w g n) (hS : S g) (v : Value) : Marked S w (w.setCell ⟨g, k, none⟩ v) := by
  obtain ⟨f, hf⟩ := h
  refine ⟨rfl, rfl, rfl, by simp [World.setCell], fun i hi hs => Below.heap_setCell _ _ _ _ (by intro e; subst e; exact hs hS), fun g' m ⟨f', hf'⟩ => ?_, fun g' m vs ⟨F, hF, hv⟩ => ?_⟩
  · by_cases e : g' = g
    · subst e; exact ⟨_, hf'.set k v⟩
    · exact ⟨f', rowIs_at hf' (Below.heap_setCell _ _ _ _ e)⟩
  · by_cases e : g' = g
    · subst e; exact absurd (rowIs_type hf hF) (by decide)
    · exact ⟨F, rowIs_at hF (Below.heap_setCell _ _ _ _ e), hv⟩
theorem Marked.name {S : Nat → Prop} {w : World} {g n k : Nat} {vs : Nat → Value} (h : RRow w g n vs) (hS : S g) (v : Value) : Marked S w (w.setCell ⟨g, k * 2, none⟩ v) := by
  obtain ⟨F0, hF0, _⟩ := h
  refine ⟨rfl, rfl, rfl, by simp [World.setCell], fun i hi hs => Below.heap_setCell _ _ _ _ (by intro e; subst e; exact hs hS), fun g' m ⟨f', hf'⟩ => ?_, fun g' m vs' ⟨F, hF, hv⟩ => ?_⟩
  · by_cases e : g' = g
    · subst e; exact absurd (rowIs_type hf' hF0) (by decide)
    · exact ⟨f', rowIs_at hf' (Below.heap_setCell _ _ _ _ e)⟩
  · by_cases e : g' = g
    · subst e
      refine ⟨_, hF.set (k * 2) v, fun i hi => ?_⟩
      rw [if_neg (by omega)]
      exact hv i hi
    · exact ⟨F, rowIs_at hF (Below.heap_setCell _ _ _ _ e), hv⟩
theorem OwnS.marked {S : Nat → Prop} {w w' : World} {v : Value} {n : Nat} (h : OwnS S w v n) (hm : Marked S w w') : OwnS S w' v n := by
  obtain ⟨g, e, hg, hr⟩ := h
  exact ⟨g, e, hg, hm.srow g n hr⟩
set_option maxRecDepth 100000 in
set_option maxHeartbeats 1000000 in
theorem markSs_any (S : Nat → Prop) (v : Value) (n k : Nat) (w : World) (h : OwnS S w v n) (hk : 0 < k) (hb : k + n ≤ 4611686018427387904) :
    Calls Tryz.prog 36 #[v, .int .i64 (k : Int)] w fun e w' => e = .returned (.int .i64 ((k + n : Nat) : Int)) ∧ Marked S w w' := by
  obtain ⟨g, rfl, hg, hr⟩ := h
  have HR := Lib.hid hr
  have HG := Lib.hid hg
  clear hr hg
  go_enter Tryz.func36, Tryz.ntmps36
  go_wp2
  go_loopw [1, 5] (fun kv iv wr => ∃ i : Nat, i ≤ n ∧ iv = .int .i64 i ∧ kv = .int .i64 ((k + i : Nat) : Int) ∧ Marked S w wr) (fun _ iv _ => n - (intOf iv).toNat)
  case atStart => exact ⟨0, by omega, rfl, rfl, Marked.refl _ _⟩
  case round =>
    obtain ⟨i, hi, rfl, rfl, hM⟩ := hrel
    have HM := Lib.hid hM
    clear hM
    by_cases hlt : i < n
    · have HT := Lib.hid (markText_any (k + i) (by omega) (by omega) wr)
      generalize mkT (k + i) = tx at *
      go_wp2_with fail
      refine HT.out.mono ?_
      rintro e w1 ⟨rfl, hb1⟩
      have hM1 := HM.out.trans (Marked.below (S := S) hb1)
      have hr1 := hM1.srow g n HR.out
      obtain ⟨f, hf⟩ := hr1
      have q0 := hf.cell hlt
      have qf := hf.frozen i
      have HM2 := Lib.hid (hM1.trans (Marked.text (k := i) ⟨f, hf⟩ HG.out (.string ⟨tx.toArray⟩)))
      clear hb1 hM1 hf
      generalize f i = z at *
      go_wp2
      go_roundw
      case rel => exact ⟨i + 1, by omega, by go_num, by go_num, HM2.out⟩
      case measure => simp [intOf]; omega
    · obtain rfl : i = n := by omega
      go_wp2
      go_ret
      exact ⟨rfl, HM.out⟩
set_option maxRecDepth 100000 in
set_option maxHeartbeats 1000000 in
theorem markRs_any (S : Nat → Prop) (v : Value) (n k : Nat) (ns : Nat → Nat) (w : World) (h : OwnR S w v n ns) (hk : 0 < k) (hk2 : k ≤ 1048578) (hn : n ≤ 1048576) (hns : ∀ i, i < n → ns i ≤ 1048576) :
    Calls Tryz.prog 37 #[v, .int .i64 (k : Int)] w fun e w' => ∃ k' : Nat, e = .returned (.int .i64 (k' : Int)) ∧ Marked S w w' := by
  obtain ⟨g, vs, rfl, hg, hr, ho⟩ := h
  have HR := Lib.hid hr
  have HG := Lib.hid hg
  have HO := Lib.hid ho
  have HNS := Lib.hid hns
  clear hr hg ho hns
  go_enter Tryz.func37, Tryz.ntmps37
  go_wp2
  go_loopw [1, 5] (fun kv iv wr => ∃ i q : Nat, i ≤ n ∧ iv = .int .i64 i ∧ kv = .int .i64 (q : Int) ∧ 0 < q ∧ q ≤ 1048578 + i * 1048577 ∧ Marked S w wr) (fun _ iv _ => n - (intOf iv).toNat)
  case atStart => exact ⟨0, k, by omega, rfl, rfl, hk, by omega, Marked.refl _ _⟩
  case round =>
    obtain ⟨i, q, hi, rfl, rfl, hq, hq2, hM⟩ := hrel
    have HM := Lib.hid hM
    have hin : i * 1048577 ≤ 1048576 * 1048577 := Nat.mul_le_mul_right _ (by omega)
    clear hM
    by_cases hlt : i < n
    · have HT := Lib.hid (markText_any q hq (by omega) wr)
      generalize mkT q = tx at *
      go_wp2_with fail
      refine HT.out.mono ?_
      rintro e w1 ⟨rfl, hb1⟩
      have hM1 := HM.out.trans (Marked.below (S := S) hb1)
      have hr1 := hM1.rrow g n vs HR.out
      obtain ⟨F, hF, hv⟩ := hr1
      have q0 := hF.cell (i := i * 2) (by omega)
      have qf := hF.frozen (i * 2)
      have hM2 := hM1.trans (Marked.name (k := i) ⟨F, hF, hv⟩ HG.out (.string ⟨tx.toArray⟩))
      have HM2 := Lib.hid hM2
      obtain ⟨F2, hF2, hv2⟩ := hM2.rrow g n vs HR.out
      have p1 := hF2.cell (i := i * 2 + 1) (by omega)
      rw [hv2 i hlt] at p1
      have HO2 := Lib.hid ((HO.out i hlt).marked hM2)
      have HNI := Lib.hid (HNS.out i hlt)
      have hni := HNS.out i hlt
      obtain ⟨gw, ew, -, -⟩ := HO.out i hlt
      rw [ew] at p1
      have HO2' := Lib.hid (ew ▸ HO2.out)
      clear hb1 hM1 hF hv hF2 hv2 hM2 HO2 ew
      generalize F (i * 2) = z at *
      generalize ns i = m at *
      have HMS := Lib.hid (fun (W : World) (h : OwnS S W (.slice (some ⟨gw, 0, none⟩) m m) m) => markSs_any S _ m (q + 1) W h (by omega) (by omega))
      go_wp2_with fail
      generalize w1.setCell ⟨g, i * 2, none⟩ (.string ⟨tx.toArray⟩) = w2 at *
      refine (HMS.out w2 HO2'.out).mono ?_
      rintro e w3 ⟨rfl, hm3⟩
      have HM3 := Lib.hid (HM2.out.trans hm3)
      clear hm3 p1
      go_wp2
      go_roundw
      case rel => exact ⟨i + 1, q + 1 + m, by omega, by go_num, by go_num, by omega, by omega, HM3.out⟩
      case measure => simp [intOf]; omega
    · obtain rfl : i = n := by omega
      go_wp2
      go_ret
      exact ⟨q, rfl, HM.out⟩
set_option maxRecDepth 100000 in
set_option maxHeartbeats 1000000 in
theorem markP_any (S : Nat → Prop) (p : Pl) (uv rv : Value) (nu n : Nat) (ns : Nat → Nat) (w : World) (h : OwnS S w uv nu) (h2 : OwnR S w rv n ns) (hS : ∀ b, S b → b < w.heap.size) (hnu : nu ≤ 1048576) (hn : n ≤ 1048576) (hns : ∀ i, i < n → ns i ≤ 1048576) :
    Calls Tryz.prog 12 #[pV p uv rv, .int .i64 1] w fun e w' => ∃ k' : Nat, e = .returned (.int .i64 (k' : Int)) ∧ Marked S w w' := by
  have HA := Lib.hid (fun (W : World) (hb : Below w.heap.size w W) => markSs_any S uv nu 1 W (h.away (fun _ hb => hb) (fun b hs => hb.block b (hS b hs))) (by omega) (by omega))
  have HBB := Lib.hid (fun (W W' : World) (hb : Below w.heap.size w W) (hm : Marked S W W') => markRs_any S rv n (1 + nu) ns W' (by
    have h3 := h2.away (S' := S) (w' := W) (fun _ hb => hb) (fun b hs => hb.block b (hS b hs))
    obtain ⟨g, vs, e, hg, hr, ho⟩ := h3
    exact ⟨g, vs, e, hg, hm.rrow _ _ _ hr, fun i hi => (ho i hi).marked hm⟩) (by omega) (by omega) hn hns)
  obtain ⟨g1, rfl, -, -⟩ := h
  obtain ⟨g2, vs2, rfl, -, -, -⟩ := h2
  have hnS : ¬ S w.heap.size := fun hs => Nat.lt_irrefl _ (hS _ hs)
  clear hns hS
  have K0 := heap_alloc_new w (xO p (.slice (some ⟨g1, 0, none⟩) nu nu) (.slice (some ⟨g2, 0, none⟩) n n))
  have HB0 := Lib.hid ((Below.refl w.heap.size w).alloc (Nat.le_refl _) (xO p (.slice (some ⟨g1, 0, none⟩) nu nu) (.slice (some ⟨g2, 0, none⟩) n n)))
  have HNS := Lib.hid (show ¬ S w.heap.size from hnS)
  clear hnS
  go_enter Tryz.func12, Tryz.ntmps12
  go_wp2_with fail
  refine (HA.out _ HB0.out).mono ?_
  rintro e w1 ⟨rfl, hm1⟩
  obtain ⟨m0, m1, m2, mf⟩ := three_cells ((hm1.block _ (by simp) HNS.out).trans K0)
  have HM1 := Lib.hid ((Marked.below (S := S) HB0.out).trans hm1)
  have HM1a := Lib.hid hm1
  clear hm1 K0
  go_wp2_with fail
  refine (HBB.out _ w1 HB0.out HM1a.out).mono ?_
  rintro e w2 ⟨k', rfl, hm2⟩
  have HM2 := Lib.hid (HM1.out.trans hm2)
  clear hm2
  go_wp2
  go_ret
  exact ⟨k', rfl, HM2.out⟩
end Go.Proofs.YtmdplphjbgghoaaGreatDoor.Mk
