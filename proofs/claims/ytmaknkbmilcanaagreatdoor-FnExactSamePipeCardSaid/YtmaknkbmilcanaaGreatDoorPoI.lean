
/-
  The program's functions on rules, walked: ruleNameOK, slices.ContainsFunc at isNoWord, ruleOK, firstTime and its function. The program's ruleOK, firstTime with the function that it returns, rulesOK, walked. The program's rulesOK, firstName, cleanUrls, walked.
-/
import Derived.Test.YtmaknkbmilcanaaGreatDoorPoPlain
import Derived.Test.YtmaknkbmilcanaaGreatDoorMapAt
import Derived.Laws.AppendOwn
import Derived.Laws.OwnMore
namespace Go.Proofs.YtmaknkbmilcanaaGreatDoor.Po
open Go.RowKit
open Go.Proofs.YtmaknkbmilcanaaGreatDoor.Tx
open Go.Proofs.YtmaknkbmilcanaaGreatDoor.Ul hiding ret_bool
open Go.Proofs.YtmaknkbmilcanaaGreatDoor.Cl
open Go.Proofs.YtmaknkbmilcanaaGreatDoor.Aw (nowB wordB)
open Go.Proofs.YtmaknkbmilcanaaGreatDoor.Mp
theorem rn_noI (t : List UInt8) (k : Nat) (x : UInt8) (h : k < t.length) (hx : t[k] = x) (hb : (lowB x || (x == 45 && !(k == 0))) = false) : rnB k (t.drop k) = false := by
  rw [List.drop_eq_getElem_cons h, rnB, hx, hb, Bool.false_and]
theorem rn_yesI (t : List UInt8) (k : Nat) (x : UInt8) (h : k < t.length) (hx : t[k] = x) (hb : (lowB x || (x == 45 && !(k == 0))) = true) : rnB k (t.drop k) = rnB (k + 1) (t.drop (k + 1)) := by
  rw [List.drop_eq_getElem_cons h, rnB, hx, hb, Bool.true_and]
theorem low_yesI (x : UInt8) (h1 : 97 ≤ x.toNat) (h2 : x.toNat ≤ 122) : lowB x = true := by simp [lowB, h1, h2]
theorem low_noI (x : UInt8) (h : x.toNat < 97 ∨ 122 < x.toNat) : lowB x = false := by
  unfold lowB
  rcases h with h | h
  · rw [decide_eq_false (by omega)]; rfl
  · rw [decide_eq_false (p := x.toNat ≤ 122) (by omega), Bool.and_false]
theorem dash_ofI (x : UInt8) : (x == 45) = decide (x.toNat = 45) := by
  by_cases h : x = 45
  · subst h; rfl
  · have : ¬ x.toNat = 45 := fun e => h (UInt8.toNat_inj.1 e)
    simp [h, this]
theorem nlow_yes (c : Int) (h1 : 97 ≤ c) (h2 : c ≤ 122) : Nm.lowB c = true := by simp [Nm.lowB]; omega
theorem nlow_no (c : Int) (h : c < 97 ∨ 122 < c) : Nm.lowB c = false := by simp [Nm.lowB]; omega
set_option maxRecDepth 100000 in
set_option maxHeartbeats 2000000 in
theorem nameI_any (t : List UInt8) (w : World) (hl : t.length ≤ 9223372036854775807) : Calls Tryz.prog 315 #[.string ⟨t.toArray⟩] w fun e w' => e = .returned (.bool (rnameB t)) ∧ Below w.heap.size w w' := by
  by_cases h0 : t = []
  · subst h0
    go_enter Tryz.func315, Tryz.ntmps315
    go_wp2
    go_ret
    exact ⟨rfl, Below.refl _ _⟩
  have e1 : (t == []) = false := by simpa using h0
  have hp : 1 ≤ t.length := by cases t with | nil => exact absurd rfl h0 | cons a r => simp
  by_cases h24 : 24 < t.length
  · have d1 : decide ((24 : Int) < (t.length : Int)) = true := by simp; omega
    have E := Lib.hid (show rnameB t = false by unfold rnameB; rw [decide_eq_false (by omega)]; rfl)
    go_enter Tryz.func315, Tryz.ntmps315
    go_wp2
    go_ret
    exact ⟨ret_b E.out.symm, Below.refl _ _⟩
  have d1 : decide ((24 : Int) < (t.length : Int)) = false := by simp; omega
  have HE := Lib.hid (show rnameB t = rnB 0 t by unfold rnameB; rw [decide_eq_true (by omega)]; rfl)
  have hsz : (⟨t.toArray⟩ : ByteArray).size = t.length := by simp [ByteArray.size]
  go_enter Tryz.func315, Tryz.ntmps315
  go_wp2
  go_loopw [14] (fun _ wr => ∃ k : Nat, k ≤ t.length ∧ wr = w.iter ⟨t.toArray⟩ k ∧ rnB 0 t = rnB k (t.drop k)) (fun _ wr => t.length - wr.iterPos w.heap.size)
  case atStart => exact ⟨0, by omega, rfl, rfl⟩
  case round =>
    obtain ⟨k, hk, rfl, hR⟩ := hrel
    have HR := Lib.hid hR
    clear hR
    by_cases hlt : k < t.length
    · obtain ⟨x, hx, hb⟩ := Ul.byte_at t k hlt
      have hlt2 : k < (⟨t.toArray⟩ : ByteArray).size := by omega
      have hbx := hb hlt2
      have NO := Lib.hid (rn_noI t k x hlt hx)
      have YES := Lib.hid (rn_yesI t k x hlt hx)
      by_cases ha : x.toNat < 128
      · have hnx := fun ty => run_next_ascii (P := Tryz.prog) w ⟨t.toArray⟩ k ty hlt2 (by rw [hbx]; exact ha)
        rw [hbx] at hnx
        clear hx hb hbx
        by_cases h1 : 97 ≤ x.toNat ∧ x.toNat ≤ 122
        · have F := Lib.hid (YES.out (by rw [low_yesI x h1.1 h1.2]; rfl))
          have L := Lib.hid (fun W => Nm.isLower_any (x.toNat : Int) W)
          rw [nlow_yes (x.toNat : Int) (by omega) (by omega)] at L
          clear NO YES h1
          go_wp2_with (go_at_call 325; refine (L.out _).mono ?_; rintro e w' ⟨rfl, rfl⟩)
          go_roundw
          case rel => exact ⟨k + 1, by omega, rfl, by rw [HR.out, F.out]⟩
          case measure => simp; omega
        · have hlo := low_noI x (by omega)
          have hd := dash_ofI x
          have L := Lib.hid (fun W => Nm.isLower_any (x.toNat : Int) W)
          rw [nlow_no (x.toNat : Int) (by omega)] at L
          clear h1
          by_cases h2 : x.toNat = 45
          · by_cases h3 : k = 0
            · have F := Lib.hid (NO.out (by rw [hlo, h3]; simp))
              subst h3
              clear NO YES h2 hlo hd
              go_wp2_with (go_at_call 325; refine (L.out _).mono ?_; rintro e w' ⟨rfl, rfl⟩)
              go_ret
              exact ⟨ret_b (by rw [HE.out, HR.out, F.out]), Nm.below_iter _ _ _⟩
            · have F := Lib.hid (YES.out (by rw [hlo, hd]; simp [h2, h3]))
              have d4 : ((k : Int) == 0) = false := by simp; omega
              have d3 : ((x.toNat : Int) != 45) = false := by simp [h2]
              clear NO YES h2 hlo hd
              go_wp2_with (go_at_call 325; refine (L.out _).mono ?_; rintro e w' ⟨rfl, rfl⟩)
              go_roundw
              case rel => exact ⟨k + 1, by omega, rfl, by rw [HR.out, F.out]⟩
              case measure => simp; omega
          · have F := Lib.hid (NO.out (by rw [hlo, hd]; simp [h2]))
            have d3 : ((x.toNat : Int) != 45) = true := by simp only [bne_iff_ne, ne_eq]; omega
            clear NO YES hlo hd h2
            by_cases h3 : k = 0
            · subst h3
              go_wp2_with (go_at_call 325; refine (L.out _).mono ?_; rintro e w' ⟨rfl, rfl⟩)
              go_ret
              exact ⟨ret_b (by rw [HE.out, HR.out, F.out]), Nm.below_iter _ _ _⟩
            · have d4 : ((k : Int) == 0) = false := by simp; omega
              go_wp2_with (go_at_call 325; refine (L.out _).mono ?_; rintro e w' ⟨rfl, rfl⟩)
              go_ret
              exact ⟨ret_b (by rw [HE.out, HR.out, F.out]), Nm.below_iter _ _ _⟩
      · have hnx := fun ty => run_next_any (P := Tryz.prog) w ⟨t.toArray⟩ k ty hlt2
        have hd := (decode_high ⟨t.toArray⟩ k hlt2 (by rw [hbx]; omega)).1
        have hlo := low_noI x (by omega)
        have hda := dash_ofI x
        have F := Lib.hid (NO.out (by rw [hlo, hda, decide_eq_false (by omega)]; rfl))
        generalize (Utf8.decode ⟨t.toArray⟩ k).1 = c at *
        generalize (Utf8.decode ⟨t.toArray⟩ k).2 = wd at *
        have L := Lib.hid (fun W => Nm.isLower_any (c : Int) W)
        rw [nlow_no (c : Int) (by omega)] at L
        have d3 : ((c : Int) != 45) = true := by simp only [bne_iff_ne, ne_eq]; omega
        clear NO YES hlo hda hx hb hbx ha
        by_cases h3 : k = 0
        · subst h3
          go_wp2_with (go_at_call 325; refine (L.out _).mono ?_; rintro e w' ⟨rfl, rfl⟩)
          go_ret
          exact ⟨ret_b (by rw [HE.out, HR.out, F.out]), Nm.below_iter _ _ _⟩
        · have d4 : ((k : Int) == 0) = false := by simp; omega
          go_wp2_with (go_at_call 325; refine (L.out _).mono ?_; rintro e w' ⟨rfl, rfl⟩)
          go_ret
          exact ⟨ret_b (by rw [HE.out, HR.out, F.out]), Nm.below_iter _ _ _⟩
    · obtain rfl : k = t.length := by omega
      have hnx := fun ty => run_next_end (P := Tryz.prog) w ⟨t.toArray⟩ t.length ty (by omega)
      go_wp2
      go_ret
      exact ⟨ret_b (by rw [HE.out, HR.out, List.drop_length]; rfl), Nm.below_iter _ _ _⟩
end Go.Proofs.YtmaknkbmilcanaaGreatDoor.Po
namespace Go.Proofs.YtmaknkbmilcanaaGreatDoor.Po
open Go.RowKit
open Go.Proofs.YtmaknkbmilcanaaGreatDoor.Tx
open Go.Proofs.YtmaknkbmilcanaaGreatDoor.Ul hiding ret_bool
open Go.Proofs.YtmaknkbmilcanaaGreatDoor.Cl
open Go.Proofs.YtmaknkbmilcanaaGreatDoor.Aw (nowB wordB noWord_any)
open Go.Proofs.YtmaknkbmilcanaaGreatDoor.Mp
def atW : Nat → List (List UInt8) → Int
  | _, [] => -1
  | k, x :: r => if wordB x = true then atW (k + 1) r else (k : Int)
theorem atW_drop {xs : List (List UInt8)} (k : Nat) (hx : k < xs.length) : atW k (xs.drop k) = if wordB (xs.getD k []) = true then atW (k + 1) (xs.drop (k + 1)) else (k : Int) := by
  rw [List.drop_eq_getElem_cons hx, atW]; simp [hx]
theorem atW_all : ∀ (xs : List (List UInt8)) (j : Nat), decide (0 ≤ atW j xs) = !(xs.all wordB)
  | [], _ => by simp [atW]
  | x :: r, j => by
    have ih := atW_all r (j + 1)
    cases hx : wordB x with
    | true => simp only [atW, hx, if_true, List.all_cons, Bool.true_and]; exact ih
    | false => simp [atW, hx]
abbrev nwV : Value := .func (.func 335) #[] #[]
set_option maxRecDepth 100000 in
set_option maxHeartbeats 1000000 in
theorem idxW_any (B : Nat) (w0 : World) (xs : List (List UInt8)) (v : Value) (h : TxtsIn (· < B) w0 v xs) (hl : ∀ j, j < xs.length → (xs.getD j []).length ≤ 1048576) (w : World) (hb : Below B w0 w) (hB : B ≤ w.heap.size) :
    Calls Tryz.prog 353 #[v, nwV] w fun e w' => e = .returned (.int .i64 (atW 0 xs)) ∧ Below w.heap.size w w' := by
  obtain ⟨a, cap, b, off, rfl, hcap, hm, hlen, ha, hc⟩ := h
  have hn : xs.length ≤ 9223372036854775807 := by omega
  have HC := Lib.hid hc
  have HA := Lib.hid ha
  have HB := Lib.hid hb
  have HL := Lib.hid hl
  clear hc ha hlen hb hl
  go_enter Tryz.func353, Tryz.ntmps353
  go_wp2
  go_loopw [8] (fun i wr => ∃ k : Nat, k ≤ xs.length ∧ i = .int .i64 k ∧ atW 0 xs = atW k (xs.drop k) ∧ Below w.heap.size w wr) (fun i _ => xs.length - (intOf i).toNat)
  case atStart => exact ⟨0, by omega, rfl, rfl, Below.refl _ _⟩
  case round =>
    obtain ⟨k, hk, rfl, hE, hR⟩ := hrel
    have HE := Lib.hid hE
    clear hE
    by_cases hlt : k < xs.length
    · obtain ⟨ea, hlb⟩ := HA.out (by omega)
      subst ea
      have hW := HB.out.trans (hR.mono hB)
      have q0 := (hW.cell (p := ⟨b, off + k, none⟩) hlb).trans (HC.out k hlt)
      have D := Lib.hid (atW_drop k hlt)
      have HK := Lib.hid (noWord_any (xs.getD k []) (Nat.lt_of_le_of_lt (HL.out k hlt) (by omega)) wr)
      have HR := Lib.hid hR
      clear hW hR
      generalize xs.getD k [] = x at *
      generalize wordB x = c at *
      go_wp2_with fail
      refine HK.out.mono ?_
      rintro e w1 ⟨rfl, hb1⟩
      have D1 := Lib.hid (belI_step HR.out hb1)
      clear hb1 q0
      cases c with
      | false =>
        go_wp2
        go_ret
        exact ⟨ret_i (by rw [HE.out, D.out]; rfl), D1.out⟩
      | true =>
        go_wp2
        go_roundw
        case rel => exact ⟨k + 1, by omega, by go_num, by rw [HE.out, D.out]; simp, D1.out⟩
        case measure => simp [intOf]; omega
    · go_wp2
      go_ret
      obtain rfl : k = xs.length := by omega
      exact ⟨ret_i (by rw [HE.out, List.drop_length]; rfl), hR⟩
set_option maxRecDepth 100000 in
theorem contW_any (B : Nat) (w0 : World) (xs : List (List UInt8)) (v : Value) (h : TxtsIn (· < B) w0 v xs) (hl : ∀ j, j < xs.length → (xs.getD j []).length ≤ 1048576) (w : World) (hb : Below B w0 w) (hB : B ≤ w.heap.size) :
    Calls Tryz.prog 334 #[v, nwV] w fun e w' => e = .returned (.bool (!(xs.all wordB))) ∧ Below w.heap.size w w' := by
  have HI := Lib.hid (idxW_any B w0 xs v h hl w hb hB)
  have E := Lib.hid (atW_all xs 0)
  obtain ⟨a1, l1, cc1, rfl⟩ := h.slice
  clear h hb hl
  generalize atW 0 xs = ai at *
  go_enter Tryz.func334, Tryz.ntmps334
  go_wp2_with fail
  refine HI.out.mono ?_
  rintro e w1 ⟨rfl, hb1⟩
  have hE := E.out
  go_wp2
  go_ret
  exact ⟨ret_b (by rw [← hE]), hb1⟩
set_option maxRecDepth 100000 in
set_option maxHeartbeats 1000000 in
theorem ruleI_any (B : Nat) (w0 : World) (r : Rl) (v : Value) (h : TxtsIn (· < B) w0 v r.words) (hn : r.name.length ≤ 1048576) (hl : ∀ j, j < r.words.length → (r.words.getD j []).length ≤ 1048576) (w : World) (hb : Below B w0 w) (hB : B ≤ w.heap.size) :
    Calls Tryz.prog 279 #[rV r v] w fun e w' => e = .returned (.bool (rlB r)) ∧ Below w.heap.size w w' := by
  obtain ⟨nm, ws⟩ := r
  simp only at h hn hl
  have HC := Lib.hid (fun (W : World) h1 h2 => contW_any B w0 ws v h hl W h1 h2)
  have HN := Lib.hid (fun W => nameI_any nm W (by omega))
  obtain ⟨a, cap, b, off, rfl, hcap, hm, -, -, -⟩ := h
  have HB := Lib.hid hb
  have RA : rlB ⟨nm, ws⟩ = ((rnameB nm && decide (ws.length ≤ 8)) && ws.all wordB) := rfl
  rw [RA]
  clear hb hl RA
  generalize rnameB nm = nb at *
  generalize ws.all wordB = wb at *
  go_enter Tryz.func279, Tryz.ntmps279
  go_wp2_with fail
  refine (HN.out _).mono ?_
  rintro e w1 ⟨rfl, hb1⟩
  obtain ⟨m0, m1, mf⟩ := two_cells ((hb1.block w.heap.size (by simp)).trans (heap_alloc_new w (.cells #[.string ⟨nm.toArray⟩, .slice a ws.length cap] 205)))
  have HF := Lib.hid (((Below.refl w.heap.size w).alloc (Nat.le_refl _) (.cells #[.string ⟨nm.toArray⟩, .slice a ws.length cap] 205)).trans (hb1.mono (by simp)))
  have z1 := HF.out.size
  clear hb1
  cases nb
  · go_wp2
    go_ret
    exact ⟨rfl, HF.out⟩
  by_cases h8 : ws.length ≤ 8
  · have d8 : decide ((ws.length : Int) ≤ 8) = true := by simp; omega
    have e8 := Lib.hid (decide_eq_true h8)
    clear h8
    go_wp2_with fail
    refine (HC.out w1 (HB.out.trans (HF.out.mono hB)) (by omega)).mono ?_
    rintro e w2 ⟨rfl, hb2⟩
    have HF2 := Lib.hid (belI_step HF.out hb2)
    clear hb2
    go_wp2
    go_ret
    exact ⟨ret_b (by rw [e8.out]; cases wb <;> rfl), HF2.out⟩
  · have d8 : decide ((ws.length : Int) ≤ 8) = false := by simp; omega
    have e8 := Lib.hid (decide_eq_false h8)
    clear h8
    go_wp2
    go_ret
    exact ⟨ret_b (by rw [e8.out]; rfl), HF.out⟩
/-! ### What has been seen -/
abbrev cloV (g : Nat) : Value := .func (.func 282) #[] #[.pointer (some ⟨g, 0, none⟩)]
/-- the function that firstTime returns: its variable g holds the map b, in which f is what has been seen -/
def Seen (w : World) (g b n : Nat) (f : List UInt8 → Bool) : Prop :=
  w.heap[g]? = some (.cells #[.map (some b)] 313 (0, 0)) ∧ OMap w b n (.bool false) (fun t => .bool (f t)) ∧ g ≠ b
theorem Seen.later {w w' : World} {g b n : Nat} {f : List UInt8 → Bool} (h : Seen w g b n f) (hb : Below w.heap.size w w') : Seen w' g b n f :=
  ⟨(hb.block _ (Array.getElem?_eq_some_iff.1 h.1).1).trans h.1, h.2.1.below hb h.2.1.lt, h.2.2⟩
theorem Seen.congr {w : World} {g b n : Nat} {f f' : List UInt8 → Bool} (h : Seen w g b n f) (e : ∀ t, f t = f' t) : Seen w g b n f' :=
  ⟨h.1, h.2.1.congr (fun t => by rw [e t]), h.2.2⟩
set_option maxRecDepth 100000 in
theorem first_any (w : World) : Calls Tryz.prog 211 #[] w fun e w' => e = .returned (cloV (w.heap.size + 1)) ∧ Seen w' (w.heap.size + 1) w.heap.size 0 (fun _ => false) ∧ Below w.heap.size w w' := by
  have hmm := @run_makeMap Tryz.prog
  have hf : Seen ((w.alloc (.map #[] 0)).alloc (.cells #[.map (some w.heap.size)] 313)) (w.heap.size + 1) w.heap.size 0 (fun _ => false) :=
    ⟨heap_alloc2_new _ _ _, (OMap.made w (.bool false)).alloc _, by omega⟩
  have HF := Lib.hid hf
  clear hf
  go_enter Tryz.func211, Tryz.ntmps211
  go_wp2
  go_ret
  exact ⟨rfl, HF.out, ((Below.refl _ _).alloc (Nat.le_refl _) _).alloc (by simp) _⟩
theorem seen_key (x t : List UInt8) (f : List UInt8 → Bool) : (if t = x then Value.bool true else Value.bool (f t)) = Value.bool (if t = x then true else f t) := by split <;> rfl
set_option maxRecDepth 100000 in
set_option maxHeartbeats 1000000 in
theorem clo_any (x : List UInt8) (hx : x.length ≤ 9223372036854775807) (w : World) (g b n : Nat) (f : List UInt8 → Bool) (h : Seen w g b n f) (hn : n < 9223372036854775807) :
    Calls Tryz.prog 282 #[.string ⟨x.toArray⟩, .pointer (some ⟨g, 0, none⟩)] w fun e w' => e = .returned (.bool (!f x)) ∧ Seen w' g b (n + 1) (fun t => if t = x then true else f t) ∧ w.grownBy w' (some b) := by
  obtain ⟨h1, h2, h3⟩ := h
  have q0 : w.cell? ⟨g, 0, none⟩ = some (.map (some b)) := cell_of_row _ _ 0 _ _ _ h1
  have hlg := (Array.getElem?_eq_some_iff.1 h1).1
  have H1 := Lib.hid h1
  have H2 := Lib.hid h2
  clear h1 h2
  have hz : ∀ W, (zeroValue 4).run Tryz.prog W = .ok (.bool false) W := fun W => by kernel_rfl
  go_enter Tryz.func282, Tryz.ntmps282
  go_wp2_with (first
    | (at_lookup; refine wpList_look rfl _ rfl _ _ 313 rfl 4 Tryz.underlying313 (hz _) rfl H2.out x rfl hx ?_)
    | (at_mapUpdate; refine wpList_store rfl _ rfl _ _ _ 313 rfl 4 Tryz.underlying313 rfl H2.out hn x _ rfl rfl hx ?_; intro w' hm hg))
  go_ret
  exact ⟨rfl, ⟨(hg.block g hlg (by intro e; cases e; exact h3 rfl)).trans H1.out, hm.congr (fun t => seen_key x t f), h3⟩, hg⟩
end Go.Proofs.YtmaknkbmilcanaaGreatDoor.Po
namespace Go.Proofs.YtmaknkbmilcanaaGreatDoor.Po
open Go.RowKit
open Go.Proofs.YtmaknkbmilcanaaGreatDoor.Tx
open Go.Proofs.YtmaknkbmilcanaaGreatDoor.Ul hiding ret_bool
open Go.Proofs.YtmaknkbmilcanaaGreatDoor.Cl
open Go.Proofs.YtmaknkbmilcanaaGreatDoor.Aw (nowB wordB noWord_any)
open Go.Proofs.YtmaknkbmilcanaaGreatDoor.Mp
theorem hasN_step {xs : List Rl} {k : Nat} (hk : k < xs.length) (t : List UInt8) : hasN (xs.take (k + 1)) t = if t = (xs.getD k default).name then true else hasN (xs.take k) t := by
  have e : xs.take (k + 1) = xs.take k ++ [xs[k]] := by rw [List.take_add_one, List.getElem?_eq_getElem hk]; rfl
  have e2 : xs.getD k default = xs[k] := by simp [hk]
  rw [e, e2]
  unfold hasN
  rw [List.any_append]
  by_cases h : t = xs[k].name
  · rw [if_pos h]; subst h; simp
  · rw [if_neg h]
    have : (xs[k].name == t) = false := by simpa using fun e => h e.symm
    simp [this]
set_option maxRecDepth 100000 in
set_option maxHeartbeats 2000000 in
theorem rulesI_any (B : Nat) (w0 : World) (xs : List Rl) (v : Value) (h : RlIn (· < B) w0 v xs) (hx : xs.length ≤ 1048576) (hn : ∀ i, i < xs.length → (xs.getD i default).name.length ≤ 1048576)
    (hw : ∀ i, i < xs.length → (xs.getD i default).words.length ≤ 1048576 ∧ ∀ j, j < (xs.getD i default).words.length → ((xs.getD i default).words.getD j []).length ≤ 1048576) (W : World) (hb : Below B w0 W) (hB : B ≤ W.heap.size) :
    Calls Tryz.prog 209 #[v] W fun e w' => e = .returned (.bool (rlsB [] xs)) ∧ Below W.heap.size W w' := by
  obtain ⟨a, cap, b, off, vs, rfl, hcap, hm, hlen, ha, hc⟩ := h
  have HC := Lib.hid hc
  have HA := Lib.hid ha
  have HB := Lib.hid hb
  have HW := Lib.hid hw
  have HN := Lib.hid hn
  clear hc ha hlen hb hw hn
  go_enter Tryz.func209, Tryz.ntmps209
  go_wp2_with fail
  refine (first_any W).mono ?_
  rintro e w1 ⟨rfl, hS1, hb1⟩
  have HS1 := Lib.hid hS1
  have HB1 := Lib.hid hb1
  clear hS1 hb1
  go_wp2
  go_loopw [9] (fun i wr => ∃ (k n : Nat) (f : List UInt8 → Bool), k ≤ xs.length ∧ n ≤ k ∧ i = .int .i64 k ∧ rlsB [] xs = rlsB (xs.take k) (xs.drop k) ∧ Seen wr (W.heap.size + 1) W.heap.size n f ∧ (∀ t, f t = hasN (xs.take k) t) ∧ Below W.heap.size W wr) (fun i _ => xs.length - (intOf i).toNat)
  case atStart => exact ⟨0, 0, _, by omega, by omega, rfl, rfl, HS1.out, fun t => rfl, HB1.out⟩
  case round =>
    obtain ⟨k, n, f, hk, hnk, rfl, hE, hS, hf, hR⟩ := hrel
    have HE := Lib.hid hE
    have HS := Lib.hid hS
    have HF := Lib.hid hf
    have hW : Below B w0 wr := HB.out.trans (hR.mono hB)
    have hzr := hR.size
    have HR := Lib.hid hR
    clear hE hS hf hR
    by_cases hlt : k < xs.length
    · obtain ⟨ea, hlb⟩ := HA.out (by omega)
      subst ea
      obtain ⟨c0, c1, T1⟩ := HC.out k hlt
      have q0 := (hW.cell (p := ⟨b, off + k * 2, none⟩) hlb).trans c0
      have q1 := (hW.cell (p := ⟨b, off + k * 2 + 1, none⟩) hlb).trans c1
      have TD := Lib.hid (rlsB_drop k hlt)
      have HST := Lib.hid (hasN_step hlt)
      have hnl := HN.out k hlt
      have HRU := Lib.hid (fun (W' : World) (h : Below wr.heap.size wr W') => ruleI_any B w0 (xs.getD k default) (vs k) T1 hnl (HW.out k hlt).2 W' (hW.trans (h.mono (by omega))) (by have := h.size; omega))
      obtain ⟨a5, l5, c5, e5⟩ := T1.slice
      rw [e5] at q1 HRU
      have hd2 : b < wr.heap.size := by omega
      clear c0 c1 T1 e5 hW
      generalize xs.getD k default = x at *
      obtain ⟨nm, ws⟩ := x
      simp only at *
      generalize rlB ⟨nm, ws⟩ = rb at *
      have HFx := HF.out nm
      have FF := Lib.hid (show ∀ t, (if t = nm then true else f t) = hasN (xs.take (k + 1)) t from fun t => by rw [HST.out t, HF.out t])
      generalize hasN (xs.take k) nm = hh at *
      have HBR := Lib.hid (fun (o : Obj) => (Below.refl wr.heap.size wr).alloc (Nat.le_refl _) o)
      go_wp2_with fail
      refine (HRU.out _ (HBR.out _)).mono ?_
      rintro e w2 ⟨rfl, hb2⟩
      obtain ⟨x0, x1, xf⟩ := two_cells ((hb2.block wr.heap.size (by simp)).trans (heap_alloc_new wr (.cells #[.string ⟨nm.toArray⟩, .slice a5 l5 c5] 205)))
      have hbw2 : Below wr.heap.size wr w2 := (HBR.out _).trans (hb2.mono (by simp))
      have HB2 := Lib.hid (belI_step HR.out hbw2)
      have HS2 := Lib.hid (HS.out.later hbw2)
      have hz2 : W.heap.size ≤ w2.heap.size := HB2.out.size
      clear hb2 hbw2 HBR HRU
      cases rb
      · go_wp2
        go_ret
        exact ⟨ret_b (by rw [HE.out, TD.out]; simp), HB2.out⟩
      · go_wp2_with fail
        refine (clo_any nm (by omega) w2 _ _ n f HS2.out (by omega)).mono ?_
        rintro e w3 ⟨rfl, hS3, hg3⟩
        have HB3 := Lib.hid (below_grownM HB2.out hg3 (Nat.le_refl _) hz2)
        have HS3 := Lib.hid hS3
        rw [HFx]
        clear hS3 hg3 x0 x1 xf HS2
        cases hh
        · go_wp2
          go_roundw
          case rel => exact ⟨k + 1, n + 1, _, by omega, by omega, by go_num, by rw [HE.out, TD.out]; rfl, HS3.out, FF.out, HB3.out⟩
          case measure => simp [intOf]; omega
        · go_wp2
          go_ret
          exact ⟨ret_b (by rw [HE.out, TD.out]; simp), HB3.out⟩
    · obtain rfl : k = xs.length := by omega
      go_wp2
      go_ret
      exact ⟨ret_b (by rw [HE.out, List.drop_length]; rfl), HR.out⟩
set_option maxRecDepth 100000 in
set_option maxHeartbeats 1000000 in
theorem firstI_any (B : Nat) (w0 : World) (ws : List (List UInt8)) (v : Value) (h : TxtsIn (· < B) w0 v ws) (hl : ∀ j, j < ws.length → (ws.getD j []).length ≤ 1048576) (w : World) (hb : Below B w0 w) (hB : B ≤ w.heap.size) :
    Calls Tryz.prog 280 #[v] w fun e w' => e = .returned (.string ⟨(firstN ws).toArray⟩) ∧ Below w.heap.size w w' := by
  obtain ⟨a, cap, b, off, rfl, hcap, hm, hlen, ha, hc⟩ := h
  cases ws with
  | nil =>
    go_enter Tryz.func280, Tryz.ntmps280
    go_wp2
    go_ret
    exact ⟨rfl, Below.refl _ _⟩
  | cons y yr =>
    obtain ⟨ea, hlb⟩ := ha (by simp)
    subst ea
    have q0 := (hb.cell (p := ⟨b, off, none⟩) hlb).trans (hc 0 (by simp))
    simp only [List.getD_cons_zero] at q0
    have hy : y.length ≤ 1048576 := by have := hl 0 (by simp); simpa using this
    have HN := Lib.hid (fun W => Nm.NameOK_any ⟨y.toArray⟩ W (by simp [ByteArray.size, maxLen]; omega))
    have HFN : firstN (y :: yr) = if Nm.nameB ⟨y.toArray⟩ then y else [] := rfl
    rw [HFN]
    have d0 : (((y :: yr).length : Int) == 0) = false := by simp only [beq_eq_false_iff_ne, ne_eq, List.length_cons]; omega
    have d2 : 0 < (y :: yr).length := by simp
    have d1 : decide ((0 : Int) < ((y :: yr).length : Int)) = true := by rw [decide_eq_true_eq, List.length_cons]; omega
    have hlt : b < w.heap.size := by omega
    clear HFN hc hl ha hb hlen
    generalize Nm.nameB ⟨y.toArray⟩ = nb at *
    generalize (y :: yr).length = nn at *
    go_enter Tryz.func280, Tryz.ntmps280
    go_wp2_with fail
    refine (HN.out _).mono ?_
    rintro e w1 ⟨rfl, hb1⟩
    have q1 := (hb1.cell (p := ⟨b, off, none⟩) hlt).trans q0
    have HB1 := Lib.hid hb1
    clear hb1
    cases nb
    · go_wp2
      go_ret
      exact ⟨rfl, HB1.out⟩
    · go_wp2
      go_ret
      exact ⟨rfl, HB1.out⟩
end Go.Proofs.YtmaknkbmilcanaaGreatDoor.Po
