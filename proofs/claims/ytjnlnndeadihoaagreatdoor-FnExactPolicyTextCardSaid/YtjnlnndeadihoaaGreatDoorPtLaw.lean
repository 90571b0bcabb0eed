
/-
  PolicyText, the model's and the program's, and the law FnExactPolicyText, walked.
-/
import Derived.Test.YtjnlnndeadihoaaGreatDoorPoLaw
import Derived.Test.YtjnlnndeadihoaaGreatDoorBld
import Derived.Test.YtjnlnndeadihoaaGreatDoorShelfB
namespace Go.Proofs.YtjnlnndeadihoaaGreatDoor.Po
open Go.RowKit
open Go.Proofs.YtjnlnndeadihoaaGreatDoor.Tx
open Go.Proofs.YtjnlnndeadihoaaGreatDoor.Ul hiding ret_bool
open Go.Proofs.YtjnlnndeadihoaaGreatDoor.Aw (wordB)
open Go.Proofs.YtjnlnndeadihoaaGreatDoor.Bl (IsB Kept writeString_any)
@[local go_sem] theorem bappP (a b : List UInt8) : (⟨a.toArray⟩ : ByteArray) ++ ⟨b.toArray⟩ = ⟨(a ++ b).toArray⟩ := by
  apply ByteArray.ext; simp
theorem ret_str {a b : List UInt8} (h : a = b) : Ending.returned (.string ⟨a.toArray⟩) = .returned (.string ⟨b.toArray⟩) := by rw [h]
/-- the first j words of a rule, each behind a blank -/
def wK (ws : List (List UInt8)) : Nat → List UInt8
  | 0 => []
  | j + 1 => wK ws j ++ (32 :: ws.getD j [])
/-- what stands ahead of rule k -/
def sepK (k : Nat) : List UInt8 := if k = 0 then [] else [59, 32]
/-- the first k rules -/
def tK (xs : List Rl) : Nat → List UInt8
  | 0 => []
  | k + 1 => tK xs k ++ sepK k ++ (xs.getD k default).name ++ wK (xs.getD k default).words (xs.getD k default).words.length
theorem wK_len (ws : List (List UInt8)) (h : ∀ j, j < ws.length → (ws.getD j []).length ≤ 1048576) : ∀ j, j ≤ ws.length → (wK ws j).length ≤ j * 1048577
  | 0, _ => by simp [wK]
  | j + 1, hj => by
    have ih := wK_len ws h j (by omega)
    have := h j (by omega)
    simp only [wK, List.length_append, List.length_cons]
    omega
theorem tK_len (xs : List Rl) (hn : ∀ i, i < xs.length → (xs.getD i default).name.length ≤ 1048576) (hw : ∀ i, i < xs.length → (xs.getD i default).words.length ≤ 8 ∧ ∀ j, j < (xs.getD i default).words.length → ((xs.getD i default).words.getD j []).length ≤ 1048576) :
    ∀ k, k ≤ xs.length → (tK xs k).length ≤ k * 9437194
  | 0, _ => by simp [tK]
  | k + 1, hk => by
    have ih := tK_len xs hn hw k (by omega)
    have h1 := hn k (by omega)
    have h2 := wK_len (xs.getD k default).words (hw k (by omega)).2 _ (Nat.le_refl _)
    have h3 := (hw k (by omega)).1
    have h4 : (sepK k).length ≤ 2 := by unfold sepK; split <;> simp
    simp only [tK, List.length_append]
    have h5 : (xs.getD k default).words.length * 1048577 ≤ 8 * 1048577 := Nat.mul_le_mul_right _ h3
    omega
theorem rls_words : ∀ (xs pre : List Rl), rlsB pre xs = true → ∀ i, i < xs.length → (xs.getD i default).words.length ≤ 8
  | [], _, _, i, hi => by simp at hi
  | x :: r, pre, h, i, hi => by
    unfold rlsB at h
    simp only [Bool.and_eq_true] at h
    cases i with
    | zero =>
      have := h.1.1
      unfold rlB at this
      simp only [Bool.and_eq_true, decide_eq_true_eq] at this
      simpa using this.1.2
    | succ i => simpa using rls_words r (pre ++ [x]) h.2 i (by simpa using hi)
/-- how great the rules of an OK policy are -/
structure Fit8 (xs : List Rl) : Prop where
  len : xs.length ≤ 8
  name : ∀ i, i < xs.length → (xs.getD i default).name.length ≤ 1048576
  words : ∀ i, i < xs.length → (xs.getD i default).words.length ≤ 8 ∧ ∀ j, j < (xs.getD i default).words.length → ((xs.getD i default).words.getD j []).length ≤ 1048576
theorem fit8_of (p : Pl) (hs : Small p) (h : plB p = true) : Fit8 p.rules := by
  unfold plB at h
  simp only [Bool.and_eq_true, decide_eq_true_eq] at h
  exact ⟨h.1, hs.name, fun i hi => ⟨rls_words _ _ h.2.1 i hi, (hs.words i hi).2⟩⟩
set_option maxRecDepth 100000 in
set_option maxHeartbeats 2000000 in
theorem ltextS_any (B : Nat) (w0 : World) (p : Pl) (uv rv : Value) (hu : ∃ a l c, uv = .slice a l c) (hr : RlIn (· < B) w0 rv p.rules) (hf : Fit8 p.rules) (W : World) (hb : Below B w0 W) (hB : B ≤ W.heap.size) :
    Calls Tryz.prog 38 #[pV p uv rv] W fun e w' => e = .returned (.string ⟨(tK p.rules p.rules.length).toArray⟩) ∧ Below W.heap.size W w' := by
  obtain ⟨a1, l1, c1, rfl⟩ := hu
  obtain ⟨n, us, xs⟩ := p
  simp only at hr hf ⊢
  obtain ⟨a, cap, b, off, vs, rfl, hcap, hm, hlen, ha, hc⟩ := hr
  have HC := Lib.hid hc
  have HA := Lib.hid ha
  have HF := Lib.hid hf
  have HTL := Lib.hid (tK_len xs hf.name hf.words)
  have h8 := hf.len
  have HB1 := Lib.hid ((Below.refl W.heap.size W).alloc (Nat.le_refl _) (.cells #[.string ⟨n.toArray⟩, .slice a1 l1 c1, .slice a xs.length cap] 30))
  have HW1 := Lib.hid (hb.trans (HB1.out.mono hB))
  obtain ⟨m0, m1, m2, mf⟩ := three_cells (heap_alloc_new W (.cells #[.string ⟨n.toArray⟩, .slice a1 l1 c1, .slice a xs.length cap] 30))
  clear hc ha hlen hf hb
  go_enter Tryz.func38, Tryz.ntmps38
  go_wp2
  generalize W.alloc (.cells #[.string ⟨n.toArray⟩, .slice a1 l1 c1, .slice a xs.length cap] 30) = w1 at *
  go_loop [3, 4] (fun t i => ∃ k : Nat, k ≤ xs.length ∧ i = .int .i64 k ∧ t = .string ⟨(tK xs k).toArray⟩) (fun _ i => xs.length - (intOf i).toNat)
  case atStart => exact ⟨0, by omega, rfl, rfl⟩
  case round =>
    obtain ⟨k, hk, rfl, rfl⟩ := hrel
    have hl := HTL.out k hk
    have hl2 : k * 9437194 ≤ 8 * 9437194 := Nat.mul_le_mul_right _ (by omega)
    by_cases hlt : k < xs.length
    · obtain ⟨ea, hlb⟩ := HA.out (by omega)
      subst ea
      obtain ⟨c0, c1', T1⟩ := HC.out k hlt
      have q0 := (HW1.out.cell (p := ⟨b, off + k * 2, none⟩) hlb).trans c0
      have q1 := (HW1.out.cell (p := ⟨b, off + k * 2 + 1, none⟩) hlb).trans c1'
      obtain ⟨a5, cap5, b5, off5, e5, hcap5, hm5, hl5, ha5, hc5⟩ := T1
      rw [e5] at q1
      have HA5 := Lib.hid ha5
      have HC5 := Lib.hid hc5
      have TS := Lib.hid (show tK xs (k + 1) = tK xs k ++ sepK k ++ (xs.getD k default).name ++ wK (xs.getD k default).words (xs.getD k default).words.length from rfl)
      have hnl := HF.out.name k hlt
      have hwl := HF.out.words k hlt
      have HWL := Lib.hid (wK_len _ hwl.2)
      have hw8 := hwl.1
      have HW2 := Lib.hid hwl.2
      clear c0 c1' ha5 hc5 e5 hl5 hwl
      generalize xs.getD k default = x at *
      obtain ⟨nm, ws⟩ := x
      simp only at *
      generalize tK xs k = T at *
      have hTl : T.length ≤ 75497552 := by omega
      have b1 : ¬ 9223372036854775807 < T.length + 2 := by omega
      have b2 : ¬ 9223372036854775807 < T.length + 2 + nm.length := by omega
      have b3 : ¬ 9223372036854775807 < T.length + nm.length := by omega
      have b2' : ¬ 9223372036854775807 < T.length + (nm.length + 1 + 1) := by omega
      clear hl hl2
      by_cases h0 : k = 0
      · have d0 : decide ((0 : Int) < (k : Int)) = false := by simp [h0]
        have d0' : ¬ 0 < k := by omega
        have TSP := Lib.hid (TS.out.trans (show T ++ sepK k ++ nm ++ wK ws ws.length = (T ++ nm) ++ wK ws ws.length by rw [show sepK k = [] by simp [sepK, h0]]; simp))
        have hPl : (T ++ nm).length ≤ 100000000 := by rw [List.length_append]; omega
        clear h0 hTl
        go_wp2
        generalize (T ++ nm) = P at *
        go_loop [3, 5] (fun t i => ∃ j : Nat, j ≤ ws.length ∧ i = .int .i64 j ∧ t = .string ⟨(P ++ wK ws j).toArray⟩) (fun _ i => ws.length - (intOf i).toNat)
        case atStart => exact ⟨0, by omega, rfl, by simp [wK]⟩
        case round =>
          obtain ⟨j, hj, rfl, rfl⟩ := hrel
          have hwj := HWL.out j hj
          by_cases hlj : j < ws.length
          · obtain ⟨ea5, hlb5⟩ := HA5.out (by omega)
            subst ea5
            have q2 := (HW1.out.cell (p := ⟨b5, off5 + j, none⟩) hlb5).trans (HC5.out j hlj)
            have hyl := HW2.out j hlj
            have WS := Lib.hid (show wK ws (j + 1) = wK ws j ++ (32 :: ws.getD j []) from rfl)
            generalize ws.getD j [] = y at *
            generalize wK ws j = V at *
            have hjm : j * 1048577 ≤ 8 * 1048577 := Nat.mul_le_mul_right _ (by omega)
            have b4 : ¬ 9223372036854775807 < y.length + 1 := by omega
            have b4' : ¬ 9223372036854775807 < 1 + y.length := by omega
            have b5 : ¬ 9223372036854775807 < P.length + V.length + (y.length + 1) := by omega
            clear hjm hwj hyl
            go_wp2
            go_round
            case rel => exact ⟨j + 1, by omega, by go_num, by rw [WS.out]; try simp⟩
            case measure => simp [intOf]; omega
          · obtain rfl : j = ws.length := by omega
            go_wp2
            go_round
            case rel => exact ⟨k + 1, by omega, by go_num, by rw [TSP.out]⟩
            case measure => simp [intOf]; omega
      · have d0 : decide ((0 : Int) < (k : Int)) = true := by simp; omega
        have d0' : 0 < k := by omega
        have TSP := Lib.hid (TS.out.trans (show T ++ sepK k ++ nm ++ wK ws ws.length = (T ++ 59 :: 32 :: nm) ++ wK ws ws.length by rw [show sepK k = [59, 32] by simp [sepK, h0]]; simp))
        have hPl : (T ++ 59 :: 32 :: nm).length ≤ 100000000 := by simp only [List.length_append, List.length_cons]; omega
        clear h0 hTl
        go_wp2
        generalize (T ++ 59 :: 32 :: nm) = P at *
        go_loop [3, 5] (fun t i => ∃ j : Nat, j ≤ ws.length ∧ i = .int .i64 j ∧ t = .string ⟨(P ++ wK ws j).toArray⟩) (fun _ i => ws.length - (intOf i).toNat)
        case atStart => exact ⟨0, by omega, rfl, by simp [wK]⟩
        case round =>
          obtain ⟨j, hj, rfl, rfl⟩ := hrel
          have hwj := HWL.out j hj
          by_cases hlj : j < ws.length
          · obtain ⟨ea5, hlb5⟩ := HA5.out (by omega)
            subst ea5
            have q2 := (HW1.out.cell (p := ⟨b5, off5 + j, none⟩) hlb5).trans (HC5.out j hlj)
            have hyl := HW2.out j hlj
            have WS := Lib.hid (show wK ws (j + 1) = wK ws j ++ (32 :: ws.getD j []) from rfl)
            generalize ws.getD j [] = y at *
            generalize wK ws j = V at *
            have hjm : j * 1048577 ≤ 8 * 1048577 := Nat.mul_le_mul_right _ (by omega)
            have b4 : ¬ 9223372036854775807 < y.length + 1 := by omega
            have b4' : ¬ 9223372036854775807 < 1 + y.length := by omega
            have b5 : ¬ 9223372036854775807 < P.length + V.length + (y.length + 1) := by omega
            clear hjm hwj hyl
            go_wp2
            go_round
            case rel => exact ⟨j + 1, by omega, by go_num, by rw [WS.out]; try simp⟩
            case measure => simp [intOf]; omega
          · obtain rfl : j = ws.length := by omega
            go_wp2
            go_round
            case rel => exact ⟨k + 1, by omega, by go_num, by rw [TSP.out]⟩
            case measure => simp [intOf]; omega
    · obtain rfl : k = xs.length := by omega
      go_wp2
      go_ret
      exact ⟨rfl, HB1.out⟩
def ptT (p : Pl) : List UInt8 := if plB p then tK p.rules p.rules.length else []
def ptC (p : Pl) : Int := if plB p then 0 else 1
set_option maxRecDepth 100000 in
set_option maxHeartbeats 1000000 in
theorem ptextS_any (B : Nat) (w0 : World) (p : Pl) (uv rv : Value) (hu : TxtsIn (· < B) w0 uv p.uris) (hr : RlIn (· < B) w0 rv p.rules) (hs : Small p) (W : World) (hb : Below B w0 W) (hB : B ≤ W.heap.size) :
    Calls Tryz.prog 15 #[pV p uv rv] W fun e w' => e = .returned (.tuple #[.string ⟨(ptT p).toArray⟩, .int .i64 (ptC p)]) ∧ Below W.heap.size W w' := by
  have HK := Lib.hid (fun W' h1 h2 => okS_any B w0 p uv rv hu hr hs.rules hs.name hs.words W' h1 h2)
  have hus := hu.slice
  have HFF := Lib.hid (fun (hp : plB p = true) (W' : World) h1 h2 => ltextS_any B w0 p uv rv hus hr (fit8_of p hs hp) W' h1 h2)
  obtain ⟨a1, l1, cu, rfl⟩ := hus
  obtain ⟨a2, l2, c2, rfl⟩ := hr.slice
  have HB := Lib.hid hb
  clear hu hr hs hb
  obtain ⟨r, hrr⟩ : ∃ r, plB p = r := ⟨_, rfl⟩
  rw [hrr] at HK
  have e1 : ptT p = if r then tK p.rules p.rules.length else [] := by rw [← hrr]; rfl
  have e2 : ptC p = if r then 0 else 1 := by rw [← hrr]; rfl
  rw [e1, e2]
  clear e1 e2
  obtain ⟨tt, htt⟩ : ∃ t, tK p.rules p.rules.length = t := ⟨_, rfl⟩
  rw [htt]
  rw [htt] at HFF
  clear htt
  have HK5 := heap_alloc_new W (xO p (.slice a1 l1 cu) (.slice a2 l2 c2))
  have HB1 := Lib.hid ((Below.refl W.heap.size W).alloc (Nat.le_refl _) (xO p (.slice a1 l1 cu) (.slice a2 l2 c2)))
  go_enter Tryz.func15, Tryz.ntmps15
  go_wp2_with fail
  refine (HK.out _ (HB.out.alloc hB _) (by simp; omega)).mono ?_
  rintro e w1 ⟨rfl, hb1⟩
  obtain ⟨m0, m1, m2, mf⟩ := three_cells ((hb1.block _ (by simp)).trans HK5)
  have HF := Lib.hid (below_chain HB1.out hb1)
  have z1 := HF.out.size
  clear hb1 HK5 HK
  cases r
  · clear HFF
    go_wp2
    exact bodyPost_ret (v := .tuple #[.string ⟨#[]⟩, .int .i64 1]) (by simp [results, Tryz.results15, go_sem]) rfl ⟨rfl, HF.out⟩
  · go_wp2_with fail
    refine (HFF.out hrr _ (HB.out.trans (HF.out.mono hB)) (by omega)).mono ?_
    rintro e w2 ⟨rfl, hb2⟩
    have HF2 := Lib.hid (below_chain HF.out hb2)
    clear hb2
    go_wp2
    exact bodyPost_ret (v := .tuple #[.string ⟨tt.toArray⟩, .int .i64 0]) (by simp [results, Tryz.results15, go_sem]) rfl ⟨rfl, HF2.out⟩
theorem below_bel {B : Nat} {a w w' : World} (h : Below B a w) (hb : Below w.heap.size w w') (hB : B ≤ w.heap.size) : Below B a w' := h.trans (hb.mono hB)
theorem isB_bel {B b : Nat} {l : List UInt8} {w : World} (o : Obj) (h : IsB B b l w) : IsB B b l (w.alloc o) := h.alloc o
set_option maxRecDepth 100000 in
set_option maxHeartbeats 2000000 in
theorem ptextI_any (B : Nat) (w0 : World) (p : Pl) (uv rv : Value) (hu : TxtsIn (· < B) w0 uv p.uris) (hr : RlIn (· < B) w0 rv p.rules) (hs : Small p) (W : World) (hb : Below B w0 W) (hB : B ≤ W.heap.size) (hT : Tab W) (hM : MaxL W) :
    Calls Tryz.prog 16 #[pV p uv rv] W fun e w' => e = .returned (.tuple #[.string ⟨(ptT p).toArray⟩, .int .i64 (ptC p)]) ∧ Below W.heap.size W w' := by
  have HK := Lib.hid (fun W' h1 h2 h3 h4 => polI_any B w0 p uv rv hu hr hs W' h1 h2 h3 h4)
  have HFIT := Lib.hid (fun (hp : plB p = true) => fit8_of p hs hp)
  obtain ⟨a1, l1, cu, rfl⟩ := hu.slice
  have HB := Lib.hid hb
  have HT := Lib.hid hT
  have HM := Lib.hid hM
  clear hu hs hb hT hM
  obtain ⟨n, us, xs⟩ := p
  simp only at hr
  obtain ⟨a, cap, b, off, vs, rfl, hcap, hm, hlen, ha, hc⟩ := hr
  have HC := Lib.hid hc
  have HA := Lib.hid ha
  obtain ⟨r, hrr⟩ : ∃ r, plB ⟨n, us, xs⟩ = r := ⟨_, rfl⟩
  rw [hrr] at HK HFIT
  have e1 : ptT ⟨n, us, xs⟩ = if r then tK xs xs.length else [] := by rw [← hrr]; rfl
  have e2 : ptC ⟨n, us, xs⟩ = if r then 0 else 1 := by rw [← hrr]; rfl
  rw [e1, e2]
  clear e1 e2 hrr hc ha hlen
  have HK5 := heap_alloc_new W (.cells #[.string ⟨n.toArray⟩, .slice a1 l1 cu, .slice a xs.length cap] 30)
  have HB1 := Lib.hid ((Below.refl W.heap.size W).alloc (Nat.le_refl _) (.cells #[.string ⟨n.toArray⟩, .slice a1 l1 cu, .slice a xs.length cap] 30))
  go_enter Tryz.func16, Tryz.ntmps16
  go_wp2_with fail
  refine (HK.out _ (HB.out.alloc hB _) (by simp; omega) (HT.out.below HB1.out) (HM.out.below HB1.out)).mono ?_
  rintro e w1 ⟨rfl, hb1⟩
  have k1 := (hb1.block _ (by simp)).trans HK5
  obtain ⟨m0, m1, m2, mf⟩ := three_cells k1
  have HK1 := Lib.hid k1
  have HF := Lib.hid (below_chain HB1.out hb1)
  have z1 : W.heap.size < w1.heap.size := by have := hb1.size; simp at this; omega
  clear hb1 HK5 HK k1
  cases r
  · go_wp2
    exact bodyPost_ret (v := .tuple #[.string ⟨#[]⟩, .int .i64 1]) (by simp [results, Tryz.results16, go_sem]) rfl ⟨rfl, HF.out⟩
  · have hf := HFIT.out (by first | rfl | trivial)
    have HFT := Lib.hid hf
    have HTL := Lib.hid (tK_len xs hf.name hf.words)
    have h8 := hf.len
    have HI0 := Lib.hid (IsB.fresh w1)
    have HBB := Lib.hid ((Below.refl w1.heap.size w1).alloc (Nat.le_refl _) (.cells #[.pointer none, .slice none 0 0] 60))
    have hz0 : w1.heap.size ≤ (w1.alloc (.cells #[.pointer none, .slice none 0 0] 60)).heap.size := by simp
    clear hf HFIT
    go_wp2
    generalize w1.alloc (.cells #[.pointer none, .slice none 0 0] 60) = w2 at *
    go_loopw [15] (fun i wr => ∃ k : Nat, k ≤ xs.length ∧ i = .int .i64 k ∧ IsB w1.heap.size w1.heap.size (tK xs k) wr ∧ Below w1.heap.size w1 wr) (fun i _ => xs.length - (intOf i).toNat)
    case atStart => exact ⟨0, by omega, rfl, HI0.out, HBB.out⟩
    case round =>
      obtain ⟨k, hk, rfl, hI, hR⟩ := hrel
      have HI := Lib.hid hI
      have HR := Lib.hid hR
      have hzr := hR.size
      have hl := HTL.out k hk
      have hl2 : k * 9437194 ≤ 8 * 9437194 := Nat.mul_le_mul_right _ (by omega)
      clear hI hR
      by_cases hlt : k < xs.length
      · obtain ⟨ea, hlb⟩ := HA.out (by omega)
        subst ea
        have hW : Below B w0 wr := HB.out.trans ((HF.out.mono hB).trans (HR.out.mono (by omega)))
        obtain ⟨c0, c1', T1⟩ := HC.out k hlt
        have q0 := (hW.cell (p := ⟨b, off + k * 2, none⟩) hlb).trans c0
        have q1 := (hW.cell (p := ⟨b, off + k * 2 + 1, none⟩) hlb).trans c1'
        obtain ⟨a5, cap5, b5, off5, e5, hcap5, hm5, hl5, ha5, hc5⟩ := T1
        rw [e5] at q1
        have HA5 := Lib.hid ha5
        have HC5 := Lib.hid hc5
        have TS := Lib.hid (show tK xs (k + 1) = tK xs k ++ sepK k ++ (xs.getD k default).name ++ wK (xs.getD k default).words (xs.getD k default).words.length from rfl)
        have hnl := HFT.out.name k hlt
        have hwl := HFT.out.words k hlt
        have HWL := Lib.hid (wK_len _ hwl.2)
        have hw8 := hwl.1
        have HW2 := Lib.hid hwl.2
        clear c0 c1' ha5 hc5 e5 hl5 hwl hW
        generalize xs.getD k default = x at *
        obtain ⟨nm, ws⟩ := x
        simp only at *
        generalize tK xs k = T at *
        have hTl : T.length ≤ 75497552 := by omega
        have HX := Lib.hid (heap_alloc_new wr (.cells #[.string ⟨nm.toArray⟩, .slice a5 ws.length cap5] 62))
        have HI1 := Lib.hid (HI.out.alloc (.cells #[.string ⟨nm.toArray⟩, .slice a5 ws.length cap5] 62))
        have HR1 := Lib.hid (HR.out.alloc hzr (.cells #[.string ⟨nm.toArray⟩, .slice a5 ws.length cap5] 62))
        have hz1 : wr.heap.size < (wr.alloc (.cells #[.string ⟨nm.toArray⟩, .slice a5 ws.length cap5] 62)).heap.size := by simp
        have hrne : wr.heap.size ≠ w1.heap.size := by have := HI.out.lt; omega
        have hd2 : b < wr.heap.size := by have := HF.out.size; omega
        obtain ⟨x0, x1, xf⟩ := two_cells HX.out
        clear hl hl2
        by_cases h0 : k = 0
        · have d0 : decide ((0 : Int) < (k : Int)) = false := by simp [h0]
          have d0' : ¬ 0 < k := by omega
          have TSP := Lib.hid (TS.out.trans (show T ++ sepK k ++ nm ++ wK ws ws.length = (T ++ nm) ++ wK ws ws.length by rw [show sepK k = [] by simp [sepK, h0]]; simp))
          have hPl : (T ++ nm).length ≤ 100000000 := by rw [List.length_append]; omega
          clear h0
          go_wp2_with fail
          refine (writeString_any w1.heap.size w1.heap.size T nm _ HI1.out (by omega) (by simp; omega)).mono ?_
          rintro e w5 ⟨rfl, hI5, hb5, hk5⟩
          have HIN := Lib.hid hI5
          have HRN := Lib.hid (HR1.out.trans hb5)
          obtain ⟨x0, x1, xf⟩ := two_cells (hk5 _ _ HX.out hrne (fun C => by intro e; cases e))
          clear hI5 hb5 hk5
          go_wp2
          generalize (T ++ nm) = P at *
          go_loopw [29] (fun i wr => ∃ j : Nat, j ≤ ws.length ∧ i = .int .i64 j ∧ IsB w1.heap.size w1.heap.size (P ++ wK ws j) wr ∧ Below w1.heap.size w1 wr) (fun i _ => ws.length - (intOf i).toNat)
          case atStart => exact ⟨0, by omega, rfl, by simpa [wK] using HIN.out, HRN.out⟩
          case round =>
            obtain ⟨j, hj, rfl, hIv, hRv⟩ := hrel
            have HIV := Lib.hid hIv
            have HRV := Lib.hid hRv
            have hzv := hRv.size
            have hwj := HWL.out j hj
            clear hIv hRv
            by_cases hlj : j < ws.length
            · obtain ⟨ea5, hlb5⟩ := HA5.out (by omega)
              subst ea5
              have hWv : Below B w0 wr := HB.out.trans ((HF.out.mono hB).trans (HRV.out.mono (by omega)))
              have q2 := (hWv.cell (p := ⟨b5, off5 + j, none⟩) hlb5).trans (HC5.out j hlj)
              have hyl := HW2.out j hlj
              have WS := Lib.hid (show wK ws (j + 1) = wK ws j ++ (32 :: ws.getD j []) from rfl)
              clear hWv
              generalize ws.getD j [] = y at *
              generalize wK ws j = V at *
              have hjm : j * 1048577 ≤ 8 * 1048577 := Nat.mul_le_mul_right _ (by omega)
              have b4 : ¬ 9223372036854775807 < y.length + 1 := by omega
              have b4' : ¬ 9223372036854775807 < 1 + y.length := by omega
              have HWR := Lib.hid (writeString_any w1.heap.size w1.heap.size (P ++ V) (32 :: y) wr HIV.out (by simp only [List.length_append, List.length_cons]; omega) hzv)
              clear hjm hwj hyl
              go_wp2_with fail
              refine HWR.out.mono ?_
              rintro e w7 ⟨rfl, hI7, hb7, -⟩
              have HI7 := Lib.hid (show IsB w1.heap.size w1.heap.size (P ++ wK ws (j + 1)) w7 by rw [WS.out]; simpa using hI7)
              have HR7 := Lib.hid (HRV.out.trans hb7)
              clear hI7 hb7
              go_wp2
              go_roundw
              case rel => exact ⟨j + 1, by omega, by go_num, HI7.out, HR7.out⟩
              case measure => simp [intOf]; omega
            · obtain rfl : j = ws.length := by omega
              have HIE := Lib.hid (show IsB w1.heap.size w1.heap.size (tK xs (k + 1)) wr by rw [TSP.out]; exact HIV.out)
              go_wp2
              go_roundw
              case rel => exact ⟨k + 1, by omega, by go_num, HIE.out, HRV.out⟩
              case measure => simp [intOf]; omega
        · have d0 : decide ((0 : Int) < (k : Int)) = true := by simp; omega
          have d0' : 0 < k := by omega
          have TSP := Lib.hid (TS.out.trans (show T ++ sepK k ++ nm ++ wK ws ws.length = (T ++ [59, 32] ++ nm) ++ wK ws ws.length by rw [show sepK k = [59, 32] by simp [sepK, h0]]))
          have hPl : (T ++ [59, 32] ++ nm).length ≤ 100000000 := by simp only [List.length_append, List.length_cons, List.length_nil]; omega
          clear h0
          go_wp2_with fail
          refine (writeString_any w1.heap.size w1.heap.size T [59, 32] _ HI1.out (by simp only [List.length_cons, List.length_nil]; omega) (by simp; omega)).mono ?_
          rintro e w4 ⟨rfl, hI4, hb4, hk4⟩
          have HI4 := Lib.hid hI4
          have HR4 := Lib.hid (HR1.out.trans hb4)
          have HX4 := Lib.hid (hk4 _ _ HX.out hrne (fun C => by intro e; cases e))
          obtain ⟨y0, y1, yf⟩ := two_cells HX4.out
          have hz4 := HR4.out.size
          clear hI4 hb4 hk4
          go_wp2_with fail
          refine (writeString_any w1.heap.size w1.heap.size (T ++ [59, 32]) nm w4 HI4.out (by simp only [List.length_append, List.length_cons, List.length_nil]; omega) hz4).mono ?_
          rintro e w5 ⟨rfl, hI5, hb5, hk5⟩
          have HIN := Lib.hid hI5
          have HRN := Lib.hid (HR4.out.trans hb5)
          obtain ⟨z0', z1', zf'⟩ := two_cells (hk5 _ _ HX4.out hrne (fun C => by intro e; cases e))
          clear hI5 hb5 hk5
          go_wp2
          generalize (T ++ [59, 32] ++ nm) = P at *
          go_loopw [29] (fun i wr => ∃ j : Nat, j ≤ ws.length ∧ i = .int .i64 j ∧ IsB w1.heap.size w1.heap.size (P ++ wK ws j) wr ∧ Below w1.heap.size w1 wr) (fun i _ => ws.length - (intOf i).toNat)
          case atStart => exact ⟨0, by omega, rfl, by simpa [wK] using HIN.out, HRN.out⟩
          case round =>
            obtain ⟨j, hj, rfl, hIv, hRv⟩ := hrel
            have HIV := Lib.hid hIv
            have HRV := Lib.hid hRv
            have hzv := hRv.size
            have hwj := HWL.out j hj
            clear hIv hRv
            by_cases hlj : j < ws.length
            · obtain ⟨ea5, hlb5⟩ := HA5.out (by omega)
              subst ea5
              have hWv : Below B w0 wr := HB.out.trans ((HF.out.mono hB).trans (HRV.out.mono (by omega)))
              have q2 := (hWv.cell (p := ⟨b5, off5 + j, none⟩) hlb5).trans (HC5.out j hlj)
              have hyl := HW2.out j hlj
              have WS := Lib.hid (show wK ws (j + 1) = wK ws j ++ (32 :: ws.getD j []) from rfl)
              clear hWv
              generalize ws.getD j [] = y at *
              generalize wK ws j = V at *
              have hjm : j * 1048577 ≤ 8 * 1048577 := Nat.mul_le_mul_right _ (by omega)
              have b4 : ¬ 9223372036854775807 < y.length + 1 := by omega
              have b4' : ¬ 9223372036854775807 < 1 + y.length := by omega
              have HWR := Lib.hid (writeString_any w1.heap.size w1.heap.size (P ++ V) (32 :: y) wr HIV.out (by simp only [List.length_append, List.length_cons]; omega) hzv)
              clear hjm hwj hyl
              go_wp2_with fail
              refine HWR.out.mono ?_
              rintro e w7 ⟨rfl, hI7, hb7, -⟩
              have HI7 := Lib.hid (show IsB w1.heap.size w1.heap.size (P ++ wK ws (j + 1)) w7 by rw [WS.out]; simpa using hI7)
              have HR7 := Lib.hid (HRV.out.trans hb7)
              clear hI7 hb7
              go_wp2
              go_roundw
              case rel => exact ⟨j + 1, by omega, by go_num, HI7.out, HR7.out⟩
              case measure => simp [intOf]; omega
            · obtain rfl : j = ws.length := by omega
              have HIE := Lib.hid (show IsB w1.heap.size w1.heap.size (tK xs (k + 1)) wr by rw [TSP.out]; exact HIV.out)
              go_wp2
              go_roundw
              case rel => exact ⟨k + 1, by omega, by go_num, HIE.out, HRV.out⟩
              case measure => simp [intOf]; omega
      · obtain rfl : k = xs.length := by omega
        have HSTR := Lib.hid (Tryz.Builder_String_any w1.heap.size w1.heap.size _ wr HI.out hzr)
        go_wp2_with fail
        refine HSTR.out.mono ?_
        rintro e w9 ⟨rfl, hb9⟩
        have HF9 := Lib.hid (HF.out.trans ((HR.out.trans hb9).mono (by omega)))
        clear hb9
        go_wp2
        exact bodyPost_ret (v := .tuple #[.string ⟨(tK xs xs.length).toArray⟩, .int .i64 0]) (by simp [results, Tryz.results16, go_sem]) rfl ⟨rfl, HF9.out⟩
set_option maxRecDepth 100000 in
set_option maxHeartbeats 8000000 in
theorem policyText_in (p : Pl) (a1 : Option Addr) (l1 c1 : Nat) (a2 : Option Addr) (l2 c2 : Nat) (W : World) (hu : TxtsIn (· < W.heap.size) W (.slice a1 l1 c1) p.uris) (hr : RlIn (· < W.heap.size) W (.slice a2 l2 c2) p.rules) (hs : szP p ≤ 1048576) (hT : Tab W) (hM : MaxL W) :
    Calls Tryz.prog 5 #[pV p (.slice a1 l1 c1) (.slice a2 l2 c2)] W fun e w' => e = .returned (.bool true) ∧ Below W.heap.size W w' := by
  have sm := small_of p hs
  have HSZ := Lib.hid (fun wx hx hy => szP_any W.heap.size W p _ _ hu hr (Nat.le_trans sm.rep (by omega)) 1048576 wx hx hy (by omega) (by omega))
  rw [szR_in (by omega)] at HSZ
  have g1 : ¬ (1048576 - (szP p : Int) < 0) := by omega
  generalize 1048576 - (szP p : Int) = z at *
  have HTO := Lib.hid (fun wx hx hy => toP_any W.heap.size W p _ _ hu hr sm.uris sm.rules (fun i hi => (sm.words i hi).1) wx hx hy)
  have HT := Lib.hid hT
  have HM := Lib.hid hM
  clear hT hM
  obtain ⟨tt, htt⟩ : ∃ t, ptT p = t := ⟨_, rfl⟩
  obtain ⟨tc, htc⟩ : ∃ t, ptC p = t := ⟨_, rfl⟩
  have HOS := Lib.hid (fun (W' : World) (u v : Value) (h : TxtsIn (· < W'.heap.size) W' u p.uris) (h2 : RlIn (· < W'.heap.size) W' v p.rules) => htc ▸ htt ▸ ptextS_any W'.heap.size W' p u v h h2 sm W' (Below.refl _ _) (Nat.le_refl _))
  have HOI := Lib.hid (fun (w0 W' : World) (u v : Value) (h : TxtsIn (· < w0.heap.size) w0 u p.uris) (h1 : RlIn (· < w0.heap.size) w0 v p.rules) h2 h3 h4 h5 => htc ▸ htt ▸ ptextI_any w0.heap.size w0 p u v h h1 sm W' h2 h3 h4 h5)
  have HEQ := Lib.hid (fun (w0 : World) (u v u' v' : Value) (h1 : TxtsIn (· < w0.heap.size) w0 u p.uris) (h2 : RlIn (· < w0.heap.size) w0 v p.rules) (h3 : TxtsIn (· < w0.heap.size) w0 u' p.uris) (h4 : RlIn (· < w0.heap.size) w0 v' p.rules) => eqP_self w0.heap.size w0 p u v u' v' h1 h2 h3 h4 w0 (Below.refl _ _) (Nat.le_refl _))
  have HK1 := Lib.hid (heap_alloc_new W (aO p (.slice a1 l1 c1) (.slice a2 l2 c2)))
  have HB1 := Lib.hid ((Below.refl W.heap.size W).alloc (Nat.le_refl _) (aO p (.slice a1 l1 c1) (.slice a2 l2 c2)))
  clear htt htc hs sm hu hr
  go_enter Tryz.func5, Tryz.ntmps5
  go_wp2_with fail
  refine (HSZ.out _ HB1.out (by simp)).mono ?_
  rintro e w1 ⟨rfl, hb2⟩
  have k1 := (hb2.block _ (by simp)).trans HK1.out
  obtain ⟨m00, m01, m02, -⟩ := three_cells k1
  have K1 := Lib.hid k1
  have z1 : W.heap.size < w1.heap.size := by have := hb2.size; simp at this; omega
  have B1 := Lib.hid (below_chain HB1.out hb2)
  clear hb2 k1
  go_wp2_with fail
  refine (HTO.out w1 B1.out (by omega)).mono ?_
  rintro e w2 ⟨ua, va, rfl, hja, hka, hb2⟩
  obtain ⟨aa, la, ca, rfl⟩ := hja.slice
  obtain ⟨ab, lb, cb, rfl⟩ := hka.slice
  have K2 := Lib.hid ((hb2.block _ z1).trans K1.out)
  have z2 : W.heap.size < w2.heap.size := Nat.lt_of_lt_of_le z1 hb2.size
  have B2 := Lib.hid (below_chain B1.out hb2)
  have HOK := Lib.hid (HOS.out w2 _ _ (hja.mono fun _ hb => hb.2) (hka.mono fun _ hb => hb.2))
  clear hb2 hja hka m00 m01 m02 HOS
  go_wp2_with fail
  refine HOK.out.mono ?_
  rintro e w3 ⟨rfl, hb3⟩
  have k3 := (hb3.block _ z2).trans K2.out
  have K3 := Lib.hid k3
  obtain ⟨m00, m01, m02, -⟩ := three_cells k3
  have z3 : W.heap.size < w3.heap.size := Nat.lt_of_lt_of_le z2 hb3.size
  have B3 := Lib.hid (below_chain B2.out hb3)
  clear hb3 k3
  go_wp2_with fail
  refine (HTO.out w3 B3.out (by omega)).mono ?_
  rintro e w4 ⟨ub, vb, rfl, hjb, hkb, hb4⟩
  obtain ⟨a4, l4, c4, rfl⟩ := hjb.slice
  obtain ⟨a5, l5, c5, rfl⟩ := hkb.slice
  have K4 := Lib.hid ((hb4.block _ z3).trans K3.out)
  have z4 : W.heap.size < w4.heap.size := Nat.lt_of_lt_of_le z3 hb4.size
  have B4 := Lib.hid (below_chain B3.out hb4)
  have HJB := Lib.hid (hjb.mono (S' := (· < w4.heap.size)) fun _ hb => hb.2)
  have HKB := Lib.hid (hkb.mono (S' := (· < w4.heap.size)) fun _ hb => hb.2)
  clear hb4 hjb hkb m00 m01 m02
  have HK5 := Lib.hid (heap_alloc_new w4 (xO p (.slice a4 l4 c4) (.slice a5 l5 c5)))
  have A45 := Lib.hid ((Below.refl w4.heap.size w4).alloc (Nat.le_refl _) (xO p (.slice a4 l4 c4) (.slice a5 l5 c5)))
  have B4a := Lib.hid (below_chain B4.out A45.out)
  go_wp2_with fail
  refine (HOI.out w4 _ _ _ HJB.out HKB.out A45.out (by simp) (HT.out.below B4a.out) (HM.out.below B4a.out)).mono ?_
  rintro e w5 ⟨rfl, hb5⟩
  obtain ⟨p00, p01, p02, -⟩ := three_cells ((hb5.block _ (by simp)).trans HK5.out)
  obtain ⟨m00, m01, m02, -⟩ := three_cells ((hb5.block _ (by simp; omega)).trans ((heap_alloc_old _ _ z4).trans K4.out))
  have z5 : W.heap.size < w5.heap.size := by have := hb5.size; simp at this; omega
  have y5 : w4.heap.size < w5.heap.size := by have := hb5.size; simp at this; omega
  have B45 : Below w4.heap.size w4 w5 := A45.out.trans (hb5.mono (by simp))
  have B5 := Lib.hid (below_chain B4.out B45)
  clear hb5
  have hRR : Below w5.heap.size w5 w5 := Below.refl _ _
  have HB45 := Lib.hid B45
  clear B45
  have ett : (tt != tt) = false := by simp
  have etc : (tc != tc) = false := by simp
  all_goals
    go_wp2_with fail
    go_region_held3 (fun wx => wx.cell? ⟨W.heap.size, 0, none⟩ = some (.string ⟨p.rep.toArray⟩) ∧ wx.cell? ⟨W.heap.size, 1, none⟩ = some (.slice a1 l1 c1) ∧ wx.cell? ⟨W.heap.size, 2, none⟩ = some (.slice a2 l2 c2) ∧
        wx.cell? ⟨w4.heap.size, 0, none⟩ = some (.string ⟨p.rep.toArray⟩) ∧ wx.cell? ⟨w4.heap.size, 1, none⟩ = some (.slice a4 l4 c4) ∧ wx.cell? ⟨w4.heap.size, 2, none⟩ = some (.slice a5 l5 c5) ∧
        W.heap.size < wx.heap.size ∧ w4.heap.size < wx.heap.size ∧ Below w5.heap.size w5 wx)
      (first
        | (simp [*, Below.drew]; done)
        | (go_split_ands
           refine ⟨?_, ?_, ?_, ?_, ?_, ?_, Nat.lt_of_lt_of_le (by assumption) hb.size, Nat.lt_of_lt_of_le (by assumption) hb.size, belI_step (by assumption) hb⟩
           · (rw [hb.cell (p := ⟨W.heap.size, 0, none⟩) (by assumption)]; assumption)
           · (rw [hb.cell (p := ⟨W.heap.size, 1, none⟩) (by assumption)]; assumption)
           · (rw [hb.cell (p := ⟨W.heap.size, 2, none⟩) (by assumption)]; assumption)
           · (rw [hb.cell (p := ⟨w4.heap.size, 0, none⟩) (by assumption)]; assumption)
           · (rw [hb.cell (p := ⟨w4.heap.size, 1, none⟩) (by assumption)]; assumption)
           · (rw [hb.cell (p := ⟨w4.heap.size, 2, none⟩) (by assumption)]; assumption)))
      (first
        | (go_split_ands; go_at_call 10; refine (HTO.out _ (below_chain B5.out (by assumption)) (Nat.le_of_lt (by assumption))).mono ?_; rintro e w6 ⟨uc, vc, rfl, hjc, hkc, hb⟩)
        | (go_split_ands; go_at_call 12; refine (HEQ.out _ _ _ uc vc (TxtsIn.later HJB.out (fun _ hb => hb) (below_chain HB45.out (by assumption))) (RlIn.later HKB.out (fun _ hb => hb) (below_chain HB45.out (by assumption))) (hjc.mono fun _ hb => hb.2) (hkc.mono fun _ hb => hb.2)).mono ?_; rintro e w7 ⟨rfl, hb⟩))
    go_split_ands
    rename_i hfin
    have HF := Lib.hid (below_chain B5.out hfin)
    clear hfin
    go_wp2
    go_ret
    exact ⟨rfl, HF.out⟩
set_option maxRecDepth 100000 in
theorem policyText_long (p : Pl) (a1 : Option Addr) (l1 c1 : Nat) (a2 : Option Addr) (l2 c2 : Nat) (W : World) (hu : TxtsIn (· < W.heap.size) W (.slice a1 l1 c1) p.uris) (hr : RlIn (· < W.heap.size) W (.slice a2 l2 c2) p.rules) (hn : p.rep.length ≤ 9223372036854775807) (hs : ¬ szP p ≤ 1048576) :
    Calls Tryz.prog 5 #[pV p (.slice a1 l1 c1) (.slice a2 l2 c2)] W fun e w' => e = .returned (.bool true) ∧ Below W.heap.size W w' := by
  have HSZ := Lib.hid (fun wx hx hy => szP_any W.heap.size W p _ _ hu hr hn 1048576 wx hx hy (by omega) (by omega))
  rw [szR_out (by omega)] at HSZ
  have HB1 := Lib.hid ((Below.refl W.heap.size W).alloc (Nat.le_refl _) (aO p (.slice a1 l1 c1) (.slice a2 l2 c2)))
  clear hu hr hs
  go_enter Tryz.func5, Tryz.ntmps5
  go_wp2_with fail
  refine (HSZ.out _ HB1.out (by simp)).mono ?_
  rintro e w1 ⟨rfl, hb2⟩
  have B1 := Lib.hid (below_chain HB1.out hb2)
  clear hb2
  go_wp2
  go_ret
  exact ⟨rfl, B1.out⟩
theorem policyText_walk (p : Pl) (uv rv : Value) (W : World) (hu : TxtsIn (· < W.heap.size) W uv p.uris) (hr : RlIn (· < W.heap.size) W rv p.rules) (hn : p.rep.length ≤ 9223372036854775807) (hT : Tab W) (hM : MaxL W) :
    Calls Tryz.prog 5 #[pV p uv rv] W fun e w' => e = .returned (.bool true) ∧ Below W.heap.size W w' := by
  obtain ⟨a1, l1, c1, rfl⟩ := hu.slice
  obtain ⟨a2, l2, c2, rfl⟩ := hr.slice
  by_cases hs : szP p ≤ 1048576
  · exact policyText_in p a1 l1 c1 a2 l2 c2 W hu hr hs hT hM
  · exact policyText_long p a1 l1 c1 a2 l2 c2 W hu hr hn hs
end Go.Proofs.YtjnlnndeadihoaaGreatDoor.Po
