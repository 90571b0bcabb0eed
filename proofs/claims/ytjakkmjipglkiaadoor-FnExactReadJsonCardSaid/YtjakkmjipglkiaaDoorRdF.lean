
/-
  Lengths of what is left, plainly; readItems of a list, and readList, walked.
-/
import Derived.Test.YtjakkmjipglkiaaDoorRdE
namespace Go.Proofs.YtjakkmjipglkiaaDoor.Rd
open Go.RowKit
open Go.Proofs.YtjakkmjipglkiaaDoor.Rm
open Go.Proofs.YtjakkmjipglkiaaDoor.Js (J VIn)
theorem items_bad {rd : B → Int × J × B} {obj : Bool} {close : UInt8} {ns : List B} {xs : List J} {bs : B} (h : (itemR rd obj ns bs).1 ≠ 0) : ∀ n, (itemsR rd obj close n ns xs bs).1 = (itemR rd obj ns bs).1
  | 0 => by simp only [itemsR]; rw [if_neg h]
  | n + 1 => by simp only [itemsR]; rw [if_neg h]
theorem items_many {rd : B → Int × J × B} {obj : Bool} {close : UInt8} {ns : List B} {xs : List J} {bs : B} (h : (itemR rd obj ns bs).1 = 0) : (itemsR rd obj close 0 ns xs bs).1 = 6 := by
  simp only [itemsR]; rw [if_pos h]
theorem items_end {rd : B → Int × J × B} {obj : Bool} {close : UInt8} {ns : List B} {xs : List J} {bs : B} (n : Nat) (h : (itemR rd obj ns bs).1 = 0) (hp : Lib.hasPrefix (trim (itemR rd obj ns bs).2.2.2) [close] = true) :
    itemsR rd obj close (n + 1) ns xs bs = (0, (addN obj ns (itemR rd obj ns bs).2.1, xs ++ [(itemR rd obj ns bs).2.2.1]), (trim (itemR rd obj ns bs).2.2.2).tail) := by
  simp only [itemsR]; rw [if_pos h, if_pos hp]
theorem items_next {rd : B → Int × J × B} {obj : Bool} {close : UInt8} {ns : List B} {xs : List J} {bs : B} (n : Nat) (h : (itemR rd obj ns bs).1 = 0) (hp : Lib.hasPrefix (trim (itemR rd obj ns bs).2.2.2) [close] = false) (hc : Lib.hasPrefix (trim (itemR rd obj ns bs).2.2.2) [44] = true) :
    itemsR rd obj close (n + 1) ns xs bs = itemsR rd obj close n (addN obj ns (itemR rd obj ns bs).2.1) (xs ++ [(itemR rd obj ns bs).2.2.1]) (trim (itemR rd obj ns bs).2.2.2).tail := by
  rw [itemsR, if_pos h, if_neg (by rw [hp]; simp), if_pos hc]
theorem items_form {rd : B → Int × J × B} {obj : Bool} {close : UInt8} {ns : List B} {xs : List J} {bs : B} (n : Nat) (h : (itemR rd obj ns bs).1 = 0) (hp : Lib.hasPrefix (trim (itemR rd obj ns bs).2.2.2) [close] = false) (hc : Lib.hasPrefix (trim (itemR rd obj ns bs).2.2.2) [44] = false) :
    (itemsR rd obj close (n + 1) ns xs bs).1 = 3 := by
  rw [itemsR, if_pos h, if_neg (by rw [hp]; simp), if_neg (by rw [hc]; simp)]
theorem itemR_len {rd : B → Int × J × B} (hrd : ∀ bs, (rd bs).2.2.length ≤ bs.length) (obj : Bool) (ns : List B) (bs : B) : (itemR rd obj ns bs).2.2.2.length ≤ bs.length := by
  unfold itemR
  cases obj with
  | false => simp only [Bool.false_eq_true, if_false]; exact hrd bs
  | true =>
    simp only [if_true]
    split
    · exact Nat.le_trans (hrd _) (nameR_len ns bs)
    · simp
theorem trimt_len (bs : B) : (trim bs).tail.length ≤ bs.length := Nat.le_trans (tail_len _) (trim_len _)
theorem itemsR_len {rd : B → Int × J × B} (hrd : ∀ bs, (rd bs).2.2.length ≤ bs.length) (obj : Bool) (close : UInt8) : ∀ (n : Nat) (ns : List B) (xs : List J) (bs : B), (itemsR rd obj close n ns xs bs).2.2.length ≤ bs.length
  | 0, ns, xs, bs => by simp [itemsR]
  | n + 1, ns, xs, bs => by
    have h1 := itemR_len hrd obj ns bs
    have h2 := trimt_len (itemR rd obj ns bs).2.2.2
    simp only [itemsR]
    split
    · split
      · simp only []; omega
      · split
        · exact Nat.le_trans (itemsR_len hrd obj close n _ _ _) (by omega)
        · simp
    · simp
theorem bodyR_len {rd : B → Int × J × B} (hrd : ∀ bs, (rd bs).2.2.length ≤ bs.length) (obj : Bool) (close : UInt8) (bs : B) : (bodyR rd obj close bs).2.2.length ≤ bs.length := by
  unfold bodyR
  split
  · exact trimt_len bs
  · exact Nat.le_trans (itemsR_len hrd obj close _ _ _ _) (trim_len bs)
theorem valS_len {rd : Option (B → Int × J × B)} (hrd : ∀ f, rd = some f → ∀ bs, (f bs).2.2.length ≤ bs.length) (bs : B) : (valS rd bs).2.2.length ≤ bs.length := by
  have h1 := tail_len bs
  have h2 := strR_len bs.tail []
  have h3 := behindN_len bs
  unfold valS
  split
  · simp
  split
  · simp
  split
  · simp
  split
  · simp only []; omega
  split
  · cases rd with
    | none => simp
    | some f => exact Nat.le_trans (bodyR_len (hrd f rfl) _ _ _) h1
  split
  · cases rd with
    | none => simp
    | some f => exact Nat.le_trans (bodyR_len (hrd f rfl) _ _ _) h1
  · unfold numR
    repeat' split
    all_goals exact h3
theorem valR_len : ∀ (d : Nat) (bs : B), (valR d bs).2.2.length ≤ bs.length
  | 0, bs => Nat.le_trans (valS_len (fun f hf => by cases hf) _) (trim_len bs)
  | d + 1, bs => Nat.le_trans (valS_len (fun f hf => by cases hf; exact valR_len d) _) (trim_len bs)
theorem take_tail {bs : B} {y : UInt8} {r : Bool} (h : Lib.hasPrefix (trim bs) [y] = r) : Lib.trimPrefix (trim bs) [y] = if r then (trim bs).tail else trim bs := by
  cases r with
  | true => exact trimP_tail h
  | false => exact trimP_same h
/-- after readItems of a list -/
def ItP (R Br Bo L : Nat) (oi : Int) (W0 : World) (res : Int × (List B × List J) × B) (e : Ending) (w' : World) : Prop :=
  e = .returned (.int .i64 res.1) ∧ (res.1 = 0 → LS R Br Bo L oi W0 res.2.1.2 res.2.2 w') ∧ LE R L W0 w'
set_option maxRecDepth 100000 in
set_option maxHeartbeats 8000000 in
theorem listI_items (R Br Bo L : Nat) (oi : Int) (hoi : 0 ≤ oi ∧ oi < 4) (rd : B → Int × J × B) (hrl : ∀ bs, (rd bs).2.2.length ≤ bs.length) (W0 : World) (hrd : RdV R (oi + 1) rd) (hs : SynV W0) (hRg : R ≠ 2) (hR : R < W0.heap.size) (hBr : W0.heap.size ≤ Br) (hBo : W0.heap.size ≤ Bo) (hL : W0.heap.size ≤ L) (hne1 : Br ≠ L) (hne2 : Bo ≠ L)
    (rs : B) (w : World) (hl : rs.length ≤ 65536) (h : LS R Br Bo L oi W0 [] rs w) (res : Int × (List B × List J) × B) (hres : bodyR rd false 93 rs = res) :
    Calls Tryd.prog 38 #[ptI R, .string ⟨#[93]⟩, .int .i64 oi, .func (.func 39) #[] #[ptI Br, ptI Bo, ptI L]] w (ItP R Br Bo L oi W0 res) := by
  have HONE := Lib.hid (fun xs rs w hx hl h => listI_one R Br Bo L oi hoi rd W0 hrd hs hRg hR hBr hBo hL hne1 hne2 xs rs w hx hl h)
  have HST := Lib.hid (fun xs rs rs' w w' (h : LS R Br Bo L oi W0 xs rs w) hc h' => LS.step (rs' := rs') (w' := w') h hR hBr hBo hL hc h')
  have HTK := Lib.hid (fun (bs p : B) (w : World) h => takeI_any R bs p w h)
  have g4 : decide ((4 : Int) ≤ oi) = false := by simp; omega
  have H := Lib.hid h
  have HL := Lib.hid hrl
  clear hrd hs h hrl
  obtain ⟨q, hq⟩ : ∃ q, Lib.hasPrefix (trim rs) [93] = q := ⟨_, rfl⟩
  have HT0 := Lib.hid (show Calls Tryd.prog 21 #[ptI R, .string ⟨#[93]⟩] w fun e w' => e = .returned (.bool q) ∧ Hd w' R (rdO (if q then (trim rs).tail else trim rs)) ∧ Ch (· = R) w w' from by
    have := takeI_any R rs [93] w H.out.rd
    rw [hq, take_tail hq] at this
    exact this)
  have hlt := trim_len rs
  unfold bodyR at hres
  rw [hq] at hres
  clear hq
  go_enter Tryd.func38, Tryd.ntmps38
  go_wp2_with fail
  refine HT0.out.mono ?_
  rintro e w1 ⟨rfl, h1, hc1⟩
  cases q with
  | true =>
    simp only [if_true] at hres h1
    subst hres
    have HS := Lib.hid (HST.out _ _ _ _ _ H.out hc1 h1)
    clear h1 hc1
    go_wp2
    go_ret
    exact ⟨rfl, fun _ => HS.out, HS.out.le⟩
  | false =>
    simp only [Bool.false_eq_true, if_false] at hres h1
    have HS := Lib.hid (HST.out _ _ _ _ _ H.out hc1 h1)
    have HRES := Lib.hid hres
    clear h1 hc1 hres
    generalize trim rs = ts at *
    go_wp2_with fail
    go_loopw [9] (fun cv wr => ∃ (n : Nat) (xs : List J) (us : B), cv = .int .i64 ((xs.length : Int) + 1) ∧ xs.length + n = 12 ∧ us.length ≤ 65536 ∧ LS R Br Bo L oi W0 xs us wr ∧ itemsR rd false 93 n [] xs us = res) (fun cv _ => 14 - (intOf cv).toNat)
    case atStart => exact ⟨12, [], ts, rfl, rfl, by omega, HS.out, HRES.out⟩
    case round =>
      obtain ⟨n, xs, us, rfl, hn, hul, hLS, hE⟩ := hrel
      have HX := Lib.hid (HONE.out xs us wr (by omega) hul hLS)
      obtain ⟨ir, hir⟩ : ∃ ir, itemR rd false [] us = ir := ⟨_, rfl⟩
      have hir1 : ir = ((rd us).1, [], (rd us).2.1, (rd us).2.2) := hir.symm
      have hrl := HL.out us
      clear hLS HS HRES
      obtain ⟨xl, hxl⟩ : ∃ xl, xs.length = xl := ⟨_, rfl⟩
      have HXL := Lib.hid hxl
      rw [hxl] at hn ⊢
      clear hxl
      by_cases h0 : (rd us).1 = 0
      · have hi0 : (itemR rd false [] us).1 = 0 := h0
        have HH0 := Lib.hid h0
        go_wp2_with fail
        refine HX.out.mono ?_
        rintro e w2 ⟨rfl, hls, hle⟩
        have hls := hls h0
        rw [h0]
        cases n with
        | zero =>
          have h6 := items_many (close := 93) (xs := xs) hi0
          rw [hE] at h6
          have g12 : decide ((12 : Int) < (xl : Int) + 1) = true := by simp; omega
          have HLE := Lib.hid hle
          have HF := Lib.hid (show ItP R Br Bo L oi W0 res (.returned (.int .i64 6)) w2 from ⟨by rw [h6], fun h => (by rw [h6] at h; cases h), hle⟩)
          clear h6 hls hle hE
          go_wp2
          go_ret
          exact HF.out
        | succ n =>
          have g12 : decide ((12 : Int) < (xl : Int) + 1) = false := by simp; omega
          obtain ⟨p, hp⟩ : ∃ p, Lib.hasPrefix (trim (rd us).2.2) [93] = p := ⟨_, rfl⟩
          have HT := Lib.hid (show Calls Tryd.prog 21 #[ptI R, .string ⟨#[93]⟩] w2 fun e w' => e = .returned (.bool p) ∧ Hd w' R (rdO (if p then (trim (rd us).2.2).tail else trim (rd us).2.2)) ∧ Ch (· = R) w2 w' from by
            have := takeI_any R (rd us).2.2 [93] w2 hls.rd
            rw [hp, take_tail hp] at this
            exact this)
          have HLS := Lib.hid hls
          clear hls hle
          have hw12 : IntKind.i64.wrap ((xl : Int) + 1 + 1) = (xl : Int) + 1 + 1 := IntWalk.i64_in _ ⟨by omega, by omega⟩
          go_wp2_with fail
          refine HT.out.mono ?_
          rintro e w3 ⟨rfl, h3, hc3⟩
          cases p with
          | true =>
            have hEE := items_end (close := 93) (xs := xs) n hi0 hp
            rw [hE] at hEE
            simp only [if_true] at h3
            have HS3 := Lib.hid (HST.out _ _ _ _ _ HLS.out hc3 h3)
            have HF := Lib.hid (show ItP R Br Bo L oi W0 res (.returned (.int .i64 0)) w3 from by rw [hEE]; exact ⟨rfl, fun _ => HS3.out, HS3.out.le⟩)
            clear hEE h3 hc3 hE
            go_wp2
            go_ret
            exact HF.out
          | false =>
            simp only [Bool.false_eq_true, if_false] at h3
            have HS3 := Lib.hid (HST.out _ _ _ _ _ HLS.out hc3 h3)
            obtain ⟨k, hk⟩ : ∃ k, Lib.hasPrefix (trim (rd us).2.2) [44] = k := ⟨_, rfl⟩
            have HT4 := Lib.hid (show Calls Tryd.prog 21 #[ptI R, .string ⟨#[44]⟩] w3 fun e w' => e = .returned (.bool k) ∧ Hd w' R (rdO (if k then (trim (rd us).2.2).tail else trim (rd us).2.2)) ∧ Ch (· = R) w3 w' from by
              have := takeI_any R (trim (rd us).2.2) [44] w3 HS3.out.rd
              rw [trim_trim, hk] at this
              cases k with
              | true => rw [trimP_tail hk] at this; exact this
              | false => rw [trimP_same hk] at this; exact this)
            clear h3 hc3
            go_wp2_with fail
            refine HT4.out.mono ?_
            rintro e w4 ⟨rfl, h4, hc4⟩
            cases k with
            | false =>
              have hEE := items_form (close := 93) (xs := xs) n hi0 hp hk
              rw [hE] at hEE
              simp only [Bool.false_eq_true, if_false] at h4
              have HS4 := Lib.hid (HST.out _ _ _ _ _ HS3.out hc4 h4)
              have HF := Lib.hid (show ItP R Br Bo L oi W0 res (.returned (.int .i64 3)) w4 from ⟨by rw [hEE], fun h => (by rw [hEE] at h; cases h), HS4.out.le⟩)
              clear hEE h4 hc4 hE
              go_wp2
              go_ret
              exact HF.out
            | true =>
              have hEE := items_next (close := 93) (xs := xs) n hi0 hp hk
              rw [hE] at hEE
              simp only [if_true] at h4
              have HS4 := Lib.hid (HST.out _ _ _ _ _ HS3.out hc4 h4)
              have HEE := Lib.hid (show itemsR rd false 93 n [] (xs ++ [(rd us).2.1]) (trim (rd us).2.2).tail = res from hEE.symm)
              have hl5 := trimt_len (rd us).2.2
              clear hEE h4 hc4 hE
              go_wp2
              go_roundw
              case rel => exact ⟨n, xs ++ [(rd us).2.1], (trim (rd us).2.2).tail, by rw [List.length_append, HXL.out]; simp, by rw [List.length_append, HXL.out]; simp; omega, by omega, HS4.out, HEE.out⟩
              case measure => simp [intOf]; omega
      · have hb := items_bad (rd := rd) (obj := false) (close := 93) (ns := []) (xs := xs) (bs := us) h0 n
        rw [hE] at hb
        have hb2 : res.1 = (rd us).1 := hb
        have g0 : ((rd us).1 != 0) = true := by simpa using h0
        go_wp2_with fail
        refine HX.out.mono ?_
        rintro e w2 ⟨rfl, _, hle⟩
        have HF := Lib.hid (show ItP R Br Bo L oi W0 res (.returned (.int .i64 (rd us).1)) w2 from ⟨by rw [hb2], fun h => (by rw [hb2] at h; exact absurd h h0), hle⟩)
        clear hle hb hb2 hE h0
        generalize (rd us).1 = cc at *
        go_wp2
        go_ret
        exact HF.out
end Go.Proofs.YtjakkmjipglkiaaDoor.Rd
