
/-
  readItems of an object, and readObject, walked.
-/
import Derived.Test.YtjakkmjipglkiaaDoorRdO
namespace Go.Proofs.YtjakkmjipglkiaaDoor.Rd
open Go.RowKit
open Go.Proofs.YtjakkmjipglkiaaDoor.Rm
open Go.Proofs.YtjakkmjipglkiaaDoor.Js (J VIn VLn TxtsIn strV)
/-- after readItems of an object -/
def IoP (R Br O Bo : Nat) (oi : Int) (W0 : World) (res : Int × (List B × List J) × B) (e : Ending) (w' : World) : Prop :=
  e = .returned (.int .i64 res.1) ∧ (res.1 = 0 → OS R Br O Bo oi W0 res.2.1.1 res.2.1.2 res.2.2 w') ∧ OE R O W0 w'
set_option maxRecDepth 100000 in
set_option maxHeartbeats 8000000 in
theorem objI_items (R Br O Bo : Nat) (oi : Int) (hoi : 0 ≤ oi ∧ oi < 4) (rd : B → Int × J × B) (hrl : ∀ bs, (rd bs).2.2.length ≤ bs.length) (W0 : World) (hrd : RdV R (oi + 1) rd) (hs : SynV W0) (hRg : R ≠ 2) (hR : R < W0.heap.size) (hBr : W0.heap.size ≤ Br) (hBo : W0.heap.size ≤ Bo) (hO : W0.heap.size ≤ O) (hne1 : Br ≠ O) (hne2 : Bo ≠ O)
    (rs : B) (w : World) (hl : rs.length ≤ 65536) (h : OS R Br O Bo oi W0 [] [] rs w) (res : Int × (List B × List J) × B) (hres : bodyR rd true 125 rs = res) :
    Calls Tryd.prog 38 #[ptI R, .string ⟨#[125]⟩, .int .i64 oi, .func (.func 40) #[] #[ptI Br, ptI O, ptI Bo]] w (IoP R Br O Bo oi W0 res) := by
  have HONE := Lib.hid (fun ns xs rs w hx hnx hl h ir hir => objI_one R Br O Bo oi hoi rd W0 hrd hs hRg hR hBr hBo hO hne1 hne2 ns xs rs w hx hnx hl h ir hir)
  have HST := Lib.hid (fun ns xs rs rs' w w' (h : OS R Br O Bo oi W0 ns xs rs w) hc h' => OS.step (rs' := rs') (w' := w') h hR hBr hBo hO hc h')
  have g4 : decide ((4 : Int) ≤ oi) = false := by simp; omega
  have H := Lib.hid h
  have HL := Lib.hid (fun ns us => itemR_len hrl true ns us)
  clear hrd hs h hrl
  obtain ⟨q, hq⟩ : ∃ q, Lib.hasPrefix (trim rs) [125] = q := ⟨_, rfl⟩
  have HT0 := Lib.hid (show Calls Tryd.prog 21 #[ptI R, .string ⟨#[125]⟩] w fun e w' => e = .returned (.bool q) ∧ Hd w' R (rdO (if q then (trim rs).tail else trim rs)) ∧ Ch (· = R) w w' from by
    have := takeI_any R rs [125] w H.out.rd
    rw [hq, take_tail hq] at this
    exact this)
  have hlt := trim_len rs
  unfold bodyR at hres
  rw [hq] at hres
  clear hq
  go_enter Tryd.func38, Tryd.ntmps38
  go_wp2_with fail
  refine HT0.out.mono ?_
  rintro e w1 ⟨rfl, h1, hc1⟩
  cases q with
  | true =>
    simp only [if_true] at hres h1
    subst hres
    have HS := Lib.hid (HST.out _ _ _ _ _ _ H.out hc1 h1)
    clear h1 hc1
    go_wp2
    go_ret
    exact ⟨rfl, fun _ => HS.out, HS.out.oe⟩
  | false =>
    simp only [Bool.false_eq_true, if_false] at hres h1
    have HS := Lib.hid (HST.out _ _ _ _ _ _ H.out hc1 h1)
    have HRES := Lib.hid hres
    clear h1 hc1 hres
    generalize trim rs = ts at *
    go_wp2_with fail
    go_loopw [9] (fun cv wr => ∃ (n : Nat) (ns : List B) (xs : List J) (us : B), cv = .int .i64 ((xs.length : Int) + 1) ∧ xs.length + n = 12 ∧ ns.length ≤ xs.length ∧ us.length ≤ 65536 ∧ OS R Br O Bo oi W0 ns xs us wr ∧ itemsR rd true 125 n ns xs us = res) (fun cv _ => 14 - (intOf cv).toNat)
    case atStart => exact ⟨12, [], [], ts, rfl, rfl, Nat.le_refl _, by omega, HS.out, HRES.out⟩
    case round =>
      obtain ⟨n, ns, xs, us, rfl, hn, hnx, hul, hOS, hE⟩ := hrel
      obtain ⟨ir, hir⟩ : ∃ ir, itemR rd true ns us = ir := ⟨_, rfl⟩
      have HX := Lib.hid (HONE.out ns xs us wr (by omega) (by omega) hul hOS ir hir)
      have hrl := HL.out ns us
      rw [hir] at hrl
      clear hOS HS HRES
      obtain ⟨xl, hxl⟩ : ∃ xl, xs.length = xl := ⟨_, rfl⟩
      have HXL := Lib.hid hxl
      have HNX := Lib.hid hnx
      clear hnx
      rw [hxl] at hn ⊢
      clear hxl
      by_cases h0 : ir.1 = 0
      · have hi0 : (itemR rd true ns us).1 = 0 := by rw [hir]; exact h0
        have HH0 := Lib.hid h0
        go_wp2_with fail
        refine HX.out.mono ?_
        rintro e w2 ⟨rfl, hls, hle⟩
        have hls := hls h0
        rw [h0]
        cases n with
        | zero =>
          have h6 := items_many (close := 125) (xs := xs) hi0
          rw [hE] at h6
          have g12 : decide ((12 : Int) < (xl : Int) + 1) = true := by simp; omega
          have HF := Lib.hid (show IoP R Br O Bo oi W0 res (.returned (.int .i64 6)) w2 from ⟨by rw [h6], fun h => (by rw [h6] at h; cases h), hle⟩)
          clear h6 hls hle hE hir
          go_wp2
          go_ret
          exact HF.out
        | succ n =>
          have g12 : decide ((12 : Int) < (xl : Int) + 1) = false := by simp; omega
          obtain ⟨p, hp⟩ : ∃ p, Lib.hasPrefix (trim ir.2.2.2) [125] = p := ⟨_, rfl⟩
          have HT := Lib.hid (show Calls Tryd.prog 21 #[ptI R, .string ⟨#[125]⟩] w2 fun e w' => e = .returned (.bool p) ∧ Hd w' R (rdO (if p then (trim ir.2.2.2).tail else trim ir.2.2.2)) ∧ Ch (· = R) w2 w' from by
            have := takeI_any R ir.2.2.2 [125] w2 hls.rd
            rw [hp, take_tail hp] at this
            exact this)
          have HLS := Lib.hid hls
          clear hls hle
          have hw12 : IntKind.i64.wrap ((xl : Int) + 1 + 1) = (xl : Int) + 1 + 1 := IntWalk.i64_in _ ⟨by omega, by omega⟩
          go_wp2_with fail
          refine HT.out.mono ?_
          rintro e w3 ⟨rfl, h3, hc3⟩
          cases p with
          | true =>
            have hEE := items_end (close := 125) (xs := xs) n hi0 (by rw [hir]; exact hp)
            rw [hE, hir] at hEE
            simp only [if_true] at h3
            have HS3 := Lib.hid (HST.out _ _ _ _ _ _ HLS.out hc3 h3)
            have HF := Lib.hid (show IoP R Br O Bo oi W0 res (.returned (.int .i64 0)) w3 from by rw [hEE]; exact ⟨rfl, fun _ => HS3.out, HS3.out.oe⟩)
            clear hEE h3 hc3 hE hir
            go_wp2
            go_ret
            exact HF.out
          | false =>
            simp only [Bool.false_eq_true, if_false] at h3
            have HS3 := Lib.hid (HST.out _ _ _ _ _ _ HLS.out hc3 h3)
            obtain ⟨k, hk⟩ : ∃ k, Lib.hasPrefix (trim ir.2.2.2) [44] = k := ⟨_, rfl⟩
            have HT4 := Lib.hid (show Calls Tryd.prog 21 #[ptI R, .string ⟨#[44]⟩] w3 fun e w' => e = .returned (.bool k) ∧ Hd w' R (rdO (if k then (trim ir.2.2.2).tail else trim ir.2.2.2)) ∧ Ch (· = R) w3 w' from by
              have := takeI_any R (trim ir.2.2.2) [44] w3 HS3.out.rd
              rw [trim_trim, hk] at this
              cases k with
              | true => rw [trimP_tail hk] at this; exact this
              | false => rw [trimP_same hk] at this; exact this)
            clear h3 hc3
            go_wp2_with fail
            refine HT4.out.mono ?_
            rintro e w4 ⟨rfl, h4, hc4⟩
            cases k with
            | false =>
              have hEE := items_form (close := 125) (xs := xs) n hi0 (by rw [hir]; exact hp) (by rw [hir]; exact hk)
              rw [hE] at hEE
              simp only [Bool.false_eq_true, if_false] at h4
              have HS4 := Lib.hid (HST.out _ _ _ _ _ _ HS3.out hc4 h4)
              have HF := Lib.hid (show IoP R Br O Bo oi W0 res (.returned (.int .i64 3)) w4 from ⟨by rw [hEE], fun h => (by rw [hEE] at h; cases h), HS4.out.oe⟩)
              clear hEE h4 hc4 hE hir
              go_wp2
              go_ret
              exact HF.out
            | true =>
              have hEE := items_next (close := 125) (xs := xs) n hi0 (by rw [hir]; exact hp) (by rw [hir]; exact hk)
              rw [hE, hir] at hEE
              simp only [if_true] at h4
              have HS4 := Lib.hid (HST.out _ _ _ _ _ _ HS3.out hc4 h4)
              have HEE := Lib.hid (show itemsR rd true 125 n (ns ++ [ir.2.1]) (xs ++ [ir.2.2.1]) (trim ir.2.2.2).tail = res from hEE.symm)
              have hl5 := trimt_len ir.2.2.2
              clear hEE h4 hc4 hE hir
              go_wp2
              go_roundw
              case rel => exact ⟨n, ns ++ [ir.2.1], xs ++ [ir.2.2.1], (trim ir.2.2.2).tail, by rw [List.length_append, HXL.out]; simp, by rw [List.length_append, HXL.out]; simp; omega, by have := HNX.out; simp; omega, by omega, HS4.out, HEE.out⟩
              case measure => simp [intOf]; omega
      · have hb := items_bad (rd := rd) (obj := true) (close := 125) (ns := ns) (xs := xs) (bs := us) (by rw [hir]; exact h0) n
        rw [hE, hir] at hb
        have g0 : (ir.1 != 0) = true := by simpa using h0
        go_wp2_with fail
        refine HX.out.mono ?_
        rintro e w2 ⟨rfl, _, hle⟩
        have HF := Lib.hid (show IoP R Br O Bo oi W0 res (.returned (.int .i64 ir.1)) w2 from ⟨by rw [hb], fun h => (by rw [hb] at h; exact absurd h h0), hle⟩)
        clear hle hb hE h0 HX hrl hir
        generalize ir.1 = cc at *
        go_wp2
        go_ret
        exact HF.out
theorem os_fin {R Br O Bo : Nat} {oi : Int} {W0 w : World} {ns : List B} {xs : List J} {rs : B} (h : OS R Br O Bo oi W0 ns xs rs w) {nv iv : Value} (hl : Hd w O (.cells #[nv, iv] 60)) : VIn (fun b => W0.heap.size ≤ b ∧ b < w.heap.size) w (.iface 60 (.agg #[nv, iv])) (.mk 6 0 [] ns xs) := by
  obtain ⟨nv', iv', vals, h1, h2, h3, h4⟩ := h.ob
  have e : nv' = nv ∧ iv' = iv := by
    unfold Hd at h1 hl
    rw [h1] at hl
    simp only [Option.some.injEq, Obj.cells.injEq] at hl
    have := hl.1
    simpa using this
  obtain ⟨rfl, rfl⟩ := e
  exact (vs_row h3 h4).object ((names_in h2 h.short).mono fun b hb => h2.lt b hb)
set_option maxRecDepth 100000 in
set_option maxHeartbeats 4000000 in
theorem objI_deep (R : Nat) (oi : Int) (rs : B) (W0 : World) (h : Hd W0 R (rdO rs)) (hoi : 4 ≤ oi) (r : B) (j : J) : Calls Tryd.prog 24 #[ptI R, .int .i64 oi] W0 (ValP R W0 (12, j, r)) := by
  have HD := Lib.hid (fun f w => items_deep R [125] oi f w hoi)
  have H := Lib.hid h
  have hlt := h.lt
  clear h
  go_enter Tryd.func24, Tryd.ntmps24
  go_wp2_with fail
  refine (HD.out _ _).mono ?_
  rintro e w1 ⟨rfl, rfl⟩
  go_wp2
  go_ret2
  exact ⟨_, rs, rfl, (fun h => by cases h), .inr ⟨_, _, rfl⟩, (((H.out.al _).al _).al _), (((Ch.refl _ _).alloc _).alloc _).alloc _⟩
set_option maxRecDepth 100000 in
set_option maxHeartbeats 4000000 in
theorem objI_any (R : Nat) (oi : Int) (hoi : 0 ≤ oi ∧ oi < 4) (rd : B → Int × J × B) (hrl : ∀ bs, (rd bs).2.2.length ≤ bs.length) (hrd : RdV R (oi + 1) rd) (rs : B) (W0 : World) (h : Hd W0 R (rdO rs)) (hl : rs.length ≤ 65536) (hs : SynV W0) (hRg : R ≠ 2) :
    Calls Tryd.prog 24 #[ptI R, .int .i64 oi] W0 (ValP R W0 ((bodyR rd true 125 rs).1, .mk 6 0 [] (bodyR rd true 125 rs).2.1.1 (bodyR rd true 125 rs).2.1.2, (bodyR rd true 125 rs).2.2)) := by
  have hlt := h.lt
  have HI := Lib.hid (fun w h => objI_items R W0.heap.size (W0.heap.size + 1 + 1) (W0.heap.size + 1) oi hoi rd hrl W0 hrd hs hRg hlt (Nat.le_refl _) (by omega) (by omega) (by omega) (by omega) rs w hl h _ rfl)
  have HS0 := Lib.hid (show OS R W0.heap.size (W0.heap.size + 1 + 1) (W0.heap.size + 1) oi W0 [] [] rs (((W0.alloc (.cells #[ptI R] 45)).alloc (.cells #[.int .i64 oi] 3)).alloc (.cells #[.slice none 0 0, .slice none 0 0] 60)) from by
    have e1 : (W0.alloc (.cells #[ptI R] 45)).heap.size = W0.heap.size + 1 := by simp
    have e2 : ((W0.alloc (.cells #[ptI R] 45)).alloc (.cells #[.int .i64 oi] 3)).heap.size = W0.heap.size + 1 + 1 := by simp
    refine ⟨((h.al _).al _).al _, ((Hd.new W0 _).al _).al _, ?_, (fun t ht => by cases ht), ⟨.slice none 0 0, .slice none 0 0, [], ?_, World.ownsRow_nil _ _ _ _, World.ownsRow_nil _ _ _ _, Vs.nil _ _ _⟩, (((Ch.refl _ _).alloc _).alloc _).alloc _⟩
    · have := (Hd.new (W0.alloc (.cells #[ptI R] 45)) (.cells #[.int .i64 oi] 3)).al (.cells #[.slice none 0 0, .slice none 0 0] 60)
      rw [e1] at this
      exact this
    · have := Hd.new ((W0.alloc (.cells #[ptI R] 45)).alloc (.cells #[.int .i64 oi] 3)) (.cells #[.slice none 0 0, .slice none 0 0] 60)
      rw [e2] at this
      exact this)
  clear h hs hrd hrl
  generalize bodyR rd true 125 rs = res at *
  go_enter Tryd.func24, Tryd.ntmps24
  go_wp2_with fail
  refine (HI.out _ HS0.out).mono ?_
  rintro e w1 ⟨rfl, hls, hle⟩
  obtain ⟨⟨rs', hr⟩, ⟨an, ln, cn, ai, li, ci, hlv⟩, hch⟩ := hle
  obtain ⟨l0, l1, -⟩ := hlv.two
  have HF := Lib.hid (show ValP R W0 (res.1, .mk 6 0 [] res.2.1.1 res.2.1.2, res.2.2) (.returned (.tuple #[.iface 60 (.agg #[.slice an ln cn, .slice ai li ci]), .int .i64 res.1])) w1 from by
    by_cases h0 : res.1 = 0
    · have h1 := hls h0
      exact ⟨_, _, rfl, fun _ => ⟨rfl, os_fin h1 hlv⟩, .inr ⟨_, _, rfl⟩, h1.rd, hch⟩
    · exact ⟨_, rs', rfl, fun h => absurd h h0, .inr ⟨_, _, rfl⟩, hr, hch⟩)
  clear hls hr hlv hch
  go_wp2
  go_ret2
  exact HF.out
end Go.Proofs.YtjakkmjipglkiaaDoor.Rd
