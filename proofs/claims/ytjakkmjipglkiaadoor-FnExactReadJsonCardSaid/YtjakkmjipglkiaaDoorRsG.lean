
/-
  The model's reader within a list or an object: items, walked.
-/
import Derived.Test.YtjakkmjipglkiaaDoorRsF
import Derived.Test.YtjakkmjipglkiaaDoorRdF
namespace Go.Proofs.YtjakkmjipglkiaaDoor.Rd
open Go.RowKit
open Go.Proofs.YtjakkmjipglkiaaDoor.Rm
open Go.Proofs.YtjakkmjipglkiaaDoor.Js (J OJ FitJ jV cellJ strV set5 set5_far set5_size heap_set5)
/-- what value says -/
def SvP (R : Nat) (t : B) (W : World) (res : Int × J × B) (e : Ending) (w' : World) : Prop :=
  ∃ (x : J) (an : Option Addr) (ln cn : Nat) (ai : Option Addr) (li ci : Nat) (p' : Nat) (us' : B), e = .returned (jV x (.slice an ln cn) (.slice ai li ci)) ∧ Hd w' R (rsO t p' res.1) ∧ At t p' us' ∧ Ch (· = R) W w' ∧
    (res.1 = 0 → x = res.2.1 ∧ us' = res.2.2 ∧ FitJ x ∧ ∃ S, OJ w' W.heap.size S x (.slice an ln cn) (.slice ai li ci))
def muW (R Jb : Nat) (w : World) : Nat := match w.cell? ⟨R, 2, none⟩ with
  | some (.int _ c) => if c = 0 then (match w.cell? ⟨Jb, 4, none⟩ with | some (.slice _ l _) => 20 - l | _ => 0) else 0
  | _ => 0
theorem mu_js {R Jb : Nat} {t : B} {kd : Int} {W0 w : World} {ns : List B} {xs : List J} {p : Nat} {us : B} (h : JS R Jb t kd W0 0 ns xs p us w) : muW R Jb w = 20 - xs.length := by
  obtain ⟨nv, iv, vals, vn, vi, Sc, h1, h2, h3, _⟩ := h.ob
  obtain ⟨a, k, rfl⟩ := own_slice h3
  obtain ⟨-, -, -, -, e4, -⟩ := Js.five_cells h1
  simp only [muW, h.rd.three.2.2.1, e4, if_true]
theorem mu_je {R Jb : Nat} {t : B} {kd c : Int} {W0 w : World} (h : JE R Jb t kd W0 c w) (hc : c ≠ 0) : muW R Jb w = 0 := by
  obtain ⟨p, us, h1, _⟩ := h.rd
  simp only [muW, h1.three.2.2.1, if_neg hc]
theorem JE.step {R Jb : Nat} {t : B} {kd c c' : Int} {W0 w w' : World} {p : Nat} {us : B} (h : JE R Jb t kd W0 c w) (hR : R < W0.heap.size) (hJ : W0.heap.size ≤ Jb) (hc : Ch (· = R) w w') (h' : Hd w' R (rsO t p c')) (ha : At t p us) : JE R Jb t kd W0 c' w' := by
  obtain ⟨an, ln, cn, ai, li, ci, h1⟩ := h.ob
  exact ⟨⟨p, us, h', ha⟩, ⟨an, ln, cn, ai, li, ci, hc.hd h1 (by omega)⟩, h.ch.trans hc⟩
/-- what items says -/
def IsP (R Jb : Nat) (t : B) (kd : Int) (W0 : World) (res : Int × (List B × List J) × B) (e : Ending) (w' : World) : Prop :=
  e = .returned (.tuple #[]) ∧ (res.1 = 0 → ∃ p', JS R Jb t kd W0 0 res.2.1.1 res.2.1.2 p' res.2.2 w') ∧ JE R Jb t kd W0 res.1 w'
/-- an item has been added -/
def FinP (R Jb : Nat) (t : B) (kd : Int) (W0 : World) (ns : List B) (xs : List J) (an : Option Addr) (ln cn : Nat) (vr : Int × J × B) (p6 : Nat) (us6 : B) (wf : World) : Prop :=
  (vr.1 = 0 → JS R Jb t kd W0 0 ns (xs ++ [vr.2.1]) p6 vr.2.2 wf) ∧ JE R Jb t kd W0 vr.1 wf ∧ (∃ g cc, Hd wf Jb (jbO kd (.slice an ln cn) (.slice (some ⟨g, 0, none⟩) (xs.length + 1) cc))) ∧ Hd wf R (rsO t p6 vr.1) ∧ At t p6 us6
theorem at_same {t u v : B} {p : Nat} (h : At t p u) (h' : At t p v) : u = v := h.eq.symm.trans h'.eq
abbrev zJ : List Value := [.int .i64 0, .int .i64 0, .string ⟨#[]⟩, .slice none 0 0, .slice none 0 0]
theorem zrow {w : World} {base g n c : Nat} {xs : List Value} (h : w.ownsRow base 25 5 (.slice (some ⟨g, 0, none⟩) (n + 1) c) (n + 1) (xs ++ zJ)) (hx : xs.length = n * 5) :
    w.cell? ⟨g, n * 5, none⟩ = some (.int .i64 0) ∧ w.cell? ⟨g, n * 5 + 1, none⟩ = some (.int .i64 0) ∧ w.cell? ⟨g, n * 5 + 2, none⟩ = some (.string ⟨#[]⟩) ∧ w.cell? ⟨g, n * 5 + 3, none⟩ = some (.slice none 0 0) ∧ w.cell? ⟨g, n * 5 + 4, none⟩ = some (.slice none 0 0) ∧ (∀ o, w.frozen? ⟨g, o, none⟩ = false) ∧ g < w.heap.size :=
  row_cells5 (z0 := .int .i64 0) (z1 := .int .i64 0) (z2 := .string ⟨#[]⟩) (z3 := .slice none 0 0) (z4 := .slice none 0 0) h hx
set_option maxRecDepth 100000 in
set_option maxHeartbeats 8000000 in
theorem itemsS_list (R Jb : Nat) (t : B) (D : Int) (hD : 2 ≤ D ∧ D ≤ 5) (rd : B → Int × J × B) (hrt : ∀ us, rd (trim us) = rd us) (W0 : World) (hR : R < W0.heap.size) (hJ : W0.heap.size ≤ Jb) (hl : t.length ≤ 65536)
    (hrd : ∀ (us : B) (p : Nat) (w : World), Hd w R (rsO t p 0) → At t p us → Calls Tryd.prog 19 #[ptr R, .int .i64 (D - 1)] w (SvP R t w (rd us)))
    (b0 : UInt8) (us : B) (p : Nat) (w : World) (h : JS R Jb t 5 W0 0 [] [] p (b0 :: us) w) (res : Int × (List B × List J) × B) (hres : bodyR rd false 93 us = res) :
    Calls Tryd.prog 52 #[ptr R, ptr Jb, .int .u8 93, .int .i64 D] w (IsP R Jb t 5 W0 res) := by
  have HRD := Lib.hid hrd
  have HRT := Lib.hid hrt
  obtain ⟨c0, c1, c2, cf⟩ := h.rd.three
  have hlt := h.rd.lt
  have hple := h.at_.lt
  have H1 := Lib.hid (show JS R Jb t 5 W0 0 [] [] (p + 1) us (w.setCell ⟨R, 1, none⟩ (.int .i64 ((p : Int) + 1))) from h.step hR hJ ((Ch.refl _ _).set rfl) (h.rd.set 1 _) h.at_.next)
  obtain ⟨i0, hi, hz0, hz1, hz2⟩ := info_parts Js.Tryd.infoJ2
  clear hrd hrt h
  go_enter Tryd.func52, Tryd.ntmps52
  go_upto_region 1 with fail
  obtain ⟨w1, hw1⟩ : ∃ w1, w1 = w.setCell ⟨R, 1, none⟩ (.int .i64 ((p : Int) + 1)) := ⟨_, rfl⟩
  rw [← hw1] at H1 ⊢
  clear hw1 c0 c1 c2 cf hlt hple
  have HB := Lib.hid (blanks_any R t us (p + 1) 0 w1 H1.out.rd H1.out.at_ hl)
  go_wp2_with fail
  refine HB.out.mono ?_
  rintro e w2 ⟨rfl, p2, h2, a2, k2⟩
  have H2 := Lib.hid (H1.out.step hR hJ k2 h2 a2)
  clear h2 a2 k2
  obtain ⟨q, hq⟩ : ∃ q, Lib.hasPrefix (trim us) [93] = q := ⟨_, rfl⟩
  have HS := Lib.hid (skip_any R t (trim us) p2 0 93 q w2 H2.out.rd H2.out.at_ hl (by rw [hq]; rfl))
  unfold bodyR at hres
  rw [hq] at hres
  clear hq
  go_wp2_with fail
  refine HS.out.mono ?_
  rintro e w3 ⟨rfl, p3, h3, a3, k3⟩
  cases q with
  | true =>
    simp only [if_true] at hres a3
    subst hres
    have H3 := Lib.hid (H2.out.step hR hJ k3 h3 a3)
    have HF := Lib.hid (show IsP R Jb t 5 W0 (0, ([], []), (trim us).tail) (.returned (.tuple #[])) w3 from ⟨rfl, fun _ => ⟨p3, H3.out⟩, H3.out.je⟩)
    clear h3 a3 k3
    go_wp2
    exact bodyPost_ret (results_none Tryd.results52 _ _ _) rfl HF.out
  | false =>
    simp only [Bool.false_eq_true, if_false] at hres a3
    have H3 := Lib.hid (H2.out.step hR hJ k3 h3 a3)
    have HRES := Lib.hid hres
    clear h3 a3 k3 hres
    go_wp2_with fail
    go_loopw [] (fun wr => (∃ (n : Nat) (ns : List B) (xs : List J) (p : Nat) (us : B), xs.length + n = 12 ∧ ns.length ≤ xs.length ∧ JS R Jb t 5 W0 0 ns xs p us wr ∧ itemsR rd false 93 n ns xs us = res) ∨ (res.1 ≠ 0 ∧ JE R Jb t 5 W0 res.1 wr)) (fun wr => muW R Jb wr)
    case atStart => exact .inl ⟨12, [], [], p3, trim us, rfl, Nat.le_refl _, H3.out, HRES.out⟩
    case round =>
      rcases hrel with ⟨n, ns, xs, p4, us4, hn, hnx, hJS, hE⟩ | ⟨hne, hJE⟩
      · have HJS := Lib.hid hJS
        have HMU := Lib.hid (mu_js hJS)
        have HNX := Lib.hid hnx
        obtain ⟨c0, c1, c2, cf⟩ := hJS.rd.three
        have HB4 := Lib.hid (blanks_any R t us4 p4 0 wr hJS.rd hJS.at_ hl)
        clear hJS
        go_wp2_with fail
        refine HB4.out.mono ?_
        rintro e w5 ⟨rfl, p5, h5, a5, k5⟩
        have H5 := Lib.hid (HJS.out.step hR hJ k5 h5 a5)
        obtain ⟨nv, iv, vals, vn, vi, Sc, o1, -, -, -, -⟩ := H5.out.ob
        obtain ⟨e0, -, -, -, -, -⟩ := Js.five_cells o1
        clear c0 c1 c2 cf h5 a5 k5 o1
        obtain ⟨c0, c1, c2, cf⟩ := H5.out.rd.three
        have HS5 := H5
        have HV := Lib.hid (HRD.out (trim us4) p5 w5 H5.out.rd H5.out.at_)
        rw [HRT.out] at HV
        have HIR := Lib.hid (show itemR rd false ns us4 = ((rd us4).1, [], (rd us4).2.1, (rd us4).2.2) from rfl)
        obtain ⟨nv, iv, vals, vn, vi, Sc, o1, o2, o3, o4, o5⟩ := HS5.out.ob
        obtain ⟨e0, e1, e2, e3, e4, ef⟩ := Js.five_cells o1
        obtain ⟨c0, c1, c2, cf⟩ := HS5.out.rd.three
        have O1 := Lib.hid o1
        have O2 := Lib.hid o2
        have O3 := Lib.hid o3
        have O4 := Lib.hid o4
        have O5 := Lib.hid o5
        obtain ⟨ai0, ci0, rfl⟩ := own_slice o3
        obtain ⟨an0, cn0, rfl⟩ := own_slice o2
        clear o1 o2 o3 o4 o5
        have hw1 : IntKind.i64.wrap (D - 1) = D - 1 := IntWalk.i64_in _ ⟨by omega, by omega⟩
        go_wp2_with fail
        refine HV.out.mono ?_
        rintro e w6 ⟨x, an, ln, cn, ai, li, ci, p6, us6, rfl, h6, a6, k6, hok⟩
        have t6 := k6.hd O1.out (by omega)
        clear e0 e1 e2 e3 e4 ef c0 c1 c2 cf
        obtain ⟨e0, e1, e2, e3, e4, ef⟩ := Js.five_cells t6
        have hJlt := t6.lt
        go_upto_region 15 with fail
        have HX6 := Lib.hid (Hd.new w6 (.cells #[.int .i64 x.kind, .int .i64 x.num, .string ⟨x.text.toArray⟩, .slice an ln cn, .slice ai li ci] 25))
        have HO6 := Lib.hid ((own_ch k6 O3.out (fun b hb e => by have := (O3.out.lt b hb).1; omega)).alloc (.cells #[.int .i64 x.kind, .int .i64 x.num, .string ⟨x.text.toArray⟩, .slice an ln cn, .slice ai li ci] 25))
        have HB67 := Lib.hid ((Below.refl w6.heap.size w6).alloc (Nat.le_refl _) (.cells #[.int .i64 x.kind, .int .i64 x.num, .string ⟨x.text.toArray⟩, .slice an ln cn, .slice ai li ci] 25))
        have HJ6 := Lib.hid (t6.al (.cells #[.int .i64 x.kind, .int .i64 x.num, .string ⟨x.text.toArray⟩, .slice an ln cn, .slice ai li ci] 25))
        obtain ⟨w7, hw7⟩ : ∃ w7, w7 = w6.alloc (.cells #[.int .i64 x.kind, .int .i64 x.num, .string ⟨x.text.toArray⟩, .slice an ln cn, .slice ai li ci] 25) := ⟨_, rfl⟩
        have hz7 : w7.heap.size = w6.heap.size + 1 := by rw [hw7]; simp
        obtain ⟨bX, hbX⟩ : ∃ bX, w6.heap.size = bX := ⟨_, rfl⟩
        rw [← hw7] at HX6 HO6 HB67 HJ6 ⊢
        rw [hbX] at HX6 ⊢
        have HZ7 := Lib.hid hz7
        have hsz0 := HS5.out.ch.size
        have hsz6 := k6.size
        have hxl : xs.length ≤ 12 := by omega
        have hlx : (xs.length : Int) < (xs.length : Int) + 1 := by omega
        have hvl : vals.length = xs.length * 5 := O3.out.1
        have HBASE := Lib.hid (show W0.heap.size ≤ (w7.alloc (.cells zJ.toArray 25)).heap.size from by simp; omega)
        have HZR := Lib.hid (fun (gg ccap : Nat) (w8 : World) (hh : w8.ownsRow W0.heap.size 25 5 (.slice (some ⟨gg, 0, none⟩) (xs.length + 1) ccap) (xs.length + 1) (vals ++ zJ)) => zrow hh hvl)
        have HJG := Lib.hid (fun (w8 : World) (hg : (w7.alloc (.cells zJ.toArray 25)).drew.grownBy w8 (Value.slice ai0 xs.length ci0).ownBlock) => show Hd w8 Jb (jbO 5 (.slice an0 ns.length cn0) (.slice ai0 xs.length ci0)) from Hd.grown (w := (w7.alloc (.cells zJ.toArray 25)).drew) (HJ6.out.al _) hg (fun e => O5.out e.symm))
        have HGJ := Lib.hid (fun (gg : Nat) (hat : (Value.slice ai0 xs.length ci0).ownBlock = some gg ∨ gg = w7.heap.size + 1) => show gg ≠ Jb from fun e => by subst e; rcases hat with h | h; exact O5.out h; have := HJ6.out.lt; omega)
        have HFIN := Lib.hid (fun (gg ccap : Nat) (w8 wf : World) (hown8 : w8.ownsRow W0.heap.size 25 5 (.slice (some ⟨gg, 0, none⟩) (xs.length + 1) ccap) (xs.length + 1) (vals ++ zJ)) (hg : (w7.alloc (.cells zJ.toArray 25)).drew.grownBy w8 (Value.slice ai0 xs.length ci0).ownBlock) (hat : (Value.slice ai0 xs.length ci0).ownBlock = some gg ∨ gg = w7.heap.size + 1)
            (hwf : wf = (set5 w8 gg (xs.length * 5) (.int .i64 x.kind) (.int .i64 x.num) (.string ⟨x.text.toArray⟩) (.slice an ln cn) (.slice ai li ci)).setCell ⟨Jb, 4, none⟩ (.slice (some ⟨gg, 0, none⟩) (xs.length + 1) ccap) ∨ wf = set5 (w8.setCell ⟨Jb, 4, none⟩ (.slice (some ⟨gg, 0, none⟩) (xs.length + 1) ccap)) gg (xs.length * 5) (.int .i64 x.kind) (.int .i64 x.num) (.string ⟨x.text.toArray⟩) (.slice an ln cn) (.slice ai li ci)) => show FinP R Jb t 5 W0 ns xs an0 ns.length cn0 (rd us4) p6 us6 wf from by
          have hb78 : Below w6.heap.size w6 (w7.alloc (.cells zJ.toArray 25)).drew := (HB67.out.alloc (by omega) _).drew
          have hp : (Value.slice ai0 xs.length ci0).ownBlock = some gg ∨ (w7.alloc (.cells zJ.toArray 25)).drew.heap.size ≤ gg := by
            rcases hat with h | h
            · exact .inl h
            · refine .inr ?_
              show (w7.alloc (.cells zJ.toArray 25)).heap.size ≤ gg
              simp; omega
          obtain ⟨f1, f2, f3⟩ := je_item HS5.out hR hJ O1.out O3.out O5.out k6 h6 a6 hb78 hown8 hg hp hwf
          refine ⟨fun h0 => ?_, f1, ⟨gg, ccap, f3⟩, f2, a6⟩
          obtain ⟨rfl, rfl, hfj, S, hoj⟩ := hok h0
          have := js_item HS5.out hR hJ O1.out O2.out O3.out O4.out O5.out k6 h6 a6 hoj hfj hb78 hown8 hg hp hwf
          rw [h0] at this
          exact this)
        clear hw7 e0 e1 e2 e3 e4 ef t6 hJlt hbX hz7 hok h6 a6 k6
        obtain ⟨e0, e1, e2, e3, e4, ef⟩ := Js.five_cells HJ6.out
        obtain ⟨x0, x1, x2, x3, x4, xf⟩ := Js.five_cells HX6.out
        have hJlt := HJ6.out.lt
        have hXlt := HX6.out.lt
        go_cut [] from 70 to 80 (fun wx => FinP R Jb t 5 W0 ns xs an0 ns.length cn0 (rd us4) p6 us6 wx)
        case first =>
          go_region_law (refine step_append_lies _ (by rfl) _ _ _ (by rfl) W0.heap.size 25 i0 _ 5 80 Tryd.underlying23 hi hz0 hz1 hz2 rfl (by omega) (.slice ai0 xs.length ci0) xs.length vals (by rfl) (HO6.out.alloc _) ⟨w7.heap.size, 0, none⟩ 1 1 zJ (by rfl) (by rfl) (World.news_of_block (cs := zJ.toArray) (t := 25) (fr := (0, 0)) (heap_alloc_new w7 _)) (by simp [Value.oneCell']) (by omega) (by unfold maxLen; omega) (by omega) HBASE.out (w7.heap.size + 1) (by simp) ?_; intro gg ccap w8 hown8 hgrow hat hlt8; obtain ⟨y0, y1, y2, y3, y4, yf, ylt⟩ := HZR.out gg ccap w8 hown8; have hJ8 := HJG.out w8 hgrow; have hgJ := HGJ.out gg hat; have hJg := Ne.symm hgJ; obtain ⟨v0, v1, v2, v3, v4, vf⟩ := Js.five_cells hJ8; have hJ8lt := hJ8.lt)
          all_goals
            have HFF := Lib.hid (fun wf hwf => HFIN.out gg ccap w8 wf hown8 hgrow hat hwf)
            clear hown8 hgrow hat y0 y1 y2 y3 y4 yf v0 v1 v2 v3 v4 vf hJ8
            go_wp2_with fail
            go_meet
            exact HFF.out _ (by first | (left; with_reducible rfl) | (right; with_reducible rfl))
        case rest =>
          clear e0 e1 e2 e3 e4 ef x0 x1 x2 x3 x4 xf hJlt hXlt HFIN HGJ HJG HZR HBASE HX6 HO6 HB67 HJ6 O1 O2 O3 O4 O5 HV
          obtain ⟨hjs, hje, ⟨g9, c9, hb9⟩, hr9, ha9⟩ := hcut
          generalize wc = wx at *
          obtain ⟨e0, e1, e2, e3, e4, ef⟩ := Js.five_cells hb9
          obtain ⟨xl, hxl⟩ : ∃ xl, xs.length = xl := ⟨_, rfl⟩
          have HXL := Lib.hid hxl
          have HHJS := Lib.hid hjs
          have HHJE := Lib.hid hje
          have HR9 := Lib.hid hr9
          have HA9 := Lib.hid ha9
          have HIR := HIR
          clear hjs hje hb9 hr9 ha9 hlx hvl
          rw [hxl] at hn e4
          clear hxl
          have hl12 : ¬ 9223372036854775807 < xl + 1 := by omega
          obtain ⟨vr, hvr⟩ : ∃ vr, rd us4 = vr := ⟨_, rfl⟩
          rw [hvr] at HHJS HHJE HR9 HIR
          clear hvr
          by_cases h0 : vr.1 = 0
          · have hi0 : (itemR rd false ns us4).1 = 0 := by rw [HIR.out]; exact h0
            have HJ9 := Lib.hid (HHJS.out h0)
            cases n with
            | zero =>
              have h6 := items_many (close := 93) (xs := xs) hi0
              rw [hE] at h6
              have g12 : 12 < xl + 1 := by omega
              have HF9 := Lib.hid (fail_any R t p6 vr.1 6 wx HR9.out)
              rw [h0] at HF9
              have HRC := Lib.hid h6
              have HNC := Lib.hid (show ((6 : Int) == 0) = false by decide)
              have HNZ := Lib.hid (show (6 : Int) ≠ 0 by decide)
              have HFK := Lib.hid (show failC 6 3 = 6 by decide)
              clear h6 hE
              go_wp2_with fail
              refine HF9.out.mono ?_
              rintro e w9 ⟨rfl, h9, k9⟩
              have HJE9 := Lib.hid (HJ9.out.je.step hR hJ k9 h9 HA9.out)
              rw [show failC 0 6 = 6 from rfl] at HJE9
              clear h9 k9 e0 e1 e2 e3 e4 ef
              obtain ⟨⟨p8, u8', r8, a8⟩, -, -⟩ := HJE9.out
              have HB8 := Lib.hid (blanks_any R t u8' p8 6 w9 r8 a8 hl)
              clear r8 a8
              go_wp2_with fail
              refine HB8.out.mono ?_
              rintro e wa ⟨rfl, pa, ha, aa, ka⟩
              have HJa := Lib.hid (HJE9.out.step hR hJ ka ha aa)
              have HSa := Lib.hid (skip_any R t (trim u8') pa 6 93 false wa ha aa hl (by rw [HNC.out]; rfl))
              clear ha aa ka
              go_wp2_with fail
              refine HSa.out.mono ?_
              rintro e wb ⟨rfl, pb, hb, ab, kb⟩
              have HJb := Lib.hid (HJa.out.step hR hJ kb hb ab)
              have HSb := Lib.hid (skip_any R t _ pb 6 44 false wb hb ab hl (by rw [HNC.out]; rfl))
              clear hb ab kb
              go_wp2_with fail
              refine HSb.out.mono ?_
              rintro e wc ⟨rfl, pc, hc, ac, kc⟩
              have HJc := Lib.hid (HJb.out.step hR hJ kc hc ac)
              have HFc := Lib.hid (fail_any R t pc 6 3 wc hc)
              go_wp2_with fail
              refine HFc.out.mono ?_
              rintro e wd ⟨rfl, hd, kd⟩
              have HJd := Lib.hid (HJc.out.step hR hJ kd hd ac)
              rw [show failC 6 3 = 6 from HFK.out] at HJd
              have HJd' := Lib.hid (show res.1 ≠ 0 ∧ JE R Jb t 5 W0 res.1 wd from by rw [HRC.out]; exact ⟨HNZ.out, HJd.out⟩)
              clear hc ac kc hd kd
              go_wp2
              go_roundw
              case rel => exact .inr HJd'.out
              case measure => rw [mu_je HJd'.out.2 HJd'.out.1, HMU.out]; omega
            | succ n =>
              have g12 : ¬ 12 < xl + 1 := by omega
              have HB9 := Lib.hid (blanks_any R t us6 p6 vr.1 wx HR9.out HA9.out hl)
              rw [h0] at HB9
              go_wp2_with fail
              refine HB9.out.mono ?_
              rintro e wa ⟨rfl, pa, ha, aa, ka⟩
              have HUS := Lib.hid (show us6 = vr.2.2 from (at_same HJ9.out.at_ HA9.out).symm)
              rw [HUS.out] at aa
              have HJa := Lib.hid (HJ9.out.step hR hJ ka ha aa)
              obtain ⟨q1, hq1⟩ : ∃ q, Lib.hasPrefix (trim vr.2.2) [93] = q := ⟨_, rfl⟩
              have HSa := Lib.hid (skip_any R t (trim vr.2.2) pa 0 93 q1 wa ha aa hl (by rw [hq1]; rfl))
              clear ha aa ka e0 e1 e2 e3 e4 ef
              go_wp2_with fail
              refine HSa.out.mono ?_
              rintro e wb ⟨rfl, pb, hb, ab, kb⟩
              cases q1 with
              | true =>
                have hEE := items_end (close := 93) (xs := xs) n hi0 (by rw [HIR.out]; exact hq1)
                rw [hE, HIR.out] at hEE
                simp only [if_true] at ab
                have HJb := Lib.hid (HJa.out.step hR hJ kb hb ab)
                have HF := Lib.hid (show IsP R Jb t 5 W0 res (.returned (.tuple #[])) wb from by rw [hEE]; exact ⟨rfl, fun _ => ⟨pb, HJb.out⟩, HJb.out.je⟩)
                clear hEE hb ab kb hE
                go_wp2
                exact bodyPost_ret (results_none Tryd.results52 _ _ _) rfl HF.out
              | false =>
                simp only [Bool.false_eq_true, if_false] at ab
                have HJb := Lib.hid (HJa.out.step hR hJ kb hb ab)
                obtain ⟨q2, hq2⟩ : ∃ q, Lib.hasPrefix (trim vr.2.2) [44] = q := ⟨_, rfl⟩
                have HSb := Lib.hid (skip_any R t (trim vr.2.2) pb 0 44 q2 wb hb ab hl (by rw [hq2]; rfl))
                clear hb ab kb
                go_wp2_with fail
                refine HSb.out.mono ?_
                rintro e wc ⟨rfl, pc, hc, ac, kc⟩
                cases q2 with
                | true =>
                  have hEE := items_next (close := 93) (xs := xs) n hi0 (by rw [HIR.out]; exact hq1) (by rw [HIR.out]; exact hq2)
                  rw [hE, HIR.out] at hEE
                  simp only [if_true] at ac
                  have HJc := Lib.hid (HJb.out.step hR hJ kc hc ac)
                  have HEE := Lib.hid (show itemsR rd false 93 n ns (xs ++ [vr.2.1]) (trim vr.2.2).tail = res from hEE.symm)
                  clear hEE hc ac kc hE
                  go_wp2
                  go_roundw
                  case rel => exact .inl ⟨n, ns, xs ++ [vr.2.1], pc, (trim vr.2.2).tail, by rw [List.length_append, HXL.out]; simp; omega, by have := HNX.out; simp; omega, HJc.out, HEE.out⟩
                  case measure => rw [mu_js HJc.out, HMU.out]; simp; have := HXL.out; omega
                | false =>
                  have hEE := items_form (close := 93) (xs := xs) n hi0 (by rw [HIR.out]; exact hq1) (by rw [HIR.out]; exact hq2)
                  rw [hE] at hEE
                  simp only [Bool.false_eq_true, if_false] at ac
                  have HJc := Lib.hid (HJb.out.step hR hJ kc hc ac)
                  have HFc := Lib.hid (fail_any R t pc 0 3 wc hc)
                  go_wp2_with fail
                  refine HFc.out.mono ?_
                  rintro e wd ⟨rfl, hd, kd⟩
                  have HJd := Lib.hid (HJc.out.je.step hR hJ kd hd ac)
                  rw [show failC 0 3 = 3 from rfl] at HJd
                  have HJd' := Lib.hid (show res.1 ≠ 0 ∧ JE R Jb t 5 W0 res.1 wd from by rw [hEE]; exact ⟨by decide, HJd.out⟩)
                  clear hEE hc ac kc hd kd hE
                  go_wp2
                  go_roundw
                  case rel => exact .inr HJd'.out
                  case measure => rw [mu_je HJd'.out.2 HJd'.out.1, HMU.out]; have := HXL.out; omega
          · have hb := items_bad (rd := rd) (obj := false) (close := 93) (ns := ns) (xs := xs) (bs := us4) (by rw [HIR.out]; exact h0) n
            rw [hE, HIR.out] at hb
            obtain ⟨cc, hcc⟩ : ∃ cc, vr.1 = cc := ⟨_, rfl⟩
            rw [hcc] at HHJE HR9 h0
            have HRC := Lib.hid (show res.1 = cc from hb.trans hcc)
            have HNC := Lib.hid (show (cc == 0) = false by simpa using h0)
            have HNZ := Lib.hid h0
            have HFK := Lib.hid (show failC cc 3 = cc by unfold failC; rw [if_neg h0])
            have HFK6 := Lib.hid (show failC cc 6 = cc by unfold failC; rw [if_neg h0])
            clear hb hcc hE h0
            by_cases g12 : 12 < xl + 1
            · have HF9 := Lib.hid (fail_any R t p6 cc 6 wx HR9.out)
              go_wp2_with fail
              refine HF9.out.mono ?_
              rintro e w9 ⟨rfl, h9, k9⟩
              have HJE9 := Lib.hid (HHJE.out.step hR hJ k9 h9 HA9.out)
              rw [show failC cc 6 = cc from HFK6.out] at HJE9
              clear h9 k9 e0 e1 e2 e3 e4 ef
              obtain ⟨⟨p8, u8', r8, a8⟩, -, -⟩ := HJE9.out
              have HB8 := Lib.hid (blanks_any R t u8' p8 cc w9 r8 a8 hl)
              clear r8 a8
              go_wp2_with fail
              refine HB8.out.mono ?_
              rintro e wa ⟨rfl, pa, ha, aa, ka⟩
              have HJa := Lib.hid (HJE9.out.step hR hJ ka ha aa)
              have HSa := Lib.hid (skip_any R t (trim u8') pa cc 93 false wa ha aa hl (by rw [HNC.out]; rfl))
              clear ha aa ka
              go_wp2_with fail
              refine HSa.out.mono ?_
              rintro e wb ⟨rfl, pb, hb, ab, kb⟩
              have HJb := Lib.hid (HJa.out.step hR hJ kb hb ab)
              have HSb := Lib.hid (skip_any R t _ pb cc 44 false wb hb ab hl (by rw [HNC.out]; rfl))
              clear hb ab kb
              go_wp2_with fail
              refine HSb.out.mono ?_
              rintro e wc ⟨rfl, pc, hc, ac, kc⟩
              have HJc := Lib.hid (HJb.out.step hR hJ kc hc ac)
              have HFc := Lib.hid (fail_any R t pc cc 3 wc hc)
              go_wp2_with fail
              refine HFc.out.mono ?_
              rintro e wd ⟨rfl, hd, kd⟩
              have HJd := Lib.hid (HJc.out.step hR hJ kd hd ac)
              rw [show failC cc 3 = cc from HFK.out] at HJd
              have HJd' := Lib.hid (show res.1 ≠ 0 ∧ JE R Jb t 5 W0 res.1 wd from by rw [HRC.out]; exact ⟨HNZ.out, HJd.out⟩)
              clear hc ac kc hd kd
              go_wp2
              go_roundw
              case rel => exact .inr HJd'.out
              case measure => rw [mu_je HJd'.out.2 HJd'.out.1, HMU.out]; omega
            · have HJE9 := HHJE
              obtain ⟨⟨p8, u8', r8, a8⟩, -, -⟩ := HJE9.out
              have HB8 := Lib.hid (blanks_any R t u8' p8 cc wx r8 a8 hl)
              clear r8 a8
              go_wp2_with fail
              refine HB8.out.mono ?_
              rintro e wa ⟨rfl, pa, ha, aa, ka⟩
              have HJa := Lib.hid (HJE9.out.step hR hJ ka ha aa)
              have HSa := Lib.hid (skip_any R t (trim u8') pa cc 93 false wa ha aa hl (by rw [HNC.out]; rfl))
              clear ha aa ka
              go_wp2_with fail
              refine HSa.out.mono ?_
              rintro e wb ⟨rfl, pb, hb, ab, kb⟩
              have HJb := Lib.hid (HJa.out.step hR hJ kb hb ab)
              have HSb := Lib.hid (skip_any R t _ pb cc 44 false wb hb ab hl (by rw [HNC.out]; rfl))
              clear hb ab kb
              go_wp2_with fail
              refine HSb.out.mono ?_
              rintro e wc ⟨rfl, pc, hc, ac, kc⟩
              have HJc := Lib.hid (HJb.out.step hR hJ kc hc ac)
              have HFc := Lib.hid (fail_any R t pc cc 3 wc hc)
              go_wp2_with fail
              refine HFc.out.mono ?_
              rintro e wd ⟨rfl, hd, kd⟩
              have HJd := Lib.hid (HJc.out.step hR hJ kd hd ac)
              rw [show failC cc 3 = cc from HFK.out] at HJd
              have HJd' := Lib.hid (show res.1 ≠ 0 ∧ JE R Jb t 5 W0 res.1 wd from by rw [HRC.out]; exact ⟨HNZ.out, HJd.out⟩)
              clear hc ac kc hd kd
              go_wp2
              go_roundw
              case rel => exact .inr HJd'.out
              case measure => rw [mu_je HJd'.out.2 HJd'.out.1, HMU.out]; omega
      · have HJE0 := Lib.hid hJE
        have HNE0 := Lib.hid hne
        obtain ⟨⟨p8, u8', r8, a8⟩, -, -⟩ := hJE
        obtain ⟨c0, c1, c2, cf⟩ := r8.three
        have g0 : (res.1 == 0) = false := by simpa using hne
        have HF := Lib.hid (show IsP R Jb t 5 W0 res (.returned (.tuple #[])) wr from ⟨rfl, fun h => absurd h HNE0.out, HJE0.out⟩)
        have HRES0 := Lib.hid (rfl : res.1 = res.1)
        clear r8 a8 hne
        obtain ⟨rc, hrc⟩ : ∃ rc, res.1 = rc := ⟨_, rfl⟩
        rw [hrc] at c2 g0
        clear hrc HNE0 HJE0
        go_wp2
        go_end0
        exact HF.out
end Go.Proofs.YtjakkmjipglkiaaDoor.Rd
