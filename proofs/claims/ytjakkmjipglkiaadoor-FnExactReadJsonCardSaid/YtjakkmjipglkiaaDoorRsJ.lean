
/-
  The model's value, walked: whatever the depth.
-/
import Derived.Test.YtjakkmjipglkiaaDoorRsI
namespace Go.Proofs.YtjakkmjipglkiaaDoor.Rd
open Go.RowKit
open Go.Proofs.YtjakkmjipglkiaaDoor.Rm
open Go.Proofs.YtjakkmjipglkiaaDoor.Js (J OJ FitJ jV cellJ strV set5 set5_far set5_size heap_set5)
theorem own_empty {w : World} {b base s : Nat} {T : TypeId} (h : Hd w b (.cells #[] T)) (hb : base ≤ b) : w.ownsRow base T s (.slice (some ⟨b, 0, none⟩) 0 0) 0 [] :=
  ⟨by simp, .inr ⟨b, 0, #[], rfl, hb, h, by simp, by simp, by simp, by simp⟩⟩
abbrev nvO (A : Nat) : Value := .slice (some ⟨A + 1, 0, none⟩) 0 0
abbrev ivO (A : Nat) : Value := .slice (some ⟨A + 1 + 1, 0, none⟩) 0 0
/-- the value being read: its lists are empty -/
structure V0 (R : Nat) (t : B) (W : World) (c k n : Int) (tx : B) (p : Nat) (us : B) (w : World) : Prop where
  rd : Hd w R (rsO t p c)
  at_ : At t p us
  nr : Hd w (W.heap.size + 1) (.cells #[] 9)
  ir : Hd w (W.heap.size + 1 + 1) (.cells #[] 25)
  jr : Hd w (W.heap.size + 1 + 1 + 1) (.cells #[.int .i64 k, .int .i64 n, .string ⟨tx.toArray⟩, nvO W.heap.size, ivO W.heap.size] 25)
  ar : Hd w W.heap.size (.cells z5J 25)
  ch : Ch (· = R) (W.alloc (.cells z5J 25)) w
theorem V0.step {R : Nat} {t : B} {W : World} {c k n : Int} {tx : B} {p : Nat} {us : B} {w w' : World} (h : V0 R t W c k n tx p us w) (hR : R < W.heap.size) (hc : Ch (· = R) w w') {c' : Int} {p' : Nat} {us' : B} (hr : Hd w' R (rsO t p' c')) (ha : At t p' us') : V0 R t W c' k n tx p' us' w' :=
  ⟨hr, ha, hc.hd h.nr (by omega), hc.hd h.ir (by omega), hc.hd h.jr (by omega), hc.hd h.ar (by omega), h.ch.trans hc⟩
theorem V0.k {R : Nat} {t : B} {W : World} {c k n : Int} {tx : B} {p : Nat} {us : B} {w : World} (h : V0 R t W c k n tx p us w) (hR : R < W.heap.size) (k' : Int) : V0 R t W c k' n tx p us (w.setCell ⟨W.heap.size + 1 + 1 + 1, 0, none⟩ (.int .i64 k')) :=
  ⟨h.rd.far (by omega), h.at_, h.nr.far (by omega), h.ir.far (by omega), h.jr.set 0 _, h.ar.far (by omega), h.ch.newer (by simp)⟩
theorem V0.n {R : Nat} {t : B} {W : World} {c k n : Int} {tx : B} {p : Nat} {us : B} {w : World} (h : V0 R t W c k n tx p us w) (hR : R < W.heap.size) (n' : Int) : V0 R t W c k n' tx p us (w.setCell ⟨W.heap.size + 1 + 1 + 1, 1, none⟩ (.int .i64 n')) :=
  ⟨h.rd.far (by omega), h.at_, h.nr.far (by omega), h.ir.far (by omega), h.jr.set 1 _, h.ar.far (by omega), h.ch.newer (by simp)⟩
theorem V0.t {R : Nat} {t : B} {W : World} {c k n : Int} {tx : B} {p : Nat} {us : B} {w : World} (h : V0 R t W c k n tx p us w) (hR : R < W.heap.size) (t' : B) : V0 R t W c k n t' p us (w.setCell ⟨W.heap.size + 1 + 1 + 1, 2, none⟩ (.string ⟨t'.toArray⟩)) :=
  ⟨h.rd.far (by omega), h.at_, h.nr.far (by omega), h.ir.far (by omega), h.jr.set 2 _, h.ar.far (by omega), h.ch.newer (by simp)⟩
theorem V0.new {R : Nat} {t : B} {W : World} {p : Nat} {us : B} (h : Hd W R (rsO t p 0)) (ha : At t p us) :
    V0 R t W 0 0 0 [] p us ((((W.alloc (.cells z5J 25)).alloc (.cells #[] 9)).alloc (.cells #[] 25)).alloc (.cells #[.int .i64 0, .int .i64 0, .string ⟨#[]⟩, nvO W.heap.size, ivO W.heap.size] 25)) := by
  have e1 : (W.alloc (.cells z5J 25)).heap.size = W.heap.size + 1 := by simp
  have h1 := Hd.new W (.cells z5J 25)
  have r1 := h.al (.cells z5J 25)
  obtain ⟨W1, hW1⟩ : ∃ W1, W1 = W.alloc (.cells z5J 25) := ⟨_, rfl⟩
  rw [← hW1] at e1 h1 r1 ⊢
  have e2 : (W1.alloc (.cells #[] 9)).heap.size = W.heap.size + 1 + 1 := by simp [e1]
  have h2 := Hd.new W1 (.cells #[] 9)
  rw [e1] at h2
  have e3 : ((W1.alloc (.cells #[] 9)).alloc (.cells #[] 25)).heap.size = W.heap.size + 1 + 1 + 1 := by simp [e1]
  have h3 := Hd.new (W1.alloc (.cells #[] 9)) (.cells #[] 25)
  rw [e2] at h3
  have h4 := Hd.new ((W1.alloc (.cells #[] 9)).alloc (.cells #[] 25)) (.cells #[.int .i64 0, .int .i64 0, .string ⟨#[]⟩, nvO W.heap.size, ivO W.heap.size] 25)
  rw [e3] at h4
  exact ⟨((r1.al _).al _).al _, ha, (h2.al _).al _, h3.al _, h4, ((h1.al _).al _).al _, by rw [← hW1]; exact (((Ch.refl _ _).alloc _).alloc _).alloc _⟩
theorem V0.js {R : Nat} {t : B} {W : World} {k : Int} {p : Nat} {us : B} {w : World} (h : V0 R t W 0 k 0 [] p us w) : JS R (W.heap.size + 1 + 1 + 1) t k (W.alloc (.cells z5J 25)) 0 [] [] p us w :=
  ⟨h.rd, h.at_, by simp, ⟨_, _, [], _, _, _, h.jr, own_empty h.nr (by simp), own_empty h.ir (by simp), Es.nil _ _ _, by simp [Value.ownBlock]⟩, h.ch⟩
theorem V0.fin {R : Nat} {t : B} {W : World} {c k n : Int} {tx : B} {p : Nat} {us : B} {w : World} (h : V0 R t W c k n tx p us w) (hR : R < W.heap.size) (res : Int × J × B) (hc : c = res.1) (hok : res.1 = 0 → J.mk k n tx [] [] = res.2.1 ∧ us = res.2.2 ∧ FitJ (.mk k n tx [] [])) (a0 a1 a2 a3 a4 : Value) :
    SvP R t W res (.returned (jV (.mk k n tx [] []) (nvO W.heap.size) (ivO W.heap.size))) (set5 w W.heap.size 0 a0 a1 a2 a3 a4) := by
  subst hc
  refine sv_fin h.rd hR h.at_ h.ch (fun h0 => ?_) rfl a0 a1 a2 a3 a4
  obtain ⟨e1, e2, e3⟩ := hok h0
  exact ⟨e1, e2, e3, es_oj (ns := []) (xs := []) (vals := []) k n tx (own_empty h.nr (Nat.le_refl _)) (by simp) (by simp) (own_empty h.ir (by omega)) (Es.nil (fun _ => True) _ _) (fun _ _ => trivial) (fun _ _ => trivial)⟩
theorem V0.dr {R : Nat} {t : B} {W : World} {c k n : Int} {tx : B} {p : Nat} {us : B} {w : World} (h : V0 R t W c k n tx p us w) (m : Nat) : V0 R t W c k n tx p us (w.drewN m) :=
  ⟨h.rd.drewN m, h.at_, h.nr.drewN m, h.ir.drewN m, h.jr.drewN m, h.ar.drewN m, h.ch.drewN m⟩
theorem strT_q (rs : B) : strT (34 :: rs) = strR rs [] := by
  unfold strT
  rw [if_pos (by simp [Lib.hasPrefix])]
  rfl
theorem fit4 {s : B} (h : s.length ≤ 120) : FitJ (.mk 4 0 s [] []) := ⟨⟨show (-9223372036854775808 : Int) ≤ 4 by decide, show (4 : Int) ≤ 9223372036854775807 by decide⟩, ⟨show (-9223372036854775808 : Int) ≤ 0 by decide, show (0 : Int) ≤ 9223372036854775807 by decide⟩, show s.length ≤ 9223372036854775807 by omega⟩
theorem fit3 {v : Int} (h : -9223372036854775808 ≤ v ∧ v ≤ 9223372036854775807) : FitJ (.mk 3 v [] [] []) := ⟨⟨show (-9223372036854775808 : Int) ≤ 3 by decide, show (3 : Int) ≤ 9223372036854775807 by decide⟩, h, show (0 : Nat) ≤ 9223372036854775807 by decide⟩
theorem itemsR_nons (rd : B → Int × J × B) (close : UInt8) : ∀ (n : Nat) (xs : List J) (bs : B), (itemsR rd false close n [] xs bs).2.1.1 = []
  | 0, _, _ => by unfold itemsR; rfl
  | n + 1, xs, bs => by
    have ih := itemsR_nons rd close n
    unfold itemsR
    split
    · split
      · rfl
      · split
        · exact ih _ _
        · rfl
    · rfl
theorem bodyR_nons (rd : B → Int × J × B) (bs : B) : (bodyR rd false 93 bs).2.1.1 = [] := by
  unfold bodyR
  split
  · rfl
  · exact itemsR_nons rd 93 12 [] _
/-- a list has been read -/
theorem V0.list {R : Nat} {t : B} {W w : World} {kd : Int} {res : Int × J × B} {q : Int × (List B × List J) × B} {e : Ending} (hR : R < W.heap.size) (hk : -9223372036854775808 ≤ kd ∧ kd ≤ 9223372036854775807)
    (h : IsP R (W.heap.size + 1 + 1 + 1) t kd (W.alloc (.cells z5J 25)) q e w) (hc : res.1 = q.1) (hok : q.1 = 0 → res.2.1 = .mk kd 0 [] q.2.1.1 q.2.1.2 ∧ res.2.2 = q.2.2 ∧ q.2.1.1.length ≤ 1000)
    {an ai : Option Addr} {ln cn li ci : Nat} (hj : Hd w (W.heap.size + 1 + 1 + 1) (jbO kd (.slice an ln cn) (.slice ai li ci))) (a0 a1 a2 a3 a4 : Value) :
    SvP R t W res (.returned (.agg #[.int .i64 kd, .int .i64 0, .string ⟨#[]⟩, .slice an ln cn, .slice ai li ci])) (set5 w W.heap.size 0 a0 a1 a2 a3 a4) := by
  obtain ⟨-, hy, hje⟩ := h
  by_cases h0 : q.1 = 0
  · obtain ⟨p', hjs⟩ := hy h0
    obtain ⟨e1, e2, e3⟩ := hok h0
    have hrd := hjs.rd
    rw [← h0, ← hc] at hrd
    exact sv_fin (x := .mk kd 0 [] q.2.1.1 q.2.1.2) hrd hR hjs.at_ hjs.ch (fun _ => ⟨e1.symm, e2.symm, ⟨hk, ⟨show (-9223372036854775808 : Int) ≤ 0 by decide, show (0 : Int) ≤ 9223372036854775807 by decide⟩, show (0 : Nat) ≤ 9223372036854775807 by decide⟩, by
      have := hjs.oj (by omega) hj kd 0 []
      simpa using this⟩) rfl a0 a1 a2 a3 a4
  · obtain ⟨⟨p', us', hrd, ha⟩, -, hch⟩ := hje
    rw [← hc] at hrd
    exact sv_fin (x := .mk kd 0 [] [] []) hrd hR ha hch (fun h => absurd (hc.symm.trans h) h0) rfl a0 a1 a2 a3 a4
set_option maxRecDepth 100000 in
set_option maxHeartbeats 8000000 in
theorem valueS_core (R : Nat) (t : B) (hl : t.length ≤ 65536) (D : Int) (rd : Option (B → Int × J × B))
    (hLI : ∀ (Jb : Nat) (W0 : World) (_ : R < W0.heap.size) (_ : W0.heap.size ≤ Jb) (b0 : UInt8) (us : B) (p : Nat) (w : World) (_ : JS R Jb t 5 W0 0 [] [] p (b0 :: us) w), Calls Tryd.prog 33 #[ptr R, ptr Jb, .int .u8 93, .int .i64 D] w (IsP R Jb t 5 W0 (lb5 rd us)))
    (hOB : ∀ (Jb : Nat) (W0 : World) (_ : R < W0.heap.size) (_ : W0.heap.size ≤ Jb) (b0 : UInt8) (us : B) (p : Nat) (w : World) (_ : JS R Jb t 6 W0 0 [] [] p (b0 :: us) w), Calls Tryd.prog 33 #[ptr R, ptr Jb, .int .u8 125, .int .i64 D] w (IsP R Jb t 6 W0 (lb6 rd us)))
    (hnl : ∀ us, (lb6 rd us).1 = 0 → (lb6 rd us).2.1.1.length ≤ 1000)
    (us : B) (p : Nat) (W : World) (h : Hd W R (rsO t p 0)) (ha : At t p us) :
    Calls Tryd.prog 19 #[ptr R, .int .i64 D] W (SvP R t W (valS rd (trim us))) := by
  have HLI := Lib.hid hLI
  have HOB := Lib.hid hOB
  have HNL := Lib.hid hnl
  have HNL := Lib.hid hnl
  have HNL := Lib.hid hnl
  have H := Lib.hid h
  have HA := Lib.hid ha
  have hlt := h.lt
  clear hLI hOB hnl h ha
  go_enter Tryd.func19, Tryd.ntmps19
  go_upto_region 2 with fail
  have HV0 := Lib.hid (V0.new H.out HA.out)
  obtain ⟨w1, hw1⟩ : ∃ w1, w1 = ((((W.alloc (.cells z5J 25)).alloc (.cells #[] 9)).alloc (.cells #[] 25)).alloc (.cells #[.int .i64 0, .int .i64 0, .string ⟨#[]⟩, nvO W.heap.size, ivO W.heap.size] 25)) := ⟨_, rfl⟩
  rw [← hw1] at HV0 ⊢
  clear hw1
  have HB := Lib.hid (blanks_any R t us p 0 w1 HV0.out.rd HV0.out.at_ hl)
  go_wp2_with fail
  refine HB.out.mono ?_
  rintro e w2 ⟨rfl, p2, h2, a2, k2⟩
  have H2 := Lib.hid (HV0.out.step hlt k2 h2 a2)
  clear h2 a2 k2 HB HV0 H HA
  have h2 := H2.out.rd.lt
  obtain ⟨c0, c1, c2, cf⟩ := H2.out.rd.three
  obtain ⟨d0, d1, d2, d3, d4, df⟩ := Js.five_cells H2.out.jr
  obtain ⟨m0, m1, m2, m3, m4, mf⟩ := Js.five_cells H2.out.ar
  have hA := H2.out.ar.lt
  have hJ := H2.out.jr.lt
  have hple := H2.out.at_.le
  generalize trim us = ts at *
  cases ts with
  | nil =>
    have hpn := H2.out.at_.nil
    subst hpn
    have HF := Lib.hid (fun m => fail_any R t t.length 0 3 (w2.drewN m) (H2.out.dr m).rd)
    go_wp2
    go_quiet (fail)
    go_wp2_with fail
    refine (HF.out _).mono ?_
    rintro e w4 ⟨rfl, h4, k4⟩
    have H4 := Lib.hid ((H2.out.dr _).step hlt k4 h4 H2.out.at_)
    clear h4 k4 c0 c1 c2 cf d0 d1 d2 d3 d4 df m0 m1 m2 m3 m4 mf hA hJ
    obtain ⟨d0, d1, d2, d3, d4, df⟩ := Js.five_cells H4.out.jr
    obtain ⟨m0, m1, m2, m3, m4, mf⟩ := Js.five_cells H4.out.ar
    have hA := H4.out.ar.lt
    have hJ := H4.out.jr.lt
    go_wp2
    exact bodyPost_ret (Js.ret_J Tryd.results19 rfl (heap_set5 H4.out.ar _ _ _ _ _)) rfl (H4.out.fin hlt _ (valS_nil rd).symm (fun h => by rw [valS_nil] at h; exact absurd h (by decide)) _ _ _ _ _)
  | cons b0 rs =>
    have hlt2 := H2.out.at_.lt
    have hby := H2.out.at_.byte
    by_cases g1 : b0 = 110
    · subst g1
      obtain ⟨r, hr⟩ : ∃ r, Lib.hasPrefix (110 :: rs) nullT = r := ⟨_, rfl⟩
      have HX := Lib.hid (valS_n rd rs)
      have HBD := Lib.hid (numR_bad (c := 110) (rs := rs) (by decide) (by decide))
      rw [hr] at HX
      have HWD := Lib.hid (fun (w : World) (h : Hd w R (rsO t p2 0)) => word_any R t (110 :: rs) [110, 117, 108, 108] p2 r w h H2.out.at_ hl (by decide) hr)
      clear hr
      go_wp2
      go_quiet (fail)
      go_wp2
      go_quiet (fail)
      go_wp2_with fail
      refine (HWD.out _ ((H2.out.dr _).k hlt 1).rd).mono ?_
      rintro e w4 ⟨rfl, p4, h4, a4, k4⟩
      have H4 := Lib.hid (((H2.out.dr _).k hlt 1).step hlt k4 h4 a4)
      clear h4 a4 k4 c0 c1 c2 cf d0 d1 d2 d3 d4 df m0 m1 m2 m3 m4 mf hA hJ
      obtain ⟨d0, d1, d2, d3, d4, df⟩ := Js.five_cells H4.out.jr
      obtain ⟨m0, m1, m2, m3, m4, mf⟩ := Js.five_cells H4.out.ar
      have hA := H4.out.ar.lt
      have hJ := H4.out.jr.lt
      go_wp2
      exact bodyPost_ret (Js.ret_J Tryd.results19 rfl (heap_set5 H4.out.ar _ _ _ _ _)) rfl (H4.out.fin hlt _ (by rw [HX.out]; cases r <;> simp [HBD.out]) (by rw [HX.out]; cases r <;> simp [HBD.out]; exact ⟨by decide, by decide, by decide⟩) _ _ _ _ _)
    by_cases g2 : b0 = 116
    · subst g2
      obtain ⟨r, hr⟩ : ∃ r, Lib.hasPrefix (116 :: rs) trueT = r := ⟨_, rfl⟩
      have HX := Lib.hid (valS_t rd rs)
      have HBD := Lib.hid (numR_bad (c := 116) (rs := rs) (by decide) (by decide))
      rw [hr] at HX
      have HWD := Lib.hid (fun (w : World) (h : Hd w R (rsO t p2 0)) => word_any R t (116 :: rs) [116, 114, 117, 101] p2 r w h H2.out.at_ hl (by decide) hr)
      clear hr g1
      go_wp2
      go_quiet (fail)
      go_wp2
      go_quiet (fail)
      go_wp2_with fail
      refine (HWD.out _ (((H2.out.dr _).k hlt 2).n hlt 1).rd).mono ?_
      rintro e w4 ⟨rfl, p4, h4, a4, k4⟩
      have H4 := Lib.hid ((((H2.out.dr _).k hlt 2).n hlt 1).step hlt k4 h4 a4)
      clear h4 a4 k4 c0 c1 c2 cf d0 d1 d2 d3 d4 df m0 m1 m2 m3 m4 mf hA hJ
      obtain ⟨d0, d1, d2, d3, d4, df⟩ := Js.five_cells H4.out.jr
      obtain ⟨m0, m1, m2, m3, m4, mf⟩ := Js.five_cells H4.out.ar
      have hA := H4.out.ar.lt
      have hJ := H4.out.jr.lt
      go_wp2
      exact bodyPost_ret (Js.ret_J Tryd.results19 rfl (heap_set5 H4.out.ar _ _ _ _ _)) rfl (H4.out.fin hlt _ (by rw [HX.out]; cases r <;> simp [HBD.out]) (by rw [HX.out]; cases r <;> simp [HBD.out]; exact ⟨by decide, by decide, by decide⟩) _ _ _ _ _)
    by_cases g3 : b0 = 102
    · subst g3
      obtain ⟨r, hr⟩ : ∃ r, Lib.hasPrefix (102 :: rs) falseT = r := ⟨_, rfl⟩
      have HX := Lib.hid (valS_f rd rs)
      have HBD := Lib.hid (numR_bad (c := 102) (rs := rs) (by decide) (by decide))
      rw [hr] at HX
      have HWD := Lib.hid (fun (w : World) (h : Hd w R (rsO t p2 0)) => word_any R t (102 :: rs) [102, 97, 108, 115, 101] p2 r w h H2.out.at_ hl (by decide) hr)
      clear hr g1 g2
      go_wp2
      go_quiet (fail)
      go_wp2
      go_quiet (fail)
      go_wp2_with fail
      refine (HWD.out _ ((H2.out.dr _).k hlt 2).rd).mono ?_
      rintro e w4 ⟨rfl, p4, h4, a4, k4⟩
      have H4 := Lib.hid (((H2.out.dr _).k hlt 2).step hlt k4 h4 a4)
      clear h4 a4 k4 c0 c1 c2 cf d0 d1 d2 d3 d4 df m0 m1 m2 m3 m4 mf hA hJ
      obtain ⟨d0, d1, d2, d3, d4, df⟩ := Js.five_cells H4.out.jr
      obtain ⟨m0, m1, m2, m3, m4, mf⟩ := Js.five_cells H4.out.ar
      have hA := H4.out.ar.lt
      have hJ := H4.out.jr.lt
      go_wp2
      exact bodyPost_ret (Js.ret_J Tryd.results19 rfl (heap_set5 H4.out.ar _ _ _ _ _)) rfl (H4.out.fin hlt _ (by rw [HX.out]; cases r <;> simp [HBD.out]) (by rw [HX.out]; cases r <;> simp [HBD.out]; exact ⟨by decide, by decide, by decide⟩) _ _ _ _ _)
    by_cases g4 : b0 = 34
    · subst g4
      have HT := Lib.hid (fun (w : World) (h : Hd w R (rsO t p2 0)) => textS_any R t (34 :: rs) p2 w h H2.out.at_ hl (strR rs []) (strT_q rs))
      have HX := Lib.hid (valS_q rd rs)
      have HSH := Lib.hid (fun h => strR_short (bs := rs) (out := []) h)
      generalize strR rs [] = sr at *
      clear g1 g2 g3
      go_wp2
      go_quiet (fail)
      go_wp2
      go_quiet (fail)
      go_wp2_with fail
      refine (HT.out _ ((H2.out.dr _).k hlt 4).rd).mono ?_
      rintro e w4 ⟨s, p4, rs4, rfl, h4, a4, ho, k4⟩
      have H4 := Lib.hid (((H2.out.dr _).k hlt 4).step hlt k4 h4 a4)
      have HO := Lib.hid ho
      clear h4 a4 k4 ho c0 c1 c2 cf d0 d1 d2 d3 d4 df m0 m1 m2 m3 m4 mf hA hJ
      obtain ⟨d0, d1, d2, d3, d4, df⟩ := Js.five_cells H4.out.jr
      obtain ⟨m0, m1, m2, m3, m4, mf⟩ := Js.five_cells H4.out.ar
      have hA := H4.out.ar.lt
      have hJ := H4.out.jr.lt
      go_wp2
      have H5 := Lib.hid (H4.out.t hlt s)
      exact bodyPost_ret (Js.ret_J Tryd.results19 rfl (heap_set5 H5.out.ar _ _ _ _ _)) rfl (H5.out.fin hlt _ (by rw [HX.out]) (by rw [HX.out]; intro h0; have h1 := HO.out h0; have h2 := HSH.out h0; rw [← h1.1] at h2; exact ⟨by simp only [h1.1], h1.2, fit4 h2⟩) _ _ _ _ _)
    by_cases g5 : b0 = 91
    · subst g5
      have HX := Lib.hid (valS_l rd rs)
      have HL := Lib.hid (fun (w : World) (h : V0 R t W 0 5 0 [] p2 (91 :: rs) w) => HLI.out _ _ (by simp; omega) (by simp) 91 rs p2 w h.js)
      clear g1 g2 g3 g4
      go_wp2
      go_quiet (fail)
      go_wp2
      go_quiet (fail)
      go_wp2_with fail
      refine (HL.out _ ((H2.out.dr _).k hlt 5)).mono ?_
      rintro e w4 hP
      obtain ⟨rfl, -, hje⟩ := id hP
      have HP := Lib.hid hP
      obtain ⟨an, ln, cn, ai, li, ci, hj⟩ := hje.ob
      have HJ4 := Lib.hid hj
      have hAr := hje.ch.hd (Hd.new W (.cells z5J 25)) (by omega)
      have HA4 := Lib.hid hAr
      clear hP hje hj hAr c0 c1 c2 cf d0 d1 d2 d3 d4 df m0 m1 m2 m3 m4 mf hA hJ
      obtain ⟨d0, d1, d2, d3, d4, df⟩ := Js.five_cells HJ4.out
      obtain ⟨m0, m1, m2, m3, m4, mf⟩ := Js.five_cells HA4.out
      have hA := HA4.out.lt
      have hJ := HJ4.out.lt
      go_wp2
      exact bodyPost_ret (Js.ret_J Tryd.results19 rfl (heap_set5 HA4.out _ _ _ _ _)) rfl (V0.list hlt ⟨by decide, by decide⟩ HP.out (by rw [HX.out]; cases rd <;> rfl) (by rw [HX.out]; intro h0; cases rd with | none => exact absurd h0 (show ¬ (12 : Int) = 0 by decide) | some rd => exact ⟨by rw [show (lb5 (some rd) rs).2.1.1 = [] from bodyR_nons rd rs]; rfl, rfl, by rw [show (lb5 (some rd) rs).2.1.1 = [] from bodyR_nons rd rs]; simp⟩) HJ4.out _ _ _ _ _)
    by_cases g6 : b0 = 123
    · subst g6
      have HX := Lib.hid (valS_o rd rs)
      have HL := Lib.hid (fun (w : World) (h : V0 R t W 0 6 0 [] p2 (123 :: rs) w) => HOB.out _ _ (by simp; omega) (by simp) 123 rs p2 w h.js)
      clear g1 g2 g3 g4 g5
      go_wp2
      go_quiet (fail)
      go_wp2
      go_quiet (fail)
      go_wp2_with fail
      refine (HL.out _ ((H2.out.dr _).k hlt 6)).mono ?_
      rintro e w4 hP
      obtain ⟨rfl, -, hje⟩ := id hP
      have HP := Lib.hid hP
      obtain ⟨an, ln, cn, ai, li, ci, hj⟩ := hje.ob
      have HJ4 := Lib.hid hj
      have hAr := hje.ch.hd (Hd.new W (.cells z5J 25)) (by omega)
      have HA4 := Lib.hid hAr
      clear hP hje hj hAr c0 c1 c2 cf d0 d1 d2 d3 d4 df m0 m1 m2 m3 m4 mf hA hJ
      obtain ⟨d0, d1, d2, d3, d4, df⟩ := Js.five_cells HJ4.out
      obtain ⟨m0, m1, m2, m3, m4, mf⟩ := Js.five_cells HA4.out
      have hA := HA4.out.lt
      have hJ := HJ4.out.lt
      go_wp2
      exact bodyPost_ret (Js.ret_J Tryd.results19 rfl (heap_set5 HA4.out _ _ _ _ _)) rfl (V0.list hlt ⟨by decide, by decide⟩ HP.out (by rw [HX.out]; cases rd <;> rfl) (by rw [HX.out]; intro h0; have hn := HNL.out rs h0; cases rd with | none => exact absurd h0 (show ¬ (12 : Int) = 0 by decide) | some rd => exact ⟨rfl, rfl, hn⟩) HJ4.out _ _ _ _ _)
    have HX := Lib.hid (valS_num rd b0 rs g1 g2 g3 g4 g5 g6)
    have e1 : ((b0.toNat : Int) == 110) = false := n8 (k := 110) (by decide) g1
    have e2 : ((b0.toNat : Int) == 116) = false := n8 (k := 116) (by decide) g2
    have e3 : ((b0.toNat : Int) == 102) = false := n8 (k := 102) (by decide) g3
    have e4 : ((b0.toNat : Int) == 34) = false := n8 (k := 34) (by decide) g4
    have e5 : ((b0.toNat : Int) == 91) = false := n8 (k := 91) (by decide) g5
    have e6 : ((b0.toNat : Int) == 123) = false := n8 (k := 123) (by decide) g6
    have HT := Lib.hid (fun (w : World) (h : Hd w R (rsO t p2 0)) => numS_all R t (b0 :: rs) p2 w h H2.out.at_ hl)
    generalize numR (b0 :: rs) = nr at *
    clear g1 g2 g3 g4 g5 g6
    go_wp2
    go_quiet (fail)
    go_wp2
    go_quiet (fail)
    go_wp2_with fail
    refine (HT.out _ ((H2.out.dr _).k hlt 3).rd).mono ?_
    rintro e w4 ⟨v, p4, rs4, rfl, h4, a4, ho, hv, k4⟩
    have H4 := Lib.hid (((H2.out.dr _).k hlt 3).step hlt k4 h4 a4)
    have HO := Lib.hid ho
    have HV := Lib.hid hv
    clear h4 a4 k4 ho hv c0 c1 c2 cf d0 d1 d2 d3 d4 df m0 m1 m2 m3 m4 mf hA hJ
    obtain ⟨d0, d1, d2, d3, d4, df⟩ := Js.five_cells H4.out.jr
    obtain ⟨m0, m1, m2, m3, m4, mf⟩ := Js.five_cells H4.out.ar
    have hA := H4.out.ar.lt
    have hJ := H4.out.jr.lt
    go_wp2
    have H5 := Lib.hid (H4.out.n hlt v)
    exact bodyPost_ret (Js.ret_J Tryd.results19 rfl (heap_set5 H5.out.ar _ _ _ _ _)) rfl (H5.out.fin hlt _ (by rw [HX.out]) (by rw [HX.out]; intro h0; have h1 := HO.out h0; exact ⟨by simp only [h1.1], h1.2, fit3 HV.out⟩) _ _ _ _ _)
theorem valR_trim : ∀ (d : Nat) (us : B), valR d (trim us) = valR d us
  | 0, us => by show valS none (trim (trim us)) = valS none (trim us); rw [trim_trim]
  | d + 1, us => by show valS _ (trim (trim us)) = valS _ (trim us); rw [trim_trim]
theorem bodyR_names (d : Nat) (us : B) (h : (bodyR (valR d) true 125 us).1 = 0) : (bodyR (valR d) true 125 us).2.1.1.length ≤ 1000 := by
  obtain ⟨h1, -, h2⟩ := bodyR_ok (d := d + 1) (fun bs hb => valR_ok d bs hb) true 125 us h
  have h3 : (bodyR (valR d) true 125 us).2.1.1.length = (bodyR (valR d) true 125 us).2.1.2.length := h2.1
  omega
theorem valueS_any (R : Nat) (t : B) (hl : t.length ≤ 65536) : ∀ (d : Nat), d ≤ 4 → ∀ (us : B) (p : Nat) (W : World), Hd W R (rsO t p 0) → At t p us →
    Calls Tryd.prog 19 #[ptr R, .int .i64 ((d : Int) + 1)] W (SvP R t W (valR d us))
  | 0, _ => fun us p W h ha => valueS_core R t hl 1 none (fun Jb W0 hR hJ b0 us p w hjs => listS_deep R Jb t 5 W0 hR hJ 93 p _ w hjs) (fun Jb W0 hR hJ b0 us p w hjs => listS_deep R Jb t 6 W0 hR hJ 125 p _ w hjs) (fun us h0 => absurd h0 (show ¬ (12 : Int) = 0 by decide)) us p W h ha
  | d + 1, hd => fun us p W h ha => by
    have ih := valueS_any R t hl d (by omega)
    have e : ((d + 1 : Nat) : Int) + 1 - 1 = (d : Int) + 1 := by omega
    rw [← e] at ih
    have hD : (2 : Int) ≤ ((d + 1 : Nat) : Int) + 1 ∧ ((d + 1 : Nat) : Int) + 1 ≤ 5 := by omega
    exact valueS_core R t hl (((d + 1 : Nat) : Int) + 1) (some (valR d))
      (fun Jb W0 hR hJ b0 us p w hjs => listS_go R Jb t 5 W0 93 _ hD.1 w _ (itemsS_list R Jb t _ hD (valR d) (valR_trim d) W0 hR hJ hl (fun us p w => ih us p w) b0 us p w hjs _ rfl))
      (fun Jb W0 hR hJ b0 us p w hjs => listS_go R Jb t 6 W0 125 _ hD.1 w _ (itemsS_obj R Jb t _ hD (valR d) (valR_trim d) W0 hR hJ hl (fun us p w => ih us p w) b0 us p w hjs _ rfl))
      (fun us h0 => bodyR_names d us h0) us p W h ha
end Go.Proofs.YtjakkmjipglkiaaDoor.Rd
