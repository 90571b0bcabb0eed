
/-
  The law FnStrip, walked.
-/
import Derived.Test.YtaogbicljbnopabDoorDrawVal
import Derived.Test.YtaogbicljbnopabDoorStripIn
namespace Go.Proofs.YtaogbicljbnopabDoor.Ul
open Go.RowKit
open Go.Proofs.YtaogbicljbnopabDoor.Dr (CodeIn UrlValue_any UrlDrawn_any urlU urlU_ok urlT urlT_ok S start_fit about)
theorem urlU_size (s : S) (hf : s.fit 0) : sizeU (urlU s) ≤ 140737488351232 ∧ (urlU s).prt ≤ 9223372036854775807 := by
  have ht := (urlT_ok s hf).len
  unfold urlU
  cases parseB (urlT s).t with
  | true =>
    simp only [if_true]
    exact ⟨split_size (urlT s).t (by omega), parseX_port _⟩
  | false =>
    simp only [Bool.false_eq_true, if_false]
    exact ⟨by simp [sizeU, about], by simp [about]⟩
set_option maxRecDepth 100000 in
theorem strip_long (a b : Option Addr) (n m cn cm : Nat) (w : World) (y0 : n ≤ maxLen) (y1 : m ≤ maxLen) (h : 1048576 < n ∨ 1048576 < m) :
    Calls Tryd.prog 6 #[.slice a n cn, .slice b m cm] w fun e w' => e = .returned (.bool true) ∧ Below w.heap.size w w' := by
  unfold maxLen at y0 y1
  have e : ((decide ((1048576 : Int) < (n : Int))) || (decide ((1048576 : Int) < (m : Int)))) = true := by simp; omega
  go_enter Tryd.func6, Tryd.ntmps6
  go_wp2
  all_goals (first | (go_ret; exact ⟨rfl, (by repeat (first | (with_reducible exact Below.refl _ _) | (with_reducible refine belI_set ?_ (by first | exact Nat.le_refl _ | simp)) | (with_reducible refine belI_alloc ?_) | (with_reducible refine Below.drew ?_) | (with_reducible refine belI_drewN ?_ _) | (with_reducible refine belI_step ?_ (by assumption))))⟩) | omega)
set_option maxRecDepth 100000 in
theorem strip_other2 (a b : Option Addr) (n m cn cm : Nat) (u : U) (t : List UInt8) (w : World) (hT : Tab w) (hM : MaxL w) (y0 : ¬ 1048576 < n) (y1 : ¬ 1048576 < m) (hl : sizeU u ≤ 140737488351232) (hp1 : u.prt ≤ 9223372036854775807) (ht : t.length ≤ 4294967280) (hok : okB u = true) (hw : webB u.sch = false)
    (HV0 : ∀ W : World, Below w.heap.size w W → Calls Tryd.prog 17 #[.slice a n cn] W fun e w' => e = .returned (uV u) ∧ Below W.heap.size W w')
    (HD0 : ∀ W : World, Below w.heap.size w W → Calls Tryd.prog 20 #[.slice b m cm] W fun e w' => e = .returned (.string ⟨t.toArray⟩) ∧ Below W.heap.size W w') :
    Calls Tryd.prog 6 #[.slice a n cn, .slice b m cm] w fun e w' => e = .returned (.bool true) ∧ Below w.heap.size w w' := by
  obtain ⟨f1, f2, f3, f4⟩ := other_facts u hok hw
  have HM := Lib.hid hM
  have HT := Lib.hid hT
  clear hM hT
  have HV := Lib.hid HV0
  have HD := Lib.hid HD0
  have HSI := Lib.hid (fun W hT => iStrip_any u W hT (by omega))
  have HSS := Lib.hid (fun W => sStrip_any u W hp1 (by omega))
  have HTI := Lib.hid (fun W hT hM => iST_any t W hT hM (by omega))
  have HTS := Lib.hid (fun W => sST_any t W (by omega))
  have HOI := Lib.hid (fun W hT => iOrigin_any u W hT (by omega))
  have HOS := Lib.hid (fun W => sOrigin_any u W hp1 (by omega))
  rw [f1, f2] at HSI HSS
  rw [f3, f4] at HOI HOS
  clear HV0 HD0 f1 f2 f3 f4
  generalize ST t = st at *
  go_enter Tryd.func6, Tryd.ntmps6
  go_wp2_with fail
  refine (HV.out _ (by repeat (first | (with_reducible exact Below.refl _ _) | (with_reducible refine belI_set ?_ (by first | exact Nat.le_refl _ | simp)) | (with_reducible refine belI_alloc ?_) | (with_reducible refine Below.drew ?_) | (with_reducible refine belI_drewN ?_ _) | (with_reducible refine belI_step ?_ (by assumption))))).mono ?_
  rintro e w1 ⟨rfl, hb1⟩
  have V1 := UAt.new w1 u
  have z1 : w1.heap.size < w1.heap.size + 1 := by omega
  go_wp2_with fail
  refine (HSI.out _ (HT.out.below (by repeat (first | (with_reducible exact Below.refl _ _) | (with_reducible refine belI_set ?_ (by first | exact Nat.le_refl _ | simp)) | (with_reducible refine belI_alloc ?_) | (with_reducible refine Below.drew ?_) | (with_reducible refine belI_drewN ?_ _) | (with_reducible refine belI_step ?_ (by assumption)))))).mono ?_
  rintro e w2 ⟨rfl, hb2⟩
  have V2 := V1.below hb2 (by simp)
  have z2 : w1.heap.size < w2.heap.size := by have := hb2.size; simp at this; omega
  have q0 := V2.k0; have q1 := V2.k1; have q2 := V2.k2; have q3 := V2.k3; have q4 := V2.k4; have q5 := V2.k5; have q6 := V2.k6; have q7 := V2.k7; have q8 := V2.k8; have qf := V2.kf
  go_wp2_with fail
  refine (HSS.out _).mono ?_
  rintro e w3 ⟨rfl, hb3⟩
  clear q0 q1 q2 q3 q4 q5 q6 q7 q8 qf
  have V3 := V2.below hb3 z2
  have z3 : w1.heap.size < w3.heap.size := by have := hb3.size; omega
  go_wp2_with fail
  refine (HD.out _ (by repeat (first | (with_reducible exact Below.refl _ _) | (with_reducible refine belI_set ?_ (by first | exact Nat.le_refl _ | simp)) | (with_reducible refine belI_alloc ?_) | (with_reducible refine Below.drew ?_) | (with_reducible refine belI_drewN ?_ _) | (with_reducible refine belI_step ?_ (by assumption))))).mono ?_
  rintro e w4 ⟨rfl, hb4⟩
  have V4 := V3.below hb4 z3
  have z4 : w1.heap.size < w4.heap.size := by have := hb4.size; omega
  go_wp2_with fail
  refine (HTI.out _ (HT.out.below (by repeat (first | (with_reducible exact Below.refl _ _) | (with_reducible refine belI_set ?_ (by first | exact Nat.le_refl _ | simp)) | (with_reducible refine belI_alloc ?_) | (with_reducible refine Below.drew ?_) | (with_reducible refine belI_drewN ?_ _) | (with_reducible refine belI_step ?_ (by assumption))))) (HM.out.below (by repeat (first | (with_reducible exact Below.refl _ _) | (with_reducible refine belI_set ?_ (by first | exact Nat.le_refl _ | simp)) | (with_reducible refine belI_alloc ?_) | (with_reducible refine Below.drew ?_) | (with_reducible refine belI_drewN ?_ _) | (with_reducible refine belI_step ?_ (by assumption)))))).mono ?_
  rintro e w5 ⟨rfl, hb5⟩
  have V5 := V4.below hb5 z4
  have z5 : w1.heap.size < w5.heap.size := by have := hb5.size; omega
  go_wp2_with fail
  refine (HD.out _ (by repeat (first | (with_reducible exact Below.refl _ _) | (with_reducible refine belI_set ?_ (by first | exact Nat.le_refl _ | simp)) | (with_reducible refine belI_alloc ?_) | (with_reducible refine Below.drew ?_) | (with_reducible refine belI_drewN ?_ _) | (with_reducible refine belI_step ?_ (by assumption))))).mono ?_
  rintro e w6 ⟨rfl, hb6⟩
  have V6 := V5.below hb6 z5
  have z6 : w1.heap.size < w6.heap.size := by have := hb6.size; omega
  go_wp2_with fail
  refine (HTS.out _).mono ?_
  rintro e w7 ⟨rfl, hb7⟩
  have V7 := V6.below hb7 z6
  have z7 : w1.heap.size < w7.heap.size := by have := hb7.size; omega
  have q0 := V7.k0; have q1 := V7.k1; have q2 := V7.k2; have q3 := V7.k3; have q4 := V7.k4; have q5 := V7.k5; have q6 := V7.k6; have q7 := V7.k7; have q8 := V7.k8; have qf := V7.kf
  go_wp2_with fail
  refine (HOI.out _ (HT.out.below (by repeat (first | (with_reducible exact Below.refl _ _) | (with_reducible refine belI_set ?_ (by first | exact Nat.le_refl _ | simp)) | (with_reducible refine belI_alloc ?_) | (with_reducible refine Below.drew ?_) | (with_reducible refine belI_drewN ?_ _) | (with_reducible refine belI_step ?_ (by assumption)))))).mono ?_
  rintro e w8 ⟨rfl, hb8⟩
  clear q0 q1 q2 q3 q4 q5 q6 q7 q8 qf
  have V8 := V7.below hb8 z7
  have z8 : w1.heap.size < w8.heap.size := by have := hb8.size; omega
  have q0 := V8.k0; have q1 := V8.k1; have q2 := V8.k2; have q3 := V8.k3; have q4 := V8.k4; have q5 := V8.k5; have q6 := V8.k6; have q7 := V8.k7; have q8 := V8.k8; have qf := V8.kf
  go_wp2_with fail
  refine (HOS.out _).mono ?_
  rintro e w9 ⟨rfl, hb9⟩
  clear q0 q1 q2 q3 q4 q5 q6 q7 q8 qf
  have V9 := V8.below hb9 z8
  have z9 : w1.heap.size < w9.heap.size := by have := hb9.size; omega
  have q0 := V9.k0; have q1 := V9.k1; have q2 := V9.k2; have q3 := V9.k3; have q4 := V9.k4; have q5 := V9.k5; have q6 := V9.k6; have q7 := V9.k7; have q8 := V9.k8; have qf := V9.kf
  go_wp2
  go_ret
  exact ⟨rfl, (by repeat (first | (with_reducible exact Below.refl _ _) | (with_reducible refine belI_set ?_ (by first | exact Nat.le_refl _ | simp)) | (with_reducible refine belI_alloc ?_) | (with_reducible refine Below.drew ?_) | (with_reducible refine belI_drewN ?_ _) | (with_reducible refine belI_step ?_ (by assumption))))⟩
theorem UAt.hasFrag {w : World} {b : Nat} {u : U} (h : UAt w b u) (x : Bool) : UAt (w.setCell ⟨b, 8, none⟩ (.bool x)) b { u with hf := x } := by
  obtain ⟨k0, k1, k2, k3, k4, k5, k6, k7, k8, kf⟩ := h
  refine ⟨?_, ?_, ?_, ?_, ?_, ?_, ?_, ?_, World.cell?_setCell_same _ _ _ k8, fun o => (World.frozen?_setCell _ _ _ _).trans (kf o)⟩ <;> (rw [World.cell?_setCell_other _ _ _ _ (by simp)]; assumption)
theorem UAt.new1 (w : World) (o : Obj) (u : U) : UAt ((w.alloc o).alloc (.cells #[.string ⟨u.sch.toArray⟩, .string ⟨u.usr.toArray⟩, .string ⟨u.hst.toArray⟩, .int .i64 u.prt, .string ⟨u.pth.toArray⟩, .string ⟨u.qry.toArray⟩, .string ⟨u.frg.toArray⟩, .bool u.hq, .bool u.hf] 26)) (w.heap.size + 1) u := by
  have h := UAt.new (w.alloc o) u
  rwa [show (w.alloc o).heap.size = w.heap.size + 1 from by simp] at h
set_option maxRecDepth 100000 in
theorem strip_web2 (a b : Option Addr) (n m cn cm : Nat) (u : U) (t st s o x : List UInt8) (cd : Int) (w : World) (hT : Tab w) (hM : MaxL w) (y0 : ¬ 1048576 < n) (y1 : ¬ 1048576 < m)
    (hx : (x = s ∧ cd = 0) ∨ (x = [] ∧ cd = 1))
    (HV0 : ∀ W : World, Below w.heap.size w W → Calls Tryd.prog 17 #[.slice a n cn] W fun e w' => e = .returned (uV u) ∧ Below W.heap.size W w')
    (HD0 : ∀ W : World, Below w.heap.size w W → Calls Tryd.prog 20 #[.slice b m cm] W fun e w' => e = .returned (.string ⟨t.toArray⟩) ∧ Below W.heap.size W w')
    (HSI0 : ∀ W : World, Tab W → Calls Tryd.prog 18 #[uV u] W fun e w' => e = .returned (.tuple #[.string ⟨s.toArray⟩, .int .i64 0]) ∧ Below W.heap.size W w')
    (HSS0 : ∀ W : World, Calls Tryd.prog 19 #[uV u] W fun e w' => e = .returned (.tuple #[.string ⟨s.toArray⟩, .int .i64 0]) ∧ Below W.heap.size W w')
    (HTI0 : ∀ W : World, Tab W → MaxL W → Calls Tryd.prog 16 #[.string ⟨t.toArray⟩] W fun e w' => e = .returned (.string ⟨st.toArray⟩) ∧ Below W.heap.size W w')
    (HTS0 : ∀ W : World, Calls Tryd.prog 15 #[.string ⟨t.toArray⟩] W fun e w' => e = .returned (.string ⟨st.toArray⟩) ∧ Below W.heap.size W w')
    (HOI0 : ∀ W : World, Tab W → Calls Tryd.prog 21 #[uV u] W fun e w' => e = .returned (.tuple #[.string ⟨o.toArray⟩, .int .i64 0]) ∧ Below W.heap.size W w')
    (HOS0 : ∀ W : World, Calls Tryd.prog 22 #[uV u] W fun e w' => e = .returned (.tuple #[.string ⟨o.toArray⟩, .int .i64 0]) ∧ Below W.heap.size W w')
    (HBI0 : ∀ W : World, Tab W → Calls Tryd.prog 18 #[.agg #[.string ⟨u.sch.toArray⟩, .string ⟨#[]⟩, .string ⟨u.hst.toArray⟩, .int .i64 u.prt, .string ⟨u.pth.toArray⟩, .string ⟨u.qry.toArray⟩, .string ⟨#[]⟩, .bool u.hq, .bool false]] W fun e w' => e = .returned (.tuple #[.string ⟨s.toArray⟩, .int .i64 0]) ∧ Below W.heap.size W w')
    (HMI0 : ∀ W : World, Tab W → Calls Tryd.prog 18 #[.agg #[.string ⟨u.sch.toArray⟩, .string ⟨#[109, 101]⟩, .string ⟨u.hst.toArray⟩, .int .i64 u.prt, .string ⟨u.pth.toArray⟩, .string ⟨u.qry.toArray⟩, .string ⟨u.frg.toArray⟩, .bool u.hq, .bool u.hf]] W fun e w' => e = .returned (.tuple #[.string ⟨x.toArray⟩, .int .i64 cd]) ∧ Below W.heap.size W w')
    (HPI0 : ∀ W : World, Tab W → MaxL W → Calls Tryd.prog 13 #[.string ⟨s.toArray⟩] W fun e w' => e = .returned (.tuple #[.agg #[.string ⟨u.sch.toArray⟩, .string ⟨#[]⟩, .string ⟨u.hst.toArray⟩, .int .i64 u.prt, .string ⟨u.pth.toArray⟩, .string ⟨u.qry.toArray⟩, .string ⟨#[]⟩, .bool u.hq, .bool false], .int .i64 0]) ∧ Below W.heap.size W w')
    (HOB0 : ∀ W : World, Tab W → Calls Tryd.prog 21 #[.agg #[.string ⟨u.sch.toArray⟩, .string ⟨#[]⟩, .string ⟨u.hst.toArray⟩, .int .i64 u.prt, .string ⟨u.pth.toArray⟩, .string ⟨u.qry.toArray⟩, .string ⟨#[]⟩, .bool u.hq, .bool false]] W fun e w' => e = .returned (.tuple #[.string ⟨o.toArray⟩, .int .i64 0]) ∧ Below W.heap.size W w')
    (HTB0 : ∀ W : World, Tab W → MaxL W → Calls Tryd.prog 16 #[.string ⟨s.toArray⟩] W fun e w' => e = .returned (.string ⟨s.toArray⟩) ∧ Below W.heap.size W w')
    (HMS0 : ∀ W : World, Calls Tryd.prog 19 #[.agg #[.string ⟨u.sch.toArray⟩, .string ⟨#[109, 101]⟩, .string ⟨u.hst.toArray⟩, .int .i64 u.prt, .string ⟨u.pth.toArray⟩, .string ⟨u.qry.toArray⟩, .string ⟨u.frg.toArray⟩, .bool u.hq, .bool u.hf]] W fun e w' => e = .returned (.tuple #[.string ⟨x.toArray⟩, .int .i64 cd]) ∧ Below W.heap.size W w') :
    Calls Tryd.prog 6 #[.slice a n cn, .slice b m cm] w fun e w' => e = .returned (.bool true) ∧ Below w.heap.size w w' := by
  have HM := Lib.hid hM
  have HT := Lib.hid hT
  have HV := Lib.hid HV0
  have HD := Lib.hid HD0
  have HSI := Lib.hid HSI0
  have HSS := Lib.hid HSS0
  have HTI := Lib.hid HTI0
  have HTS := Lib.hid HTS0
  have HOI := Lib.hid HOI0
  have HOS := Lib.hid HOS0
  have HBI := Lib.hid HBI0
  have HMI := Lib.hid HMI0
  have HPI := Lib.hid HPI0
  have HOB := Lib.hid HOB0
  have HTB := Lib.hid HTB0
  have HMS := Lib.hid HMS0
  clear hM hT HV0 HD0 HSI0 HSS0 HTI0 HTS0 HOI0 HOS0 HBI0 HMI0 HPI0 HOB0 HTB0 HMS0
  have hx := Lib.hid hx
  go_enter Tryd.func6, Tryd.ntmps6
  go_wp2_with fail
  refine (HV.out _ (by repeat (first | (with_reducible exact Below.refl _ _) | (with_reducible refine belI_set ?_ (by first | exact Nat.le_refl _ | simp)) | (with_reducible refine belI_alloc ?_) | (with_reducible refine Below.drew ?_) | (with_reducible refine belI_drewN ?_ _) | (with_reducible refine belI_step ?_ (by assumption))))).mono ?_
  rintro e w1 ⟨rfl, hb1⟩
  have V1 := UAt.new w1 u
  go_wp2_with fail
  refine (HSI.out _ (HT.out.below (by repeat (first | (with_reducible exact Below.refl _ _) | (with_reducible refine belI_set ?_ (by first | exact Nat.le_refl _ | simp)) | (with_reducible refine belI_alloc ?_) | (with_reducible refine Below.drew ?_) | (with_reducible refine belI_drewN ?_ _) | (with_reducible refine belI_step ?_ (by assumption)))))).mono ?_
  rintro e w2 ⟨rfl, hb2⟩
  have V2 := V1.below hb2 (by simp)
  have z2 : w1.heap.size < w2.heap.size := by have := hb2.size; simp at this; omega
  have q0 := V2.k0; have q1 := V2.k1; have q2 := V2.k2; have q3 := V2.k3; have q4 := V2.k4; have q5 := V2.k5; have q6 := V2.k6; have q7 := V2.k7; have q8 := V2.k8; have qf := V2.kf
  go_wp2_with fail
  refine (HSS.out _).mono ?_
  rintro e w3 ⟨rfl, hb3⟩
  clear q0 q1 q2 q3 q4 q5 q6 q7 q8 qf
  have V3 := V2.below hb3 z2
  have z3 : w1.heap.size < w3.heap.size := by have := hb3.size; omega
  go_wp2_with fail
  refine (HD.out _ (by repeat (first | (with_reducible exact Below.refl _ _) | (with_reducible refine belI_set ?_ (by first | exact Nat.le_refl _ | simp)) | (with_reducible refine belI_alloc ?_) | (with_reducible refine Below.drew ?_) | (with_reducible refine belI_drewN ?_ _) | (with_reducible refine belI_step ?_ (by assumption))))).mono ?_
  rintro e w4 ⟨rfl, hb4⟩
  have V4 := V3.below hb4 z3
  have z4 : w1.heap.size < w4.heap.size := by have := hb4.size; omega
  go_wp2_with fail
  refine (HTI.out _ (HT.out.below (by repeat (first | (with_reducible exact Below.refl _ _) | (with_reducible refine belI_set ?_ (by first | exact Nat.le_refl _ | simp)) | (with_reducible refine belI_alloc ?_) | (with_reducible refine Below.drew ?_) | (with_reducible refine belI_drewN ?_ _) | (with_reducible refine belI_step ?_ (by assumption))))) (HM.out.below (by repeat (first | (with_reducible exact Below.refl _ _) | (with_reducible refine belI_set ?_ (by first | exact Nat.le_refl _ | simp)) | (with_reducible refine belI_alloc ?_) | (with_reducible refine Below.drew ?_) | (with_reducible refine belI_drewN ?_ _) | (with_reducible refine belI_step ?_ (by assumption)))))).mono ?_
  rintro e w5 ⟨rfl, hb5⟩
  have V5 := V4.below hb5 z4
  have z5 : w1.heap.size < w5.heap.size := by have := hb5.size; omega
  go_wp2_with fail
  refine (HD.out _ (by repeat (first | (with_reducible exact Below.refl _ _) | (with_reducible refine belI_set ?_ (by first | exact Nat.le_refl _ | simp)) | (with_reducible refine belI_alloc ?_) | (with_reducible refine Below.drew ?_) | (with_reducible refine belI_drewN ?_ _) | (with_reducible refine belI_step ?_ (by assumption))))).mono ?_
  rintro e w6 ⟨rfl, hb6⟩
  have V6 := V5.below hb6 z5
  have z6 : w1.heap.size < w6.heap.size := by have := hb6.size; omega
  go_wp2_with fail
  refine (HTS.out _).mono ?_
  rintro e w7 ⟨rfl, hb7⟩
  have V7 := V6.below hb7 z6
  have z7 : w1.heap.size < w7.heap.size := by have := hb7.size; omega
  have q0 := V7.k0; have q1 := V7.k1; have q2 := V7.k2; have q3 := V7.k3; have q4 := V7.k4; have q5 := V7.k5; have q6 := V7.k6; have q7 := V7.k7; have q8 := V7.k8; have qf := V7.kf
  go_wp2_with fail
  refine (HOI.out _ (HT.out.below (by repeat (first | (with_reducible exact Below.refl _ _) | (with_reducible refine belI_set ?_ (by first | exact Nat.le_refl _ | simp)) | (with_reducible refine belI_alloc ?_) | (with_reducible refine Below.drew ?_) | (with_reducible refine belI_drewN ?_ _) | (with_reducible refine belI_step ?_ (by assumption)))))).mono ?_
  rintro e w8 ⟨rfl, hb8⟩
  clear q0 q1 q2 q3 q4 q5 q6 q7 q8 qf
  have V8 := V7.below hb8 z7
  have z8 : w1.heap.size < w8.heap.size := by have := hb8.size; omega
  have q0 := V8.k0; have q1 := V8.k1; have q2 := V8.k2; have q3 := V8.k3; have q4 := V8.k4; have q5 := V8.k5; have q6 := V8.k6; have q7 := V8.k7; have q8 := V8.k8; have qf := V8.kf
  go_wp2_with fail
  refine (HOS.out _).mono ?_
  rintro e w9 ⟨rfl, hb9⟩
  clear q0 q1 q2 q3 q4 q5 q6 q7 q8 qf
  have V9 := V8.below hb9 z8
  have z9 : w1.heap.size < w9.heap.size := by have := hb9.size; omega
  have q0 := V9.k0; have q1 := V9.k1; have q2 := V9.k2; have q3 := V9.k3; have q4 := V9.k4; have q5 := V9.k5; have q6 := V9.k6; have q7 := V9.k7; have q8 := V9.k8; have qf := V9.kf
  have n1 : w1.heap.size ≠ w9.heap.size := by omega
  have n2 : w9.heap.size ≠ w1.heap.size := by omega
  go_wp2_with fail
  refine (HBI.out _ (HT.out.below (by repeat (first | (with_reducible exact Below.refl _ _) | (with_reducible refine belI_set ?_ (by first | exact Nat.le_refl _ | simp)) | (with_reducible refine belI_alloc ?_) | (with_reducible refine Below.drew ?_) | (with_reducible refine belI_drewN ?_ _) | (with_reducible refine belI_step ?_ (by assumption)))))).mono ?_
  rintro e w10 ⟨rfl, hb10⟩
  clear q0 q1 q2 q3 q4 q5 q6 q7 q8 qf
  clear n1 n2
  have VB10 : UAt w10 w9.heap.size (bare u) := UAt.below (UAt.alloc (UAt.new w9 (bare u)) _ (by simp)) hb10 (by simp; omega)
  have VM10 : UAt w10 (w9.heap.size + 1) (meU u) := UAt.below (UAt.new1 w9 _ (meU u)) hb10 (by simp)
  have s10 : w9.heap.size + 1 < w10.heap.size := by have := hb10.size; simp at this; omega
  have q0 : w10.cell? ⟨w9.heap.size + 1, 0, none⟩ = some (.string ⟨u.sch.toArray⟩) := VM10.k0
  have q1 : w10.cell? ⟨w9.heap.size + 1, 1, none⟩ = some (.string ⟨#[109, 101]⟩) := VM10.k1
  have q2 : w10.cell? ⟨w9.heap.size + 1, 2, none⟩ = some (.string ⟨u.hst.toArray⟩) := VM10.k2
  have q3 : w10.cell? ⟨w9.heap.size + 1, 3, none⟩ = some (.int .i64 u.prt) := VM10.k3
  have q4 : w10.cell? ⟨w9.heap.size + 1, 4, none⟩ = some (.string ⟨u.pth.toArray⟩) := VM10.k4
  have q5 : w10.cell? ⟨w9.heap.size + 1, 5, none⟩ = some (.string ⟨u.qry.toArray⟩) := VM10.k5
  have q6 : w10.cell? ⟨w9.heap.size + 1, 6, none⟩ = some (.string ⟨u.frg.toArray⟩) := VM10.k6
  have q7 : w10.cell? ⟨w9.heap.size + 1, 7, none⟩ = some (.bool u.hq) := VM10.k7
  have q8 : w10.cell? ⟨w9.heap.size + 1, 8, none⟩ = some (.bool u.hf) := VM10.k8
  have qf := VM10.kf
  go_wp2_with fail
  refine (HMI.out _ (HT.out.below (by repeat (first | (with_reducible exact Below.refl _ _) | (with_reducible refine belI_set ?_ (by first | exact Nat.le_refl _ | simp)) | (with_reducible refine belI_alloc ?_) | (with_reducible refine Below.drew ?_) | (with_reducible refine belI_drewN ?_ _) | (with_reducible refine belI_step ?_ (by assumption)))))).mono ?_
  rintro e w11 ⟨rfl, hb11⟩
  clear q0 q1 q2 q3 q4 q5 q6 q7 q8 qf
  have VB11 := VB10.below hb11 (by omega)
  have VM11 := VM10.below hb11 (by omega)
  have s11 : w9.heap.size + 1 < w11.heap.size := by have := hb11.size; omega
  go_wp2_with fail
  refine (HPI.out _ (HT.out.below (by repeat (first | (with_reducible exact Below.refl _ _) | (with_reducible refine belI_set ?_ (by first | exact Nat.le_refl _ | simp)) | (with_reducible refine belI_alloc ?_) | (with_reducible refine Below.drew ?_) | (with_reducible refine belI_drewN ?_ _) | (with_reducible refine belI_step ?_ (by assumption))))) (HM.out.below (by repeat (first | (with_reducible exact Below.refl _ _) | (with_reducible refine belI_set ?_ (by first | exact Nat.le_refl _ | simp)) | (with_reducible refine belI_alloc ?_) | (with_reducible refine Below.drew ?_) | (with_reducible refine belI_drewN ?_ _) | (with_reducible refine belI_step ?_ (by assumption)))))).mono ?_
  rintro e w12 ⟨rfl, hb12⟩
  have VB12 := VB11.below hb12 (by omega)
  have VM12 := VM11.below hb12 (by omega)
  have s12 : w9.heap.size + 1 < w12.heap.size := by have := hb12.size; omega
  go_wp2_with fail
  refine (HOB.out _ (HT.out.below (by repeat (first | (with_reducible exact Below.refl _ _) | (with_reducible refine belI_set ?_ (by first | exact Nat.le_refl _ | simp)) | (with_reducible refine belI_alloc ?_) | (with_reducible refine Below.drew ?_) | (with_reducible refine belI_drewN ?_ _) | (with_reducible refine belI_step ?_ (by assumption)))))).mono ?_
  rintro e w13 ⟨rfl, hb13⟩
  have VB13 := (VB12.alloc _ (by omega)).below hb13 (by simp; omega)
  have VM13 := (VM12.alloc _ (by omega)).below hb13 (by simp; omega)
  have VY13 : UAt w13 w12.heap.size (bare u) := UAt.below (UAt.new w12 (bare u)) hb13 (by simp)
  have s13 : w9.heap.size + 1 < w13.heap.size := by have := hb13.size; simp at this; omega
  have q0 : w13.cell? ⟨w9.heap.size, 0, none⟩ = some (.string ⟨u.sch.toArray⟩) := VB13.k0
  have q1 : w13.cell? ⟨w9.heap.size, 1, none⟩ = some (.string ⟨#[]⟩) := VB13.k1
  have q2 : w13.cell? ⟨w9.heap.size, 2, none⟩ = some (.string ⟨u.hst.toArray⟩) := VB13.k2
  have q3 : w13.cell? ⟨w9.heap.size, 3, none⟩ = some (.int .i64 u.prt) := VB13.k3
  have q4 : w13.cell? ⟨w9.heap.size, 4, none⟩ = some (.string ⟨u.pth.toArray⟩) := VB13.k4
  have q5 : w13.cell? ⟨w9.heap.size, 5, none⟩ = some (.string ⟨u.qry.toArray⟩) := VB13.k5
  have q6 : w13.cell? ⟨w9.heap.size, 6, none⟩ = some (.string ⟨#[]⟩) := VB13.k6
  have q7 : w13.cell? ⟨w9.heap.size, 7, none⟩ = some (.bool u.hq) := VB13.k7
  have q8 : w13.cell? ⟨w9.heap.size, 8, none⟩ = some (.bool false) := VB13.k8
  have qf := VB13.kf
  have r0 : w13.cell? ⟨w12.heap.size, 0, none⟩ = some (.string ⟨u.sch.toArray⟩) := VY13.k0
  have r1 : w13.cell? ⟨w12.heap.size, 1, none⟩ = some (.string ⟨#[]⟩) := VY13.k1
  have r2 : w13.cell? ⟨w12.heap.size, 2, none⟩ = some (.string ⟨u.hst.toArray⟩) := VY13.k2
  have r3 : w13.cell? ⟨w12.heap.size, 3, none⟩ = some (.int .i64 u.prt) := VY13.k3
  have r4 : w13.cell? ⟨w12.heap.size, 4, none⟩ = some (.string ⟨u.pth.toArray⟩) := VY13.k4
  have r5 : w13.cell? ⟨w12.heap.size, 5, none⟩ = some (.string ⟨u.qry.toArray⟩) := VY13.k5
  have r6 : w13.cell? ⟨w12.heap.size, 6, none⟩ = some (.string ⟨#[]⟩) := VY13.k6
  have r7 : w13.cell? ⟨w12.heap.size, 7, none⟩ = some (.bool u.hq) := VY13.k7
  have r8 : w13.cell? ⟨w12.heap.size, 8, none⟩ = some (.bool false) := VY13.k8
  have rf := VY13.kf
  go_wp2_with fail
  refine (HTB.out _ (HT.out.below (by repeat (first | (with_reducible exact Below.refl _ _) | (with_reducible refine belI_set ?_ (by first | exact Nat.le_refl _ | simp)) | (with_reducible refine belI_alloc ?_) | (with_reducible refine Below.drew ?_) | (with_reducible refine belI_drewN ?_ _) | (with_reducible refine belI_step ?_ (by assumption))))) (HM.out.below (by repeat (first | (with_reducible exact Below.refl _ _) | (with_reducible refine belI_set ?_ (by first | exact Nat.le_refl _ | simp)) | (with_reducible refine belI_alloc ?_) | (with_reducible refine Below.drew ?_) | (with_reducible refine belI_drewN ?_ _) | (with_reducible refine belI_step ?_ (by assumption)))))).mono ?_
  rintro e w14 ⟨rfl, hb14⟩
  clear q0 q1 q2 q3 q4 q5 q6 q7 q8 qf
  clear r0 r1 r2 r3 r4 r5 r6 r7 r8 rf
  have VM14 := VM13.below hb14 (by omega)
  have q0 : w14.cell? ⟨w9.heap.size + 1, 0, none⟩ = some (.string ⟨u.sch.toArray⟩) := VM14.k0
  have q1 : w14.cell? ⟨w9.heap.size + 1, 1, none⟩ = some (.string ⟨#[109, 101]⟩) := VM14.k1
  have q2 : w14.cell? ⟨w9.heap.size + 1, 2, none⟩ = some (.string ⟨u.hst.toArray⟩) := VM14.k2
  have q3 : w14.cell? ⟨w9.heap.size + 1, 3, none⟩ = some (.int .i64 u.prt) := VM14.k3
  have q4 : w14.cell? ⟨w9.heap.size + 1, 4, none⟩ = some (.string ⟨u.pth.toArray⟩) := VM14.k4
  have q5 : w14.cell? ⟨w9.heap.size + 1, 5, none⟩ = some (.string ⟨u.qry.toArray⟩) := VM14.k5
  have q6 : w14.cell? ⟨w9.heap.size + 1, 6, none⟩ = some (.string ⟨u.frg.toArray⟩) := VM14.k6
  have q7 : w14.cell? ⟨w9.heap.size + 1, 7, none⟩ = some (.bool u.hq) := VM14.k7
  have q8 : w14.cell? ⟨w9.heap.size + 1, 8, none⟩ = some (.bool u.hf) := VM14.k8
  have qf := VM14.kf
  go_wp2_with fail
  refine (HMS.out _).mono ?_
  rintro e w15 ⟨rfl, hb15⟩
  rcases hx.out with ⟨rfl, rfl⟩ | ⟨rfl, rfl⟩
  all_goals (go_wp2; go_ret; exact ⟨rfl, (by repeat (first | (with_reducible exact Below.refl _ _) | (with_reducible refine belI_set ?_ (by first | exact Nat.le_refl _ | simp)) | (with_reducible refine belI_alloc ?_) | (with_reducible refine Below.drew ?_) | (with_reducible refine belI_drewN ?_ _) | (with_reducible refine belI_step ?_ (by assumption))))⟩)
theorem strip_walk (a : Option Addr) (code : List UInt8) (cn : Nat) (y0 : code.length ≤ maxLen) (b : Option Addr) (more : List UInt8) (cm : Nat) (y1 : more.length ≤ maxLen) (w : World) (hc : CodeIn w (.slice a code.length cn) code) (hm : CodeIn w (.slice b more.length cm) more) (hT : Tab w) (hM : MaxL w) :
    Calls Tryd.prog 6 #[.slice a code.length cn, .slice b more.length cm] w fun e w' => e = .returned (.bool true) ∧ Below w.heap.size w w' := by
  by_cases h0 : 1048576 < code.length
  · exact strip_long a b _ _ cn cm w y0 y1 (.inl h0)
  by_cases h1 : 1048576 < more.length
  · exact strip_long a b _ _ cn cm w y0 y1 (.inr h1)
  obtain ⟨hl, hp1⟩ := urlU_size (S.start code) (start_fit code)
  have hok := urlU_ok (S.start code)
  have ht : (urlT (S.start more)).t.length ≤ 65536 := by have := (urlT_ok (S.start more) (start_fit more)).len; omega
  have HV := fun (W : World) (hb : Below w.heap.size w W) => UrlValue_any _ code W (hc.below hb) (by omega)
  have HD := fun (W : World) (hb : Below w.heap.size w W) => UrlDrawn_any _ more W (hm.below hb) (by omega)
  generalize urlU (S.start code) = u at *
  generalize (urlT (S.start more)).t = t at *
  clear hc hm
  cases hw : webB u.sch with
  | false => exact strip_other2 a b _ _ cn cm u t w hT hM h0 h1 hl hp1 (by omega) hok hw HV HD
  | true =>
    obtain ⟨s, o, g1, g2, g3, g4, g5, g6, g7, g8, g9, g10, g11, g12, g13⟩ := strip_facts u hok hw
    have lb : sizeU (bare u) ≤ 140737488351232 := Nat.le_trans (by simp [sizeU, bare]; omega) hl
    have lm : sizeU (meU u) ≤ 140737488351234 := Nat.le_trans (m := sizeU u + 2) (by simp [sizeU, meU]; omega) (by omega)
    have HSI := fun W hT => iStrip_any u W hT (by omega)
    have HSS := fun W => sStrip_any u W hp1 (by omega)
    have HTI := fun W hT hM => iST_any t W hT hM (by omega)
    have HTS := fun W => sST_any t W (by omega)
    have HOI := fun W hT => iOrigin_any u W hT (by omega)
    have HOS := fun W => sOrigin_any u W hp1 (by omega)
    have HBI := fun W hT => iStrip_any (bare u) W hT (by omega)
    have HMI := fun W hT => iStrip_any (meU u) W hT (by omega)
    have HPI := fun W hT hM => pI_any s W hT hM (by omega)
    have HOB := fun W hT => iOrigin_any (bare u) W hT (by omega)
    have HTB := fun W hT hM => iST_any s W hT hM (by omega)
    have HMS := fun W => sStrip_any (meU u) W hp1 (by omega)
    rw [g1, g2] at HSI HSS
    rw [g3, g4] at HOI HOS
    rw [g5, g6] at HBI
    rw [g7, g8] at HPI
    rw [g9, g10] at HOB
    rw [g11] at HTB
    exact strip_web2 a b _ _ cn cm u t (ST t) s o (stripO (meU u)) (stripC (meU u)) w hT hM h0 h1 g13 HV HD HSI HSS HTI HTS HOI HOS HBI HMI HPI HOB HTB HMS
end Go.Proofs.YtaogbicljbnopabDoor.Ul
