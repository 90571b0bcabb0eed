
/-
  The law FnUrls, walked.
-/
import Derived.Test.YtjjabbdnoapnkabDoorUrlsIn
import Derived.Test.YtjjabbdnoapnkabDoorExt
import Derived.Handy
namespace Go.Proofs.YtjjabbdnoapnkabDoor.Dr
open Go.RowKit
theorem TextsAt.below {w w' : World} {g : Nat} {ts : List (List UInt8)} (h : TextsAt w g ts) (hb : Below w.heap.size w w') (hlt : g < w.heap.size) : TextsAt w' g ts := fun j hj => (hb.cell (p := ⟨g, j, none⟩) hlt).trans (h j hj)
theorem TextsAt.alloc {w : World} {g : Nat} {ts : List (List UInt8)} (h : TextsAt w g ts) (o : Obj) (hlt : g < w.heap.size) : TextsAt (w.alloc o) g ts := fun j hj => (World.cell?_alloc_past _ _ _ hlt).trans (h j hj)
end Go.Proofs.YtjjabbdnoapnkabDoor.Dr
namespace Go.Proofs.YtjjabbdnoapnkabDoor.Ul
open Go.RowKit
open Go.Proofs.YtjjabbdnoapnkabDoor.Dr (CodeIn UrlValue_any UrlDrawn_any AnyUrlDrawn_any)
open Go.Proofs.YtjjabbdnoapnkabDoor.Ext (up up_below up_mk wp_region_ext call_ext call_ext_same call_ext_drewN)
@[local go_sem] theorem up_cellU (w : World) (y : Ext.Ext w) (b o : Nat) (h : b < w.heap.size) : (up w y).cell? ⟨b, o, none⟩ = w.cell? ⟨b, o, none⟩ := Ext.up_cell w y b o h
set_option maxRecDepth 100000 in
set_option maxHeartbeats 40000000 in
theorem urls_in (a b : Option Addr) (n m cn cm : Nat) (u : U) (t t3 : List UInt8) (w : World) (hT : Tab w) (hM : MaxL w) (y0 : ¬ 1048576 < n) (y1 : ¬ 1048576 < m) (hcm : m ≤ cm) (hl : sizeU u ≤ 140737488351232) (hp1 : u.prt ≤ 9223372036854775807) (ht : t.length ≤ 1000) (ht3 : t3.length ≤ 1000) (hok : okB u = true)
    (HV0 : ∀ W : World, Below w.heap.size w W → Calls Tryd.prog 4 #[.slice a n cn] W fun e w' => e = .returned (uV u) ∧ Below W.heap.size W w')
    (HD0 : ∀ W : World, Below w.heap.size w W → Calls Tryd.prog 10 #[.slice b m cm] W fun e w' => e = .returned (.string ⟨t.toArray⟩) ∧ Below W.heap.size W w')
    (HA0 : ∀ W : World, Below w.heap.size w W → Calls Tryd.prog 9 #[.slice b m cm] W fun e w' => ∃ t : List UInt8, e = .returned (.string ⟨t.toArray⟩) ∧ t.length ≤ 1000 ∧ Below W.heap.size W w')
    (HC0 : ∀ (W : World) (cap : Nat), Below w.heap.size w W → (convert 22 9 (.slice b (min (m : Int) 60).toNat cap)).run Tryd.prog W = .ok (.string ⟨t3.toArray⟩) W) :
    Calls Tryd.prog 3 #[.slice a n cn, .slice b m cm] w fun e w' => e = .returned (.bool true) ∧ Below w.heap.size w w' := by
  obtain ⟨p1, p2, p3⟩ := PU_back u hok
  have tl := text_len u hok
  have HM := Lib.hid hM
  have HT := Lib.hid hT
  clear hM hT
  have HV := Lib.hid HV0
  have HD := Lib.hid HD0
  have HA := Lib.hid HA0
  have HC := Lib.hid HC0
  have HUI := Lib.hid (fun W hT => iText_ok u W hT (by omega) hok)
  have HUS := Lib.hid (fun W => sText_ok u W hp1 (by omega) hok)
  have HPI0 := fun W hT hM => pI_any (textL u) W hT hM (by omega)
  have HKI0 := fun W hT => iOK_any u W hT (by omega)
  rw [p1, p2] at HPI0
  rw [hok] at HKI0
  have HPI := Lib.hid HPI0
  have HKI := Lib.hid HKI0
  clear HV0 HD0 HA0 HC0 HPI0 HKI0 p1 p2 p3 tl
  generalize textL u = tx at *
  go_enter Tryd.func3, Tryd.ntmps3
  go_wp2_with fail
  refine (HV.out _ (by repeat (first | (with_reducible exact Below.refl _ _) | (with_reducible refine belI_set ?_ (by first | exact Nat.le_refl _ | simp)) | (with_reducible refine belI_alloc ?_) | (with_reducible refine Below.drew ?_) | (with_reducible refine belI_drewN ?_ _) | (with_reducible refine belI_step ?_ (by assumption))))).mono ?_
  rintro e w1 ⟨rfl, hb1⟩
  have V1 := UAt.new w1 u
  go_wp2_with fail
  refine (HUI.out _ (HT.out.below (by repeat (first | (with_reducible exact Below.refl _ _) | (with_reducible refine belI_set ?_ (by first | exact Nat.le_refl _ | simp)) | (with_reducible refine belI_alloc ?_) | (with_reducible refine Below.drew ?_) | (with_reducible refine belI_drewN ?_ _) | (with_reducible refine belI_step ?_ (by assumption)))))).mono ?_
  rintro e w2 ⟨rfl, hb2⟩
  have V2 := V1.below hb2 (by simp)
  have z2 : w1.heap.size < w2.heap.size := by have := hb2.size; simp at this; omega
  have q0 := V2.k0; have q1 := V2.k1; have q2 := V2.k2; have q3 := V2.k3; have q4 := V2.k4; have q5 := V2.k5; have q6 := V2.k6; have q7 := V2.k7; have q8 := V2.k8; have qf := V2.kf
  go_wp2_with fail
  refine (HUS.out _).mono ?_
  rintro e w3 ⟨rfl, hb3⟩
  clear q0 q1 q2 q3 q4 q5 q6 q7 q8 qf
  have V3 := V2.below hb3 z2
  have z3 : w1.heap.size < w3.heap.size := by have := hb3.size; omega
  have q0 := V3.k0; have q1 := V3.k1; have q2 := V3.k2; have q3 := V3.k3; have q4 := V3.k4; have q5 := V3.k5; have q6 := V3.k6; have q7 := V3.k7; have q8 := V3.k8; have qf := V3.kf
  go_wp2_with fail
  refine (HPI.out _ (HT.out.below (by repeat (first | (with_reducible exact Below.refl _ _) | (with_reducible refine belI_set ?_ (by first | exact Nat.le_refl _ | simp)) | (with_reducible refine belI_alloc ?_) | (with_reducible refine Below.drew ?_) | (with_reducible refine belI_drewN ?_ _) | (with_reducible refine belI_step ?_ (by assumption))))) (HM.out.below (by repeat (first | (with_reducible exact Below.refl _ _) | (with_reducible refine belI_set ?_ (by first | exact Nat.le_refl _ | simp)) | (with_reducible refine belI_alloc ?_) | (with_reducible refine Below.drew ?_) | (with_reducible refine belI_drewN ?_ _) | (with_reducible refine belI_step ?_ (by assumption)))))).mono ?_
  rintro e w4 ⟨rfl, hb4⟩
  clear q0 q1 q2 q3 q4 q5 q6 q7 q8 qf
  have V4 := V3.below hb4 z3
  have z4 : w1.heap.size < w4.heap.size := by have := hb4.size; omega
  have Y4 := UAt.new w4 u
  have q0 := V4.k0; have q1 := V4.k1; have q2 := V4.k2; have q3 := V4.k3; have q4 := V4.k4; have q5 := V4.k5; have q6 := V4.k6; have q7 := V4.k7; have q8 := V4.k8; have qf := V4.kf
  go_wp2_with fail
  refine (HKI.out _ (HT.out.below (by repeat (first | (with_reducible exact Below.refl _ _) | (with_reducible refine belI_set ?_ (by first | exact Nat.le_refl _ | simp)) | (with_reducible refine belI_alloc ?_) | (with_reducible refine Below.drew ?_) | (with_reducible refine belI_drewN ?_ _) | (with_reducible refine belI_step ?_ (by assumption)))))).mono ?_
  rintro e w5 ⟨rfl, hb5⟩
  clear q0 q1 q2 q3 q4 q5 q6 q7 q8 qf
  have V5 := (V4.alloc _ z4).below hb5 (by simp; omega)
  have z5 : w1.heap.size < w5.heap.size := by have := hb5.size; simp at this; omega
  have B5 : Below w.heap.size w w5 := (by repeat (first | (with_reducible exact Below.refl _ _) | (with_reducible refine belI_set ?_ (by first | exact Nat.le_refl _ | simp)) | (with_reducible refine belI_alloc ?_) | (with_reducible refine Below.drew ?_) | (with_reducible refine belI_drewN ?_ _) | (with_reducible refine belI_step ?_ (by assumption))))
  clear hb1 hb2 hb3 hb4 hb5 V1 V2 V3 V4 Y4 z2 z3 z4 HUI HUS HPI HKI HV
  go_wp2_with fail
  have HC' := HC.out
  have k1 : (0 : Int) ≤ min (m : Int) 60 := by omega
  have k2 : min (m : Int) 60 ≤ (cm : Int) := by omega
  go_region_held3 (fun wx => Below w.heap.size w wx ∧ UAt wx w1.heap.size u ∧ w1.heap.size < wx.heap.size)
    (first
      | exact ⟨B5.drew, V5.drew, z5⟩
      | (go_split_ands; exact ⟨belI_alloc (by assumption), UAt.alloc (by assumption) _ (by assumption), by simp; omega⟩)
      | (go_split_ands; exact ⟨belI_step (by assumption) hb, UAt.below (by assumption) hb (by assumption), Nat.lt_of_lt_of_le (by assumption) hb.size⟩))
    (first
      | (go_split_ands; go_at_call 9; refine (HA.out _ (by assumption)).mono ?_; rintro e w6 ⟨t0, rfl, lt0, hb⟩)
      | (go_split_ands; go_at_call 10; refine (HD.out _ (by assumption)).mono ?_; rintro e w7 ⟨rfl, hb⟩))
  all_goals
    go_split_ands
    clear HC' k1 k2
    have HTX := Dr.texts_new w7 [t0, t, t3] 9
    have g7 : w7.heap.size < (w7.alloc (.cells #[.string ⟨t0.toArray⟩, .string ⟨t.toArray⟩, .string ⟨t3.toArray⟩] 9)).heap.size := by simp
    go_wp2_with fail
    go_loopw [13] (fun i wr => ∃ k : Nat, k ≤ 3 ∧ i = .int .i64 k ∧ Dr.TextsAt wr w7.heap.size [t0, t, t3] ∧ w7.heap.size < wr.heap.size ∧ UAt wr w1.heap.size u ∧ w1.heap.size < wr.heap.size ∧ Below w.heap.size w wr) (fun i _ => 3 - (intOf i).toNat)
    case atStart => exact ⟨0, by omega, rfl, HTX, g7, (by with_reducible assumption), (by with_reducible assumption), (by with_reducible assumption)⟩
    case round =>
      obtain ⟨k, hk, rfl, hTx, hg, hU, hz, hB⟩ := hrel
      clear HTX g7
      by_cases hlt : k < 3
      · obtain ⟨T, hT0, hTl⟩ : ∃ T : List UInt8, (∀ W : World, Dr.TextsAt W w7.heap.size [t0, t, t3] → W.cell? ⟨w7.heap.size, k, none⟩ = some (.string ⟨T.toArray⟩)) ∧ T.length ≤ 1000 := by
          refine ⟨[t0, t, t3].getD k [], fun W h => h k hlt, ?_⟩
          rcases (show k = 0 ∨ k = 1 ∨ k = 2 by omega) with rfl | rfl | rfl
          · exact lt0
          · exact ht
          · exact ht3
        have HX := Lib.hid hT0
        have HPI := Lib.hid (fun W hT hM => pI_any T W hT hM (by omega))
        have HPS := Lib.hid (fun W => pS_any T W (by omega))
        have HTI := Lib.hid (fun W hT hM => iST_any T W hT hM (by omega))
        have HTS := Lib.hid (fun W => sST_any T W (by omega))
        have lx := PU_size T
        have px := PU_port T
        have okx := PC_ok T
        clear hT0
        generalize PU T = x at *
        generalize PC T = cx at *
        generalize ST T = st at *
        by_cases hcx : cx = 0
        · subst hcx
          have okx := okx rfl
          have HKX0 := fun W hT => iOK_any x W hT (by omega)
          rw [okx] at HKX0
          have HKX := Lib.hid HKX0
          have HOI := Lib.hid (fun W hT => iOrigin_any x W hT (by omega))
          have HOS := Lib.hid (fun W => sOrigin_any x W px (by omega))
          have HSI := Lib.hid (fun W hT => iSameU x u W hT (by omega) (by omega))
          have HSS := Lib.hid (fun W => sSameU x u W px hp1 (by omega) (by omega))
          have HSJ0 := fun W hT => iSameU u x W hT (by omega) (by omega)
          rw [sameU_symm u x] at HSJ0
          have HSJ := Lib.hid HSJ0
          clear HKX0 HSJ0 okx lx px HA HD HC
          generalize sameU x u = sm at *
          generalize orgO x = og at *
          generalize orgC x = oc at *
          have cT := HX.out _ hTx
          have HTx := Lib.hid hTx
          have HU := Lib.hid hU
          have HB := Lib.hid hB
          clear hTx hU hB
          go_wp2_with fail
          refine (HPI.out _ (HT.out.below HB.out) (HM.out.below HB.out)).mono ?_
          rintro e v1 ⟨rfl, hv1⟩
          have B1 := Lib.hid (belI_step HB.out hv1)
          have T1 := Lib.hid ((HTx.out.below hv1 hg).alloc (.cells #[.string ⟨x.sch.toArray⟩, .string ⟨x.usr.toArray⟩, .string ⟨x.hst.toArray⟩, .int .i64 x.prt, .string ⟨x.pth.toArray⟩, .string ⟨x.qry.toArray⟩, .string ⟨x.frg.toArray⟩, .bool x.hq, .bool x.hf] 24) (by have := hv1.size; omega))
          have X1 := Lib.hid (UAt.new v1 x)
          have U1 := Lib.hid ((HU.out.below hv1 hz).alloc (.cells #[.string ⟨x.sch.toArray⟩, .string ⟨x.usr.toArray⟩, .string ⟨x.hst.toArray⟩, .int .i64 x.prt, .string ⟨x.pth.toArray⟩, .string ⟨x.qry.toArray⟩, .string ⟨x.frg.toArray⟩, .bool x.hq, .bool x.hf] 24) (by have := hv1.size; omega))
          have a1 : w7.heap.size < v1.heap.size := by have := hv1.size; omega
          have z1 : w1.heap.size < v1.heap.size := by have := hv1.size; omega
          clear cT hv1
          have cT := HX.out _ T1.out
          go_wp2_with fail
          refine (HPS.out _).mono ?_
          rintro e v2 ⟨rfl, hv2⟩
          have B2 := Lib.hid (belI_step (belI_alloc B1.out) hv2)
          have T2 := Lib.hid ((T1.out.below hv2 (by simp; omega)).alloc (.cells #[.string ⟨x.sch.toArray⟩, .string ⟨x.usr.toArray⟩, .string ⟨x.hst.toArray⟩, .int .i64 x.prt, .string ⟨x.pth.toArray⟩, .string ⟨x.qry.toArray⟩, .string ⟨x.frg.toArray⟩, .bool x.hq, .bool x.hf] 24) (by have := hv2.size; simp at this; omega))
          have X2 := Lib.hid ((X1.out.below hv2 (by simp)).alloc (.cells #[.string ⟨x.sch.toArray⟩, .string ⟨x.usr.toArray⟩, .string ⟨x.hst.toArray⟩, .int .i64 x.prt, .string ⟨x.pth.toArray⟩, .string ⟨x.qry.toArray⟩, .string ⟨x.frg.toArray⟩, .bool x.hq, .bool x.hf] 24) (by have := hv2.size; simp at this; omega))
          have U2 := Lib.hid ((U1.out.below hv2 (by simp; omega)).alloc (.cells #[.string ⟨x.sch.toArray⟩, .string ⟨x.usr.toArray⟩, .string ⟨x.hst.toArray⟩, .int .i64 x.prt, .string ⟨x.pth.toArray⟩, .string ⟨x.qry.toArray⟩, .string ⟨x.frg.toArray⟩, .bool x.hq, .bool x.hf] 24) (by have := hv2.size; simp at this; omega))
          have Y2 := Lib.hid (UAt.new v2 x)
          have a2 : w7.heap.size < v2.heap.size := by have := hv2.size; simp at this; omega
          have z2 : w1.heap.size < v2.heap.size := by have := hv2.size; simp at this; omega
          have x2 : v1.heap.size < v2.heap.size := by have := hv2.size; simp at this; omega
          clear cT hv2 T1 X1 U1 a1 z1 hg hz
          have cT := HX.out _ T2.out
          go_wp2_with fail
          refine (HTI.out _ (HT.out.below (belI_alloc B2.out)) (HM.out.below (belI_alloc B2.out))).mono ?_
          rintro e v3 ⟨rfl, hv3⟩
          have B3 := Lib.hid (belI_step (belI_alloc B2.out) hv3)
          have T3 := Lib.hid (T2.out.below hv3 (by simp; omega))
          have X3 := Lib.hid (X2.out.below hv3 (by simp; omega))
          have U3 := Lib.hid (U2.out.below hv3 (by simp; omega))
          have Y3 := Lib.hid (Y2.out.below hv3 (by simp))
          have a3 : w7.heap.size < v3.heap.size := by have := hv3.size; simp at this; omega
          have z3 : w1.heap.size < v3.heap.size := by have := hv3.size; simp at this; omega
          have x3 : v1.heap.size < v3.heap.size := by have := hv3.size; simp at this; omega
          have y3 : v2.heap.size < v3.heap.size := by have := hv3.size; simp at this; omega
          clear cT hv3 T2 X2 U2 Y2 a2 z2 x2
          have cT := HX.out _ T3.out
          obtain ⟨q0, q1, q2, q3, q4, q5, q6, q7, q8, -⟩ := X3.out
          obtain ⟨r0, r1, r2, r3, r4, r5, r6, r7, r8, -⟩ := Y3.out
          go_wp2_with fail
          refine (HTS.out _).mono ?_
          rintro e v4 ⟨rfl, hv4⟩
          have B4 := Lib.hid (belI_step B3.out hv4)
          have T4 := Lib.hid (T3.out.below hv4 a3)
          have X4 := Lib.hid (X3.out.below hv4 x3)
          have U4 := Lib.hid (U3.out.below hv4 z3)
          have Y4 := Lib.hid (Y3.out.below hv4 y3)
          have a4 : w7.heap.size < v4.heap.size := by have := hv4.size; omega
          have z4 : w1.heap.size < v4.heap.size := by have := hv4.size; omega
          have x4 : v1.heap.size < v4.heap.size := by have := hv4.size; omega
          have y4 : v2.heap.size < v4.heap.size := by have := hv4.size; omega
          clear cT hv4 T3 X3 U3 Y3 a3 z3 x3 y3
          clear q0 q1 q2 q3 q4 q5 q6 q7 q8 r0 r1 r2 r3 r4 r5 r6 r7 r8
          obtain ⟨q0, q1, q2, q3, q4, q5, q6, q7, q8, -⟩ := X4.out
          go_wp2_with fail
          refine (HKX.out _ (HT.out.below B4.out)).mono ?_
          rintro e v5 ⟨rfl, hv5⟩
          have D5 := Lib.hid (belI_step B4.out hv5)
          have T5 := Lib.hid (T4.out.below hv5 a4)
          have X5 := Lib.hid (X4.out.below hv5 x4)
          have U5 := Lib.hid (U4.out.below hv5 z4)
          have Y5 := Lib.hid (Y4.out.below hv5 y4)
          have a5 : w7.heap.size < v5.heap.size := by have := hv5.size; omega
          have e5 : w1.heap.size < v5.heap.size := by have := hv5.size; omega
          have x5 : v1.heap.size < v5.heap.size := by have := hv5.size; omega
          have y5 : v2.heap.size < v5.heap.size := by have := hv5.size; omega
          clear hv5 T4 X4 U4 Y4 a4 z4 x4 y4
          clear q0 q1 q2 q3 q4 q5 q6 q7 q8
          obtain ⟨q0, q1, q2, q3, q4, q5, q6, q7, q8, -⟩ := X5.out
          go_wp2_with fail
          refine (HOI.out _ (HT.out.below D5.out)).mono ?_
          rintro e v6 ⟨rfl, hv6⟩
          have D6 := Lib.hid (belI_step D5.out hv6)
          have T6 := Lib.hid (T5.out.below hv6 a5)
          have X6 := Lib.hid (X5.out.below hv6 x5)
          have U6 := Lib.hid (U5.out.below hv6 e5)
          have Y6 := Lib.hid (Y5.out.below hv6 y5)
          have a6 : w7.heap.size < v6.heap.size := by have := hv6.size; omega
          have e6 : w1.heap.size < v6.heap.size := by have := hv6.size; omega
          have x6 : v1.heap.size < v6.heap.size := by have := hv6.size; omega
          have y6 : v2.heap.size < v6.heap.size := by have := hv6.size; omega
          clear hv6 T5 X5 U5 Y5 a5 e5 x5 y5
          clear q0 q1 q2 q3 q4 q5 q6 q7 q8
          obtain ⟨q0, q1, q2, q3, q4, q5, q6, q7, q8, -⟩ := Y6.out
          go_wp2_with fail
          refine (HOS.out _).mono ?_
          rintro e v7 ⟨rfl, hv7⟩
          have D7 := Lib.hid (belI_step D6.out hv7)
          have T7 := Lib.hid (T6.out.below hv7 a6)
          have X7 := Lib.hid (X6.out.below hv7 x6)
          have U7 := Lib.hid (U6.out.below hv7 e6)
          have Y7 := Lib.hid (Y6.out.below hv7 y6)
          have a7 : w7.heap.size < v7.heap.size := by have := hv7.size; omega
          have e7 : w1.heap.size < v7.heap.size := by have := hv7.size; omega
          have x7 : v1.heap.size < v7.heap.size := by have := hv7.size; omega
          have y7 : v2.heap.size < v7.heap.size := by have := hv7.size; omega
          clear hv7 T6 X6 U6 Y6 a6 e6 x6 y6
          clear q0 q1 q2 q3 q4 q5 q6 q7 q8
          obtain ⟨q0, q1, q2, q3, q4, q5, q6, q7, q8, -⟩ := X7.out
          obtain ⟨r0, r1, r2, r3, r4, r5, r6, r7, r8, -⟩ := Y7.out
          obtain ⟨s0, s1, s2, s3, s4, s5, s6, s7, s8, -⟩ := U7.out
          go_wp2_with fail
          have n1 : (oc != oc) = false := by simp
          have n2 : (og != og) = false := by simp
          have n3 : (sm != sm) = false := by simp
          refine wp_region_ext (by kernel_rfl) (by kernel_rfl) ?_
          repeat (go_big_quiet_step ((first
            | (go_at_call 16; refine call_ext (v := .bool sm) ?_; with_reducible exact HSI.out _ (HT.out.below (belI_step D7.out (up_below _ _))))
            | (go_at_call 16; refine call_ext (v := .bool sm) ?_; with_reducible exact HSJ.out _ (HT.out.below (belI_step D7.out (up_below _ _))))
            | (go_at_call 17; refine call_ext (v := .bool sm) ?_; with_reducible exact HSS.out _))))
          refine wpQuiet_nil ?_
          intro _ hw'
          obtain ⟨y8, rfl⟩ := hw'
          have hv8 := up_below _ y8
          generalize up _ y8 = v8 at *
          have D8 := Lib.hid (belI_step D7.out hv8)
          have T8 := Lib.hid (T7.out.below hv8 a7)
          have U8 := Lib.hid (U7.out.below hv8 e7)
          have a8 : w7.heap.size < v8.heap.size := by have := hv8.size; omega
          have e8 : w1.heap.size < v8.heap.size := by have := hv8.size; omega
          clear q0 q1 q2 q3 q4 q5 q6 q7 q8 r0 r1 r2 r3 r4 r5 r6 r7 r8 s0 s1 s2 s3 s4 s5 s6 s7 s8 hv8 T7 X7 U7 Y7 a7 e7 x7 y7
          go_wp2
          go_roundw
          case rel => exact ⟨k + 1, by omega, by go_num, T8.out, a8, U8.out, e8, D8.out⟩
          case measure => simp [intOf]; omega
        · have d0 : (cx == 0) = false := by simpa using hcx
          have d1 : (cx != 0) = true := by simpa using hcx
          clear okx lx px HA HD HC hcx
          have cT := HX.out _ hTx
          have HTx := Lib.hid hTx
          have HU := Lib.hid hU
          have HB := Lib.hid hB
          clear hTx hU hB
          go_wp2_with fail
          refine (HPI.out _ (HT.out.below HB.out) (HM.out.below HB.out)).mono ?_
          rintro e v1 ⟨rfl, hv1⟩
          have B1 := Lib.hid (belI_step HB.out hv1)
          have T1 := Lib.hid ((HTx.out.below hv1 hg).alloc (.cells #[.string ⟨x.sch.toArray⟩, .string ⟨x.usr.toArray⟩, .string ⟨x.hst.toArray⟩, .int .i64 x.prt, .string ⟨x.pth.toArray⟩, .string ⟨x.qry.toArray⟩, .string ⟨x.frg.toArray⟩, .bool x.hq, .bool x.hf] 24) (by have := hv1.size; omega))
          have X1 := Lib.hid (UAt.new v1 x)
          have U1 := Lib.hid ((HU.out.below hv1 hz).alloc (.cells #[.string ⟨x.sch.toArray⟩, .string ⟨x.usr.toArray⟩, .string ⟨x.hst.toArray⟩, .int .i64 x.prt, .string ⟨x.pth.toArray⟩, .string ⟨x.qry.toArray⟩, .string ⟨x.frg.toArray⟩, .bool x.hq, .bool x.hf] 24) (by have := hv1.size; omega))
          have a1 : w7.heap.size < v1.heap.size := by have := hv1.size; omega
          have z1 : w1.heap.size < v1.heap.size := by have := hv1.size; omega
          clear cT hv1
          have cT := HX.out _ T1.out
          go_wp2_with fail
          refine (HPS.out _).mono ?_
          rintro e v2 ⟨rfl, hv2⟩
          have B2 := Lib.hid (belI_step (belI_alloc B1.out) hv2)
          have T2 := Lib.hid ((T1.out.below hv2 (by simp; omega)).alloc (.cells #[.string ⟨x.sch.toArray⟩, .string ⟨x.usr.toArray⟩, .string ⟨x.hst.toArray⟩, .int .i64 x.prt, .string ⟨x.pth.toArray⟩, .string ⟨x.qry.toArray⟩, .string ⟨x.frg.toArray⟩, .bool x.hq, .bool x.hf] 24) (by have := hv2.size; simp at this; omega))
          have X2 := Lib.hid ((X1.out.below hv2 (by simp)).alloc (.cells #[.string ⟨x.sch.toArray⟩, .string ⟨x.usr.toArray⟩, .string ⟨x.hst.toArray⟩, .int .i64 x.prt, .string ⟨x.pth.toArray⟩, .string ⟨x.qry.toArray⟩, .string ⟨x.frg.toArray⟩, .bool x.hq, .bool x.hf] 24) (by have := hv2.size; simp at this; omega))
          have U2 := Lib.hid ((U1.out.below hv2 (by simp; omega)).alloc (.cells #[.string ⟨x.sch.toArray⟩, .string ⟨x.usr.toArray⟩, .string ⟨x.hst.toArray⟩, .int .i64 x.prt, .string ⟨x.pth.toArray⟩, .string ⟨x.qry.toArray⟩, .string ⟨x.frg.toArray⟩, .bool x.hq, .bool x.hf] 24) (by have := hv2.size; simp at this; omega))
          have Y2 := Lib.hid (UAt.new v2 x)
          have a2 : w7.heap.size < v2.heap.size := by have := hv2.size; simp at this; omega
          have z2 : w1.heap.size < v2.heap.size := by have := hv2.size; simp at this; omega
          have x2 : v1.heap.size < v2.heap.size := by have := hv2.size; simp at this; omega
          clear cT hv2 T1 X1 U1 a1 z1 hg hz
          have cT := HX.out _ T2.out
          go_wp2_with fail
          refine (HTI.out _ (HT.out.below (belI_alloc B2.out)) (HM.out.below (belI_alloc B2.out))).mono ?_
          rintro e v3 ⟨rfl, hv3⟩
          have B3 := Lib.hid (belI_step (belI_alloc B2.out) hv3)
          have T3 := Lib.hid (T2.out.below hv3 (by simp; omega))
          have X3 := Lib.hid (X2.out.below hv3 (by simp; omega))
          have U3 := Lib.hid (U2.out.below hv3 (by simp; omega))
          have Y3 := Lib.hid (Y2.out.below hv3 (by simp))
          have a3 : w7.heap.size < v3.heap.size := by have := hv3.size; simp at this; omega
          have z3 : w1.heap.size < v3.heap.size := by have := hv3.size; simp at this; omega
          have x3 : v1.heap.size < v3.heap.size := by have := hv3.size; simp at this; omega
          have y3 : v2.heap.size < v3.heap.size := by have := hv3.size; simp at this; omega
          clear cT hv3 T2 X2 U2 Y2 a2 z2 x2
          have cT := HX.out _ T3.out
          obtain ⟨q0, q1, q2, q3, q4, q5, q6, q7, q8, -⟩ := X3.out
          obtain ⟨r0, r1, r2, r3, r4, r5, r6, r7, r8, -⟩ := Y3.out
          go_wp2_with fail
          refine (HTS.out _).mono ?_
          rintro e v4 ⟨rfl, hv4⟩
          have B4 := Lib.hid (belI_step B3.out hv4)
          have T4 := Lib.hid (T3.out.below hv4 a3)
          have X4 := Lib.hid (X3.out.below hv4 x3)
          have U4 := Lib.hid (U3.out.below hv4 z3)
          have Y4 := Lib.hid (Y3.out.below hv4 y3)
          have a4 : w7.heap.size < v4.heap.size := by have := hv4.size; omega
          have z4 : w1.heap.size < v4.heap.size := by have := hv4.size; omega
          have x4 : v1.heap.size < v4.heap.size := by have := hv4.size; omega
          have y4 : v2.heap.size < v4.heap.size := by have := hv4.size; omega
          clear cT hv4 T3 X3 U3 Y3 a3 z3 x3 y3
          clear q0 q1 q2 q3 q4 q5 q6 q7 q8 r0 r1 r2 r3 r4 r5 r6 r7 r8
          go_wp2
          go_roundw
          case rel => exact ⟨k + 1, by omega, by go_num, T4.out, a4, U4.out, z4, B4.out⟩
          case measure => simp [intOf]; omega
      · go_wp2
        go_ret
        exact ⟨rfl, hB⟩
end Go.Proofs.YtjjabbdnoapnkabDoor.Ul
