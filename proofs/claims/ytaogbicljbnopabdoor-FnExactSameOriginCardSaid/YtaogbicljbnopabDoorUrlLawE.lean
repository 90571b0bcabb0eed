
/-
  The law on SameOrigin, walked.
-/
import Derived.Test.YtaogbicljbnopabDoorUrlLawD
import Derived.Test.YtaogbicljbnopabDoorUrlAt
import Derived.Deep.DeepCutAuto
namespace Go.Proofs.YtaogbicljbnopabDoor.Ul
open Go.RowKit
theorem szL_in (s us h pa q f : List UInt8) (p : Int) (hq hf : Bool) (L : Int) (w : World) (h0 : 0 ≤ L) (h1 : L ≤ 1048576) (hl : ((s.length + us.length + h.length + pa.length + q.length + f.length : Nat) : Int) ≤ L) :
    Calls Tryd.prog 8 #[.agg #[.string ⟨s.toArray⟩, .string ⟨us.toArray⟩, .string ⟨h.toArray⟩, .int .i64 p, .string ⟨pa.toArray⟩, .string ⟨q.toArray⟩, .string ⟨f.toArray⟩, .bool hq, .bool hf], .int .i64 L] w fun e w' => e = .returned (.int .i64 (L - ((s.length + us.length + h.length + pa.length + q.length + f.length : Nat) : Int))) ∧ Below w.heap.size w w' := by
  go_enter Tryd.func8, Tryd.ntmps8
  go_wp2
  go_ret
  exact ⟨ret_int (by omega), (by repeat (first | exact Below.refl _ _ | refine belI_alloc ?_ | refine Below.drew ?_ | refine belI_step ?_ (by assumption)))⟩
theorem szL_out (s us h pa q f : List UInt8) (p : Int) (hq hf : Bool) (L : Int) (w : World) (h0 : 0 ≤ L) (h1 : L ≤ 1048576) (hl : L < ((s.length + us.length + h.length + pa.length + q.length + f.length : Nat) : Int))
    (m0 : s.length ≤ 9223372036854775807) (m1 : us.length ≤ 9223372036854775807) (m2 : h.length ≤ 9223372036854775807) (m4 : pa.length ≤ 9223372036854775807) (m5 : q.length ≤ 9223372036854775807) (m6 : f.length ≤ 9223372036854775807) :
    Calls Tryd.prog 8 #[.agg #[.string ⟨s.toArray⟩, .string ⟨us.toArray⟩, .string ⟨h.toArray⟩, .int .i64 p, .string ⟨pa.toArray⟩, .string ⟨q.toArray⟩, .string ⟨f.toArray⟩, .bool hq, .bool hf], .int .i64 L] w fun e w' => e = .returned (.int .i64 (-1)) ∧ Below w.heap.size w w' := by
  go_enter Tryd.func8, Tryd.ntmps8
  go_wp2
  all_goals
    go_ret
    exact ⟨rfl, (by repeat (first | exact Below.refl _ _ | refine belI_alloc ?_ | refine Below.drew ?_ | refine belI_step ?_ (by assumption)))⟩
theorem toU_any (u : U) (w : World) : Calls Tryd.prog 10 #[uV u] w fun e w' => e = .returned (uV u) ∧ Below w.heap.size w w' := to_any _ _ _ _ _ _ _ _ _ _
def sameO (a b : U) : Bool := okB a && okB b && (webB a.sch && (a.sch == b.sch) && (a.hst == b.hst) && (a.prt == b.prt))
theorem szU_in (u : U) (L : Int) (w : World) (h0 : 0 ≤ L) (h1 : L ≤ 1048576) (hl : (sizeU u : Int) ≤ L) : Calls Tryd.prog 8 #[uV u, .int .i64 L] w fun e w' => e = .returned (.int .i64 (L - (sizeU u : Int))) ∧ Below w.heap.size w w' :=
  szL_in u.sch u.usr u.hst u.pth u.qry u.frg u.prt u.hq u.hf L w h0 h1 hl
theorem szU_out (u : U) (L : Int) (w : World) (h0 : 0 ≤ L) (h1 : L ≤ 1048576) (hl : L < (sizeU u : Int)) (m0 : u.sch.length ≤ 9223372036854775807) (m1 : u.usr.length ≤ 9223372036854775807) (m2 : u.hst.length ≤ 9223372036854775807) (m4 : u.pth.length ≤ 9223372036854775807) (m5 : u.qry.length ≤ 9223372036854775807) (m6 : u.frg.length ≤ 9223372036854775807) : Calls Tryd.prog 8 #[uV u, .int .i64 L] w fun e w' => e = .returned (.int .i64 (-1)) ∧ Below w.heap.size w w' :=
  szL_out u.sch u.usr u.hst u.pth u.qry u.frg u.prt u.hq u.hf L w h0 h1 hl m0 m1 m2 m4 m5 m6
theorem sSameU_any (a b : U) (w : World) (hp1 : a.prt ≤ 9223372036854775807) (hp2 : b.prt ≤ 9223372036854775807) (hl : sizeU a ≤ 4611686018427387904) (hl2 : sizeU b ≤ 4611686018427387904) : Calls Tryd.prog 9 #[uV a, uV b] w fun e w' => e = .returned (.bool (sameO a b)) ∧ Below w.heap.size w w' :=
  sSame_any a.sch a.usr a.hst a.pth a.qry a.frg b.sch b.usr b.hst b.pth b.qry b.frg a.prt b.prt a.hq a.hf b.hq b.hf w hp1 hp2 hl hl2
theorem iSameU_any (a b : U) (w : World) (hT : Tab w) (hl : sizeU a ≤ 4611686018427387904) (hl2 : sizeU b ≤ 4611686018427387904) : Calls Tryd.prog 11 #[uV a, uV b] w fun e w' => e = .returned (.bool (sameO a b)) ∧ Below w.heap.size w w' :=
  iSame_any a.sch a.usr a.hst a.pth a.qry a.frg b.sch b.usr b.hst b.pth b.qry b.frg a.prt b.prt a.hq a.hf b.hq b.hf w hT hl hl2
set_option maxRecDepth 100000 in
set_option maxHeartbeats 4000000 in
theorem sameOriginU_walk (a b : U) (m0 : a.sch.length ≤ 9223372036854775807) (m1 : a.usr.length ≤ 9223372036854775807) (m2 : a.hst.length ≤ 9223372036854775807) (m4 : a.pth.length ≤ 9223372036854775807) (m5 : a.qry.length ≤ 9223372036854775807) (m6 : a.frg.length ≤ 9223372036854775807) (hp1 : a.prt ≤ 9223372036854775807)
    (n0 : b.sch.length ≤ 9223372036854775807) (n1 : b.usr.length ≤ 9223372036854775807) (n2 : b.hst.length ≤ 9223372036854775807) (n4 : b.pth.length ≤ 9223372036854775807) (n5 : b.qry.length ≤ 9223372036854775807) (n6 : b.frg.length ≤ 9223372036854775807) (hp2 : b.prt ≤ 9223372036854775807) (w : World) (hT : Tab w) :
    Calls Tryd.prog 3 #[uV a, uV b] w fun e w' => e = .returned (.bool true) ∧ Below w.heap.size w w' := by
  have HT := Lib.hid hT
  clear hT
  have A1 := (UAt.newT w a 23).alloc (.cells #[.string ⟨b.sch.toArray⟩, .string ⟨b.usr.toArray⟩, .string ⟨b.hst.toArray⟩, .int .i64 b.prt, .string ⟨b.pth.toArray⟩, .string ⟨b.qry.toArray⟩, .string ⟨b.frg.toArray⟩, .bool b.hq, .bool b.hf] 23) (by simp)
  have B1 := UAt.newT (w.alloc (.cells #[.string ⟨a.sch.toArray⟩, .string ⟨a.usr.toArray⟩, .string ⟨a.hst.toArray⟩, .int .i64 a.prt, .string ⟨a.pth.toArray⟩, .string ⟨a.qry.toArray⟩, .string ⟨a.frg.toArray⟩, .bool a.hq, .bool a.hf] 23)) b 23
  rw [show (w.alloc (.cells #[.string ⟨a.sch.toArray⟩, .string ⟨a.usr.toArray⟩, .string ⟨a.hst.toArray⟩, .int .i64 a.prt, .string ⟨a.pth.toArray⟩, .string ⟨a.qry.toArray⟩, .string ⟨a.frg.toArray⟩, .bool a.hq, .bool a.hf] 23)).heap.size = w.heap.size + 1 from by simp] at B1
  by_cases hs : sizeU a ≤ 1048576
  · have HZ1 := Lib.hid (fun W => szU_in a 1048576 W (by omega) (by omega) (by omega))
    have g1 : ¬ (1048576 - (sizeU a : Int) < 0) := by omega
    by_cases hs2 : sizeU a + sizeU b ≤ 1048576
    · have HZ2 := Lib.hid (fun W => szU_in b (1048576 - (sizeU a : Int)) W (by omega) (by omega) (by omega))
      have HS := Lib.hid (fun W => sSameU_any a b W hp1 hp2 (by omega) (by omega))
      have HI := Lib.hid (fun W hT => iSameU_any a b W hT (by omega) (by omega))
      generalize sameO a b = r at *
      have g2 : ¬ (1048576 - (sizeU a : Int) - (sizeU b : Int) < 0) := by omega
      generalize 1048576 - (sizeU a : Int) - (sizeU b : Int) = l2 at *
      generalize 1048576 - (sizeU a : Int) = l1 at *
      go_enter Tryd.func3, Tryd.ntmps3
      go_wp2_with fail
      refine (HZ1.out _).mono ?_
      rintro e w1 ⟨rfl, hb⟩
      have A2 := A1.below hb (by simp; omega)
      have B2 := B1.below hb (by simp)
      have z2 : w.heap.size + 1 < w1.heap.size := by have := hb.size; simp at this; omega
      have D2 : Below w.heap.size w w1 := belI_step (belI_alloc (belI_alloc (Below.refl _ _))) hb
      clear A1 B1 hb
      have b0 := B2.k0; have b1 := B2.k1; have b2 := B2.k2; have b3 := B2.k3; have b4 := B2.k4; have b5 := B2.k5; have b6 := B2.k6; have b7 := B2.k7; have b8 := B2.k8
      go_wp2_with fail
      refine (HZ2.out _).mono ?_
      rintro e w2 ⟨rfl, hb⟩
      have A3 := A2.below hb (by omega)
      have B3 := B2.below hb (by omega)
      have z3 : w.heap.size + 1 < w2.heap.size := by have := hb.size; omega
      have y3 : w.heap.size < w2.heap.size := by omega
      have D3 : Below w.heap.size w w2 := belI_step D2 hb
      clear A2 B2 hb z2 D2 b0 b1 b2 b3 b4 b5 b6 b7 b8
      obtain ⟨a0, a1, a2, a3, a4, a5, a6, a7, a8, af⟩ := A3
      obtain ⟨b0, b1, b2, b3, b4, b5, b6, b7, b8, bf⟩ := B3
      clear af bf
      go_wp2_with fail
      go_region_held3 (fun wx => w.heap.size + 1 < wx.heap.size ∧ w.heap.size < wx.heap.size ∧ wx.cell? ⟨w.heap.size, 0, none⟩ = some (.string ⟨a.sch.toArray⟩) ∧ wx.cell? ⟨w.heap.size, 1, none⟩ = some (.string ⟨a.usr.toArray⟩) ∧ wx.cell? ⟨w.heap.size, 2, none⟩ = some (.string ⟨a.hst.toArray⟩) ∧ wx.cell? ⟨w.heap.size, 3, none⟩ = some (.int .i64 a.prt) ∧ wx.cell? ⟨w.heap.size, 4, none⟩ = some (.string ⟨a.pth.toArray⟩) ∧ wx.cell? ⟨w.heap.size, 5, none⟩ = some (.string ⟨a.qry.toArray⟩) ∧ wx.cell? ⟨w.heap.size, 6, none⟩ = some (.string ⟨a.frg.toArray⟩) ∧ wx.cell? ⟨w.heap.size, 7, none⟩ = some (.bool a.hq) ∧ wx.cell? ⟨w.heap.size, 8, none⟩ = some (.bool a.hf) ∧ wx.cell? ⟨w.heap.size + 1, 0, none⟩ = some (.string ⟨b.sch.toArray⟩) ∧ wx.cell? ⟨w.heap.size + 1, 1, none⟩ = some (.string ⟨b.usr.toArray⟩) ∧ wx.cell? ⟨w.heap.size + 1, 2, none⟩ = some (.string ⟨b.hst.toArray⟩) ∧ wx.cell? ⟨w.heap.size + 1, 3, none⟩ = some (.int .i64 b.prt) ∧ wx.cell? ⟨w.heap.size + 1, 4, none⟩ = some (.string ⟨b.pth.toArray⟩) ∧ wx.cell? ⟨w.heap.size + 1, 5, none⟩ = some (.string ⟨b.qry.toArray⟩) ∧ wx.cell? ⟨w.heap.size + 1, 6, none⟩ = some (.string ⟨b.frg.toArray⟩) ∧ wx.cell? ⟨w.heap.size + 1, 7, none⟩ = some (.bool b.hq) ∧ wx.cell? ⟨w.heap.size + 1, 8, none⟩ = some (.bool b.hf) ∧ Below w.heap.size w wx)
        (first
          | (simp [*, Below.drew]; done)
          | (go_split_ands
             have hz := hb.size
             refine ⟨by omega, by omega, ?_, ?_, ?_, ?_, ?_, ?_, ?_, ?_, ?_, ?_, ?_, ?_, ?_, ?_, ?_, ?_, ?_, ?_, belI_step (by assumption) hb⟩
             · (rw [hb.cell (p := ⟨w.heap.size, 0, none⟩) (by assumption)]; assumption)
             · (rw [hb.cell (p := ⟨w.heap.size, 1, none⟩) (by assumption)]; assumption)
             · (rw [hb.cell (p := ⟨w.heap.size, 2, none⟩) (by assumption)]; assumption)
             · (rw [hb.cell (p := ⟨w.heap.size, 3, none⟩) (by assumption)]; assumption)
             · (rw [hb.cell (p := ⟨w.heap.size, 4, none⟩) (by assumption)]; assumption)
             · (rw [hb.cell (p := ⟨w.heap.size, 5, none⟩) (by assumption)]; assumption)
             · (rw [hb.cell (p := ⟨w.heap.size, 6, none⟩) (by assumption)]; assumption)
             · (rw [hb.cell (p := ⟨w.heap.size, 7, none⟩) (by assumption)]; assumption)
             · (rw [hb.cell (p := ⟨w.heap.size, 8, none⟩) (by assumption)]; assumption)
             · (rw [hb.cell (p := ⟨w.heap.size + 1, 0, none⟩) (by assumption)]; assumption)
             · (rw [hb.cell (p := ⟨w.heap.size + 1, 1, none⟩) (by assumption)]; assumption)
             · (rw [hb.cell (p := ⟨w.heap.size + 1, 2, none⟩) (by assumption)]; assumption)
             · (rw [hb.cell (p := ⟨w.heap.size + 1, 3, none⟩) (by assumption)]; assumption)
             · (rw [hb.cell (p := ⟨w.heap.size + 1, 4, none⟩) (by assumption)]; assumption)
             · (rw [hb.cell (p := ⟨w.heap.size + 1, 5, none⟩) (by assumption)]; assumption)
             · (rw [hb.cell (p := ⟨w.heap.size + 1, 6, none⟩) (by assumption)]; assumption)
             · (rw [hb.cell (p := ⟨w.heap.size + 1, 7, none⟩) (by assumption)]; assumption)
             · (rw [hb.cell (p := ⟨w.heap.size + 1, 8, none⟩) (by assumption)]; assumption)))
        (first
          | (go_at_call 10; refine (toU_any _ _).mono ?_; rintro e w1 ⟨rfl, hb⟩)
          | (go_at_call 9; refine (HS.out _).mono ?_; rintro e w1 ⟨rfl, hb⟩))
      go_wp2_with fail
      go_split_ands
      go_region_held3 (fun wx => w.heap.size + 1 < wx.heap.size ∧ w.heap.size < wx.heap.size ∧ wx.cell? ⟨w.heap.size, 0, none⟩ = some (.string ⟨a.sch.toArray⟩) ∧ wx.cell? ⟨w.heap.size, 1, none⟩ = some (.string ⟨a.usr.toArray⟩) ∧ wx.cell? ⟨w.heap.size, 2, none⟩ = some (.string ⟨a.hst.toArray⟩) ∧ wx.cell? ⟨w.heap.size, 3, none⟩ = some (.int .i64 a.prt) ∧ wx.cell? ⟨w.heap.size, 4, none⟩ = some (.string ⟨a.pth.toArray⟩) ∧ wx.cell? ⟨w.heap.size, 5, none⟩ = some (.string ⟨a.qry.toArray⟩) ∧ wx.cell? ⟨w.heap.size, 6, none⟩ = some (.string ⟨a.frg.toArray⟩) ∧ wx.cell? ⟨w.heap.size, 7, none⟩ = some (.bool a.hq) ∧ wx.cell? ⟨w.heap.size, 8, none⟩ = some (.bool a.hf) ∧ wx.cell? ⟨w.heap.size + 1, 0, none⟩ = some (.string ⟨b.sch.toArray⟩) ∧ wx.cell? ⟨w.heap.size + 1, 1, none⟩ = some (.string ⟨b.usr.toArray⟩) ∧ wx.cell? ⟨w.heap.size + 1, 2, none⟩ = some (.string ⟨b.hst.toArray⟩) ∧ wx.cell? ⟨w.heap.size + 1, 3, none⟩ = some (.int .i64 b.prt) ∧ wx.cell? ⟨w.heap.size + 1, 4, none⟩ = some (.string ⟨b.pth.toArray⟩) ∧ wx.cell? ⟨w.heap.size + 1, 5, none⟩ = some (.string ⟨b.qry.toArray⟩) ∧ wx.cell? ⟨w.heap.size + 1, 6, none⟩ = some (.string ⟨b.frg.toArray⟩) ∧ wx.cell? ⟨w.heap.size + 1, 7, none⟩ = some (.bool b.hq) ∧ wx.cell? ⟨w.heap.size + 1, 8, none⟩ = some (.bool b.hf) ∧ Below w.heap.size w wx)
        (first
          | (simp [*, Below.drew]; done)
          | (go_split_ands
             have hz := hb.size
             refine ⟨by omega, by omega, ?_, ?_, ?_, ?_, ?_, ?_, ?_, ?_, ?_, ?_, ?_, ?_, ?_, ?_, ?_, ?_, ?_, ?_, belI_step (by assumption) hb⟩
             · (rw [hb.cell (p := ⟨w.heap.size, 0, none⟩) (by assumption)]; assumption)
             · (rw [hb.cell (p := ⟨w.heap.size, 1, none⟩) (by assumption)]; assumption)
             · (rw [hb.cell (p := ⟨w.heap.size, 2, none⟩) (by assumption)]; assumption)
             · (rw [hb.cell (p := ⟨w.heap.size, 3, none⟩) (by assumption)]; assumption)
             · (rw [hb.cell (p := ⟨w.heap.size, 4, none⟩) (by assumption)]; assumption)
             · (rw [hb.cell (p := ⟨w.heap.size, 5, none⟩) (by assumption)]; assumption)
             · (rw [hb.cell (p := ⟨w.heap.size, 6, none⟩) (by assumption)]; assumption)
             · (rw [hb.cell (p := ⟨w.heap.size, 7, none⟩) (by assumption)]; assumption)
             · (rw [hb.cell (p := ⟨w.heap.size, 8, none⟩) (by assumption)]; assumption)
             · (rw [hb.cell (p := ⟨w.heap.size + 1, 0, none⟩) (by assumption)]; assumption)
             · (rw [hb.cell (p := ⟨w.heap.size + 1, 1, none⟩) (by assumption)]; assumption)
             · (rw [hb.cell (p := ⟨w.heap.size + 1, 2, none⟩) (by assumption)]; assumption)
             · (rw [hb.cell (p := ⟨w.heap.size + 1, 3, none⟩) (by assumption)]; assumption)
             · (rw [hb.cell (p := ⟨w.heap.size + 1, 4, none⟩) (by assumption)]; assumption)
             · (rw [hb.cell (p := ⟨w.heap.size + 1, 5, none⟩) (by assumption)]; assumption)
             · (rw [hb.cell (p := ⟨w.heap.size + 1, 6, none⟩) (by assumption)]; assumption)
             · (rw [hb.cell (p := ⟨w.heap.size + 1, 7, none⟩) (by assumption)]; assumption)
             · (rw [hb.cell (p := ⟨w.heap.size + 1, 8, none⟩) (by assumption)]; assumption)))
        (first
          | (go_at_call 10; refine (toU_any _ _).mono ?_; rintro e w1 ⟨rfl, hb⟩)
          | (go_split_ands; go_at_call 11; refine (HI.out _ (HT.out.below (by assumption))).mono ?_; rintro e w1 ⟨rfl, hb⟩))
      go_wp2
      go_ret
      go_split_ands
      exact ⟨rfl, by assumption⟩
    · have HZ2 := Lib.hid (fun W => szU_out b (1048576 - (sizeU a : Int)) W (by omega) (by omega) (by omega) n0 n1 n2 n4 n5 n6)
      generalize 1048576 - (sizeU a : Int) = l1 at *
      go_enter Tryd.func3, Tryd.ntmps3
      go_wp2_with fail
      refine (HZ1.out _).mono ?_
      rintro e w1 ⟨rfl, hb⟩
      have B2 := B1.below hb (by simp)
      have b0 := B2.k0; have b1 := B2.k1; have b2 := B2.k2; have b3 := B2.k3; have b4 := B2.k4; have b5 := B2.k5; have b6 := B2.k6; have b7 := B2.k7; have b8 := B2.k8
      go_wp2_with fail
      refine (HZ2.out _).mono ?_
      rintro e w2 ⟨rfl, hb2⟩
      go_wp2
      go_ret
      exact ⟨rfl, (by repeat (first | (with_reducible exact Below.refl _ _) | (with_reducible refine belI_set ?_ (by first | exact Nat.le_refl _ | simp)) | (with_reducible refine belI_alloc ?_) | (with_reducible refine Below.drew ?_) | (with_reducible refine belI_drewN ?_ _) | (with_reducible refine belI_step ?_ (by assumption))))⟩
  · have HZ1 := Lib.hid (fun W => szU_out a 1048576 W (by omega) (by omega) (by omega) m0 m1 m2 m4 m5 m6)
    go_enter Tryd.func3, Tryd.ntmps3
    go_wp2_with fail
    refine (HZ1.out _).mono ?_
    rintro e w1 ⟨rfl, hb⟩
    go_wp2
    go_ret
    exact ⟨rfl, (by repeat (first | (with_reducible exact Below.refl _ _) | (with_reducible refine belI_set ?_ (by first | exact Nat.le_refl _ | simp)) | (with_reducible refine belI_alloc ?_) | (with_reducible refine Below.drew ?_) | (with_reducible refine belI_drewN ?_ _) | (with_reducible refine belI_step ?_ (by assumption))))⟩
theorem sameOrigin_walk (s us h pa q f : List UInt8) (p : Int) (hq hf : Bool) (m0 : s.length ≤ maxLen) (m1 : us.length ≤ maxLen) (m2 : h.length ≤ maxLen) (m4 : pa.length ≤ maxLen) (m5 : q.length ≤ maxLen) (m6 : f.length ≤ maxLen) (hp1 : p ≤ 9223372036854775807)
    (s2 us2 h2 pa2 q2 f2 : List UInt8) (p2 : Int) (hq2 hf2 : Bool) (n0 : s2.length ≤ maxLen) (n1 : us2.length ≤ maxLen) (n2 : h2.length ≤ maxLen) (n4 : pa2.length ≤ maxLen) (n5 : q2.length ≤ maxLen) (n6 : f2.length ≤ maxLen) (hp2 : p2 ≤ 9223372036854775807) (w : World) (hT : Tab w) :
    Calls Tryd.prog 3 #[.agg #[.string ⟨s.toArray⟩, .string ⟨us.toArray⟩, .string ⟨h.toArray⟩, .int .i64 p, .string ⟨pa.toArray⟩, .string ⟨q.toArray⟩, .string ⟨f.toArray⟩, .bool hq, .bool hf], .agg #[.string ⟨s2.toArray⟩, .string ⟨us2.toArray⟩, .string ⟨h2.toArray⟩, .int .i64 p2, .string ⟨pa2.toArray⟩, .string ⟨q2.toArray⟩, .string ⟨f2.toArray⟩, .bool hq2, .bool hf2]] w fun e w' => e = .returned (.bool true) ∧ Below w.heap.size w w' := by
  unfold maxLen at m0 m1 m2 m4 m5 m6 n0 n1 n2 n4 n5 n6
  exact sameOriginU_walk ⟨s, us, h, p, pa, q, f, hq, hf⟩ ⟨s2, us2, h2, p2, pa2, q2, f2, hq2, hf2⟩ m0 m1 m2 m4 m5 m6 hp1 n0 n1 n2 n4 n5 n6 hp2 w hT
end Go.Proofs.YtaogbicljbnopabDoor.Ul
