
/-
  KeepPeers of the model, walked.
-/
import Derived.Test.YtakiigddbdapaaaGreatDoorPkB
namespace Go.Proofs.YtakiigddbdapaaaGreatDoor.Pe
open Go.RowKit
open Go.Proofs.YtakiigddbdapaaaGreatDoor.Gr (Tg Gp TgIn tV gV gpB gpS_any groupI belI_step belI_alloc ret_b ret_i heap_set)
open Go.Proofs.YtakiigddbdapaaaGreatDoor.Ul (Tab MaxL)
open Go.Proofs.YtakiigddbdapaaaGreatDoor.Mk
theorem mid_get (A D : List Pr) (y : Pr) : (A ++ y :: D).getD A.length default = y := by simp
theorem mid_set (A D : List Pr) (y z : Pr) : (A ++ y :: D).set A.length z = A ++ z :: D := by simp
theorem kS_take (old xs : List Pr) (i : Nat) (hi : i < xs.length) : (xs.take i).map (kS old) ++ kS old (xs.getD i default) :: xs.drop (i + 1) = (xs.take (i + 1)).map (kS old) ++ xs.drop (i + 1) := by
  rw [show xs.take (i + 1) = xs.take i ++ [xs[i]] by rw [List.take_add_one, List.getElem?_eq_getElem hi]; rfl, List.map_append]
  simp [hi]
theorem mid_drop (old xs : List Pr) (i : Nat) (hi : i < xs.length) : (xs.take i).map (kS old) ++ xs.drop i = (xs.take i).map (kS old) ++ xs.getD i default :: xs.drop (i + 1) := by
  rw [List.drop_eq_getElem_cons hi]; simp [hi]
theorem kS_len (old xs : List Pr) (i : Nat) (hi : i ≤ xs.length) : ((xs.take i).map (kS old)).length = i := by simp; omega
set_option maxRecDepth 100000 in
set_option maxHeartbeats 8000000 in
theorem keepS_any (B : Nat) (w0 : World) (old : List Pr) (ov : Value) (ho : PrIn (· < B) w0 ov old) (g : Gp) (v : Value) (h : TgIn (· < B) w0 v g.tgs) (hm : g.tgs.length ≤ 1048576) (W : World) (hb : Below B w0 W) (hB : B ≤ W.heap.size) :
    Calls Tryz.prog 54 #[ov, gV g v] W (NewPrs W ((g.tgs.map zP).map (kS old))) := by
  have HO := Lib.hid (fun W h1 h2 => ofS_any B w0 g v h hm W h1 h2)
  obtain ⟨a1, l1, cc1, rfl⟩ := h.slice
  obtain ⟨ao, capo, bo, offo, rfl, hcapo, hmxo, -, hao, hco⟩ := ho
  have HCO := Lib.hid hco
  have HAO := Lib.hid hao
  have HB := Lib.hid hb
  have HLO := Lib.hid (show old.length ≤ 9223372036854775807 by omega)
  clear h hb hco hao
  obtain ⟨w1, hw1⟩ : ∃ w1, w1 = W.alloc (gO g (.slice a1 l1 cc1)) := ⟨_, rfl⟩
  have H1 := Lib.hid (show Hd w1 W.heap.size (gO g (.slice a1 l1 cc1)) by rw [hw1]; exact Hd.new _ _)
  have B1 := Lib.hid (show Below W.heap.size W w1 by rw [hw1]; exact (Below.refl _ _).alloc (Nat.le_refl _) _)
  obtain ⟨xs, hxs⟩ : ∃ xs, g.tgs.map zP = xs := ⟨_, rfl⟩
  have hm' : xs.length ≤ 1048576 := by rw [← hxs]; simpa using hm
  rw [hxs] at HO ⊢
  clear hxs hm
  go_enter Tryz.func54, Tryz.ntmps54
  go_wp2_with fail
  rw [← hw1]
  clear hw1
  obtain ⟨m0, m1, m2, -⟩ := H1.out.three
  go_wp2_with fail
  refine (HO.out _ (HB.out.trans (B1.out.mono hB)) (Nat.le_trans hB B1.out.size)).mono ?_
  rintro e w2 ⟨v2, rfl, ho2, hb2⟩
  have O2 := Lib.hid (ho2.base B1.out.size)
  have B2 := Lib.hid (below_chain B1.out hb2)
  obtain ⟨a5, c5, rfl⟩ := ho2.slice
  clear ho2 hb2 m0 m1 m2 H1
  go_wp2
  go_loopg [6] xs.length (fun g6 iv wr => ∃ i : Nat, i + g6 = xs.length ∧ iv = .int .i64 i ∧ O6 wr W.heap.size (.slice a5 xs.length c5) ((xs.take i).map (kS old) ++ xs.drop i) ∧ Below W.heap.size W wr)
  case atStart => exact ⟨0, by omega, rfl, by simpa using O2.out, B2.out⟩
  case round =>
    obtain ⟨i, hi, rfl, hO, hR⟩ := hrel
    obtain ⟨wo, hwo⟩ : ∃ wo, wo = wr := ⟨_, rfl⟩
    subst hwo
    have HOX := Lib.hid hO
    have HR := Lib.hid hR
    have HI := Lib.hid hi
    clear hO hR
    cases gk with
    | zero =>
      obtain rfl : i = xs.length := by omega
      rw [List.take_length, List.drop_length, List.append_nil] at HOX
      have HF := Lib.hid (show NewPrs W (xs.map (kS old)) (.returned (.slice a5 xs.length c5)) wo from ⟨_, rfl, HOX.out, HR.out⟩)
      clear hi
      go_wp2
      go_ret
      exact HF.out
    | succ g6 =>
      have hlt : i < xs.length := by omega
      have HT := Lib.hid (kS_take old xs i hlt)
      rw [mid_drop old xs i hlt] at HOX
      have hlA := Lib.hid (kS_len old xs i (by omega))
      have HLX := Lib.hid (show ((xs.take i).map (kS old) ++ xs.getD i default :: xs.drop (i + 1)).length = xs.length by simp; omega)
      have hiI : ((i : Int) < (xs.length : Int)) := by omega
      have hiN : ¬ ((i : Int) < 0) := by omega
      clear hi
      generalize xs.getD i default = x at *
      generalize (xs.take i).map (kS old) = A at *
      generalize hD : xs.drop (i + 1) = D at *
      have HD := Lib.hid hD
      clear hD
      have HLY := Lib.hid (fun (y : Pr) => show (A ++ y :: D).length = xs.length by have := HLX.out; simpa using this)
      clear HLX
      obtain ⟨gb, cap5, e5, hg1, hg2⟩ := O6.isRow (by rw [← HLY.out x] at HOX; exact HOX.out) (by simp; omega)
      injection e5 with e6 e7 e8
      subst e6
      clear e7 e8 hg2
      obtain rfl := hlA.out
      clear hlA
      go_wp2
      go_loopg [7] old.length (fun g7 kv wx => ∃ (k : Nat) (y : Pr), k + g7 = old.length ∧ kv = .int .i64 k ∧ kS (old.drop k) y = kS old x ∧ O6 wx W.heap.size (.slice (some ⟨gb, 0, none⟩) xs.length c5) (A ++ y :: D) ∧ Below W.heap.size W wx)
      case atStart => exact ⟨0, x, by omega, rfl, rfl, HOX.out, HR.out⟩
      case round =>
        obtain ⟨k, y, hk, rfl, hK, hOY, hRY⟩ := hrel
        obtain ⟨wq, hwq⟩ : ∃ wq, wq = wr := ⟨_, rfl⟩
        subst hwq
        have HKK := Lib.hid hK
        have HOY := Lib.hid hOY
        have HRY := Lib.hid hRY
        have HJ := Lib.hid hk
        have HG6 := Lib.hid (show g6 < g6 + 1 from Nat.lt_succ_self g6)
        clear hK hOY hRY HOX
        cases gk with
        | zero =>
          obtain rfl : k = old.length := by omega
          have HOZ := Lib.hid (show O6 wq W.heap.size (.slice (some ⟨gb, 0, none⟩) xs.length c5) (A ++ kS old x :: D) by rw [← HKK.out, List.drop_length]; exact HOY.out)
          clear hk
          go_wp2
          go_roundg g6
          case measure => exact HG6.out
          case rel => exact ⟨A.length + 1, by have := HI.out; omega, by go_num, by rw [HD.out, ← HT.out]; exact HOZ.out, HRY.out⟩
        | succ g7 =>
          have hkl : k < old.length := by omega
          obtain ⟨eao, hlbo⟩ := HAO.out (by omega)
          subst eao
          have hWY := HB.out.trans (HRY.out.mono hB)
          obtain ⟨c0, c1, c2, c3, c4, c5'⟩ := HCO.out k hkl
          have q0 := (hWY.cell (p := ⟨bo, offo + k * 6, none⟩) hlbo).trans c0
          have q3 := (hWY.cell (p := ⟨bo, offo + k * 6 + 3, none⟩) hlbo).trans c3
          have q4 := (hWY.cell (p := ⟨bo, offo + k * 6 + 4, none⟩) hlbo).trans c4
          have q5 := (hWY.cell (p := ⟨bo, offo + k * 6 + 5, none⟩) hlbo).trans c5'
          have KD := Lib.hid ((kS_drop k hkl y).symm.trans HKK.out)
          have hgo : bo < gb := Nat.lt_of_lt_of_le hlbo (Nat.le_trans hB hg1)
          have HG7 := Lib.hid (show g7 < g7 + 1 from Nat.lt_succ_self g7)
          have hkI : ((k : Int) < (old.length : Int)) := by omega
          have OF := Lib.hid (show O6 wq W.heap.size (.slice (some ⟨gb, 0, none⟩) (A ++ y :: D).length c5) (A ++ y :: D) by rw [HLY.out y]; exact HOY.out)
          obtain ⟨m0, m1, m2, m3, m4, m5⟩ := O6.at OF.out (k := A.length) (by simp)
          rw [mid_get] at m0
          have mf : ∀ o, wq.frozen? ⟨gb, o, none⟩ = false := fun o => own_frozen OF.out o
          have HQ4 := Lib.hid (fun w (hw : Below B w0 w) => (hw.cell (p := ⟨bo, offo + k * 6 + 4, none⟩) hlbo).trans c4)
          clear c0 c1 c2 c3 c4 c5' hWY hk HKK HOY m1 m2 m3 m4 m5
          generalize old.getD k default = z at *
          obtain ⟨zu, zp, zw, zf, zr, zg⟩ := z
          obtain ⟨yu, yp, yw, yf, yr, yg⟩ := y
          simp only at q0 q3 q4 q5 m0 HQ4
          by_cases hmt : zu = yu ∧ zg = false
          · obtain ⟨e1, rfl⟩ := hmt
            obtain rfl : yu = zu := e1.symm
            have KM := Lib.hid (show kS (old.drop (k + 1)) ⟨yu, yp, yw, zf, zr, yg⟩ = kS old x by
              have := KD.out; rw [if_pos (by simp [kmB])] at this; exact this)
            clear e1 KD
            go_wp2_with fail
            go_quiet (fail)
            have OQ := Lib.hid (show O6 (World.drewN wq nq) W.heap.size (.slice (some ⟨gb, 0, none⟩) (A ++ ⟨yu, yp, yw, yf, yr, yg⟩ :: D).length c5) (A ++ ⟨yu, yp, yw, yf, yr, yg⟩ :: D) from OF.out)
            have RQ := Lib.hid (Mk.belDrew HRY.out nq)
            have q3 := (show (World.drewN wq nq).cell? ⟨bo, offo + k * 6 + 3, none⟩ = some (.int .i64 zf) from q3)
            have mf := (show ∀ o, (World.drewN wq nq).frozen? ⟨gb, o, none⟩ = false from mf)
            clear OF HRY m0 q0 q4 q5
            generalize World.drewN _ nq = wx at *
            obtain ⟨m0, m1, m2, m3, m4, m5⟩ := O6.at OQ.out (k := A.length) (by simp)
            rw [mid_get] at m0 m1 m2 m3 m4 m5
            go_upto_region 10 with fail
            obtain ⟨w5, hw5⟩ : ∃ w5, w5 = wx.setCell ⟨gb, A.length * 6 + 3, none⟩ (.int .i64 zf) := ⟨_, rfl⟩
            have O5 := Lib.hid (show O6 w5 W.heap.size (.slice (some ⟨gb, 0, none⟩) (A ++ ⟨yu, yp, yw, zf, yr, yg⟩ :: D).length c5) (A ++ ⟨yu, yp, yw, zf, yr, yg⟩ :: D) by
              have := O6.fails OQ.out (k := A.length) (by simp) zf
              rw [mid_get, mid_set, HLY.out] at this
              rw [hw5, HLY.out]; exact this)
            have R5 := Lib.hid (show Below W.heap.size W w5 by rw [hw5]; exact RQ.out.setCell (p := ⟨gb, A.length * 6 + 3, none⟩) hg1 _)
            rw [← hw5]
            clear hw5 m0 m1 m2 m3 m4 m5 mf q3 OQ RQ
            obtain ⟨m0, m1, m2, m3, m4, m5⟩ := O6.at O5.out (k := A.length) (by simp)
            rw [mid_get] at m0 m1 m2 m3 m4 m5
            have mf : ∀ o, w5.frozen? ⟨gb, o, none⟩ = false := fun o => own_frozen O5.out o
            have q4 := HQ4.out w5 (HB.out.trans (R5.out.mono hB))
            have OL := Lib.hid (show O6 (w5.setCell ⟨gb, A.length * 6 + 4, none⟩ (.int .i64 zr)) W.heap.size (.slice (some ⟨gb, 0, none⟩) xs.length c5) (A ++ ⟨yu, yp, yw, zf, zr, yg⟩ :: D) by
              have := O6.retry O5.out (k := A.length) (by simp) zr
              rw [mid_get, mid_set, HLY.out] at this
              exact this)
            have RL := Lib.hid (show Below W.heap.size W (w5.setCell ⟨gb, A.length * 6 + 4, none⟩ (.int .i64 zr)) from R5.out.setCell (p := ⟨gb, A.length * 6 + 4, none⟩) hg1 _)
            clear HQ4
            go_wp2
            go_roundg g7
            case measure => exact HG7.out
            case rel => exact ⟨k + 1, ⟨yu, yp, yw, zf, zr, yg⟩, by have := HJ.out; omega, by go_num, KM.out, OL.out, RL.out⟩
          · have KN := Lib.hid (show kS (old.drop (k + 1)) ⟨yu, yp, yw, yf, yr, yg⟩ = kS old x by
              have := KD.out; rw [if_neg (fun e => hmt (by unfold kmB at e; simpa using e))] at this; exact this)
            by_cases e1 : zu = yu
            · obtain rfl : zg = true := by
                cases zg
                · exact (hmt ⟨e1, rfl⟩).elim
                · rfl
              obtain rfl : yu = zu := e1.symm
              clear hmt KD e1
              go_wp2_with fail
              go_quiet (fail)
              have OQ := Lib.hid (show O6 (World.drewN wq nq) W.heap.size (.slice (some ⟨gb, 0, none⟩) (A ++ ⟨yu, yp, yw, yf, yr, yg⟩ :: D).length c5) (A ++ ⟨yu, yp, yw, yf, yr, yg⟩ :: D) from OF.out)
              have RQ := Lib.hid (Mk.belDrew HRY.out nq)
              clear OF HRY m0 q0 q3 q4 q5 mf
              generalize World.drewN _ nq = wx at *
              go_wp2
              go_roundg g7
              case measure => exact HG7.out
              case rel => exact ⟨k + 1, ⟨yu, yp, yw, yf, yr, yg⟩, by have := HJ.out; omega, by go_num, KN.out, by have := OQ.out; rw [HLY.out] at this; exact this, RQ.out⟩
            · clear hmt KD
              go_wp2_with fail
              go_quiet (fail)
              have OQ := Lib.hid (show O6 (World.drewN wq nq) W.heap.size (.slice (some ⟨gb, 0, none⟩) (A ++ ⟨yu, yp, yw, yf, yr, yg⟩ :: D).length c5) (A ++ ⟨yu, yp, yw, yf, yr, yg⟩ :: D) from OF.out)
              have RQ := Lib.hid (Mk.belDrew HRY.out nq)
              clear OF HRY m0 q0 q3 q4 q5 mf
              generalize World.drewN _ nq = wx at *
              go_wp2
              go_roundg g7
              case measure => exact HG7.out
              case rel => exact ⟨k + 1, ⟨yu, yp, yw, yf, yr, yg⟩, by have := HJ.out; omega, by go_num, KN.out, by have := OQ.out; rw [HLY.out] at this; exact this, RQ.out⟩
end Go.Proofs.YtakiigddbdapaaaGreatDoor.Pe
