
/-
  The walk of the model's function of chapter 2 that reads a web URL.
-/
import Derived.Test.YtniflfgnelfpbaaDoorUrlSpecG
namespace Go.Proofs.YtniflfgnelfpbaaDoor.Ul
open Go.RowKit
attribute [local go_sem] ext_bef ext_aft ext_tail
@[local go_sem] theorem ext_two (a b : UInt8) (l : List UInt8) : (⟨(a :: b :: l).toArray⟩ : ByteArray).extract 0 2 = ⟨#[a, b]⟩ := by
  apply ByteArray.ext; simp
@[local go_sem] theorem ext_past2 (a b : UInt8) (l : List UInt8) : (⟨(a :: b :: l).toArray⟩ : ByteArray).extract 2 (l.length + 1 + 1) = ⟨l.toArray⟩ := by
  apply ByteArray.ext; simp
@[local go_sem] theorem ext_from (l : List UInt8) (c : Nat) : (⟨l.toArray⟩ : ByteArray).extract (findB l c) l.length = ⟨(l.drop (findB l c)).toArray⟩ := by
  apply ByteArray.ext; simp [List.extract_toArray]; exact List.take_of_length_le (by simp)
theorem drop_yes {l : List UInt8} {c : Nat} (hc : c < 256) (h : hasB l c = true) : l.drop (findB l c) = UInt8.ofNat c :: aftL l c := by
  induction l with
  | nil => simp [hasB, findB] at h
  | cons x l ih =>
    by_cases hx : x.toNat = c
    · have e : findB (x :: l) c = 0 := by simp [findB, hx]
      have : x = UInt8.ofNat c := by subst hx; simp
      simp only [aftL, e, List.drop_zero, Nat.zero_add, List.drop_succ_cons]
      rw [← this]
    · have e : findB (x :: l) c = findB l c + 1 := by simp [findB, hx]
      have h' : hasB l c = true := by simp [hasB, e] at h ⊢; omega
      have := ih h'
      simp only [aftL, e] at this ⊢
      simpa using this
theorem drop_no {l : List UInt8} {c : Nat} (h : hasB l c = false) : l.drop (findB l c) = [] := by
  have := findB_le l c
  simp only [hasB, decide_eq_false_iff_not] at h
  exact List.drop_eq_nil_of_le (by omega)
theorem empty_no {l : List UInt8} {c : Nat} (h : (l.drop (findB l c)).isEmpty = true) : hasB l c = false := by
  simp only [List.isEmpty_iff] at h
  have := congrArg List.length h
  simp at this
  simp [hasB]; omega
theorem empty_yes {l : List UInt8} {c : Nat} (h : (l.drop (findB l c)).isEmpty = false) : hasB l c = true := by
  cases hh : hasB l c with
  | true => rfl
  | false => rw [drop_no hh] at h; cases h
theorem site_len (r : List UInt8) : (siteOf r).length ≤ r.length := by
  have a := bef_len r 35
  have b := bef_len (befL r 35) 63
  have c := bef_len (beforeQ r) 47
  have d := aft_len (befL (beforeQ r) 47) 64
  unfold siteOf behindUser
  unfold beforeQ at *
  split <;> omega
theorem has_lt {l : List UInt8} {c : Nat} {b : Bool} (h : hasB l c = b) : decide (findB l c < l.length) = b := h
def wX (s r : List UInt8) : U := if webSplitB r then webU s r else U.none
def wB (s r : List UInt8) : Bool := webSplitB r && okB (webU s r)
theorem w_yes {s r : List UInt8} (h : webSplitB r = true) : wX s r = webU s r ∧ wB s r = okB (webU s r) := by simp [wX, wB, h]
theorem w_no {s r : List UInt8} (h : webSplitB r = false) : wX s r = U.none ∧ wB s r = false := by simp [wX, wB, h]
theorem okU_any (u : U) (w : World) (hp1 : u.prt ≤ 9223372036854775807) (hl : sizeU u ≤ 4611686018427387904) :
    Calls Tryd.prog 68 #[uV u] w fun e w' => e = .returned (.bool (okB u)) ∧ Below w.heap.size w w' :=
  ok_any u.sch u.usr u.hst u.pth u.qry u.frg u.prt u.hq u.hf w hp1 hl
theorem port_parts {t : List UInt8} (h : portOKB t = true) : numB t = true ∧ 1 ≤ numV t ∧ numV t ≤ 65535 := by
  simp only [portOKB, Bool.and_eq_true, decide_eq_true_eq] at h
  exact ⟨h.1.1, h.1.2, h.2⟩
theorem webU_port (s r : List UInt8) : (webU s r).prt ≤ 9223372036854775807 := by
  simp only [webU]
  split
  · unfold portV
    split
    · rename_i h
      have := port_parts h
      split <;> omega
    · omega
  · omega
theorem webU_size (s r : List UInt8) (hs : s.length ≤ 140737488351232) (hr : r.length ≤ 140737488351232) : sizeU (webU s r) ≤ 4611686018427387904 := by
  have a := bef_len r 35
  have a2 := aft_len r 35
  have b := bef_len (befL r 35) 63
  have b2 := aft_len (befL r 35) 63
  have c := bef_len (beforeQ r) 47
  have c2 := aft_len (beforeQ r) 47
  have d := site_len r
  have e := bef_len (siteOf r) 58
  have f := low_len (befL (siteOf r) 58)
  have g := bef_len (befL (beforeQ r) 47) 64
  have h : (userOf (befL (beforeQ r) 47)).length ≤ (befL (beforeQ r) 47).length := by unfold userOf; split; exact g; simp
  have i : (beforeQ r).length ≤ r.length := Nat.le_trans b a
  simp only [sizeU, webU, List.length_cons]
  omega
set_option maxRecDepth 100000 in
set_option maxHeartbeats 4000000 in
theorem parseS_web (t r : List UInt8) (w : World) (hl : t.length ≤ 140737488351232) (h : hasB t 58 = true) (hw : webB (lowL (befL t 58)) = true) (hrest : aftL t 58 = 47 :: 47 :: r) : Calls Tryd.prog 43 #[.string ⟨t.toArray⟩] w fun e w' => e = .returned (.tuple #[uV (wX (lowL (befL t 58)) r), .bool (wB (lowL (befL t 58)) r)]) ∧ Below w.heap.size w w' := by
  have hk := findB_le t 58
  obtain ⟨d0, d1⟩ := has_yes h
  have hl1 := bef_len t 58
  have hl2 : r.length + 2 ≤ t.length := by have := aft_len t 58; rw [hrest] at this; simpa using this
  have HLOW := Lib.hid (fun W => lowerS_any (befL t 58) W (by omega))
  have hl3 := low_len (befL t 58)
  have hsl : (lowL (befL t 58)).length ≤ 140737488351232 := by omega
  clear h hl3
  generalize lowL (befL t 58) = s at *
  have hf1 := findB_le r 35
  have hr1 := bef_len r 35
  have hf2 := findB_le (befL r 35) 63
  have hr2 := bef_len (befL r 35) 63
  go_enter Tryd.func43, Tryd.ntmps43
  go_upto_if 63 with (first
    | (go_at_call 66; refine (find_any _ _ _ (by first | omega | (simp; omega))).mono ?_; rintro e w' ⟨rfl, rfl⟩)
    | (go_at_call 67; refine (HLOW.out _).mono ?_; rintro e w1 ⟨rfl, hb⟩; have hc := bcell hb; have hz : w.heap.size < w1.heap.size := (by have := hb.size; (try simp at this); omega))
    | (go_at_call 60; refine (web_any _ _).mono ?_; rintro e w' ⟨rfl, rfl⟩))
  go_cut [6] (fun s6 wx => s6 = .string ⟨(befL r 35).toArray⟩ ∧ wx = w1.alloc (.cells #[.string ⟨s.toArray⟩, .string ⟨#[]⟩, .string ⟨#[]⟩, .int .i64 0, .string ⟨#[]⟩, .string ⟨#[]⟩, .string ⟨(aftL r 35).toArray⟩, .bool false, .bool (hasB r 35)] 67))
  case first =>
    cases hh : hasB r 35
    · have hd := has_lt hh
      obtain ⟨-, hlt⟩ := has_no hh
      have hbn := Lib.hid (bef_none r 35 hh)
      have han := Lib.hid (aft_none r 35 hh)
      have HH := Lib.hid hh
      clear hh
      go_wp2_with fail
      go_meet
      exact ⟨by rw [hbn.out], by rw [han.out, HH.out]⟩
    · have hd := has_lt hh
      obtain ⟨-, hlt⟩ := has_yes hh
      have HH := Lib.hid hh
      clear hh
      go_wp2_with fail
      go_meet
      exact ⟨rfl, by rw [HH.out]⟩
  case rest =>
    obtain ⟨rfl, rfl⟩ := hcut
    go_upto_if 78 with (go_at_call 66; refine (find_any _ _ _ (by omega)).mono ?_; rintro e w' ⟨rfl, rfl⟩)
    go_cut [6] (fun s6 wx => s6 = .string ⟨(beforeQ r).toArray⟩ ∧ wx = w1.alloc (.cells #[.string ⟨s.toArray⟩, .string ⟨#[]⟩, .string ⟨#[]⟩, .int .i64 0, .string ⟨#[]⟩, .string ⟨(aftL (befL r 35) 63).toArray⟩, .string ⟨(aftL r 35).toArray⟩, .bool (hasB (befL r 35) 63), .bool (hasB r 35)] 67))
    case first =>
      cases hh : hasB (befL r 35) 63
      · have hd := has_lt hh
        obtain ⟨-, hlt⟩ := has_no hh
        have hbn := Lib.hid (bef_none _ 63 hh)
        have han := Lib.hid (aft_none _ 63 hh)
        have HH := Lib.hid hh
        clear hh
        go_wp2_with fail
        go_meet
        exact ⟨by rw [beforeQ, hbn.out], by rw [han.out, HH.out]⟩
      · have hd := has_lt hh
        obtain ⟨-, hlt⟩ := has_yes hh
        have HH := Lib.hid hh
        clear hh
        go_wp2_with fail
        go_meet
        exact ⟨rfl, by rw [HH.out]⟩
    case rest =>
      obtain ⟨rfl, rfl⟩ := hcut
      have hf3 := findB_le (beforeQ r) 47
      have hr3 : (beforeQ r).length ≤ r.length := Nat.le_trans (bef_len _ 63) hr1
      have hr4 := bef_len (beforeQ r) 47
      have hf4 := findB_le (befL (beforeQ r) 47) 64
      have hf5 := findB_le (siteOf r) 58
      have hr5 : (siteOf r).length ≤ r.length := site_len r
      go_upto_if 96 with (go_at_call 66; refine (find_any _ _ _ (by omega)).mono ?_; rintro e w' ⟨rfl, rfl⟩)
      go_cut [] (fun wx => wx = w1.alloc (.cells #[.string ⟨s.toArray⟩, .string ⟨#[]⟩, .string ⟨#[]⟩, .int .i64 0, .string ⟨(47 :: aftL (beforeQ r) 47).toArray⟩, .string ⟨(aftL (befL r 35) 63).toArray⟩, .string ⟨(aftL r 35).toArray⟩, .bool (hasB (befL r 35) 63), .bool (hasB r 35)] 67))
      case first =>
        go_wp2_with fail
        · have hie : (List.drop (findB (beforeQ r) 47) (beforeQ r)).isEmpty = true := by assumption
          go_meet
          rw [aft_none _ 47 (empty_no hie)]
        · have hie : (List.drop (findB (beforeQ r) 47) (beforeQ r)).isEmpty = false := by assumption
          go_meet
          rw [drop_yes (by decide) (empty_yes hie)]; rfl
      case rest =>
        obtain rfl := hcut
        go_upto_if 106 with (go_at_call 66; refine (find_any _ _ _ (by omega)).mono ?_; rintro e w' ⟨rfl, rfl⟩)
        go_cut [6] (fun s6 wx => s6 = .string ⟨(siteOf r).toArray⟩ ∧ wx = w1.alloc (.cells #[.string ⟨s.toArray⟩, .string ⟨(userOf (befL (beforeQ r) 47)).toArray⟩, .string ⟨#[]⟩, .int .i64 0, .string ⟨(47 :: aftL (beforeQ r) 47).toArray⟩, .string ⟨(aftL (befL r 35) 63).toArray⟩, .string ⟨(aftL r 35).toArray⟩, .bool (hasB (befL r 35) 63), .bool (hasB r 35)] 67))
        case first =>
          cases hh : hasB (befL (beforeQ r) 47) 64
          · have hd := has_lt hh
            obtain ⟨-, hlt⟩ := has_no hh
            have HH := Lib.hid hh
            clear hh
            go_wp2_with fail
            go_meet
            exact ⟨by simp [siteOf, behindUser, HH.out], by simp [userOf, HH.out]⟩
          · have hd := has_lt hh
            obtain ⟨-, hlt⟩ := has_yes hh
            have HH := Lib.hid hh
            clear hh
            go_wp2_with fail
            go_meet
            exact ⟨by simp [siteOf, behindUser, HH.out], by simp [userOf, HH.out]⟩
        case rest =>
          obtain ⟨rfl, rfl⟩ := hcut
          have hr6 := bef_len (siteOf r) 58
          have HL2 := Lib.hid (fun W => lowerS_any (befL (siteOf r) 58) W (by omega))
          have hr7 := aft_len (siteOf r) 58
          have HN := Lib.hid (fun W => numS_any (aftL (siteOf r) 58) W (by omega))
          have hbw : Below w.heap.size w w1 := (by repeat (first | exact Below.refl _ _ | refine bel_alloc ?_ | refine Below.drew ?_ | refine bel_step ?_ (by assumption)))
          obtain ⟨q0, q1, q2, q3, q4, q5, q6, q7, q8, qf⟩ := cells9 hc
          have QU : UAt w1 w.heap.size U.none := ⟨q0, q1, q2, q3, q4, q5, q6, q7, q8, qf⟩
          clear q0 q1 q2 q3 q4 q5 q6 q7 q8 qf hb hc
          have HO := Lib.hid (fun W => okU_any (webU s r) W (webU_port s r) (webU_size s r hsl (by omega)))
          go_upto_if 125 with (first
            | (go_at_call 66; refine (find_any _ _ _ (by omega)).mono ?_; rintro e w' ⟨rfl, rfl⟩)
            | (go_at_call 67; refine (HL2.out _).mono ?_; rintro e w2 ⟨rfl, hb2⟩; have V := UAt.below (UAt.new w1 ⟨s, userOf (befL (beforeQ r) 47), [], 0, 47 :: aftL (beforeQ r) 47, aftL (befL r 35) 63, aftL r 35, hasB (befL r 35) 63, hasB r 35⟩) hb2 (by simp); have v0 := V.k0; have v2 := V.k2; have v3 := V.k3; have vf := V.kf))
          have V2 := V.host (lowL (befL (siteOf r) 58))
          have hz2 : w1.heap.size < w2.heap.size := by have := hb2.size; simp at this; omega
          have QU2 := ((QU.alloc _ hz).below hb2 (by simp; omega)).far ⟨w1.heap.size, 2, none⟩ (.string ⟨(lowL (befL (siteOf r) 58)).toArray⟩) (by show w1.heap.size ≠ w.heap.size; omega)
          have hbx : Below w.heap.size w (w2.setCell ⟨w1.heap.size, 2, none⟩ (.string ⟨(lowL (befL (siteOf r) 58)).toArray⟩)) := (bel_step (bel_alloc hbw) hb2).setCell (by show w.heap.size ≤ w1.heap.size; omega) _
          go_cut [] (fun wx => UAt wx w1.heap.size (webU s r) ∧ UAt wx w.heap.size U.none ∧ Below w.heap.size w wx ∧ w1.heap.size < wx.heap.size ∧ webSplitB r = true)
          case first =>
            cases hh : hasB (siteOf r) 58
            · have hd := has_lt hh
              obtain ⟨-, hlt⟩ := has_no hh
              have EW : Hid (webU s r = ⟨s, userOf (befL (beforeQ r) 47), lowL (befL (siteOf r) 58), 0, 47 :: aftL (beforeQ r) 47, aftL (befL r 35) 63, aftL r 35, hasB (befL r 35) 63, hasB r 35⟩) := Lib.hid (by simp [webU, hh])
              have HSP : Hid (webSplitB r = true) := Lib.hid (by simp [webSplitB, hh])
              clear hh
              go_wp2_with fail
              go_meet
              exact ⟨by rw [EW.out]; exact V2, QU2, hbx, by simpa using hz2, HSP.out⟩
            · have hd := has_lt hh
              obtain ⟨-, hlt⟩ := has_yes hh
              cases hp : portOKB (aftL (siteOf r) 58)
              · have HW := Lib.hid (w_no (s := s) (r := r) (by simp [webSplitB, hh, hp]))
                clear hh
                obtain ⟨q0, q1, q2, q3, q4, q5, q6, q7, q8, qf⟩ := ((QU.alloc _ hz).below hb2 (by simp; omega))
                have hzb : w.heap.size ≠ w1.heap.size := by omega
                have hzc : w1.heap.size ≠ w.heap.size := by omega
                cases hnb : numB (aftL (siteOf r) 58)
                · rw [hnb] at HN
                  clear hp hnb
                  go_wp2_with (go_at_call 69; refine (HN.out _).mono ?_; rintro e w' ⟨rfl, rfl⟩)
                  refine bodyPost_ret (ret_url2 (u := U.none) (a := 2) (s := 3) (B := w.heap.size) (c := .bool false) Tryd.results43 rfl rfl ?_ ?_ ?_ ?_ ?_ ?_ ?_ ?_ ?_) rfl ⟨by rw [HW.out.1, HW.out.2], ?_⟩
                  rotate_left 9
                  · exact (by repeat (first | (with_reducible exact Below.refl _ _) | (with_reducible refine bel_set ?_ (Nat.le_refl _)) | (with_reducible refine bel_alloc ?_) | (with_reducible refine Below.drew ?_) | (with_reducible refine bel_step ?_ (by assumption))))
                  all_goals (simp [go_sem, U.none, *]; done)
                · rw [hnb] at HN
                  have hnr : ¬ (1 ≤ numV (aftL (siteOf r) 58) ∧ numV (aftL (siteOf r) 58) ≤ 65535) := by
                    intro ⟨h1, h2⟩
                    simp [portOKB, hnb, h1, h2] at hp
                  have HI := Lib.hid (fun W => in_no (numV (aftL (siteOf r) 58)) 1 65535 W hnr)
                  clear hp hnb hnr
                  generalize numV (aftL (siteOf r) 58) = n at *
                  go_wp2_with (first
                    | (go_at_call 69; refine (HN.out _).mono ?_; rintro e w' ⟨rfl, rfl⟩)
                    | (go_at_call 34; refine (HI.out _).mono ?_; rintro e w' ⟨rfl, rfl⟩))
                  refine bodyPost_ret (ret_url2 (u := U.none) (a := 2) (s := 3) (B := w.heap.size) (c := .bool false) Tryd.results43 rfl rfl ?_ ?_ ?_ ?_ ?_ ?_ ?_ ?_ ?_) rfl ⟨by rw [HW.out.1, HW.out.2], ?_⟩
                  rotate_left 9
                  · exact (by repeat (first | (with_reducible exact Below.refl _ _) | (with_reducible refine bel_set ?_ (Nat.le_refl _)) | (with_reducible refine bel_alloc ?_) | (with_reducible refine Below.drew ?_) | (with_reducible refine bel_step ?_ (by assumption))))
                  all_goals (simp [go_sem, U.none, *]; done)
              · have HSP : Hid (webSplitB r = true) := Lib.hid (by simp [webSplitB, hh, hp])
                have EW : Hid (webU s r = ⟨s, userOf (befL (beforeQ r) 47), lowL (befL (siteOf r) 58), (if numV (aftL (siteOf r) 58) = usual s then 0 else numV (aftL (siteOf r) 58)), 47 :: aftL (beforeQ r) 47, aftL (befL r 35) 63, aftL r 35, hasB (befL r 35) 63, hasB r 35⟩) := Lib.hid (by simp [webU, hh, portV, hp])
                obtain ⟨hp1, hp2, hp3⟩ := port_parts hp
                clear hh hp
                rw [hp1] at HN
                generalize numV (aftL (siteOf r) 58) = n at *
                have HU := Lib.hid (fun W => usual_any s W)
                generalize usual s = us at *
                have HI := Lib.hid (fun W => in_yes n 1 65535 W ⟨hp2, hp3⟩)
                by_cases hn : n = us
                · have hn1 : (n != us) = false := by simp [hn]
                  have EN : Hid (n = us) := Lib.hid hn
                  clear hn
                  go_wp2_with (first
                    | (go_at_call 69; refine (HN.out _).mono ?_; rintro e w' ⟨rfl, rfl⟩)
                    | (go_at_call 34; refine (HI.out _).mono ?_; rintro e w' ⟨rfl, rfl⟩)
                    | (go_at_call 70; refine (HU.out _).mono ?_; rintro e w' ⟨rfl, rfl⟩))
                  go_meet
                  exact ⟨by rw [EW.out, if_pos EN.out]; exact V2, QU2, hbx, by simpa using hz2, HSP.out⟩
                · have hn1 : (n != us) = true := by simp [hn]
                  have EN : Hid (¬ n = us) := Lib.hid hn
                  clear hn
                  go_wp2_with (first
                    | (go_at_call 69; refine (HN.out _).mono ?_; rintro e w' ⟨rfl, rfl⟩)
                    | (go_at_call 34; refine (HI.out _).mono ?_; rintro e w' ⟨rfl, rfl⟩)
                    | (go_at_call 70; refine (HU.out _).mono ?_; rintro e w' ⟨rfl, rfl⟩))
                  go_meet
                  exact ⟨by rw [EW.out, if_neg EN.out]; exact V2.port n, QU2.far _ _ (by show w1.heap.size ≠ w.heap.size; omega), hbx.setCell (by show w.heap.size ≤ w1.heap.size; omega) _, by simpa using hz2, HSP.out⟩
          case rest =>
            obtain ⟨VU, VQ, hbx, hsz, hsp⟩ := hcut
            have HW := Lib.hid (w_yes (s := s) hsp)
            clear hsp
            generalize webU s r = u at *
            obtain ⟨x0, x1, x2, x3, x4, x5, x6, x7, x8, xf⟩ := VU
            obtain ⟨q0, q1, q2, q3, q4, q5, q6, q7, q8, qf⟩ := VQ
            have hsz2 : w.heap.size < wc.heap.size := by omega
            clear V V2 v0 v2 v3 vf QU QU2 hb2 HL2 HN HLOW
            go_wp2_with fail
            go_region_with (first | (go_at_call 68; refine (HO.out _).mono ?_; rintro e w3 ⟨rfl, hb3⟩; have hc3 := fun o => hb3.cell (p := ⟨w.heap.size, o, none⟩) (by simp; omega); have hf3 := fun o => hb3.frozen (p := ⟨w.heap.size, o, none⟩) (by simp; omega); have hu3 := fun o => hb3.cell (p := ⟨w1.heap.size, o, none⟩) (by simp; omega)) | fail)
            all_goals
              go_wp2
              refine bodyPost_ret (ret_url2 (u := u) (a := 2) (s := 3) (B := w.heap.size) (c := .bool (okB u)) Tryd.results43 rfl rfl ?_ ?_ ?_ ?_ ?_ ?_ ?_ ?_ ?_) rfl ⟨by rw [HW.out.1, HW.out.2], ?_⟩
              rotate_left 9
              · exact (by repeat (first | (with_reducible exact Below.refl _ _) | (with_reducible refine bel_set ?_ (Nat.le_refl _)) | (with_reducible refine bel_alloc ?_) | (with_reducible refine Below.drew ?_) | (with_reducible refine bel_step ?_ (by assumption))))
              all_goals (simp [go_sem, *]; done)
end Go.Proofs.YtniflfgnelfpbaaDoor.Ul
