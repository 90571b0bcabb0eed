
/-
  The model's l02Text and JsonText, walked.
-/
import Derived.Test.YtniflfgnelfpbaaDoorJtA
import Derived.Test.YtniflfgnelfpbaaDoorJsOk
import Derived.Test.YtniflfgnelfpbaaDoorQuoteSpec
import Derived.Test.YtniflfgnelfpbaaDoorUrlSpecB
import Derived.Lib.ItoaMem
namespace Go.Proofs.YtniflfgnelfpbaaDoor.Js
open Go.RowKit
open Go.Proofs.YtniflfgnelfpbaaDoor.Bl (quoteL quoteS_any str_eq ret_s)
@[local go_sem] theorem bappJ (a b : List UInt8) : (⟨a.toArray⟩ : ByteArray) ++ ⟨b.toArray⟩ = ⟨(a ++ b).toArray⟩ := by
  apply ByteArray.ext; simp
set_option maxRecDepth 100000 in
set_option maxHeartbeats 1000000 in
theorem digitsZ_any (n : Int) (h1 : -999999999 ≤ n) (h2 : n ≤ 999999999) (w : World) : Calls Tryd.prog 48 #[.int .i64 n] w fun e w' => e = .returned (.string ⟨(Lib.itoa n).toArray⟩) ∧ Below w.heap.size w w' := by
  by_cases hn : n < 0
  · obtain ⟨m, rfl⟩ : ∃ m : Nat, n = -(m : Int) := ⟨n.natAbs, by omega⟩
    have HD := Lib.hid (fun W => Ul.digits_any m (by omega) W)
    have hw1 : IntKind.i64.wrap (-(-(m : Int))) = (m : Int) := by rw [Int.neg_neg]; exact IntWalk.i64_in _ ⟨by omega, by omega⟩
    have hw2 : IntKind.i64.wrap (m : Int) = (m : Int) := IntWalk.i64_in _ ⟨by omega, by omega⟩
    have d0 : ((-(m : Int)) == -9223372036854775808) = false := by simp; omega
    have d1 : decide (-(m : Int) < 0) = true := by simp; omega
    have hl := dec_le 8 m (by omega)
    rw [Lib.itoa_neg m (by omega)]
    generalize Lib.decDigits m = dd at *
    go_enter Tryd.func48, Tryd.ntmps48
    go_wp2_with (go_at_call 48; (try rw [Int.neg_neg]); refine (HD.out _).mono ?_; rintro e w1 ⟨rfl, hb⟩)
    go_ret
    exact ⟨rfl, hb⟩
  · obtain ⟨m, rfl⟩ := Int.eq_ofNat_of_zero_le (show 0 ≤ n by omega)
    rw [Lib.itoa_nonneg]
    exact Ul.digits_any m (by omega) w
def TxPost (W : World) (l : List UInt8) (e : Ending) (w' : World) : Prop := e = .returned (.string ⟨l.toArray⟩) ∧ Below W.heap.size W w'
/-- the text under way, after k items: o, and what is still to come -/
def TRel (W : World) (whole : List UInt8) (C : Array Value) (obj : Bool) (ns : List (List UInt8)) (xs : List J) (k : Nat) (o : List UInt8) (wr : World) : Prop :=
  o ++ restL obj ns xs k = whole ∧ wr.heap[W.heap.size]? = some (.cells C 38 (0, 0)) ∧ Below W.heap.size W wr
theorem tRel_step {W wr w2 : World} {whole : List UInt8} {C : Array Value} {obj : Bool} {ns : List (List UInt8)} {xs : List J} {k : Nat} {o : List UInt8} (h : TRel W whole C obj ns xs k o wr) (hk : k < xs.length) (hb : Below wr.heap.size wr w2) :
    TRel W whole C obj ns xs (k + 1) (o ++ (commaL k ++ (nameL obj (ns.getD k []) ++ textJ (xs.getD k default)))) w2 := by
  obtain ⟨h1, h2, h3⟩ := h
  have hlt : W.heap.size < wr.heap.size := (Array.getElem?_eq_some_iff.1 h2).1
  refine ⟨?_, (hb.block _ hlt).trans h2, h3.trans (hb.mono h3.size)⟩
  rw [← h1, restL_step obj ns xs k hk]
  simp
theorem tRel_len {W wr : World} {whole : List UInt8} {C : Array Value} {obj : Bool} {ns : List (List UInt8)} {xs : List J} {k : Nat} {o : List UInt8} (h : TRel W whole C obj ns xs k o wr) (hk : k < xs.length) :
    o.length + ((commaL k).length + ((nameL obj (ns.getD k [])).length + (textJ (xs.getD k default)).length)) ≤ whole.length := by
  have := congrArg List.length h.1
  rw [restL_step obj ns xs k hk] at this
  simp only [List.length_append] at this
  omega
theorem jin_item {B : Nat} {w0 : World} {xs : List J} {iv : Value} (h : LIn (· < B) w0 iv xs) : ∃ (a : Option Addr) (cap b off : Nat) (vn vi : Nat → Value), iv = .slice a xs.length cap ∧ xs.length ≤ cap ∧ cap ≤ 9223372036854775807 ∧ (0 < xs.length → a = some ⟨b, off, none⟩ ∧ b < B) ∧
    ∀ i, i < xs.length → ((w0.cell? ⟨b, off + i * 5, none⟩ = some (.int .i64 (xs.getD i default).kind) ∧ w0.cell? ⟨b, off + i * 5 + 1, none⟩ = some (.int .i64 (xs.getD i default).num) ∧
      w0.cell? ⟨b, off + i * 5 + 2, none⟩ = some (.string ⟨(xs.getD i default).text.toArray⟩) ∧ w0.cell? ⟨b, off + i * 5 + 3, none⟩ = some (vn i) ∧ w0.cell? ⟨b, off + i * 5 + 4, none⟩ = some (vi i)) ∧
    JIn (· < B) w0 (xs.getD i default) (vn i) (vi i)) := by
  obtain ⟨a, cap, b, off, vn, vi, e, h1, h2, h3, h4, h5⟩ := h
  exact ⟨a, cap, b, off, vn, vi, e, h1, h2, h3, fun i hi => ⟨h4 i hi, h5 i hi⟩⟩
set_option maxRecDepth 100000 in
set_option maxHeartbeats 4000000 in
theorem textS_list (B : Nat) (w0 : World) (d : Nat) (hd5 : d ≤ 5) (n : Int) (t : List UInt8) (ns : List (List UInt8)) (xs : List J) (nv iv : Value) (hok : okJ (.mk 5 n t ns xs) d = true) (h : JIn (· < B) w0 (.mk 5 n t ns xs) nv iv)
    (ih : ∀ i, i < xs.length → ∀ (nv iv : Value), JIn (· < B) w0 (xs.getD i default) nv iv → ∀ (W : World), Below B w0 W → B ≤ W.heap.size → Calls Tryd.prog 26 #[jV (xs.getD i default) nv iv] W (TxPost W (textJ (xs.getD i default))))
    (W : World) (hb : Below B w0 W) (hB : B ≤ W.heap.size) : Calls Tryd.prog 26 #[jV (.mk 5 n t ns xs) nv iv] W (TxPost W (textJ (.mk 5 n t ns xs))) := by
  have hlen := Nat.le_trans (textJ_le _ d hok) (longest_le d hd5)
  obtain ⟨hL, hN, b1, b2, b3⟩ := h.inv
  obtain ⟨an, ln, cn, rfl⟩ := hN.slice
  obtain ⟨a, cap, b, off, vn, vi, rfl, hcap, hm, ha, hc⟩ := jin_item hL
  rw [text5] at hlen ⊢
  have hn : xs.length ≤ 9223372036854775807 := by omega
  have hw : (restL false ns xs 0).length ≤ 395642090 := by simp at hlen; omega
  have HC := Lib.hid hc
  have HA := Lib.hid ha
  have HI := Lib.hid ih
  have HB := Lib.hid hb
  have hst : TRel W (restL false ns xs 0) #[.int .i64 5, .int .i64 n, .string ⟨t.toArray⟩, .slice an ln cn, .slice a xs.length cap] false ns xs 0 [] (W.alloc (.cells #[.int .i64 5, .int .i64 n, .string ⟨t.toArray⟩, .slice an ln cn, .slice a xs.length cap] 38)) :=
    ⟨rfl, heap_alloc_new _ _, (Below.refl _ _).alloc (Nat.le_refl _) _⟩
  have HST := Lib.hid hst
  have HEND := Lib.hid (fun (o : List UInt8) (wr : World) (h : TRel W (restL false ns xs 0) #[.int .i64 5, .int .i64 n, .string ⟨t.toArray⟩, .slice an ln cn, .slice a xs.length cap] false ns xs xs.length o wr) => show o = restL false ns xs 0 by have := h.1; rw [restL_end, List.append_nil] at this; exact this)
  clear hc ha ih hb hst hlen h hL hN
  generalize restL false ns xs 0 = whole at *
  show Calls _ _ #[.agg #[.int .i64 5, .int .i64 n, .string ⟨t.toArray⟩, .slice an ln cn, .slice a xs.length cap]] _ _
  go_enter Tryd.func26, Tryd.ntmps26
  go_wp2
  go_loopw [3, 4] (fun o i wr => ∃ (k : Nat) (ol : List UInt8), k ≤ xs.length ∧ i = .int .i64 k ∧ o = .string ⟨ol.toArray⟩ ∧ TRel W whole #[.int .i64 5, .int .i64 n, .string ⟨t.toArray⟩, .slice an ln cn, .slice a xs.length cap] false ns xs k ol wr) (fun _ i _ => xs.length - (intOf i).toNat)
  case atStart => exact ⟨0, [], by omega, rfl, rfl, HST.out⟩
  case round =>
    obtain ⟨k, ol, hk, rfl, rfl, hR⟩ := hrel
    obtain ⟨m00, m01, m02, m03, m04, -⟩ := five_cells hR.2.1
    by_cases hlt : k < xs.length
    · obtain ⟨ea, hlb⟩ := HA.out (by omega)
      subst ea
      have hlen := tRel_len hR hlt
      have HSTEP := Lib.hid (fun w2 hb => tRel_step (w2 := w2) hR hlt hb)
      have hWB : Below W.heap.size W wr := hR.2.2
      have hW : Below B w0 wr := HB.out.trans (hWB.mono hB)
      obtain ⟨⟨c0, c1, c2, c3, c4⟩, hJ⟩ := HC.out k hlt
      have q0 := (hW.cell (p := ⟨b, off + k * 5, none⟩) hlb).trans c0
      have q1 := (hW.cell (p := ⟨b, off + k * 5 + 1, none⟩) hlb).trans c1
      have q2 := (hW.cell (p := ⟨b, off + k * 5 + 2, none⟩) hlb).trans c2
      have q3 := (hW.cell (p := ⟨b, off + k * 5 + 3, none⟩) hlb).trans c3
      have q4 := (hW.cell (p := ⟨b, off + k * 5 + 4, none⟩) hlb).trans c4
      obtain ⟨⟨an', ln', cn', en⟩, ⟨ai', li', ci', ei⟩⟩ := hJ.slices
      have HK := Lib.hid (HI.out k hlt _ _ hJ wr hW (Nat.le_trans hB hWB.size))
      rw [en] at q3 HK
      rw [ei] at q4 HK
      clear c0 c1 c2 c3 c4 hJ hW hWB hR en ei
      simp only [nameL, Bool.false_eq_true, if_false, List.nil_append, List.length_nil] at hlen HSTEP
      generalize hx : xs.getD k default = x at *
      generalize textJ x = tx at *
      clear hx
      by_cases h0 : k = 0
      · have e0 : commaL k = [] := by simp [commaL, h0]
        have d0 : ¬ 0 < k := by omega
        rw [e0] at hlen HSTEP
        simp only [List.nil_append, List.length_nil] at hlen HSTEP
        clear e0 h0
        go_wp2_with fail
        refine HK.out.mono ?_
        rintro e w2 ⟨rfl, hb2⟩
        have HS2 := Lib.hid (HSTEP.out w2 hb2)
        clear hb2
        go_wp2
        go_roundw
        case rel => exact ⟨k + 1, ol ++ tx, by omega, by go_num, rfl, HS2.out⟩
        case measure => simp [intOf]; omega
      · have e0 : commaL k = [44] := by simp [commaL, h0]
        have d0 : 0 < k := by omega
        rw [e0] at hlen HSTEP
        simp only [List.length_cons, List.length_nil] at hlen
        clear e0 h0
        go_wp2_with fail
        refine HK.out.mono ?_
        rintro e w2 ⟨rfl, hb2⟩
        have HS2 := Lib.hid (HSTEP.out w2 hb2)
        clear hb2
        go_wp2
        go_roundw
        case rel => exact ⟨k + 1, ol ++ ([44] ++ tx), by omega, by go_num, by simp, HS2.out⟩
        case measure => simp [intOf]; omega
    · obtain rfl : k = xs.length := by omega
      have ew := HEND.out _ _ hR
      have HF := Lib.hid hR.2.2
      subst ew
      clear hR
      go_wp2
      go_ret
      exact ⟨by simp, HF.out⟩
set_option maxRecDepth 100000 in
set_option maxHeartbeats 4000000 in
theorem textS_obj (B : Nat) (w0 : World) (d : Nat) (hd5 : d ≤ 5) (n : Int) (t : List UInt8) (ns : List (List UInt8)) (xs : List J) (nv iv : Value) (hok : okJ (.mk 6 n t ns xs) d = true) (h : JIn (· < B) w0 (.mk 6 n t ns xs) nv iv)
    (ih : ∀ i, i < xs.length → ∀ (nv iv : Value), JIn (· < B) w0 (xs.getD i default) nv iv → ∀ (W : World), Below B w0 W → B ≤ W.heap.size → Calls Tryd.prog 26 #[jV (xs.getD i default) nv iv] W (TxPost W (textJ (xs.getD i default))))
    (W : World) (hb : Below B w0 W) (hB : B ≤ W.heap.size) : Calls Tryd.prog 26 #[jV (.mk 6 n t ns xs) nv iv] W (TxPost W (textJ (.mk 6 n t ns xs))) := by
  have hlen := Nat.le_trans (textJ_le _ d hok) (longest_le d hd5)
  obtain ⟨hL, hN, b1, b2, b3⟩ := h.inv
  have hnl : ns.length = xs.length := by unfold okJ at hok; simp at hok; exact hok.1.1.2
  have hnb := namesB_le ns [] (by unfold okJ at hok; simp at hok; exact hok.1.2)
  obtain ⟨an, ncap, nb, noff, rfl, -, -, -, hna, hnc⟩ := hN
  rw [hnl] at hna hnc ⊢
  have HNA := Lib.hid hna
  have HNC := Lib.hid hnc
  have HNB := Lib.hid hnb
  obtain ⟨a, cap, b, off, vn, vi, rfl, hcap, hm, ha, hc⟩ := jin_item hL
  rw [text6] at hlen ⊢
  have hn : xs.length ≤ 9223372036854775807 := by omega
  have hw : (restL true ns xs 0).length ≤ 395642090 := by simp at hlen; omega
  have HC := Lib.hid hc
  have HA := Lib.hid ha
  have HI := Lib.hid ih
  have HB := Lib.hid hb
  have hst : TRel W (restL true ns xs 0) #[.int .i64 6, .int .i64 n, .string ⟨t.toArray⟩, .slice an xs.length ncap, .slice a xs.length cap] true ns xs 0 [] (W.alloc (.cells #[.int .i64 6, .int .i64 n, .string ⟨t.toArray⟩, .slice an xs.length ncap, .slice a xs.length cap] 38)) :=
    ⟨rfl, heap_alloc_new _ _, (Below.refl _ _).alloc (Nat.le_refl _) _⟩
  have HST := Lib.hid hst
  have HEND := Lib.hid (fun (o : List UInt8) (wr : World) (h : TRel W (restL true ns xs 0) #[.int .i64 6, .int .i64 n, .string ⟨t.toArray⟩, .slice an xs.length ncap, .slice a xs.length cap] true ns xs xs.length o wr) => show o = restL true ns xs 0 by have := h.1; rw [restL_end, List.append_nil] at this; exact this)
  clear hc ha ih hb hst hlen h hL hna hnc hnb
  generalize restL true ns xs 0 = whole at *
  show Calls _ _ #[.agg #[.int .i64 6, .int .i64 n, .string ⟨t.toArray⟩, .slice an xs.length ncap, .slice a xs.length cap]] _ _
  go_enter Tryd.func26, Tryd.ntmps26
  go_wp2
  go_loopw [3, 4] (fun o i wr => ∃ (k : Nat) (ol : List UInt8), k ≤ xs.length ∧ i = .int .i64 k ∧ o = .string ⟨ol.toArray⟩ ∧ TRel W whole #[.int .i64 6, .int .i64 n, .string ⟨t.toArray⟩, .slice an xs.length ncap, .slice a xs.length cap] true ns xs k ol wr) (fun _ i _ => xs.length - (intOf i).toNat)
  case atStart => exact ⟨0, [], by omega, rfl, rfl, HST.out⟩
  case round =>
    obtain ⟨k, ol, hk, rfl, rfl, hR⟩ := hrel
    obtain ⟨m00, m01, m02, m03, m04, -⟩ := five_cells hR.2.1
    by_cases hlt : k < xs.length
    · obtain ⟨ea, hlb⟩ := HA.out (by omega)
      subst ea
      obtain ⟨ean, hnlb⟩ := HNA.out (by omega)
      subst ean
      have p0 := (hR.2.2.cell (p := ⟨nb, noff + k, none⟩) (Nat.lt_of_lt_of_le hnlb hB)).trans ((HB.out.cell (p := ⟨nb, noff + k, none⟩) hnlb).trans (HNC.out k hlt))
      have hnk := HNB.out (ns.getD k []) (by rw [List.getD_eq_getElem?_getD, List.getElem?_eq_getElem (by omega)]; simp)
      have hlen := tRel_len hR hlt
      have HSTEP := Lib.hid (fun w2 hb => tRel_step (w2 := w2) hR hlt hb)
      have hWB : Below W.heap.size W wr := hR.2.2
      have hWB' := hWB
      have hgl : W.heap.size < wr.heap.size := (Array.getElem?_eq_some_iff.1 hR.2.1).1
      have HG := Lib.hid hR.2.1
      have hW : Below B w0 wr := HB.out.trans (hWB.mono hB)
      obtain ⟨⟨c0, c1, c2, c3, c4⟩, hJ⟩ := HC.out k hlt
      have q0 := (hW.cell (p := ⟨b, off + k * 5, none⟩) hlb).trans c0
      have q1 := (hW.cell (p := ⟨b, off + k * 5 + 1, none⟩) hlb).trans c1
      have q2 := (hW.cell (p := ⟨b, off + k * 5 + 2, none⟩) hlb).trans c2
      have q3 := (hW.cell (p := ⟨b, off + k * 5 + 3, none⟩) hlb).trans c3
      have q4 := (hW.cell (p := ⟨b, off + k * 5 + 4, none⟩) hlb).trans c4
      obtain ⟨⟨an', ln', cn', en⟩, ⟨ai', li', ci', ei⟩⟩ := hJ.slices
      have HK := Lib.hid (fun (W2 : World) (hb : Below wr.heap.size wr W2) => HI.out k hlt _ _ hJ W2 (hW.trans (hb.mono (Nat.le_trans hB hWB.size))) (Nat.le_trans hB (Nat.le_trans hWB.size hb.size)))
      rw [en] at q3 HK
      rw [ei] at q4 HK
      clear c0 c1 c2 c3 c4 hJ hW hWB hR en ei
      simp only [nameL, if_true, List.length_append, List.length_cons, List.length_nil] at hlen HSTEP
      generalize hx : xs.getD k default = x at *
      generalize textJ x = tx at *
      clear hx
      generalize ns.getD k [] = nk at *
      have HQ := Lib.hid (quoteS_any nk wr (by omega))
      generalize quoteL nk = qk at *
      have hbl : b < wr.heap.size := Nat.lt_of_lt_of_le hlb (Nat.le_trans hB hWB'.size)
      clear hWB'
      by_cases h0 : k = 0
      · have e0 : commaL k = [] := by simp [commaL, h0]
        have d0 : ¬ 0 < k := by omega
        rw [e0] at hlen HSTEP
        simp only [List.nil_append, List.length_nil] at hlen HSTEP
        clear e0 h0
        go_wp2_with fail
        refine HQ.out.mono ?_
        rintro e w1 ⟨rfl, hb1⟩
        obtain ⟨m00, m01, m02, m03, m04, -⟩ := five_cells ((hb1.block _ hgl).trans HG.out)
        have q0 := (hb1.cell (p := ⟨b, off + k * 5, none⟩) hbl).trans q0
        have q1 := (hb1.cell (p := ⟨b, off + k * 5 + 1, none⟩) hbl).trans q1
        have q2 := (hb1.cell (p := ⟨b, off + k * 5 + 2, none⟩) hbl).trans q2
        have q3 := (hb1.cell (p := ⟨b, off + k * 5 + 3, none⟩) hbl).trans q3
        have q4 := (hb1.cell (p := ⟨b, off + k * 5 + 4, none⟩) hbl).trans q4
        go_wp2_with fail
        refine (HK.out w1 hb1).mono ?_
        rintro e w2 ⟨rfl, hb2⟩
        have HS2 := Lib.hid (HSTEP.out w2 (hb1.trans (hb2.mono hb1.size)))
        clear hb2 hb1
        go_wp2
        go_roundw
        case rel => exact ⟨k + 1, ol ++ (qk ++ [58] ++ tx), by omega, by go_num, by simp, HS2.out⟩
        case measure => simp [intOf]; omega
      · have e0 : commaL k = [44] := by simp [commaL, h0]
        have d0 : 0 < k := by omega
        rw [e0] at hlen HSTEP
        simp only [List.length_cons, List.length_nil] at hlen
        clear e0 h0
        go_wp2_with fail
        refine HQ.out.mono ?_
        rintro e w1 ⟨rfl, hb1⟩
        obtain ⟨m00, m01, m02, m03, m04, -⟩ := five_cells ((hb1.block _ hgl).trans HG.out)
        have q0 := (hb1.cell (p := ⟨b, off + k * 5, none⟩) hbl).trans q0
        have q1 := (hb1.cell (p := ⟨b, off + k * 5 + 1, none⟩) hbl).trans q1
        have q2 := (hb1.cell (p := ⟨b, off + k * 5 + 2, none⟩) hbl).trans q2
        have q3 := (hb1.cell (p := ⟨b, off + k * 5 + 3, none⟩) hbl).trans q3
        have q4 := (hb1.cell (p := ⟨b, off + k * 5 + 4, none⟩) hbl).trans q4
        go_wp2_with fail
        refine (HK.out w1 hb1).mono ?_
        rintro e w2 ⟨rfl, hb2⟩
        have HS2 := Lib.hid (HSTEP.out w2 (hb1.trans (hb2.mono hb1.size)))
        clear hb2 hb1
        go_wp2
        go_roundw
        case rel => exact ⟨k + 1, ol ++ ([44] ++ (qk ++ [58] ++ tx)), by omega, by go_num, by simp, HS2.out⟩
        case measure => simp [intOf]; omega
    · obtain rfl : k = xs.length := by omega
      have ew := HEND.out _ _ hR
      have HF := Lib.hid hR.2.2
      subst ew
      clear hR
      go_wp2
      go_ret
      exact ⟨by simp, HF.out⟩
set_option maxRecDepth 100000 in
set_option maxHeartbeats 4000000 in
theorem textS_go (B : Nat) (w0 : World) (j : J) : ∀ (d : Nat) (nv iv : Value), d ≤ 5 → okJ j d = true → JIn (· < B) w0 j nv iv → ∀ (W : World), Below B w0 W → B ≤ W.heap.size →
    Calls Tryd.prog 26 #[jV j nv iv] W (TxPost W (textJ j)) := by
  induction j using J.ind with
  | h k n t ns xs ih =>
    intro d nv iv hd5 hok h W hb hB
    have hI : ∀ (hx : okL xs (d - 1) = true) i, i < xs.length → ∀ (nv iv : Value), JIn (· < B) w0 (xs.getD i default) nv iv → ∀ (W : World), Below B w0 W → B ≤ W.heap.size → Calls Tryd.prog 26 #[jV (xs.getD i default) nv iv] W (TxPost W (textJ (xs.getD i default))) :=
      fun hx i hi nv iv h' W hb' hB' => ih _ (by simp [hi]) (d - 1) nv iv (by omega) (okL_mem xs _ hx _ (by simp [hi])) h' W hb' hB'
    rcases ok_kinds hok with rfl | ⟨rfl, n1, n2⟩ | ⟨rfl, n1, n2⟩ | ⟨rfl, n1⟩ | ⟨rfl, n1, n2⟩ | ⟨rfl, n1, n2, n3, n4⟩
    · rw [show textJ (.mk 1 n t ns xs) = [110, 117, 108, 108] by simp [textJ]]
      obtain ⟨⟨an, ln, cn, rfl⟩, ⟨ai, li, ci, rfl⟩⟩ := h.slices
      show Calls _ _ #[.agg #[.int .i64 1, .int .i64 n, .string ⟨t.toArray⟩, .slice an ln cn, .slice ai li ci]] _ _
      go_enter Tryd.func26, Tryd.ntmps26
      go_wp2
      go_ret
      exact ⟨rfl, (Below.refl _ _).alloc (Nat.le_refl _) _⟩
    · obtain ⟨⟨an, ln, cn, rfl⟩, ⟨ai, li, ci, rfl⟩⟩ := h.slices
      rcases (show n = 0 ∨ n = 1 by omega) with rfl | rfl
      · rw [show textJ (.mk 2 0 t ns xs) = [102, 97, 108, 115, 101] by simp [textJ]]
        show Calls _ _ #[.agg #[.int .i64 2, .int .i64 0, .string ⟨t.toArray⟩, .slice an ln cn, .slice ai li ci]] _ _
        go_enter Tryd.func26, Tryd.ntmps26
        go_wp2
        go_ret
        exact ⟨rfl, ((Below.refl _ _).alloc (Nat.le_refl _) _).alloc (by simp) _⟩
      · rw [show textJ (.mk 2 1 t ns xs) = [116, 114, 117, 101] by simp [textJ]]
        show Calls _ _ #[.agg #[.int .i64 2, .int .i64 1, .string ⟨t.toArray⟩, .slice an ln cn, .slice ai li ci]] _ _
        go_enter Tryd.func26, Tryd.ntmps26
        go_wp2
        go_ret
        exact ⟨rfl, ((Below.refl _ _).alloc (Nat.le_refl _) _).alloc (by simp) _⟩
    · rw [show textJ (.mk 3 n t ns xs) = Lib.itoa n by simp [textJ]]
      obtain ⟨⟨an, ln, cn, rfl⟩, ⟨ai, li, ci, rfl⟩⟩ := h.slices
      have HD := Lib.hid (fun W => digitsZ_any n n1 n2 W)
      show Calls _ _ #[.agg #[.int .i64 3, .int .i64 n, .string ⟨t.toArray⟩, .slice an ln cn, .slice ai li ci]] _ _
      generalize Lib.itoa n = o at *
      go_enter Tryd.func26, Tryd.ntmps26
      go_wp2_with fail
      refine (HD.out _).mono ?_
      rintro e w1 ⟨rfl, hb1⟩
      go_wp2
      go_ret
      exact ⟨rfl, ((Below.refl _ _).alloc (Nat.le_refl _) _).trans (hb1.mono (by simp))⟩
    · rw [show textJ (.mk 4 n t ns xs) = quoteL t by simp [textJ]]
      obtain ⟨⟨an, ln, cn, rfl⟩, ⟨ai, li, ci, rfl⟩⟩ := h.slices
      have HD := Lib.hid (fun W => quoteS_any t W (by omega))
      show Calls _ _ #[.agg #[.int .i64 4, .int .i64 n, .string ⟨t.toArray⟩, .slice an ln cn, .slice ai li ci]] _ _
      generalize quoteL t = o at *
      go_enter Tryd.func26, Tryd.ntmps26
      go_wp2_with fail
      refine (HD.out _).mono ?_
      rintro e w1 ⟨rfl, hb1⟩
      go_wp2
      go_ret
      exact ⟨rfl, ((Below.refl _ _).alloc (Nat.le_refl _) _).trans (hb1.mono (by simp))⟩
    · exact textS_list B w0 d hd5 n t ns xs nv iv hok h (hI n2) W hb hB
    · exact textS_obj B w0 d hd5 n t ns xs nv iv hok h (hI n4) W hb hB
/-- the text of a value, if it is valid -/
def JT (j : J) : List UInt8 := if okJ j 5 then textJ j else []
def JC (j : J) : Int := if okJ j 5 then 0 else 1
def JtPost (W : World) (j : J) (e : Ending) (w' : World) : Prop := e = .returned (.tuple #[.string ⟨(JT j).toArray⟩, .int .i64 (JC j)]) ∧ Below W.heap.size W w'
set_option maxRecDepth 100000 in
set_option maxHeartbeats 2000000 in
theorem jtS_any (B : Nat) (w0 : World) (j : J) (nv iv : Value) (h : JIn (· < B) w0 j nv iv) (W : World) (hb : Below B w0 W) (hB : B ≤ W.heap.size) :
    Calls Tryd.prog 13 #[jV j nv iv] W (JtPost W j) := by
  have HO := Lib.hid (fun W hb hB => okS_at j nv iv W B w0 h hb hB)
  have HTX := Lib.hid (fun hok W hb hB => textS_go B w0 j 5 nv iv (by omega) hok h W hb hB)
  have HB := Lib.hid hb
  unfold JtPost JT JC
  obtain ⟨⟨an, ln, cn, rfl⟩, ⟨ai, li, ci, rfl⟩⟩ := h.slices
  clear h hb
  have hb1 : ∀ o : Array Value, Below W.heap.size W (W.alloc (.cells o 38)) := fun o => (Below.refl _ _).alloc (Nat.le_refl _) _
  have HB1 := Lib.hid hb1
  clear hb1
  obtain ⟨r, hr⟩ : ∃ r, okJ j 5 = r := ⟨_, rfl⟩
  have HR := Lib.hid hr
  rw [hr] at HO ⊢
  clear hr
  cases r with
  | false =>
    go_enter Tryd.func13, Tryd.ntmps13
    go_wp2_with fail
    refine (HO.out _ (HB.out.trans ((HB1.out _).mono hB)) (by simp; omega)).mono ?_
    rintro e w2 ⟨rfl, hb2⟩
    have HB2 := Lib.hid ((HB1.out _).trans (hb2.mono (by simp)))
    clear hb2
    go_wp2
    go_ret2
    exact ⟨rfl, HB2.out⟩
  | true =>
    simp only [↓reduceIte]
    generalize textJ j = tx at *
    go_enter Tryd.func13, Tryd.ntmps13
    go_wp2_with fail
    refine (HO.out _ (HB.out.trans ((HB1.out _).mono hB)) (by simp; omega)).mono ?_
    rintro e w2 ⟨rfl, hb2⟩
    obtain ⟨m00, m01, m02, m03, m04, -⟩ := five_cells ((hb2.block _ (by simp)).trans (heap_alloc_new W _))
    have hz := hb2.size
    simp at hz
    have HB2 := Lib.hid ((HB1.out (#[.int .i64 j.kind, .int .i64 j.num, .string ⟨j.text.toArray⟩, .slice an ln cn, .slice ai li ci])).trans (hb2.mono (by simp)))
    have HJ := Lib.hid (HTX.out HR.out w2 (HB.out.trans (HB2.out.mono hB)) (by omega))
    clear hb2
    go_wp2_with fail
    refine HJ.out.mono ?_
    rintro e w3 ⟨rfl, hb3⟩
    have HB3 := Lib.hid (HB2.out.trans (hb3.mono HB2.out.size))
    clear hb3
    go_wp2
    go_ret2
    exact ⟨rfl, HB3.out⟩
end Go.Proofs.YtniflfgnelfpbaaDoor.Js
