
/-
  The program's joinValue and JsonText, walked: the function that writes a value into a builder, and calls itself.
-/
import Derived.Test.YtniflfgnelfpbaaDoorJtS
import Derived.Test.YtniflfgnelfpbaaDoorJsTop
import Derived.Test.YtniflfgnelfpbaaDoorQuoteImpl
import Derived.Test.YtniflfgnelfpbaaDoorUrlImplC
import Derived.Lib.ItoaMem
namespace Go.Proofs.YtniflfgnelfpbaaDoor.Js
open Go.RowKit
open Go.Proofs.YtniflfgnelfpbaaDoor.Bl (quoteL IsB Kept writeByte_any writeString_any writeQuoted_any IsB.fresh IsB.lt IsB.alloc)
/-- the function: it knows the builder b and the variable g that holds it -/
abbrev wrV (b g : Nat) : Value := .func (.func 53) #[] #[.pointer (some ⟨b, 0, none⟩), .pointer (some ⟨g, 0, none⟩)]
abbrev wrO (b g : Nat) : Obj := .cells #[wrV b g] 81
def WrPost (B b : Nat) (W : World) (l : List UInt8) (e : Ending) (w' : World) : Prop := e = .returned (.tuple #[]) ∧ IsB B b l w' ∧ Below B W w' ∧ Kept b W w'
theorem itoaZ_any (n : Int) (h1 : -999999999 ≤ n) (h2 : n ≤ 999999999) (w : World) (hT : Ul.Tab w) : Calls Tryd.prog 56 #[.int .i64 n] w fun e w' => e = .returned (.string ⟨(Lib.itoa n).toArray⟩) ∧ Below w.heap.size w w' := by
  refine (Tryd.strconv_Itoa n (by omega) (by omega) w hT).mono ?_
  rintro e w' ⟨rfl, k, os, rfl⟩
  exact ⟨rfl, Lib.below_grow _ _ (Nat.le_refl _) _ _⟩
attribute [local go_sem] ta_0_0 ta_1_0 ta_1_1 ta_2_0 ta_2_1 ta_2_2 ta_3_0 ta_3_1 ta_3_2 ta_3_3 ta_4_0 ta_4_1 ta_4_2 ta_4_3 ta_4_4 ta_5_0 ta_5_1 ta_5_2 ta_5_3 ta_5_4 ta_5_5
theorem isB_same {B b : Nat} {l : List UInt8} {w w' : World} (h : IsB B b l w) (he : ∀ k, (k = b ∨ ∃ C, w.heap[k]? = some (.cells C 5 (0, 0))) → w'.heap[k]? = w.heap[k]?) : IsB B b l w' := by
  have own : ∀ {v : Value} {n : Nat} {xs : List Value}, w.ownsRow B 5 1 v n xs → w'.ownsRow B 5 1 v n xs := fun {v n xs} ho => by
    obtain ⟨h1, h2⟩ := ho
    refine ⟨h1, ?_⟩
    rcases h2 with hn | ⟨g, cap, cur, rfl, hb, hg, rest⟩
    · exact .inl hn
    · exact .inr ⟨g, cap, cur, rfl, hb, (he g (.inr ⟨_, hg⟩)).trans hg, rest⟩
  rcases h with ⟨hB, v, hb, hown, hne⟩ | ⟨hB, v, hb, hown, hne⟩
  · exact .inl ⟨hB, v, (he b (.inl rfl)).trans hb, own hown, hne⟩
  · exact .inr ⟨hB, v, (he b (.inl rfl)).trans hb, own hown, hne⟩
theorem isB_later {B b : Nat} {l : List UInt8} {w w' : World} (h : IsB B b l w) (hb : Below w.heap.size w w') : IsB B b l w' :=
  isB_same h fun k hk => by
    rcases hk with rfl | ⟨C, hC⟩
    · exact hb.block _ h.lt
    · exact hb.block _ (Array.getElem?_eq_some_iff.1 hC).1
/-- what the function finds: the builder holds acc, the variable g holds the function itself -/
structure WrAt (w0 : World) (b g : Nat) (W : World) (acc : List UInt8) : Prop where
  blw : Below w0.heap.size w0 W
  isb : IsB w0.heap.size b acc W
  var : W.heap[g]? = some (wrO b g)
theorem wrO_kind (b g : Nat) : ∀ C, wrO b g ≠ .cells C 5 (0, 0) := fun C e => by
  injection e with _ h _
  exact absurd h (by decide)
theorem WrAt.next {w0 W w' : World} {b g : Nat} {acc acc' : List UInt8} (h : WrAt w0 b g W acc) (hgb : g ≠ b) (hi : IsB w0.heap.size b acc' w') (hb : Below w0.heap.size W w') (hk : Kept b W w') : WrAt w0 b g w' acc' :=
  ⟨h.blw.trans hb, hi, hk g _ h.var hgb (wrO_kind b g)⟩
theorem WrAt.alloc {w0 W : World} {b g : Nat} {acc : List UInt8} (h : WrAt w0 b g W acc) (o : Obj) : WrAt w0 b g (W.alloc o) acc :=
  ⟨h.blw.alloc h.blw.size o, h.isb.alloc o, (heap_alloc_old _ _ (Array.getElem?_eq_some_iff.1 h.var).1).trans h.var⟩
theorem WrAt.cell {w0 W : World} {b g : Nat} {acc : List UInt8} (h : WrAt w0 b g W acc) : W.cell? ⟨g, 0, none⟩ = some (wrV b g) := cell_of_row W g 0 _ _ _ h.var
theorem sizeB {w0 W : World} {b g : Nat} {acc : List UInt8} (h : WrAt w0 b g W acc) : w0.heap.size ≤ W.heap.size := h.blw.size
/-- k items of a list are written -/
structure WrRel (w0 : World) (b g : Nat) (W : World) (obj : Bool) (ns : List (List UInt8)) (xs : List J) (whole : List UInt8) (k : Nat) (o : List UInt8) (wr : World) : Prop where
  at_ : WrAt w0 b g wr o
  left : o ++ restL obj ns xs k = whole
  blw : Below w0.heap.size W wr
  kept : Kept b W wr
theorem wrRel_step {w0 W wr w2 : World} {b g : Nat} {obj : Bool} {ns : List (List UInt8)} {xs : List J} {whole : List UInt8} {k : Nat} {o : List UInt8} (h : WrRel w0 b g W obj ns xs whole k o wr) (hgb : g ≠ b) (hk : k < xs.length) (hi : IsB w0.heap.size b (o ++ (commaL k ++ (nameL obj (ns.getD k []) ++ textJ (xs.getD k default)))) w2) (hb : Below w0.heap.size wr w2) (hkp : Kept b wr w2) :
    WrRel w0 b g W obj ns xs whole (k + 1) (o ++ (commaL k ++ (nameL obj (ns.getD k []) ++ textJ (xs.getD k default)))) w2 :=
  ⟨h.at_.next hgb hi hb hkp, by rw [← h.left, restL_step obj ns xs k hk]; simp, h.blw.trans hb, h.kept.trans hkp⟩
theorem wrRel_len {w0 W wr : World} {b g : Nat} {obj : Bool} {ns : List (List UInt8)} {xs : List J} {whole : List UInt8} {k : Nat} {o : List UInt8} (h : WrRel w0 b g W obj ns xs whole k o wr) (hk : k < xs.length) :
    o.length + ((commaL k).length + ((nameL obj (ns.getD k [])).length + (textJ (xs.getD k default)).length)) ≤ whole.length := by
  have := congrArg List.length h.left
  rw [restL_step obj ns xs k hk] at this
  simp only [List.length_append] at this
  omega
theorem wrRel_len0 {w0 W wr : World} {b g : Nat} {obj : Bool} {ns : List (List UInt8)} {xs : List J} {whole : List UInt8} {k : Nat} {o : List UInt8} (h : WrRel w0 b g W obj ns xs whole k o wr) : o.length ≤ whole.length := by
  have := congrArg List.length h.left
  simp only [List.length_append] at this
  omega
set_option maxRecDepth 100000 in
set_option maxHeartbeats 4000000 in
theorem write_list (w0 : World) (b g : Nat) (hgb : g ≠ b) (xs : List J) (a : Option Addr) (cap bb off : Nat) (vs : Nat → Value) (hcap : xs.length ≤ cap) (hm : cap ≤ 9223372036854775807) (ha : 0 < xs.length → a = some ⟨bb, off, none⟩ ∧ bb < w0.heap.size)
    (hc : ∀ i, i < xs.length → w0.cell? ⟨bb, off + i, none⟩ = some (vs i))
    (ih : ∀ i, i < xs.length → ∀ (W : World) (acc : List UInt8), WrAt w0 b g W acc → acc.length + (textJ (xs.getD i default)).length + 2000 ≤ 140737488355328 → Calls Tryd.prog 53 #[vs i, .pointer (some ⟨b, 0, none⟩), .pointer (some ⟨g, 0, none⟩)] W (WrPost w0.heap.size b W (acc ++ textJ (xs.getD i default))))
    (W : World) (acc : List UInt8) (h : WrAt w0 b g W acc) (hl : acc.length + (textJ (.mk 5 0 [] [] xs)).length + 2000 ≤ 140737488355328) :
    Calls Tryd.prog 53 #[.iface 94 (.slice a xs.length cap), .pointer (some ⟨b, 0, none⟩), .pointer (some ⟨g, 0, none⟩)] W (WrPost w0.heap.size b W (acc ++ textJ (.mk 5 0 [] [] xs))) := by
  rw [text5] at hl ⊢
  have hn : xs.length ≤ 9223372036854775807 := by omega
  have hw : acc.length + ((restL false [] xs 0).length + 2) + 2000 ≤ 140737488355328 := by simp at hl; omega
  have HC := Lib.hid hc
  have HA := Lib.hid ha
  have HI := Lib.hid ih
  have H := Lib.hid h
  have HST := Lib.hid (fun (w1 : World) (hi : IsB w0.heap.size b (acc ++ [91]) w1) (hb : Below w0.heap.size W w1) (hk : Kept b W w1) => (⟨h.next hgb hi hb hk, rfl, hb, hk⟩ : WrRel w0 b g W false [] xs ((acc ++ [91]) ++ restL false [] xs 0) 0 (acc ++ [91]) w1))
  have HEND := Lib.hid (fun (o : List UInt8) (wr : World) (h : WrRel w0 b g W false [] xs ((acc ++ [91]) ++ restL false [] xs 0) xs.length o wr) => show o = (acc ++ [91]) ++ restL false [] xs 0 by have := h.left; rw [restL_end, List.append_nil] at this; exact this)
  have hwl : ((acc ++ [91]) ++ restL false [] xs 0).length + 2000 ≤ 140737488355328 := by simp; omega
  have ew : (acc ++ [91]) ++ restL false [] xs 0 ++ [93] = acc ++ 91 :: (restL false [] xs 0 ++ [93]) := by simp
  rw [← ew]
  clear hc ha ih hl ew
  generalize (acc ++ [91]) ++ restL false [] xs 0 = whole at *
  have hsz := sizeB h
  clear h
  go_enter Tryd.func53, Tryd.ntmps53
  go_wp2_with fail
  refine (writeByte_any w0.heap.size b acc 91 _ H.out.isb (by omega) hsz).mono ?_
  rintro e w1 ⟨rfl, h1, b1, k1⟩
  have HS := Lib.hid (HST.out w1 h1 b1 k1)
  clear h1 b1 k1
  go_wp2_with fail
  go_loopw [42] (fun i wr => ∃ (k : Nat) (o : List UInt8), k ≤ xs.length ∧ i = .int .i64 k ∧ WrRel w0 b g W false [] xs whole k o wr) (fun i _ => xs.length - (intOf i).toNat)
  case atStart => exact ⟨0, _, by omega, rfl, HS.out⟩
  case round =>
    obtain ⟨k, o, hk, rfl, hR⟩ := hrel
    have hol := wrRel_len0 hR
    by_cases hlt : k < xs.length
    · obtain ⟨ea, hlb⟩ := HA.out (by omega)
      subst ea
      have hlen := wrRel_len hR hlt
      have hrs := sizeB hR.at_
      have q0 := (hR.at_.blw.cell (p := ⟨bb, off + k, none⟩) hlb).trans (HC.out k hlt)
      have HSTEP := Lib.hid (fun w2 hi hb hkp => wrRel_step (w2 := w2) hR hgb hlt hi hb hkp)
      have HK := Lib.hid (HI.out k hlt)
      have HAT := Lib.hid hR.at_
      have q1 := hR.at_.cell
      clear hR
      simp only [nameL, Bool.false_eq_true, if_false, List.nil_append, List.length_nil] at hlen HSTEP
      generalize xs.getD k default = x at *
      generalize textJ x = tx at *
      generalize vs k = v1 at *
      by_cases h0 : k = 0
      · have e0 : commaL k = [] := by simp [commaL, h0]
        have d0 : ¬ 0 < k := by omega
        rw [e0] at hlen HSTEP
        simp only [List.nil_append, List.length_nil] at hlen HSTEP
        clear e0 h0
        go_wp2_with fail
        refine (HK.out wr o HAT.out (by omega)).mono ?_
        rintro e w2 ⟨rfl, h2, b2, k2⟩
        have HS2 := Lib.hid (HSTEP.out w2 h2 b2 k2)
        clear h2 b2 k2 q0 q1
        go_wp2
        go_roundw
        case rel => exact ⟨k + 1, o ++ tx, by omega, by go_num, HS2.out⟩
        case measure => simp [intOf]; omega
      · have e0 : commaL k = [44] := by simp [commaL, h0]
        have d0 : 0 < k := by omega
        rw [e0] at hlen HSTEP
        simp only [List.length_cons, List.length_nil] at hlen
        clear e0 h0
        go_wp2_with fail
        refine (writeByte_any w0.heap.size b o 44 _ HAT.out.isb (by omega) hrs).mono ?_
        rintro e w2 ⟨rfl, h2, b2, k2⟩
        have h2' := HAT.out.next hgb h2 b2 k2
        have HAT2 := Lib.hid h2'
        have q1 := h2'.cell
        have B2 := Lib.hid b2
        have K2 := Lib.hid k2
        clear h2 b2 k2 h2' q0
        go_wp2_with fail
        refine (HK.out w2 (o ++ [44]) HAT2.out (by simp; omega)).mono ?_
        rintro e w3 ⟨rfl, h3, b3, k3⟩
        have HS2 := Lib.hid (HSTEP.out w3 (by simpa using h3) (B2.out.trans b3) (K2.out.trans k3))
        clear h3 b3 k3 q1
        go_wp2
        go_roundw
        case rel => exact ⟨k + 1, o ++ ([44] ++ tx), by omega, by go_num, HS2.out⟩
        case measure => simp [intOf]; omega
    · obtain rfl : k = xs.length := by omega
      have eo := HEND.out _ _ hR
      subst eo
      have HR := Lib.hid hR
      have hrs := sizeB hR.at_
      clear hR
      go_wp2_with fail
      refine (writeByte_any w0.heap.size b _ 93 _ HR.out.at_.isb (by omega) hrs).mono ?_
      rintro e w2 ⟨rfl, h2, b2, k2⟩
      go_wp2
      go_end0
      exact ⟨rfl, h2, HR.out.blw.trans b2, HR.out.kept.trans k2⟩
set_option maxRecDepth 100000 in
set_option maxHeartbeats 4000000 in
theorem write_obj (w0 : World) (b g : Nat) (hgb : g ≠ b) (ns : List (List UInt8)) (xs : List J) (an : Option Addr) (ncap nb noff : Nat) (hnl : ns.length = xs.length) (hnb : ∀ t ∈ ns, t.length ≤ 120) (hna : 0 < xs.length → an = some ⟨nb, noff, none⟩ ∧ nb < w0.heap.size) (hnc : ∀ i, i < xs.length → w0.cell? ⟨nb, noff + i, none⟩ = some (.string ⟨(ns.getD i []).toArray⟩)) (a : Option Addr) (cap bb off : Nat) (vs : Nat → Value) (hcap : xs.length ≤ cap) (hm : cap ≤ 9223372036854775807) (ha : 0 < xs.length → a = some ⟨bb, off, none⟩ ∧ bb < w0.heap.size)
    (hc : ∀ i, i < xs.length → w0.cell? ⟨bb, off + i, none⟩ = some (vs i))
    (ih : ∀ i, i < xs.length → ∀ (W : World) (acc : List UInt8), WrAt w0 b g W acc → acc.length + (textJ (xs.getD i default)).length + 2000 ≤ 140737488355328 → Calls Tryd.prog 53 #[vs i, .pointer (some ⟨b, 0, none⟩), .pointer (some ⟨g, 0, none⟩)] W (WrPost w0.heap.size b W (acc ++ textJ (xs.getD i default))))
    (W : World) (acc : List UInt8) (h : WrAt w0 b g W acc) (hl : acc.length + (textJ (.mk 6 0 [] ns xs)).length + 2000 ≤ 140737488355328) :
    Calls Tryd.prog 53 #[.iface 97 (.agg #[.slice an xs.length ncap, .slice a xs.length cap]), .pointer (some ⟨b, 0, none⟩), .pointer (some ⟨g, 0, none⟩)] W (WrPost w0.heap.size b W (acc ++ textJ (.mk 6 0 [] ns xs))) := by
  rw [text6] at hl ⊢
  have hn : xs.length ≤ 9223372036854775807 := by omega
  have hw : acc.length + ((restL true ns xs 0).length + 2) + 2000 ≤ 140737488355328 := by simp at hl; omega
  have HC := Lib.hid hc
  have HA := Lib.hid ha
  have HI := Lib.hid ih
  have H := Lib.hid h
  have hbW := h.isb.lt
  have hW1 := h.alloc (.cells #[.slice an xs.length ncap, .slice a xs.length cap] 97)
  have HBX := Lib.hid (fun (wr : World) (hk : Kept b (W.alloc (.cells #[.slice an xs.length ncap, .slice a xs.length cap] 97)) wr) => show wr.heap[W.heap.size]? = some (.cells #[.slice an xs.length ncap, .slice a xs.length cap] 97) from
    hk _ _ (heap_alloc_new _ _) (by omega) (fun C e => by injection e with _ h _; exact absurd h (by decide)))
  have HB1 : Hid (Below w0.heap.size W (W.alloc (.cells #[.slice an xs.length ncap, .slice a xs.length cap] 97))) := Lib.hid ((Below.refl _ _).alloc (sizeB h) _)
  have HK1 : Hid (Kept b W (W.alloc (.cells #[.slice an xs.length ncap, .slice a xs.length cap] 97))) := Lib.hid ((Kept.refl b W).alloc _)
  have HNC := Lib.hid hnc
  have HNA := Lib.hid hna
  have HNB := Lib.hid hnb
  have H1 := Lib.hid hW1
  have HST := Lib.hid (fun (w1 : World) (hi : IsB w0.heap.size b (acc ++ [123]) w1) (hb : Below w0.heap.size (W.alloc (.cells #[.slice an xs.length ncap, .slice a xs.length cap] 97)) w1) (hk : Kept b (W.alloc (.cells #[.slice an xs.length ncap, .slice a xs.length cap] 97)) w1) => (⟨hW1.next hgb hi hb hk, rfl, hb, hk⟩ : WrRel w0 b g (W.alloc (.cells #[.slice an xs.length ncap, .slice a xs.length cap] 97)) true ns xs ((acc ++ [123]) ++ restL true ns xs 0) 0 (acc ++ [123]) w1))
  have HEND := Lib.hid (fun (o : List UInt8) (wr : World) (h : WrRel w0 b g (W.alloc (.cells #[.slice an xs.length ncap, .slice a xs.length cap] 97)) true ns xs ((acc ++ [123]) ++ restL true ns xs 0) xs.length o wr) => show o = (acc ++ [123]) ++ restL true ns xs 0 by have := h.left; rw [restL_end, List.append_nil] at this; exact this)
  have hwl : ((acc ++ [123]) ++ restL true ns xs 0).length + 2000 ≤ 140737488355328 := by simp; omega
  have ew : (acc ++ [123]) ++ restL true ns xs 0 ++ [125] = acc ++ 123 :: (restL true ns xs 0 ++ [125]) := by simp
  rw [← ew]
  clear hc ha ih hl ew hnc hna hnb hW1
  generalize (acc ++ [123]) ++ restL true ns xs 0 = whole at *
  have hsz := sizeB h
  clear h
  go_enter Tryd.func53, Tryd.ntmps53
  go_wp2_with fail
  refine (writeByte_any w0.heap.size b acc 123 _ H1.out.isb (by omega) (by simp; omega)).mono ?_
  rintro e w1 ⟨rfl, h1, b1, k1⟩
  have HS := Lib.hid (HST.out w1 h1 b1 k1)
  have hx1 := HBX.out w1 k1
  have m0 : w1.cell? ⟨W.heap.size, 0, none⟩ = some (.slice an xs.length ncap) := cell_of_row w1 _ 0 _ _ _ hx1
  have m1 : w1.cell? ⟨W.heap.size, 1, none⟩ = some (.slice a xs.length cap) := cell_of_row w1 _ 1 _ _ _ hx1
  clear h1 b1 k1 hx1
  go_wp2_with fail
  go_loopw [62] (fun i wr => ∃ (k : Nat) (o : List UInt8), k ≤ xs.length ∧ i = .int .i64 k ∧ WrRel w0 b g (W.alloc (.cells #[.slice an xs.length ncap, .slice a xs.length cap] 97)) true ns xs whole k o wr) (fun i _ => xs.length - (intOf i).toNat)
  case atStart => exact ⟨0, _, by omega, rfl, HS.out⟩
  case round =>
    obtain ⟨k, o, hk, rfl, hR⟩ := hrel
    have hol := wrRel_len0 hR
    have HX := Lib.hid (HBX.out wr hR.kept)
    by_cases hlt : k < xs.length
    · obtain ⟨ea, hlb⟩ := HA.out (by omega)
      subst ea
      obtain ⟨ean, hnlb⟩ := HNA.out (by omega)
      subst ean
      have p0 := (HNC.out k hlt)
      have hnk := HNB.out (ns.getD k []) (by rw [List.getD_eq_getElem?_getD, List.getElem?_eq_getElem (by omega)]; simp)
      have hlen := wrRel_len hR hlt
      have hrs := sizeB hR.at_
      have q0 := (hR.at_.blw.cell (p := ⟨bb, off + k, none⟩) hlb).trans (HC.out k hlt)
      have HSTEP := Lib.hid (fun w2 hi hb hkp => wrRel_step (w2 := w2) hR hgb hlt hi hb hkp)
      have HK := Lib.hid (HI.out k hlt)
      have HAT := Lib.hid hR.at_
      have q1 := hR.at_.cell
      clear hR
      simp only [nameL, if_true, List.length_append, List.length_cons, List.length_nil] at hlen HSTEP
      generalize ns.getD k [] = nk at *
      have hql := Bl.quote_le nk
      generalize xs.getD k default = x at *
      generalize textJ x = tx at *
      generalize vs k = v1 at *
      by_cases h0 : k = 0
      · have e0 : commaL k = [] := by simp [commaL, h0]
        have d0 : ¬ 0 < k := by omega
        rw [e0] at hlen HSTEP
        simp only [List.nil_append, List.length_nil] at hlen HSTEP
        clear e0 h0
        have x0 : wr.cell? ⟨W.heap.size, 0, none⟩ = some (.slice (some ⟨nb, noff, none⟩) xs.length ncap) := cell_of_row wr _ 0 _ _ _ HX.out
        have p1 := (HAT.out.blw.cell (p := ⟨nb, noff + k, none⟩) hnlb).trans p0
        go_wp2_with fail
        refine (writeQuoted_any w0.heap.size b o nk _ HAT.out.isb hrs (by omega)).mono ?_
        rintro e w2 ⟨rfl, h2, b2, k2⟩
        have hat2 := HAT.out.next hgb h2 b2 k2
        have HAT2 := Lib.hid hat2
        have B2 := Lib.hid b2
        have K2 := Lib.hid k2
        clear h2 b2 k2 q0 p1 x0 hat2
        go_wp2_with fail
        refine (writeByte_any w0.heap.size b (o ++ quoteL nk) 58 _ HAT2.out.isb (by simp; omega) (sizeB HAT2.out)).mono ?_
        rintro e w3 ⟨rfl, h3, b3, k3⟩
        have hat3 := HAT2.out.next hgb h3 b3 k3
        have HAT3 := Lib.hid hat3
        have q1 := hat3.cell
        have B3 := Lib.hid (B2.out.trans b3)
        have K3 := Lib.hid (K2.out.trans k3)
        clear h3 b3 k3 hat3
        go_wp2_with fail
        refine (HK.out w3 (o ++ quoteL nk ++ [58]) HAT3.out (by simp; omega)).mono ?_
        rintro e w4 ⟨rfl, h4, b4, k4⟩
        have HS2 := Lib.hid (HSTEP.out w4 (by simpa using h4) (B3.out.trans b4) (K3.out.trans k4))
        clear h4 b4 k4 q1
        go_wp2
        go_roundw
        case rel => exact ⟨k + 1, _, by omega, by go_num, HS2.out⟩
        case measure => simp [intOf]; omega
      · have e0 : commaL k = [44] := by simp [commaL, h0]
        have d0 : 0 < k := by omega
        rw [e0] at hlen HSTEP
        simp only [List.length_cons, List.length_nil] at hlen
        clear e0 h0
        go_wp2_with fail
        refine (writeByte_any w0.heap.size b o 44 _ HAT.out.isb (by omega) hrs).mono ?_
        rintro e w2 ⟨rfl, h2, b2, k2⟩
        have h2' := HAT.out.next hgb h2 b2 k2
        have HAT2 := Lib.hid h2'
        have q1 := h2'.cell
        have B2 := Lib.hid b2
        have K2 := Lib.hid k2
        have x0 : w2.cell? ⟨W.heap.size, 0, none⟩ = some (.slice (some ⟨nb, noff, none⟩) xs.length ncap) := cell_of_row w2 _ 0 _ _ _ (K2.out _ _ HX.out (by omega) (fun C e => by injection e with _ h _; exact absurd h (by decide)))
        have p1 := (h2'.blw.cell (p := ⟨nb, noff + k, none⟩) hnlb).trans p0
        clear h2 b2 k2 h2' q0 q1
        go_wp2_with fail
        refine (writeQuoted_any w0.heap.size b (o ++ [44]) nk _ HAT2.out.isb (sizeB HAT2.out) (by simp; omega)).mono ?_
        rintro e w3 ⟨rfl, h3, b3, k3⟩
        have hat3 := HAT2.out.next hgb h3 b3 k3
        have HAT3 := Lib.hid hat3
        have B3 := Lib.hid (B2.out.trans b3)
        have K3 := Lib.hid (K2.out.trans k3)
        clear h3 b3 k3 hat3 x0 p1
        go_wp2_with fail
        refine (writeByte_any w0.heap.size b (o ++ [44] ++ quoteL nk) 58 _ HAT3.out.isb (by simp; omega) (sizeB HAT3.out)).mono ?_
        rintro e w4 ⟨rfl, h4, b4, k4⟩
        have hat4 := HAT3.out.next hgb h4 b4 k4
        have HAT4 := Lib.hid hat4
        have q1 := hat4.cell
        have B4 := Lib.hid (B3.out.trans b4)
        have K4 := Lib.hid (K3.out.trans k4)
        clear h4 b4 k4 hat4
        go_wp2_with fail
        refine (HK.out w4 (o ++ [44] ++ quoteL nk ++ [58]) HAT4.out (by simp; omega)).mono ?_
        rintro e w5 ⟨rfl, h5, b5, k5⟩
        have HS2 := Lib.hid (HSTEP.out w5 (by simpa using h5) (B4.out.trans b5) (K4.out.trans k5))
        clear h5 b5 k5 q1
        go_wp2
        go_roundw
        case rel => exact ⟨k + 1, _, by omega, by go_num, HS2.out⟩
        case measure => simp [intOf]; omega
    · obtain rfl : k = xs.length := by omega
      have eo := HEND.out _ _ hR
      subst eo
      have HR := Lib.hid hR
      have hrs := sizeB hR.at_
      clear hR
      go_wp2_with fail
      refine (writeByte_any w0.heap.size b _ 125 _ HR.out.at_.isb (by omega) hrs).mono ?_
      rintro e w2 ⟨rfl, h2, b2, k2⟩
      go_wp2
      go_end0
      exact ⟨rfl, h2, (HB1.out.trans HR.out.blw).trans b2, (HK1.out.trans HR.out.kept).trans k2⟩
set_option maxRecDepth 100000 in
set_option maxHeartbeats 4000000 in
theorem write_go (w0 : World) (hT : Ul.Tab w0) (b g : Nat) (hgb : g ≠ b) (j : J) : ∀ (d : Nat) (v : Value), d ≤ 5 → okJ j d = true → VIn (· < w0.heap.size) w0 v j → ∀ (W : World) (acc : List UInt8), WrAt w0 b g W acc → acc.length + (textJ j).length + 2000 ≤ 140737488355328 →
    Calls Tryd.prog 53 #[v, .pointer (some ⟨b, 0, none⟩), .pointer (some ⟨g, 0, none⟩)] W (WrPost w0.heap.size b W (acc ++ textJ j)) := by
  induction j using J.ind with
  | h k n t ns xs ih =>
    intro d v hd5 hok hv W acc h hl
    have hsz := sizeB h
    have H := Lib.hid h
    cases hv with
    | null =>
      rw [show textJ (.mk 1 0 [] [] []) = [110, 117, 108, 108] by simp [textJ]] at hl ⊢
      have H1 := Lib.hid (h.alloc (.cells #[] 83))
      clear ih hok h
      go_enter Tryd.func53, Tryd.ntmps53
      go_wp2_with fail
      refine (writeString_any w0.heap.size b acc [110, 117, 108, 108] _ H1.out.isb (by simp at hl ⊢; omega) (by simp; omega)).mono ?_
      rintro e w1 ⟨rfl, h1, b1, k1⟩
      go_wp2
      go_end0
      exact ⟨rfl, h1, ((Below.refl _ _).alloc hsz _).trans b1, ((Kept.refl _ _).alloc _).trans k1⟩
    | bool q =>
      have e : textJ (.mk 2 (if q then 1 else 0) [] [] []) = Lib.formatBool q := by cases q <;> decide
      rw [e] at hl ⊢
      have hlq : (Lib.formatBool q).length ≤ 5 := by cases q <;> decide
      have HF := Lib.hid (fun W => Tryd.strconv_FormatBool q W)
      clear ih hok h e
      generalize Lib.formatBool q = o at *
      go_enter Tryd.func53, Tryd.ntmps53
      go_wp2_with fail
      refine (HF.out _).mono ?_
      rintro e w1 ⟨rfl, rfl⟩
      go_wp2_with fail
      refine (writeString_any w0.heap.size b acc o _ H.out.isb (by omega) hsz).mono ?_
      rintro e w1 ⟨rfl, h1, b1, k1⟩
      go_wp2
      go_end0
      exact ⟨rfl, h1, b1, k1⟩
    | num _ hn =>
      have e : textJ (.mk 3 n [] [] []) = Lib.itoa n := by simp [textJ]
      rw [e] at hl ⊢
      have hn2 : -999999999 ≤ n ∧ n ≤ 999999999 := by unfold okJ at hok; simp at hok; exact hok
      have HI := Lib.hid (fun W hT => itoaZ_any n hn2.1 hn2.2 W hT)
      have HTT := Lib.hid (hT.below h.blw)
      clear ih hok e hn2
      generalize Lib.itoa n = o at *
      have hat : ∀ w1, Below W.heap.size W w1 → WrAt w0 b g w1 acc ∧ Kept b W w1 := fun w1 hb => by
        have hk : Kept b W w1 := fun k o hk _ _ => (hb.block k (Array.getElem?_eq_some_iff.1 hk).1).trans hk
        refine ⟨⟨h.blw.trans (hb.mono hsz), ?_, (hb.block g (Array.getElem?_eq_some_iff.1 h.var).1).trans h.var⟩, hk⟩
        exact isB_later h.isb hb
      have HAT := Lib.hid hat
      clear hat h
      go_enter Tryd.func53, Tryd.ntmps53
      go_wp2_with fail
      refine (HI.out _ HTT.out).mono ?_
      rintro e w1 ⟨rfl, hb1⟩
      obtain ⟨a1, kk1⟩ := HAT.out w1 hb1
      have A1 := Lib.hid a1
      have K1 := Lib.hid kk1
      have B1 := Lib.hid (hb1.mono hsz)
      have hs1 := sizeB a1
      clear a1 kk1 hb1
      go_wp2_with fail
      refine (writeString_any w0.heap.size b acc o _ A1.out.isb (by omega) hs1).mono ?_
      rintro e w2 ⟨rfl, h2, b2, k2⟩
      go_wp2
      go_end0
      exact ⟨rfl, h2, B1.out.trans b2, K1.out.trans k2⟩
    | text _ ht =>
      have e : textJ (.mk 4 0 t [] []) = quoteL t := by simp [textJ]
      have ht2 : t.length ≤ 120 := by unfold okJ at hok; simp at hok; exact hok
      rw [e] at hl ⊢
      clear ih hok h e
      go_enter Tryd.func53, Tryd.ntmps53
      go_wp2_with fail
      refine (writeQuoted_any w0.heap.size b acc t _ H.out.isb hsz (by omega)).mono ?_
      rintro e w1 ⟨rfl, h1, b1, k1⟩
      go_wp2
      go_end0
      exact ⟨rfl, h1, b1, k1⟩
    | list a cap bb off vs hcap hm ha hc deep =>
      have hx : okL xs (d - 1) = true := by unfold okJ at hok; simp at hok; exact hok.2
      exact write_list w0 b g hgb xs a cap bb off vs hcap hm ha hc (fun i hi W' acc' h' hl' => ih _ (by simp [hi]) (d - 1) _ (by omega) (okL_mem xs _ hx _ (by simp [hi])) (deep i hi) W' acc' h' hl') W acc h hl
    | obj a cap bb off vs names hcap hm ha hc deep =>
      have hx : okL xs (d - 1) = true := by unfold okJ at hok; simp at hok; exact hok.2
      have hnl : ns.length = xs.length := by unfold okJ at hok; simp at hok; exact hok.1.1.2
      have hnb := namesB_le ns [] (by unfold okJ at hok; simp at hok; exact hok.1.2)
      obtain ⟨an, ncap, nb, noff, rfl, -, -, -, hna, hnc⟩ := names
      rw [hnl] at hna hnc ⊢
      exact write_obj w0 b g hgb ns xs an ncap nb noff hnl hnb hna hnc a cap bb off vs hcap hm ha hc (fun i hi W' acc' h' hl' => ih _ (by simp [hi]) (d - 1) _ (by omega) (okL_mem xs _ hx _ (by simp [hi])) (deep i hi) W' acc' h' hl') W acc h hl
@[local go_sem] theorem run_store_func {P : Program} {w : World} {a : Addr} {m : Mode} (f : Fn) (x y : Array Value) : (store a (.func f x y) m).run P w = stored P w a (.func f x y) m := run_store P w a _ m rfl
set_option maxRecDepth 100000 in
set_option maxHeartbeats 2000000 in
theorem join_any (j : J) (v : Value) (W : World) (hT : Ul.Tab W) (hok : okJ j 5 = true) (hv : VIn (· < W.heap.size) W v j) :
    Calls Tryd.prog 30 #[v] W fun e w' => e = .returned (.string ⟨(textJ j).toArray⟩) ∧ Below W.heap.size W w' := by
  have hlen := Nat.le_trans (textJ_le j 5 hok) (longest_le 5 (by omega))
  have hmf : ∀ (fn : Fn) (first cap : Array Value) (w : World), (Instr.makeFunc fn first cap).run Tryd.prog w = .ok (.func fn first cap) w := fun _ _ _ _ => rfl
  have h0 : WrAt W W.heap.size (W.heap.size + 1) ((W.alloc (.cells #[.pointer none, .slice none 0 0] 80)).alloc (wrO W.heap.size (W.heap.size + 1))) [] :=
    ⟨((Below.refl _ _).alloc (Nat.le_refl _) _).alloc (by simp) _, (IsB.fresh W).alloc _, heap_alloc2_new _ _ _⟩
  have HK := Lib.hid (write_go W hT W.heap.size (W.heap.size + 1) (by omega) j 5 v (by omega) hok hv _ [] h0 (by simp; omega))
  clear h0
  rw [List.nil_append] at HK
  generalize textJ j = tx at *
  go_enter Tryd.func30, Tryd.ntmps30
  go_wp2_with fail
  refine HK.out.mono ?_
  rintro e w1 ⟨rfl, h1, b1, _⟩
  go_wp2_with fail
  refine (Tryd.Builder_String_any W.heap.size W.heap.size tx _ h1 (by have := b1.size; simp at this; omega)).mono ?_
  rintro e w2 ⟨rfl, b2⟩
  go_wp2
  go_ret
  exact ⟨rfl, (((Below.refl _ _).alloc (Nat.le_refl _) _).alloc (by simp) _).trans (b1.trans b2)⟩
theorem okJ_norm {j : J} (h : okJ j 5 = true) : normJ j = j := by
  rw [ok_split] at h
  simp only [Bool.and_eq_true] at h
  exact (sameJ_eq j _ h.2).symm
set_option maxRecDepth 100000 in
set_option maxHeartbeats 2000000 in
theorem jtI_any (B : Nat) (w0 : World) (j : J) (nv iv : Value) (h : JIn (· < B) w0 j nv iv) (hs : szJ j ≤ 1048576) (W : World) (hT : Ul.Tab W) (hb : Below B w0 W) (hB : B ≤ W.heap.size) :
    Calls Tryd.prog 15 #[jV j nv iv] W (JtPost W j) := by
  have HV := Lib.hid (valueOf_any B w0 j nv iv h hs)
  have HB := Lib.hid hb
  have HT := Lib.hid hT
  unfold JtPost JT JC
  obtain ⟨⟨an, ln, cn, rfl⟩, ⟨ai, li, ci, rfl⟩⟩ := h.slices
  clear h hb hT
  have hb1 : ∀ o : Array Value, Below W.heap.size W (W.alloc (.cells o 38)) := fun o => (Below.refl _ _).alloc (Nat.le_refl _) _
  have HB1 := Lib.hid hb1
  clear hb1
  obtain ⟨r, hr⟩ : ∃ r, okJ j 5 = r := ⟨_, rfl⟩
  have HR := Lib.hid hr
  rw [hr] at HV ⊢
  clear hr
  cases r with
  | false =>
    go_enter Tryd.func15, Tryd.ntmps15
    go_wp2_with fail
    refine (HV.out _ (HB.out.trans ((HB1.out _).mono hB)) (by simp; omega)).mono ?_
    rintro e w2 ⟨v, rfl, _, hb2⟩
    have HB2 := Lib.hid ((HB1.out _).trans (hb2.mono (by simp)))
    clear hb2
    go_wp2
    go_ret2
    exact ⟨rfl, HB2.out⟩
  | true =>
    simp only [↓reduceIte]
    have HJ0 := Lib.hid (fun v w2 hT hv => join_any j v w2 hT HR.out hv)
    generalize textJ j = tx at *
    go_enter Tryd.func15, Tryd.ntmps15
    go_wp2_with fail
    refine (HV.out _ (HB.out.trans ((HB1.out _).mono hB)) (by simp; omega)).mono ?_
    rintro e w2 ⟨v, rfl, hv, hb2⟩
    have hv2 := hv rfl
    rw [okJ_norm HR.out] at hv2
    have hz := hb2.size
    simp at hz
    have hb3 := (HB1.out (#[.int .i64 j.kind, .int .i64 j.num, .string ⟨j.text.toArray⟩, .slice an ln cn, .slice ai li ci])).trans (hb2.mono (by simp))
    have HJ := Lib.hid (HJ0.out v w2 (HT.out.below hb3) (hv2.same fun b hS => ⟨by rcases hS with h | h <;> (try simp at h) <;> omega, rfl⟩))
    have HB2 := Lib.hid hb3
    clear hb2 hv hv2 hb3
    go_wp2_with fail
    refine HJ.out.mono ?_
    rintro e w3 ⟨rfl, hb3⟩
    have HB3 := Lib.hid (HB2.out.trans (hb3.mono HB2.out.size))
    clear hb3
    go_wp2
    go_ret2
    exact ⟨rfl, HB3.out⟩
end Go.Proofs.YtniflfgnelfpbaaDoor.Js
