
/-
  The walks of the program's functions of chapter 2 that look at a whole URL, go on: the fields, the text, whether it is well formed.
-/
import Derived.Test.YtniflfgnelfpbaaDoorUrlImplB
import Derived.RegionTactic
import Derived.Deep.RegionWith
import Derived.Deep.RegionHeld3
namespace Go.Proofs.YtniflfgnelfpbaaDoor.Ul
open Go.RowKit
@[local go_sem] theorem bappI (a b : List UInt8) : (⟨a.toArray⟩ : ByteArray) ++ ⟨b.toArray⟩ = ⟨(a ++ b).toArray⟩ := by
  apply ByteArray.ext; simp
def fieldsB (s us h pa q f : List UInt8) (p : Int) (hq hf : Bool) : Bool :=
  schemeB s && (if webB s then webB2 s us h pa q f p hq hf else (us == [] && h == [] && p == 0 && q == [] && f == [] && !hq && !hf) && onlyB pa [63, 35])
theorem fieldsB_eq (s us h pa q f : List UInt8) (p : Int) (hq hf : Bool) : fieldsB s us h pa q f p hq hf = (schemeB s && (if webB s then webB2 s us h pa q f p hq hf else (us == [] && h == [] && p == 0 && q == [] && f == [] && !hq && !hf) && onlyB pa [63, 35])) := rfl
set_option maxRecDepth 100000 in
theorem fieldsOK_any (s us h pa q f : List UInt8) (p : Int) (hq hf : Bool) (w : World) (hl : s.length + us.length + h.length + pa.length + q.length + f.length ≤ 4611686018427387904) :
    Calls Tryd.prog 98 #[.agg #[.string ⟨s.toArray⟩, .string ⟨us.toArray⟩, .string ⟨h.toArray⟩, .int .i64 p, .string ⟨pa.toArray⟩, .string ⟨q.toArray⟩, .string ⟨f.toArray⟩, .bool hq, .bool hf]] w fun e w' => e = .returned (.bool (fieldsB s us h pa q f p hq hf)) ∧ Below w.heap.size w w' := by
  have W20 := fieldsB_eq s us h pa q f p hq hf
  generalize fieldsB s us h pa q f p hq hf = wv at *
  have W2 := Lib.hid W20
  clear W20
  go_enter Tryd.func98, Tryd.ntmps98
  go_wp2_with (first
    | (go_at_call 107; refine (schemeOK_any _ _ (by omega)).mono ?_; rintro e w1 ⟨rfl, hb⟩; have hc := bcellI hb; have hz : w.heap.size < w1.heap.size := (by have := hb.size; (try simp at this); omega))
    | (go_at_call 77; refine (isWeb_any _ _).mono ?_; rintro e w' ⟨rfl, rfl⟩)
    | (go_at_call 108; refine (webOK_any _ _ _ _ _ _ _ _ _ _ (by omega)).mono ?_; rintro e w1 ⟨rfl, hb⟩)
    | (go_at_call 109; refine (partOK_any _ _ _ (by first | omega | simp)).mono ?_; rintro e w1 ⟨rfl, hb⟩))
  all_goals
    go_ret
    refine ⟨ret_bool ?_, (by repeat (first | exact Below.refl _ _ | refine belI_alloc ?_ | refine Below.drew ?_ | refine belI_step ?_ (by assumption)))⟩
    rw [W2.out]
    simp_all
theorem partsLength_any (s us h pa q f : List UInt8) (p : Int) (hq hf : Bool) (w : World) (hl : s.length + us.length + h.length + pa.length + q.length + f.length ≤ 4611686018427387904) :
    Calls Tryd.prog 97 #[.agg #[.string ⟨s.toArray⟩, .string ⟨us.toArray⟩, .string ⟨h.toArray⟩, .int .i64 p, .string ⟨pa.toArray⟩, .string ⟨q.toArray⟩, .string ⟨f.toArray⟩, .bool hq, .bool hf]] w fun e w' => e = .returned (.int .i64 ((s.length + us.length + h.length + pa.length + q.length + f.length : Nat) : Int)) ∧ Below w.heap.size w w' := by
  go_enter Tryd.func97, Tryd.ntmps97
  go_wp2
  go_ret
  exact ⟨ret_int (by simp), (by repeat (first | exact Below.refl _ _ | refine belI_alloc ?_ | refine Below.drew ?_ | refine belI_step ?_ (by assumption)))⟩
def Tab (w : World) : Prop := Lib.TabIs Tryd.prog w "internal/strconv.uint64pow10" .u64 Lib.pow10Tab
theorem Tab.below {w w' : World} (h : Tab w) (hb : Below w.heap.size w w') : Tab w' := by
  unfold Tab Lib.TabIs at h ⊢
  unfold World.var? at h ⊢
  cases hg : Tryd.prog.globalNamed "internal/strconv.uint64pow10" with
  | none => simp [hg] at h
  | some g =>
    simp only [hg, Option.bind_some] at h ⊢
    have hgB : g < w.heap.size := by
      rcases Nat.lt_or_ge g w.heap.size with h1 | h1
      · exact h1
      · rw [Array.getElem?_eq_none h1] at h; cases h
    rw [hb.block g hgB]
    exact h
theorem itoa_any (n : Nat) (hn : n ≤ 9223372036854775807) (w : World) (hT : Tab w) : Calls Tryd.prog 56 #[.int .i64 (n : Int)] w fun e w' => e = .returned (.string ⟨(Lib.decDigits n).toArray⟩) ∧ Below w.heap.size w w' := by
  refine (Tryd.strconv_Itoa (n : Int) (by omega) (by omega) w hT).mono ?_
  rintro e w' ⟨rfl, k, os, rfl⟩
  exact ⟨by rw [Lib.itoa_nonneg], Lib.below_grow _ _ (Nat.le_refl _) _ _⟩
set_option maxRecDepth 100000 in
theorem hostText_any (s us h pa q f : List UInt8) (p : Int) (hq hf : Bool) (w : World) (hT : Tab w) (hp : 0 ≤ p ∧ p ≤ 65535) (hl : h.length ≤ 4611686018427387904) :
    Calls Tryd.prog 90 #[.agg #[.string ⟨s.toArray⟩, .string ⟨us.toArray⟩, .string ⟨h.toArray⟩, .int .i64 p, .string ⟨pa.toArray⟩, .string ⟨q.toArray⟩, .string ⟨f.toArray⟩, .bool hq, .bool hf]] w fun e w' => e = .returned (.string ⟨(h ++ portL p).toArray⟩) ∧ Below w.heap.size w w' := by
  by_cases hp0 : p = 0
  · subst hp0
    rw [portL_no (by decide), List.append_nil]
    go_enter Tryd.func90, Tryd.ntmps90
    go_wp2
    go_ret
    exact ⟨rfl, (by repeat (first | exact Below.refl _ _ | refine belI_alloc ?_ | refine Below.drew ?_ | refine belI_step ?_ (by assumption)))⟩
  · obtain ⟨n, rfl⟩ := Int.eq_ofNat_of_zero_le hp.1
    have e : portL n = [58] ++ Lib.decDigits n := by simp [portL]; omega
    have hd := digs_len 18 n (by omega)
    have HC := Lib.hid (fun W hT => itoa_any n (by omega) W hT)
    have HT := Lib.hid hT
    have d0 : ((n : Int) == 0) = false := by simp; omega
    rw [e]
    clear e hT hp0
    generalize Lib.decDigits n = dd at *
    have b1 : ¬ 9223372036854775807 < h.length + 1 := by omega
    have b2 : ¬ 9223372036854775807 < h.length + 1 + dd.length := by omega
    go_enter Tryd.func90, Tryd.ntmps90
    go_wp2_with fail
    go_region_held3 (fun wx => w.heap.size < wx.heap.size ∧ wx.cell? ⟨w.heap.size, 2, none⟩ = some (.string ⟨h.toArray⟩) ∧ wx.cell? ⟨w.heap.size, 3, none⟩ = some (.int .i64 n) ∧ Below w.heap.size w wx)
      (first
        | (simp [*, Below.refl, belI_alloc, Below.drew]; done)
        | (go_split_ands
           have hz := hb.size
           refine ⟨by omega, ?_, ?_, belI_step (by assumption) hb⟩
           · (rw [hb.cell (p := ⟨w.heap.size, 2, none⟩) (by assumption)]; assumption)
           · (rw [hb.cell (p := ⟨w.heap.size, 3, none⟩) (by assumption)]; assumption)))
      (first | (go_split_ands; go_at_call 56; refine (HC.out _ (HT.out.below (by assumption))).mono ?_; rintro e w1 ⟨rfl, hb⟩))
    all_goals
      go_wp2
      go_ret
      refine ⟨ret_str (by simp), by simp [*]⟩
end Go.Proofs.YtniflfgnelfpbaaDoor.Ul
