
/-
  The walks of the model's functions of chapter 2 that read: a text in lower case.
-/
import Derived.Test.YtniflfgnelfpbaaDoorUrlSpecE
import Derived.Laws.BytesArg
import Derived.Laws.IdiomStrings
import Derived.Laws.AppendOwn
import Derived.Laws.OwnMore
import Derived.Outline
namespace Go.Proofs.YtniflfgnelfpbaaDoor.Ul
open Go.RowKit
/-! ### Lower case -/
theorem Tryd.infoB : (Tryd.prog.info? 5).map (fun i => (i.zero, i.size, i.bytes)) = some (some (.int .u8 0), 1, 1) := by kernel_rfl
abbrev u8s (l : List UInt8) : List Value := l.map fun x => Value.int .u8 x.toNat
theorem up_yes (x : UInt8) (h : 65 ≤ x.toNat ∧ x.toNat ≤ 90) : ((lowC x).toNat : Int) = x.toNat + 32 := by
  have : upB x = true := by simp [upB, h]
  simp [lowC, this, UInt8.toNat_add]; omega
theorem up_no (x : UInt8) (h : ¬ (65 ≤ x.toNat ∧ x.toNat ≤ 90)) : lowC x = x := by
  have : upB x = false := by simp [upB]; omega
  simp [lowC, this]
theorem low_take (l : List UInt8) (k : Nat) (x : UInt8) (h : k < l.length) (hx : l[k] = x) : lowL (l.take (k + 1)) = lowL (l.take k) ++ [lowC x] := by
  rw [take_one l k x h hx]; simp [lowL]
theorem conv_own (W : World) (B : Nat) (v : Value) (l : List UInt8) (h : W.ownsRow B 5 1 v l.length (u8s l)) : (convert 78 9 v).run Tryd.prog W = .ok (.string ⟨l.toArray⟩) W := by
  obtain ⟨hlen, h⟩ := h
  rcases h with ⟨rfl, h0⟩ | ⟨g, cap, cur, rfl, _, hg, hn, _, hs, ht⟩
  · obtain rfl : l = [] := List.eq_nil_of_length_eq_zero h0
    exact run_convert_bytes_nil (P := Tryd.prog) W 78 5 Tryd.underlying78 Tryd.underlying5 0 0 9 Tryd.underlying9
  · refine run_convert_bytes_back W 78 9 5 ⟨g, 0, none⟩ cap l Tryd.underlying78 Tryd.underlying5 Tryd.underlying9 (fun j hj => ?_)
    have e : (cur.toList.take (l.length * 1))[j]? = some (Value.int .u8 l[j].toNat) := by rw [ht]; simp [hj]
    rw [List.getElem?_take_of_lt (by omega)] at e
    have : (⟨g, 0, none⟩ : Addr).add j = ⟨g, j, none⟩ := by unfold Addr.add; split <;> simp_all
    rw [this]
    simp [World.cell?, hg]
    simpa using e
theorem low_rel {B k : Nat} {l : List UInt8} {w wr w1 : World} {v v' : Value} {o : Obj} {x : UInt8} (hk : k < l.length) (hx : l[k] = x) (hB : B ≤ wr.heap.size)
    (hown : wr.ownsRow B 5 1 v k (u8s (lowL (l.take k)))) (hnx : Below B w wr)
    (hown' : w1.ownsRow B 5 1 v' (k + 1) (u8s (lowL (l.take k)) ++ [.int .u8 (lowC x).toNat])) (hgrow : (wr.alloc o).grownBy w1 v.ownBlock) :
    w1.ownsRow B 5 1 v' (k + 1) (u8s (lowL (l.take (k + 1)))) ∧ Below B w w1 := by
  refine ⟨?_, (hnx.alloc hB o).grown hgrow (by simp; omega) (fun j hj => by have := (hown.lt j hj).1; omega)⟩
  rw [low_take l k x hk hx]
  simpa using hown'
theorem one_u8 (a : Int) : ∀ u ∈ [Value.int .u8 a], u.oneCell' = true := by
  intro u hu; simp at hu; subst hu; rfl
theorem up_cases (x : UInt8) (h : ¬ (65 ≤ x.toNat ∧ x.toNat ≤ 90)) : decide ((65 : Int) ≤ x.toNat) = false ∨ (decide ((65 : Int) ≤ x.toNat) = true ∧ decide ((x.toNat : Int) ≤ 90) = false) := by
  by_cases h1 : 65 ≤ x.toNat
  · exact .inr ⟨by simp; omega, by simp; omega⟩
  · exact .inl (by simp; omega)
set_option maxRecDepth 100000 in
set_option maxHeartbeats 1000000 in
theorem lowerS_any (l : List UInt8) (w : World) (hl : l.length ≤ 140737488351232) : Calls Tryd.prog 67 #[.string ⟨l.toArray⟩] w fun e w' => e = .returned (.string ⟨(lowL l).toArray⟩) ∧ Below w.heap.size w w' := by
  obtain ⟨i0, hi, hz0, hz1, hz2⟩ := info_parts Tryd.infoB
  go_enter Tryd.func67, Tryd.ntmps67
  go_wp2
  go_loopw [3, 4] (fun v i wr => ∃ k : Nat, k ≤ l.length ∧ i = .int .i64 k ∧ wr.ownsRow w.heap.size 5 1 v k (u8s (lowL (l.take k))) ∧ Below w.heap.size w wr) (fun _ i _ => l.length - (intOf i).toNat)
  case atStart => exact ⟨0, by omega, rfl, World.ownsRow_made w #[] 0 (Nat.le_refl _) (by unfold maxLen; omega) rfl, (Below.refl _ _).alloc (Nat.le_refl _) _⟩
  case round =>
    obtain ⟨k, hk, rfl, hown, hnx⟩ := hrel
    have hB := hnx.size
    by_cases hlt : k < l.length
    · obtain ⟨x, hx, hb⟩ := byte_at l k hlt
      by_cases hu : 65 ≤ x.toNat ∧ x.toNat ≤ 90
      · have REL := Lib.hid (fun (v v' : Value) (w1 : World) (o : Obj) (hown : wr.ownsRow w.heap.size 5 1 v k (u8s (lowL (l.take k)))) => low_rel (v := v) (v' := v') (w1 := w1) (o := o) hlt hx hB hown hnx)
        have E := Lib.hid (up_yes x hu)
        have HO := Lib.hid hown
        obtain ⟨hu1, hu2⟩ := hu
        clear hx hown
        go_wp2_with (at_builtin; refine wpList_append_own _ rfl _ _ 78 rfl w.heap.size 5 i0 (.int .u8 0) 1 1 Tryd.underlying78 hi hz0 hz1 hz2 rfl (by decide) _ _ _ rfl (HO.out.alloc _) ⟨wr.heap.size, 0, none⟩ 1 1 [.int .u8 ((x.toNat : Int) + 32)] rfl rfl ?c1 ?c2 ?c3 ?c4 ?c5 ?_)
        case c1 =>
          intro j u hj
          match j, hj with
          | 0, hj => simp at hj; subst hj; simp [Addr.add]
        case c2 => intro u hu; simp at hu; subst hu; rfl
        case c3 => unfold maxLen; omega
        case c4 => omega
        case c5 => simp; omega
        intro v' w1 hown' hgrow _
        rw [← E.out] at hown'
        have R := REL.out _ _ _ _ HO.out hown' hgrow
        clear hown' hgrow HO REL hnx
        go_wp2
        go_roundw
        case rel => exact ⟨k + 1, by omega, by go_num, R.1, R.2⟩
        case measure => simp [intOf]; omega
      · have REL := Lib.hid (fun (v v' : Value) (w1 : World) (o : Obj) (hown : wr.ownsRow w.heap.size 5 1 v k (u8s (lowL (l.take k)))) => low_rel (v := v) (v' := v') (w1 := w1) (o := o) hlt hx hB hown hnx)
        have E := Lib.hid (up_no x hu)
        have HO := Lib.hid hown
        have C3 : k + 1 ≤ maxLen := by unfold maxLen; omega
        have C4 : (k + 1) * 1 ≤ 140737488355328 := by omega
        clear hx hown
        rcases up_cases x hu with d1 | ⟨d1, d2⟩
        all_goals
          go_wp2_with (at_builtin; refine wpList_append_own _ rfl _ _ 78 rfl w.heap.size 5 i0 (.int .u8 0) 1 1 Tryd.underlying78 hi hz0 hz1 hz2 rfl (by decide) _ _ _ rfl (HO.out.alloc _) ⟨wr.heap.size, 0, none⟩ 1 1 [.int .u8 (x.toNat : Int)] rfl rfl (cell_one_new _ _ _) (one_u8 _) C3 C4 (by simp; omega) ?_; intro v' w1 hown' hgrow _; rw [← E.out] at hown'; have R := REL.out _ _ _ _ HO.out hown' hgrow; clear hown' hgrow HO REL hnx)
          go_roundw
          case rel => exact ⟨k + 1, by omega, by go_num, R.1, R.2⟩
          case measure => simp [intOf]; omega
    · obtain rfl : k = l.length := by omega
      have hcv := conv_own wr w.heap.size _ (lowL l) (by rw [low_len]; simpa using hown)
      go_wp2
      go_ret
      exact ⟨rfl, hnx⟩
end Go.Proofs.YtniflfgnelfpbaaDoor.Ul
