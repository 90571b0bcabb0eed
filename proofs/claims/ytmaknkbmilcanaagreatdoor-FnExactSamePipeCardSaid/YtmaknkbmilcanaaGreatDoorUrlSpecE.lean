
/-
  The walks of the model's functions of chapters 1 and 2 that read: the number that a text is. The walks of the model's functions of chapter 2 that read: a text in lower case. The walks of the model's function of chapter 2 that reads a URL. The walk of the model's function of chapter 2 that reads a web URL. The walks of the model's functions of chapter 2 that read a URL, the end: no strokes; all of l01Parse; ParseUrl.
-/
import Derived.Test.YtmaknkbmilcanaaGreatDoorUrlSpecA
import Derived.Test.YtmaknkbmilcanaaGreatDoorUrlPlain
import Derived.Laws.BytesArg
import Derived.Laws.IdiomStrings
import Derived.Laws.AppendOwn
import Derived.Laws.OwnMore
import Derived.Outline
import Derived.Test.YtmaknkbmilcanaaGreatDoorUrlSpecD
import Derived.Test.YtmaknkbmilcanaaGreatDoorUrlAt
import Derived.Deep.DeepCutAuto
import Derived.Deep.RegionWith
namespace Go.Proofs.YtmaknkbmilcanaaGreatDoor.Ul
open Go.RowKit
theorem ret_num {a b : Int} {c d : Bool} (h : a = b) (h' : c = d) : Ending.returned (.tuple #[.int .i64 a, .bool c]) = .returned (.tuple #[.int .i64 b, .bool d]) := by rw [h, h']
@[local go_sem] theorem ext_tail (c : UInt8) (l : List UInt8) : (⟨(c :: l).toArray⟩ : ByteArray).extract 1 (l.length + 1) = ⟨l.toArray⟩ := by
  apply ByteArray.ext; simp
set_option maxHeartbeats 1000000 in
theorem numS_pos (l : List UInt8) (w : World) (hl : l.length ≤ 9223372036854775807) (hn : negB l = false) : Calls Tryz.prog 304 #[.string ⟨l.toArray⟩] w fun e w' => e = .returned (.tuple #[.int .i64 (numV l), .bool (numB l)]) ∧ w = w' := by
  obtain ⟨hB, hV⟩ := num_pos l hn
  by_cases h0 : l.length < 1
  · obtain rfl : l = [] := List.eq_nil_of_length_eq_zero (by omega)
    go_enter Tryz.func304, Tryz.ntmps304
    go_wp2
    go_ret2
    exact ⟨rfl, rfl⟩
  have h0' : 0 < l.length := by omega
  obtain ⟨x, hx, hb⟩ := byte_at l 0 h0'
  rw [neg_at l x h0' hx] at hn
  have hz := zero_at l x h0' hx
  have c1 : ((x.toNat : Int) == 45) = false := by
    have : x ≠ 45 := by simpa using hn
    have : x.toNat ≠ 45 := fun e => this (UInt8.toNat_inj.1 e)
    simp; omega
  have HB := Lib.hid hB
  have HV := Lib.hid hV
  clear hB hV hn hx
  have d0 : ((l.length : Int) == 0) = false := beq_eq_false_iff_ne.2 (by omega)
  by_cases h18 : 18 < l.length
  · have F : Hid (numB l = false) := Lib.hid (by rw [HB.out]; exact digs_long _ _ h18)
    clear hz
    go_enter Tryz.func304, Tryz.ntmps304
    go_wp2
    go_ret2
    exact ⟨ret_num (numV_no l F.out).symm F.out.symm, rfl⟩
  have d18 : decide ((18 : Int) < l.length) = false := by simp; omega
  by_cases hz1 : x.toNat = 48 ∧ 1 < l.length
  · obtain ⟨hz1, hz2⟩ := hz1
    obtain rfl : x = 48 := UInt8.toNat_inj.1 hz1
    have F : Hid (numB l = false) := Lib.hid (by rw [HB.out]; exact digs_zero _ _ hz (.inl hz2))
    clear hz hz1
    go_enter Tryz.func304, Tryz.ntmps304
    go_wp2
    go_ret2
    exact ⟨ret_num (numV_no l F.out).symm F.out.symm, rfl⟩
  have G : Hid (l.all digB = true → digsB false l = true) := Lib.hid fun h => digs_good false l (by omega) (by omega) (by
    by_cases e : x.toNat = 48
    · exact .inr ⟨fun h' => hz1 ⟨e, h'⟩, rfl⟩
    · left; rw [hz]; simp; intro h'; subst h'; exact e rfl) h
  have hgo : ((x.toNat : Int) == 48) = false ∨ (((x.toNat : Int) == 48) = true ∧ ¬ 1 < l.length) := by
    by_cases e : x.toNat = 48
    · exact .inr ⟨by simp [e], fun h' => hz1 ⟨e, h'⟩⟩
    · exact .inl (by simp; omega)
  clear hz hz1
  rcases hgo with c2 | ⟨c2, h1⟩
  all_goals
    go_enter Tryz.func304, Tryz.ntmps304
    go_wp2
    go_loop [5, 6] (fun n i => ∃ k m : Nat, k ≤ l.length ∧ i = .int .i64 k ∧ n = .int .i64 m ∧ numAt l k m = true) (fun _ i => l.length - (intOf i).toNat)
    case atStart => exact ⟨0, 0, by omega, rfl, rfl, num_zero l⟩
    case round =>
      obtain ⟨k, m, hk, rfl, rfl, ht⟩ := hrel
      by_cases hlt : k < l.length
      · obtain ⟨y, hy, hby⟩ := byte_at l k hlt
        have hm := num_lt l k m (by omega) ht
        have hy2 : y.toNat < 256 := y.toNat_lt
        by_cases hd : 48 ≤ y.toNat ∧ y.toNat ≤ 57
        · have F := Lib.hid (num_yes l k m y hlt hy ht (by simp [digB, hd]))
          have e1 : (m : Int) * 10 + (y.toNat : Int) - 48 = ((10 * m + digV y : Nat) : Int) := by unfold digV; omega
          have E1 := Lib.hid e1
          obtain ⟨hd1, hd2⟩ := hd
          clear ht hy e1
          go_wp2
          go_round
          case rel => exact ⟨k + 1, 10 * m + digV y, by omega, by go_num, by rw [← E1.out], F.out⟩
          case measure => simp [intOf]; omega
        · have F : Hid (numB l = false) := Lib.hid (by rw [HB.out]; exact digs_bad _ _ (num_no l k y hlt hy (by simp [digB]; omega)))
          clear ht hy
          go_wp2
          all_goals (go_ret2; exact ⟨ret_num (numV_no l F.out).symm F.out.symm, rfl⟩)
      · obtain rfl : k = l.length := by omega
        obtain ⟨ha, rfl⟩ := num_end l m ht
        have F : Hid (numB l = true) := Lib.hid (by rw [HB.out]; exact G.out ha)
        have hm := val_lt 18 l (by omega) ha
        clear ht ha
        go_wp2
        go_ret2
        exact ⟨ret_num (by rw [HV.out F.out]) F.out.symm, rfl⟩
set_option maxHeartbeats 1000000 in
theorem numS_neg (l : List UInt8) (w : World) (hl : l.length < 9223372036854775807) : Calls Tryz.prog 304 #[.string ⟨(45 :: l).toArray⟩] w fun e w' => e = .returned (.tuple #[.int .i64 (numV (45 :: l)), .bool (numB (45 :: l))]) ∧ w = w' := by
  obtain ⟨hB, hV⟩ := num_neg l
  have hb45 : ∀ h' : 0 < (⟨(45 :: l).toArray⟩ : ByteArray).size, (⟨(45 :: l).toArray⟩ : ByteArray)[0] = 45 := fun _ => rfl
  by_cases h0 : l.length < 1
  · obtain rfl : l = [] := List.eq_nil_of_length_eq_zero (by omega)
    go_enter Tryz.func304, Tryz.ntmps304
    go_wp2
    go_ret2
    exact ⟨rfl, rfl⟩
  have h0' : 0 < l.length := by omega
  obtain ⟨x, hx, hb⟩ := byte_at l 0 h0'
  have hz := zero_at l x h0' hx
  have HB := Lib.hid hB
  have HV := Lib.hid hV
  clear hB hV hx
  have d0 : ((l.length : Int) == 0) = false := beq_eq_false_iff_ne.2 (by omega)
  by_cases h18 : 18 < l.length
  · have F : Hid (numB (45 :: l) = false) := Lib.hid (by rw [HB.out]; exact digs_long _ _ h18)
    clear hz
    go_enter Tryz.func304, Tryz.ntmps304
    go_wp2
    go_ret2
    exact ⟨ret_num (numV_no (45 :: l) F.out).symm F.out.symm, rfl⟩
  have d18 : decide ((18 : Int) < l.length) = false := by simp; omega
  by_cases hz1 : x.toNat = 48
  · obtain rfl : x = 48 := UInt8.toNat_inj.1 hz1
    have F : Hid (numB (45 :: l) = false) := Lib.hid (by rw [HB.out]; exact digs_zero _ _ hz (.inr rfl))
    clear hz hz1
    go_enter Tryz.func304, Tryz.ntmps304
    go_wp2
    all_goals (go_ret2; exact ⟨ret_num (numV_no (45 :: l) F.out).symm F.out.symm, rfl⟩)
  have G : Hid (l.all digB = true → digsB true l = true) := Lib.hid fun h => digs_good true l (by omega) (by omega) (by
    left; rw [hz]; simp; intro h'; subst h'; exact hz1 rfl) h
  have c2 : ((x.toNat : Int) == 48) = false := by simp; omega
  clear hz hz1
  · go_enter Tryz.func304, Tryz.ntmps304
    go_wp2
    go_loop [5, 6] (fun n i => ∃ k m : Nat, k ≤ l.length ∧ i = .int .i64 k ∧ n = .int .i64 m ∧ numAt l k m = true) (fun _ i => l.length - (intOf i).toNat)
    case atStart => exact ⟨0, 0, by omega, rfl, rfl, num_zero l⟩
    case round =>
      obtain ⟨k, m, hk, rfl, rfl, ht⟩ := hrel
      by_cases hlt : k < l.length
      · obtain ⟨y, hy, hby⟩ := byte_at l k hlt
        have hm := num_lt l k m (by omega) ht
        have hy2 : y.toNat < 256 := y.toNat_lt
        by_cases hd : 48 ≤ y.toNat ∧ y.toNat ≤ 57
        · have F := Lib.hid (num_yes l k m y hlt hy ht (by simp [digB, hd]))
          have e1 : (m : Int) * 10 + (y.toNat : Int) - 48 = ((10 * m + digV y : Nat) : Int) := by unfold digV; omega
          have E1 := Lib.hid e1
          obtain ⟨hd1, hd2⟩ := hd
          clear ht hy e1
          go_wp2
          go_round
          case rel => exact ⟨k + 1, 10 * m + digV y, by omega, by go_num, by rw [← E1.out], F.out⟩
          case measure => simp [intOf]; omega
        · have F : Hid (numB (45 :: l) = false) := Lib.hid (by rw [HB.out]; exact digs_bad _ _ (num_no l k y hlt hy (by simp [digB]; omega)))
          clear ht hy
          go_wp2
          all_goals (go_ret2; exact ⟨ret_num (numV_no (45 :: l) F.out).symm F.out.symm, rfl⟩)
      · obtain rfl : k = l.length := by omega
        obtain ⟨ha, rfl⟩ := num_end l m ht
        have F : Hid (numB (45 :: l) = true) := Lib.hid (by rw [HB.out]; exact G.out ha)
        have hm := val_lt 18 l (by omega) ha
        clear ht ha
        go_wp2
        go_ret2
        exact ⟨ret_num (by rw [HV.out F.out]) F.out.symm, rfl⟩
theorem numS_any (l : List UInt8) (w : World) (hl : l.length ≤ 9223372036854775807) : Calls Tryz.prog 304 #[.string ⟨l.toArray⟩] w fun e w' => e = .returned (.tuple #[.int .i64 (numV l), .bool (numB l)]) ∧ w = w' := by
  cases hn : negB l with
  | false => exact numS_pos l w hl hn
  | true =>
    cases l with
    | nil => cases hn
    | cons c r =>
      obtain rfl : c = 45 := by simpa [negB] using hn
      exact numS_neg r w (by simp at hl; omega)
end Go.Proofs.YtmaknkbmilcanaaGreatDoor.Ul
namespace Go.Proofs.YtmaknkbmilcanaaGreatDoor.Ul
open Go.RowKit
/-! ### Lower case -/
theorem Tryz.infoB : (Tryz.prog.info? 5).map (fun i => (i.zero, i.size, i.bytes)) = some (some (.int .u8 0), 1, 1) := by kernel_rfl
abbrev u8s (l : List UInt8) : List Value := l.map fun x => Value.int .u8 x.toNat
theorem up_yes (x : UInt8) (h : 65 ≤ x.toNat ∧ x.toNat ≤ 90) : ((lowC x).toNat : Int) = x.toNat + 32 := by
  have : upB x = true := by simp [upB, h]
  simp [lowC, this, UInt8.toNat_add]; omega
theorem up_no (x : UInt8) (h : ¬ (65 ≤ x.toNat ∧ x.toNat ≤ 90)) : lowC x = x := by
  have : upB x = false := by simp [upB]; omega
  simp [lowC, this]
theorem low_take (l : List UInt8) (k : Nat) (x : UInt8) (h : k < l.length) (hx : l[k] = x) : lowL (l.take (k + 1)) = lowL (l.take k) ++ [lowC x] := by
  rw [take_one l k x h hx]; simp [lowL]
theorem conv_own (W : World) (B : Nat) (v : Value) (l : List UInt8) (h : W.ownsRow B 5 1 v l.length (u8s l)) : (convert 77 9 v).run Tryz.prog W = .ok (.string ⟨l.toArray⟩) W := by
  obtain ⟨hlen, h⟩ := h
  rcases h with ⟨rfl, h0⟩ | ⟨g, cap, cur, rfl, _, hg, hn, _, hs, ht⟩
  · obtain rfl : l = [] := List.eq_nil_of_length_eq_zero h0
    exact run_convert_bytes_nil (P := Tryz.prog) W 77 5 Tryz.underlying77 Tryz.underlying5 0 0 9 Tryz.underlying9
  · refine run_convert_bytes_back W 77 9 5 ⟨g, 0, none⟩ cap l Tryz.underlying77 Tryz.underlying5 Tryz.underlying9 (fun j hj => ?_)
    have e : (cur.toList.take (l.length * 1))[j]? = some (Value.int .u8 l[j].toNat) := by rw [ht]; simp [hj]
    rw [List.getElem?_take_of_lt (by omega)] at e
    have : (⟨g, 0, none⟩ : Addr).add j = ⟨g, j, none⟩ := by unfold Addr.add; split <;> simp_all
    rw [this]
    simp [World.cell?, hg]
    simpa using e
theorem low_rel {B k : Nat} {l : List UInt8} {w wr w1 : World} {v v' : Value} {o : Obj} {x : UInt8} (hk : k < l.length) (hx : l[k] = x) (hB : B ≤ wr.heap.size)
    (hown : wr.ownsRow B 5 1 v k (u8s (lowL (l.take k)))) (hnx : Below B w wr)
    (hown' : w1.ownsRow B 5 1 v' (k + 1) (u8s (lowL (l.take k)) ++ [.int .u8 (lowC x).toNat])) (hgrow : (wr.alloc o).grownBy w1 v.ownBlock) :
    w1.ownsRow B 5 1 v' (k + 1) (u8s (lowL (l.take (k + 1)))) ∧ Below B w w1 := by
  refine ⟨?_, (hnx.alloc hB o).grown hgrow (by simp; omega) (fun j hj => by have := (hown.lt j hj).1; omega)⟩
  rw [low_take l k x hk hx]
  simpa using hown'
theorem one_u8 (a : Int) : ∀ u ∈ [Value.int .u8 a], u.oneCell' = true := by
  intro u hu; simp at hu; subst hu; rfl
theorem up_cases (x : UInt8) (h : ¬ (65 ≤ x.toNat ∧ x.toNat ≤ 90)) : decide ((65 : Int) ≤ x.toNat) = false ∨ (decide ((65 : Int) ≤ x.toNat) = true ∧ decide ((x.toNat : Int) ≤ 90) = false) := by
  by_cases h1 : 65 ≤ x.toNat
  · exact .inr ⟨by simp; omega, by simp; omega⟩
  · exact .inl (by simp; omega)
set_option maxRecDepth 100000 in
set_option maxHeartbeats 1000000 in
theorem lowerS_any (l : List UInt8) (w : World) (hl : l.length ≤ 140737488351232) : Calls Tryz.prog 302 #[.string ⟨l.toArray⟩] w fun e w' => e = .returned (.string ⟨(lowL l).toArray⟩) ∧ Below w.heap.size w w' := by
  obtain ⟨i0, hi, hz0, hz1, hz2⟩ := info_parts Tryz.infoB
  go_enter Tryz.func302, Tryz.ntmps302
  go_wp2
  go_loopw [3, 4] (fun v i wr => ∃ k : Nat, k ≤ l.length ∧ i = .int .i64 k ∧ wr.ownsRow w.heap.size 5 1 v k (u8s (lowL (l.take k))) ∧ Below w.heap.size w wr) (fun _ i _ => l.length - (intOf i).toNat)
  case atStart => exact ⟨0, by omega, rfl, World.ownsRow_made w #[] 0 (Nat.le_refl _) (by unfold maxLen; omega) rfl, (Below.refl _ _).alloc (Nat.le_refl _) _⟩
  case round =>
    obtain ⟨k, hk, rfl, hown, hnx⟩ := hrel
    have hB := hnx.size
    by_cases hlt : k < l.length
    · obtain ⟨x, hx, hb⟩ := byte_at l k hlt
      by_cases hu : 65 ≤ x.toNat ∧ x.toNat ≤ 90
      · have REL := Lib.hid (fun (v v' : Value) (w1 : World) (o : Obj) (hown : wr.ownsRow w.heap.size 5 1 v k (u8s (lowL (l.take k)))) => low_rel (v := v) (v' := v') (w1 := w1) (o := o) hlt hx hB hown hnx)
        have E := Lib.hid (up_yes x hu)
        have HO := Lib.hid hown
        obtain ⟨hu1, hu2⟩ := hu
        clear hx hown
        go_wp2_with (at_builtin; refine wpList_append_own _ rfl _ _ 77 rfl w.heap.size 5 i0 (.int .u8 0) 1 1 Tryz.underlying77 hi hz0 hz1 hz2 rfl (by decide) _ _ _ rfl (HO.out.alloc _) ⟨wr.heap.size, 0, none⟩ 1 1 [.int .u8 ((x.toNat : Int) + 32)] rfl rfl ?c1 ?c2 ?c3 ?c4 ?c5 ?_)
        case c1 =>
          intro j u hj
          match j, hj with
          | 0, hj => simp at hj; subst hj; simp [Addr.add]
        case c2 => intro u hu; simp at hu; subst hu; rfl
        case c3 => unfold maxLen; omega
        case c4 => omega
        case c5 => simp; omega
        intro v' w1 hown' hgrow _
        rw [← E.out] at hown'
        have R := REL.out _ _ _ _ HO.out hown' hgrow
        clear hown' hgrow HO REL hnx
        go_wp2
        go_roundw
        case rel => exact ⟨k + 1, by omega, by go_num, R.1, R.2⟩
        case measure => simp [intOf]; omega
      · have REL := Lib.hid (fun (v v' : Value) (w1 : World) (o : Obj) (hown : wr.ownsRow w.heap.size 5 1 v k (u8s (lowL (l.take k)))) => low_rel (v := v) (v' := v') (w1 := w1) (o := o) hlt hx hB hown hnx)
        have E := Lib.hid (up_no x hu)
        have HO := Lib.hid hown
        have C3 : k + 1 ≤ maxLen := by unfold maxLen; omega
        have C4 : (k + 1) * 1 ≤ 140737488355328 := by omega
        clear hx hown
        rcases up_cases x hu with d1 | ⟨d1, d2⟩
        all_goals
          go_wp2_with (at_builtin; refine wpList_append_own _ rfl _ _ 77 rfl w.heap.size 5 i0 (.int .u8 0) 1 1 Tryz.underlying77 hi hz0 hz1 hz2 rfl (by decide) _ _ _ rfl (HO.out.alloc _) ⟨wr.heap.size, 0, none⟩ 1 1 [.int .u8 (x.toNat : Int)] rfl rfl (cell_one_new _ _ _) (one_u8 _) C3 C4 (by simp; omega) ?_; intro v' w1 hown' hgrow _; rw [← E.out] at hown'; have R := REL.out _ _ _ _ HO.out hown' hgrow; clear hown' hgrow HO REL hnx)
          go_roundw
          case rel => exact ⟨k + 1, by omega, by go_num, R.1, R.2⟩
          case measure => simp [intOf]; omega
    · obtain rfl : k = l.length := by omega
      have hcv := conv_own wr w.heap.size _ (lowL l) (by rw [low_len]; simpa using hown)
      go_wp2
      go_ret
      exact ⟨rfl, hnx⟩
end Go.Proofs.YtmaknkbmilcanaaGreatDoor.Ul
namespace Go.Proofs.YtmaknkbmilcanaaGreatDoor.Ul
open Go.RowKit
def parseX (t : List UInt8) : U := if splitB t then splitU t else U.none
@[local go_sem] theorem ext_bef (l : List UInt8) (c : Nat) : (⟨l.toArray⟩ : ByteArray).extract 0 (findB l c) = ⟨(befL l c).toArray⟩ := by
  apply ByteArray.ext; simp [befL, List.extract_toArray]
@[local go_sem] theorem ext_aft (l : List UInt8) (c : Nat) : (⟨l.toArray⟩ : ByteArray).extract (findB l c + 1) l.length = ⟨(aftL l c).toArray⟩ := by
  apply ByteArray.ext; simp [aftL, List.extract_toArray]; exact List.take_of_length_le (by simp)
theorem cells9 {w w1 : World} {v0 v1 v2 v3 v4 v5 v6 v7 v8 : Value} {T : TypeId} (hc : (∀ b o, b < (w.alloc (.cells #[v0, v1, v2, v3, v4, v5, v6, v7, v8] T)).heap.size → w1.cell? ⟨b, o, none⟩ = (w.alloc (.cells #[v0, v1, v2, v3, v4, v5, v6, v7, v8] T)).cell? ⟨b, o, none⟩) ∧ (∀ b o, b < (w.alloc (.cells #[v0, v1, v2, v3, v4, v5, v6, v7, v8] T)).heap.size → w1.frozen? ⟨b, o, none⟩ = (w.alloc (.cells #[v0, v1, v2, v3, v4, v5, v6, v7, v8] T)).frozen? ⟨b, o, none⟩)) :
    w1.cell? ⟨w.heap.size, 0, none⟩ = some v0 ∧ w1.cell? ⟨w.heap.size, 1, none⟩ = some v1 ∧ w1.cell? ⟨w.heap.size, 2, none⟩ = some v2 ∧ w1.cell? ⟨w.heap.size, 3, none⟩ = some v3 ∧ w1.cell? ⟨w.heap.size, 4, none⟩ = some v4 ∧ w1.cell? ⟨w.heap.size, 5, none⟩ = some v5 ∧ w1.cell? ⟨w.heap.size, 6, none⟩ = some v6 ∧ w1.cell? ⟨w.heap.size, 7, none⟩ = some v7 ∧ w1.cell? ⟨w.heap.size, 8, none⟩ = some v8 ∧ ∀ o, w1.frozen? ⟨w.heap.size, o, none⟩ = false := by
  have h := fun o => hc.1 w.heap.size o (by simp)
  refine ⟨?_, ?_, ?_, ?_, ?_, ?_, ?_, ?_, ?_, fun o => (hc.2 w.heap.size o (by simp)).trans (World.frozen?_alloc_at _ _ _ _ rfl)⟩ <;> (rw [h, World.cell?_alloc_at _ _ _ _ rfl]; rfl)
theorem has_no {l : List UInt8} {c : Nat} (h : hasB l c = false) : ((findB l c : Int) == (l.length : Int)) = true ∧ ¬ findB l c < l.length := by
  have := findB_le l c
  simp only [hasB, decide_eq_false_iff_not] at h
  exact ⟨beq_iff_eq.2 (by omega), h⟩
theorem has_yes {l : List UInt8} {c : Nat} (h : hasB l c = true) : ((findB l c : Int) == (l.length : Int)) = false ∧ findB l c < l.length := by
  simp only [hasB, decide_eq_true_eq] at h
  exact ⟨beq_eq_false_iff_ne.2 (by omega), h⟩
theorem parseS_none (t : List UInt8) (w : World) (hl : t.length ≤ 140737488351232) (h : hasB t 58 = false) : Calls Tryz.prog 237 #[.string ⟨t.toArray⟩] w fun e w' => e = .returned (.tuple #[uV U.none, .bool false]) ∧ Below w.heap.size w w' := by
  have hk := findB_le t 58
  obtain ⟨d0, d1⟩ := has_no h
  clear h
  go_enter Tryz.func237, Tryz.ntmps237
  go_wp2_with (go_at_call 301; refine (find_any _ _ _ (by omega)).mono ?_; rintro e w' ⟨rfl, rfl⟩)
  exact bodyPost_ret (v := .tuple #[uV U.none, .bool false]) (by simp [results, Tryz.results237, go_sem, U.none]) rfl ⟨rfl, (by repeat (first | exact Below.refl _ _ | refine bel_alloc ?_ | refine Below.drew ?_ | refine bel_step ?_ (by assumption)))⟩
set_option maxRecDepth 100000 in
set_option maxHeartbeats 4000000 in
theorem parseS_other (t : List UInt8) (w : World) (hl : t.length ≤ 140737488351232) (h : hasB t 58 = true) (hw : webB (lowL (befL t 58)) = false) : Calls Tryz.prog 237 #[.string ⟨t.toArray⟩] w fun e w' => e = .returned (.tuple #[uV (otherU (lowL (befL t 58)) (aftL t 58)), .bool (okB (otherU (lowL (befL t 58)) (aftL t 58)))]) ∧ Below w.heap.size w w' := by
  have hk := findB_le t 58
  obtain ⟨d0, d1⟩ := has_yes h
  have hl1 := bef_len t 58
  have hl2 := aft_len t 58
  have hl3 := low_len (befL t 58)
  have HLOW := Lib.hid (fun W => lowerS_any (befL t 58) W (by omega))
  have hsl : (lowL (befL t 58)).length ≤ 140737488351232 := by omega
  clear h hl3
  generalize lowL (befL t 58) = s at *
  generalize hrr : aftL t 58 = r at *
  have hf1 := findB_le r 35
  have hr1 := bef_len r 35
  have HO := Lib.hid (fun W => ok_any s [] [] (beforeQ r) [] [] 0 false false W (by omega) (by have := bef_len (befL r 35) 63; simp [beforeQ]; omega))
  have hf2 := findB_le (befL r 35) 63
  have EQ : Hid (beforeQ r = befL (befL r 35) 63) := Lib.hid rfl
  go_enter Tryz.func237, Tryz.ntmps237
  go_wp2_with (first
    | (go_at_call 301; refine (find_any _ _ _ (by omega)).mono ?_; rintro e w' ⟨rfl, rfl⟩)
    | (go_at_call 302; refine (HLOW.out _).mono ?_; rintro e w1 ⟨rfl, hb⟩; have hc := bcell hb; have hz : w.heap.size < w1.heap.size := (by have := hb.size; (try simp at this); omega))
    | (go_at_call 260; refine (web_any _ _).mono ?_; rintro e w' ⟨rfl, rfl⟩))
  clear HLOW
  rw [← EQ.out]
  obtain ⟨q0, q1, q2, q3, q4, q5, q6, q7, q8, qf⟩ := cells9 hc
  have hz' : w.heap.size < w1.heap.size + 1 := by omega
  have HB := Lib.hid hb
  clear hb hc
  go_region_with (first | (go_at_call 303; refine (HO.out _).mono ?_; rintro e w2 ⟨rfl, hb2⟩; have hc2 := fun o => hb2.cell (p := ⟨w.heap.size, o, none⟩) (by simp; omega); have hf2 := fun o => hb2.frozen (p := ⟨w.heap.size, o, none⟩) (by simp; omega); have hu2 := fun o => hb2.cell (p := ⟨w1.heap.size, o, none⟩) (by simp)) | fail)
  all_goals
    go_wp2
    refine bodyPost_ret (ret_url2 (u := otherU s r) (a := 2) (s := 3) (B := w.heap.size) Tryz.results237 rfl rfl ?_ ?_ ?_ ?_ ?_ ?_ ?_ ?_ ?_) rfl ⟨rfl, ?_⟩
    rotate_left 9
    · have hb := HB.out
      exact (by repeat (first | (with_reducible exact Below.refl _ _) | (with_reducible refine bel_set ?_ (Nat.le_refl _)) | (with_reducible refine bel_alloc ?_) | (with_reducible refine Below.drew ?_) | (with_reducible refine bel_step ?_ (by assumption))))
    all_goals (simp [go_sem, otherU, U.none, *]; done)
end Go.Proofs.YtmaknkbmilcanaaGreatDoor.Ul
namespace Go.Proofs.YtmaknkbmilcanaaGreatDoor.Ul
open Go.RowKit
attribute [local go_sem] ext_bef ext_aft ext_tail
@[local go_sem] theorem ext_two (a b : UInt8) (l : List UInt8) : (⟨(a :: b :: l).toArray⟩ : ByteArray).extract 0 2 = ⟨#[a, b]⟩ := by
  apply ByteArray.ext; simp
@[local go_sem] theorem ext_past2 (a b : UInt8) (l : List UInt8) : (⟨(a :: b :: l).toArray⟩ : ByteArray).extract 2 (l.length + 1 + 1) = ⟨l.toArray⟩ := by
  apply ByteArray.ext; simp
@[local go_sem] theorem ext_from (l : List UInt8) (c : Nat) : (⟨l.toArray⟩ : ByteArray).extract (findB l c) l.length = ⟨(l.drop (findB l c)).toArray⟩ := by
  apply ByteArray.ext; simp [List.extract_toArray]; exact List.take_of_length_le (by simp)
theorem drop_yes {l : List UInt8} {c : Nat} (hc : c < 256) (h : hasB l c = true) : l.drop (findB l c) = UInt8.ofNat c :: aftL l c := by
  induction l with
  | nil => simp [hasB, findB] at h
  | cons x l ih =>
    by_cases hx : x.toNat = c
    · have e : findB (x :: l) c = 0 := by simp [findB, hx]
      have : x = UInt8.ofNat c := by subst hx; simp
      simp only [aftL, e, List.drop_zero, Nat.zero_add, List.drop_succ_cons]
      rw [← this]
    · have e : findB (x :: l) c = findB l c + 1 := by simp [findB, hx]
      have h' : hasB l c = true := by simp [hasB, e] at h ⊢; omega
      have := ih h'
      simp only [aftL, e] at this ⊢
      simpa using this
theorem drop_no {l : List UInt8} {c : Nat} (h : hasB l c = false) : l.drop (findB l c) = [] := by
  have := findB_le l c
  simp only [hasB, decide_eq_false_iff_not] at h
  exact List.drop_eq_nil_of_le (by omega)
theorem empty_no {l : List UInt8} {c : Nat} (h : (l.drop (findB l c)).isEmpty = true) : hasB l c = false := by
  simp only [List.isEmpty_iff] at h
  have := congrArg List.length h
  simp at this
  simp [hasB]; omega
theorem empty_yes {l : List UInt8} {c : Nat} (h : (l.drop (findB l c)).isEmpty = false) : hasB l c = true := by
  cases hh : hasB l c with
  | true => rfl
  | false => rw [drop_no hh] at h; cases h
theorem site_len (r : List UInt8) : (siteOf r).length ≤ r.length := by
  have a := bef_len r 35
  have b := bef_len (befL r 35) 63
  have c := bef_len (beforeQ r) 47
  have d := aft_len (befL (beforeQ r) 47) 64
  unfold siteOf behindUser
  unfold beforeQ at *
  split <;> omega
theorem has_lt {l : List UInt8} {c : Nat} {b : Bool} (h : hasB l c = b) : decide (findB l c < l.length) = b := h
def wX (s r : List UInt8) : U := if webSplitB r then webU s r else U.none
def wB (s r : List UInt8) : Bool := webSplitB r && okB (webU s r)
theorem w_yes {s r : List UInt8} (h : webSplitB r = true) : wX s r = webU s r ∧ wB s r = okB (webU s r) := by simp [wX, wB, h]
theorem w_no {s r : List UInt8} (h : webSplitB r = false) : wX s r = U.none ∧ wB s r = false := by simp [wX, wB, h]
theorem okU_any (u : U) (w : World) (hp1 : u.prt ≤ 9223372036854775807) (hl : sizeU u ≤ 4611686018427387904) :
    Calls Tryz.prog 303 #[uV u] w fun e w' => e = .returned (.bool (okB u)) ∧ Below w.heap.size w w' :=
  ok_any u.sch u.usr u.hst u.pth u.qry u.frg u.prt u.hq u.hf w hp1 hl
theorem port_parts {t : List UInt8} (h : portOKB t = true) : numB t = true ∧ 1 ≤ numV t ∧ numV t ≤ 65535 := by
  simp only [portOKB, Bool.and_eq_true, decide_eq_true_eq] at h
  exact ⟨h.1.1, h.1.2, h.2⟩
theorem webU_port (s r : List UInt8) : (webU s r).prt ≤ 9223372036854775807 := by
  simp only [webU]
  split
  · unfold portV
    split
    · rename_i h
      have := port_parts h
      split <;> omega
    · omega
  · omega
theorem webU_size (s r : List UInt8) (hs : s.length ≤ 140737488351232) (hr : r.length ≤ 140737488351232) : sizeU (webU s r) ≤ 4611686018427387904 := by
  have a := bef_len r 35
  have a2 := aft_len r 35
  have b := bef_len (befL r 35) 63
  have b2 := aft_len (befL r 35) 63
  have c := bef_len (beforeQ r) 47
  have c2 := aft_len (beforeQ r) 47
  have d := site_len r
  have e := bef_len (siteOf r) 58
  have f := low_len (befL (siteOf r) 58)
  have g := bef_len (befL (beforeQ r) 47) 64
  have h : (userOf (befL (beforeQ r) 47)).length ≤ (befL (beforeQ r) 47).length := by unfold userOf; split; exact g; simp
  have i : (beforeQ r).length ≤ r.length := Nat.le_trans b a
  simp only [sizeU, webU, List.length_cons]
  omega
set_option maxRecDepth 100000 in
set_option maxHeartbeats 4000000 in
theorem parseS_web (t r : List UInt8) (w : World) (hl : t.length ≤ 140737488351232) (h : hasB t 58 = true) (hw : webB (lowL (befL t 58)) = true) (hrest : aftL t 58 = 47 :: 47 :: r) : Calls Tryz.prog 237 #[.string ⟨t.toArray⟩] w fun e w' => e = .returned (.tuple #[uV (wX (lowL (befL t 58)) r), .bool (wB (lowL (befL t 58)) r)]) ∧ Below w.heap.size w w' := by
  have hk := findB_le t 58
  obtain ⟨d0, d1⟩ := has_yes h
  have hl1 := bef_len t 58
  have hl2 : r.length + 2 ≤ t.length := by have := aft_len t 58; rw [hrest] at this; simpa using this
  have HLOW := Lib.hid (fun W => lowerS_any (befL t 58) W (by omega))
  have hl3 := low_len (befL t 58)
  have hsl : (lowL (befL t 58)).length ≤ 140737488351232 := by omega
  clear h hl3
  generalize lowL (befL t 58) = s at *
  have hf1 := findB_le r 35
  have hr1 := bef_len r 35
  have hf2 := findB_le (befL r 35) 63
  have hr2 := bef_len (befL r 35) 63
  go_enter Tryz.func237, Tryz.ntmps237
  go_upto_if 63 with (first
    | (go_at_call 301; refine (find_any _ _ _ (by first | omega | (simp; omega))).mono ?_; rintro e w' ⟨rfl, rfl⟩)
    | (go_at_call 302; refine (HLOW.out _).mono ?_; rintro e w1 ⟨rfl, hb⟩; have hc := bcell hb; have hz : w.heap.size < w1.heap.size := (by have := hb.size; (try simp at this); omega))
    | (go_at_call 260; refine (web_any _ _).mono ?_; rintro e w' ⟨rfl, rfl⟩))
  go_cut [6] (fun s6 wx => s6 = .string ⟨(befL r 35).toArray⟩ ∧ wx = w1.alloc (.cells #[.string ⟨s.toArray⟩, .string ⟨#[]⟩, .string ⟨#[]⟩, .int .i64 0, .string ⟨#[]⟩, .string ⟨#[]⟩, .string ⟨(aftL r 35).toArray⟩, .bool false, .bool (hasB r 35)] 264))
  case first =>
    cases hh : hasB r 35
    · have hd := has_lt hh
      obtain ⟨-, hlt⟩ := has_no hh
      have hbn := Lib.hid (bef_none r 35 hh)
      have han := Lib.hid (aft_none r 35 hh)
      have HH := Lib.hid hh
      clear hh
      go_wp2_with fail
      go_meet
      exact ⟨by rw [hbn.out], by rw [han.out, HH.out]⟩
    · have hd := has_lt hh
      obtain ⟨-, hlt⟩ := has_yes hh
      have HH := Lib.hid hh
      clear hh
      go_wp2_with fail
      go_meet
      exact ⟨rfl, by rw [HH.out]⟩
  case rest =>
    obtain ⟨rfl, rfl⟩ := hcut
    go_upto_if 78 with (go_at_call 301; refine (find_any _ _ _ (by omega)).mono ?_; rintro e w' ⟨rfl, rfl⟩)
    go_cut [6] (fun s6 wx => s6 = .string ⟨(beforeQ r).toArray⟩ ∧ wx = w1.alloc (.cells #[.string ⟨s.toArray⟩, .string ⟨#[]⟩, .string ⟨#[]⟩, .int .i64 0, .string ⟨#[]⟩, .string ⟨(aftL (befL r 35) 63).toArray⟩, .string ⟨(aftL r 35).toArray⟩, .bool (hasB (befL r 35) 63), .bool (hasB r 35)] 264))
    case first =>
      cases hh : hasB (befL r 35) 63
      · have hd := has_lt hh
        obtain ⟨-, hlt⟩ := has_no hh
        have hbn := Lib.hid (bef_none _ 63 hh)
        have han := Lib.hid (aft_none _ 63 hh)
        have HH := Lib.hid hh
        clear hh
        go_wp2_with fail
        go_meet
        exact ⟨by rw [beforeQ, hbn.out], by rw [han.out, HH.out]⟩
      · have hd := has_lt hh
        obtain ⟨-, hlt⟩ := has_yes hh
        have HH := Lib.hid hh
        clear hh
        go_wp2_with fail
        go_meet
        exact ⟨rfl, by rw [HH.out]⟩
    case rest =>
      obtain ⟨rfl, rfl⟩ := hcut
      have hf3 := findB_le (beforeQ r) 47
      have hr3 : (beforeQ r).length ≤ r.length := Nat.le_trans (bef_len _ 63) hr1
      have hr4 := bef_len (beforeQ r) 47
      have hf4 := findB_le (befL (beforeQ r) 47) 64
      have hf5 := findB_le (siteOf r) 58
      have hr5 : (siteOf r).length ≤ r.length := site_len r
      go_upto_if 96 with (go_at_call 301; refine (find_any _ _ _ (by omega)).mono ?_; rintro e w' ⟨rfl, rfl⟩)
      go_cut [] (fun wx => wx = w1.alloc (.cells #[.string ⟨s.toArray⟩, .string ⟨#[]⟩, .string ⟨#[]⟩, .int .i64 0, .string ⟨(47 :: aftL (beforeQ r) 47).toArray⟩, .string ⟨(aftL (befL r 35) 63).toArray⟩, .string ⟨(aftL r 35).toArray⟩, .bool (hasB (befL r 35) 63), .bool (hasB r 35)] 264))
      case first =>
        go_wp2_with fail
        · have hie : (List.drop (findB (beforeQ r) 47) (beforeQ r)).isEmpty = true := by assumption
          go_meet
          rw [aft_none _ 47 (empty_no hie)]
        · have hie : (List.drop (findB (beforeQ r) 47) (beforeQ r)).isEmpty = false := by assumption
          go_meet
          rw [drop_yes (by decide) (empty_yes hie)]; rfl
      case rest =>
        obtain rfl := hcut
        go_upto_if 106 with (go_at_call 301; refine (find_any _ _ _ (by omega)).mono ?_; rintro e w' ⟨rfl, rfl⟩)
        go_cut [6] (fun s6 wx => s6 = .string ⟨(siteOf r).toArray⟩ ∧ wx = w1.alloc (.cells #[.string ⟨s.toArray⟩, .string ⟨(userOf (befL (beforeQ r) 47)).toArray⟩, .string ⟨#[]⟩, .int .i64 0, .string ⟨(47 :: aftL (beforeQ r) 47).toArray⟩, .string ⟨(aftL (befL r 35) 63).toArray⟩, .string ⟨(aftL r 35).toArray⟩, .bool (hasB (befL r 35) 63), .bool (hasB r 35)] 264))
        case first =>
          cases hh : hasB (befL (beforeQ r) 47) 64
          · have hd := has_lt hh
            obtain ⟨-, hlt⟩ := has_no hh
            have HH := Lib.hid hh
            clear hh
            go_wp2_with fail
            go_meet
            exact ⟨by simp [siteOf, behindUser, HH.out], by simp [userOf, HH.out]⟩
          · have hd := has_lt hh
            obtain ⟨-, hlt⟩ := has_yes hh
            have HH := Lib.hid hh
            clear hh
            go_wp2_with fail
            go_meet
            exact ⟨by simp [siteOf, behindUser, HH.out], by simp [userOf, HH.out]⟩
        case rest =>
          obtain ⟨rfl, rfl⟩ := hcut
          have hr6 := bef_len (siteOf r) 58
          have HL2 := Lib.hid (fun W => lowerS_any (befL (siteOf r) 58) W (by omega))
          have hr7 := aft_len (siteOf r) 58
          have HN := Lib.hid (fun W => numS_any (aftL (siteOf r) 58) W (by omega))
          have hbw : Below w.heap.size w w1 := (by repeat (first | exact Below.refl _ _ | refine bel_alloc ?_ | refine Below.drew ?_ | refine bel_step ?_ (by assumption)))
          obtain ⟨q0, q1, q2, q3, q4, q5, q6, q7, q8, qf⟩ := cells9 hc
          have QU : UAt w1 w.heap.size U.none := ⟨q0, q1, q2, q3, q4, q5, q6, q7, q8, qf⟩
          clear q0 q1 q2 q3 q4 q5 q6 q7 q8 qf hb hc
          have HO := Lib.hid (fun W => okU_any (webU s r) W (webU_port s r) (webU_size s r hsl (by omega)))
          go_upto_if 125 with (first
            | (go_at_call 301; refine (find_any _ _ _ (by omega)).mono ?_; rintro e w' ⟨rfl, rfl⟩)
            | (go_at_call 302; refine (HL2.out _).mono ?_; rintro e w2 ⟨rfl, hb2⟩; have V := UAt.below (UAt.new w1 ⟨s, userOf (befL (beforeQ r) 47), [], 0, 47 :: aftL (beforeQ r) 47, aftL (befL r 35) 63, aftL r 35, hasB (befL r 35) 63, hasB r 35⟩) hb2 (by simp); have v0 := V.k0; have v2 := V.k2; have v3 := V.k3; have vf := V.kf))
          have V2 := V.host (lowL (befL (siteOf r) 58))
          have hz2 : w1.heap.size < w2.heap.size := by have := hb2.size; simp at this; omega
          have QU2 := ((QU.alloc _ hz).below hb2 (by simp; omega)).far ⟨w1.heap.size, 2, none⟩ (.string ⟨(lowL (befL (siteOf r) 58)).toArray⟩) (by show w1.heap.size ≠ w.heap.size; omega)
          have hbx : Below w.heap.size w (w2.setCell ⟨w1.heap.size, 2, none⟩ (.string ⟨(lowL (befL (siteOf r) 58)).toArray⟩)) := (bel_step (bel_alloc hbw) hb2).setCell (by show w.heap.size ≤ w1.heap.size; omega) _
          go_cut [] (fun wx => UAt wx w1.heap.size (webU s r) ∧ UAt wx w.heap.size U.none ∧ Below w.heap.size w wx ∧ w1.heap.size < wx.heap.size ∧ webSplitB r = true)
          case first =>
            cases hh : hasB (siteOf r) 58
            · have hd := has_lt hh
              obtain ⟨-, hlt⟩ := has_no hh
              have EW : Hid (webU s r = ⟨s, userOf (befL (beforeQ r) 47), lowL (befL (siteOf r) 58), 0, 47 :: aftL (beforeQ r) 47, aftL (befL r 35) 63, aftL r 35, hasB (befL r 35) 63, hasB r 35⟩) := Lib.hid (by simp [webU, hh])
              have HSP : Hid (webSplitB r = true) := Lib.hid (by simp [webSplitB, hh])
              clear hh
              go_wp2_with fail
              go_meet
              exact ⟨by rw [EW.out]; exact V2, QU2, hbx, by simpa using hz2, HSP.out⟩
            · have hd := has_lt hh
              obtain ⟨-, hlt⟩ := has_yes hh
              cases hp : portOKB (aftL (siteOf r) 58)
              · have HW := Lib.hid (w_no (s := s) (r := r) (by simp [webSplitB, hh, hp]))
                clear hh
                obtain ⟨q0, q1, q2, q3, q4, q5, q6, q7, q8, qf⟩ := ((QU.alloc _ hz).below hb2 (by simp; omega))
                have hzb : w.heap.size ≠ w1.heap.size := by omega
                have hzc : w1.heap.size ≠ w.heap.size := by omega
                cases hnb : numB (aftL (siteOf r) 58)
                · rw [hnb] at HN
                  clear hp hnb
                  go_wp2_with (go_at_call 304; refine (HN.out _).mono ?_; rintro e w' ⟨rfl, rfl⟩)
                  refine bodyPost_ret (ret_url2 (u := U.none) (a := 2) (s := 3) (B := w.heap.size) (c := .bool false) Tryz.results237 rfl rfl ?_ ?_ ?_ ?_ ?_ ?_ ?_ ?_ ?_) rfl ⟨by rw [HW.out.1, HW.out.2], ?_⟩
                  rotate_left 9
                  · exact (by repeat (first | (with_reducible exact Below.refl _ _) | (with_reducible refine bel_set ?_ (Nat.le_refl _)) | (with_reducible refine bel_alloc ?_) | (with_reducible refine Below.drew ?_) | (with_reducible refine bel_step ?_ (by assumption))))
                  all_goals (simp [go_sem, U.none, *]; done)
                · rw [hnb] at HN
                  have hnr : ¬ (1 ≤ numV (aftL (siteOf r) 58) ∧ numV (aftL (siteOf r) 58) ≤ 65535) := by
                    intro ⟨h1, h2⟩
                    simp [portOKB, hnb, h1, h2] at hp
                  have HI := Lib.hid (fun W => in_no (numV (aftL (siteOf r) 58)) 1 65535 W hnr)
                  clear hp hnb hnr
                  generalize numV (aftL (siteOf r) 58) = n at *
                  go_wp2_with (first
                    | (go_at_call 304; refine (HN.out _).mono ?_; rintro e w' ⟨rfl, rfl⟩)
                    | (go_at_call 78; refine (HI.out _).mono ?_; rintro e w' ⟨rfl, rfl⟩))
                  refine bodyPost_ret (ret_url2 (u := U.none) (a := 2) (s := 3) (B := w.heap.size) (c := .bool false) Tryz.results237 rfl rfl ?_ ?_ ?_ ?_ ?_ ?_ ?_ ?_ ?_) rfl ⟨by rw [HW.out.1, HW.out.2], ?_⟩
                  rotate_left 9
                  · exact (by repeat (first | (with_reducible exact Below.refl _ _) | (with_reducible refine bel_set ?_ (Nat.le_refl _)) | (with_reducible refine bel_alloc ?_) | (with_reducible refine Below.drew ?_) | (with_reducible refine bel_step ?_ (by assumption))))
                  all_goals (simp [go_sem, U.none, *]; done)
              · have HSP : Hid (webSplitB r = true) := Lib.hid (by simp [webSplitB, hh, hp])
                have EW : Hid (webU s r = ⟨s, userOf (befL (beforeQ r) 47), lowL (befL (siteOf r) 58), (if numV (aftL (siteOf r) 58) = usual s then 0 else numV (aftL (siteOf r) 58)), 47 :: aftL (beforeQ r) 47, aftL (befL r 35) 63, aftL r 35, hasB (befL r 35) 63, hasB r 35⟩) := Lib.hid (by simp [webU, hh, portV, hp])
                obtain ⟨hp1, hp2, hp3⟩ := port_parts hp
                clear hh hp
                rw [hp1] at HN
                generalize numV (aftL (siteOf r) 58) = n at *
                have HU := Lib.hid (fun W => usual_any s W)
                generalize usual s = us at *
                have HI := Lib.hid (fun W => in_yes n 1 65535 W ⟨hp2, hp3⟩)
                by_cases hn : n = us
                · have hn1 : (n != us) = false := by simp [hn]
                  have EN : Hid (n = us) := Lib.hid hn
                  clear hn
                  go_wp2_with (first
                    | (go_at_call 304; refine (HN.out _).mono ?_; rintro e w' ⟨rfl, rfl⟩)
                    | (go_at_call 78; refine (HI.out _).mono ?_; rintro e w' ⟨rfl, rfl⟩)
                    | (go_at_call 305; refine (HU.out _).mono ?_; rintro e w' ⟨rfl, rfl⟩))
                  go_meet
                  exact ⟨by rw [EW.out, if_pos EN.out]; exact V2, QU2, hbx, by simpa using hz2, HSP.out⟩
                · have hn1 : (n != us) = true := by simp [hn]
                  have EN : Hid (¬ n = us) := Lib.hid hn
                  clear hn
                  go_wp2_with (first
                    | (go_at_call 304; refine (HN.out _).mono ?_; rintro e w' ⟨rfl, rfl⟩)
                    | (go_at_call 78; refine (HI.out _).mono ?_; rintro e w' ⟨rfl, rfl⟩)
                    | (go_at_call 305; refine (HU.out _).mono ?_; rintro e w' ⟨rfl, rfl⟩))
                  go_meet
                  exact ⟨by rw [EW.out, if_neg EN.out]; exact V2.port n, QU2.far _ _ (by show w1.heap.size ≠ w.heap.size; omega), hbx.setCell (by show w.heap.size ≤ w1.heap.size; omega) _, by simpa using hz2, HSP.out⟩
          case rest =>
            obtain ⟨VU, VQ, hbx, hsz, hsp⟩ := hcut
            have HW := Lib.hid (w_yes (s := s) hsp)
            clear hsp
            generalize webU s r = u at *
            obtain ⟨x0, x1, x2, x3, x4, x5, x6, x7, x8, xf⟩ := VU
            obtain ⟨q0, q1, q2, q3, q4, q5, q6, q7, q8, qf⟩ := VQ
            have hsz2 : w.heap.size < wc.heap.size := by omega
            clear V V2 v0 v2 v3 vf QU QU2 hb2 HL2 HN HLOW
            go_wp2_with fail
            go_region_with (first | (go_at_call 303; refine (HO.out _).mono ?_; rintro e w3 ⟨rfl, hb3⟩; have hc3 := fun o => hb3.cell (p := ⟨w.heap.size, o, none⟩) (by simp; omega); have hf3 := fun o => hb3.frozen (p := ⟨w.heap.size, o, none⟩) (by simp; omega); have hu3 := fun o => hb3.cell (p := ⟨w1.heap.size, o, none⟩) (by simp; omega)) | fail)
            all_goals
              go_wp2
              refine bodyPost_ret (ret_url2 (u := u) (a := 2) (s := 3) (B := w.heap.size) (c := .bool (okB u)) Tryz.results237 rfl rfl ?_ ?_ ?_ ?_ ?_ ?_ ?_ ?_ ?_) rfl ⟨by rw [HW.out.1, HW.out.2], ?_⟩
              rotate_left 9
              · exact (by repeat (first | (with_reducible exact Below.refl _ _) | (with_reducible refine bel_set ?_ (Nat.le_refl _)) | (with_reducible refine bel_alloc ?_) | (with_reducible refine Below.drew ?_) | (with_reducible refine bel_step ?_ (by assumption))))
              all_goals (simp [go_sem, *]; done)
end Go.Proofs.YtmaknkbmilcanaaGreatDoor.Ul
namespace Go.Proofs.YtmaknkbmilcanaaGreatDoor.Ul
open Go.RowKit
attribute [local go_sem] ext_bef ext_aft ext_tail ext_two ext_past2
set_option maxRecDepth 100000 in
set_option maxHeartbeats 2000000 in
theorem parseS_short (t r : List UInt8) (w : World) (hl : t.length ≤ 140737488351232) (h : hasB t 58 = true) (hw : webB (lowL (befL t 58)) = true) (hrest : aftL t 58 = r) (hs : r.length < 2) : Calls Tryz.prog 237 #[.string ⟨t.toArray⟩] w fun e w' => e = .returned (.tuple #[uV U.none, .bool false]) ∧ Below w.heap.size w w' := by
  have hk := findB_le t 58
  obtain ⟨d0, d1⟩ := has_yes h
  have hl1 := bef_len t 58
  have HLOW := Lib.hid (fun W => lowerS_any (befL t 58) W (by omega))
  clear h
  generalize lowL (befL t 58) = s at *
  go_enter Tryz.func237, Tryz.ntmps237
  go_wp2_with (first
    | (go_at_call 301; refine (find_any _ _ _ (by omega)).mono ?_; rintro e w' ⟨rfl, rfl⟩)
    | (go_at_call 302; refine (HLOW.out _).mono ?_; rintro e w1 ⟨rfl, hb⟩; obtain ⟨q0, q1, q2, q3, q4, q5, q6, q7, q8, qf⟩ := cells9 (bcell hb); have hz : w.heap.size < w1.heap.size := (by have := hb.size; (try simp at this); omega))
    | (go_at_call 260; refine (web_any _ _).mono ?_; rintro e w' ⟨rfl, rfl⟩))
  refine bodyPost_ret (ret_url2 (u := U.none) (a := 2) (s := 3) (B := w.heap.size) (c := .bool false) Tryz.results237 rfl rfl ?_ ?_ ?_ ?_ ?_ ?_ ?_ ?_ ?_) rfl ⟨rfl, ?_⟩
  rotate_left 9
  · exact (by repeat (first | (with_reducible exact Below.refl _ _) | (with_reducible refine bel_set ?_ (Nat.le_refl _)) | (with_reducible refine bel_alloc ?_) | (with_reducible refine Below.drew ?_) | (with_reducible refine bel_step ?_ (by assumption))))
  all_goals (simp [go_sem, U.none, *]; done)
set_option maxRecDepth 100000 in
set_option maxHeartbeats 2000000 in
theorem parseS_other2 (t r : List UInt8) (a b : UInt8) (w : World) (hl : t.length ≤ 140737488351232) (h : hasB t 58 = true) (hw : webB (lowL (befL t 58)) = true) (hrest : aftL t 58 = a :: b :: r) (hs : (a == 47 && b == 47) = false) : Calls Tryz.prog 237 #[.string ⟨t.toArray⟩] w fun e w' => e = .returned (.tuple #[uV U.none, .bool false]) ∧ Below w.heap.size w w' := by
  have hk := findB_le t 58
  obtain ⟨d0, d1⟩ := has_yes h
  have hl1 := bef_len t 58
  have HLOW := Lib.hid (fun W => lowerS_any (befL t 58) W (by omega))
  clear h
  generalize lowL (befL t 58) = s at *
  have hl2 : r.length + 2 ≤ t.length := by have := aft_len t 58; rw [hrest] at this; simpa using this
  have hab : (a == 47) = false ∨ ((a == 47) = true ∧ (b == 47) = false) := by
    cases ha : (a == 47) with
    | false => exact .inl rfl
    | true => rw [ha] at hs; exact .inr ⟨rfl, by simpa using hs⟩
  clear hs
  rcases hab with ha | ⟨ha, hb2⟩
  all_goals
    go_enter Tryz.func237, Tryz.ntmps237
    go_wp2_with (first
      | (go_at_call 301; refine (find_any _ _ _ (by omega)).mono ?_; rintro e w' ⟨rfl, rfl⟩)
      | (go_at_call 302; refine (HLOW.out _).mono ?_; rintro e w1 ⟨rfl, hb⟩; obtain ⟨q0, q1, q2, q3, q4, q5, q6, q7, q8, qf⟩ := cells9 (bcell hb); have hz : w.heap.size < w1.heap.size := (by have := hb.size; (try simp at this); omega))
      | (go_at_call 260; refine (web_any _ _).mono ?_; rintro e w' ⟨rfl, rfl⟩))
    refine bodyPost_ret (ret_url2 (u := U.none) (a := 2) (s := 3) (B := w.heap.size) (c := .bool false) Tryz.results237 rfl rfl ?_ ?_ ?_ ?_ ?_ ?_ ?_ ?_ ?_) rfl ⟨rfl, ?_⟩
    rotate_left 9
    · exact (by repeat (first | (with_reducible exact Below.refl _ _) | (with_reducible refine bel_set ?_ (Nat.le_refl _)) | (with_reducible refine bel_alloc ?_) | (with_reducible refine Below.drew ?_) | (with_reducible refine bel_step ?_ (by assumption))))
    all_goals (simp [go_sem, U.none, *]; done)
theorem parseS_any (t : List UInt8) (w : World) (hl : t.length ≤ 140737488351232) : Calls Tryz.prog 237 #[.string ⟨t.toArray⟩] w fun e w' => e = .returned (.tuple #[uV (parseX t), .bool (parseB t)]) ∧ Below w.heap.size w w' := by
  unfold parseX parseB
  cases h : hasB t 58 with
  | false =>
    have e : splitB t = false := by simp [splitB, h]
    rw [e]
    exact parseS_none t w hl h
  | true =>
    cases hw : webB (lowL (befL t 58)) with
    | false =>
      have e : splitB t = true := by simp [splitB, h, hw]
      have e2 : splitU t = otherU (lowL (befL t 58)) (aftL t 58) := by simp [splitU, hw]
      rw [e, e2]
      exact parseS_other t w hl h hw
    | true =>
      have e2 : splitU t = webU (lowL (befL t 58)) ((aftL t 58).drop 2) := by simp [splitU, hw]
      have e3 : splitB t = (slash2 (aftL t 58) && webSplitB ((aftL t 58).drop 2)) := by simp [splitB, h, hw]
      rw [e2, e3]
      match hr : aftL t 58 with
      | [] => exact parseS_short t [] w hl h hw hr (by simp)
      | [a] => exact parseS_short t [a] w hl h hw hr (by simp)
      | a :: b :: r =>
        cases hab : (a == 47 && b == 47) with
        | false =>
          have e : slash2 (a :: b :: r) = false := hab
          rw [e]
          exact parseS_other2 t r a b w hl h hw hr hab
        | true =>
          have e : slash2 (a :: b :: r) = true := hab
          rw [e]
          simp only [Bool.and_eq_true, beq_iff_eq] at hab
          obtain ⟨rfl, rfl⟩ := hab
          have := parseS_web t r w hl h hw hr
          simpa [wX, wB] using this
end Go.Proofs.YtmaknkbmilcanaaGreatDoor.Ul
