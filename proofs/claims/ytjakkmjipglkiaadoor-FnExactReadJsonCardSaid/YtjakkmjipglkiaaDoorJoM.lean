
/-
  The laws' marks on a JSON value, written over a value that owns its lists, and looked at again.
-/
import Derived.Test.YtjakkmjipglkiaaDoorJoA
import Derived.Test.YtjakkmjipglkiaaDoorUrlSpecA
import Derived.Test.YtjakkmjipglkiaaDoorExt
import Derived.Test.YtjakkmjipglkiaaDoorJsEq
import Derived.BigQuiet
import Derived.Deep.RegionLaw
namespace Go.Proofs.YtjakkmjipglkiaaDoor.Js
open Go.RowKit
open Go.Proofs.YtjakkmjipglkiaaDoor.Ul (conv_one)
open Go.Proofs.YtjakkmjipglkiaaDoor.Ext (up up_below up_mk wp_region_ext call_ext call_ext_same call_ext_drewN)
@[local go_sem] theorem up_cellJ (w : World) (y : Ext.Ext w) (b o : Nat) (h : b < w.heap.size) : (up w y).cell? ⟨b, o, none⟩ = w.cell? ⟨b, o, none⟩ := Ext.up_cell w y b o h
theorem ret_iO {a b : Int} (h : a = b) : Ending.returned (.int .i64 a) = .returned (.int .i64 b) := by rw [h]
@[local go_sem] theorem bappM (a b : List UInt8) : (⟨a.toArray⟩ : ByteArray) ++ ⟨b.toArray⟩ = ⟨(a ++ b).toArray⟩ := by
  apply ByteArray.ext; simp
theorem ret_strM {a b : List UInt8} (h : a = b) : Ending.returned (.string ⟨a.toArray⟩) = .returned (.string ⟨b.toArray⟩) := by rw [h]
def dg (n : Nat) : List UInt8 := if n = 0 then [] else Lib.decDigits n
theorem dg_step (n : Nat) (h : 0 < n) : dg n = dg (n / 10) ++ [UInt8.ofNat (48 + n % 10)] := by
  unfold dg
  rw [if_neg (by omega)]
  by_cases h9 : n < 10
  · rw [Lib.decDigits_one h9, if_pos (by omega)]
    have : n % 10 = n := by omega
    rw [this]; rfl
  · rw [Lib.decDigits, dif_neg h9, if_neg (by omega)]
theorem dg_len (n : Nat) (h : n ≤ 9223372036854775807) : (dg n).length ≤ 20 := by
  unfold dg
  split
  · simp
  · have := Ul.digs_len 18 n (by omega); omega
def mkT (n : Nat) : List UInt8 := 109 :: dg n
set_option maxRecDepth 100000 in
set_option maxHeartbeats 1000000 in
theorem markText_any (n : Nat) (h0 : 0 < n) (hn : n ≤ 4611686018427387904) (w : World) : Calls Tryd.prog 29 #[.int .i64 (n : Int)] w fun e w' => e = .returned (.string ⟨(mkT n).toArray⟩) ∧ Below w.heap.size w w' := by
  have d1 : decide ((n : Int) ≤ 0) = false := by simp; omega
  have hcv := conv_one
  go_enter Tryd.func29, Tryd.ntmps29
  go_wp2
  go_loopw [0, 3] (fun kv ov wr => ∃ (m : Nat) (o : List UInt8), m ≤ n ∧ kv = .int .i64 (m : Int) ∧ ov = .string ⟨o.toArray⟩ ∧ dg n = dg m ++ o ∧ Below w.heap.size w wr) (fun kv _ _ => (intOf kv).toNat)
  case atStart => exact ⟨n, [], by omega, rfl, rfl, by simp, Below.refl _ _⟩
  case round =>
    obtain ⟨m, o, hm, rfl, rfl, hE, hR⟩ := hrel
    have HE := Lib.hid hE
    have HR := Lib.hid hR
    have hlo : o.length ≤ 20 := by have h1 := dg_len n (by omega); rw [hE, List.length_append] at h1; omega
    clear hE hR
    by_cases hp : 0 < m
    · have DS := Lib.hid (dg_step m hp)
      have d2 : decide ((0 : Int) < (m : Int)) = true := by simp; omega
      have w1 : IntKind.i64.wrap ((m : Int) / 10) = ((m / 10 : Nat) : Int) := IntWalk.i64_in _ (by omega)
      have HA := Lib.hid (belI_alloc (o := .cells #[.int .u8 (48 + (m : Int) % 10)] 5) HR.out)
      have b1 : ¬ 9223372036854775807 < o.length + 1 := by omega
      go_wp2
      go_roundw
      case rel => exact ⟨m / 10, UInt8.ofNat (48 + m % 10) :: o, by omega, by go_num, by rw [show UInt8.ofNat (48 + m % 10) = 48 + UInt8.ofNat (m % 10) by rw [UInt8.ofNat_add]; rfl], by rw [HE.out, DS.out]; simp, HA.out⟩
      case measure => simp [intOf]; omega
    · obtain rfl : m = 0 := by omega
      have EO := Lib.hid (show dg n = o by rw [HE.out]; rfl)
      have b1 : ¬ 9223372036854775807 < o.length + 1 := by omega
      have b2 : ¬ 9223372036854775807 < 1 + o.length := by omega
      go_wp2
      go_ret
      exact ⟨ret_strM (by rw [mkT, EO.out]), HR.out⟩
/-- the marks from k on -/
def mks : Nat → Nat → List (List UInt8)
  | 0, _ => []
  | n + 1, k => mkT k :: mks n (k + 1)
theorem mks_len : ∀ n k, (mks n k).length = n
  | 0, _ => rfl
  | n + 1, k => by simp [mks, mks_len n (k + 1)]
theorem mks_get : ∀ n k i, i < n → (mks n k).getD i [] = mkT (k + i)
  | 0, _, i, h => by omega
  | n + 1, k, 0, _ => by simp [mks]
  | n + 1, k, i + 1, h => by
    have := mks_get n (k + 1) i (by omega)
    simp only [mks, List.getD_cons_succ, this]
    congr 1; omega
theorem mkT_len (k : Nat) (h : k ≤ 4611686018427387904) : (mkT k).length ≤ 21 := by
  have := dg_len k (by omega)
  simp only [mkT, List.length_cons]; omega
theorem mks_mem (n k : Nat) (h : k + n ≤ 4611686018427387904) : ∀ t ∈ mks n k, t.length ≤ 21 := by
  induction n generalizing k with
  | zero => intro t ht; simp [mks] at ht
  | succ n ih =>
    intro t ht
    simp only [mks, List.mem_cons] at ht
    rcases ht with rfl | ht
    · exact mkT_len k (by omega)
    · exact ih (k + 1) (by omega) t ht
theorem mks_cell (n k j : Nat) (h : j < n) : (strV (mks n k))[j]? = some (.string ⟨(mkT (k + j)).toArray⟩) := by
  have h1 := mks_get n k j h
  have h2 : j < (mks n k).length := by rw [mks_len]; exact h
  rw [← h1]; simp [strV, h2]
def mixS (F : Nat → Value) (k i j : Nat) : Value := if j < i then .string ⟨(mkT (k + j)).toArray⟩ else F j
set_option maxRecDepth 100000 in
set_option maxHeartbeats 2000000 in
theorem markO_any (base : Nat) (v : Value) (ns : List (List UInt8)) (k : Nat) (w : World) (h : O1 w base v ns) (hk : 0 < k) (hk2 : k + ns.length ≤ 4611686018427387904) :
    Calls Tryd.prog 15 #[v, .int .i64 (k : Int)] w fun e w' => e = .returned (.int .i64 ((k + ns.length : Nat) : Int)) ∧ O1 w' base v (mks ns.length k) ∧ w.grownBy w' v.ownBlock := by
  obtain ⟨hlen, h⟩ := h
  rcases h with ⟨rfl, h0⟩ | ⟨g, cap, cur, rfl, hbg, hg, hnc, hcm, hs, ht⟩
  · obtain rfl : ns = [] := List.eq_nil_of_length_eq_zero h0
    go_enter Tryd.func15, Tryd.ntmps15
    go_wp2
    go_loopw [1, 5] (fun kv iv wr => iv = .int .i64 0 ∧ kv = .int .i64 (k : Int) ∧ wr = w) (fun _ _ _ => 0)
    case atStart => exact ⟨rfl, rfl, rfl⟩
    case round =>
      obtain ⟨rfl, rfl, rfl⟩ := hrel
      go_wp2
      go_ret
      exact ⟨rfl, ⟨rfl, .inl ⟨rfl, rfl⟩⟩, ⟨rfl, rfl, rfl, Nat.le_refl _, fun _ _ _ => rfl⟩⟩
  · have hlt : g < w.heap.size := (Array.getElem?_eq_some_iff.1 hg).1
    obtain ⟨F, hrow⟩ : ∃ F : Nat → Value, w.rowIs g 9 (cap * 1) F := ⟨fun i => cur[i]?.getD undef, cur, hg, hs, fun i hi => by
      have : i < cur.size := by omega
      simp [this]⟩
    have HROW := Lib.hid hrow
    clear ht hs hg hrow hlen
    generalize ns.length = n at *
    go_enter Tryd.func15, Tryd.ntmps15
    go_wp2
    go_loopw [1, 5] (fun kv iv wr => ∃ i : Nat, i ≤ n ∧ iv = .int .i64 i ∧ kv = .int .i64 ((k + i : Nat) : Int) ∧ wr.rowIs g 9 (cap * 1) (mixS F k i) ∧ w.grownBy wr (some g)) (fun _ iv _ => n - (intOf iv).toNat)
    case atStart => exact ⟨0, by omega, rfl, rfl, HROW.out.congr (fun j _ => by simp [mixS]), ⟨rfl, rfl, rfl, Nat.le_refl _, fun _ _ _ => rfl⟩⟩
    case round =>
      obtain ⟨i, hi, rfl, rfl, hr, hG⟩ := hrel
      have HR := Lib.hid hr
      have HG := Lib.hid hG
      clear hr hG
      by_cases hlt2 : i < n
      · have HT := Lib.hid (markText_any (k + i) (by omega) (by omega) wr)
        obtain ⟨tx, htx⟩ : ∃ t, mkT (k + i) = t := ⟨_, rfl⟩
        have HTX := Lib.hid htx
        rw [htx] at HT
        clear htx
        go_wp2_with fail
        refine HT.out.mono ?_
        rintro e w1 ⟨rfl, hb1⟩
        have hr1 := HR.out.of_block (hb1.block _ HR.out.lt)
        have q0 := hr1.cell (i := i) (by omega)
        have qf := hr1.frozen i
        have hr2 := hr1.set i (.string ⟨tx.toArray⟩)
        have HR2 := Lib.hid (hr2.congr (g := mixS F k (i + 1)) (fun j _ => by
          unfold mixS
          by_cases e0 : j = i
          · subst e0; rw [if_pos rfl, if_pos (by omega), ← HTX.out]
          · rw [if_neg e0]
            by_cases hj : j < i
            · rw [if_pos hj, if_pos (by omega)]
            · rw [if_neg hj, if_neg (by omega)]))
        have HG2 := Lib.hid (show w.grownBy (w1.setCell ⟨g, i, none⟩ (.string ⟨tx.toArray⟩)) (some g) from
          ⟨hb1.os.trans HG.out.os, hb1.tape.trans HG.out.tape, hb1.output.trans HG.out.output, by have := HG.out.size; have := hb1.size; simp; omega, fun b hb hne => by
            have hne2 : b ≠ g := fun e => hne (by rw [e])
            exact (heap_setCell_other _ ⟨g, i, none⟩ b _ hne2).trans ((hb1.block b (Nat.lt_of_lt_of_le hb HG.out.size)).trans (HG.out.block b hb hne))⟩)
        clear hb1 hr1 hr2
        generalize mixS F k i = F2 at *
        go_wp2
        go_roundw
        case rel => exact ⟨i + 1, by omega, by go_num, by go_num, HR2.out, HG2.out⟩
        case measure => simp [intOf]; omega
      · obtain rfl : i = n := by omega
        go_wp2
        go_ret
        refine ⟨rfl, ⟨by simp [strV], .inr ?_⟩, HG.out⟩
        obtain ⟨C, hC, hCs, hCf⟩ := HR.out
        refine ⟨g, cap, C, by rw [mks_len], hbg, hC, by rw [mks_len]; exact hnc, hcm, hCs, ?_⟩
        rw [mks_len]
        apply List.ext_getElem?
        intro j
        by_cases hj : j < i
        · rw [List.getElem?_take_of_lt (by omega), mks_cell i k j hj]
          have h1 : C.toList[j]? = some (mixS F k i j) := by have := hCf j (by omega); simpa using this
          rw [h1]
          unfold mixS
          rw [if_pos hj]
        · rw [List.getElem?_eq_none (by simp; omega), List.getElem?_eq_none (by simp [strV, mks_len]; omega)]
set_option maxRecDepth 100000 in
set_option maxHeartbeats 2000000 in
theorem heldS_any (S : Nat → Prop) (v : Value) (n k : Nat) (w : World) (h : TxtsIn S w v (mks n k)) (hS : ∀ b, S b → b < w.heap.size) (hk : 0 < k) (hk2 : k + n ≤ 4611686018427387904) :
    Calls Tryd.prog 17 #[v, .int .i64 (k : Int)] w fun e w' => e = .returned (.int .i64 ((k + n : Nat) : Int)) ∧ Below w.heap.size w w' := by
  obtain ⟨a, cap, b, off, rfl, hcap, hm, -, ha, hc⟩ := h
  have HC := Lib.hid hc
  have HA := Lib.hid ha
  rw [mks_len] at hcap ⊢
  clear hc ha
  go_enter Tryd.func17, Tryd.ntmps17
  go_wp2
  go_loopw [1, 5] (fun kv iv wr => ∃ i q : Nat, i ≤ n ∧ iv = .int .i64 i ∧ kv = .int .i64 (q : Int) ∧ q = k + i ∧ Below w.heap.size w wr) (fun _ iv _ => n - (intOf iv).toNat)
  case atStart => exact ⟨0, k, by omega, rfl, rfl, by omega, Below.refl _ _⟩
  case round =>
    obtain ⟨i, q, hi, rfl, rfl, hq, hR⟩ := hrel
    have HQE := Lib.hid hq
    have HR := Lib.hid hR
    by_cases hlt : i < n
    · obtain ⟨ea, hlb⟩ := HA.out (by rw [mks_len]; omega)
      subst ea
      have c0 := HC.out i (by rw [mks_len]; exact hlt)
      rw [mks_get n k i hlt, ← hq] at c0
      have hbw := hS b hlb
      have hd : b < wr.heap.size := Nat.lt_of_lt_of_le hbw hR.size
      have q0 := (hR.cell (p := ⟨b, off + i, none⟩) hbw).trans c0
      have HT := Lib.hid (fun W => markText_any q (by omega) (by omega) W)
      generalize mkT q = tx at *
      have hqb : q ≤ 4611686018427387904 := by omega
      clear hq
      have e1 : (tx == tx) = true := by simp
      have e2 : (tx != tx) = false := by simp
      clear c0 hR
      go_wp2_with fail
      refine wp_region_ext (by kernel_rfl) (by kernel_rfl) ?_
      repeat (go_big_quiet_step ((go_at_call 29; refine call_ext (v := .string ⟨tx.toArray⟩) ?_; with_reducible exact HT.out _)))
      refine wpQuiet_nil ?_
      intro _ hw'
      obtain ⟨y8, rfl⟩ := hw'
      have hv8 := up_below _ y8
      generalize up _ y8 = v8 at *
      have D8 := Lib.hid (belI_step HR.out hv8)
      clear hv8 q0
      go_wp2
      go_roundw
      case rel => exact ⟨i + 1, q + 1, by omega, by go_num, by go_num, by have := HQE.out; omega, D8.out⟩
      case measure => simp [intOf]; omega
    · obtain rfl : i = n := by omega
      go_wp2
      go_ret
      exact ⟨ret_iO (by have := HQE.out; omega), hR⟩
/-! ### Values -/
mutual
def cntJ : J → Nat
  | .mk _ _ _ ns xs => ns.length + cntL xs
def cntL : List J → Nat
  | [] => 0
  | x :: xs => 3 + cntJ x + cntL xs
end
mutual
/-- an item with its marks from q on -/
def markI : J → Nat → J
  | .mk _ _ _ ns xs, q => .mk (q : Int) ((q + 1 : Nat) : Int) (mkT (q + 2)) (mks ns.length (q + 3)) (markL xs (q + 3 + ns.length))
def markL : List J → Nat → List J
  | [], _ => []
  | x :: xs, q => markI x q :: markL xs (q + (3 + cntJ x))
end
theorem markL_len : ∀ (xs : List J) (q : Nat), (markL xs q).length = xs.length
  | [], _ => rfl
  | x :: xs, q => by simp [markL, markL_len xs]
theorem markL_get : ∀ (xs : List J) (q i : Nat), i < xs.length → (markL xs q).getD i default = markI (xs.getD i default) (q + cntL (xs.take i))
  | [], _, _, h => by simp at h
  | x :: xs, q, 0, _ => by simp [markL, cntL]
  | x :: xs, q, i + 1, h => by
    have := markL_get xs (q + (3 + cntJ x)) i (by simpa using h)
    simp only [markL, List.getD_cons_succ, this, List.take_succ_cons, cntL]
    congr 1
    omega
theorem cnt_take (xs : List J) (i : Nat) (h : i < xs.length) : cntL (xs.take (i + 1)) = cntL (xs.take i) + (3 + cntJ (xs.getD i default)) := by
  induction xs generalizing i with
  | nil => simp at h
  | cons x xs ih =>
    cases i with
    | zero => simp [cntL]
    | succ i =>
      have := ih i (by simpa using h)
      simp only [List.take_succ_cons, cntL, this, List.getD_cons_succ]
      omega
theorem cnt_le (xs : List J) (i : Nat) : cntL (xs.take i) ≤ cntL xs := by
  induction xs generalizing i with
  | nil => simp
  | cons x xs ih =>
    cases i with
    | zero => simp [cntL]
    | succ i => have := ih i; simp only [List.take_succ_cons, cntL]; omega
theorem cnt_len (xs : List J) : xs.length ≤ cntL xs := by
  induction xs with
  | nil => simp [cntL]
  | cons x xs ih => simp only [List.length_cons, cntL]; omega
/-- w' is w but for the blocks S, and for new ones -/
structure Only (S : Nat → Prop) (w w' : World) : Prop where
  os : w'.os = w.os
  tape : w'.tape = w.tape
  output : w'.output = w.output
  size : w.heap.size ≤ w'.heap.size
  block : ∀ b, b < w.heap.size → ¬ S b → w'.heap[b]? = w.heap[b]?
theorem Only.refl (S : Nat → Prop) (w : World) : Only S w w := ⟨rfl, rfl, rfl, Nat.le_refl _, fun _ _ _ => rfl⟩
theorem Only.step {S S' : Nat → Prop} {w w1 w2 : World} (h : Only S w w1) (h2 : Only S' w1 w2) (hS : ∀ b, S' b → S b) : Only S w w2 :=
  ⟨h2.os.trans h.os, h2.tape.trans h.tape, h2.output.trans h.output, Nat.le_trans h.size h2.size, fun b hb hn => (h2.block b (Nat.lt_of_lt_of_le hb h.size) fun h' => hn (hS b h')).trans (h.block b hb hn)⟩
theorem only_below {w w' : World} (h : Below w.heap.size w w') : Only (fun _ => False) w w' := ⟨h.os, h.tape, h.output, h.size, fun b hb _ => h.block b hb⟩
theorem only_row {w w' : World} {row : Option Nat} (h : w.grownBy w' row) : Only (fun b => row = some b) w w' := ⟨h.os, h.tape, h.output, h.size, fun b hb hn => h.block b hb fun e => hn e.symm⟩
theorem only_set (w : World) (g o : Nat) (v : Value) : Only (· = g) w (w.setCell ⟨g, o, none⟩ v) :=
  ⟨rfl, rfl, rfl, by simp, fun b _ hn => heap_setCell_other _ ⟨g, o, none⟩ b _ hn⟩
theorem Only.under {S : Nat → Prop} {B : Nat} {w w' : World} (h : Only S w w') (hB : B ≤ w.heap.size) (hS : ∀ b, S b → B ≤ b) : Below B w w' :=
  ⟨h.os, h.tape, h.output, h.size, fun b hb => h.block b (by omega) fun h' => by have := hS b h'; omega⟩
/-- the head of a value is its owner's -/
theorem OJ.head {w : World} {base : Nat} {S : Nat → Prop} {k n k' n' : Int} {t t' : List UInt8} {ns : List (List UInt8)} {xs : List J} {nv iv : Value} (h : OJ w base S (.mk k n t ns xs) nv iv) : OJ w base S (.mk k' n' t' ns xs) nv iv := by
  cases h with
  | mk Sc vn vi names hns hnl row low fit deep hS d1 d2 => exact .mk Sc vn vi names hns hnl row low fit deep hS d1 d2
/-- other names in the same row -/
theorem OJ.rename {w w' : World} {base : Nat} {S : Nat → Prop} {k n : Int} {t : List UInt8} {ns ns' : List (List UInt8)} {xs : List J} {nv iv : Value} (h : OJ w base S (.mk k n t ns xs) nv iv) (hg : w.grownBy w' nv.ownBlock) (ho : O1 w' base nv ns') (hns' : ∀ t ∈ ns', t.length ≤ 9223372036854775807) (hnl' : ns'.length ≤ 9223372036854775807) :
    OJ w' base S (.mk k n t ns' xs) nv iv := by
  cases h with
  | mk Sc vn vi names hns hnl row low fit deep hS d1 d2 =>
    refine .mk Sc vn vi ho hns' hnl' (row.same fun b hb => ?_) low fit (fun j hj => (deep j hj).same fun b hb => ?_) hS d1 d2
    · refine hg.block b (row.blk hb).1 fun e => ?_
      obtain ⟨_, _, C, hC⟩ := names.blk e.symm
      obtain ⟨_, C', hC'⟩ := row.blk hb
      rw [hC] at hC'
      cases hC'
    · exact hg.block b ((deep j hj).lt b hb).2 fun e => (d1 j hj b hb).1 e.symm
theorem OJ.names {w : World} {base : Nat} {S : Nat → Prop} {k n : Int} {t : List UInt8} {ns : List (List UInt8)} {xs : List J} {nv iv : Value} (h : OJ w base S (.mk k n t ns xs) nv iv) : O1 w base nv ns ∧ (∀ b, nv.ownBlock = some b → S b) := by
  cases h with
  | mk Sc vn vi names hns hnl row low fit deep hS d1 d2 => exact ⟨names, fun b hb => (hS b).2 (.inl hb)⟩
theorem mks_fit (n q : Nat) (h : q + n ≤ 4611686018427387904) : (∀ t ∈ mks n q, t.length ≤ 9223372036854775807) ∧ (mks n q).length ≤ 9223372036854775807 :=
  ⟨fun t ht => Nat.le_trans (mks_mem n q h t ht) (by omega), by rw [mks_len]; omega⟩
theorem markI_fit (x : J) (q : Nat) (h : q + 3 ≤ 4611686018427387904) : FitJ (markI x q) := by
  obtain ⟨k, n, t, ns, xs⟩ := x
  have := mkT_len (q + 2) (by omega)
  exact ⟨by simp [markI, J.kind]; omega, by simp [markI, J.num]; omega, by simp only [markI, J.text]; omega⟩
/-- under the marks: the first i items have theirs -/
def atM (xs : List J) (q i j : Nat) : J := if j < i then markI (xs.getD j default) (q + cntL (xs.take j)) else xs.getD j default
theorem atM_zero (xs : List J) (q : Nat) : (fun j => atM xs q 0 j) = fun j => xs.getD j default := by
  funext j; simp [atM]
/-- the round before the i-th of the marks on a row: what stands in the block g, and behind it -/
structure MRel (w : World) (base : Nat) (S : Nat → Prop) (nv : Value) (ns : List (List UInt8)) (xs : List J) (q g cap : Nat) (vn vi : Nat → Value) (Sc : Nat → Nat → Prop) (i : Nat) (wr : World) : Prop where
  row : ∃ F, wr.rowIs g 25 (cap * 5) F ∧ ∀ j, j < xs.length → ∀ c, c < 5 → F (j * 5 + c) = cellJ (atM xs q i j) (vn j) (vi j) c
  deep : ∀ j, j < xs.length → OJ wr base (Sc j) (atM xs q i j) (vn j) (vi j)
  names : O1 wr base nv ns
  only : Only S w wr
/-- what does not change from round to round -/
structure MFix (base : Nat) (S : Nat → Prop) (nv : Value) (n g cap : Nat) (Sc : Nat → Nat → Prop) : Prop where
  cap : n ≤ cap
  Sg : S g
  Sj : ∀ j, j < n → ∀ b, Sc j b → S b
  ng : nv.ownBlock ≠ some g
  dn : ∀ j, j < n → ∀ b, Sc j b → nv.ownBlock ≠ some b
  dg : ∀ j, j < n → ¬ Sc j g
  d2 : ∀ i j, i < n → j < n → i ≠ j → ∀ b, Sc i b → ¬ Sc j b
theorem MRel.cells {w : World} {base : Nat} {S : Nat → Prop} {nv : Value} {ns : List (List UInt8)} {xs : List J} {q g cap : Nat} {vn vi : Nat → Value} {Sc : Nat → Nat → Prop} {i : Nat} {wr : World} (h : MRel w base S nv ns xs q g cap vn vi Sc i wr) (hi : i < xs.length) (hc : xs.length ≤ cap) :
    (∀ c, c < 5 → wr.cell? ⟨g, i * 5 + c, none⟩ = some (cellJ (xs.getD i default) (vn i) (vi i) c)) ∧ (∀ o, wr.frozen? ⟨g, o, none⟩ = false) ∧ OJ wr base (Sc i) (xs.getD i default) (vn i) (vi i) ∧ g < wr.heap.size := by
  obtain ⟨F, hr, hF⟩ := h.row
  have e : atM xs q i i = xs.getD i default := by simp [atM]
  refine ⟨fun c hc5 => ?_, fun o => hr.frozen o, by have := h.deep i hi; rwa [e] at this, hr.lt⟩
  rw [← e, ← hF i hi c hc5]
  exact hr.cell (by have := Nat.mul_le_mul_right 5 hc; omega)
/-- the three stores of a round, and the call between them -/
theorem mRel_store {w : World} {base : Nat} {S : Nat → Prop} {nv : Value} {ns : List (List UInt8)} {xs : List J} {q g cap : Nat} {vn vi : Nat → Value} {Sc : Nat → Nat → Prop} {i : Nat} {wr w3 : World} {A B C : Value} (h : MRel w base S nv ns xs q g cap vn vi Sc i wr) (hf : MFix base S nv xs.length g cap Sc) (hi : i < xs.length)
    (hb : Below ((wr.setCell ⟨g, i * 5, none⟩ A).setCell ⟨g, i * 5 + 1, none⟩ B).heap.size ((wr.setCell ⟨g, i * 5, none⟩ A).setCell ⟨g, i * 5 + 1, none⟩ B) w3) :
    (∃ F, (w3.setCell ⟨g, i * 5 + 2, none⟩ C).rowIs g 25 (cap * 5) F ∧ (∀ j, j < xs.length → j ≠ i → ∀ c, c < 5 → F (j * 5 + c) = cellJ (atM xs q i j) (vn j) (vi j) c) ∧ F (i * 5) = A ∧ F (i * 5 + 1) = B ∧ F (i * 5 + 2) = C ∧ F (i * 5 + 3) = vn i ∧ F (i * 5 + 4) = vi i) ∧
      (∀ j, j < xs.length → OJ (w3.setCell ⟨g, i * 5 + 2, none⟩ C) base (Sc j) (atM xs q i j) (vn j) (vi j)) ∧ O1 (w3.setCell ⟨g, i * 5 + 2, none⟩ C) base nv ns ∧ Only S w (w3.setCell ⟨g, i * 5 + 2, none⟩ C) ∧
      (∀ o, w3.frozen? ⟨g, o, none⟩ = false) ∧ (∃ u, w3.cell? ⟨g, i * 5 + 2, none⟩ = some u) ∧ w3.cell? ⟨g, i * 5 + 3, none⟩ = some (vn i) ∧ w3.cell? ⟨g, i * 5 + 4, none⟩ = some (vi i) := by
  obtain ⟨F, hr, hF⟩ := h.row
  have hl := hr.lt
  have hr2 := (hr.set (i * 5) A).set (i * 5 + 1) B
  have hr3 := hr2.of_block (hb.block g (by simpa using hl))
  have hr4 := hr3.set (i * 5 + 2) C
  have hcap := Nat.mul_le_mul_right 5 hf.cap
  have ho : Only (· = g) wr (w3.setCell ⟨g, i * 5 + 2, none⟩ C) :=
    (((only_set wr g (i * 5) A).step (only_set _ g (i * 5 + 1) B) (fun _ e => e)).step (only_below hb) (fun _ e => e.elim)).step (only_set w3 g (i * 5 + 2) C) (fun _ e => e)
  have e : atM xs q i i = xs.getD i default := by simp [atM]
  have c3 := hF i hi 3 (by omega)
  have c4 := hF i hi 4 (by omega)
  simp only [cellJ] at c3 c4
  refine ⟨⟨_, hr4, fun j hj hji c hc => ?_, ?_, ?_, ?_, ?_, ?_⟩, fun j hj => (h.deep j hj).same fun b hb' => ho.block b ((h.deep j hj).lt b hb').2 (fun eb => hf.dg j hj (eb ▸ hb')), ?_, h.only.step ho (fun b eb => eb ▸ hf.Sg), fun o => hr3.frozen o, ⟨_, hr3.cell (by omega)⟩, ?_, ?_⟩
  · rw [← hF j hj c hc]
    show (if j * 5 + c = i * 5 + 2 then C else if j * 5 + c = i * 5 + 1 then B else if j * 5 + c = i * 5 then A else F (j * 5 + c)) = _
    rw [if_neg (by omega), if_neg (by omega), if_neg (by omega)]
  · show (if i * 5 = i * 5 + 2 then C else if i * 5 = i * 5 + 1 then B else if i * 5 = i * 5 then A else F (i * 5)) = _
    rw [if_neg (by omega), if_neg (by omega), if_pos rfl]
  · show (if i * 5 + 1 = i * 5 + 2 then C else if i * 5 + 1 = i * 5 + 1 then B else if i * 5 + 1 = i * 5 then A else F (i * 5 + 1)) = _
    rw [if_neg (by omega), if_pos rfl]
  · show (if i * 5 + 2 = i * 5 + 2 then C else if i * 5 + 2 = i * 5 + 1 then B else if i * 5 + 2 = i * 5 then A else F (i * 5 + 2)) = _
    rw [if_pos rfl]
  · show (if i * 5 + 3 = i * 5 + 2 then C else if i * 5 + 3 = i * 5 + 1 then B else if i * 5 + 3 = i * 5 then A else F (i * 5 + 3)) = _
    rw [if_neg (by omega), if_neg (by omega), if_neg (by omega)]
    exact c3
  · show (if i * 5 + 4 = i * 5 + 2 then C else if i * 5 + 4 = i * 5 + 1 then B else if i * 5 + 4 = i * 5 then A else F (i * 5 + 4)) = _
    rw [if_neg (by omega), if_neg (by omega), if_neg (by omega)]
    exact c4
  · refine own_blk h.names fun b hb' => ho.block b (h.names.blk hb').2.1 (fun eb => hf.ng (by rw [hb', eb]))
  · rw [hr3.cell (by omega)]
    show some (if i * 5 + 3 = i * 5 + 1 then B else if i * 5 + 3 = i * 5 then A else F (i * 5 + 3)) = _
    rw [if_neg (by omega), if_neg (by omega), c3]
  · rw [hr3.cell (by omega)]
    show some (if i * 5 + 4 = i * 5 + 1 then B else if i * 5 + 4 = i * 5 then A else F (i * 5 + 4)) = _
    rw [if_neg (by omega), if_neg (by omega), c4]
/-- the rest of the round: the names and the items of the i-th item have had their marks -/
theorem mRel_step {w : World} {base : Nat} {S : Nat → Prop} {nv : Value} {ns : List (List UInt8)} {xs : List J} {q g cap : Nat} {vn vi : Nat → Value} {Sc : Nat → Nat → Prop} {i : Nat} {w4 w6 : World} {qq : Nat} (hf : MFix base S nv xs.length g cap Sc) (hi : i < xs.length) (hqq : qq = q + cntL (xs.take i))
    (hrow : ∃ F, w4.rowIs g 25 (cap * 5) F ∧ (∀ j, j < xs.length → j ≠ i → ∀ c, c < 5 → F (j * 5 + c) = cellJ (atM xs q i j) (vn j) (vi j) c) ∧ F (i * 5) = .int .i64 (qq : Int) ∧ F (i * 5 + 1) = .int .i64 ((qq + 1 : Nat) : Int) ∧ F (i * 5 + 2) = .string ⟨(mkT (qq + 2)).toArray⟩ ∧ F (i * 5 + 3) = vn i ∧ F (i * 5 + 4) = vi i)
    (hd : ∀ j, j < xs.length → OJ w4 base (Sc j) (atM xs q i j) (vn j) (vi j)) (hn : O1 w4 base nv ns) (ho : Only S w w4) (h6 : Only (Sc i) w4 w6) (hc : OJ w6 base (Sc i) (markI (xs.getD i default) qq) (vn i) (vi i)) : MRel w base S nv ns xs q g cap vn vi Sc (i + 1) w6 := by
  obtain ⟨F, hr, hF, f0, f1, f2, f3, f4⟩ := hrow
  have eI : atM xs q (i + 1) i = markI (xs.getD i default) qq := by
    unfold atM
    rw [if_pos (by omega), hqq]
  have eO : ∀ j, j ≠ i → atM xs q (i + 1) j = atM xs q i j := fun j hj => by
    unfold atM
    by_cases hlt : j < i
    · rw [if_pos hlt, if_pos (by omega)]
    · rw [if_neg hlt, if_neg (by omega)]
  refine ⟨⟨F, hr.of_block (h6.block g hr.lt (hf.dg i hi)), fun j hj c hc5 => ?_⟩, fun j hj => ?_, own_blk hn fun b hb => h6.block b (hn.blk hb).2.1 (fun hb' => hf.dn i hi b hb' hb), ho.step h6 (hf.Sj i hi)⟩
  · by_cases hji : j = i
    · subst hji
      rw [eI]
      obtain ⟨k, n, t, nn, yy⟩ := xs.getD j default
      match c, hc5 with
      | 0, _ => exact f0
      | 1, _ => exact f1
      | 2, _ => exact f2
      | 3, _ => exact f3
      | 4, _ => exact f4
    · rw [eO j hji]
      exact hF j hj hji c hc5
  · by_cases hji : j = i
    · subst hji
      rw [eI]
      exact hc
    · rw [eO j hji]
      exact (hd j hj).same fun b hb => h6.block b ((hd j hj).lt b hb).2 (fun hb' => hf.d2 i j hi hj (fun e => hji e.symm) b hb' hb)
theorem mRel_end {w : World} {base : Nat} {S : Nat → Prop} {k n : Int} {t : List UInt8} {nv : Value} {ns : List (List UInt8)} {xs : List J} {q g cap : Nat} {vn vi : Nat → Value} {Sc : Nat → Nat → Prop} {wr : World} (h : MRel w base S nv ns xs q g cap vn vi Sc xs.length wr) (hq : q + cntL xs ≤ 4611686018427387904)
    (hns : ∀ t ∈ ns, t.length ≤ 9223372036854775807) (hnl : ns.length ≤ 9223372036854775807) (h1 : xs.length ≤ cap) (h2 : cap ≤ 9223372036854775807) (low : base ≤ g)
    (hS : ∀ b, S b ↔ (nv.ownBlock = some b ∨ (Value.slice (some ⟨g, 0, none⟩) xs.length cap).ownBlock = some b ∨ ∃ j, j < xs.length ∧ Sc j b))
    (d1 : ∀ j, j < xs.length → ∀ b, Sc j b → nv.ownBlock ≠ some b ∧ (Value.slice (some ⟨g, 0, none⟩) xs.length cap).ownBlock ≠ some b)
    (d2 : ∀ i j, i < xs.length → j < xs.length → i ≠ j → ∀ b, Sc i b → ¬ Sc j b) : OJ wr base S (.mk k n t ns (markL xs q)) nv (.slice (some ⟨g, 0, none⟩) xs.length cap) := by
  obtain ⟨F, hr, hF⟩ := h.row
  have e : ∀ j, j < xs.length → (markL xs q).getD j default = atM xs q xs.length j := fun j hj => by
    rw [markL_get xs q j hj]; simp [atM, hj]
  have hl := markL_len xs q
  refine .mk Sc vn vi h.names hns hnl ?row ?low ?fit ?deep ?hS ?d1 ?d2
  case row =>
    rw [hl]
    exact .inr ⟨g, cap, F, rfl, hr, h1, h2, fun j hj c hc => by rw [hF j hj c hc]; simp only; rw [e j hj]⟩
  case low =>
    intro b hb
    simp [Value.ownBlock] at hb
    omega
  case fit =>
    intro j hj
    rw [hl] at hj
    rw [e j hj]
    have h3 := cnt_take xs j hj
    have h4 := cnt_le xs (j + 1)
    simp only [atM, hj, if_true]
    exact markI_fit _ _ (by omega)
  case deep =>
    intro j hj
    rw [hl] at hj
    rw [e j hj]
    exact h.deep j hj
  case hS =>
    intro b
    rw [hl]
    exact hS b
  case d1 =>
    intro j hj
    rw [hl] at hj
    exact d1 j hj
  case d2 =>
    intro i j hi hj
    rw [hl] at hi hj
    exact d2 i j hi hj
set_option maxRecDepth 100000 in
set_option maxHeartbeats 4000000 in
theorem markL_go (j : J) : ∀ (k n : Int) (t : List UInt8) (ns : List (List UInt8)) (base : Nat) (S : Nat → Prop) (nv iv : Value) (w : World) (q : Nat), OJ w base S (.mk k n t ns j.items) nv iv → 0 < q → q + cntL j.items ≤ 4611686018427387904 →
    Calls Tryd.prog 16 #[iv, .int .i64 (q : Int)] w fun e w' => e = .returned (.int .i64 ((q + cntL j.items : Nat) : Int)) ∧ OJ w' base S (.mk k n t ns (markL j.items q)) nv iv ∧ Only S w w' := by
  induction j using J.ind with
  | h k0 n0 t0 ns0 xs ih =>
    intro k n t ns base S nv iv w q h hq hq2
    show Calls _ _ _ _ fun e w' => e = .returned (.int .i64 ((q + cntL xs : Nat) : Int)) ∧ OJ w' base S (.mk k n t ns (markL xs q)) nv iv ∧ Only S w w'
    replace hq2 : q + cntL xs ≤ 4611686018427387904 := hq2
    replace h : OJ w base S (.mk k n t ns xs) nv iv := h
    cases h with
    | mk Sc vn vi names hns hnl row low fit deep hS d1 d2 =>
    rcases row with ⟨rfl, h0⟩ | ⟨g, cap, F, rfl, hr, h1, h2, h3⟩
    · obtain rfl : xs = [] := List.eq_nil_of_length_eq_zero h0
      have HO := Lib.hid (show OJ w base S (.mk k n t ns (markL [] q)) nv (.slice none 0 0) from .mk Sc vn vi names hns hnl (.inl ⟨rfl, rfl⟩) low (fun j hj => absurd hj (by simp [markL])) (fun j hj => absurd hj (by simp [markL])) hS d1 d2)
      clear ih names hns hnl low fit deep hS d1 d2
      go_enter Tryd.func16, Tryd.ntmps16
      go_wp2
      go_loopw [1, 5] (fun kv iv wr => iv = .int .i64 0 ∧ kv = .int .i64 (q : Int) ∧ wr = w) (fun _ _ _ => 0)
      case atStart => exact ⟨rfl, rfl, rfl⟩
      case round =>
        obtain ⟨rfl, rfl, rfl⟩ := hrel
        go_wp2
        go_ret
        exact ⟨rfl, HO.out, Only.refl _ _⟩
    · have hng : nv.ownBlock ≠ some g := fun e => by
        obtain ⟨_, _, C, hC⟩ := names.blk e
        obtain ⟨C', hC', _⟩ := hr
        rw [hC] at hC'
        cases hC'
      have hfx : MFix base S nv xs.length g cap Sc := ⟨h1, (hS g).2 (.inr (.inl rfl)), fun j hj b hb => (hS b).2 (.inr (.inr ⟨j, hj, hb⟩)), hng, fun j hj b hb => (d1 j hj b hb).1, fun j hj hb => (d1 j hj g hb).2 rfl, d2⟩
      have HST : Hid (MRel w base S nv ns xs q g cap vn vi Sc 0 w) := Lib.hid ⟨⟨F, hr, fun j hj c hc => by rw [h3 j hj c hc]; simp [atM]⟩, fun j hj => by have := deep j hj; simpa [atM] using this, names, Only.refl _ _⟩
      have HEND := Lib.hid (fun wr (h : MRel w base S nv ns xs q g cap vn vi Sc xs.length wr) => mRel_end (k := k) (n := n) (t := t) h hq2 hns hnl h1 h2 (low g rfl) hS d1 d2)
      have HFX := Lib.hid hfx
      have HIH := Lib.hid ih
      have hcl := cnt_len xs
      clear ih names hns hnl low fit deep hS d1 d2 hr h3 hfx
      go_enter Tryd.func16, Tryd.ntmps16
      go_wp2
      go_loopw [1, 5] (fun kv iv wr => ∃ i qq : Nat, i ≤ xs.length ∧ iv = .int .i64 i ∧ kv = .int .i64 (qq : Int) ∧ qq = q + cntL (xs.take i) ∧ MRel w base S nv ns xs q g cap vn vi Sc i wr) (fun _ iv _ => xs.length - (intOf iv).toNat)
      case atStart => exact ⟨0, q, by omega, rfl, rfl, by simp [cntL], HST.out⟩
      case round =>
        obtain ⟨i, qq, hi, rfl, rfl, hqq, hR⟩ := hrel
        by_cases hlt : i < xs.length
        · have ht1 := cnt_take xs i hlt
          have ht2 := cnt_le xs (i + 1)
          obtain ⟨hc, hfz, hO, hgl⟩ := hR.cells hlt h1
          have HR := Lib.hid hR
          have HQ := Lib.hid hqq
          have hqb : qq + (3 + cntJ (xs.getD i default)) ≤ 4611686018427387904 := by omega
          have HQ2 := Lib.hid (show q + cntL (xs.take (i + 1)) = qq + (3 + cntJ (xs.getD i default)) by omega)
          have HSTO := Lib.hid (fun (w3 : World) (A B C : Value) hb => mRel_store (A := A) (B := B) (C := C) (w3 := w3) hR HFX.out hlt hb)
          have HSTEP := Lib.hid (fun w4 w6 h1 h2 h3 h4 h5 h6 => mRel_step (w := w) (nv := nv) (ns := ns) (w4 := w4) (w6 := w6) (q := q) (qq := qq) (vn := vn) (vi := vi) HFX.out hlt hqq h1 h2 h3 h4 h5 h6)
          have HI := Lib.hid (HIH.out (xs.getD i default) (by simp [hlt]))
          clear hR hqq ht1 ht2
          generalize hx : xs.getD i default = x at *
          obtain ⟨xk, xn, xt, xns, xxs⟩ := x
          have HX := Lib.hid hx
          clear hx
          have c0 := hc 0 (by omega)
          have c1 := hc 1 (by omega)
          simp only [cellJ, J.kind, J.num, Nat.add_zero] at c0 c1
          obtain ⟨⟨a5, l5, c5, e5⟩, ⟨a6, l6, c6, e6⟩⟩ := hO.slices
          obtain ⟨hO1, -⟩ := hO.names
          have HT := Lib.hid (markText_any (qq + 2) (by omega) (by simp only [cntJ] at hqb; omega))
          have hqc : qq + 3 + (xns.length + cntL xxs) ≤ 4611686018427387904 := by simp only [cntJ] at hqb; omega
          have hcj : cntJ (.mk xk xn xt xns xxs) = xns.length + cntL xxs := by simp [cntJ]
          have hmi : markI (.mk xk xn xt xns xxs) qq = .mk (qq : Int) ((qq + 1 : Nat) : Int) (mkT (qq + 2)) (mks xns.length (qq + 3)) (markL xxs (qq + 3 + xns.length)) := by simp [markI]
          rw [hmi] at HSTEP
          rw [hcj] at HQ2
          have HI2 := Lib.hid (fun (k n : Int) (t : List UInt8) (ns : List (List UInt8)) (w5 : World) (h : OJ w5 base (Sc i) (.mk k n t ns xxs) (vn i) (vi i)) => HI.out k n t ns base (Sc i) (vn i) (vi i) w5 (qq + 3 + xns.length) h (by omega) (by simp only [J.items]; omega))
          simp only [J.items] at HI2
          obtain ⟨tx, htx⟩ : ∃ t, mkT (qq + 2) = t := ⟨_, rfl⟩
          have HTX := Lib.hid htx
          rw [htx] at HT HSTEP
          clear hc hO hqb hcj hmi HI htx hO1
          go_wp2_with fail
          refine (HT.out _).mono ?_
          rintro e w3 ⟨rfl, hb3⟩
          obtain ⟨hrow, hd4, hn4, ho4, hfz3, ⟨u2, hu2⟩, p3, p4⟩ := HSTO.out w3 (.int .i64 (qq : Int)) (.int .i64 ((qq + 1 : Nat) : Int)) (.string ⟨tx.toArray⟩) hb3
          have HROW := Lib.hid hrow
          have HD4 := Lib.hid hd4
          have HN4 := Lib.hid hn4
          have HO4 := Lib.hid ho4
          have hq2f := hfz3 (i * 5 + 2)
          rw [e5] at p3
          have hc4 : (w3.setCell ⟨g, i * 5 + 2, none⟩ (.string ⟨tx.toArray⟩)).cell? ⟨g, i * 5 + 4, none⟩ = some (vi i) := by rw [World.cell?_setCell_other _ _ _ _ (by simp)]; exact p4
          have HC4 := Lib.hid hc4
          have hch := hd4 i hlt
          rw [show atM xs q i i = .mk xk xn xt xns xxs by rw [← HX.out]; simp [atM]] at hch
          have HCH := Lib.hid hch
          have HMO := Lib.hid (fun W h => markO_any base (vn i) xns (qq + 3) W h (by omega) (by omega))
          rw [e5] at HMO
          have hgw4 : g < (w3.setCell ⟨g, i * 5 + 2, none⟩ (.string ⟨tx.toArray⟩)).heap.size := World.block_lt_of_cell? _ _ hc4
          clear hb3 hrow hd4 hn4 ho4 hfz3 p4 hc4 c0 c1 hfz hch
          go_wp2_with fail
          generalize w3.setCell ⟨g, i * 5 + 2, none⟩ (.string ⟨tx.toArray⟩) = w4 at *
          refine (HMO.out w4 (e5 ▸ HCH.out.names.1)).mono ?_
          rintro e w5 ⟨rfl, ho5, hg5⟩
          rw [← e5] at ho5 hg5
          have hch5 := (HCH.out.head (k' := (qq : Int)) (n' := ((qq + 1 : Nat) : Int)) (t' := tx)).rename hg5 ho5 (mks_fit xns.length (qq + 3) (by omega)).1 (mks_fit xns.length (qq + 3) (by omega)).2
          have HI3 := Lib.hid (HI2.out _ _ _ _ w5 hch5)
          have honly5 : Only (Sc i) w4 w5 := (Only.refl _ w4).step (only_row hg5) (fun b hb => HCH.out.names.2 b hb)
          have HO5 := Lib.hid honly5
          have hne : ¬ Sc i g := HFX.out.dg i hlt
          have p4 : w5.cell? ⟨g, i * 5 + 4, none⟩ = some (vi i) := (World.cell?_of_block (w := w4) (a := ⟨g, i * 5 + 4, none⟩) (honly5.block g hgw4 hne)).trans HC4.out
          rw [e6] at p4 HI3
          clear ho5 hg5 hch5 honly5 p3 hne
          go_wp2_with fail
          refine HI3.out.mono ?_
          rintro e w6 ⟨rfl, hc6, ho6⟩
          rw [← e6] at hc6
          have HN := Lib.hid (HSTEP.out w4 w6 HROW.out HD4.out HN4.out HO4.out (HO5.out.step ho6 (fun b hb => hb)) hc6)
          clear hc6 ho6
          go_wp2
          go_roundw
          case rel => exact ⟨i + 1, qq + 3 + xns.length + cntL xxs, by omega, by go_num, by go_num, by have := HQ2.out; omega, HN.out⟩
          case measure => simp [intOf]; omega
        · obtain rfl : i = xs.length := by omega
          rw [List.take_length] at hqq
          have HF := Lib.hid (HEND.out _ hR)
          have HOn := Lib.hid hR.only
          clear hR
          go_wp2
          go_ret
          exact ⟨ret_iO (by omega), HF.out, HOn.out⟩
end Go.Proofs.YtjakkmjipglkiaaDoor.Js
