
/-
  The laws' marks: written over rows of reports, of texts and of numbers that a call owns, and looked at again; the same of a queue.
-/
import Derived.Test.YtakiigddbdapaaaQuT
import Derived.Test.YtakiigddbdapaaaUrlSpecA
import Derived.BigQuiet
namespace Go.Proofs.Ytakiigddbdapaaa.Qu
open Go.RowKit
open Go.Proofs.Ytakiigddbdapaaa.Tx
open Go.Proofs.Ytakiigddbdapaaa.Ul (conv_one)
open Go.Proofs.Ytakiigddbdapaaa.Ext (up up_below up_mk wp_region_ext call_ext call_ext_same call_ext_drewN)
@[local go_sem] theorem up_cellQ (w : World) (y : Ext.Ext w) (b o : Nat) (h : b < w.heap.size) : (up w y).cell? ⟨b, o, none⟩ = w.cell? ⟨b, o, none⟩ := Ext.up_cell w y b o h
@[local go_sem] theorem bappM (a b : List UInt8) : (⟨a.toArray⟩ : ByteArray) ++ ⟨b.toArray⟩ = ⟨(a ++ b).toArray⟩ := by
  apply ByteArray.ext; simp
theorem ret_strM {a b : List UInt8} (h : a = b) : Ending.returned (.string ⟨a.toArray⟩) = .returned (.string ⟨b.toArray⟩) := by rw [h]
def dg (n : Nat) : List UInt8 := if n = 0 then [] else Lib.decDigits n
theorem dg_step (n : Nat) (h : 0 < n) : dg n = dg (n / 10) ++ [UInt8.ofNat (48 + n % 10)] := by
  unfold dg
  rw [if_neg (by omega)]
  by_cases h9 : n < 10
  · rw [Lib.decDigits_one h9, if_pos (by omega)]
    have : n % 10 = n := by omega
    rw [this]; rfl
  · rw [Lib.decDigits, dif_neg h9, if_neg (by omega)]
theorem dg_len (n : Nat) (h : n ≤ 9223372036854775807) : (dg n).length ≤ 20 := by
  unfold dg
  split
  · simp
  · have := Ul.digs_len 18 n (by omega); omega
def mkT (n : Nat) : List UInt8 := 109 :: dg n
set_option maxRecDepth 100000 in
set_option maxHeartbeats 1000000 in
theorem markText_any (n : Nat) (h0 : 0 < n) (hn : n ≤ 4611686018427387904) (w : World) : Calls Try.prog 56 #[.int .i64 (n : Int)] w fun e w' => e = .returned (.string ⟨(mkT n).toArray⟩) ∧ Below w.heap.size w w' := by
  have d1 : decide ((n : Int) ≤ 0) = false := by simp; omega
  have hcv := conv_one
  go_enter Try.func56, Try.ntmps56
  go_wp2
  go_loopw [0, 3] (fun kv ov wr => ∃ (m : Nat) (o : List UInt8), m ≤ n ∧ kv = .int .i64 (m : Int) ∧ ov = .string ⟨o.toArray⟩ ∧ dg n = dg m ++ o ∧ Below w.heap.size w wr) (fun kv _ _ => (intOf kv).toNat)
  case atStart => exact ⟨n, [], by omega, rfl, rfl, by simp, Below.refl _ _⟩
  case round =>
    obtain ⟨m, o, hm, rfl, rfl, hE, hR⟩ := hrel
    have HE := Lib.hid hE
    have HR := Lib.hid hR
    have hlo : o.length ≤ 20 := by have h1 := dg_len n (by omega); rw [hE, List.length_append] at h1; omega
    clear hE hR
    by_cases hp : 0 < m
    · have DS := Lib.hid (dg_step m hp)
      have d2 : decide ((0 : Int) < (m : Int)) = true := by simp; omega
      have w1 : IntKind.i64.wrap ((m : Int) / 10) = ((m / 10 : Nat) : Int) := IntWalk.i64_in _ (by omega)
      have HA := Lib.hid (belI_alloc (o := .cells #[.int .u8 (48 + (m : Int) % 10)] 5) HR.out)
      have b1 : ¬ 9223372036854775807 < o.length + 1 := by omega
      go_wp2
      go_roundw
      case rel => exact ⟨m / 10, UInt8.ofNat (48 + m % 10) :: o, by omega, by go_num, by rw [show UInt8.ofNat (48 + m % 10) = 48 + UInt8.ofNat (m % 10) by rw [UInt8.ofNat_add]; rfl], by rw [HE.out, DS.out]; simp, HA.out⟩
      case measure => simp [intOf]; omega
    · obtain rfl : m = 0 := by omega
      have EO := Lib.hid (show dg n = o by rw [HE.out]; rfl)
      have b1 : ¬ 9223372036854775807 < o.length + 1 := by omega
      have b2 : ¬ 9223372036854775807 < 1 + o.length := by omega
      go_wp2
      go_ret
      exact ⟨ret_strM (by rw [mkT, EO.out]), HR.out⟩
theorem mkT_len (k : Nat) (h : k ≤ 4611686018427387904) : (mkT k).length ≤ 21 := by
  have := dg_len k (by omega)
  simp only [mkT, List.length_cons]; omega
/-! ### what changed -/
/-- w' is w but for what lies in the blocks of S -/
structure Ch (S : Nat → Prop) (w w' : World) : Prop where
  os : w'.os = w.os
  tape : w'.tape = w.tape
  output : w'.output = w.output
  size : w.heap.size ≤ w'.heap.size
  block : ∀ b, b < w.heap.size → ¬ S b → w'.heap[b]? = w.heap[b]?
theorem Ch.refl (S : Nat → Prop) (w : World) : Ch S w w := ⟨rfl, rfl, rfl, Nat.le_refl _, fun _ _ _ => rfl⟩
theorem Ch.trans {S : Nat → Prop} {w w1 w2 : World} (h : Ch S w w1) (h2 : Ch S w1 w2) : Ch S w w2 :=
  ⟨h2.os.trans h.os, h2.tape.trans h.tape, h2.output.trans h.output, Nat.le_trans h.size h2.size, fun b hb hS => (h2.block b (Nat.lt_of_lt_of_le hb h.size) hS).trans (h.block b hb hS)⟩
theorem Ch.of_grown {S : Nat → Prop} {w w' : World} {row : Option Nat} (h : w.grownBy w' row) (hr : ∀ g, row = some g → S g) : Ch S w w' :=
  ⟨h.os, h.tape, h.output, h.size, fun b hb hS => h.block b hb (fun e => hS (hr b e.symm))⟩
theorem Ch.of_below {S : Nat → Prop} {w w' : World} (h : Below w.heap.size w w') : Ch S w w' := ⟨h.os, h.tape, h.output, h.size, fun b hb _ => h.block b hb⟩
theorem Ch.below {S : Nat → Prop} {B : Nat} {a w w' : World} (hm : Ch S w w') (h : Below B a w) (hB : B ≤ w.heap.size) (hS : ∀ b, S b → B ≤ b) : Below B a w' :=
  ⟨hm.os.trans h.os, hm.tape.trans h.tape, hm.output.trans h.output, Nat.le_trans h.size hm.size, fun b hb => (hm.block b (by omega) (fun e => by have := hS b e; omega)).trans (h.block b hb)⟩
theorem Ch.hd {S : Nat → Prop} {w w' : World} {b : Nat} {o : Obj} (hm : Ch S w w') (h : Hd w b o) (hS : ¬ S b) : Hd w' b o := (hm.block b h.lt hS).trans h
theorem Ch.rp {S T : Nat → Prop} {w w' : World} {v : Value} {xs : List Rep} (hm : Ch S w w') (h : RpIn T w v xs) (hT : ∀ b, T b → b < w.heap.size ∧ ¬ S b) : RpIn T w' v xs := h.same fun b hb => ⟨hb, hm.block b (hT b hb).1 (hT b hb).2⟩
theorem Ch.txts {S T : Nat → Prop} {w w' : World} {v : Value} {xs : List (List UInt8)} (hm : Ch S w w') (h : TxtsIn T w v xs) (hT : ∀ b, T b → b < w.heap.size ∧ ¬ S b) : TxtsIn T w' v xs := h.same fun b hb => ⟨hb, hm.block b (hT b hb).1 (hT b hb).2⟩
theorem Ch.ints {S T : Nat → Prop} {w w' : World} {v : Value} {xs : List Int} (hm : Ch S w w') (h : IntsIn T w v xs) (hT : ∀ b, T b → b < w.heap.size ∧ ¬ S b) : IntsIn T w' v xs := h.same fun b hb => ⟨hb, hm.block b (hT b hb).1 (hT b hb).2⟩
theorem own_ch {S : Nat → Prop} {w w' : World} {B s n : Nat} {T : TypeId} {v : Value} {xs : List Value} (hm : Ch S w w') (h : w.ownsRow B T s v n xs) (hS : ∀ b, v.ownBlock = some b → ¬ S b) : w'.ownsRow B T s v n xs := by
  obtain ⟨h1, h2⟩ := h
  refine ⟨h1, ?_⟩
  rcases h2 with hn | ⟨g, cap, cur, rfl, hb, hgg, rest⟩
  · exact .inl hn
  · exact .inr ⟨g, cap, cur, rfl, hb, (hm.block g (Array.getElem?_eq_some_iff.1 hgg).1 (hS g rfl)).trans hgg, rest⟩
/-! ### reports -/
def mrp : Nat → Nat → List Rep
  | 0, _ => []
  | n + 1, k => ⟨(k : Int), (k : Int) + 1, (k : Int) + 2, mkT (k + 3)⟩ :: mrp n (k + 4)
theorem mrp_len : ∀ n k, (mrp n k).length = n
  | 0, _ => rfl
  | n + 1, k => by simp [mrp, mrp_len n (k + 4)]
theorem mrp_get : ∀ n k i, i < n → (mrp n k).getD i default = ⟨((k + 4 * i : Nat) : Int), ((k + 4 * i : Nat) : Int) + 1, ((k + 4 * i : Nat) : Int) + 2, mkT (k + 4 * i + 3)⟩
  | 0, _, i, h => by omega
  | n + 1, k, 0, _ => by simp [mrp]
  | n + 1, k, i + 1, h => by
    have := mrp_get n (k + 4) i (by omega)
    simp only [mrp, List.getD_cons_succ, this]
    have e : k + 4 + 4 * i = k + 4 * (i + 1) := by omega
    rw [e]
theorem mrp_fit (n k : Nat) (h : k + 4 * n ≤ 9000000) : ∀ i, i < (mrp n k).length → Fit ((mrp n k).getD i default) := by
  intro i hi
  rw [mrp_len] at hi
  rw [mrp_get n k i hi]
  have := mkT_len (k + 4 * i + 3) (by omega)
  constructor <;> simp only <;> omega
/-- what the row holds behind i rounds: the marks first, then what stood there -/
def mixR (F : Nat → Value) (k i j : Nat) : Value :=
  if j < 4 * i then (if j % 4 = 3 then .string ⟨(mkT (k + j)).toArray⟩ else .int .i64 ((k + j : Nat) : Int)) else F j
theorem mixR_step (F : Nat → Value) (k i q : Nat) (hq : q = k + 4 * i) (j : Nat) :
    (if j = i * 4 + 3 then Value.string ⟨(mkT (q + 3)).toArray⟩ else if j = i * 4 + 2 then .int .i64 ((q : Int) + 1 + 1) else if j = i * 4 + 1 then .int .i64 ((q : Int) + 1) else if j = i * 4 then .int .i64 (q : Int) else mixR F k i j) = mixR F k (i + 1) j := by
  subst hq
  unfold mixR
  by_cases e3 : j = i * 4 + 3
  · subst e3; rw [if_pos rfl, if_pos (by omega), if_pos (by omega)]; congr 4; omega
  · rw [if_neg e3]
    by_cases e2 : j = i * 4 + 2
    · subst e2; rw [if_pos rfl, if_pos (by omega), if_neg (by omega)]; congr 1; omega
    · rw [if_neg e2]
      by_cases e1 : j = i * 4 + 1
      · subst e1; rw [if_pos rfl, if_pos (by omega), if_neg (by omega)]; congr 1; omega
      · rw [if_neg e1]
        by_cases e0 : j = i * 4
        · subst e0; rw [if_pos rfl, if_pos (by omega), if_neg (by omega)]; congr 1; omega
        · rw [if_neg e0]
          by_cases hj : j < 4 * i
          · have hj2 : j < 4 * (i + 1) := by omega
            rw [if_pos hj, if_pos hj2]
          · rw [if_neg hj, if_neg (by omega)]
theorem mrp_own {w : World} {base g cap n k : Nat} {F : Nat → Value} (hr : w.rowIs g 38 (cap * 4) (mixR F k n)) (hc : n ≤ cap) (hm : cap ≤ maxLen) (hb : base ≤ g) : O4 w base (.slice (some ⟨g, 0, none⟩) n cap) (mrp n k) := by
  have h := O4_of_row (base := base) (xs := mrp n k) hr (by rw [mrp_len]; exact hc) hm hb (fun i hi => by
    rw [mrp_len] at hi
    rw [mrp_get n k i hi]
    dsimp only
    unfold mixR
    refine ⟨?_, ?_, ?_, ?_⟩
    · rw [if_pos (by omega), if_neg (by omega)]; congr 1; omega
    · rw [if_pos (by omega), if_neg (by omega)]; congr 1; omega
    · rw [if_pos (by omega), if_neg (by omega)]; congr 1; omega
    · rw [if_pos (by omega), if_pos (by omega)]; congr 4; omega)
  rwa [mrp_len] at h
set_option maxRecDepth 100000 in
set_option maxHeartbeats 2000000 in
theorem markRps_any (base : Nat) (v : Value) (ts : List Rep) (k : Nat) (w : World) (h : O4 w base v ts) (hk : 0 < k) (hk2 : k + 4 * ts.length ≤ 9000000) :
    Calls Try.prog 35 #[v, .int .i64 (k : Int)] w fun e w' => e = .returned (.int .i64 ((k + 4 * ts.length : Nat) : Int)) ∧ O4 w' base v (mrp ts.length k) ∧ w.grownBy w' v.ownBlock := by
  obtain ⟨hlen, h⟩ := h
  rcases h with ⟨rfl, h0⟩ | ⟨g, cap, cur, rfl, hbg, hg, hnc, hcm, hs, ht⟩
  · obtain rfl : ts = [] := List.eq_nil_of_length_eq_zero h0
    go_enter Try.func35, Try.ntmps35
    go_wp2
    go_loopw [1, 5] (fun kv iv wr => iv = .int .i64 0 ∧ kv = .int .i64 (k : Int) ∧ wr = w) (fun _ _ _ => 0)
    case atStart => exact ⟨rfl, rfl, rfl⟩
    case round =>
      obtain ⟨rfl, rfl, rfl⟩ := hrel
      go_wp2
      go_ret
      exact ⟨rfl, ⟨rfl, .inl ⟨rfl, rfl⟩⟩, ⟨rfl, rfl, rfl, Nat.le_refl _, fun _ _ _ => rfl⟩⟩
  · have hlt : g < w.heap.size := (Array.getElem?_eq_some_iff.1 hg).1
    obtain ⟨F, hrow⟩ : ∃ F : Nat → Value, w.rowIs g 38 (cap * 4) F := ⟨fun i => cur[i]?.getD undef, cur, hg, hs, fun i hi => by
      have : i < cur.size := by omega
      simp [this]⟩
    have HROW := Lib.hid hrow
    clear ht hs hg hrow hlen
    generalize ts.length = n at *
    go_enter Try.func35, Try.ntmps35
    go_wp2
    go_loopw [1, 5] (fun kv iv wr => ∃ i q : Nat, i ≤ n ∧ iv = .int .i64 i ∧ kv = .int .i64 (q : Int) ∧ q = k + 4 * i ∧ wr.rowIs g 38 (cap * 4) (mixR F k i) ∧ w.grownBy wr (some g)) (fun _ iv _ => n - (intOf iv).toNat)
    case atStart => exact ⟨0, k, by omega, rfl, rfl, by omega, HROW.out.congr (fun j _ => by simp [mixR]), ⟨rfl, rfl, rfl, Nat.le_refl _, fun _ _ _ => rfl⟩⟩
    case round =>
      obtain ⟨i, q, hi, rfl, rfl, hq, hr, hG⟩ := hrel
      have HQE := Lib.hid hq
      have hqb : q ≤ 9000000 := by omega
      have HR := Lib.hid hr
      have HG := Lib.hid hG
      by_cases hlt2 : i < n
      · have HT := Lib.hid (fun (z : Int) (hz : z = ((q + 3 : Nat) : Int)) (W : World) => (hz ▸ markText_any (q + 3) (by omega) (by omega) W : Calls Try.prog 56 #[.int .i64 z] W fun e w' => e = .returned (.string ⟨(mkT (q + 3)).toArray⟩) ∧ Below W.heap.size W w'))
        obtain ⟨tx, htx⟩ : ∃ t, mkT (q + 3) = t := ⟨_, rfl⟩
        have HTX := Lib.hid htx
        rw [htx] at HT
        have q0 := hr.cell (i := i * 4) (by omega)
        have q1 := hr.cell (i := i * 4 + 1) (by omega)
        have q2 := hr.cell (i := i * 4 + 2) (by omega)
        have qf := hr.frozen
        clear htx hr hG hq
        go_wp2_with fail
        refine (HT.out _ (by omega) _).mono ?_
        rintro e w1 ⟨rfl, hb1⟩
        have hr3 := ((HR.out.set (i * 4) (.int .i64 (q : Int))).set (i * 4 + 1) (.int .i64 ((q : Int) + 1))).set (i * 4 + 2) (.int .i64 ((q : Int) + 1 + 1))
        have hr1 := hr3.of_block (hb1.block _ hr3.lt)
        have p3 := hr1.cell (i := i * 4 + 3) (by omega)
        have pf := hr1.frozen
        have HR2 := Lib.hid ((hr1.set (i * 4 + 3) (.string ⟨tx.toArray⟩)).congr (g := mixR F k (i + 1)) (fun j _ => by
          have := mixR_step F k i q HQE.out j
          rw [HTX.out] at this
          exact this))
        have HG2 := Lib.hid (show w.grownBy (w1.setCell ⟨g, i * 4 + 3, none⟩ (.string ⟨tx.toArray⟩)) (some g) from
          ⟨hb1.os.trans HG.out.os, hb1.tape.trans HG.out.tape, hb1.output.trans HG.out.output, by have := HG.out.size; have := hb1.size; simp at this ⊢; omega, fun b hb hne => by
            have hne2 : b ≠ g := fun e => hne (by rw [e])
            have hb2 := Nat.lt_of_lt_of_le hb HG.out.size
            exact (heap_setCell_other _ ⟨g, i * 4 + 3, none⟩ b _ hne2).trans ((hb1.block b (by simpa using hb2)).trans ((heap_setCell_other _ ⟨g, i * 4 + 2, none⟩ b _ hne2).trans ((heap_setCell_other _ ⟨g, i * 4 + 1, none⟩ b _ hne2).trans ((heap_setCell_other _ ⟨g, i * 4, none⟩ b _ hne2).trans (HG.out.block b hb hne)))))⟩)
        clear hb1 hr1 hr3 q0 q1 q2 qf
        generalize mixR F k i = F2 at *
        go_wp2
        go_roundw
        case rel => exact ⟨i + 1, q + 4, by omega, by go_num, by go_num, by have := HQE.out; omega, by simpa using HR2.out, by simpa using HG2.out⟩
        case measure => simp [intOf]; omega
      · obtain rfl : i = n := by omega
        go_wp2
        go_ret
        refine ⟨ret_i (by omega), mrp_own HR.out hnc hcm hbg, HG.out⟩
set_option maxRecDepth 100000 in
set_option maxHeartbeats 2000000 in
theorem heldRps_any (S : Nat → Prop) (v : Value) (n k : Nat) (w : World) (h : RpIn S w v (mrp n k)) (hS : ∀ b, S b → b < w.heap.size) (hk : 0 < k) (hk2 : k + 4 * n ≤ 9000000) :
    Calls Try.prog 37 #[v, .int .i64 (k : Int)] w fun e w' => e = .returned (.int .i64 ((k + 4 * n : Nat) : Int)) ∧ Below w.heap.size w w' := by
  obtain ⟨a, cap, b, off, rfl, hcap, hm, -, ha, hc⟩ := h
  have HC := Lib.hid hc
  have HA := Lib.hid ha
  rw [mrp_len] at hcap ⊢
  clear hc ha
  go_enter Try.func37, Try.ntmps37
  go_wp2
  go_loopw [1, 5] (fun kv iv wr => ∃ i q : Nat, i ≤ n ∧ iv = .int .i64 i ∧ kv = .int .i64 (q : Int) ∧ q = k + 4 * i ∧ Below w.heap.size w wr) (fun _ iv _ => n - (intOf iv).toNat)
  case atStart => exact ⟨0, k, by omega, rfl, rfl, by omega, Below.refl _ _⟩
  case round =>
    obtain ⟨i, q, hi, rfl, rfl, hq, hR⟩ := hrel
    have HQE := Lib.hid hq
    have HR := Lib.hid hR
    by_cases hlt : i < n
    · obtain ⟨ea, hlb⟩ := HA.out (by rw [mrp_len]; omega)
      subst ea
      obtain ⟨c0, c1, c2, c3⟩ := HC.out i (by rw [mrp_len]; exact hlt)
      rw [mrp_get n k i hlt] at c0 c1 c2 c3
      rw [← hq] at c0 c1 c2 c3
      simp only at c0 c1 c2 c3
      have hbw := hS b hlb
      have hd : b < wr.heap.size := Nat.lt_of_lt_of_le hbw hR.size
      have q0 := (hR.cell (p := ⟨b, off + i * 4, none⟩) hbw).trans c0
      have q1 := (hR.cell (p := ⟨b, off + i * 4 + 1, none⟩) hbw).trans c1
      have q2 := (hR.cell (p := ⟨b, off + i * 4 + 2, none⟩) hbw).trans c2
      have q3 := (hR.cell (p := ⟨b, off + i * 4 + 3, none⟩) hbw).trans c3
      have hqb : q ≤ 9000000 := by omega
      have HT := Lib.hid (fun (z : Int) (hz : z = ((q + 3 : Nat) : Int)) (W : World) => (hz ▸ markText_any (q + 3) (by omega) (by omega) W : Calls Try.prog 56 #[.int .i64 z] W fun e w' => e = .returned (.string ⟨(mkT (q + 3)).toArray⟩) ∧ Below W.heap.size W w'))
      generalize mkT (q + 3) = tx at *
      clear hq
      have e1 : (tx == tx) = true := by simp
      have e2 : (tx != tx) = false := by simp
      have f0 : ((q : Int) != (q : Int)) = false := by simp
      have f1 : ((q : Int) + 1 != (q : Int) + 1) = false := by simp
      have f2 : ((q : Int) + 2 != (q : Int) + 1 + 1) = false := by simp; omega
      clear c0 c1 c2 c3 hR
      go_wp2_with fail
      refine wp_region_ext (by kernel_rfl) (by kernel_rfl) ?_
      repeat (go_big_quiet_step ((go_at_call 56; refine call_ext (v := .string ⟨tx.toArray⟩) ?_; exact HT.out _ (by omega) _)))
      refine wpQuiet_nil ?_
      intro _ hw'
      obtain ⟨y8, rfl⟩ := hw'
      have hv8 := up_below _ y8
      generalize up _ y8 = v8 at *
      have D8 := Lib.hid (belI_step HR.out hv8)
      clear hv8 q0 q1 q2 q3
      go_wp2
      go_roundw
      case rel => exact ⟨i + 1, q + 4, by omega, by go_num, by go_num, by have := HQE.out; omega, D8.out⟩
      case measure => simp [intOf]; omega
    · obtain rfl : i = n := by omega
      go_wp2
      go_ret
      exact ⟨ret_i (by have := HQE.out; omega), hR⟩
/-! ### texts -/
def mks : Nat → Nat → List (List UInt8)
  | 0, _ => []
  | n + 1, k => mkT k :: mks n (k + 1)
theorem mks_len : ∀ n k, (mks n k).length = n
  | 0, _ => rfl
  | n + 1, k => by simp [mks, mks_len n (k + 1)]
theorem mks_get : ∀ n k i, i < n → (mks n k).getD i [] = mkT (k + i)
  | 0, _, i, h => by omega
  | n + 1, k, 0, _ => by simp [mks]
  | n + 1, k, i + 1, h => by
    have := mks_get n (k + 1) i (by omega)
    simp only [mks, List.getD_cons_succ, this]
    congr 1; omega
theorem mks_fit (n k : Nat) (h : k + n ≤ 9000000) : ∀ i, i < (mks n k).length → ((mks n k).getD i []).length ≤ 9223372036854775807 := by
  intro i hi
  rw [mks_len] at hi
  rw [mks_get n k i hi]
  have := mkT_len (k + i) (by omega)
  omega
def mixS (F : Nat → Value) (k i j : Nat) : Value := if j < i then .string ⟨(mkT (k + j)).toArray⟩ else F j
set_option maxRecDepth 100000 in
set_option maxHeartbeats 2000000 in
theorem markTs_any (base : Nat) (v : Value) (ns : List (List UInt8)) (k : Nat) (w : World) (h : O1 w base v ns) (hk : 0 < k) (hk2 : k + ns.length ≤ 9000000) :
    Calls Try.prog 36 #[v, .int .i64 (k : Int)] w fun e w' => e = .returned (.int .i64 ((k + ns.length : Nat) : Int)) ∧ O1 w' base v (mks ns.length k) ∧ w.grownBy w' v.ownBlock := by
  obtain ⟨hlen, h⟩ := h
  rcases h with ⟨rfl, h0⟩ | ⟨g, cap, cur, rfl, hbg, hg, hnc, hcm, hs, ht⟩
  · obtain rfl : ns = [] := List.eq_nil_of_length_eq_zero h0
    go_enter Try.func36, Try.ntmps36
    go_wp2
    go_loopw [1, 5] (fun kv iv wr => iv = .int .i64 0 ∧ kv = .int .i64 (k : Int) ∧ wr = w) (fun _ _ _ => 0)
    case atStart => exact ⟨rfl, rfl, rfl⟩
    case round =>
      obtain ⟨rfl, rfl, rfl⟩ := hrel
      go_wp2
      go_ret
      exact ⟨rfl, ⟨rfl, .inl ⟨rfl, rfl⟩⟩, ⟨rfl, rfl, rfl, Nat.le_refl _, fun _ _ _ => rfl⟩⟩
  · have hlt : g < w.heap.size := (Array.getElem?_eq_some_iff.1 hg).1
    obtain ⟨F, hrow⟩ : ∃ F : Nat → Value, w.rowIs g 9 cap F := ⟨fun i => cur[i]?.getD undef, cur, hg, by omega, fun i hi => by
      have : i < cur.size := by omega
      simp [this]⟩
    have HROW := Lib.hid hrow
    clear ht hs hg hrow hlen
    generalize ns.length = n at *
    go_enter Try.func36, Try.ntmps36
    go_wp2
    go_loopw [1, 5] (fun kv iv wr => ∃ i : Nat, i ≤ n ∧ iv = .int .i64 i ∧ kv = .int .i64 ((k + i : Nat) : Int) ∧ wr.rowIs g 9 cap (mixS F k i) ∧ w.grownBy wr (some g)) (fun _ iv _ => n - (intOf iv).toNat)
    case atStart => exact ⟨0, by omega, rfl, rfl, HROW.out.congr (fun j _ => by simp [mixS]), ⟨rfl, rfl, rfl, Nat.le_refl _, fun _ _ _ => rfl⟩⟩
    case round =>
      obtain ⟨i, hi, rfl, rfl, hr, hG⟩ := hrel
      have HR := Lib.hid hr
      have HG := Lib.hid hG
      clear hr hG
      by_cases hlt2 : i < n
      · have HT := Lib.hid (markText_any (k + i) (by omega) (by omega) wr)
        obtain ⟨tx, htx⟩ : ∃ t, mkT (k + i) = t := ⟨_, rfl⟩
        have HTX := Lib.hid htx
        rw [htx] at HT
        clear htx
        go_wp2_with fail
        refine HT.out.mono ?_
        rintro e w1 ⟨rfl, hb1⟩
        have hr1 := HR.out.of_block (hb1.block _ HR.out.lt)
        have q0 := hr1.cell (i := i) (by omega)
        have qf := hr1.frozen i
        have hr2 := hr1.set i (.string ⟨tx.toArray⟩)
        have HR2 := Lib.hid (hr2.congr (g := mixS F k (i + 1)) (fun j _ => by
          unfold mixS
          by_cases e0 : j = i
          · subst e0; rw [if_pos rfl, if_pos (by omega), ← HTX.out]
          · rw [if_neg e0]
            by_cases hj : j < i
            · rw [if_pos hj, if_pos (by omega)]
            · rw [if_neg hj, if_neg (by omega)]))
        have HG2 := Lib.hid (show w.grownBy (w1.setCell ⟨g, i, none⟩ (.string ⟨tx.toArray⟩)) (some g) from
          ⟨hb1.os.trans HG.out.os, hb1.tape.trans HG.out.tape, hb1.output.trans HG.out.output, by have := HG.out.size; have := hb1.size; simp; omega, fun b hb hne => by
            have hne2 : b ≠ g := fun e => hne (by rw [e])
            exact (heap_setCell_other _ ⟨g, i, none⟩ b _ hne2).trans ((hb1.block b (Nat.lt_of_lt_of_le hb HG.out.size)).trans (HG.out.block b hb hne))⟩)
        clear hb1 hr1 hr2
        generalize mixS F k i = F2 at *
        go_wp2
        go_roundw
        case rel => exact ⟨i + 1, by omega, by go_num, by go_num, HR2.out, HG2.out⟩
        case measure => simp [intOf]; omega
      · obtain rfl : i = n := by omega
        have HF := Lib.hid (O1_of_row (base := base) (ns := mks i k) HR.out (by rw [mks_len]; exact hnc) hcm hbg (fun j hj => by
          rw [mks_len] at hj
          rw [mks_get i k j hj]
          unfold mixS
          rw [if_pos hj]))
        rw [mks_len] at HF
        go_wp2
        go_ret
        exact ⟨rfl, HF.out, HG.out⟩
set_option maxRecDepth 100000 in
set_option maxHeartbeats 2000000 in
theorem heldTs_any (S : Nat → Prop) (v : Value) (n k : Nat) (w : World) (h : TxtsIn S w v (mks n k)) (hS : ∀ b, S b → b < w.heap.size) (hk : 0 < k) (hk2 : k + n ≤ 9000000) :
    Calls Try.prog 38 #[v, .int .i64 (k : Int)] w fun e w' => e = .returned (.int .i64 ((k + n : Nat) : Int)) ∧ Below w.heap.size w w' := by
  obtain ⟨a, cap, b, off, rfl, hcap, hm, -, ha, hc⟩ := h
  have HC := Lib.hid hc
  have HA := Lib.hid ha
  rw [mks_len] at hcap ⊢
  clear hc ha
  go_enter Try.func38, Try.ntmps38
  go_wp2
  go_loopw [1, 5] (fun kv iv wr => ∃ i q : Nat, i ≤ n ∧ iv = .int .i64 i ∧ kv = .int .i64 (q : Int) ∧ q = k + i ∧ Below w.heap.size w wr) (fun _ iv _ => n - (intOf iv).toNat)
  case atStart => exact ⟨0, k, by omega, rfl, rfl, by omega, Below.refl _ _⟩
  case round =>
    obtain ⟨i, q, hi, rfl, rfl, hq, hR⟩ := hrel
    have HQE := Lib.hid hq
    have HR := Lib.hid hR
    by_cases hlt : i < n
    · obtain ⟨ea, hlb⟩ := HA.out (by rw [mks_len]; omega)
      subst ea
      have c0 := HC.out i (by rw [mks_len]; exact hlt)
      rw [mks_get n k i hlt, ← hq] at c0
      have hbw := hS b hlb
      have hd : b < wr.heap.size := Nat.lt_of_lt_of_le hbw hR.size
      have q0 := (hR.cell (p := ⟨b, off + i, none⟩) hbw).trans c0
      have HT := Lib.hid (fun W => markText_any q (by omega) (by omega) W)
      generalize mkT q = tx at *
      have hqb : q ≤ 9000000 := by omega
      clear hq
      have e1 : (tx == tx) = true := by simp
      have e2 : (tx != tx) = false := by simp
      clear c0 hR
      go_wp2_with fail
      refine wp_region_ext (by kernel_rfl) (by kernel_rfl) ?_
      repeat (go_big_quiet_step ((go_at_call 56; refine call_ext (v := .string ⟨tx.toArray⟩) ?_; with_reducible exact HT.out _)))
      refine wpQuiet_nil ?_
      intro _ hw'
      obtain ⟨y8, rfl⟩ := hw'
      have hv8 := up_below _ y8
      generalize up _ y8 = v8 at *
      have D8 := Lib.hid (belI_step HR.out hv8)
      clear hv8 q0
      go_wp2
      go_roundw
      case rel => exact ⟨i + 1, q + 1, by omega, by go_num, by go_num, by have := HQE.out; omega, D8.out⟩
      case measure => simp [intOf]; omega
    · obtain rfl : i = n := by omega
      go_wp2
      go_ret
      exact ⟨ret_i (by have := HQE.out; omega), hR⟩
/-! ### numbers -/
def mki (n k : Nat) : List Int := (List.range n).map fun i => ((k + i : Nat) : Int)
theorem mki_len (n k : Nat) : (mki n k).length = n := by simp [mki]
theorem mki_get (n k i : Nat) (h : i < n) : (mki n k).getD i 0 = ((k + i : Nat) : Int) := by simp [mki, h]
def mixI (F : Nat → Value) (k i j : Nat) : Value := if j < i then .int .i64 ((k + j : Nat) : Int) else F j
/-! ### a queue -/
set_option maxRecDepth 100000 in
set_option maxHeartbeats 1000000 in
theorem markQ_any (S : Nat → Prop) (base : Nat) (q : Q) (iv rv : Value) (k : Nat) (w : World) (h : O4 w base iv q.items) (h2 : O1 w base rv q.recent) (hS : ∀ b, iv.ownBlock = some b → S b) (hS2 : ∀ b, rv.ownBlock = some b → S b) (hk : 0 < k) (hk2 : k + 4 * q.items.length + q.recent.length ≤ 9000000) :
    Calls Try.prog 14 #[qV iv rv, .int .i64 (k : Int)] w fun e w' => e = .returned (.int .i64 ((k + 4 * q.items.length + q.recent.length : Nat) : Int)) ∧ O4 w' base iv (mrp q.items.length k) ∧ O1 w' base rv (mks q.recent.length (k + 4 * q.items.length)) ∧ Ch S w w' := by
  obtain ⟨xs, us⟩ := q
  simp only at h h2 hk2 ⊢
  have HM := Lib.hid (fun W h' => markRps_any base iv xs k W h' hk (by omega))
  have HM2 := Lib.hid (fun W h' => markTs_any base rv us (k + 4 * xs.length) W h' (by omega) hk2)
  obtain ⟨a, c, rfl⟩ := h.slice
  obtain ⟨a2, c2, rfl⟩ := h2.slice
  have HAP := Lib.hid (own_apart h h2 (by decide))
  have HAP2 := Lib.hid (own_apart h2 h (by decide))
  have al := (Below.refl w.heap.size w).alloc (Nat.le_refl _) (.cells #[.slice a xs.length c, .slice a2 us.length c2] 34)
  have HO1 := Lib.hid (h.below al)
  have HO2 := Lib.hid (h2.below al)
  have HK := Lib.hid (Hd.new w (.cells #[.slice a xs.length c, .slice a2 us.length c2] 34))
  have HC0 := Lib.hid (Ch.of_below (S := S) al)
  have HS := Lib.hid hS
  have HS2 := Lib.hid hS2
  have HLT := Lib.hid (World.ownsRow.lt h)
  clear h h2 al hS hS2
  generalize k + 4 * xs.length = z at *
  generalize z + us.length = z2 at *
  generalize mrp xs.length k = ms at *
  generalize mks us.length z = ms2 at *
  go_enter Try.func14, Try.ntmps14
  go_wp2_with fail
  refine (HM.out _ HO1.out).mono ?_
  rintro e w1 ⟨rfl, ho, hg⟩
  obtain ⟨m0, m1, -⟩ := (HK.out.grown hg (fun e => by have := (HLT.out _ e.symm).2; omega)).two
  have HO := Lib.hid ho
  have HO3 := Lib.hid (HO2.out.kept hg HAP2.out)
  have HC1 := Lib.hid (HC0.out.trans (Ch.of_grown hg HS.out))
  clear ho hg
  go_wp2_with fail
  refine (HM2.out _ HO3.out).mono ?_
  rintro e w2 ⟨rfl, ho, hg⟩
  have HF := Lib.hid (And.intro (World.ownsRow.kept HO.out hg HAP.out) (And.intro ho (HC1.out.trans (Ch.of_grown hg HS2.out))))
  clear ho hg m0 m1
  go_wp2
  go_ret
  exact ⟨rfl, HF.out⟩
set_option maxRecDepth 100000 in
set_option maxHeartbeats 1000000 in
theorem heldQ_any (S T : Nat → Prop) (iv rv : Value) (n m k : Nat) (w : World) (h : RpIn S w iv (mrp n k)) (h2 : TxtsIn T w rv (mks m (k + 4 * n))) (hS : ∀ b, S b → b < w.heap.size) (hT : ∀ b, T b → b < w.heap.size) (hk : 0 < k) (hk2 : k + 4 * n + m ≤ 9000000) :
    Calls Try.prog 15 #[qV iv rv, .int .i64 (k : Int)] w fun e w' => e = .returned (.int .i64 ((k + 4 * n + m : Nat) : Int)) ∧ Below w.heap.size w w' := by
  have HM := Lib.hid (fun W h' hS' => heldRps_any S iv n k W h' hS' hk (by omega))
  have HM2 := Lib.hid (fun W h' hS' => heldTs_any T rv m (k + 4 * n) W h' hS' (by omega) hk2)
  obtain ⟨a, l, c, rfl⟩ := h.slice
  obtain ⟨a2, l2, c2, rfl⟩ := h2.slice
  have HH := Lib.hid (h.same (S' := S) (w' := w.alloc (.cells #[.slice a l c, .slice a2 l2 c2] 34)) fun b hb => ⟨hb, heap_alloc_old _ _ (hS b hb)⟩)
  have HH2 := Lib.hid (h2.same (S' := T) (w' := w.alloc (.cells #[.slice a l c, .slice a2 l2 c2] 34)) fun b hb => ⟨hb, heap_alloc_old _ _ (hT b hb)⟩)
  have HS := Lib.hid hS
  have HT := Lib.hid hT
  have HK := Lib.hid (Hd.new w (.cells #[.slice a l c, .slice a2 l2 c2] 34))
  have g1 : ¬ (((k + 4 * n : Nat) : Int) < 0) := by omega
  have g2 : ¬ (((k + 4 * n + m : Nat) : Int) < 0) := by omega
  clear h h2 hS hT
  generalize k + 4 * n = z at *
  generalize z + m = z2 at *
  go_enter Try.func15, Try.ntmps15
  go_wp2_with fail
  refine (HM.out _ HH.out (fun b hb => by have := HS.out b hb; simp; omega)).mono ?_
  rintro e w1 ⟨rfl, hb1⟩
  have HF := Lib.hid (((Below.refl w.heap.size w).alloc (Nat.le_refl _) (.cells #[.slice a l c, .slice a2 l2 c2] 34)).trans (hb1.mono (by simp)))
  obtain ⟨m0, m1, -⟩ := (HK.out.blw hb1).two
  have HH3 := Lib.hid (HH2.out.same (S' := T) (w' := w1) fun b hb => ⟨hb, hb1.block b (by have := HT.out b hb; simp; omega)⟩)
  clear hb1
  go_wp2_with fail
  refine (HM2.out _ HH3.out (fun b hb => Nat.lt_of_lt_of_le (HT.out b hb) HF.out.size)).mono ?_
  rintro e w2 ⟨rfl, hb2⟩
  have HF2 := Lib.hid (below_chain HF.out hb2)
  clear hb2 m0 m1
  go_wp2
  go_ret
  exact ⟨rfl, HF2.out⟩
end Go.Proofs.Ytakiigddbdapaaa.Qu
