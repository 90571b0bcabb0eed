
/-
  Blocks and owned rows, generally; what changed; the laws' text of a mark (markText).
-/
import Derived.Test.YtmaknkbmilcanaaGreatDoorGrAt
import Derived.Test.YtmaknkbmilcanaaGreatDoorUrlSpecA
import Derived.Laws.AppendOwn
import Derived.Laws.OwnMore
import Derived.BigQuiet
namespace Go.Proofs.YtmaknkbmilcanaaGreatDoor.Mk
open Go.RowKit
open Go.Proofs.YtmaknkbmilcanaaGreatDoor.Gr (heap_set belI_step belI_alloc)
open Go.Proofs.YtmaknkbmilcanaaGreatDoor.Ul (conv_one)
theorem below_chain {W w w' : World} (h : Below W.heap.size W w) (h2 : Below w.heap.size w w') : Below W.heap.size W w' := h.trans (h2.mono h.size)
theorem below_grownBy {w w' : World} (h : Below w.heap.size w w') (row : Option Nat) : w.grownBy w' row := ⟨h.os, h.tape, h.output, h.size, fun k hk _ => h.block k hk⟩
theorem own_base {B C n s : Nat} {T : TypeId} {w : World} {v : Value} {xs : List Value} (h : w.ownsRow B T s v n xs) (hBC : C ≤ B) : w.ownsRow C T s v n xs := by
  obtain ⟨h1, h2⟩ := h
  refine ⟨h1, ?_⟩
  rcases h2 with hn | ⟨g, cap, cur, rfl, hb, rest⟩
  · exact .inl hn
  · exact .inr ⟨g, cap, cur, rfl, Nat.le_trans hBC hb, rest⟩
theorem own_slice {w : World} {B m n : Nat} {T : TypeId} {v : Value} {xs : List Value} (h : w.ownsRow B T m v n xs) : ∃ a c, v = .slice a n c := by
  rcases h.2 with ⟨rfl, h0⟩ | ⟨g, cap, cur, rfl, _⟩
  · exact ⟨none, 0, by rw [h0]⟩
  · exact ⟨_, _, rfl⟩
def Hd (w : World) (b : Nat) (o : Obj) : Prop := w.heap[b]? = some o
theorem Hd.lt {w : World} {b : Nat} {o : Obj} (h : Hd w b o) : b < w.heap.size := (Array.getElem?_eq_some_iff.1 h).1
theorem Hd.blw {w w' : World} {b : Nat} {o : Obj} (h : Hd w b o) (hb : Below w.heap.size w w') : Hd w' b o := (hb.block b h.lt).trans h
theorem Hd.al {w : World} {b : Nat} {o : Obj} (h : Hd w b o) (x : Obj) : Hd (w.alloc x) b o := (heap_alloc_old _ _ h.lt).trans h
theorem Hd.new (w : World) (o : Obj) : Hd (w.alloc o) w.heap.size o := heap_alloc_new _ _
theorem Hd.grown {w w' : World} {row : Option Nat} {b : Nat} {o : Obj} (h : Hd w b o) (hg : w.grownBy w' row) (hne : some b ≠ row) : Hd w' b o := (hg.block b h.lt hne).trans h
theorem Hd.two {w : World} {g : Nat} {a b : Value} {T : TypeId} (h : Hd w g (.cells #[a, b] T)) :
    w.cell? ⟨g, 0, none⟩ = some a ∧ w.cell? ⟨g, 1, none⟩ = some b ∧ ∀ o, w.frozen? ⟨g, o, none⟩ = false :=
  ⟨cell_of_row w g 0 _ _ _ h, cell_of_row w g 1 _ _ _ h, fun o => frozen_of_row w g o _ _ h⟩
theorem Hd.three {w : World} {g : Nat} {a b c : Value} {T : TypeId} (h : Hd w g (.cells #[a, b, c] T)) :
    w.cell? ⟨g, 0, none⟩ = some a ∧ w.cell? ⟨g, 1, none⟩ = some b ∧ w.cell? ⟨g, 2, none⟩ = some c ∧ ∀ o, w.frozen? ⟨g, o, none⟩ = false :=
  ⟨cell_of_row w g 0 _ _ _ h, cell_of_row w g 1 _ _ _ h, cell_of_row w g 2 _ _ _ h, fun o => frozen_of_row w g o _ _ h⟩
theorem Hd.six {w : World} {g : Nat} {a b c d e f : Value} {T : TypeId} (h : Hd w g (.cells #[a, b, c, d, e, f] T)) :
    w.cell? ⟨g, 0, none⟩ = some a ∧ w.cell? ⟨g, 1, none⟩ = some b ∧ w.cell? ⟨g, 2, none⟩ = some c ∧ w.cell? ⟨g, 3, none⟩ = some d ∧ w.cell? ⟨g, 4, none⟩ = some e ∧ w.cell? ⟨g, 5, none⟩ = some f ∧ ∀ o, w.frozen? ⟨g, o, none⟩ = false :=
  ⟨cell_of_row w g 0 _ _ _ h, cell_of_row w g 1 _ _ _ h, cell_of_row w g 2 _ _ _ h, cell_of_row w g 3 _ _ _ h, cell_of_row w g 4 _ _ _ h, cell_of_row w g 5 _ _ _ h, fun o => frozen_of_row w g o _ _ h⟩
abbrev set6 (w : World) (g o : Nat) (a b c d e f : Value) : World := (((((w.setCell ⟨g, o, none⟩ a).setCell ⟨g, o + 1, none⟩ b).setCell ⟨g, o + 2, none⟩ c).setCell ⟨g, o + 3, none⟩ d).setCell ⟨g, o + 4, none⟩ e).setCell ⟨g, o + 5, none⟩ f
theorem set6_far (w : World) (g o x : Nat) (a b c d e f : Value) (h : x ≠ g) : (set6 w g o a b c d e f).heap[x]? = w.heap[x]? :=
  (heap_setCell_other _ ⟨g, o + 5, none⟩ x f h).trans ((heap_setCell_other _ ⟨g, o + 4, none⟩ x e h).trans ((heap_setCell_other _ ⟨g, o + 3, none⟩ x d h).trans ((heap_setCell_other _ ⟨g, o + 2, none⟩ x c h).trans ((heap_setCell_other _ ⟨g, o + 1, none⟩ x b h).trans (heap_setCell_other _ ⟨g, o, none⟩ x a h)))))
theorem Hd.far6 {w : World} {g o b : Nat} {ob : Obj} (h : Hd w b ob) (hne : b ≠ g) (x0 x1 x2 x3 x4 x5 : Value) : Hd (set6 w g o x0 x1 x2 x3 x4 x5) b ob := (set6_far w g o b x0 x1 x2 x3 x4 x5 hne).trans h
theorem bel6 {B g o : Nat} {a w : World} (h : Below B a w) (hB : B ≤ g) (x0 x1 x2 x3 x4 x5 : Value) : Below B a (set6 w g o x0 x1 x2 x3 x4 x5) :=
  (((((h.setCell (p := ⟨g, o, none⟩) hB x0).setCell (p := ⟨g, o + 1, none⟩) hB x1).setCell (p := ⟨g, o + 2, none⟩) hB x2).setCell (p := ⟨g, o + 3, none⟩) hB x3).setCell (p := ⟨g, o + 4, none⟩) hB x4).setCell (p := ⟨g, o + 5, none⟩) hB x5
theorem Hd.set6 {w : World} {b : Nat} {a0 a1 a2 a3 a4 a5 : Value} {T : TypeId} (h : Hd w b (.cells #[a0, a1, a2, a3, a4, a5] T)) (x0 x1 x2 x3 x4 x5 : Value) : Hd (set6 w b 0 x0 x1 x2 x3 x4 x5) b (.cells #[x0, x1, x2, x3, x4, x5] T) := heap_set (heap_set (heap_set (heap_set (heap_set (heap_set h 0 x0) 1 x1) 2 x2) 3 x3) 4 x4) 5 x5
theorem alloc3_0 (W : World) (a b c : Obj) : Hd (((W.alloc a).alloc b).alloc c) W.heap.size a := ((Hd.new W a).al b).al c
theorem alloc3_1 (W : World) (a b c : Obj) : Hd (((W.alloc a).alloc b).alloc c) (W.heap.size + 1) b := by
  have := (Hd.new (W.alloc a) b).al c
  simpa using this
theorem alloc3_2 (W : World) (a b c : Obj) : Hd (((W.alloc a).alloc b).alloc c) (W.heap.size + 1 + 1) c := by
  have := Hd.new ((W.alloc a).alloc b) c
  simpa using this
theorem Hd.drewN {w : World} {b : Nat} {o : Obj} (h : Hd w b o) (n : Nat) : Hd (w.drewN n) b o := h
theorem belDrew {B : Nat} {a w : World} (h : Below B a w) (n : Nat) : Below B a (w.drewN n) := ⟨h.os, h.tape, h.output, h.size, h.block⟩
@[local go_sem] theorem bappM (a b : List UInt8) : (⟨a.toArray⟩ : ByteArray) ++ ⟨b.toArray⟩ = ⟨(a ++ b).toArray⟩ := by
  apply ByteArray.ext; simp
theorem ret_strM {a b : List UInt8} (h : a = b) : Ending.returned (.string ⟨a.toArray⟩) = .returned (.string ⟨b.toArray⟩) := by rw [h]
def dg (n : Nat) : List UInt8 := if n = 0 then [] else Lib.decDigits n
theorem dg_step (n : Nat) (h : 0 < n) : dg n = dg (n / 10) ++ [UInt8.ofNat (48 + n % 10)] := by
  unfold dg
  rw [if_neg (by omega)]
  by_cases h9 : n < 10
  · rw [Lib.decDigits_one h9, if_pos (by omega)]
    have : n % 10 = n := by omega
    rw [this]; rfl
  · rw [Lib.decDigits, dif_neg h9, if_neg (by omega)]
theorem dg_len (n : Nat) (h : n ≤ 9223372036854775807) : (dg n).length ≤ 20 := by
  unfold dg
  split
  · simp
  · have := Ul.digs_len 18 n (by omega); omega
def mkT (n : Nat) : List UInt8 := 109 :: dg n
set_option maxRecDepth 100000 in
set_option maxHeartbeats 1000000 in
theorem markText_any (n : Nat) (h0 : 0 < n) (hn : n ≤ 4611686018427387904) (w : World) : Calls Tryz.prog 142 #[.int .i64 (n : Int)] w fun e w' => e = .returned (.string ⟨(mkT n).toArray⟩) ∧ Below w.heap.size w w' := by
  have d1 : decide ((n : Int) ≤ 0) = false := by simp; omega
  have hcv := conv_one
  go_enter Tryz.func142, Tryz.ntmps142
  go_wp2
  go_loopw [0, 3] (fun kv ov wr => ∃ (m : Nat) (o : List UInt8), m ≤ n ∧ kv = .int .i64 (m : Int) ∧ ov = .string ⟨o.toArray⟩ ∧ dg n = dg m ++ o ∧ Below w.heap.size w wr) (fun kv _ _ => (intOf kv).toNat)
  case atStart => exact ⟨n, [], by omega, rfl, rfl, by simp, Below.refl _ _⟩
  case round =>
    obtain ⟨m, o, hm, rfl, rfl, hE, hR⟩ := hrel
    have HE := Lib.hid hE
    have HR := Lib.hid hR
    have hlo : o.length ≤ 20 := by have h1 := dg_len n (by omega); rw [hE, List.length_append] at h1; omega
    clear hE hR
    by_cases hp : 0 < m
    · have DS := Lib.hid (dg_step m hp)
      have d2 : decide ((0 : Int) < (m : Int)) = true := by simp; omega
      have w1 : IntKind.i64.wrap ((m : Int) / 10) = ((m / 10 : Nat) : Int) := IntWalk.i64_in _ (by omega)
      have HA := Lib.hid (belI_alloc (o := .cells #[.int .u8 (48 + (m : Int) % 10)] 5) HR.out)
      have b1 : ¬ 9223372036854775807 < o.length + 1 := by omega
      go_wp2
      go_roundw
      case rel => exact ⟨m / 10, UInt8.ofNat (48 + m % 10) :: o, by omega, by go_num, by rw [show UInt8.ofNat (48 + m % 10) = 48 + UInt8.ofNat (m % 10) by rw [UInt8.ofNat_add]; rfl], by rw [HE.out, DS.out]; simp, HA.out⟩
      case measure => simp [intOf]; omega
    · obtain rfl : m = 0 := by omega
      have EO := Lib.hid (show dg n = o by rw [HE.out]; rfl)
      have b1 : ¬ 9223372036854775807 < o.length + 1 := by omega
      have b2 : ¬ 9223372036854775807 < 1 + o.length := by omega
      go_wp2
      go_ret
      exact ⟨ret_strM (by rw [mkT, EO.out]), HR.out⟩
/-- w' is w but for what lies in the blocks of S -/
structure Ch (S : Nat → Prop) (w w' : World) : Prop where
  os : w'.os = w.os
  tape : w'.tape = w.tape
  output : w'.output = w.output
  size : w.heap.size ≤ w'.heap.size
  block : ∀ b, b < w.heap.size → ¬ S b → w'.heap[b]? = w.heap[b]?
theorem Ch.refl (S : Nat → Prop) (w : World) : Ch S w w := ⟨rfl, rfl, rfl, Nat.le_refl _, fun _ _ _ => rfl⟩
theorem Ch.trans {S : Nat → Prop} {w w1 w2 : World} (h : Ch S w w1) (h2 : Ch S w1 w2) : Ch S w w2 :=
  ⟨h2.os.trans h.os, h2.tape.trans h.tape, h2.output.trans h.output, Nat.le_trans h.size h2.size, fun b hb hS => (h2.block b (Nat.lt_of_lt_of_le hb h.size) hS).trans (h.block b hb hS)⟩
theorem Ch.below {S : Nat → Prop} {B : Nat} {a w w' : World} (hm : Ch S w w') (h : Below B a w) (hB : B ≤ w.heap.size) (hS : ∀ b, S b → B ≤ b) : Below B a w' :=
  ⟨hm.os.trans h.os, hm.tape.trans h.tape, hm.output.trans h.output, Nat.le_trans h.size hm.size, fun b hb => (hm.block b (by omega) (fun e => by have := hS b e; omega)).trans (h.block b hb)⟩
theorem own_ch {S : Nat → Prop} {w w' : World} {B s n : Nat} {T : TypeId} {v : Value} {xs : List Value} (hm : Ch S w w') (h : w.ownsRow B T s v n xs) (hS : ∀ b, v.ownBlock = some b → ¬ S b) : w'.ownsRow B T s v n xs := by
  obtain ⟨h1, h2⟩ := h
  refine ⟨h1, ?_⟩
  rcases h2 with hn | ⟨g, cap, cur, rfl, hb, hgg, rest⟩
  · exact .inl hn
  · exact .inr ⟨g, cap, cur, rfl, hb, (hm.block g (Array.getElem?_eq_some_iff.1 hgg).1 (hS g rfl)).trans hgg, rest⟩
end Go.Proofs.YtmaknkbmilcanaaGreatDoor.Mk
