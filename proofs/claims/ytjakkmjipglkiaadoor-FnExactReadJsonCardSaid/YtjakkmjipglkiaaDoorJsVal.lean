
/-
  A JSON value as the program holds it: an interface value, its lists and names; and the small functions that build one: numberOK, namesOK, strings.Clone. The program's buildItems and buildValue, walked. The program's jsonOf and jsonItems, walked: a value back into new memory.
-/
import Derived.Test.YtjakkmjipglkiaaDoorJsEq
import Derived.Test.YtjakkmjipglkiaaDoorExt
import Derived.Test.YtjakkmjipglkiaaDoorShelf
import Derived.Laws.AppendOwn
import Derived.Test.YtjakkmjipglkiaaDoorApp
import Derived.Laws.BytesArg
import Derived.Laws.IdiomStrings
import Derived.Laws.OwnMore
import Derived.Maps.AppendAt
import Derived.Deep.AppendLies
import Derived.Deep.RegionLaw
namespace Go.Proofs.YtjakkmjipglkiaaDoor.Js
open Go.RowKit
open Go.Proofs.YtjakkmjipglkiaaDoor.Ext (up up_below up_mk wp_region_ext call_ext call_ext_same call_ext_drewN)
inductive VIn (S : Nat → Prop) (w : World) : Value → J → Prop
  | null : VIn S w (.iface 47 (.agg #[])) (.mk 1 0 [] [] [])
  | bool (b : Bool) : VIn S w (.iface 48 (.bool b)) (.mk 2 (if b then 1 else 0) [] [] [])
  | num (n : Int) (hn : -9223372036854775808 ≤ n ∧ n ≤ 9223372036854775807) : VIn S w (.iface 54 (.int .i64 n)) (.mk 3 n [] [] [])
  | text (t : List UInt8) (ht : t.length ≤ 9223372036854775807) : VIn S w (.iface 51 (.string ⟨t.toArray⟩)) (.mk 4 0 t [] [])
  | list {xs : List J} (a : Option Addr) (cap b off : Nat) (vs : Nat → Value) (hcap : xs.length ≤ cap) (hm : cap ≤ 9223372036854775807) (ha : 0 < xs.length → a = some ⟨b, off, none⟩ ∧ S b)
      (hc : ∀ i, i < xs.length → w.cell? ⟨b, off + i, none⟩ = some (vs i)) (deep : ∀ i, i < xs.length → VIn S w (vs i) (xs.getD i default)) : VIn S w (.iface 57 (.slice a xs.length cap)) (.mk 5 0 [] [] xs)
  | obj {xs : List J} {ns : List (List UInt8)} {nv : Value} (a : Option Addr) (cap b off : Nat) (vs : Nat → Value) (names : TxtsIn S w nv ns) (hcap : xs.length ≤ cap) (hm : cap ≤ 9223372036854775807) (ha : 0 < xs.length → a = some ⟨b, off, none⟩ ∧ S b)
      (hc : ∀ i, i < xs.length → w.cell? ⟨b, off + i, none⟩ = some (vs i)) (deep : ∀ i, i < xs.length → VIn S w (vs i) (xs.getD i default)) : VIn S w (.iface 60 (.agg #[nv, .slice a xs.length cap])) (.mk 6 0 [] ns xs)
/-- v is a slice of the values xs -/
def VLn (S : Nat → Prop) (w : World) (v : Value) (xs : List J) : Prop :=
  ∃ (a : Option Addr) (cap b off : Nat) (vs : Nat → Value), v = .slice a xs.length cap ∧ xs.length ≤ cap ∧ cap ≤ 9223372036854775807 ∧ (0 < xs.length → a = some ⟨b, off, none⟩ ∧ S b) ∧
    (∀ i, i < xs.length → w.cell? ⟨b, off + i, none⟩ = some (vs i)) ∧ ∀ i, i < xs.length → VIn S w (vs i) (xs.getD i default)
theorem VIn.same {S S' : Nat → Prop} {w w' : World} {v : Value} {j : J} (h : VIn S w v j) (hs : ∀ b, S b → S' b ∧ w'.heap[b]? = w.heap[b]?) : VIn S' w' v j := by
  induction h with
  | null => exact .null
  | bool b => exact .bool b
  | num n hn => exact .num n hn
  | text t ht => exact .text t ht
  | list a cap b off vs hcap hm ha hc deep ih =>
    exact .list a cap b off vs hcap hm (fun hp => ⟨(ha hp).1, (hs b (ha hp).2).1⟩) (fun i hi => (World.cell?_of_block (w := w) (a := ⟨b, off + i, none⟩) (hs b (ha (Nat.lt_of_le_of_lt (Nat.zero_le i) hi)).2).2).trans (hc i hi)) ih
  | obj a cap b off vs names hcap hm ha hc deep ih =>
    exact .obj a cap b off vs (names.same hs) hcap hm (fun hp => ⟨(ha hp).1, (hs b (ha hp).2).1⟩) (fun i hi => (World.cell?_of_block (w := w) (a := ⟨b, off + i, none⟩) (hs b (ha (Nat.lt_of_le_of_lt (Nat.zero_le i) hi)).2).2).trans (hc i hi)) ih
theorem VIn.mono' {S S' : Nat → Prop} {w : World} {v : Value} {j : J} (h : VIn S w v j) (hs : ∀ b, S b → S' b) : VIn S' w v j := h.same fun b hb => ⟨hs b hb, rfl⟩
theorem VLn.same {S S' : Nat → Prop} {w w' : World} {v : Value} {xs : List J} (h : VLn S w v xs) (hs : ∀ b, S b → S' b ∧ w'.heap[b]? = w.heap[b]?) : VLn S' w' v xs := by
  obtain ⟨a, cap, b, off, vs, e, h1, h2, h3, h4, h5⟩ := h
  exact ⟨a, cap, b, off, vs, e, h1, h2, fun hp => ⟨(h3 hp).1, (hs b (h3 hp).2).1⟩, fun i hi => (World.cell?_of_block (w := w) (a := ⟨b, off + i, none⟩) (hs b (h3 (Nat.lt_of_le_of_lt (Nat.zero_le i) hi)).2).2).trans (h4 i hi), fun i hi => (h5 i hi).same hs⟩
theorem VLn.value {S : Nat → Prop} {w : World} {v : Value} {xs : List J} (h : VLn S w v xs) : VIn S w (.iface 57 v) (.mk 5 0 [] [] xs) := by
  obtain ⟨a, cap, b, off, vs, rfl, h1, h2, h3, h4, h5⟩ := h
  exact .list a cap b off vs h1 h2 h3 h4 h5
theorem VLn.object {S : Nat → Prop} {w : World} {v nv : Value} {xs : List J} {ns : List (List UInt8)} (h : VLn S w v xs) (hn : TxtsIn S w nv ns) : VIn S w (.iface 60 (.agg #[nv, v])) (.mk 6 0 [] ns xs) := by
  obtain ⟨a, cap, b, off, vs, rfl, h1, h2, h3, h4, h5⟩ := h
  exact .obj a cap b off vs hn h1 h2 h3 h4 h5
set_option maxRecDepth 100000 in
theorem clone_any (t : List UInt8) (w : World) (ht : t.length ≤ 281474976710656) : Calls Tryd.prog 27 #[.string ⟨t.toArray⟩] w fun e w' => e = .returned (.string ⟨t.toArray⟩) ∧ Below w.heap.size w w' := by
  have HC := Lib.hid (Tryd.stringslite_Clone ⟨t.toArray⟩ w (by show t.toArray.size ≤ _; simpa using ht))
  go_enter Tryd.func27, Tryd.ntmps27
  go_wp2_with fail
  refine HC.out.mono ?_
  rintro e w1 ⟨rfl, hb⟩
  go_wp2
  go_ret
  exact ⟨rfl, hb⟩
set_option maxRecDepth 100000 in
theorem number_any (n : Int) (w : World) : Calls Tryd.prog 44 #[.int .i64 n] w fun e w' => e = .returned (.bool (decide (-999999999 ≤ n ∧ n ≤ 999999999))) ∧ w' = w := by
  by_cases h1 : -999999999 ≤ n
  · by_cases h2 : n ≤ 999999999
    all_goals
      go_enter Tryd.func44, Tryd.ntmps44
      go_wp2
      go_ret
      exact ⟨ret_b (by simp; omega), rfl⟩
  · go_enter Tryd.func44, Tryd.ntmps44
    go_wp2
    go_ret
    exact ⟨ret_b (by simp; omega), rfl⟩
theorem hasI_any (S : Nat → Prop) (ns : List (List UInt8)) (t : List UInt8) (v : Value) (w : World) (h : TxtsIn S w v ns) :
    Calls Tryd.prog 59 #[v, .string ⟨t.toArray⟩] w fun e w' => e = .returned (.bool (ns.contains t)) ∧ w = w' := by
  obtain ⟨a, cap, b, off, rfl, hcap, hm, _, ha, hc⟩ := h
  by_cases h0 : ns = []
  · subst h0
    exact (Tryd.slices_Contains_string_empty a cap ⟨t.toArray⟩ w).mono fun e w' ⟨he, hw⟩ => ⟨he, hw.symm⟩
  · have hp : 0 < ns.length := List.length_pos_iff.2 h0
    obtain ⟨rfl, _⟩ := ha hp
    have hlen : (ns.map fun t => (⟨t.toArray⟩ : ByteArray)).length = ns.length := by simp
    refine (Tryd.slices_Contains_string b off ns.length cap (ns.map fun t => (⟨t.toArray⟩ : ByteArray)) ⟨t.toArray⟩ w (by rw [hlen]; exact Nat.le_refl _) (by omega) (fun j hj => ?_)).mono fun e w' ⟨he, hw⟩ => ⟨?_, hw.symm⟩
    · rw [hlen] at hj
      rw [hc j hj]
      simp [hj]
    · rw [he]
      refine ret_b ?_
      rw [← hlen, List.take_length, Bool.eq_iff_iff, Lib.containsS_iff]
      simp
end Go.Proofs.YtjakkmjipglkiaaDoor.Js
namespace Go.Proofs.YtjakkmjipglkiaaDoor.Js
open Go.RowKit
open Go.Proofs.YtjakkmjipglkiaaDoor.Ext (up up_below up_mk wp_region_ext call_ext call_ext_same call_ext_drewN)
theorem Tryd.infoI : (Tryd.prog.info? 33).map (fun i => (i.zero, i.size, i.bytes)) = some (some .nilIface, 1, 16) := by kernel_rfl
/-- the blocks that a value built in the world W may lie in, once the world is w': what was there below B, and what is new -/
def Sb (B : Nat) (W w' : World) (b : Nat) : Prop := b < B ∨ (W.heap.size ≤ b ∧ b < w'.heap.size)
def BldPost (B : Nat) (W : World) (r : Bool) (j : J) (e : Ending) (w' : World) : Prop := ∃ v, e = .returned (.tuple #[v, .bool r]) ∧ (r = true → VIn (Sb B W w') w' v (normJ j)) ∧ Below W.heap.size W w'
def BldL (B : Nat) (W : World) (r : Bool) (xs : List J) (e : Ending) (w' : World) : Prop := ∃ v, e = .returned (.tuple #[v, .bool r]) ∧ (r = true → VLn (Sb B W w') w' v (normL xs)) ∧ Below W.heap.size W w' ∧ ∃ a l c, v = .slice a l c
theorem VIn.one {S : Nat → Prop} {w : World} {v : Value} {j : J} (h : VIn S w v j) : ∀ u ∈ [v], u.oneCell' = true := by
  intro u hu
  simp at hu
  subst hu
  cases h <;> rfl
theorem VIn.iface {S : Nat → Prop} {w : World} {v : Value} {j : J} (h : VIn S w v j) : ∃ t u, v = .iface t u := by
  cases h <;> exact ⟨_, _, rfl⟩
/-- what has been built after k rounds: v holds the values of the first k items -/
def BRel (B : Nat) (W : World) (xs : List J) (k : Nat) (v : Value) (wr : World) : Prop :=
  ∃ vals : List Value, wr.ownsRow W.heap.size 33 1 v k vals ∧ (∀ i, i < k → VIn (fun b => Sb B W wr b ∧ v.ownBlock ≠ some b) wr (vals.getD i undef) (normJ (xs.getD i default))) ∧ Below W.heap.size W wr
theorem bldL_no {B : Nat} {W w' : World} {xs : List J} {a : Option Addr} {l c : Nat} (h : Below W.heap.size W w') : BldL B W false xs (.returned (.tuple #[.slice a l c, .bool false])) w' := ⟨_, rfl, (fun h => by cases h), h, _, _, _, rfl⟩
theorem bld_no {B : Nat} {W w' : World} {j : J} {v : Value} (h : Below W.heap.size W w') : BldPost B W false j (.returned (.tuple #[v, .bool false])) w' := ⟨v, rfl, (fun h => by cases h), h⟩
theorem bRel_start (B : Nat) (W : World) (xs : List J) : BRel B W xs 0 (.slice (some ⟨W.heap.size, 0, none⟩) 0 0) (W.alloc (.cells #[] 33)) :=
  ⟨[], World.ownsRow_made W #[] 0 (Nat.le_refl _) (by simp [maxLen]) rfl, fun i hi => by omega, (Below.refl _ _).alloc (Nat.le_refl _) _⟩
theorem bRel_end {B : Nat} {W w' : World} {xs : List J} {v : Value} (h : BRel B W xs xs.length v w') : BldL B W true xs (.returned (.tuple #[v, .bool true])) w' := by
  obtain ⟨vals, ho, hd, hb⟩ := h
  have hsl : ∃ a l c, v = .slice a l c := by
    rcases ho.2 with ⟨rfl, _⟩ | ⟨g, cap, cur, rfl, _⟩ <;> exact ⟨_, _, _, rfl⟩
  refine ⟨v, rfl, fun _ => ?_, hb, hsl⟩
  obtain ⟨hl, ho⟩ := ho
  have hnl := normL_length xs
  have hget : ∀ i, i < xs.length → (normL xs).getD i default = normJ (xs.getD i default) := fun i hi => by rw [normL_map]; simp [hi]
  rcases ho with ⟨rfl, h0⟩ | ⟨g, cap, cur, rfl, hg, hblk, hcap, hmc, hcs, htk⟩
  · refine ⟨none, 0, 0, 0, fun i => vals.getD i undef, by rw [hnl, h0], by omega, by omega, fun hp => by omega, fun i hi => by omega, fun i hi => by omega⟩
  · refine ⟨some ⟨g, 0, none⟩, cap, g, 0, fun i => vals.getD i undef, by rw [hnl], by rw [hnl]; exact hcap, hmc, fun hp => ⟨rfl, .inr ⟨hg, ?_⟩⟩, fun i hi => ?_, fun i hi => ?_⟩
    · rcases Nat.lt_or_ge g w'.heap.size with h' | h'
      · exact h'
      · simp [Array.getElem?_eq_none h'] at hblk
    · rw [hnl] at hi
      rw [Nat.zero_add, cell_of_row w' g i _ _ _ hblk]
      have hi2 : i < cur.size := by omega
      have e1 : cur.toList.take (xs.length * 1) = vals := htk
      have hv : vals.getD i undef = cur.toList[i]'(by simpa using hi2) := by rw [← e1]; simp [List.getD, hi, hi2]
      simp only [hv]
      simp [hi2]
    · rw [hnl] at hi
      rw [hget i hi]
      exact (hd i hi).mono' fun b hb => hb.1
/-- one round: the next value has been built (wx to w2) and appended (w2 to w4) -/
theorem bRel_step {B : Nat} {W wr wx w2 w4 : World} {xs : List J} {k : Nat} {l v l' : Value} {vals : List Value} {o : Obj} (hB : B ≤ W.heap.size) (ho : wr.ownsRow W.heap.size 33 1 l k vals)
    (hd : ∀ i, i < k → VIn (fun b => Sb B W wr b ∧ l.ownBlock ≠ some b) wr (vals.getD i undef) (normJ (xs.getD i default))) (hN : Below W.heap.size W wr)
    (hwx : Below wr.heap.size wr wx) (hb2 : Below wx.heap.size wx w2) (hv : VIn (Sb B wx w2) w2 v (normJ (xs.getD k default)))
    (h4 : w4.ownsRow W.heap.size 33 1 l' (k + 1) (vals ++ [v])) (hg : (w2.alloc o).grownBy w4 l.ownBlock) (hp : l'.ownBlock = l.ownBlock ∨ l'.ownBlock = some (w2.alloc o).heap.size) : BRel B W xs (k + 1) l' w4 := by
  have s1 := hwx.size
  have s2 := hb2.size
  have s0 := hN.size
  have s4 := hg.size
  have hlen : vals.length = k := by have := ho.1; omega
  have e2 : (w2.alloc o).heap.size = w2.heap.size + 1 := by simp
  have hlt := ho.lt
  -- an old block that is not the row's is as it was
  have keep : ∀ b, b < w2.heap.size → l.ownBlock ≠ some b → w4.heap[b]? = w2.heap[b]? := fun b hb hne => by
    rw [hg.block b (by omega) (fun e => hne e.symm), heap_alloc_old _ _ hb]
  have hne' : ∀ b, b < w2.heap.size → l.ownBlock ≠ some b → l'.ownBlock ≠ some b := fun b hb hne e => by
    rcases hp with h | h
    · exact hne (h ▸ e)
    · rw [h] at e; simp at e; omega
  refine ⟨vals ++ [v], h4, fun i hi => ?_, ?_⟩
  · by_cases hik : i < k
    · have e : (vals ++ [v]).getD i undef = vals.getD i undef := by simp [List.getD, List.getElem?_append_left (show i < vals.length by omega)]
      rw [e]
      refine (hd i hik).same fun b ⟨hS, hne⟩ => ?_
      have hbw : b < wr.heap.size := by rcases hS with h | h <;> omega
      refine ⟨⟨?_, hne' b (by omega) hne⟩, ?_⟩
      · rcases hS with h | h
        · exact .inl h
        · exact .inr ⟨h.1, by omega⟩
      · rw [keep b (by omega) hne, hb2.block b (by omega), hwx.block b hbw]
    · obtain rfl : i = k := by omega
      have e : (vals ++ [v]).getD i undef = v := by subst hlen; simp [List.getD]
      rw [e]
      refine hv.same fun b hS => ?_
      have hne : l.ownBlock ≠ some b := fun e => by
        have := hlt b e
        rcases hS with h | h <;> omega
      have hbw : b < w2.heap.size := by rcases hS with h | h <;> omega
      refine ⟨⟨?_, hne' b hbw hne⟩, keep b hbw hne⟩
      rcases hS with h | h
      · exact .inl h
      · exact .inr ⟨by omega, by omega⟩
  · have hbW : Below W.heap.size W w2 := (hN.trans (hwx.mono s0)).trans (hb2.mono (by omega))
    exact (hbW.alloc (by omega) o).grown hg (by omega) (fun b e => (hlt b e).1)
theorem bldL_get {xs : List J} (d k : Nat) (hx : k < xs.length) : bldL (xs.drop k) d = (bldJ (xs.getD k default) d && bldL (xs.drop (k + 1)) d) := by
  rw [List.drop_eq_getElem_cons hx]; simp [bldL, hx]
theorem norm2 (n : Int) (t : List UInt8) (ns : List (List UInt8)) (xs : List J) : normJ (.mk 2 n t ns xs) = .mk 2 (if (n == 1) = true then 1 else 0) [] [] [] := by simp [normJ]
theorem sb_alloc {B : Nat} {W w' : World} {o : Obj} {b : Nat} (h : Sb B (W.alloc o) w' b) : Sb B W w' b := by
  rcases h with h | h
  · exact .inl h
  · exact .inr ⟨by have := h.1; simp at this; omega, h.2⟩
theorem belDrew {B : Nat} {a w : World} (h : Below B a w) (n : Nat) : Below B a (w.drewN n) := ⟨h.os, h.tape, h.output, h.size, h.block⟩
end Go.Proofs.YtjakkmjipglkiaaDoor.Js
namespace Go.Proofs.YtjakkmjipglkiaaDoor.Js
open Go.RowKit
open Go.Proofs.YtjakkmjipglkiaaDoor.Ext (up up_below up_mk wp_region_ext call_ext call_ext_same call_ext_drewN)
theorem Tryd.infoJ2 : (Tryd.prog.info? 25).map (fun i => (i.zero, i.size, i.bytes)) = some (some (.agg #[.int .i64 0, .int .i64 0, .string ByteArray.empty, .slice none 0 0, .slice none 0 0]), 5, 80) := by kernel_rfl
/-- what has been taken back after k rounds: l holds the first k items -/
def ORel (W : World) (xs : List J) (k : Nat) (l : Value) (wr : World) : Prop :=
  ∃ (vals : List Value) (vn vi : Nat → Value), wr.ownsRow W.heap.size 25 5 l k vals ∧
    (∀ i, i < k → vals[i * 5]? = some (.int .i64 (xs.getD i default).kind) ∧ vals[i * 5 + 1]? = some (.int .i64 (xs.getD i default).num) ∧ vals[i * 5 + 2]? = some (.string ⟨(xs.getD i default).text.toArray⟩) ∧ vals[i * 5 + 3]? = some (vn i) ∧ vals[i * 5 + 4]? = some (vi i)) ∧
    (∀ i, i < k → JIn (fun b => W.heap.size ≤ b ∧ b < wr.heap.size ∧ l.ownBlock ≠ some b) wr (xs.getD i default) (vn i) (vi i)) ∧ Below W.heap.size W wr
theorem oRel_start (W : World) (xs : List J) : ORel W xs 0 (.slice none 0 0) W :=
  ⟨[], fun _ => undef, fun _ => undef, World.ownsRow_nil W _ _ _, fun i hi => by omega, fun i hi => by omega, Below.refl _ _⟩
theorem oRel_end {W w' : World} {xs : List J} {l : Value} (h : ORel W xs xs.length l w') : NewL W xs (.returned l) w' := by
  obtain ⟨vals, vn, vi, ho, hf, hj, hb⟩ := h
  refine ⟨l, rfl, ?_, hb⟩
  obtain ⟨hl, ho⟩ := ho
  rcases ho with ⟨rfl, h0⟩ | ⟨g, cap, cur, rfl, hg, hblk, hcap, hmc, hcs, htk⟩
  · exact ⟨none, 0, 0, 0, vn, vi, by rw [h0], by omega, by omega, fun hp => by omega, fun i hi => by omega, fun i hi => by omega⟩
  · have hgl : g < w'.heap.size := by
      rcases Nat.lt_or_ge g w'.heap.size with h' | h'
      · exact h'
      · simp [Array.getElem?_eq_none h'] at hblk
    have hcell : ∀ j u, vals[j]? = some u → w'.cell? ⟨g, j, none⟩ = some u := fun j u hu => by
      rw [cell_of_row w' g j _ _ _ hblk, ← hu, ← htk]
      have hj : j < xs.length * 5 := by
        have := (List.getElem?_eq_some_iff.1 hu).1
        omega
      rw [List.getElem?_take, if_pos hj, Array.getElem?_toList]
    refine ⟨some ⟨g, 0, none⟩, cap, g, 0, vn, vi, rfl, hcap, hmc, fun hp => ⟨rfl, hg, hgl⟩, fun i hi => ?_, fun i hi => (hj i hi).mono fun b hb => ⟨hb.1, hb.2.1⟩⟩
    obtain ⟨f0, f1, f2, f3, f4⟩ := hf i hi
    simp only [Nat.zero_add]
    exact ⟨hcell _ _ f0, hcell _ _ f1, hcell _ _ f2, hcell _ _ f3, hcell _ _ f4⟩
theorem oRel_step {W wr wx w2 w4 : World} {xs : List J} {k : Nat} {x : J} {l l' nv iv : Value} {vals : List Value} {vn vi : Nat → Value} {o : Obj} (hx : xs.getD k default = x) (ho : wr.ownsRow W.heap.size 25 5 l k vals)
    (hf : ∀ i, i < k → vals[i * 5]? = some (.int .i64 (xs.getD i default).kind) ∧ vals[i * 5 + 1]? = some (.int .i64 (xs.getD i default).num) ∧ vals[i * 5 + 2]? = some (.string ⟨(xs.getD i default).text.toArray⟩) ∧ vals[i * 5 + 3]? = some (vn i) ∧ vals[i * 5 + 4]? = some (vi i))
    (hd : ∀ i, i < k → JIn (fun b => W.heap.size ≤ b ∧ b < wr.heap.size ∧ l.ownBlock ≠ some b) wr (xs.getD i default) (vn i) (vi i)) (hN : Below W.heap.size W wr)
    (hwx : Below wr.heap.size wr wx) (hb2 : Below wx.heap.size wx w2) (hv : JIn (fun b => wx.heap.size ≤ b ∧ b < w2.heap.size) w2 x nv iv)
    (h4 : w4.ownsRow W.heap.size 25 5 l' (k + 1) (vals ++ [.int .i64 x.kind, .int .i64 x.num, .string ⟨x.text.toArray⟩, nv, iv])) (hg : (w2.alloc o).grownBy w4 l.ownBlock) (hp : l'.ownBlock = l.ownBlock ∨ l'.ownBlock = some (w2.alloc o).heap.size) : ORel W xs (k + 1) l' w4 := by
  have s1 := hwx.size
  have s2 := hb2.size
  have s0 := hN.size
  have s4 := hg.size
  have hlen : vals.length = k * 5 := ho.1
  have e2 : (w2.alloc o).heap.size = w2.heap.size + 1 := by simp
  have hlt := ho.lt
  have keep : ∀ b, b < w2.heap.size → l.ownBlock ≠ some b → w4.heap[b]? = w2.heap[b]? := fun b hb hne => by
    rw [hg.block b (by omega) (fun e => hne e.symm), heap_alloc_old _ _ hb]
  have hne' : ∀ b, b < w2.heap.size → l.ownBlock ≠ some b → l'.ownBlock ≠ some b := fun b hb hne e => by
    rcases hp with h | h
    · exact hne (h ▸ e)
    · rw [h] at e; simp at e; omega
  have hbW : Below W.heap.size W w2 := (hN.trans (hwx.mono s0)).trans (hb2.mono (by omega))
  refine ⟨_, fun i => if i = k then nv else vn i, fun i => if i = k then iv else vi i, h4, fun i hi => ?_, fun i hi => ?_, (hbW.alloc (by omega) o).grown hg (by omega) (fun b e => (hlt b e).1)⟩
  · by_cases hik : i = k
    · subst hik
      rw [hx]
      simp only [if_true]
      refine ⟨?_, ?_, ?_, ?_, ?_⟩ <;> (rw [List.getElem?_append_right (by omega), hlen]; simp)
    · obtain ⟨f0, f1, f2, f3, f4⟩ := hf i (by omega)
      simp only [if_neg hik]
      refine ⟨?_, ?_, ?_, ?_, ?_⟩
      · rw [List.getElem?_append_left (by omega)]; exact f0
      · rw [List.getElem?_append_left (by omega)]; exact f1
      · rw [List.getElem?_append_left (by omega)]; exact f2
      · rw [List.getElem?_append_left (by omega)]; exact f3
      · rw [List.getElem?_append_left (by omega)]; exact f4
  · by_cases hik : i = k
    · subst hik
      rw [hx]
      simp only [if_true]
      refine hv.same fun b hS => ?_
      have hne : l.ownBlock ≠ some b := fun e => by have := hlt b e; omega
      exact ⟨⟨by omega, by omega, hne' b hS.2 hne⟩, keep b hS.2 hne⟩
    · simp only [if_neg hik]
      refine (hd i (by omega)).same fun b ⟨hS1, hS2, hne⟩ => ⟨⟨hS1, by omega, hne' b (by omega) hne⟩, ?_⟩
      rw [keep b (by omega) hne, hb2.block b (by omega), hwx.block b hS2]
theorem cell_five_new (w : World) (a b c d e : Value) (t : TypeId) : ∀ j u, [a, b, c, d, e][j]? = some u → (w.alloc (.cells #[a, b, c, d, e] t)).cell? ((⟨w.heap.size, 0, none⟩ : Addr).add j) = some u := by
  intro j u hu
  rw [Go.WideShapes.add_plain, Nat.zero_add, cell_of_row _ _ j _ _ _ (heap_alloc_new w _)]
  exact (Array.getElem?_toList (xs := #[a, b, c, d, e])).symm.trans hu
theorem one_five (k n : Int) (t : ByteArray) (an : Option Addr) (ln cn : Nat) (ai : Option Addr) (li ci : Nat) : ∀ u ∈ [Value.int .i64 k, .int .i64 n, .string t, .slice an ln cn, .slice ai li ci], u.oneCell' = true := by
  intro u hu
  simp at hu
  rcases hu with rfl | rfl | rfl | rfl | rfl <;> rfl
set_option maxRecDepth 100000 in
set_option maxHeartbeats 4000000 in
theorem ofL_of (B : Nat) (w0 : World) (xs : List J) (v : Value) (h1 : VLn (· < B) w0 v xs) (hsz : xs.length ≤ 1048576)
    (ih : ∀ i, i < xs.length → ∀ (v : Value), VIn (· < B) w0 v (xs.getD i default) → ∀ (W : World), Below B w0 W → B ≤ W.heap.size → Calls Tryd.prog 12 #[v] W (NewJ W (xs.getD i default)))
    (W : World) (hb : Below B w0 W) (hB : B ≤ W.heap.size) : Calls Tryd.prog 28 #[v] W (NewL W xs) := by
  obtain ⟨a, cap, b, off, vs, rfl, hcap, hm, ha, hc, hdp⟩ := h1
  have hn : xs.length ≤ 9223372036854775807 := by omega
  have HC := Lib.hid hc
  have HA := Lib.hid ha
  have HD := Lib.hid hdp
  have HI := Lib.hid ih
  have HB := Lib.hid hb
  clear hc ha hdp ih hb
  obtain ⟨i0, hi, hz0, hz1, hz2⟩ := info_parts Tryd.infoJ2
  have HST := Lib.hid (oRel_start W xs)
  go_enter Tryd.func28, Tryd.ntmps28
  go_wp2_with fail
  go_loopw [3, 8] (fun l i wr => ∃ k : Nat, k ≤ xs.length ∧ i = .int .i64 k ∧ ORel W xs k l wr) (fun _ i _ => xs.length - (intOf i).toNat)
  case atStart => exact ⟨0, by omega, rfl, HST.out⟩
  case round =>
    obtain ⟨k, hk, rfl, hR⟩ := hrel
    by_cases hlt : k < xs.length
    · obtain ⟨ea, hlb⟩ := HA.out (by omega)
      subst ea
      obtain ⟨vals, vn, vi, hown, hf, hch, hRB⟩ := hR
      have HO := Lib.hid hown
      have HF := Lib.hid hf
      have HCH := Lib.hid hch
      have HRB := Lib.hid hRB
      have hW := HB.out.trans (hRB.mono hB)
      have hWB : B ≤ wr.heap.size := Nat.le_trans hB hRB.size
      have hWr : W.heap.size ≤ wr.heap.size := hRB.size
      have q0 := (hW.cell (p := ⟨b, off + k, none⟩) hlb).trans (HC.out k hlt)
      have HK := Lib.hid (HI.out k hlt _ (HD.out k hlt) wr hW hWB)
      clear hown hf hch hRB hW
      generalize hx : xs.getD k default = x at *
      have HX := Lib.hid hx
      clear hx
      generalize vs k = v1 at *
      go_wp2_with fail
      refine HK.out.mono ?_
      rintro e w2 ⟨nv, iv, rfl, hv, hb2⟩
      obtain ⟨⟨an, ln, cn, rfl⟩, ⟨ai, li, ci, rfl⟩⟩ := hv.slices
      have HV := Lib.hid hv
      have HB2 := Lib.hid hb2
      have hkeep : w2.ownsRow W.heap.size 25 5 u3 k vals :=
        HO.out.kept (row := none) ⟨hb2.os, hb2.tape, hb2.output, hb2.size, fun b hb _ => hb2.block b hb⟩ (by rcases Classical.em (u3.ownBlock = none) with h | h; exact .inl h; exact .inr h)
      have HO2 := Lib.hid hkeep
      have hWw : W.heap.size ≤ w2.heap.size := Nat.le_trans hWr hb2.size
      clear hv hb2 hkeep
      go_wp2_with (at_builtin; refine App.wpList_app _ rfl _ _ 23 rfl W.heap.size 25 i0 (.agg #[.int .i64 0, .int .i64 0, .string ByteArray.empty, .slice none 0 0, .slice none 0 0]) 5 80 Tryd.underlying23 hi hz0 hz1 hz2 rfl (by decide) _ _ _ rfl (HO2.out.alloc _) ⟨w2.heap.size, 0, none⟩ 1 1 [.int .i64 x.kind, .int .i64 x.num, .string ⟨x.text.toArray⟩, .slice an ln cn, .slice ai li ci] rfl (by decide) rfl (cell_five_new _ _ _ _ _ _ _) (one_five _ _ _ _ _ _ _ _ _) (by omega) (by omega) (by simp; omega) ?_; intro l' w4 hown' hgrow hplace)
      go_roundw
      case rel => exact ⟨k + 1, by omega, by go_num, oRel_step HX.out HO.out HF.out HCH.out HRB.out (Below.refl _ _) HB2.out HV.out hown' hgrow hplace⟩
      case measure => simp [intOf]; omega
    · obtain rfl : k = xs.length := by omega
      have HF := Lib.hid (oRel_end hR)
      clear hR
      go_wp2
      go_ret
      exact HF.out
theorem newJ_low {W w w' : World} {j : J} {nv iv : Value} (h : JIn (fun b => w.heap.size ≤ b ∧ b < w'.heap.size) w' j nv iv) (hs : W.heap.size ≤ w.heap.size) (hb : Below W.heap.size W w') : NewJ W j (.returned (jV j nv iv)) w' :=
  ⟨nv, iv, rfl, h.mono fun b hb => ⟨by omega, hb.2⟩, hb⟩
theorem newJ_flat {W w' : World} (k n : Int) (t : List UInt8) (b1 : -9223372036854775808 ≤ k ∧ k ≤ 9223372036854775807) (b2 : -9223372036854775808 ≤ n ∧ n ≤ 9223372036854775807) (b3 : t.length ≤ 9223372036854775807) (hb : Below W.heap.size W w') :
    NewJ W (.mk k n t [] []) (.returned (jV (.mk k n t [] []) (.slice none 0 0) (.slice none 0 0))) w' := by
  refine ⟨_, _, rfl, ?_, hb⟩
  refine LIn.json (iv := .slice none 0 0) ⟨none, 0, 0, 0, fun _ => undef, fun _ => undef, rfl, by simp, by simp, fun hp => by simp at hp, fun i hi => by simp at hi, fun i hi => by simp at hi⟩ ?_ b1 b2 b3
  exact ⟨none, 0, 0, 0, rfl, by simp, by simp, fun i hi => by simp at hi, fun hp => by simp at hp, fun i hi => by simp at hi⟩
@[local go_sem] theorem ta_0_0 (w : World) (v : Value) : (Instr.typeAssert (.iface 47 v) 33 47 true).run Tryd.prog w = .ok (.tuple #[v, .bool true]) w := by kernel_rfl
@[local go_sem] theorem ta_1_0 (w : World) (v : Value) : (Instr.typeAssert (.iface 48 v) 33 47 true).run Tryd.prog w = .ok (.tuple #[.agg #[], .bool false]) w := by kernel_rfl
@[local go_sem] theorem ta_1_1 (w : World) (v : Value) : (Instr.typeAssert (.iface 48 v) 33 48 true).run Tryd.prog w = .ok (.tuple #[v, .bool true]) w := by kernel_rfl
@[local go_sem] theorem ta_2_0 (w : World) (v : Value) : (Instr.typeAssert (.iface 54 v) 33 47 true).run Tryd.prog w = .ok (.tuple #[.agg #[], .bool false]) w := by kernel_rfl
@[local go_sem] theorem ta_2_1 (w : World) (v : Value) : (Instr.typeAssert (.iface 54 v) 33 48 true).run Tryd.prog w = .ok (.tuple #[.bool false, .bool false]) w := by kernel_rfl
@[local go_sem] theorem ta_2_2 (w : World) (v : Value) : (Instr.typeAssert (.iface 54 v) 33 54 true).run Tryd.prog w = .ok (.tuple #[v, .bool true]) w := by kernel_rfl
@[local go_sem] theorem ta_3_0 (w : World) (v : Value) : (Instr.typeAssert (.iface 51 v) 33 47 true).run Tryd.prog w = .ok (.tuple #[.agg #[], .bool false]) w := by kernel_rfl
@[local go_sem] theorem ta_3_1 (w : World) (v : Value) : (Instr.typeAssert (.iface 51 v) 33 48 true).run Tryd.prog w = .ok (.tuple #[.bool false, .bool false]) w := by kernel_rfl
@[local go_sem] theorem ta_3_2 (w : World) (v : Value) : (Instr.typeAssert (.iface 51 v) 33 54 true).run Tryd.prog w = .ok (.tuple #[.int .i64 0, .bool false]) w := by kernel_rfl
@[local go_sem] theorem ta_3_3 (w : World) (v : Value) : (Instr.typeAssert (.iface 51 v) 33 51 true).run Tryd.prog w = .ok (.tuple #[v, .bool true]) w := by kernel_rfl
@[local go_sem] theorem ta_4_0 (w : World) (v : Value) : (Instr.typeAssert (.iface 57 v) 33 47 true).run Tryd.prog w = .ok (.tuple #[.agg #[], .bool false]) w := by kernel_rfl
@[local go_sem] theorem ta_4_1 (w : World) (v : Value) : (Instr.typeAssert (.iface 57 v) 33 48 true).run Tryd.prog w = .ok (.tuple #[.bool false, .bool false]) w := by kernel_rfl
@[local go_sem] theorem ta_4_2 (w : World) (v : Value) : (Instr.typeAssert (.iface 57 v) 33 54 true).run Tryd.prog w = .ok (.tuple #[.int .i64 0, .bool false]) w := by kernel_rfl
@[local go_sem] theorem ta_4_3 (w : World) (v : Value) : (Instr.typeAssert (.iface 57 v) 33 51 true).run Tryd.prog w = .ok (.tuple #[.string ByteArray.empty, .bool false]) w := by kernel_rfl
@[local go_sem] theorem ta_4_4 (w : World) (v : Value) : (Instr.typeAssert (.iface 57 v) 33 57 true).run Tryd.prog w = .ok (.tuple #[v, .bool true]) w := by kernel_rfl
@[local go_sem] theorem ta_5_0 (w : World) (v : Value) : (Instr.typeAssert (.iface 60 v) 33 47 true).run Tryd.prog w = .ok (.tuple #[.agg #[], .bool false]) w := by kernel_rfl
@[local go_sem] theorem ta_5_1 (w : World) (v : Value) : (Instr.typeAssert (.iface 60 v) 33 48 true).run Tryd.prog w = .ok (.tuple #[.bool false, .bool false]) w := by kernel_rfl
@[local go_sem] theorem ta_5_2 (w : World) (v : Value) : (Instr.typeAssert (.iface 60 v) 33 54 true).run Tryd.prog w = .ok (.tuple #[.int .i64 0, .bool false]) w := by kernel_rfl
@[local go_sem] theorem ta_5_3 (w : World) (v : Value) : (Instr.typeAssert (.iface 60 v) 33 51 true).run Tryd.prog w = .ok (.tuple #[.string ByteArray.empty, .bool false]) w := by kernel_rfl
@[local go_sem] theorem ta_5_4 (w : World) (v : Value) : (Instr.typeAssert (.iface 60 v) 33 57 true).run Tryd.prog w = .ok (.tuple #[.slice none 0 0, .bool false]) w := by kernel_rfl
@[local go_sem] theorem ta_5_5 (w : World) (v : Value) : (Instr.typeAssert (.iface 60 v) 33 60 true).run Tryd.prog w = .ok (.tuple #[v, .bool true]) w := by kernel_rfl
theorem heap_set5 {w : World} {g : Nat} {x0 x1 x2 x3 x4 : Value} {T : TypeId} {fr : Nat × Nat} (h : w.heap[g]? = some (.cells #[x0, x1, x2, x3, x4] T fr)) (a b c d e : Value) : (set5 w g 0 a b c d e).heap[g]? = some (.cells #[a, b, c, d, e] T fr) :=
  heap_set (heap_set (heap_set (heap_set (heap_set h 0 a) 1 b) 2 c) 3 d) 4 e
theorem set5_below {W w : World} (h : Below W.heap.size W w) (a b c d e : Value) (o : Nat) : Below W.heap.size W (set5 w W.heap.size o a b c d e) :=
  ((((h.setCell (p := ⟨W.heap.size, o, none⟩) (Nat.le_refl _) _).setCell (p := ⟨W.heap.size, o + 1, none⟩) (Nat.le_refl _) _).setCell (p := ⟨W.heap.size, o + 2, none⟩) (Nat.le_refl _) _).setCell (p := ⟨W.heap.size, o + 3, none⟩) (Nat.le_refl _) _).setCell (p := ⟨W.heap.size, o + 4, none⟩) (Nat.le_refl _) _
theorem newJ_list {W w1 : World} {m : Nat} {xs : List J} {iv : Value} (h : LIn (fun b => m ≤ b ∧ b < w1.heap.size) w1 iv xs) (hm : W.heap.size < m) {a b c d e : Value} (hb : Below W.heap.size W (set5 w1 W.heap.size 0 a b c d e)) :
    NewJ W (.mk 5 0 [] [] xs) (.returned (jV (.mk 5 0 [] [] xs) (.slice none 0 0) iv)) (set5 w1 W.heap.size 0 a b c d e) := by
  refine ⟨_, _, rfl, LIn.json (h.same fun b hS => ⟨⟨by omega, by rw [set5_size]; exact hS.2⟩, set5_far _ _ _ _ _ _ _ _ _ (by omega)⟩) ?_ (by omega) (by omega) (by simp), hb⟩
  exact ⟨none, 0, 0, 0, rfl, by simp, by simp, fun i hi => by simp at hi, fun hp => by simp at hp, fun i hi => by simp at hi⟩
theorem szT_mem : ∀ (ns : List (List UInt8)) (t : List UInt8), t ∈ ns → t.length ≤ szT ns
  | [], _, h => by cases h
  | u :: us, t, h => by
    simp only [szT]
    rcases List.mem_cons.1 h with rfl | h
    · omega
    · have := szT_mem us t h; omega
/-- the object under way, after k names: the block behind w1's holds its five cells -/
def NRel (w1 : World) (iv : Value) (ns : List (List UInt8)) (k : Nat) (wr : World) : Prop :=
  ∃ cur, wr.heap[w1.heap.size]? = some (.cells #[.int .i64 6, .int .i64 0, .string ⟨#[]⟩, cur, iv] 25 (0, 0)) ∧
    wr.ownsRow (w1.heap.size + 1) 9 1 cur k ((ns.take k).map fun t => .string ⟨t.toArray⟩) ∧ Below w1.heap.size w1 wr
theorem nRel_start (w1 : World) (iv : Value) (ns : List (List UInt8)) : NRel w1 iv ns 0 (w1.alloc (.cells #[.int .i64 6, .int .i64 0, .string ⟨#[]⟩, .slice none 0 0, iv] 25)) :=
  ⟨_, heap_alloc_new _ _, World.ownsRow_nil _ _ _ _, (Below.refl _ _).alloc (Nat.le_refl _) _⟩
theorem nRel_own {B k : Nat} {wr w2 : World} {cur : Value} {vals : List Value} (h : wr.ownsRow B 9 1 cur k vals) (hb : Below wr.heap.size wr.drew w2) : w2.ownsRow B 9 1 cur k vals :=
  h.kept (row := none) ⟨hb.os, hb.tape, hb.output, hb.size, fun b hlt _ => hb.block b hlt⟩ (by rcases Classical.em (cur.ownBlock = none) with h | h; exact .inl h; exact .inr h)
theorem nRel_step {w1 wr w2 w4 : World} {iv cur : Value} {ns : List (List UInt8)} {k : Nat} {t2 : List UInt8} {gg ccap : Nat} {o : Obj} (hk : k < ns.length) (hx : ns.getD k [] = t2)
    (hblk : wr.heap[w1.heap.size]? = some (.cells #[.int .i64 6, .int .i64 0, .string ⟨#[]⟩, cur, iv] 25 (0, 0))) (hRB : Below w1.heap.size w1 wr) (hGlt : w1.heap.size < wr.heap.size) (hne : cur.ownBlock ≠ some w1.heap.size)
    (ho : wr.ownsRow (w1.heap.size + 1) 9 1 cur k ((ns.take k).map fun t => .string ⟨t.toArray⟩)) (hb : Below wr.drew.heap.size wr.drew w2)
    (h4 : w4.ownsRow (w1.heap.size + 1) 9 1 (.slice (some ⟨gg, 0, none⟩) (k + 1) ccap) (k + 1) ((ns.take k).map (fun t => .string ⟨t.toArray⟩) ++ [.string ⟨t2.toArray⟩])) (hg : (w2.alloc o).grownBy w4 cur.ownBlock) :
    NRel w1 iv ns (k + 1) (w4.setCell ⟨w1.heap.size, 3, none⟩ (.slice (some ⟨gg, 0, none⟩) (k + 1) ccap)) := by
  have hlt := ho.lt
  have hbs : wr.heap.size ≤ w2.heap.size := hb.size
  have hgg := (h4.lt gg rfl).1
  have e1 : (ns.take (k + 1)).map (fun t => Value.string ⟨t.toArray⟩) = (ns.take k).map (fun t => Value.string ⟨t.toArray⟩) ++ [.string ⟨t2.toArray⟩] := by
    rw [List.take_succ_eq_append_getElem hk, List.map_append]
    congr 1
    rw [← hx]
    simp [hk]
  have hw4 : w4.heap[w1.heap.size]? = wr.heap[w1.heap.size]? := by
    rw [hg.block _ (by simp; omega) (fun e => hne e.symm), heap_alloc_old _ _ (by omega)]
    exact hb.block _ hGlt
  have hbW : Below w1.heap.size w1 w2 := hRB.trans (Below.mono (w := wr) ⟨hb.os, hb.tape, hb.output, hb.size, hb.block⟩ (Nat.le_of_lt hGlt))
  refine ⟨_, heap_set (hw4.trans hblk) 3 _, ?_, ((hbW.alloc (by omega) o).grown hg (by simp; omega) (fun b e => by have := hlt b e; omega)).setCell (Nat.le_refl _) _⟩
  rw [e1]
  refine h4.kept (row := some w1.heap.size) ⟨rfl, rfl, rfl, by simp, fun b _ hb2 => heap_setCell_other _ ⟨w1.heap.size, 3, none⟩ b _ (fun e => hb2 (congrArg some e))⟩ (.inr fun e => ?_)
  have : gg = w1.heap.size := by simpa [Value.ownBlock] using e
  omega
theorem nRel_end {W w1 wr : World} {m : Nat} {iv cur : Value} {ns : List (List UInt8)} {xs : List J} (hB1 : Below W.heap.size W w1) (hW1 : W.heap.size + 2 ≤ w1.heap.size) (hL : LIn (fun b => m ≤ b ∧ b < w1.heap.size) w1 iv xs) (hm : W.heap.size < m)
    (hlen : ∀ t ∈ ns, t.length ≤ 9223372036854775807) (_ : ns.length ≤ 9223372036854775807)
    (hblk : wr.heap[w1.heap.size]? = some (.cells #[.int .i64 6, .int .i64 0, .string ⟨#[]⟩, cur, iv] 25 (0, 0)))
    (ho : wr.ownsRow (w1.heap.size + 1) 9 1 cur ns.length ((ns.take ns.length).map fun t => .string ⟨t.toArray⟩)) (hRB : Below w1.heap.size w1 wr) :
    NewJ W (.mk 6 0 [] ns xs) (.returned (jV (.mk 6 0 [] ns xs) cur iv)) (set5 wr W.heap.size 0 (.int .i64 6) (.int .i64 0) (.string ⟨#[]⟩) cur iv) := by
  have hs := hRB.size
  have hbW : Below W.heap.size W wr := hB1.trans (hRB.mono (by omega))
  refine ⟨_, _, rfl, LIn.json (hL.same fun b hS => ⟨⟨by omega, by rw [set5_size]; omega⟩, (set5_far _ _ _ _ _ _ _ _ _ (by omega)).trans (hRB.block b hS.2)⟩) ?_ (by omega) (by omega) (by simp), set5_below hbW _ _ _ _ _ _⟩
  obtain ⟨_, ho⟩ := ho
  have hl2 : ∀ i, i < ns.length → (ns.getD i []).length ≤ 9223372036854775807 := fun i hi => hlen _ (by simp [hi])
  rcases ho with ⟨rfl, h0⟩ | ⟨g, cap, cu, rfl, hg, hb2, hcap, hmc, hcs, htk⟩
  · exact ⟨none, 0, 0, 0, by rw [h0], by omega, by omega, hl2, fun hp => by omega, fun i hi => by omega⟩
  · have hgl : g < wr.heap.size := by
      rcases Nat.lt_or_ge g wr.heap.size with h' | h'
      · exact h'
      · simp [Array.getElem?_eq_none h'] at hb2
    refine ⟨some ⟨g, 0, none⟩, cap, g, 0, rfl, hcap, hmc, hl2, fun hp => ⟨rfl, by omega, by rw [set5_size]; exact hgl⟩, fun i hi => ?_⟩
    rw [World.cell?_of_block (w := wr) (a := ⟨g, 0 + i, none⟩) (set5_far _ _ _ _ _ _ _ _ _ (show g ≠ W.heap.size by omega)), Nat.zero_add, cell_of_row wr g i _ _ _ hb2]
    have : (cu.toList.take (ns.length * 1))[i]? = some (.string ⟨(ns.getD i []).toArray⟩) := by
      rw [htk, List.take_length]; simp [hi]
    rw [List.getElem?_take, if_pos (by omega)] at this
    simpa using this
set_option maxRecDepth 100000 in
set_option maxHeartbeats 4000000 in
theorem of_go (B : Nat) (w0 : World) (j : J) : ∀ (v : Value), VIn (· < B) w0 v j → szJ j ≤ 1048576 → ∀ (W : World), Below B w0 W → B ≤ W.heap.size →
    Calls Tryd.prog 12 #[v] W (NewJ W j) := by
  induction j using J.ind with
  | h k n t ns xs ih =>
    intro v h hs W hb hB
    have HIH := Lib.hid ih
    have HB := Lib.hid hb
    clear ih hb
    cases h with
    | null =>
      go_enter Tryd.func12, Tryd.ntmps12
      go_wp2
      exact bodyPost_ret (ret_J Tryd.results12 rfl (alloc2_0 W _ _)) rfl (newJ_flat 1 0 [] (by omega) (by omega) (by simp) (((Below.refl _ _).alloc (Nat.le_refl _) _).alloc (by simp) _))
    | bool q =>
      cases q
      · go_enter Tryd.func12, Tryd.ntmps12
        go_wp2
        exact bodyPost_ret (ret_J Tryd.results12 rfl (heap_alloc_new W _)) rfl (newJ_flat 2 0 [] (by omega) (by omega) (by simp) ((Below.refl _ _).alloc (Nat.le_refl _) _))
      · go_enter Tryd.func12, Tryd.ntmps12
        go_wp2
        exact bodyPost_ret (ret_J Tryd.results12 rfl (heap_alloc_new W _)) rfl (newJ_flat 2 1 [] (by omega) (by omega) (by simp) ((Below.refl _ _).alloc (Nat.le_refl _) _))
    | num _ hn =>
      go_enter Tryd.func12, Tryd.ntmps12
      go_wp2
      exact bodyPost_ret (ret_J Tryd.results12 rfl (heap_alloc_new W _)) rfl (newJ_flat 3 n [] (by omega) hn (by simp) ((Below.refl _ _).alloc (Nat.le_refl _) _))
    | text _ ht =>
      have htl : t.length ≤ 281474976710656 := by unfold szJ at hs; omega
      go_enter Tryd.func12, Tryd.ntmps12
      go_wp2_with fail
      refine (clone_any t _ htl).mono ?_
      rintro e w1 ⟨rfl, hb1⟩
      have k0 := (hb1.block _ (by simp)).trans (heap_alloc_new W _)
      have m0 := five_cells k0
      have K0 := Lib.hid k0
      have HB1 := Lib.hid (((Below.refl W.heap.size W).alloc (Nat.le_refl _) _).trans (hb1.mono (by simp)))
      clear hb1 k0
      obtain ⟨m00, m01, m02, m03, m04, m0f⟩ := m0
      go_wp2
      exact bodyPost_ret (ret_J Tryd.results12 rfl (heap_set5 K0.out _ _ _ _ _)) rfl (newJ_flat 4 0 t (by omega) (by omega) ht (set5_below HB1.out _ _ _ _ _ _))
    | list a cap b off vs hcap hm ha hc deep =>
      have HL := Lib.hid (ofL_of B w0 xs (.slice a xs.length cap) ⟨a, cap, b, off, vs, rfl, hcap, hm, ha, hc, deep⟩ (by unfold szJ at hs; omega) (fun i hi v h' => HIH.out _ (by simp [hi]) v h' (by unfold szJ at hs; have := szL_len xs (xs.getD i default) (by simp [hi]); omega)))
      clear hc deep ha
      go_enter Tryd.func12, Tryd.ntmps12
      go_wp2_with fail
      refine (HL.out _ (HB.out.alloc hB _) (by simp; omega)).mono ?_
      rintro e w1 ⟨v1, rfl, hl1, hb1⟩
      obtain ⟨a1, l1, c1, rfl⟩ := hl1.slice
      have k0 := (hb1.block _ (by simp)).trans (heap_alloc_new W _)
      have m0 := five_cells k0
      have K0 := Lib.hid k0
      have HL1 := Lib.hid hl1
      have HB1 := Lib.hid (((Below.refl W.heap.size W).alloc (Nat.le_refl _) _).trans (hb1.mono (by simp)))
      clear hb1 k0 hl1
      obtain ⟨m00, m01, m02, m03, m04, m0f⟩ := m0
      go_wp2
      exact bodyPost_ret (ret_J Tryd.results12 rfl (heap_set5 K0.out _ _ _ _ _)) rfl (newJ_list HL1.out (by simp) (set5_below HB1.out _ _ _ _ _ _))
    | obj a cap b off vs names hcap hm ha hc deep =>
      rename_i nv
      have hnl : ns.length ≤ 1048576 := by unfold szJ at hs; omega
      have HTL := Lib.hid (fun (t : List UInt8) (ht : t ∈ ns) => show t.length ≤ 281474976710656 by unfold szJ at hs; have := szT_mem ns t ht; omega)
      have HL := Lib.hid (ofL_of B w0 xs (.slice a xs.length cap) ⟨a, cap, b, off, vs, rfl, hcap, hm, ha, hc, deep⟩ (by unfold szJ at hs; omega) (fun i hi v h' => HIH.out _ (by simp [hi]) v h' (by unfold szJ at hs; have := szL_len xs (xs.getD i default) (by simp [hi]); omega)))
      clear hc deep ha
      obtain ⟨a', cap', b', off', rfl, hcap', hm', hlen', ha', hc'⟩ := names
      have HC' := Lib.hid hc'
      have HA' := Lib.hid ha'
      clear hc' ha' hlen'
      have hn' : ns.length ≤ 9223372036854775807 := by omega
      obtain ⟨i0, hi, hz0, hz1, hz2⟩ := info_parts Tryd.infoTxt
      go_enter Tryd.func12, Tryd.ntmps12
      go_wp2_with fail
      refine (HL.out _ ((HB.out.alloc hB _).alloc (by simp; omega) _) (by simp; omega)).mono ?_
      rintro e w1 ⟨v1, rfl, hl1, hb1⟩
      obtain ⟨a1, l1, c1, rfl⟩ := hl1.slice
      have k0 := (hb1.block _ (by simp; omega)).trans (alloc2_0 W _ _)
      have k1 := (hb1.block _ (by simp)).trans (alloc2_1 W _ _)
      have K0 := Lib.hid k0
      have HL1 := Lib.hid hl1
      have hW1 : W.heap.size + 2 ≤ w1.heap.size := by have := hb1.size; simp at this; omega
      have HB1 := Lib.hid ((((Below.refl W.heap.size W).alloc (Nat.le_refl _) _).alloc (by simp) _).trans (hb1.mono (by simp; omega)))
      have m10 : w1.cell? ⟨W.heap.size + 1, 0, none⟩ = some (.slice a' ns.length cap') := cell_of_row w1 (W.heap.size + 1) 0 _ _ _ k1
      have m11 : w1.cell? ⟨W.heap.size + 1, 1, none⟩ = some (.slice a xs.length cap) := cell_of_row w1 (W.heap.size + 1) 1 _ _ _ k1
      clear hb1 k0 k1 hl1
      have HST := Lib.hid (nRel_start w1 (.slice a1 l1 c1) ns)
      have hz1' : W.heap.size + 1 < w1.heap.size := by omega
      go_wp2_with fail
      go_loopw [50] (fun i wr => ∃ k : Nat, k ≤ ns.length ∧ i = .int .i64 k ∧ NRel w1 (.slice a1 l1 c1) ns k wr) (fun i _ => ns.length - (intOf i).toNat)
      case atStart => exact ⟨0, by omega, rfl, HST.out⟩
      case round =>
        obtain ⟨k, hk, rfl, hR⟩ := hrel
        by_cases hlt : k < ns.length
        · obtain ⟨ea', hlb'⟩ := HA'.out (by omega)
          subst ea'
          obtain ⟨cur, hblk, hown, hRB⟩ := hR
          have hbw : b' < w1.heap.size := by omega
          have q0 := (hRB.cell (p := ⟨b', off' + k, none⟩) hbw).trans ((HB1.out.cell (p := ⟨b', off' + k, none⟩) (Nat.lt_of_lt_of_le hlb' hB)).trans ((HB.out.cell (p := ⟨b', off' + k, none⟩) hlb').trans (HC'.out k hlt)))
          have htl := HTL.out (ns.getD k []) (by simp [hlt])
          have hw1r := hRB.size
          have hGlt : w1.heap.size < wr.heap.size := by
            rcases Nat.lt_or_ge w1.heap.size wr.heap.size with h' | h'
            · exact h'
            · simp [Array.getElem?_eq_none h'] at hblk
          have m0 := five_cells hblk
          obtain ⟨-, -, -, p3, -, pf⟩ := m0
          have pf3 := pf 3
          obtain ⟨ac, lc, cc, rfl⟩ : ∃ a l c, cur = .slice a l c := by
            rcases hown.2 with ⟨rfl, _⟩ | ⟨g, cap, cur, rfl, _⟩ <;> exact ⟨_, _, _, rfl⟩
          have HBLK := Lib.hid hblk
          have HOWN := Lib.hid hown
          have HRB := Lib.hid hRB
          have hlt0 := hown.lt
          have hne : (Value.slice ac lc cc).ownBlock ≠ some w1.heap.size := fun e => by have := hlt0 _ e; omega
          clear hblk hown hRB pf hlt0
          generalize hx : ns.getD k [] = t2 at *
          have HX := Lib.hid hx
          clear hx
          have HCL := Lib.hid (fun w => clone_any t2 w htl)
          go_wp2_with fail
          go_region_law (first
              | (go_simp; go_at_call 27; refine (HCL.out _).mono ?_; rintro e w2 ⟨rfl, hb⟩; have hown2 := nRel_own HOWN.out hb; have zz2 : w1.heap.size < w2.heap.size := Nat.lt_of_lt_of_le hGlt hb.size; have p32 : w2.cell? ⟨w1.heap.size, 3, none⟩ = some (.slice ac lc cc) := (hb.cell (p := ⟨w1.heap.size, 3, none⟩) hGlt).trans p3; have pf32 : w2.frozen? ⟨w1.heap.size, 3, none⟩ = false := (hb.frozen (p := ⟨w1.heap.size, 3, none⟩) hGlt).trans pf3)
              | (refine step_append_lies _ (by rfl) _ _ _ (by rfl) (w1.heap.size + 1) 9 i0 _ 1 16 Tryd.underlying22 hi hz0 hz1 hz2 rfl (by omega) (.slice ac lc cc) k ((ns.take k).map fun t => .string ⟨t.toArray⟩) (by rfl) (hown2.alloc _)
                  ⟨w2.heap.size, 0, none⟩ 1 1 [.string ⟨t2.toArray⟩] (by rfl) (by rfl) (World.news_of_block (cs := #[.string ⟨t2.toArray⟩]) (t := 9) (fr := (0, 0)) (heap_alloc_new w2 _)) (by simp [Value.oneCell'])
                  (by omega) (by unfold maxLen; omega) (by omega) (by simp; omega) (w2.heap.size + 1) (by simp) ?_; intro gg ccap w4 hown4 hgrow hat hlt4; have r3 : w4.cell? ⟨w1.heap.size, 3, none⟩ = some (.slice ac lc cc) := (by rw [hgrow.cell_far _ (by simp; omega) (Ne.symm hne), World.cell?_alloc_past _ _ _ zz2]; exact p32); have r3f : w4.frozen? ⟨w1.heap.size, 3, none⟩ = false := (by rw [hgrow.frozen_far _ (by simp; omega) (Ne.symm hne), World.frozen?_alloc_past _ _ _ zz2]; exact pf32)))
          all_goals
            have HN := Lib.hid (nRel_step hlt HX.out HBLK.out HRB.out hGlt hne HOWN.out hb hown4 hgrow)
            clear hb hown2 hown4 hgrow r3 r3f p32 pf32 hat
            go_wp2
            go_roundw
            case rel => exact ⟨k + 1, by omega, by go_num, HN.out⟩
            case measure => simp [intOf]; omega
        · obtain rfl : k = ns.length := by omega
          obtain ⟨cur, hblk, hown, hRB⟩ := hR
          obtain ⟨ac, lc, cc, rfl⟩ : ∃ a l c, cur = .slice a l c := by
            rcases hown.2 with ⟨rfl, _⟩ | ⟨g, cap, cur, rfl, _⟩ <;> exact ⟨_, _, _, rfl⟩
          have m0 := five_cells hblk
          obtain ⟨m00, m01, m02, m03, m04, m0f⟩ := m0
          have k0 := (hRB.block W.heap.size (by omega)).trans K0.out
          have n0 := five_cells k0
          obtain ⟨n00, n01, n02, n03, n04, n0f⟩ := n0
          have K0' := Lib.hid k0
          have HF := Lib.hid (nRel_end (W := W) HB1.out hW1 HL1.out (by simp; omega) (fun t ht => by have := HTL.out t ht; omega) hn' hblk hown hRB)
          clear hblk hown hRB k0
          go_wp2
          exact bodyPost_ret (ret_J Tryd.results12 rfl (heap_set5 K0'.out _ _ _ _ _)) rfl HF.out
end Go.Proofs.YtjakkmjipglkiaaDoor.Js
