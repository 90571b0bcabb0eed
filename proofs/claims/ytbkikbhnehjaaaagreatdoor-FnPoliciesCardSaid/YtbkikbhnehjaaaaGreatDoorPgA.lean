
/-
  strings.Builder at this program: copyCheck, WriteByte, WriteString at a builder that the program itself has made; what else stands as it stood. (The library's ready contracts do not fit this translation's copyCheck, which bears a refused statement on the way of a copied builder.) PolicyText, the model's and the program's, and the law FnExactPolicyText, walked. GroupFor, the model's and the program's, and the law FnExactGroupFor, walked. Targets and groups of the call's own: compared with their like, written over, looked at again. Groups of the call's own: marked, looked at again; UriGroup, the model's and the program's. UriGroup, the model's and the program's. The law FnExactUriGroup, walked. SameGroup of the program, walked in this seat: rankOK, targetOK, hasUrl, targetsOK, GroupOK, slices.Equal of targets.
-/
import Derived.Test.YtbkikbhnehjaaaaGreatDoorChecked
import Derived.Test.YtbkikbhnehjaaaaGreatDoorShelf
import Derived.WalkKit
import Derived.WalkSpells
import Derived.WalkLawsBesides
import Derived.Lib.Hide
import Derived.Lib.Builder
import Derived.Lib.AppendStr
import Derived.Lib.UnsafeStr
import Derived.Laws.Externs
import Derived.Laws.IdiomCopy
import Derived.Maps.AppendAt
import Derived.Outline
import Derived.Test.YtbkikbhnehjaaaaGreatDoorPoW
import Derived.Laws.AppendOwn
import Derived.Laws.OwnMore
import Derived.Deep.AppendLies
import Derived.Deep.RegionLaw
import Derived.BigQuiet
import Derived.Test.YtbkikbhnehjaaaaGreatDoorNameWalks
namespace Go.Proofs.YtbkikbhnehjaaaaGreatDoor.Bl
open Go.RowKit
theorem infoByte : (Tryz.prog.info? 5).map (fun i => (i.zero, i.size, i.bytes)) = some (some (.int .u8 0), 1, 1) := by kernel_rfl
theorem sizeBuilder : (Tryz.prog.info? 157).map (·.size) = some 2 := by kernel_rfl
theorem liesBuilder : liesAt Tryz.prog Tryz.prog.depth 157 (2 / Tryz.prog.cellsOf 157) 0 157 1 = true := by kernel_rfl
/-- every block that is neither the builder's nor a plain row of bytes stands as it stood -/
def Kept (b : Nat) (w w' : World) : Prop := ∀ k o, w.heap[k]? = some o → k ≠ b → (∀ C, o ≠ .cells C 5 (0, 0)) → w'.heap[k]? = some o
theorem Kept.refl (b : Nat) (w : World) : Kept b w w := fun _ _ h _ _ => h
theorem Kept.trans {b : Nat} {w w1 w2 : World} (h : Kept b w w1) (h2 : Kept b w1 w2) : Kept b w w2 := fun k o hk hb hc => h2 k o (h k o hk hb hc) hb hc
theorem Kept.alloc {b : Nat} {w w1 : World} (h : Kept b w w1) (o : Obj) : Kept b w (w1.alloc o) := fun k o' hk hb hc => by
  have := h k o' hk hb hc
  have hlt : k < w1.heap.size := by
    rcases Nat.lt_or_ge k w1.heap.size with h | h
    · exact h
    · rw [Array.getElem?_eq_none h] at this; cases this
  rw [Lib.alloc_old w1 _ k hlt]; exact this
theorem Kept.drew {b : Nat} {w w1 : World} (h : Kept b w w1) : Kept b w w1.drew := h
theorem Kept.set {b : Nat} {w w1 : World} (h : Kept b w w1) (o : Nat) (v : Value) : Kept b w (w1.setCell ⟨b, o, none⟩ v) := fun k o' hk hb hc => by
  rw [Below.heap_setCell _ _ _ _ (fun e => hb (by simpa using e))]
  exact h k o' hk hb hc
theorem Kept.grown {b B : Nat} {w w1 w2 : World} {v : Value} {n : Nat} {xs : List Value} (h : Kept b w w1) (hown : w1.ownsRow B 5 1 v n xs) (hg : w1.grownBy w2 v.ownBlock) : Kept b w w2 := fun k o' hk hb hc => by
  have h1 := h k o' hk hb hc
  have hlt : k < w1.heap.size := by
    rcases Nat.lt_or_ge k w1.heap.size with h | h
    · exact h
    · rw [Array.getElem?_eq_none h] at h1; cases h1
  rw [hg.block k hlt ?_]
  · exact h1
  · intro e
    rcases hown.2 with ⟨rfl, _⟩ | ⟨g, cap, cur, rfl, _, hgg, _⟩
    · simp [Value.ownBlock] at e
    · simp only [Value.ownBlock, Option.some.injEq] at e
      subst e
      rw [hgg] at h1
      exact hc _ (Option.some.inj h1).symm
abbrev IsB (B b : Nat) (l : List UInt8) (w : World) : Prop := Lib.IsBuilder 157 5 B b (Lib.byteCells l) w
theorem IsB.fresh (w : World) : IsB w.heap.size w.heap.size [] (w.alloc (.cells #[.pointer none, .slice none 0 0] 157)) := by
  refine .inl ⟨Nat.le_refl _, .slice none 0 0, ?_, World.ownsRow_nil _ _ _ _, by simp [Value.ownBlock]⟩
  show (w.heap.push _)[w.heap.size]? = _
  simp
theorem IsB.lt {B b : Nat} {l : List UInt8} {w : World} (h : IsB B b l w) : b < w.heap.size := by
  rcases h with h | h <;> exact h.lt
theorem IsB.alloc {B b : Nat} {l : List UInt8} {w : World} (h : IsB B b l w) (o : Obj) : IsB B b l (w.alloc o) := by
  have hlt := h.lt
  rcases h with ⟨hB, v, hb, hown, hne⟩ | ⟨hB, v, hb, hown, hne⟩
  · exact .inl ⟨hB, v, by rw [Lib.alloc_old w _ b hlt]; exact hb, hown.alloc _, hne⟩
  · exact .inr ⟨hB, v, by rw [Lib.alloc_old w _ b hlt]; exact hb, hown.alloc _, hne⟩
theorem IsB.drew {B b : Nat} {l : List UInt8} {w : World} (h : IsB B b l w) : IsB B b l w.drew := h
set_option maxHeartbeats 1000000 in
set_option maxRecDepth 100000 in
theorem check_used (b : Nat) (w : World) (h0 : w.cell? ⟨b, 0, none⟩ = some (.pointer (some ⟨b, 0, none⟩))) :
    Calls Tryz.prog 212 #[.pointer (some ⟨b, 0, none⟩)] w fun e w' => e = .returned (.tuple #[]) ∧ w' = w := by
  obtain ⟨j, hj, _⟩ := Option.map_eq_some_iff.1 sizeBuilder
  go_enter Tryz.func212, Tryz.ntmps212
  go_wp2
  rw [Lib.run_neq_ptr_same w _ Tryz.underlying155 hj]
  go_wp2
  go_end0
  exact ⟨rfl, rfl⟩
set_option maxHeartbeats 1000000 in
set_option maxRecDepth 100000 in
theorem check_fresh (b : Nat) (w : World) (h0 : w.cell? ⟨b, 0, none⟩ = some (.pointer none)) (hsh : w.shape? b = some (157, 2)) (hfz : w.frozen? ⟨b, 0, none⟩ = false) :
    Calls Tryz.prog 212 #[.pointer (some ⟨b, 0, none⟩)] w fun e w' => e = .returned (.tuple #[]) ∧ w' = w.setCell ⟨b, 0, none⟩ (.pointer (some ⟨b, 0, none⟩)) := by
  obtain ⟨j, hj, hjs⟩ := Option.map_eq_some_iff.1 sizeBuilder
  go_enter Tryz.func212, Tryz.ntmps212
  go_wp2
  rw [Lib.run_to_unsafe w ⟨b, 0, none⟩ Tryz.underlying155 Tryz.underlying289 hj (by rw [hjs]; decide) hsh (Nat.zero_lt_succ 1)]
  simp only [Result.andThen]
  rw [Oper.upon_value]
  go_wp2
  rw [run_callFunc_extern Tryz.func283 (by kernel_rfl) (by kernel_rfl) (by kernel_rfl) (e := Extern.AbiNoEscape.same) (by kernel_rfl)]
  rw [Lib.run_noEscape]
  simp only [Result.andThen]
  rw [Oper.upon_value]
  go_wp2
  rw [Lib.run_from_unsafe w ⟨b, 0, none⟩ Tryz.underlying289 Tryz.underlying155 hj hsh liesBuilder]
  simp only [Result.andThen]
  rw [Oper.upon_value]
  go_wp2
  go_end0
  exact ⟨rfl, rfl⟩
theorem check_any (B b : Nat) (bs : List Value) (w : World) (h : Lib.IsBuilder 157 5 B b bs w) :
    Calls Tryz.prog 212 #[.pointer (some ⟨b, 0, none⟩)] w fun e w' => e = .returned (.tuple #[]) ∧ (Lib.BuilderAt 157 5 B b (.pointer (some ⟨b, 0, none⟩)) bs w' ∧ Below B w w' ∧ Kept b w w') := by
  rcases h with h | h
  · refine (check_fresh b w h.cell0 h.shape h.frozen0).mono ?_
    rintro e w' ⟨rfl, rfl⟩
    exact ⟨rfl, h.used _, (Below.refl B w).setCell (p := ⟨b, 0, none⟩) h.1 _, (Kept.refl b w).set 0 _⟩
  · refine (check_used b w h.cell0).mono ?_
    rintro e w' ⟨rfl, rfl⟩
    exact ⟨rfl, h, Below.refl B _, Kept.refl b _⟩
set_option maxHeartbeats 2000000 in
set_option maxRecDepth 100000 in
theorem writeByte_any (B b : Nat) (l : List UInt8) (c : UInt8) (w : World) (h : IsB B b l w) (hlen : l.length + 1 ≤ 140737488355328) (hBw : B ≤ w.heap.size) :
    Calls Tryz.prog 261 #[.pointer (some ⟨b, 0, none⟩), .int .u8 c.toNat] w fun e w' => e = .returned .nilIface ∧ (IsB B b (l ++ [c]) w' ∧ Below B w w' ∧ Kept b w w') := by
  obtain ⟨i0, hi, hz0, hz1, hz2⟩ := info_parts infoByte
  go_enter Tryz.func261, Tryz.ntmps261
  go_wp2_with (go_at_call 212; refine (check_any B b _ _ h).mono ?_)
  rintro e w1 ⟨rfl, h1, hb1, hk1⟩
  obtain ⟨hB, v, hbk, hown, hne⟩ := h1
  rw [Lib.byteCells_length] at hown
  have c0 : w1.cell? ⟨b, 0, none⟩ = some (.pointer (some ⟨b, 0, none⟩)) := by rw [Lib.cell_of_heap hbk]; rfl
  have c1 : w1.cell? ⟨b, 1, none⟩ = some v := by rw [Lib.cell_of_heap hbk]; rfl
  go_wp2_with (at_builtin; refine wpList_append_own _ rfl _ _ 65 rfl B 5 i0 (.int .u8 0) 1 1 Tryz.underlying65 hi hz0 hz1 hz2 rfl (by decide) _ _ _ rfl (hown.alloc _) ⟨w1.heap.size, 0, none⟩ 1 1 [.int .u8 c.toNat] rfl rfl ?c1 ?c2 ?c3 ?c4 ?c5 ?_)
  case c1 =>
    intro j u hj
    match j, hj with
    | 0, hj => simp at hj; subst hj; simp [Addr.add]
  case c2 => intro u hu; simp at hu; subst hu; rfl
  case c3 => unfold maxLen; omega
  case c4 => omega
  case c5 => have := hb1.size; simp; omega
  intro v' w2 hown' hgrow _
  have hlt : b < w1.heap.size := by
    rcases Nat.lt_or_ge b w1.heap.size with h' | h'
    · exact h'
    · simp [Array.getElem?_eq_none h'] at hbk
  have hb2 : w2.heap[b]? = some (.cells #[.pointer (some ⟨b, 0, none⟩), v] 157 (0, 0)) := by
    rw [hgrow.block b (by simp; omega) (fun e => hne e.symm), Lib.alloc_old w1 _ b hlt]
    exact hbk
  have d0 : w2.cell? ⟨b, 0, none⟩ = some (.pointer (some ⟨b, 0, none⟩)) := by rw [Lib.cell_of_heap hb2]; rfl
  have d1 : w2.cell? ⟨b, 1, none⟩ = some v := by rw [Lib.cell_of_heap hb2]; rfl
  have f1 : w2.frozen? ⟨b, 1, none⟩ = false := Lib.frozen_of_heap hb2 1
  obtain ⟨g, cap, rfl⟩ : ∃ g cap, v' = .slice (some ⟨g, 0, none⟩) (l.length + 1) cap := by
    rcases hown'.2 with ⟨_, h0⟩ | ⟨g, cap, cur, hv, _⟩
    · omega
    · exact ⟨g, cap, hv⟩
  go_wp2
  go_ret
  refine ⟨rfl, .inr ?_, ?_, ((hk1.alloc _).grown (hown.alloc _) hgrow).set 1 _⟩
  · exact Lib.BuilderAt.put (T := 157) (e := 5) hB hb2 (bs' := Lib.byteCells (l ++ [c])) (by simpa [Lib.byteCells] using hown') (by decide)
  · exact ((hb1.alloc (by have := hb1.size; omega) _).grown hgrow (by have := hb1.size; simp; omega) (fun k hk => (hown.lt k hk).1)).setCell (p := ⟨b, 1, none⟩) hB _
set_option maxHeartbeats 2000000 in
set_option maxRecDepth 100000 in
theorem writeString_any (B b : Nat) (l s : List UInt8) (w : World) (h : IsB B b l w) (hlen : l.length + s.length ≤ 140737488355328) (hBw : B ≤ w.heap.size) :
    Calls Tryz.prog 115 #[.pointer (some ⟨b, 0, none⟩), .string ⟨s.toArray⟩] w fun e w' => e = .returned (.tuple #[.int .i64 s.length, .nilIface]) ∧ (IsB B b (l ++ s) w' ∧ Below B w w' ∧ Kept b w w') := by
  obtain ⟨i0, hi, hz0, hz1, hz2⟩ := info_parts infoByte
  have hsz : (⟨s.toArray⟩ : ByteArray).size = s.length := rfl
  go_enter Tryz.func115, Tryz.ntmps115
  go_wp2_with (go_at_call 212; refine (check_any B b _ _ h).mono ?_)
  rintro e w1 ⟨rfl, h1, hb1, hk1⟩
  obtain ⟨hB, v, hbk, hown, hne⟩ := h1
  rw [Lib.byteCells_length] at hown
  have c0 : w1.cell? ⟨b, 0, none⟩ = some (.pointer (some ⟨b, 0, none⟩)) := by rw [Lib.cell_of_heap hbk]; rfl
  have c1 : w1.cell? ⟨b, 1, none⟩ = some v := by rw [Lib.cell_of_heap hbk]; rfl
  go_wp2_with (at_builtin; refine Lib.wpList_append_own_string _ rfl _ _ 65 9 rfl B 5 i0 Tryz.underlying65 Tryz.underlying9 hi hz0 hz1 hz2 _ _ _ rfl hown ⟨s.toArray⟩ rfl ?c3 ?c4 ?c5 ?_)
  case c3 => unfold maxLen; rw [hsz]; omega
  case c4 => rw [hsz]; omega
  case c5 => have := hb1.size; omega
  intro v' w2 hown' hgrow _
  have hlt : b < w1.heap.size := by
    rcases Nat.lt_or_ge b w1.heap.size with h' | h'
    · exact h'
    · simp [Array.getElem?_eq_none h'] at hbk
  have hb2 : w2.heap[b]? = some (.cells #[.pointer (some ⟨b, 0, none⟩), v] 157 (0, 0)) := by
    rw [hgrow.block b hlt (fun e => hne e.symm)]
    exact hbk
  have d0 : w2.cell? ⟨b, 0, none⟩ = some (.pointer (some ⟨b, 0, none⟩)) := by rw [Lib.cell_of_heap hb2]; rfl
  have d1 : w2.cell? ⟨b, 1, none⟩ = some v := by rw [Lib.cell_of_heap hb2]; rfl
  have f1 : w2.frozen? ⟨b, 1, none⟩ = false := Lib.frozen_of_heap hb2 1
  obtain ⟨ao, n', cap, rfl⟩ : ∃ ao n' cap, v' = .slice ao n' cap := by
    rcases hown'.2 with ⟨hv, _⟩ | ⟨g, cap, cur, hv, _⟩
    · exact ⟨_, _, _, hv⟩
    · exact ⟨_, _, _, hv⟩
  go_wp2
  go_ret2
  refine ⟨rfl, .inr ?_, ?_, (hk1.grown hown hgrow).set 1 _⟩
  · exact Lib.BuilderAt.put (T := 157) (e := 5) hB hb2 (bs' := Lib.byteCells (l ++ s)) (by simpa [Lib.byteCells, Lib.strCells, hsz] using hown') (by decide)
  · exact (hb1.grown hgrow (by have := hb1.size; omega) (fun k hk => (hown.lt k hk).1)).setCell (p := ⟨b, 1, none⟩) hB _
end Go.Proofs.YtbkikbhnehjaaaaGreatDoor.Bl
namespace Go.Proofs.YtbkikbhnehjaaaaGreatDoor.Po
open Go.RowKit
open Go.Proofs.YtbkikbhnehjaaaaGreatDoor.Tx
open Go.Proofs.YtbkikbhnehjaaaaGreatDoor.Ul hiding ret_bool
open Go.Proofs.YtbkikbhnehjaaaaGreatDoor.Aw (wordB)
open Go.Proofs.YtbkikbhnehjaaaaGreatDoor.Bl (IsB Kept writeString_any)
@[local go_sem] theorem bappP (a b : List UInt8) : (⟨a.toArray⟩ : ByteArray) ++ ⟨b.toArray⟩ = ⟨(a ++ b).toArray⟩ := by
  apply ByteArray.ext; simp
theorem ret_str {a b : List UInt8} (h : a = b) : Ending.returned (.string ⟨a.toArray⟩) = .returned (.string ⟨b.toArray⟩) := by rw [h]
/-- the first j words of a rule, each behind a blank -/
def wK (ws : List (List UInt8)) : Nat → List UInt8
  | 0 => []
  | j + 1 => wK ws j ++ (32 :: ws.getD j [])
/-- what stands ahead of rule k -/
def sepK (k : Nat) : List UInt8 := if k = 0 then [] else [59, 32]
/-- the first k rules -/
def tK (xs : List Rl) : Nat → List UInt8
  | 0 => []
  | k + 1 => tK xs k ++ sepK k ++ (xs.getD k default).name ++ wK (xs.getD k default).words (xs.getD k default).words.length
theorem wK_len (ws : List (List UInt8)) (h : ∀ j, j < ws.length → (ws.getD j []).length ≤ 1048576) : ∀ j, j ≤ ws.length → (wK ws j).length ≤ j * 1048577
  | 0, _ => by simp [wK]
  | j + 1, hj => by
    have ih := wK_len ws h j (by omega)
    have := h j (by omega)
    simp only [wK, List.length_append, List.length_cons]
    omega
theorem tK_len (xs : List Rl) (hn : ∀ i, i < xs.length → (xs.getD i default).name.length ≤ 1048576) (hw : ∀ i, i < xs.length → (xs.getD i default).words.length ≤ 8 ∧ ∀ j, j < (xs.getD i default).words.length → ((xs.getD i default).words.getD j []).length ≤ 1048576) :
    ∀ k, k ≤ xs.length → (tK xs k).length ≤ k * 9437194
  | 0, _ => by simp [tK]
  | k + 1, hk => by
    have ih := tK_len xs hn hw k (by omega)
    have h1 := hn k (by omega)
    have h2 := wK_len (xs.getD k default).words (hw k (by omega)).2 _ (Nat.le_refl _)
    have h3 := (hw k (by omega)).1
    have h4 : (sepK k).length ≤ 2 := by unfold sepK; split <;> simp
    simp only [tK, List.length_append]
    have h5 : (xs.getD k default).words.length * 1048577 ≤ 8 * 1048577 := Nat.mul_le_mul_right _ h3
    omega
theorem rls_words : ∀ (xs pre : List Rl), rlsB pre xs = true → ∀ i, i < xs.length → (xs.getD i default).words.length ≤ 8
  | [], _, _, i, hi => by simp at hi
  | x :: r, pre, h, i, hi => by
    unfold rlsB at h
    simp only [Bool.and_eq_true] at h
    cases i with
    | zero =>
      have := h.1.1
      unfold rlB at this
      simp only [Bool.and_eq_true, decide_eq_true_eq] at this
      simpa using this.1.2
    | succ i => simpa using rls_words r (pre ++ [x]) h.2 i (by simpa using hi)
/-- how great the rules of an OK policy are -/
structure Fit8 (xs : List Rl) : Prop where
  len : xs.length ≤ 8
  name : ∀ i, i < xs.length → (xs.getD i default).name.length ≤ 1048576
  words : ∀ i, i < xs.length → (xs.getD i default).words.length ≤ 8 ∧ ∀ j, j < (xs.getD i default).words.length → ((xs.getD i default).words.getD j []).length ≤ 1048576
theorem fit8_of (p : Pl) (hs : Small p) (h : plB p = true) : Fit8 p.rules := by
  unfold plB at h
  simp only [Bool.and_eq_true, decide_eq_true_eq] at h
  exact ⟨h.1, hs.name, fun i hi => ⟨rls_words _ _ h.2.1 i hi, (hs.words i hi).2⟩⟩
set_option maxRecDepth 100000 in
set_option maxHeartbeats 2000000 in
theorem ltextS_any (B : Nat) (w0 : World) (p : Pl) (uv rv : Value) (hu : ∃ a l c, uv = .slice a l c) (hr : RlIn (· < B) w0 rv p.rules) (hf : Fit8 p.rules) (W : World) (hb : Below B w0 W) (hB : B ≤ W.heap.size) :
    Calls Tryz.prog 118 #[pV p uv rv] W fun e w' => e = .returned (.string ⟨(tK p.rules p.rules.length).toArray⟩) ∧ Below W.heap.size W w' := by
  obtain ⟨a1, l1, c1, rfl⟩ := hu
  obtain ⟨n, us, xs⟩ := p
  simp only at hr hf ⊢
  obtain ⟨a, cap, b, off, vs, rfl, hcap, hm, hlen, ha, hc⟩ := hr
  have HC := Lib.hid hc
  have HA := Lib.hid ha
  have HF := Lib.hid hf
  have HTL := Lib.hid (tK_len xs hf.name hf.words)
  have h8 := hf.len
  have HB1 := Lib.hid ((Below.refl W.heap.size W).alloc (Nat.le_refl _) (.cells #[.string ⟨n.toArray⟩, .slice a1 l1 c1, .slice a xs.length cap] 26))
  have HW1 := Lib.hid (hb.trans (HB1.out.mono hB))
  obtain ⟨m0, m1, m2, mf⟩ := three_cells (heap_alloc_new W (.cells #[.string ⟨n.toArray⟩, .slice a1 l1 c1, .slice a xs.length cap] 26))
  clear hc ha hlen hf hb
  go_enter Tryz.func118, Tryz.ntmps118
  go_wp2
  generalize W.alloc (.cells #[.string ⟨n.toArray⟩, .slice a1 l1 c1, .slice a xs.length cap] 26) = w1 at *
  go_loop [3, 4] (fun t i => ∃ k : Nat, k ≤ xs.length ∧ i = .int .i64 k ∧ t = .string ⟨(tK xs k).toArray⟩) (fun _ i => xs.length - (intOf i).toNat)
  case atStart => exact ⟨0, by omega, rfl, rfl⟩
  case round =>
    obtain ⟨k, hk, rfl, rfl⟩ := hrel
    have hl := HTL.out k hk
    have hl2 : k * 9437194 ≤ 8 * 9437194 := Nat.mul_le_mul_right _ (by omega)
    by_cases hlt : k < xs.length
    · obtain ⟨ea, hlb⟩ := HA.out (by omega)
      subst ea
      obtain ⟨c0, c1', T1⟩ := HC.out k hlt
      have q0 := (HW1.out.cell (p := ⟨b, off + k * 2, none⟩) hlb).trans c0
      have q1 := (HW1.out.cell (p := ⟨b, off + k * 2 + 1, none⟩) hlb).trans c1'
      obtain ⟨a5, cap5, b5, off5, e5, hcap5, hm5, hl5, ha5, hc5⟩ := T1
      rw [e5] at q1
      have HA5 := Lib.hid ha5
      have HC5 := Lib.hid hc5
      have TS := Lib.hid (show tK xs (k + 1) = tK xs k ++ sepK k ++ (xs.getD k default).name ++ wK (xs.getD k default).words (xs.getD k default).words.length from rfl)
      have hnl := HF.out.name k hlt
      have hwl := HF.out.words k hlt
      have HWL := Lib.hid (wK_len _ hwl.2)
      have hw8 := hwl.1
      have HW2 := Lib.hid hwl.2
      clear c0 c1' ha5 hc5 e5 hl5 hwl
      generalize xs.getD k default = x at *
      obtain ⟨nm, ws⟩ := x
      simp only at *
      generalize tK xs k = T at *
      have hTl : T.length ≤ 75497552 := by omega
      have b1 : ¬ 9223372036854775807 < T.length + 2 := by omega
      have b2 : ¬ 9223372036854775807 < T.length + 2 + nm.length := by omega
      have b3 : ¬ 9223372036854775807 < T.length + nm.length := by omega
      have b2' : ¬ 9223372036854775807 < T.length + (nm.length + 1 + 1) := by omega
      clear hl hl2
      by_cases h0 : k = 0
      · have d0 : decide ((0 : Int) < (k : Int)) = false := by simp [h0]
        have d0' : ¬ 0 < k := by omega
        have TSP := Lib.hid (TS.out.trans (show T ++ sepK k ++ nm ++ wK ws ws.length = (T ++ nm) ++ wK ws ws.length by rw [show sepK k = [] by simp [sepK, h0]]; simp))
        have hPl : (T ++ nm).length ≤ 100000000 := by rw [List.length_append]; omega
        clear h0 hTl
        go_wp2
        generalize (T ++ nm) = P at *
        go_loop [3, 5] (fun t i => ∃ j : Nat, j ≤ ws.length ∧ i = .int .i64 j ∧ t = .string ⟨(P ++ wK ws j).toArray⟩) (fun _ i => ws.length - (intOf i).toNat)
        case atStart => exact ⟨0, by omega, rfl, by simp [wK]⟩
        case round =>
          obtain ⟨j, hj, rfl, rfl⟩ := hrel
          have hwj := HWL.out j hj
          by_cases hlj : j < ws.length
          · obtain ⟨ea5, hlb5⟩ := HA5.out (by omega)
            subst ea5
            have q2 := (HW1.out.cell (p := ⟨b5, off5 + j, none⟩) hlb5).trans (HC5.out j hlj)
            have hyl := HW2.out j hlj
            have WS := Lib.hid (show wK ws (j + 1) = wK ws j ++ (32 :: ws.getD j []) from rfl)
            generalize ws.getD j [] = y at *
            generalize wK ws j = V at *
            have hjm : j * 1048577 ≤ 8 * 1048577 := Nat.mul_le_mul_right _ (by omega)
            have b4 : ¬ 9223372036854775807 < y.length + 1 := by omega
            have b4' : ¬ 9223372036854775807 < 1 + y.length := by omega
            have b5 : ¬ 9223372036854775807 < P.length + V.length + (y.length + 1) := by omega
            clear hjm hwj hyl
            go_wp2
            go_round
            case rel => exact ⟨j + 1, by omega, by go_num, by rw [WS.out]; try simp⟩
            case measure => simp [intOf]; omega
          · obtain rfl : j = ws.length := by omega
            go_wp2
            go_round
            case rel => exact ⟨k + 1, by omega, by go_num, by rw [TSP.out]⟩
            case measure => simp [intOf]; omega
      · have d0 : decide ((0 : Int) < (k : Int)) = true := by simp; omega
        have d0' : 0 < k := by omega
        have TSP := Lib.hid (TS.out.trans (show T ++ sepK k ++ nm ++ wK ws ws.length = (T ++ 59 :: 32 :: nm) ++ wK ws ws.length by rw [show sepK k = [59, 32] by simp [sepK, h0]]; simp))
        have hPl : (T ++ 59 :: 32 :: nm).length ≤ 100000000 := by simp only [List.length_append, List.length_cons]; omega
        clear h0 hTl
        go_wp2
        generalize (T ++ 59 :: 32 :: nm) = P at *
        go_loop [3, 5] (fun t i => ∃ j : Nat, j ≤ ws.length ∧ i = .int .i64 j ∧ t = .string ⟨(P ++ wK ws j).toArray⟩) (fun _ i => ws.length - (intOf i).toNat)
        case atStart => exact ⟨0, by omega, rfl, by simp [wK]⟩
        case round =>
          obtain ⟨j, hj, rfl, rfl⟩ := hrel
          have hwj := HWL.out j hj
          by_cases hlj : j < ws.length
          · obtain ⟨ea5, hlb5⟩ := HA5.out (by omega)
            subst ea5
            have q2 := (HW1.out.cell (p := ⟨b5, off5 + j, none⟩) hlb5).trans (HC5.out j hlj)
            have hyl := HW2.out j hlj
            have WS := Lib.hid (show wK ws (j + 1) = wK ws j ++ (32 :: ws.getD j []) from rfl)
            generalize ws.getD j [] = y at *
            generalize wK ws j = V at *
            have hjm : j * 1048577 ≤ 8 * 1048577 := Nat.mul_le_mul_right _ (by omega)
            have b4 : ¬ 9223372036854775807 < y.length + 1 := by omega
            have b4' : ¬ 9223372036854775807 < 1 + y.length := by omega
            have b5 : ¬ 9223372036854775807 < P.length + V.length + (y.length + 1) := by omega
            clear hjm hwj hyl
            go_wp2
            go_round
            case rel => exact ⟨j + 1, by omega, by go_num, by rw [WS.out]; try simp⟩
            case measure => simp [intOf]; omega
          · obtain rfl : j = ws.length := by omega
            go_wp2
            go_round
            case rel => exact ⟨k + 1, by omega, by go_num, by rw [TSP.out]⟩
            case measure => simp [intOf]; omega
    · obtain rfl : k = xs.length := by omega
      go_wp2
      go_ret
      exact ⟨rfl, HB1.out⟩
def ptT (p : Pl) : List UInt8 := if plB p then tK p.rules p.rules.length else []
def ptC (p : Pl) : Int := if plB p then 0 else 1
set_option maxRecDepth 100000 in
set_option maxHeartbeats 1000000 in
theorem ptextS_any (B : Nat) (w0 : World) (p : Pl) (uv rv : Value) (hu : TxtsIn (· < B) w0 uv p.uris) (hr : RlIn (· < B) w0 rv p.rules) (hs : Small p) (W : World) (hb : Below B w0 W) (hB : B ≤ W.heap.size) :
    Calls Tryz.prog 46 #[pV p uv rv] W fun e w' => e = .returned (.tuple #[.string ⟨(ptT p).toArray⟩, .int .i64 (ptC p)]) ∧ Below W.heap.size W w' := by
  have HK := Lib.hid (fun W' h1 h2 => okS_any B w0 p uv rv hu hr hs.rules hs.name hs.words W' h1 h2)
  have hus := hu.slice
  have HFF := Lib.hid (fun (hp : plB p = true) (W' : World) h1 h2 => ltextS_any B w0 p uv rv hus hr (fit8_of p hs hp) W' h1 h2)
  obtain ⟨a1, l1, cu, rfl⟩ := hus
  obtain ⟨a2, l2, c2, rfl⟩ := hr.slice
  have HB := Lib.hid hb
  clear hu hr hs hb
  obtain ⟨r, hrr⟩ : ∃ r, plB p = r := ⟨_, rfl⟩
  rw [hrr] at HK
  have e1 : ptT p = if r then tK p.rules p.rules.length else [] := by rw [← hrr]; rfl
  have e2 : ptC p = if r then 0 else 1 := by rw [← hrr]; rfl
  rw [e1, e2]
  clear e1 e2
  obtain ⟨tt, htt⟩ : ∃ t, tK p.rules p.rules.length = t := ⟨_, rfl⟩
  rw [htt]
  rw [htt] at HFF
  clear htt
  have HK5 := heap_alloc_new W (xO p (.slice a1 l1 cu) (.slice a2 l2 c2))
  have HB1 := Lib.hid ((Below.refl W.heap.size W).alloc (Nat.le_refl _) (xO p (.slice a1 l1 cu) (.slice a2 l2 c2)))
  go_enter Tryz.func46, Tryz.ntmps46
  go_wp2_with fail
  refine (HK.out _ (HB.out.alloc hB _) (by simp; omega)).mono ?_
  rintro e w1 ⟨rfl, hb1⟩
  obtain ⟨m0, m1, m2, mf⟩ := three_cells ((hb1.block _ (by simp)).trans HK5)
  have HF := Lib.hid (below_chain HB1.out hb1)
  have z1 := HF.out.size
  clear hb1 HK5 HK
  cases r
  · clear HFF
    go_wp2
    exact bodyPost_ret (v := .tuple #[.string ⟨#[]⟩, .int .i64 1]) (by simp [results, Tryz.results46, go_sem]) rfl ⟨rfl, HF.out⟩
  · go_wp2_with fail
    refine (HFF.out hrr _ (HB.out.trans (HF.out.mono hB)) (by omega)).mono ?_
    rintro e w2 ⟨rfl, hb2⟩
    have HF2 := Lib.hid (below_chain HF.out hb2)
    clear hb2
    go_wp2
    exact bodyPost_ret (v := .tuple #[.string ⟨tt.toArray⟩, .int .i64 0]) (by simp [results, Tryz.results46, go_sem]) rfl ⟨rfl, HF2.out⟩
theorem below_bel {B : Nat} {a w w' : World} (h : Below B a w) (hb : Below w.heap.size w w') (hB : B ≤ w.heap.size) : Below B a w' := h.trans (hb.mono hB)
theorem isB_bel {B b : Nat} {l : List UInt8} {w : World} (o : Obj) (h : IsB B b l w) : IsB B b l (w.alloc o) := h.alloc o
set_option maxRecDepth 100000 in
set_option maxHeartbeats 2000000 in
theorem ptextI_any (B : Nat) (w0 : World) (p : Pl) (uv rv : Value) (hu : TxtsIn (· < B) w0 uv p.uris) (hr : RlIn (· < B) w0 rv p.rules) (hs : Small p) (W : World) (hb : Below B w0 W) (hB : B ≤ W.heap.size) (hT : Tab W) (hM : MaxL W) :
    Calls Tryz.prog 45 #[pV p uv rv] W fun e w' => e = .returned (.tuple #[.string ⟨(ptT p).toArray⟩, .int .i64 (ptC p)]) ∧ Below W.heap.size W w' := by
  have HK := Lib.hid (fun W' h1 h2 h3 h4 => polI_any B w0 p uv rv hu hr hs W' h1 h2 h3 h4)
  have HFIT := Lib.hid (fun (hp : plB p = true) => fit8_of p hs hp)
  obtain ⟨a1, l1, cu, rfl⟩ := hu.slice
  have HB := Lib.hid hb
  have HT := Lib.hid hT
  have HM := Lib.hid hM
  clear hu hs hb hT hM
  obtain ⟨n, us, xs⟩ := p
  simp only at hr
  obtain ⟨a, cap, b, off, vs, rfl, hcap, hm, hlen, ha, hc⟩ := hr
  have HC := Lib.hid hc
  have HA := Lib.hid ha
  obtain ⟨r, hrr⟩ : ∃ r, plB ⟨n, us, xs⟩ = r := ⟨_, rfl⟩
  rw [hrr] at HK HFIT
  have e1 : ptT ⟨n, us, xs⟩ = if r then tK xs xs.length else [] := by rw [← hrr]; rfl
  have e2 : ptC ⟨n, us, xs⟩ = if r then 0 else 1 := by rw [← hrr]; rfl
  rw [e1, e2]
  clear e1 e2 hrr hc ha hlen
  have HK5 := heap_alloc_new W (.cells #[.string ⟨n.toArray⟩, .slice a1 l1 cu, .slice a xs.length cap] 26)
  have HB1 := Lib.hid ((Below.refl W.heap.size W).alloc (Nat.le_refl _) (.cells #[.string ⟨n.toArray⟩, .slice a1 l1 cu, .slice a xs.length cap] 26))
  go_enter Tryz.func45, Tryz.ntmps45
  go_wp2_with fail
  refine (HK.out _ (HB.out.alloc hB _) (by simp; omega) (HT.out.below HB1.out) (HM.out.below HB1.out)).mono ?_
  rintro e w1 ⟨rfl, hb1⟩
  have k1 := (hb1.block _ (by simp)).trans HK5
  obtain ⟨m0, m1, m2, mf⟩ := three_cells k1
  have HK1 := Lib.hid k1
  have HF := Lib.hid (below_chain HB1.out hb1)
  have z1 : W.heap.size < w1.heap.size := by have := hb1.size; simp at this; omega
  clear hb1 HK5 HK k1
  cases r
  · go_wp2
    exact bodyPost_ret (v := .tuple #[.string ⟨#[]⟩, .int .i64 1]) (by simp [results, Tryz.results45, go_sem]) rfl ⟨rfl, HF.out⟩
  · have hf := HFIT.out (by first | rfl | trivial)
    have HFT := Lib.hid hf
    have HTL := Lib.hid (tK_len xs hf.name hf.words)
    have h8 := hf.len
    have HI0 := Lib.hid (IsB.fresh w1)
    have HBB := Lib.hid ((Below.refl w1.heap.size w1).alloc (Nat.le_refl _) (.cells #[.pointer none, .slice none 0 0] 157))
    have hz0 : w1.heap.size ≤ (w1.alloc (.cells #[.pointer none, .slice none 0 0] 157)).heap.size := by simp
    clear hf HFIT
    go_wp2
    generalize w1.alloc (.cells #[.pointer none, .slice none 0 0] 157) = w2 at *
    go_loopw [15] (fun i wr => ∃ k : Nat, k ≤ xs.length ∧ i = .int .i64 k ∧ IsB w1.heap.size w1.heap.size (tK xs k) wr ∧ Below w1.heap.size w1 wr) (fun i _ => xs.length - (intOf i).toNat)
    case atStart => exact ⟨0, by omega, rfl, HI0.out, HBB.out⟩
    case round =>
      obtain ⟨k, hk, rfl, hI, hR⟩ := hrel
      have HI := Lib.hid hI
      have HR := Lib.hid hR
      have hzr := hR.size
      have hl := HTL.out k hk
      have hl2 : k * 9437194 ≤ 8 * 9437194 := Nat.mul_le_mul_right _ (by omega)
      clear hI hR
      by_cases hlt : k < xs.length
      · obtain ⟨ea, hlb⟩ := HA.out (by omega)
        subst ea
        have hW : Below B w0 wr := HB.out.trans ((HF.out.mono hB).trans (HR.out.mono (by omega)))
        obtain ⟨c0, c1', T1⟩ := HC.out k hlt
        have q0 := (hW.cell (p := ⟨b, off + k * 2, none⟩) hlb).trans c0
        have q1 := (hW.cell (p := ⟨b, off + k * 2 + 1, none⟩) hlb).trans c1'
        obtain ⟨a5, cap5, b5, off5, e5, hcap5, hm5, hl5, ha5, hc5⟩ := T1
        rw [e5] at q1
        have HA5 := Lib.hid ha5
        have HC5 := Lib.hid hc5
        have TS := Lib.hid (show tK xs (k + 1) = tK xs k ++ sepK k ++ (xs.getD k default).name ++ wK (xs.getD k default).words (xs.getD k default).words.length from rfl)
        have hnl := HFT.out.name k hlt
        have hwl := HFT.out.words k hlt
        have HWL := Lib.hid (wK_len _ hwl.2)
        have hw8 := hwl.1
        have HW2 := Lib.hid hwl.2
        clear c0 c1' ha5 hc5 e5 hl5 hwl hW
        generalize xs.getD k default = x at *
        obtain ⟨nm, ws⟩ := x
        simp only at *
        generalize tK xs k = T at *
        have hTl : T.length ≤ 75497552 := by omega
        have HX := Lib.hid (heap_alloc_new wr (.cells #[.string ⟨nm.toArray⟩, .slice a5 ws.length cap5] 149))
        have HI1 := Lib.hid (HI.out.alloc (.cells #[.string ⟨nm.toArray⟩, .slice a5 ws.length cap5] 149))
        have HR1 := Lib.hid (HR.out.alloc hzr (.cells #[.string ⟨nm.toArray⟩, .slice a5 ws.length cap5] 149))
        have hz1 : wr.heap.size < (wr.alloc (.cells #[.string ⟨nm.toArray⟩, .slice a5 ws.length cap5] 149)).heap.size := by simp
        have hrne : wr.heap.size ≠ w1.heap.size := by have := HI.out.lt; omega
        have hd2 : b < wr.heap.size := by have := HF.out.size; omega
        obtain ⟨x0, x1, xf⟩ := two_cells HX.out
        clear hl hl2
        by_cases h0 : k = 0
        · have d0 : decide ((0 : Int) < (k : Int)) = false := by simp [h0]
          have d0' : ¬ 0 < k := by omega
          have TSP := Lib.hid (TS.out.trans (show T ++ sepK k ++ nm ++ wK ws ws.length = (T ++ nm) ++ wK ws ws.length by rw [show sepK k = [] by simp [sepK, h0]]; simp))
          have hPl : (T ++ nm).length ≤ 100000000 := by rw [List.length_append]; omega
          clear h0
          go_wp2_with fail
          refine (writeString_any w1.heap.size w1.heap.size T nm _ HI1.out (by omega) (by simp; omega)).mono ?_
          rintro e w5 ⟨rfl, hI5, hb5, hk5⟩
          have HIN := Lib.hid hI5
          have HRN := Lib.hid (HR1.out.trans hb5)
          obtain ⟨x0, x1, xf⟩ := two_cells (hk5 _ _ HX.out hrne (fun C => by intro e; cases e))
          clear hI5 hb5 hk5
          go_wp2
          generalize (T ++ nm) = P at *
          go_loopw [29] (fun i wr => ∃ j : Nat, j ≤ ws.length ∧ i = .int .i64 j ∧ IsB w1.heap.size w1.heap.size (P ++ wK ws j) wr ∧ Below w1.heap.size w1 wr) (fun i _ => ws.length - (intOf i).toNat)
          case atStart => exact ⟨0, by omega, rfl, by simpa [wK] using HIN.out, HRN.out⟩
          case round =>
            obtain ⟨j, hj, rfl, hIv, hRv⟩ := hrel
            have HIV := Lib.hid hIv
            have HRV := Lib.hid hRv
            have hzv := hRv.size
            have hwj := HWL.out j hj
            clear hIv hRv
            by_cases hlj : j < ws.length
            · obtain ⟨ea5, hlb5⟩ := HA5.out (by omega)
              subst ea5
              have hWv : Below B w0 wr := HB.out.trans ((HF.out.mono hB).trans (HRV.out.mono (by omega)))
              have q2 := (hWv.cell (p := ⟨b5, off5 + j, none⟩) hlb5).trans (HC5.out j hlj)
              have hyl := HW2.out j hlj
              have WS := Lib.hid (show wK ws (j + 1) = wK ws j ++ (32 :: ws.getD j []) from rfl)
              clear hWv
              generalize ws.getD j [] = y at *
              generalize wK ws j = V at *
              have hjm : j * 1048577 ≤ 8 * 1048577 := Nat.mul_le_mul_right _ (by omega)
              have b4 : ¬ 9223372036854775807 < y.length + 1 := by omega
              have b4' : ¬ 9223372036854775807 < 1 + y.length := by omega
              have HWR := Lib.hid (writeString_any w1.heap.size w1.heap.size (P ++ V) (32 :: y) wr HIV.out (by simp only [List.length_append, List.length_cons]; omega) hzv)
              clear hjm hwj hyl
              go_wp2_with fail
              refine HWR.out.mono ?_
              rintro e w7 ⟨rfl, hI7, hb7, -⟩
              have HI7 := Lib.hid (show IsB w1.heap.size w1.heap.size (P ++ wK ws (j + 1)) w7 by rw [WS.out]; simpa using hI7)
              have HR7 := Lib.hid (HRV.out.trans hb7)
              clear hI7 hb7
              go_wp2
              go_roundw
              case rel => exact ⟨j + 1, by omega, by go_num, HI7.out, HR7.out⟩
              case measure => simp [intOf]; omega
            · obtain rfl : j = ws.length := by omega
              have HIE := Lib.hid (show IsB w1.heap.size w1.heap.size (tK xs (k + 1)) wr by rw [TSP.out]; exact HIV.out)
              go_wp2
              go_roundw
              case rel => exact ⟨k + 1, by omega, by go_num, HIE.out, HRV.out⟩
              case measure => simp [intOf]; omega
        · have d0 : decide ((0 : Int) < (k : Int)) = true := by simp; omega
          have d0' : 0 < k := by omega
          have TSP := Lib.hid (TS.out.trans (show T ++ sepK k ++ nm ++ wK ws ws.length = (T ++ [59, 32] ++ nm) ++ wK ws ws.length by rw [show sepK k = [59, 32] by simp [sepK, h0]]))
          have hPl : (T ++ [59, 32] ++ nm).length ≤ 100000000 := by simp only [List.length_append, List.length_cons, List.length_nil]; omega
          clear h0
          go_wp2_with fail
          refine (writeString_any w1.heap.size w1.heap.size T [59, 32] _ HI1.out (by simp only [List.length_cons, List.length_nil]; omega) (by simp; omega)).mono ?_
          rintro e w4 ⟨rfl, hI4, hb4, hk4⟩
          have HI4 := Lib.hid hI4
          have HR4 := Lib.hid (HR1.out.trans hb4)
          have HX4 := Lib.hid (hk4 _ _ HX.out hrne (fun C => by intro e; cases e))
          obtain ⟨y0, y1, yf⟩ := two_cells HX4.out
          have hz4 := HR4.out.size
          clear hI4 hb4 hk4
          go_wp2_with fail
          refine (writeString_any w1.heap.size w1.heap.size (T ++ [59, 32]) nm w4 HI4.out (by simp only [List.length_append, List.length_cons, List.length_nil]; omega) hz4).mono ?_
          rintro e w5 ⟨rfl, hI5, hb5, hk5⟩
          have HIN := Lib.hid hI5
          have HRN := Lib.hid (HR4.out.trans hb5)
          obtain ⟨z0', z1', zf'⟩ := two_cells (hk5 _ _ HX4.out hrne (fun C => by intro e; cases e))
          clear hI5 hb5 hk5
          go_wp2
          generalize (T ++ [59, 32] ++ nm) = P at *
          go_loopw [29] (fun i wr => ∃ j : Nat, j ≤ ws.length ∧ i = .int .i64 j ∧ IsB w1.heap.size w1.heap.size (P ++ wK ws j) wr ∧ Below w1.heap.size w1 wr) (fun i _ => ws.length - (intOf i).toNat)
          case atStart => exact ⟨0, by omega, rfl, by simpa [wK] using HIN.out, HRN.out⟩
          case round =>
            obtain ⟨j, hj, rfl, hIv, hRv⟩ := hrel
            have HIV := Lib.hid hIv
            have HRV := Lib.hid hRv
            have hzv := hRv.size
            have hwj := HWL.out j hj
            clear hIv hRv
            by_cases hlj : j < ws.length
            · obtain ⟨ea5, hlb5⟩ := HA5.out (by omega)
              subst ea5
              have hWv : Below B w0 wr := HB.out.trans ((HF.out.mono hB).trans (HRV.out.mono (by omega)))
              have q2 := (hWv.cell (p := ⟨b5, off5 + j, none⟩) hlb5).trans (HC5.out j hlj)
              have hyl := HW2.out j hlj
              have WS := Lib.hid (show wK ws (j + 1) = wK ws j ++ (32 :: ws.getD j []) from rfl)
              clear hWv
              generalize ws.getD j [] = y at *
              generalize wK ws j = V at *
              have hjm : j * 1048577 ≤ 8 * 1048577 := Nat.mul_le_mul_right _ (by omega)
              have b4 : ¬ 9223372036854775807 < y.length + 1 := by omega
              have b4' : ¬ 9223372036854775807 < 1 + y.length := by omega
              have HWR := Lib.hid (writeString_any w1.heap.size w1.heap.size (P ++ V) (32 :: y) wr HIV.out (by simp only [List.length_append, List.length_cons]; omega) hzv)
              clear hjm hwj hyl
              go_wp2_with fail
              refine HWR.out.mono ?_
              rintro e w7 ⟨rfl, hI7, hb7, -⟩
              have HI7 := Lib.hid (show IsB w1.heap.size w1.heap.size (P ++ wK ws (j + 1)) w7 by rw [WS.out]; simpa using hI7)
              have HR7 := Lib.hid (HRV.out.trans hb7)
              clear hI7 hb7
              go_wp2
              go_roundw
              case rel => exact ⟨j + 1, by omega, by go_num, HI7.out, HR7.out⟩
              case measure => simp [intOf]; omega
            · obtain rfl : j = ws.length := by omega
              have HIE := Lib.hid (show IsB w1.heap.size w1.heap.size (tK xs (k + 1)) wr by rw [TSP.out]; exact HIV.out)
              go_wp2
              go_roundw
              case rel => exact ⟨k + 1, by omega, by go_num, HIE.out, HRV.out⟩
              case measure => simp [intOf]; omega
      · obtain rfl : k = xs.length := by omega
        have HSTR := Lib.hid (Tryz.Builder_String_any w1.heap.size w1.heap.size _ wr HI.out hzr)
        go_wp2_with fail
        refine HSTR.out.mono ?_
        rintro e w9 ⟨rfl, hb9⟩
        have HF9 := Lib.hid (HF.out.trans ((HR.out.trans hb9).mono (by omega)))
        clear hb9
        go_wp2
        exact bodyPost_ret (v := .tuple #[.string ⟨(tK xs xs.length).toArray⟩, .int .i64 0]) (by simp [results, Tryz.results45, go_sem]) rfl ⟨rfl, HF9.out⟩
end Go.Proofs.YtbkikbhnehjaaaaGreatDoor.Po
namespace Go.Proofs.YtbkikbhnehjaaaaGreatDoor.Po
open Go.RowKit
open Go.Proofs.YtbkikbhnehjaaaaGreatDoor.Tx
open Go.Proofs.YtbkikbhnehjaaaaGreatDoor.Ul hiding ret_bool
def uriL : List UInt8 := [117, 114, 105]
def forT (p : Pl) : List UInt8 := if plB p then (if p.rep == [] then (if p.uris.length = 0 then [] else uriL) else p.rep) else []
def forC (p : Pl) : Int := if plB p then (if p.rep == [] then (if p.uris.length = 0 then 5 else 0) else 0) else 1
set_option maxRecDepth 100000 in
set_option maxHeartbeats 1000000 in
theorem lforS_any (p : Pl) (a : Option Addr) (c : Nat) (rv : Value) (W : World) (hb : plB p = true) (hr : ∃ a l c, rv = .slice a l c) :
    Calls Tryz.prog 120 #[pV p (.slice a p.uris.length c) rv] W fun e w' => e = .returned (.tuple #[.string ⟨(forT p).toArray⟩, .int .i64 (forC p)]) ∧ Below W.heap.size W w' := by
  obtain ⟨a2, l2, c2, rfl⟩ := hr
  obtain ⟨n, us, xs⟩ := p
  have e1 : forT ⟨n, us, xs⟩ = (if n == [] then (if us.length = 0 then [] else uriL) else n) := by simp [forT, hb]
  have e2 : forC ⟨n, us, xs⟩ = (if n == [] then (if us.length = 0 then 5 else 0) else 0) := by simp [forC, hb]
  rw [e1, e2]
  clear e1 e2 hb
  have HB1 := Lib.hid ((Below.refl W.heap.size W).alloc (Nat.le_refl _) (.cells #[.string ⟨n.toArray⟩, .slice a us.length c, .slice a2 l2 c2] 26))
  by_cases h1 : n = []
  · subst h1
    by_cases h2 : us.length = 0
    · have d2 : ((us.length : Int) == 0) = true := by simp [h2]
      simp only [if_true, beq_self_eq_true]
      rw [show (if us.length = 0 then ([] : List UInt8) else uriL) = [] from if_pos h2, show (if us.length = 0 then (5 : Int) else 0) = 5 from if_pos h2]
      clear h2
      go_enter Tryz.func120, Tryz.ntmps120
      go_wp2
      exact bodyPost_ret (v := .tuple #[.string ⟨#[]⟩, .int .i64 5]) (by simp [results, Tryz.results120, go_sem]) rfl ⟨rfl, HB1.out⟩
    · have d2 : ((us.length : Int) == 0) = false := by simp only [beq_eq_false_iff_ne, ne_eq]; omega
      simp only [if_true, beq_self_eq_true]
      rw [show (if us.length = 0 then ([] : List UInt8) else uriL) = uriL from if_neg h2, show (if us.length = 0 then (5 : Int) else 0) = 0 from if_neg h2]
      clear h2
      go_enter Tryz.func120, Tryz.ntmps120
      go_wp2
      exact bodyPost_ret (v := .tuple #[.string ⟨uriL.toArray⟩, .int .i64 0]) (by simp [results, Tryz.results120, go_sem, uriL]) rfl ⟨rfl, HB1.out⟩
  · have d1 : (n == []) = false := by simpa using h1
    have d1' : (n != []) = true := by simpa using h1
    rw [d1, if_neg (by simp), if_neg (by simp)]
    clear h1
    go_enter Tryz.func120, Tryz.ntmps120
    go_wp2
    exact bodyPost_ret (v := .tuple #[.string ⟨n.toArray⟩, .int .i64 0]) (by simp [results, Tryz.results120, go_sem]) rfl ⟨rfl, HB1.out⟩
set_option maxRecDepth 100000 in
set_option maxHeartbeats 1000000 in
theorem forS_any (B : Nat) (w0 : World) (p : Pl) (uv rv : Value) (hu : TxtsIn (· < B) w0 uv p.uris) (hr : RlIn (· < B) w0 rv p.rules) (hs : Small p) (W : World) (hb : Below B w0 W) (hB : B ≤ W.heap.size) :
    Calls Tryz.prog 48 #[pV p uv rv] W fun e w' => e = .returned (.tuple #[.string ⟨(forT p).toArray⟩, .int .i64 (forC p)]) ∧ Below W.heap.size W w' := by
  have HK := Lib.hid (fun W' h1 h2 => okS_any B w0 p uv rv hu hr hs.rules hs.name hs.words W' h1 h2)
  have hrs := hr.slice
  obtain ⟨a1, cu, b1, o1, rfl, -, -, -, -, -⟩ := hu
  have HFF := Lib.hid (fun (hp : plB p = true) (W' : World) => lforS_any p a1 cu rv W' hp hrs)
  obtain ⟨a2, l2, c2, rfl⟩ := hrs
  have HB := Lib.hid hb
  clear hr hs hb
  obtain ⟨r, hrr⟩ : ∃ r, plB p = r := ⟨_, rfl⟩
  rw [hrr] at HK
  obtain ⟨tt, htt⟩ : ∃ t, forT p = t := ⟨_, rfl⟩
  obtain ⟨tc, htc⟩ : ∃ t, forC p = t := ⟨_, rfl⟩
  rw [htt, htc]
  rw [htt, htc] at HFF
  have HTT := Lib.hid htt
  have HTC := Lib.hid htc
  clear htt htc
  have HK5 := heap_alloc_new W (xO p (.slice a1 p.uris.length cu) (.slice a2 l2 c2))
  have HB1 := Lib.hid ((Below.refl W.heap.size W).alloc (Nat.le_refl _) (xO p (.slice a1 p.uris.length cu) (.slice a2 l2 c2)))
  go_enter Tryz.func48, Tryz.ntmps48
  go_wp2_with fail
  refine (HK.out _ (HB.out.alloc hB _) (by simp; omega)).mono ?_
  rintro e w1 ⟨rfl, hb1⟩
  obtain ⟨m0, m1, m2, mf⟩ := three_cells ((hb1.block _ (by simp)).trans HK5)
  have HF := Lib.hid (below_chain HB1.out hb1)
  clear hb1 HK5 HK
  cases r
  · obtain rfl : tt = [] := by rw [← HTT.out]; simp [forT, hrr]
    obtain rfl : tc = 1 := by rw [← HTC.out]; simp [forC, hrr]
    clear HFF
    go_wp2
    exact bodyPost_ret (v := .tuple #[.string ⟨#[]⟩, .int .i64 1]) (by simp [results, Tryz.results48, go_sem]) rfl ⟨rfl, HF.out⟩
  · go_wp2_with fail
    refine (HFF.out hrr _).mono ?_
    rintro e w2 ⟨rfl, hb2⟩
    have HF2 := Lib.hid (below_chain HF.out hb2)
    clear hb2
    go_wp2
    exact bodyPost_ret (v := .tuple #[.string ⟨tt.toArray⟩, .int .i64 tc]) (by simp [results, Tryz.results48, go_sem]) rfl ⟨rfl, HF2.out⟩
set_option maxRecDepth 100000 in
set_option maxHeartbeats 1000000 in
theorem forI_any (B : Nat) (w0 : World) (p : Pl) (uv rv : Value) (hu : TxtsIn (· < B) w0 uv p.uris) (hr : RlIn (· < B) w0 rv p.rules) (hs : Small p) (W : World) (hb : Below B w0 W) (hB : B ≤ W.heap.size) (hT : Tab W) (hM : MaxL W) :
    Calls Tryz.prog 47 #[pV p uv rv] W fun e w' => e = .returned (.tuple #[.string ⟨(forT p).toArray⟩, .int .i64 (forC p)]) ∧ Below W.heap.size W w' := by
  have HK := Lib.hid (fun W' h1 h2 h3 h4 => polI_any B w0 p uv rv hu hr hs W' h1 h2 h3 h4)
  have hsr := hs.rep
  obtain ⟨a1, cu, b1, o1, rfl, -, -, -, -, -⟩ := hu
  obtain ⟨a2, l2, c2, rfl⟩ := hr.slice
  have HB := Lib.hid hb
  have HT := Lib.hid hT
  have HM := Lib.hid hM
  clear hr hs hb hT hM
  obtain ⟨n, us, xs⟩ := p
  simp only at hsr
  obtain ⟨r, hrr⟩ : ∃ r, plB ⟨n, us, xs⟩ = r := ⟨_, rfl⟩
  rw [hrr] at HK
  have e1 : forT ⟨n, us, xs⟩ = if r then (if n == [] then (if us.length = 0 then [] else uriL) else n) else [] := by simp [forT, hrr]
  have e2 : forC ⟨n, us, xs⟩ = if r then (if n == [] then (if us.length = 0 then 5 else 0) else 0) else 1 := by simp [forC, hrr]
  rw [e1, e2]
  clear e1 e2 hrr
  have HK5 := heap_alloc_new W (.cells #[.string ⟨n.toArray⟩, .slice a1 us.length cu, .slice a2 l2 c2] 26)
  have HB1 := Lib.hid ((Below.refl W.heap.size W).alloc (Nat.le_refl _) (.cells #[.string ⟨n.toArray⟩, .slice a1 us.length cu, .slice a2 l2 c2] 26))
  have HCL := Lib.hid (fun (W' : World) => Ul.clone_any n W' (by omega))
  by_cases h1 : n = []
  · have d1 : (n == []) = true := by simpa using h1
    have d1' : (n != []) = false := by simpa using h1
    clear h1
    by_cases h2 : us.length = 0
    · have d2 : decide ((0 : Int) < (us.length : Int)) = false := by simp only [decide_eq_false_iff_not]; omega
      have d2' : decide (0 < us.length) = false := by simp only [decide_eq_false_iff_not]; omega
      simp only [d1, if_true]
      rw [show (if us.length = 0 then ([] : List UInt8) else uriL) = [] from if_pos h2, show (if us.length = 0 then (5 : Int) else 0) = 5 from if_pos h2]
      clear h2
      go_enter Tryz.func47, Tryz.ntmps47
      go_wp2_with fail
      refine (HK.out _ (HB.out.alloc hB _) (by simp; omega) (HT.out.below HB1.out) (HM.out.below HB1.out)).mono ?_
      rintro e w1 ⟨rfl, hb1⟩
      obtain ⟨m0, m1, m2, mf⟩ := three_cells ((hb1.block _ (by simp)).trans HK5)
      have HF := Lib.hid (below_chain HB1.out hb1)
      clear hb1 HK5 HK
      cases r
      · go_wp2
        exact bodyPost_ret (v := .tuple #[.string ⟨#[]⟩, .int .i64 1]) (by simp [results, Tryz.results47, go_sem]) rfl ⟨rfl, HF.out⟩
      · go_wp2
        exact bodyPost_ret (v := .tuple #[.string ⟨#[]⟩, .int .i64 5]) (by simp [results, Tryz.results47, go_sem]) rfl ⟨rfl, HF.out⟩
    · have d2 : decide ((0 : Int) < (us.length : Int)) = true := by simp only [decide_eq_true_eq]; omega
      have d2' : decide (0 < us.length) = true := by simp only [decide_eq_true_eq]; omega
      simp only [d1, if_true]
      rw [show (if us.length = 0 then ([] : List UInt8) else uriL) = uriL from if_neg h2, show (if us.length = 0 then (5 : Int) else 0) = 0 from if_neg h2]
      clear h2
      go_enter Tryz.func47, Tryz.ntmps47
      go_wp2_with fail
      refine (HK.out _ (HB.out.alloc hB _) (by simp; omega) (HT.out.below HB1.out) (HM.out.below HB1.out)).mono ?_
      rintro e w1 ⟨rfl, hb1⟩
      obtain ⟨m0, m1, m2, mf⟩ := three_cells ((hb1.block _ (by simp)).trans HK5)
      have HF := Lib.hid (below_chain HB1.out hb1)
      clear hb1 HK5 HK
      cases r
      · go_wp2
        exact bodyPost_ret (v := .tuple #[.string ⟨#[]⟩, .int .i64 1]) (by simp [results, Tryz.results47, go_sem]) rfl ⟨rfl, HF.out⟩
      · go_wp2
        exact bodyPost_ret (v := .tuple #[.string ⟨uriL.toArray⟩, .int .i64 0]) (by simp [results, Tryz.results47, go_sem, uriL]) rfl ⟨rfl, HF.out⟩
  · have d1 : (n == []) = false := by simpa using h1
    have d1' : (n != []) = true := by simpa using h1
    simp only [d1, if_false, Bool.false_eq_true]
    clear h1
    go_enter Tryz.func47, Tryz.ntmps47
    go_wp2_with fail
    refine (HK.out _ (HB.out.alloc hB _) (by simp; omega) (HT.out.below HB1.out) (HM.out.below HB1.out)).mono ?_
    rintro e w1 ⟨rfl, hb1⟩
    obtain ⟨m0, m1, m2, mf⟩ := three_cells ((hb1.block _ (by simp)).trans HK5)
    have HF := Lib.hid (below_chain HB1.out hb1)
    clear hb1 HK5 HK
    cases r
    · go_wp2
      exact bodyPost_ret (v := .tuple #[.string ⟨#[]⟩, .int .i64 1]) (by simp [results, Tryz.results47, go_sem]) rfl ⟨rfl, HF.out⟩
    · go_wp2_with fail
      refine (HCL.out _).mono ?_
      rintro e w2 ⟨rfl, hb2⟩
      have HF2 := Lib.hid (below_chain HF.out hb2)
      clear hb2
      go_wp2
      exact bodyPost_ret (v := .tuple #[.string ⟨n.toArray⟩, .int .i64 0]) (by simp [results, Tryz.results47, go_sem]) rfl ⟨rfl, HF2.out⟩
end Go.Proofs.YtbkikbhnehjaaaaGreatDoor.Po
namespace Go.Proofs.YtbkikbhnehjaaaaGreatDoor.Ug
open Go.RowKit
open Go.Proofs.YtbkikbhnehjaaaaGreatDoor.Po
open Go.Proofs.YtbkikbhnehjaaaaGreatDoor.Tx hiding ret_b ret_i
open Go.Proofs.YtbkikbhnehjaaaaGreatDoor.Pm
open Go.Proofs.YtbkikbhnehjaaaaGreatDoor.Ext (up up_below up_mk wp_region_ext call_ext call_ext_same call_ext_drewN)
@[local go_sem] theorem up_cellU (w : World) (y : Ext.Ext w) (b o : Nat) (h : b < w.heap.size) : (up w y).cell? ⟨b, o, none⟩ = w.cell? ⟨b, o, none⟩ := Ext.up_cell w y b o h
structure Tg where
  url : List UInt8
  pri : Int
  wt : Int
deriving DecidableEq
instance : Inhabited Tg := ⟨⟨[], 0, 0⟩⟩
structure Gp where
  name : List UInt8
  age : Int
  tgs : List Tg
/-- v is a slice of the targets xs, in a block of S -/
def TgIn (S : Nat → Prop) (w : World) (v : Value) (xs : List Tg) : Prop :=
  ∃ (a : Option Addr) (cap b off : Nat), v = .slice a xs.length cap ∧ xs.length ≤ cap ∧ cap ≤ 9223372036854775807 ∧ (∀ i, i < xs.length → (xs.getD i default).url.length ≤ 9223372036854775807) ∧
    (0 < xs.length → a = some ⟨b, off, none⟩ ∧ S b) ∧
    ∀ i, i < xs.length → w.cell? ⟨b, off + i * 3, none⟩ = some (.string ⟨(xs.getD i default).url.toArray⟩) ∧ w.cell? ⟨b, off + i * 3 + 1, none⟩ = some (.int .i64 (xs.getD i default).pri) ∧ w.cell? ⟨b, off + i * 3 + 2, none⟩ = some (.int .i64 (xs.getD i default).wt)
abbrev tV (t : Tg) : Value := .agg #[.string ⟨t.url.toArray⟩, .int .i64 t.pri, .int .i64 t.wt]
abbrev gV (g : Gp) (tv : Value) : Value := .agg #[.string ⟨g.name.toArray⟩, .int .i64 g.age, tv]
theorem TgIn.same {S S' : Nat → Prop} {w w' : World} {v : Value} {xs : List Tg} (h : TgIn S w v xs) (hs : ∀ b, S b → S' b ∧ w'.heap[b]? = w.heap[b]?) : TgIn S' w' v xs := by
  obtain ⟨a, cap, b, off, e, h1, h2, h3, h4, h5⟩ := h
  have hc : ∀ i o, i < xs.length → w'.cell? ⟨b, o, none⟩ = w.cell? ⟨b, o, none⟩ := fun i o hi => World.cell?_of_block (w := w) (a := ⟨b, o, none⟩) (hs b (h4 (Nat.lt_of_le_of_lt (Nat.zero_le i) hi)).2).2
  exact ⟨a, cap, b, off, e, h1, h2, h3, fun hp => ⟨(h4 hp).1, (hs b (h4 hp).2).1⟩, fun i hi => ⟨(hc i _ hi).trans (h5 i hi).1, (hc i _ hi).trans (h5 i hi).2.1, (hc i _ hi).trans (h5 i hi).2.2⟩⟩
theorem TgIn.blw {B : Nat} {w w' : World} {v : Value} {xs : List Tg} (h : TgIn (· < B) w v xs) (hb : Below B w w') : TgIn (· < B) w' v xs := h.same fun b hlt => ⟨hlt, hb.block b hlt⟩
theorem TgIn.mono {S S' : Nat → Prop} {w : World} {v : Value} {xs : List Tg} (h : TgIn S w v xs) (hs : ∀ b, S b → S' b) : TgIn S' w v xs := h.same fun b hb => ⟨hs b hb, rfl⟩
theorem TgIn.later {S : Nat → Prop} {w wx : World} {v : Value} {xs : List Tg} (h : TgIn S w v xs) (hS : ∀ b, S b → b < w.heap.size) (hx : Below w.heap.size w wx) : TgIn (· < wx.heap.size) wx v xs :=
  h.same fun b hb => ⟨Nat.lt_of_lt_of_le (hS b hb) hx.size, hx.block b (hS b hb)⟩
theorem TgIn.slice {S : Nat → Prop} {w : World} {v : Value} {xs : List Tg} (h : TgIn S w v xs) : ∃ a l c, v = .slice a l c := by
  obtain ⟨a', cap', _, _, rfl, _⟩ := h; exact ⟨_, _, _, rfl⟩

def tgC : List Tg → List Value
  | [] => []
  | t :: r => .string ⟨t.url.toArray⟩ :: .int .i64 t.pri :: .int .i64 t.wt :: tgC r
theorem tgC_len : ∀ ts : List Tg, (tgC ts).length = ts.length * 3
  | [] => rfl
  | t :: r => by have := tgC_len r; simp only [tgC, List.length_cons]; omega
theorem tgC_app : ∀ a b : List Tg, tgC (a ++ b) = tgC a ++ tgC b
  | [], b => rfl
  | t :: r, b => by simp [tgC, tgC_app r b]
theorem tgC_get : ∀ (ts : List Tg) (i : Nat), i < ts.length → (tgC ts)[i * 3]? = some (.string ⟨(ts.getD i default).url.toArray⟩) ∧ (tgC ts)[i * 3 + 1]? = some (.int .i64 (ts.getD i default).pri) ∧ (tgC ts)[i * 3 + 2]? = some (.int .i64 (ts.getD i default).wt)
  | [], i, h => by simp at h
  | t :: r, 0, _ => ⟨rfl, rfl, rfl⟩
  | t :: r, i + 1, h => by
    have ih := tgC_get r i (by simpa using h)
    have e : (i + 1) * 3 = i * 3 + 1 + 1 + 1 := by omega
    rw [e]
    simpa [tgC] using ih
/-- v is a row of the call's own from base on: the targets ts -/
def O3 (w : World) (base : Nat) (v : Value) (ts : List Tg) : Prop := w.ownsRow base 73 3 v ts.length (tgC ts)
theorem O3.slice {w : World} {base : Nat} {v : Value} {ts : List Tg} (h : O3 w base v ts) : ∃ a c, v = .slice a ts.length c := by
  obtain ⟨-, h⟩ := h
  rcases h with ⟨rfl, h0⟩ | ⟨g, cap, cur, rfl, _⟩
  · exact ⟨none, 0, by rw [h0]⟩
  · exact ⟨_, _, rfl⟩
theorem O3.tg {w : World} {base : Nat} {v : Value} {ts : List Tg} (h : O3 w base v ts) (hl : ∀ i, i < ts.length → (ts.getD i default).url.length ≤ 9223372036854775807) : TgIn (fun b => base ≤ b ∧ b < w.heap.size) w v ts := by
  obtain ⟨-, h⟩ := h
  rcases h with ⟨rfl, h0⟩ | ⟨g, cap, cur, rfl, hbg, hg, hnc, hcm, hs, ht⟩
  · obtain rfl : ts = [] := List.eq_nil_of_length_eq_zero h0
    exact ⟨none, 0, 0, 0, rfl, by simp, by omega, by simp, by simp, by simp⟩
  · have hlt : g < w.heap.size := (Array.getElem?_eq_some_iff.1 hg).1
    refine ⟨some ⟨g, 0, none⟩, cap, g, 0, rfl, hnc, by unfold maxLen at hcm; omega, hl, fun _ => ⟨rfl, hbg, hlt⟩, fun i hi => ?_⟩
    obtain ⟨e0, e1, e2⟩ := tgC_get ts i hi
    rw [← ht, List.getElem?_take_of_lt (by omega)] at e0 e1 e2
    simp only [Nat.zero_add]
    refine ⟨?_, ?_, ?_⟩ <;> simp [World.cell?, hg]
    · simpa using e0
    · simpa using e1
    · simpa using e2
theorem O3.kept {w w' : World} {base : Nat} {v : Value} {ts : List Tg} {row : Option Nat} (h : O3 w base v ts) (hg : w.grownBy w' row) (hne : v.ownBlock = none ∨ v.ownBlock ≠ row) : O3 w' base v ts := World.ownsRow.kept h hg hne
theorem O3.below {w w' : World} {base : Nat} {v : Value} {ts : List Tg} (h : O3 w base v ts) (hb : Below w.heap.size w w') : O3 w' base v ts :=
  h.kept (row := none) ⟨hb.os, hb.tape, hb.output, hb.size, fun k hk _ => hb.block k hk⟩ (by cases v.ownBlock <;> simp)
/-- the marks from k on -/
def mts : Nat → Nat → List Tg
  | 0, _ => []
  | n + 1, k => ⟨mkT k, (k + 1 : Nat), (k + 2 : Nat)⟩ :: mts n (k + 3)
theorem mts_len : ∀ n k, (mts n k).length = n
  | 0, _ => rfl
  | n + 1, k => by simp [mts, mts_len n (k + 3)]
theorem mts_get : ∀ n k i, i < n → (mts n k).getD i default = ⟨mkT (k + 3 * i), (k + 3 * i + 1 : Nat), (k + 3 * i + 2 : Nat)⟩
  | 0, _, i, h => by omega
  | n + 1, k, 0, _ => by simp [mts]
  | n + 1, k, i + 1, h => by
    have := mts_get n (k + 3) i (by omega)
    simp only [mts, List.getD_cons_succ, this]
    have e : k + 3 + 3 * i = k + 3 * (i + 1) := by omega
    rw [e]
/-- what the row holds behind i rounds: the marks first, then what stood there -/
def mixF (F : Nat → Value) (k i j : Nat) : Value :=
  if j < 3 * i then (if j % 3 = 0 then .string ⟨(mkT (k + j)).toArray⟩ else .int .i64 ((k + j : Nat) : Int)) else F j
set_option maxRecDepth 100000 in
set_option maxHeartbeats 2000000 in
theorem eqTg_self (t : Tg) (W : World) : Calls Tryz.prog 329 #[tV t, tV t] W fun e w' => e = .returned (.bool true) ∧ Below W.heap.size W w' := by
  obtain ⟨u, p, q⟩ := t
  have e1 : (u == u) = true := by simp
  have e2 : (u != u) = false := by simp
  have e3 : (p == p) = true := by simp
  have e4 : (p != p) = false := by simp
  have e5 : (q == q) = true := by simp
  have e6 : (q != q) = false := by simp
  go_enter Tryz.func329, Tryz.ntmps329
  go_wp2
  go_ret
  exact ⟨rfl, ((Below.refl _ _).alloc (Nat.le_refl _) _).alloc (by simp) _⟩
set_option maxRecDepth 100000 in
set_option maxHeartbeats 2000000 in
theorem eqTs_self (B : Nat) (w0 : World) (xs : List Tg) (v u : Value) (h1 : TgIn (· < B) w0 v xs) (h2 : TgIn (· < B) w0 u xs) (W : World) (hb : Below B w0 W) (hB : B ≤ W.heap.size) :
    Calls Tryz.prog 286 #[v, u] W fun e w' => e = .returned (.bool true) ∧ Below W.heap.size W w' := by
  obtain ⟨a, cap, b, off, rfl, hcap, hm, hlen, ha, hc⟩ := h1
  obtain ⟨a', cap', b', off', rfl, hcap', hm', hlen', ha', hc'⟩ := h2
  have hn : xs.length ≤ 9223372036854775807 := by omega
  have HC := Lib.hid hc
  have HA := Lib.hid ha
  have HC' := Lib.hid hc'
  have HA' := Lib.hid ha'
  have HB := Lib.hid hb
  clear hc ha hc' ha' hb hlen hlen'
  have g1 : ((xs.length : Int) != (xs.length : Int)) = false := by simp
  go_enter Tryz.func286, Tryz.ntmps286
  go_wp2
  go_loopw [5] (fun i wr => ∃ k : Nat, k ≤ xs.length ∧ i = .int .i64 k ∧ Below W.heap.size W wr) (fun i _ => xs.length - (intOf i).toNat)
  case atStart => exact ⟨0, by omega, rfl, Below.refl _ _⟩
  case round =>
    obtain ⟨k, hk, rfl, hR⟩ := hrel
    by_cases hlt : k < xs.length
    · obtain ⟨ea, hlb⟩ := HA.out (by omega)
      obtain ⟨ea', hlb'⟩ := HA'.out (by omega)
      subst ea ea'
      have hW := HB.out.trans (hR.mono hB)
      have hWB : B ≤ wr.heap.size := Nat.le_trans hB hR.size
      obtain ⟨c0, c1, c2⟩ := HC.out k hlt
      obtain ⟨c0', c1', c2'⟩ := HC'.out k hlt
      have q0 := (hW.cell (p := ⟨b, off + k * 3, none⟩) hlb).trans c0
      have q1 := (hW.cell (p := ⟨b, off + k * 3 + 1, none⟩) hlb).trans c1
      have q2 := (hW.cell (p := ⟨b, off + k * 3 + 2, none⟩) hlb).trans c2
      have r0 := (hW.cell (p := ⟨b', off' + k * 3, none⟩) hlb').trans c0'
      have r1 := (hW.cell (p := ⟨b', off' + k * 3 + 1, none⟩) hlb').trans c1'
      have r2 := (hW.cell (p := ⟨b', off' + k * 3 + 2, none⟩) hlb').trans c2'
      clear c0 c1 c2 c0' c1' c2' hW
      generalize xs.getD k default = x at *
      go_wp2_with fail
      go_region_held3 (fun wx => wx.cell? ⟨b, off + k * 3, none⟩ = some (.string ⟨x.url.toArray⟩) ∧ wx.cell? ⟨b, off + k * 3 + 1, none⟩ = some (.int .i64 x.pri) ∧ wx.cell? ⟨b, off + k * 3 + 2, none⟩ = some (.int .i64 x.wt) ∧ wx.cell? ⟨b', off' + k * 3, none⟩ = some (.string ⟨x.url.toArray⟩) ∧ wx.cell? ⟨b', off' + k * 3 + 1, none⟩ = some (.int .i64 x.pri) ∧ wx.cell? ⟨b', off' + k * 3 + 2, none⟩ = some (.int .i64 x.wt) ∧ Below W.heap.size W wx)
        (first
          | (simp [*, Below.drew]; done)
          | (go_split_ands
             have hz : B ≤ _ := Nat.le_trans hB (Below.size (by assumption))
             refine ⟨?_, ?_, ?_, ?_, ?_, ?_, belI_step (by assumption) hb⟩
             · (rw [hb.cell (p := ⟨b, off + k * 3, none⟩) (Nat.lt_of_lt_of_le hlb hz)]; assumption)
             · (rw [hb.cell (p := ⟨b, off + k * 3 + 1, none⟩) (Nat.lt_of_lt_of_le hlb hz)]; assumption)
             · (rw [hb.cell (p := ⟨b, off + k * 3 + 2, none⟩) (Nat.lt_of_lt_of_le hlb hz)]; assumption)
             · (rw [hb.cell (p := ⟨b', off' + k * 3, none⟩) (Nat.lt_of_lt_of_le hlb' hz)]; assumption)
             · (rw [hb.cell (p := ⟨b', off' + k * 3 + 1, none⟩) (Nat.lt_of_lt_of_le hlb' hz)]; assumption)
             · (rw [hb.cell (p := ⟨b', off' + k * 3 + 2, none⟩) (Nat.lt_of_lt_of_le hlb' hz)]; assumption)))
        (first
          | (go_split_ands; go_at_call 329; refine (eqTg_self x _).mono ?_; rintro e w1 ⟨rfl, hb⟩))
      go_split_ands
      rename_i hNW
      have HN := Lib.hid hNW
      clear hNW
      go_wp2
      go_roundw
      case rel => exact ⟨k + 1, by omega, by go_num, HN.out⟩
      case measure => simp [intOf]; omega
    · go_wp2
      go_ret
      exact ⟨rfl, hR⟩
set_option maxRecDepth 100000 in
set_option maxHeartbeats 2000000 in
theorem eqG_self (B : Nat) (w0 : World) (g : Gp) (v u : Value) (h1 : TgIn (· < B) w0 v g.tgs) (h2 : TgIn (· < B) w0 u g.tgs) (W : World) (hb : Below B w0 W) (hB : B ≤ W.heap.size) :
    Calls Tryz.prog 218 #[gV g v, gV g u] W fun e w' => e = .returned (.bool true) ∧ Below W.heap.size W w' := by
  obtain ⟨n, k, xs⟩ := g
  have HK := Lib.hid (fun W h2' h3' => eqTs_self B w0 xs v u h1 h2 W h2' h3')
  obtain ⟨a1, l1, cc1, rfl⟩ := h1.slice
  obtain ⟨a2, l2, cc2, rfl⟩ := h2.slice
  have HB := Lib.hid hb
  clear h1 h2 hb
  have e1 : (n == n) = true := by simp
  have e2 : (n != n) = false := by simp
  have e3 : (k == k) = true := by simp
  have e4 : (k != k) = false := by simp
  go_enter Tryz.func218, Tryz.ntmps218
  go_wp2_with fail
  refine (HK.out _ ((HB.out.alloc hB _).alloc (by simp; omega) _) (by simp; omega)).mono ?_
  rintro e w1 ⟨rfl, hb1⟩
  have hf : Below W.heap.size W w1 := (((Below.refl W.heap.size W).alloc (Nat.le_refl _) _).alloc (by simp) _).trans (hb1.mono (by simp; omega))
  clear hb1
  go_wp2
  go_ret
  exact ⟨rfl, hf⟩
theorem ret_iU {a b : Int} (h : a = b) : Ending.returned (.int .i64 a) = .returned (.int .i64 b) := by rw [h]
set_option maxRecDepth 100000 in
set_option maxHeartbeats 2000000 in
theorem markTs_any (base : Nat) (v : Value) (ts : List Tg) (k : Nat) (w : World) (h : O3 w base v ts) (hk : 0 < k) (hk2 : k ≤ 1048576) (hn : ts.length ≤ 1048576) :
    Calls Tryz.prog 131 #[v, .int .i64 (k : Int)] w fun e w' => e = .returned (.int .i64 ((k + 3 * ts.length : Nat) : Int)) ∧ O3 w' base v (mts ts.length k) ∧ w.grownBy w' v.ownBlock := by
  obtain ⟨hlen, h⟩ := h
  rcases h with ⟨rfl, h0⟩ | ⟨g, cap, cur, rfl, hbg, hg, hnc, hcm, hs, ht⟩
  · obtain rfl : ts = [] := List.eq_nil_of_length_eq_zero h0
    go_enter Tryz.func131, Tryz.ntmps131
    go_wp2
    go_loopw [1, 5] (fun kv iv wr => iv = .int .i64 0 ∧ kv = .int .i64 (k : Int) ∧ wr = w) (fun _ _ _ => 0)
    case atStart => exact ⟨rfl, rfl, rfl⟩
    case round =>
      obtain ⟨rfl, rfl, rfl⟩ := hrel
      go_wp2
      go_ret
      exact ⟨rfl, ⟨rfl, .inl ⟨rfl, rfl⟩⟩, ⟨rfl, rfl, rfl, Nat.le_refl _, fun _ _ _ => rfl⟩⟩
  · have hlt : g < w.heap.size := (Array.getElem?_eq_some_iff.1 hg).1
    obtain ⟨F, hrow⟩ : ∃ F : Nat → Value, w.rowIs g 73 (cap * 3) F := ⟨fun i => cur[i]?.getD undef, cur, hg, hs, fun i hi => by
      have : i < cur.size := by omega
      simp [this]⟩
    have HROW := Lib.hid hrow
    clear ht hs hg hrow hlen
    generalize ts.length = n at *
    go_enter Tryz.func131, Tryz.ntmps131
    go_wp2
    go_loopw [1, 5] (fun kv iv wr => ∃ i : Nat, i ≤ n ∧ iv = .int .i64 i ∧ kv = .int .i64 ((k + 3 * i : Nat) : Int) ∧ wr.rowIs g 73 (cap * 3) (mixF F k i) ∧ w.grownBy wr (some g)) (fun _ iv _ => n - (intOf iv).toNat)
    case atStart => exact ⟨0, by omega, rfl, rfl, HROW.out.congr (fun j _ => by simp [mixF]), ⟨rfl, rfl, rfl, Nat.le_refl _, fun _ _ _ => rfl⟩⟩
    case round =>
      obtain ⟨i, hi, rfl, rfl, hr, hG⟩ := hrel
      have HR := Lib.hid hr
      have HG := Lib.hid hG
      clear hr hG
      by_cases hlt2 : i < n
      · have HT := Lib.hid (markText_any (k + 3 * i) (by omega) (by omega) wr)
        obtain ⟨tx, htx⟩ : ∃ t, mkT (k + 3 * i) = t := ⟨_, rfl⟩
        have HTX := Lib.hid htx
        rw [htx] at HT
        clear htx
        go_wp2_with fail
        refine HT.out.mono ?_
        rintro e w1 ⟨rfl, hb1⟩
        have hr1 := HR.out.of_block (hb1.block _ HR.out.lt)
        have q0 := hr1.cell (i := i * 3) (by omega)
        have q1 := hr1.cell (i := i * 3 + 1) (by omega)
        have q2 := hr1.cell (i := i * 3 + 2) (by omega)
        have qf := hr1.frozen
        have hr2 := ((hr1.set (i * 3) (.string ⟨tx.toArray⟩)).set (i * 3 + 1) (.int .i64 ((k + 3 * i + 1 : Nat) : Int))).set (i * 3 + 2) (.int .i64 ((k + 3 * i + 1 + 1 : Nat) : Int))
        have HR2 := Lib.hid (hr2.congr (g := mixF F k (i + 1)) (fun j _ => by
          unfold mixF
          have hm0 : i * 3 % 3 = 0 := by omega
          by_cases e2 : j = i * 3 + 2
          · subst e2; rw [if_pos rfl, if_pos (by omega), if_neg (by omega)]; congr 1; omega
          · rw [if_neg e2]
            by_cases e1 : j = i * 3 + 1
            · subst e1; rw [if_pos rfl, if_pos (by omega), if_neg (by omega)]; congr 1; omega
            · rw [if_neg e1]
              by_cases e0 : j = i * 3
              · subst e0; rw [if_pos rfl, if_pos (by omega), if_pos (by omega), ← HTX.out]; congr 4; omega
              · rw [if_neg e0]
                by_cases hj : j < 3 * i
                · have hj2 : j < 3 * (i + 1) := by omega
                  rw [if_pos hj, show (if j < 3 * (i + 1) then (if j % 3 = 0 then Value.string ⟨(mkT (k + j)).toArray⟩ else .int .i64 ((k + j : Nat) : Int)) else F j) = (if j % 3 = 0 then Value.string ⟨(mkT (k + j)).toArray⟩ else .int .i64 ((k + j : Nat) : Int)) from if_pos hj2]
                · rw [if_neg hj, if_neg (by omega)]))
        have HG2 := Lib.hid (show w.grownBy (((w1.setCell ⟨g, i * 3, none⟩ (.string ⟨tx.toArray⟩)).setCell ⟨g, i * 3 + 1, none⟩ (.int .i64 ((k + 3 * i + 1 : Nat) : Int))).setCell ⟨g, i * 3 + 2, none⟩ (.int .i64 ((k + 3 * i + 1 + 1 : Nat) : Int))) (some g) from
          ⟨hb1.os.trans HG.out.os, hb1.tape.trans HG.out.tape, hb1.output.trans HG.out.output, by have := HG.out.size; have := hb1.size; simp; omega, fun b hb hne => by
            have hne2 : b ≠ g := fun e => hne (by rw [e])
            exact (set3_far w1 g (i * 3) b _ _ _ hne2).trans ((hb1.block b (Nat.lt_of_lt_of_le hb HG.out.size)).trans (HG.out.block b hb hne))⟩)
        have ek1 : ((k + 3 * i : Nat) : Int) + 1 = ((k + 3 * i + 1 : Nat) : Int) := by omega
        have ek2 : ((k + 3 * i : Nat) : Int) + 1 + 1 = ((k + 3 * i + 1 + 1 : Nat) : Int) := by omega
        clear hb1 hr1 hr2
        generalize mixF F k i = F2 at *
        go_wp2
        go_roundw
        case rel => exact ⟨i + 1, by omega, by go_num, by go_num, by simpa using HR2.out, by simpa using HG2.out⟩
        case measure => simp [intOf]; omega
      · obtain rfl : i = n := by omega
        go_wp2
        go_ret
        refine ⟨rfl, ⟨by rw [tgC_len, mts_len], .inr ?_⟩, HG.out⟩
        obtain ⟨C, hC, hCs, hCf⟩ := HR.out
        refine ⟨g, cap, C, by rw [mts_len], hbg, hC, by rw [mts_len]; exact hnc, hcm, hCs, ?_⟩
        rw [mts_len]
        apply List.ext_getElem?
        intro j
        by_cases hj : j < i * 3
        · rw [List.getElem?_take_of_lt hj]
          have h1 : C.toList[j]? = some (mixF F k i j) := by have := hCf j (by omega); simpa using this
          rw [h1]
          have hj3 : j / 3 < i := by omega
          obtain ⟨g0, g1, g2⟩ := tgC_get (mts i k) (j / 3) (by rw [mts_len]; exact hj3)
          rw [mts_get i k _ hj3] at g0 g1 g2
          unfold mixF
          rw [if_pos (by omega)]
          rcases (show j % 3 = 0 ∨ j % 3 = 1 ∨ j % 3 = 2 by omega) with e | e | e
          · have ej : j = j / 3 * 3 := by omega
            rw [if_pos e]
            rw [← ej] at g0
            rw [g0]
            congr 5; omega
          · have ej : j = j / 3 * 3 + 1 := by omega
            rw [if_neg (by omega)]
            rw [← ej] at g1
            rw [g1]
            congr 3; omega
          · have ej : j = j / 3 * 3 + 2 := by omega
            rw [if_neg (by omega)]
            rw [← ej] at g2
            rw [g2]
            congr 3; omega
        · rw [List.getElem?_eq_none (by simp; omega), List.getElem?_eq_none (by rw [tgC_len, mts_len]; omega)]
set_option maxRecDepth 100000 in
set_option maxHeartbeats 2000000 in
theorem heldTs_any (S : Nat → Prop) (v : Value) (n k : Nat) (w : World) (h : TgIn S w v (mts n k)) (hS : ∀ b, S b → b < w.heap.size) (hk : 0 < k) (hk2 : k ≤ 1048576) (hn : n ≤ 1048576) :
    Calls Tryz.prog 136 #[v, .int .i64 (k : Int)] w fun e w' => e = .returned (.int .i64 ((k + 3 * n : Nat) : Int)) ∧ Below w.heap.size w w' := by
  obtain ⟨a, cap, b, off, rfl, hcap, hm, -, ha, hc⟩ := h
  have HC := Lib.hid hc
  have HA := Lib.hid ha
  rw [mts_len] at hcap ⊢
  clear hc ha
  go_enter Tryz.func136, Tryz.ntmps136
  go_wp2
  go_loopw [1, 5] (fun kv iv wr => ∃ i q : Nat, i ≤ n ∧ iv = .int .i64 i ∧ kv = .int .i64 (q : Int) ∧ q = k + 3 * i ∧ Below w.heap.size w wr) (fun _ iv _ => n - (intOf iv).toNat)
  case atStart => exact ⟨0, k, by omega, rfl, rfl, by omega, Below.refl _ _⟩
  case round =>
    obtain ⟨i, q, hi, rfl, rfl, hq, hR⟩ := hrel
    have HQE := Lib.hid hq
    have HR := Lib.hid hR
    by_cases hlt : i < n
    · obtain ⟨ea, hlb⟩ := HA.out (by rw [mts_len]; omega)
      subst ea
      obtain ⟨c0, c1, c2⟩ := HC.out i (by rw [mts_len]; exact hlt)
      rw [mts_get n k i hlt] at c0 c1 c2
      rw [← hq] at c0 c1 c2
      simp only at c0 c1 c2
      have hbw := hS b hlb
      have hd : b < wr.heap.size := Nat.lt_of_lt_of_le hbw hR.size
      have q0 := (hR.cell (p := ⟨b, off + i * 3, none⟩) hbw).trans c0
      have q1 := (hR.cell (p := ⟨b, off + i * 3 + 1, none⟩) hbw).trans c1
      have q2 := (hR.cell (p := ⟨b, off + i * 3 + 2, none⟩) hbw).trans c2
      have HQ := Lib.hid (And.intro q0 (And.intro q1 q2))
      have HT := Lib.hid (fun W => markText_any q (by omega) (by omega) W)
      generalize mkT q = tx at *
      have hqb : q ≤ 5000000 := by omega
      clear hq
      have e1 : (tx == tx) = true := by simp
      have e2 : (tx != tx) = false := by simp
      clear c0 c1 c2 q1 q2 hR
      go_wp2_with fail
      refine wp_region_ext (by kernel_rfl) (by kernel_rfl) ?_
      repeat (go_big_quiet_step ((go_at_call 130; refine call_ext (v := .string ⟨tx.toArray⟩) ?_; with_reducible exact HT.out _)))
      refine wpQuiet_nil ?_
      intro _ hw'
      obtain ⟨y8, rfl⟩ := hw'
      have hv8 := up_below _ y8
      generalize up _ y8 = v8 at *
      have D8 := Lib.hid (Po.belI_step HR.out hv8)
      have r1 := (hv8.cell (p := ⟨b, off + i * 3 + 1, none⟩) hd).trans HQ.out.2.1
      have r2 := (hv8.cell (p := ⟨b, off + i * 3 + 2, none⟩) hd).trans HQ.out.2.2
      have f1 : ((q : Int) + 1 != (q : Int) + 1) = false := by simp
      have f2 : ((q : Int) + 2 != (q : Int) + 1 + 1) = false := by simp; omega
      have f3 : ((q : Int) + 1 + 1 != (q : Int) + 1 + 1) = false := by simp
      clear hv8 q0 HQ
      go_wp2
      go_roundw
      case rel => exact ⟨i + 1, q + 3, by omega, by go_num, by go_num, by have := HQE.out; omega, D8.out⟩
      case measure => simp [intOf]; omega
    · obtain rfl : i = n := by omega
      go_wp2
      go_ret
      exact ⟨ret_iU (by have := HQE.out; omega), hR⟩
end Go.Proofs.YtbkikbhnehjaaaaGreatDoor.Ug
namespace Go.Proofs.YtbkikbhnehjaaaaGreatDoor.Ug
open Go.RowKit
open Go.Proofs.YtbkikbhnehjaaaaGreatDoor.Po
open Go.Proofs.YtbkikbhnehjaaaaGreatDoor.Tx hiding ret_b ret_i
open Go.Proofs.YtbkikbhnehjaaaaGreatDoor.Ul (Tab MaxL)
def tsK (us : List (List UInt8)) (k : Nat) : List Tg := (List.range k).map fun i => ⟨us.getD i [], (i : Int) + 1, 1⟩
theorem tsK_len (us : List (List UInt8)) (k : Nat) : (tsK us k).length = k := by simp [tsK]
theorem tsK_get (us : List (List UInt8)) (k i : Nat) (h : i < k) : ((tsK us k).getD i default).url = us.getD i [] := by simp [tsK, h]
theorem tsK_cells (us : List (List UInt8)) (k : Nat) (t : List UInt8) (z : Int) (ht : us.getD k [] = t) (hz : z = (k : Int) + 1) : tgC (tsK us (k + 1)) = tgC (tsK us k) ++ [.string ⟨t.toArray⟩, .int .i64 z, .int .i64 1] := by
  subst ht hz
  rw [tsK, List.range_succ, List.map_append, tgC_app]
  rfl
def ugG (p : Pl) : Gp := if plB p then (if p.uris.length = 0 then ⟨[], 0, []⟩ else ⟨uriL, 100, tsK p.uris p.uris.length⟩) else ⟨[], 0, []⟩
def ugC (p : Pl) : Int := if plB p then (if p.uris.length = 0 then 5 else 0) else 1
def NewU (W : World) (p : Pl) (e : Ending) (w' : World) : Prop := ∃ tv, e = .returned (.tuple #[gV (ugG p) tv, .int .i64 (ugC p)]) ∧ O3 w' W.heap.size tv (ugG p).tgs ∧ Below W.heap.size W w'
def NewL (W : World) (us : List (List UInt8)) (e : Ending) (w' : World) : Prop := ∃ a l c, e = .returned (.agg #[.string ⟨#[117, 114, 105]⟩, .int .i64 100, .slice a l c]) ∧ O3 w' W.heap.size (.slice a l c) (tsK us us.length) ∧ Below W.heap.size W w'
theorem O3.base {w : World} {a b : Nat} {v : Value} {ts : List Tg} (h : O3 w a v ts) (hab : b ≤ a) : O3 w b v ts := by
  obtain ⟨h1, h2⟩ := h
  refine ⟨h1, h2.imp id ?_⟩
  rintro ⟨g, cap, cur, e, hg, r⟩
  exact ⟨g, cap, cur, e, by omega, r⟩
theorem O3.far {w : World} {a g : Nat} {v x : Value} {ts : List Tg} {o : Nat} (h : O3 w a v ts) (hne : v.ownBlock ≠ some g) : O3 (w.setCell ⟨g, o, none⟩ x) a v ts :=
  h.kept (row := some g) ⟨rfl, rfl, rfl, by simp, fun b _ hb2 => heap_setCell_other _ ⟨g, o, none⟩ b _ (fun e => hb2 (congrArg some e))⟩ (.inr hne)
theorem O3.nil (w : World) (a : Nat) : O3 w a (.slice none 0 0) [] := World.ownsRow_nil _ _ _ _
theorem heap_set3 {w : World} {b : Nat} {a0 a1 a2 : Value} {T : TypeId} (h : w.heap[b]? = some (.cells #[a0, a1, a2] T (0, 0))) (x y z : Value) : (set3 w b 0 x y z).heap[b]? = some (.cells #[x, y, z] T (0, 0)) :=
  heap_set (heap_set (heap_set h 0 x) 1 y) 2 z
/-- the row behind k rounds, its head in block g -/
def URel (w1 : World) (base g : Nat) (us : List (List UInt8)) (k : Nat) (wr : World) : Prop :=
  ∃ cur, wr.heap[g]? = some (.cells #[.string ⟨#[117, 114, 105]⟩, .int .i64 100, cur] 70 (0, 0)) ∧ O3 wr base cur (tsK us k) ∧ cur.ownBlock ≠ some g ∧ Below w1.heap.size w1 wr
theorem uRel_own {B k : Nat} {wr w2 : World} {cur : Value} {us : List (List UInt8)} (h : O3 wr B cur (tsK us k)) (hb : Below wr.heap.size wr.drew w2) : w2.ownsRow B 73 3 cur k (tgC (tsK us k)) := by
  have := h.kept (w' := w2) (row := none) ⟨hb.os, hb.tape, hb.output, hb.size, fun b hlt _ => hb.block b hlt⟩ (by rcases Classical.em (cur.ownBlock = none) with h | h; exact .inl h; exact .inr h)
  unfold O3 at this
  rwa [tsK_len] at this
theorem uRel_step {w1 wr w2 w4 : World} {base g : Nat} {cur : Value} {us : List (List UInt8)} {k : Nat} {t2 : List UInt8} {z : Int} {gg ccap : Nat} {o : Obj} (hx : us.getD k [] = t2) (hz : z = (k : Int) + 1)
    (hblk : wr.heap[g]? = some (.cells #[.string ⟨#[117, 114, 105]⟩, .int .i64 100, cur] 70 (0, 0))) (hRB : Below w1.heap.size w1 wr) (hg0 : w1.heap.size ≤ g) (hb0 : w1.heap.size ≤ base) (hGlt : g < wr.heap.size) (hne : cur.ownBlock ≠ some g)
    (ho : O3 wr base cur (tsK us k)) (hb : Below wr.drew.heap.size wr.drew w2)
    (h4 : w4.ownsRow base 73 3 (.slice (some ⟨gg, 0, none⟩) (k + 1) ccap) (k + 1) (tgC (tsK us k) ++ [.string ⟨t2.toArray⟩, .int .i64 z, .int .i64 1])) (hg : (w2.alloc o).grownBy w4 cur.ownBlock) (hat : cur.ownBlock = some gg ∨ gg = w2.heap.size + 1) :
    URel w1 base g us (k + 1) (w4.setCell ⟨g, 2, none⟩ (.slice (some ⟨gg, 0, none⟩) (k + 1) ccap)) := by
  have hlt := World.ownsRow.lt ho
  have hbs : wr.heap.size ≤ w2.heap.size := hb.size
  have hgg : gg ≠ g := by
    intro e
    rcases hat with h | h
    · exact hne (by rw [h, e])
    · omega
  have hw4 : w4.heap[g]? = wr.heap[g]? := by
    rw [hg.block _ (by simp; omega) (fun e => hne e.symm), heap_alloc_old _ _ (by omega)]
    exact hb.block _ hGlt
  have hsz := hRB.size
  have hbW : Below w1.heap.size w1 w2 := hRB.trans (Below.mono (w := wr) ⟨hb.os, hb.tape, hb.output, hb.size, hb.block⟩ hsz)
  have h4' : O3 w4 base (.slice (some ⟨gg, 0, none⟩) (k + 1) ccap) (tsK us (k + 1)) := by
    unfold O3
    rw [tsK_len, tsK_cells us k t2 z hx hz]
    exact h4
  have hne2 : (Value.slice (some ⟨gg, 0, none⟩) (k + 1) ccap).ownBlock ≠ some g := fun e => hgg (by simpa [Value.ownBlock] using e)
  exact ⟨_, heap_set (hw4.trans hblk) 2 _, h4'.far hne2, hne2, ((hbW.alloc (by omega) o).grown hg (by simp; omega) (fun b e => by have := hlt b e; omega)).setCell hg0 _⟩
theorem ret_G1 {fn : Func} {a B : Nat} {tmps : Array Value} {X : World} {c0 c1 c2 : Value} {T : TypeId} (hres : fn.results = #[.cell a 70]) (ha : tmps[a]?.getD undef = .pointer (some ⟨B, 0, none⟩)) (h : X.heap[B]? = some (.cells #[c0, c1, c2] T (0, 0))) :
    (results fn tmps).run Tryz.prog X = .ok (.agg #[c0, c1, c2]) X := by
  obtain ⟨k0, k1, k2, _⟩ := three_cells h
  simp [results, hres, ha, go_sem, k0, k1, k2]
theorem ret_G2 {fn : Func} {a s B : Nat} {tmps : Array Value} {X : World} {c0 c1 c2 x : Value} {T : TypeId} (hres : fn.results = #[.cell a 70, .tmp s]) (ha : tmps[a]?.getD undef = .pointer (some ⟨B, 0, none⟩)) (hs : tmps[s]?.getD undef = x) (h : X.heap[B]? = some (.cells #[c0, c1, c2] T (0, 0))) :
    (results fn tmps).run Tryz.prog X = .ok (.tuple #[.agg #[c0, c1, c2], x]) X := by
  obtain ⟨k0, k1, k2, _⟩ := three_cells h
  simp [results, hres, ha, hs, go_sem, k0, k1, k2]
theorem Tryz.infoTgt : (Tryz.prog.info? 73).map (fun i => (i.zero, i.size, i.bytes)) = some (some (.agg #[.string ByteArray.empty, .int .i64 0, .int .i64 0]), 3, 32) := by kernel_rfl
set_option maxRecDepth 100000 in
set_option maxHeartbeats 2000000 in
theorem lgS_any (B : Nat) (w0 : World) (p : Pl) (uv rv : Value) (hu : TxtsIn (· < B) w0 uv p.uris) (hl : p.uris.length ≤ 1048576) (hrv : ∃ a l c, rv = .slice a l c) (W : World) (hb : Below B w0 W) (hB : B ≤ W.heap.size) :
    Calls Tryz.prog 121 #[pV p uv rv] W (NewL W p.uris) := by
  obtain ⟨a2, l2, c2, rfl⟩ := hrv
  obtain ⟨a, cap, b, off, rfl, hcap, hm, -, ha, hc⟩ := hu
  obtain ⟨rep, us, xs⟩ := p
  simp only at hl hcap ha hc ⊢
  have HC := Lib.hid hc
  have HA := Lib.hid ha
  have HB := Lib.hid hb
  clear hc ha hb
  obtain ⟨i0, hi, hz0, hz1, hz2⟩ := info_parts Tryz.infoTgt
  obtain ⟨X2, hX2⟩ : ∃ X, X = (W.alloc (.cells #[.string ⟨rep.toArray⟩, .slice a us.length cap, .slice a2 l2 c2] 26)).alloc (.cells #[.string ⟨#[]⟩, .int .i64 0, .slice none 0 0] 70) := ⟨_, rfl⟩
  have HS2 := Lib.hid (show X2.heap.size = W.heap.size + 1 + 1 by rw [hX2]; simp)
  have HK0 := Lib.hid (show X2.heap[W.heap.size]? = some (.cells #[.string ⟨rep.toArray⟩, .slice a us.length cap, .slice a2 l2 c2] 26) by rw [hX2]; exact (heap_alloc_old _ _ (by simp)).trans (heap_alloc_new W _))
  have HK1 := Lib.hid (show X2.heap[W.heap.size + 1]? = some (.cells #[.string ⟨#[]⟩, .int .i64 0, .slice none 0 0] 70) by rw [hX2]; exact heap_alloc2_new W _ _)
  have HBX := Lib.hid (show Below W.heap.size W X2 by rw [hX2]; exact (((Below.refl _ _).alloc (Nat.le_refl _) _).alloc (by simp) _))
  have HST := Lib.hid (show URel X2 (W.heap.size + 1 + 1) (W.heap.size + 1 + 1 + 1) us 0 (((X2.alloc (.cells #[] 73)).alloc (.cells #[.string ⟨#[117, 114, 105]⟩, .int .i64 100, .slice (some ⟨W.heap.size + 1 + 1, 0, none⟩) 0 0] 70))) from by
    have e := HS2.out
    refine ⟨_, by have := heap_alloc2_new X2 (.cells #[] 73) (.cells #[.string ⟨#[117, 114, 105]⟩, .int .i64 100, .slice (some ⟨W.heap.size + 1 + 1, 0, none⟩) 0 0] 70); rw [e] at this; exact this, ?_, by simp [Value.ownBlock], ((Below.refl _ _).alloc (Nat.le_refl _) _).alloc (by simp) _⟩
    have h := World.ownsRow_made (base := W.heap.size + 1 + 1) (e := 73) (size := 3) X2 #[] 0 (by omega) (by unfold maxLen; omega) rfl
    rw [e] at h
    exact World.ownsRow.alloc h _)
  have hX := Lib.hid hX2
  clear hX2
  go_enter Tryz.func121, Tryz.ntmps121
  go_wp2_with fail
  go_loopw [4] (fun i wr => ∃ k : Nat, k ≤ us.length ∧ i = .int .i64 k ∧ URel X2 (W.heap.size + 1 + 1) (W.heap.size + 1 + 1 + 1) us k wr) (fun i _ => us.length - (intOf i).toNat)
  case atStart => exact ⟨0, by omega, rfl, by have := HST.out; rw [hX.out] at this ⊢; simpa using this⟩
  case round =>
    obtain ⟨k, hk, rfl, hR⟩ := hrel
    obtain ⟨cur, hblk, hown, hne, hRB⟩ := hR
    obtain ⟨ac, cc, rfl⟩ := hown.slice
    rw [tsK_len] at hne hblk hown
    have hwr := hRB.size
    have hs2 := HS2.out
    have hGlt : W.heap.size + 1 + 1 + 1 < wr.heap.size := by
      rcases Nat.lt_or_ge (W.heap.size + 1 + 1 + 1) wr.heap.size with h' | h'
      · exact h'
      · simp [Array.getElem?_eq_none h'] at hblk
    have k0 := (hRB.block W.heap.size (by omega)).trans HK0.out
    obtain ⟨m0, m1, m2, mf⟩ := three_cells k0
    by_cases hlt : k < us.length
    · obtain ⟨ea, hlb⟩ := HA.out (by omega)
      subst ea
      have q0 := (hRB.cell (p := ⟨b, off + k, none⟩) (show b < X2.heap.size by omega)).trans ((HBX.out.cell (p := ⟨b, off + k, none⟩) (Nat.lt_of_lt_of_le hlb hB)).trans ((HB.out.cell (p := ⟨b, off + k, none⟩) hlb).trans (HC.out k hlt)))
      obtain ⟨p0, p1, p2, pf⟩ := three_cells hblk
      have pf2 := pf 2
      have HBLK := Lib.hid hblk
      have HOWN := Lib.hid hown
      have HNE := Lib.hid hne
      have HRB := Lib.hid hRB
      have hown2 := uRel_own hown (w2 := wr.drew) (Below.refl _ _)
      have hown3 : ∀ o : Obj, ((wr.alloc o).drew).ownsRow (W.heap.size + 1 + 1) 73 3 (.slice ac k cc) k (tgC (tsK us k)) := fun o => World.ownsRow.alloc hown2 o
      have hnb : ∀ o : Obj, ((wr.alloc o).drew).heap[wr.drew.heap.size]? = some o := fun o => heap_alloc_new wr o
      have W1 : IntKind.i64.wrap (1 + (k : Int)) = 1 + (k : Int) := IntWalk.i64_in _ (by omega)
      clear hblk hown hRB pf k0 hne p0 p1 m0 m2 mf hs2
      generalize hx : us.getD k [] = t2 at *
      have HX := Lib.hid hx
      clear hx
      go_wp2_with fail
      go_region_law (first
              | (refine step_append_lies _ (by rfl) _ _ _ (by rfl) (W.heap.size + 1 + 1) 73 i0 _ 3 32 Tryz.underlying68 hi hz0 hz1 hz2 rfl (by omega) (.slice ac k cc) k (tgC (tsK us k)) (by rfl) (hown3 _)
                  ⟨wr.drew.heap.size, 0, none⟩ 1 1 [.string ⟨t2.toArray⟩, .int .i64 (1 + (k : Int)), .int .i64 1] (by rfl) (by rfl) (World.news_of_block (cs := #[.string ⟨t2.toArray⟩, .int .i64 (1 + (k : Int)), .int .i64 1]) (t := 73) (fr := (0, 0)) (hnb _)) (by simp [Value.oneCell'])
                  (by omega) (by unfold maxLen; omega) (by omega) (by simp; omega) (wr.drew.heap.size + 1) (by simp) ?_; intro gg ccap w4 hown4 hgrow hat hlt4; have r3 : w4.cell? ⟨W.heap.size + 1 + 1 + 1, 2, none⟩ = some (.slice ac k cc) := ((hgrow.cell_far _ (by simp; omega) (Ne.symm HNE.out)).trans ((World.cell?_alloc_past _ _ _ hGlt).trans p2)); have r3f : w4.frozen? ⟨W.heap.size + 1 + 1 + 1, 2, none⟩ = false := ((hgrow.frozen_far _ (by simp; omega) (Ne.symm HNE.out)).trans ((World.frozen?_alloc_past _ _ _ hGlt).trans pf2))))
      all_goals
        have HN := Lib.hid (uRel_step (w2 := wr.drew) (o := .cells #[.string ⟨t2.toArray⟩, .int .i64 (1 + (k : Int)), .int .i64 1] 73) HX.out (Int.add_comm _ _) HBLK.out HRB.out (by have := HS2.out; omega) (by have := HS2.out; omega) hGlt HNE.out HOWN.out (Below.refl _ _) hown4 hgrow hat)
        clear hown2 hown3 hnb hown4 hgrow r3 r3f pf2 p2 hat
        go_wp2
        go_roundw
        case rel => exact ⟨k + 1, by omega, by go_num, HN.out⟩
        case measure => simp [intOf]; omega
    · obtain rfl : k = us.length := by omega
      obtain ⟨p0, p1, p2, pf⟩ := three_cells hblk
      have k1 := (hRB.block (W.heap.size + 1) (by omega)).trans HK1.out
      obtain ⟨n0, n1, n2, nf⟩ := three_cells k1
      have hlt0 := World.ownsRow.lt hown
      have hne1 : (Value.slice ac us.length cc).ownBlock ≠ some (W.heap.size + 1) := fun e => by have := hlt0 _ e; omega
      have HFIN := Lib.hid (heap_set3 k1 (.string ⟨#[117, 114, 105]⟩) (.int .i64 100) (.slice ac us.length cc))
      have HP := Lib.hid (show NewL W us (.returned (.agg #[.string ⟨#[117, 114, 105]⟩, .int .i64 100, .slice ac us.length cc])) (set3 wr (W.heap.size + 1) 0 (.string ⟨#[117, 114, 105]⟩) (.int .i64 100) (.slice ac us.length cc)) from
        ⟨_, _, _, rfl, (((hown.base (by omega)).far hne1).far hne1).far hne1, (((HBX.out.trans (hRB.mono (by omega))).setCell (by simp) _).setCell (by simp) _).setCell (by simp) _⟩)
      clear hblk hown hRB k0 k1 hne1 hlt0
      go_wp2
      exact bodyPost_ret (ret_G1 Tryz.results121 rfl HFIN.out) rfl HP.out
theorem newU_zero {W w1 : World} {p : Pl} {c : Int} (h1 : ugG p = ⟨[], 0, []⟩) (h2 : ugC p = c) (hb : Below W.heap.size W w1) : NewU W p (.returned (.tuple #[.agg #[.string ⟨#[]⟩, .int .i64 0, .slice none 0 0], .int .i64 c])) (set3 w1 (W.heap.size + 1) 0 (.string ⟨#[]⟩) (.int .i64 0) (.slice none 0 0)) :=
  ⟨.slice none 0 0, by rw [h1, h2], by rw [h1]; exact O3.nil _ _, ((hb.setCell (by simp) _).setCell (by simp) _).setCell (by simp) _⟩
theorem uriA : (#[117, 114, 105] : Array UInt8) = uriL.toArray := rfl
theorem newU_full {W w1 : World} {p : Pl} {a : Option Addr} {l c : Nat} (h1 : ugG p = ⟨uriL, 100, tsK p.uris p.uris.length⟩) (h2 : ugC p = 0) (hb : Below W.heap.size W w1) (ho : O3 w1 (W.heap.size + 2) (.slice a l c) (tsK p.uris p.uris.length)) :
    NewU W p (.returned (.tuple #[.agg #[.string ⟨#[117, 114, 105]⟩, .int .i64 100, .slice a l c], .int .i64 0])) (set3 w1 (W.heap.size + 1) 0 (.string ⟨#[117, 114, 105]⟩) (.int .i64 100) (.slice a l c)) := by
  have hlt0 := World.ownsRow.lt ho
  have hne1 : (Value.slice a l c).ownBlock ≠ some (W.heap.size + 1) := fun e => by have := hlt0 _ e; omega
  refine ⟨.slice a l c, by rw [h1, h2, uriA], by rw [h1]; exact (((ho.base (by omega)).far hne1).far hne1).far hne1, ((hb.setCell (by simp) _).setCell (by simp) _).setCell (by simp) _⟩
theorem ugG_no {p : Pl} (h : plB p = false) : ugG p = ⟨[], 0, []⟩ := by unfold ugG; rw [h]; rfl
theorem ugC_no {p : Pl} (h : plB p = false) : ugC p = 1 := by unfold ugC; rw [h]; rfl
theorem ugG_nil {p : Pl} (h : plB p = true) (h2 : p.uris.length = 0) : ugG p = ⟨[], 0, []⟩ := by unfold ugG; rw [h, if_pos rfl, if_pos h2]
theorem ugC_nil {p : Pl} (h : plB p = true) (h2 : p.uris.length = 0) : ugC p = 5 := by unfold ugC; rw [h, if_pos rfl, if_pos h2]
theorem ugG_all {p : Pl} (h : plB p = true) (h2 : ¬ p.uris.length = 0) : ugG p = ⟨uriL, 100, tsK p.uris p.uris.length⟩ := by unfold ugG; rw [h, if_pos rfl, if_neg h2]
theorem ugC_all {p : Pl} (h : plB p = true) (h2 : ¬ p.uris.length = 0) : ugC p = 0 := by unfold ugC; rw [h, if_pos rfl, if_neg h2]
end Go.Proofs.YtbkikbhnehjaaaaGreatDoor.Ug
namespace Go.Proofs.YtbkikbhnehjaaaaGreatDoor.Ug
open Go.RowKit
open Go.Proofs.YtbkikbhnehjaaaaGreatDoor.Po
open Go.Proofs.YtbkikbhnehjaaaaGreatDoor.Tx hiding ret_b ret_i
open Go.Proofs.YtbkikbhnehjaaaaGreatDoor.Ul (Tab MaxL)
set_option maxRecDepth 100000 in
set_option maxHeartbeats 2000000 in
theorem uriS_any (B : Nat) (w0 : World) (p : Pl) (uv rv : Value) (hu : TxtsIn (· < B) w0 uv p.uris) (hr : RlIn (· < B) w0 rv p.rules) (hs : Small p) (W : World) (hb : Below B w0 W) (hB : B ≤ W.heap.size) :
    Calls Tryz.prog 50 #[pV p uv rv] W (NewU W p) := by
  have HK := Lib.hid (fun W' h1 h2 => okS_any B w0 p uv rv hu hr hs.rules hs.name hs.words W' h1 h2)
  have HL := Lib.hid (fun W' h1 h2 => lgS_any B w0 p uv rv hu hs.uris hr.slice W' h1 h2)
  have g0 := Lib.hid (fun (h : plB p = false) => And.intro (ugG_no h) (ugC_no h))
  have g1 := Lib.hid (fun (h : plB p = true) (h2 : p.uris.length = 0) => And.intro (ugG_nil h h2) (ugC_nil h h2))
  have g2 := Lib.hid (fun (h : plB p = true) (h2 : ¬ p.uris.length = 0) => And.intro (ugG_all h h2) (ugC_all h h2))
  obtain ⟨a1, cu, b1, o1, rfl, -, -, -, -, -⟩ := hu
  obtain ⟨a2, l2, c2, rfl⟩ := hr.slice
  have HB := Lib.hid hb
  clear hr hs hb
  generalize plB p = r at *
  have HPST := Lib.hid (fun (w1 : World) (c : Int) (h1 : ugG p = ⟨[], 0, []⟩) (h2 : ugC p = c) h3 => newU_zero (W := W) (w1 := w1) (p := p) h1 h2 h3)
  have HPSF := Lib.hid (fun (w1 : World) (a : Option Addr) (l c : Nat) (h1 : ugG p = ⟨uriL, 100, tsK p.uris p.uris.length⟩) (h2 : ugC p = 0) h3 h4 => newU_full (W := W) (w1 := w1) (p := p) (a := a) (l := l) (c := c) h1 h2 h3 h4)
  generalize NewU W p = PST at *
  have HB1 := Lib.hid (((Below.refl W.heap.size W).alloc (Nat.le_refl _) (.cells #[.string ⟨p.rep.toArray⟩, .slice a1 p.uris.length cu, .slice a2 l2 c2] 26)).alloc (by simp) (.cells #[.string ⟨#[]⟩, .int .i64 0, .slice none 0 0] 70))
  have HK5 := Lib.hid ((heap_alloc_old (W.alloc (.cells #[.string ⟨p.rep.toArray⟩, .slice a1 p.uris.length cu, .slice a2 l2 c2] 26)) (.cells #[.string ⟨#[]⟩, .int .i64 0, .slice none 0 0] 70) (by simp)).trans (heap_alloc_new W _))
  have HK6 := Lib.hid (heap_alloc2_new W (.cells #[.string ⟨p.rep.toArray⟩, .slice a1 p.uris.length cu, .slice a2 l2 c2] 26) (.cells #[.string ⟨#[]⟩, .int .i64 0, .slice none 0 0] 70))
  go_enter Tryz.func50, Tryz.ntmps50
  go_wp2_with fail
  refine (HK.out _ ((HB.out.alloc hB _).alloc (by simp; omega) _) (by simp; omega)).mono ?_
  rintro e w1 ⟨rfl, hb1⟩
  have z1 : W.heap.size + 1 < w1.heap.size := by have := hb1.size; simp at this; omega
  have k5 := (hb1.block _ (by simp; omega)).trans HK5.out
  have k6 := (hb1.block _ (by simp)).trans HK6.out
  obtain ⟨m0, m1, m2, mf⟩ := three_cells k5
  obtain ⟨n0, n1, n2, nf⟩ := three_cells k6
  have K6 := Lib.hid k6
  have HF := Lib.hid (HB1.out.trans (hb1.mono (by simp; omega)))
  clear hb1 k5 k6 HK HK5 HK6
  cases r
  · have HFIN := Lib.hid (heap_set3 K6.out (.string ⟨#[]⟩) (.int .i64 0) (.slice none 0 0))
    have HP := Lib.hid (HPST.out w1 1 (g0.out rfl).1 (g0.out rfl).2 HF.out)
    go_wp2
    exact bodyPost_ret (ret_G2 Tryz.results50 rfl rfl HFIN.out) rfl HP.out
  · by_cases h2 : p.uris.length = 0
    · have HFIN := Lib.hid (heap_set3 K6.out (.string ⟨#[]⟩) (.int .i64 0) (.slice none 0 0))
      have HP := Lib.hid (HPST.out w1 5 (g1.out rfl h2).1 (g1.out rfl h2).2 HF.out)
      have d2 : ((p.uris.length : Int) == 0) = true := by simp [h2]
      clear h2
      go_wp2
      exact bodyPost_ret (ret_G2 Tryz.results50 rfl rfl HFIN.out) rfl HP.out
    · have d2 : ((p.uris.length : Int) == 0) = false := by simpa using h2
      have G2 := Lib.hid (g2.out rfl h2)
      clear h2
      go_wp2_with fail
      refine (HL.out w1 (HB.out.trans (HF.out.mono hB)) (by omega)).mono ?_
      rintro e w2 ⟨a3, l3, c3, rfl, ho, hb2⟩
      have k6 := (hb2.block _ z1).trans K6.out
      obtain ⟨n0, n1, n2, nf⟩ := three_cells k6
      have HFIN := Lib.hid (heap_set3 k6 (.string ⟨#[117, 114, 105]⟩) (.int .i64 100) (.slice a3 l3 c3))
      have HP := Lib.hid (HPSF.out w2 a3 l3 c3 G2.out.1 G2.out.2 (below_chain HF.out hb2) (ho.base (by omega)))
      clear ho hb2 k6
      go_wp2
      exact bodyPost_ret (ret_G2 Tryz.results50 rfl rfl HFIN.out) rfl HP.out
set_option maxRecDepth 100000 in
set_option maxHeartbeats 4000000 in
theorem uriI_any (B : Nat) (w0 : World) (p : Pl) (uv rv : Value) (hu : TxtsIn (· < B) w0 uv p.uris) (hr : RlIn (· < B) w0 rv p.rules) (hs : Small p) (W : World) (hb : Below B w0 W) (hB : B ≤ W.heap.size) (hT : Tab W) (hM : MaxL W) :
    Calls Tryz.prog 49 #[pV p uv rv] W (NewU W p) := by
  have HK := Lib.hid (fun W' h1 h2 h3 h4 => polI_any B w0 p uv rv hu hr hs W' h1 h2 h3 h4)
  have g0 := Lib.hid (fun (h : plB p = false) => And.intro (ugG_no h) (ugC_no h))
  have g1 := Lib.hid (fun (h : plB p = true) (h2 : p.uris.length = 0) => And.intro (ugG_nil h h2) (ugC_nil h h2))
  have g2 := Lib.hid (fun (h : plB p = true) (h2 : ¬ p.uris.length = 0) => And.intro (ugG_all h h2) (ugC_all h h2))
  obtain ⟨a1, cu, b1, o1, rfl, hcap, hm, -, ha, hc⟩ := hu
  obtain ⟨a2, l2, c2, rfl⟩ := hr.slice
  have HC := Lib.hid hc
  have HA := Lib.hid ha
  have HB := Lib.hid hb
  have HT := Lib.hid hT
  have HM := Lib.hid hM
  have HLN := Lib.hid hs.uri
  have hl := hs.uris
  clear hr hs hb hT hM hc ha
  generalize plB p = r at *
  have HPST := Lib.hid (fun (w1 : World) (c : Int) (h1 : ugG p = ⟨[], 0, []⟩) (h2 : ugC p = c) h3 => newU_zero (W := W) (w1 := w1) (p := p) h1 h2 h3)
  have HPSF := Lib.hid (fun (w1 : World) (a : Option Addr) (l c : Nat) (h1 : ugG p = ⟨uriL, 100, tsK p.uris p.uris.length⟩) (h2 : ugC p = 0) h3 h4 => newU_full (W := W) (w1 := w1) (p := p) (a := a) (l := l) (c := c) h1 h2 h3 h4)
  generalize NewU W p = PST at *
  obtain ⟨i0, hi, hz0, hz1, hz2⟩ := info_parts Tryz.infoTgt
  have HB1 := Lib.hid (((Below.refl W.heap.size W).alloc (Nat.le_refl _) (.cells #[.string ⟨p.rep.toArray⟩, .slice a1 p.uris.length cu, .slice a2 l2 c2] 26)).alloc (by simp) (.cells #[.string ⟨#[]⟩, .int .i64 0, .slice none 0 0] 70))
  have HK5 := Lib.hid ((heap_alloc_old (W.alloc (.cells #[.string ⟨p.rep.toArray⟩, .slice a1 p.uris.length cu, .slice a2 l2 c2] 26)) (.cells #[.string ⟨#[]⟩, .int .i64 0, .slice none 0 0] 70) (by simp)).trans (heap_alloc_new W _))
  have HK6 := Lib.hid (heap_alloc2_new W (.cells #[.string ⟨p.rep.toArray⟩, .slice a1 p.uris.length cu, .slice a2 l2 c2] 26) (.cells #[.string ⟨#[]⟩, .int .i64 0, .slice none 0 0] 70))
  generalize p.uris = us at *
  go_enter Tryz.func49, Tryz.ntmps49
  go_wp2_with fail
  refine (HK.out _ ((HB.out.alloc hB _).alloc (by simp; omega) _) (by simp; omega) (HT.out.below HB1.out) (HM.out.below HB1.out)).mono ?_
  rintro e w1 ⟨rfl, hb1⟩
  have z1 : W.heap.size + 1 < w1.heap.size := by have := hb1.size; simp at this; omega
  have k5 := (hb1.block _ (by simp; omega)).trans HK5.out
  have k6 := (hb1.block _ (by simp)).trans HK6.out
  obtain ⟨m0, m1, m2, mf⟩ := three_cells k5
  obtain ⟨n0, n1, n2, nf⟩ := three_cells k6
  have K5 := Lib.hid k5
  have K6 := Lib.hid k6
  have HF := Lib.hid (HB1.out.trans (hb1.mono (by simp; omega)))
  clear hb1 k5 k6 HK HK5 HK6
  cases r
  · have HFIN := Lib.hid (heap_set3 K6.out (.string ⟨#[]⟩) (.int .i64 0) (.slice none 0 0))
    have HP := Lib.hid (HPST.out w1 1 (g0.out rfl).1 (g0.out rfl).2 HF.out)
    go_wp2
    exact bodyPost_ret (ret_G2 Tryz.results49 rfl rfl HFIN.out) rfl HP.out
  · by_cases h2 : us.length = 0
    · have HFIN := Lib.hid (heap_set3 K6.out (.string ⟨#[]⟩) (.int .i64 0) (.slice none 0 0))
      have HP := Lib.hid (HPST.out w1 5 (g1.out rfl h2).1 (g1.out rfl h2).2 HF.out)
      have d2 : ((us.length : Int) == 0) = true := by simp [h2]
      clear h2
      go_wp2
      exact bodyPost_ret (ret_G2 Tryz.results49 rfl rfl HFIN.out) rfl HP.out
    · have d2 : ((us.length : Int) == 0) = false := by simpa using h2
      have G2 := Lib.hid (g2.out rfl h2)
      have HST := Lib.hid (show URel w1 (w1.heap.size + 1) w1.heap.size us 0 (w1.alloc (.cells #[.string ⟨#[117, 114, 105]⟩, .int .i64 100, .slice none 0 0] 70)) from
        ⟨_, heap_alloc_new _ _, O3.nil _ _, by simp [Value.ownBlock], (Below.refl _ _).alloc (Nat.le_refl _) _⟩)
      have z0 : W.heap.size < w1.heap.size := by omega
      clear h2 m0 m2 n0 n1 n2
      go_wp2_with fail
      go_loopw [22] (fun i wr => ∃ k : Nat, k ≤ us.length ∧ i = .int .i64 k ∧ URel w1 (w1.heap.size + 1) w1.heap.size us k wr) (fun i _ => us.length - (intOf i).toNat)
      case atStart => exact ⟨0, by omega, rfl, HST.out⟩
      case round =>
        obtain ⟨k, hk, rfl, hR⟩ := hrel
        obtain ⟨cur, hblk, hown, hne, hRB⟩ := hR
        obtain ⟨ac, cc, rfl⟩ := hown.slice
        rw [tsK_len] at hne hblk hown
        have hwr := hRB.size
        have hGlt : w1.heap.size < wr.heap.size := by
          rcases Nat.lt_or_ge w1.heap.size wr.heap.size with h' | h'
          · exact h'
          · simp [Array.getElem?_eq_none h'] at hblk
        by_cases hlt : k < us.length
        · obtain ⟨ea, hlb⟩ := HA.out (by omega)
          subst ea
          have q0 := (hRB.cell (p := ⟨b1, o1 + k, none⟩) (show b1 < w1.heap.size by omega)).trans ((HF.out.cell (p := ⟨b1, o1 + k, none⟩) (Nat.lt_of_lt_of_le hlb hB)).trans ((HB.out.cell (p := ⟨b1, o1 + k, none⟩) hlb).trans (HC.out k hlt)))
          have htl := HLN.out k hlt
          obtain ⟨p0, p1, p2, pf⟩ := three_cells hblk
          have pf2 := pf 2
          have HBLK := Lib.hid hblk
          have HOWN := Lib.hid hown
          have HNE := Lib.hid hne
          have HRB := Lib.hid hRB
          clear hblk hown hRB pf hne p0 p1 m1
          generalize hx : us.getD k [] = t2 at *
          have HX := Lib.hid hx
          clear hx
          have HCL := Lib.hid (fun w => Ul.clone_any t2 w (by omega))
          have W1 : IntKind.i64.wrap ((k : Int) + 1) = (k : Int) + 1 := IntWalk.i64_in _ (by omega)
          go_wp2_with fail
          go_region_law (first
              | (go_simp; go_at_call 119; refine (HCL.out _).mono ?_; rintro e w2 ⟨rfl, hb⟩; have hown2 := uRel_own HOWN.out hb; have zz2 : w1.heap.size < w2.heap.size := Nat.lt_of_lt_of_le hGlt hb.size; have p32 : w2.cell? ⟨w1.heap.size, 2, none⟩ = some (.slice ac k cc) := (hb.cell (p := ⟨w1.heap.size, 2, none⟩) hGlt).trans p2; have pf32 : w2.frozen? ⟨w1.heap.size, 2, none⟩ = false := (hb.frozen (p := ⟨w1.heap.size, 2, none⟩) hGlt).trans pf2)
              | (refine step_append_lies _ (by rfl) _ _ _ (by rfl) (w1.heap.size + 1) 73 i0 _ 3 32 Tryz.underlying68 hi hz0 hz1 hz2 rfl (by omega) (.slice ac k cc) k (tgC (tsK us k)) (by rfl) (World.ownsRow.alloc hown2 _)
                  ⟨w2.heap.size, 0, none⟩ 1 1 [.string ⟨t2.toArray⟩, .int .i64 ((k : Int) + 1), .int .i64 1] (by rfl) (by rfl) (World.news_of_block (cs := #[.string ⟨t2.toArray⟩, .int .i64 ((k : Int) + 1), .int .i64 1]) (t := 73) (fr := (0, 0)) (heap_alloc_new w2 _)) (by simp [Value.oneCell'])
                  (by omega) (by unfold maxLen; omega) (by omega) (by simp; omega) (w2.heap.size + 1) (by simp) ?_; intro gg ccap w4 hown4 hgrow hat hlt4; have r3 : w4.cell? ⟨w1.heap.size, 2, none⟩ = some (.slice ac k cc) := ((hgrow.cell_far _ (by simp; omega) (Ne.symm HNE.out)).trans ((World.cell?_alloc_past _ _ _ zz2).trans p32)); have r3f : w4.frozen? ⟨w1.heap.size, 2, none⟩ = false := ((hgrow.frozen_far _ (by simp; omega) (Ne.symm HNE.out)).trans ((World.frozen?_alloc_past _ _ _ zz2).trans pf32))))
          all_goals
            have HN := Lib.hid (uRel_step HX.out rfl HBLK.out HRB.out (Nat.le_refl _) (Nat.le_succ _) hGlt HNE.out HOWN.out hb hown4 hgrow hat)
            clear hb hown2 hown4 hgrow r3 r3f p32 pf32 hat
            go_wp2
            go_roundw
            case rel => exact ⟨k + 1, by omega, by go_num, HN.out⟩
            case measure => simp [intOf]; omega
        · obtain rfl : k = us.length := by omega
          obtain ⟨p0, p1, p2, pf⟩ := three_cells hblk
          have k6 := (hRB.block (W.heap.size + 1) z1).trans K6.out
          obtain ⟨n0, n1, n2, nf⟩ := three_cells k6
          have HFIN := Lib.hid (heap_set3 k6 (.string ⟨#[117, 114, 105]⟩) (.int .i64 100) (.slice ac us.length cc))
          have HP := Lib.hid (HPSF.out wr ac us.length cc G2.out.1 G2.out.2 (below_chain HF.out hRB) (hown.base (by omega)))
          clear hblk hown hRB k6 hne m1
          go_wp2
          exact bodyPost_ret (ret_G2 Tryz.results49 rfl rfl HFIN.out) rfl HP.out
end Go.Proofs.YtbkikbhnehjaaaaGreatDoor.Ug
namespace Go.Proofs.YtbkikbhnehjaaaaGreatDoor.Ug
open Go.RowKit
open Go.Proofs.YtbkikbhnehjaaaaGreatDoor.Po
open Go.Proofs.YtbkikbhnehjaaaaGreatDoor.Pm
open Go.Proofs.YtbkikbhnehjaaaaGreatDoor.Tx hiding ret_b ret_i
open Go.Proofs.YtbkikbhnehjaaaaGreatDoor.Ul (Tab MaxL)
def Hd (w : World) (b : Nat) (o : Obj) : Prop := w.heap[b]? = some o
theorem Hd.lt {w : World} {b : Nat} {o : Obj} (h : Hd w b o) : b < w.heap.size := (Array.getElem?_eq_some_iff.1 h).1
theorem Hd.blw {w w' : World} {b : Nat} {o : Obj} (h : Hd w b o) (hb : Below w.heap.size w w') : Hd w' b o := (hb.block b h.lt).trans h
theorem Hd.al {w : World} {b : Nat} {o : Obj} (h : Hd w b o) (x : Obj) : Hd (w.alloc x) b o := (heap_alloc_old _ _ h.lt).trans h
theorem Hd.new (w : World) (o : Obj) : Hd (w.alloc o) w.heap.size o := heap_alloc_new _ _
theorem Hd.marked {S : Nat → Prop} {w w' : World} {b : Nat} {o : Obj} (h : Hd w b o) (hS : ¬ S b) (hm : Marked S w w') : Hd w' b o := (hm.block b h.lt hS).trans h
theorem Hd.grown {w w' : World} {row : Option Nat} {b : Nat} {o : Obj} (h : Hd w b o) (hg : w.grownBy w' row) (hne : some b ≠ row) : Hd w' b o := (hg.block b h.lt hne).trans h
theorem Hd.cells {w : World} {g : Nat} {a b c : Value} {T : TypeId} (h : Hd w g (.cells #[a, b, c] T)) :
    w.cell? ⟨g, 0, none⟩ = some a ∧ w.cell? ⟨g, 1, none⟩ = some b ∧ w.cell? ⟨g, 2, none⟩ = some c ∧ ∀ o, w.frozen? ⟨g, o, none⟩ = false := three_cells h
theorem O3.marked {S : Nat → Prop} {w w' : World} {base : Nat} {v : Value} {ts : List Tg} (h : O3 w base v ts) (hS : ∀ b, base ≤ b → ¬ S b) (hm : Marked S w w') : O3 w' base v ts := by
  obtain ⟨h1, h2⟩ := h
  refine ⟨h1, ?_⟩
  rcases h2 with hn | ⟨g, cap, cur, rfl, hb, hgg, rest⟩
  · exact .inl hn
  · exact .inr ⟨g, cap, cur, rfl, hb, (hm.block g (Array.getElem?_eq_some_iff.1 hgg).1 (hS g hb)).trans hgg, rest⟩
theorem below_marked {S : Nat → Prop} {B : Nat} {a w w' : World} (h : Below B a w) (hS : ∀ b, S b → B ≤ b) (hB : B ≤ w.heap.size) (hm : Marked S w w') : Below B a w' :=
  ⟨hm.os.trans h.os, hm.tape.trans h.tape, hm.output.trans h.output, Nat.le_trans h.size hm.size, fun b hb => (hm.block b (by omega) (fun hs => by have := hS b hs; omega)).trans (h.block b hb)⟩
def NewU2 (W : World) (G : Gp) (C : Int) (e : Ending) (w' : World) : Prop := ∃ tv, e = .returned (.tuple #[gV G tv, .int .i64 C]) ∧ O3 w' W.heap.size tv G.tgs ∧ Below W.heap.size W w'
theorem uriS2 (p : Pl) (G : Gp) (C : Int) (hG : ugG p = G) (hC : ugC p = C) (W' : World) (u v : Value) (h : TxtsIn (· < W'.heap.size) W' u p.uris) (h2 : RlIn (· < W'.heap.size) W' v p.rules) (sm : Small p) :
    Calls Tryz.prog 50 #[pV p u v] W' (NewU2 W' G C) := by
  subst hG hC
  exact uriS_any W'.heap.size W' p u v h h2 sm W' (Below.refl _ _) (Nat.le_refl _)
theorem uriI2 (p : Pl) (G : Gp) (C : Int) (hG : ugG p = G) (hC : ugC p = C) (w0 W' : World) (u v : Value) (h : TxtsIn (· < w0.heap.size) w0 u p.uris) (h2 : RlIn (· < w0.heap.size) w0 v p.rules) (sm : Small p) (h3 : Below w0.heap.size w0 W') (h4 : w0.heap.size ≤ W'.heap.size) (h5 : Tab W') (h6 : MaxL W') :
    Calls Tryz.prog 49 #[pV p u v] W' (NewU2 W' G C) := by
  subst hG hC
  exact uriI_any w0.heap.size w0 p u v h h2 sm W' h3 h4 h5 h6
theorem ug_small (p : Pl) (sm : Small p) : (ugG p).tgs.length ≤ 1048576 ∧ ∀ i, i < (ugG p).tgs.length → ((ugG p).tgs.getD i default).url.length ≤ 9223372036854775807 := by
  unfold ugG
  split
  · split
    · exact ⟨by simp, by simp⟩
    · refine ⟨by simp only [tsK_len]; exact sm.uris, fun i hi => ?_⟩
      simp only [tsK_len] at hi
      simp only
      rw [tsK_get _ _ _ hi]
      have := sm.uri i hi
      omega
  · exact ⟨by simp, by simp⟩
theorem mts_url (n k : Nat) (hn : n ≤ 1048576) (hk : k ≤ 1048576) : ∀ i, i < (mts n k).length → ((mts n k).getD i default).url.length ≤ 9223372036854775807 := fun i hi => by
  rw [mts_len] at hi
  rw [mts_get n k i hi]
  have := dg_len (k + 3 * i) (by omega)
  simp only [mkT, List.length_cons]
  omega
abbrev gO (gn : List UInt8) (ga : Int) (tv : Value) : Obj := .cells #[.string ⟨gn.toArray⟩, .int .i64 ga, tv] 70
end Go.Proofs.YtbkikbhnehjaaaaGreatDoor.Ug
namespace Go.Proofs.YtbkikbhnehjaaaaGreatDoor.Sg
open Go.RowKit
open Go.Proofs.YtbkikbhnehjaaaaGreatDoor.Ug (Tg Gp TgIn tV gV)
open Go.Proofs.YtbkikbhnehjaaaaGreatDoor.Tx (ret_b ret_i)
open Go.Proofs.YtbkikbhnehjaaaaGreatDoor.Po (three_cells)
open Go.Proofs.YtbkikbhnehjaaaaGreatDoor.Cl (cleanC cleanL clean_any)
open Go.Proofs.YtbkikbhnehjaaaaGreatDoor.Ul
open Go.Proofs.YtbkikbhnehjaaaaGreatDoor.Aw (belDrew)
open Go.Proofs.YtbkikbhnehjaaaaGreatDoor.Ext (up up_below up_mk wp_region_ext call_ext call_ext_same call_ext_drewN)
@[local go_sem] theorem up_cellS (w : World) (y : Ext.Ext w) (b o : Nat) (h : b < w.heap.size) : (up w y).cell? ⟨b, o, none⟩ = w.cell? ⟨b, o, none⟩ := Ext.up_cell w y b o h
def rk (n : Int) : Bool := decide (1 ≤ n ∧ n ≤ 9)
def tgB (t : Tg) : Bool := ((cleanC t.url && (cleanL t.url == t.url)) && rk t.pri) && rk t.wt
theorem alloc2_0 (W : World) (a b : Obj) : ((W.alloc a).alloc b).heap[W.heap.size]? = some a := by
  rw [heap_alloc_old _ _ (by simp), heap_alloc_new]
theorem alloc2_1 (W : World) (a b : Obj) : ((W.alloc a).alloc b).heap[W.heap.size + 1]? = some b := heap_alloc2_new W a b
def hasU (xs : List Tg) (u : List UInt8) : Bool := xs.any (fun x => x.url == u)
def tgsB : List Tg → List Tg → Bool
  | _, [] => true
  | before, t :: ts => (tgB t && !hasU before t.url) && tgsB (before ++ [t]) ts
def gpB (g : Gp) : Bool := Nm.nameB ⟨g.name.toArray⟩ && decide (1 ≤ g.age ∧ g.age ≤ 100) && decide (1 ≤ g.tgs.length ∧ g.tgs.length ≤ 4) && tgsB [] g.tgs
theorem tgsB_drop {xs : List Tg} (k : Nat) (hx : k < xs.length) : tgsB (xs.take k) (xs.drop k) = ((tgB (xs.getD k default) && !hasU (xs.take k) (xs.getD k default).url) && tgsB (xs.take (k + 1)) (xs.drop (k + 1))) := by
  rw [List.drop_eq_getElem_cons hx, tgsB]
  have e : xs.take k ++ [xs[k]] = xs.take (k + 1) := by rw [List.take_add_one, List.getElem?_eq_getElem hx]; rfl
  rw [e]
  simp [hx]
theorem rank_any (n : Int) (W : World) : Calls Tryz.prog 319 #[.int .i64 n] W fun e w' => e = .returned (.bool (rk n)) ∧ W = w' := by
  unfold rk
  by_cases h1 : 1 ≤ n
  · by_cases h2 : n ≤ 9
    · have d1 : decide ((1 : Int) ≤ n) = true := by simpa using h1
      have d2 : decide (n ≤ (9 : Int)) = true := by simpa using h2
      have e : decide (1 ≤ n ∧ n ≤ 9) = true := by simp [h1, h2]
      rw [e]
      clear e
      go_enter Tryz.func319, Tryz.ntmps319
      go_wp2
      go_ret
      exact ⟨rfl, rfl⟩
    · have d1 : decide ((1 : Int) ≤ n) = true := by simpa using h1
      have d2 : decide (n ≤ (9 : Int)) = false := by simpa using h2
      have e : decide (1 ≤ n ∧ n ≤ 9) = false := by simp; omega
      rw [e]
      clear e
      go_enter Tryz.func319, Tryz.ntmps319
      go_wp2
      go_ret
      exact ⟨rfl, rfl⟩
  · have d1 : decide ((1 : Int) ≤ n) = false := by simpa using h1
    have e : decide (1 ≤ n ∧ n ≤ 9) = false := by simp; omega
    rw [e]
    clear e
    go_enter Tryz.func319, Tryz.ntmps319
    go_wp2
    go_ret
    exact ⟨rfl, rfl⟩
set_option maxRecDepth 100000 in
set_option maxHeartbeats 4000000 in
theorem tgOK_any (t : Tg) (w : World) (hT : Tab w) (hM : MaxL w) (hl : t.url.length ≤ 9223372036854775807) :
    Calls Tryz.prog 272 #[tV t] w fun e w' => e = .returned (.bool (tgB t)) ∧ Below w.heap.size w w' := by
  obtain ⟨u, p, q⟩ := t
  have e : tgB ⟨u, p, q⟩ = (((cleanC u && (cleanL u == u)) && rk p) && rk q) := rfl
  rw [e]
  clear e
  have HC := Lib.hid (fun W hT hM => clean_any u W hT hM hl)
  have HP := Lib.hid (fun W => rank_any p W)
  have HQ := Lib.hid (fun W => rank_any q W)
  have HT := Lib.hid hT
  have HM := Lib.hid hM
  clear hT hM hl
  obtain ⟨c, hc⟩ : ∃ c, (cleanL u == u) = c := ⟨_, rfl⟩
  have hc' : (cleanL u != u) = !c := by rw [← hc]; rfl
  rw [hc]
  generalize cleanL u = cl at *
  generalize cleanC u = k at *
  generalize rk p = rp at *
  generalize rk q = rq at *
  go_enter Tryz.func272, Tryz.ntmps272
  go_wp2_with fail
  refine (HC.out _ (HT.out.below (by repeat (first | (with_reducible exact Below.refl _ _) | (with_reducible refine belI_set ?_ (by first | exact Nat.le_refl _ | simp)) | (with_reducible refine belI_alloc ?_) | (with_reducible refine Below.drew ?_) | (with_reducible refine belI_drewN ?_ _) | (with_reducible refine belI_step ?_ (by assumption))))) (HM.out.below (by repeat (first | (with_reducible exact Below.refl _ _) | (with_reducible refine belI_set ?_ (by first | exact Nat.le_refl _ | simp)) | (with_reducible refine belI_alloc ?_) | (with_reducible refine Below.drew ?_) | (with_reducible refine belI_drewN ?_ _) | (with_reducible refine belI_step ?_ (by assumption)))))).mono ?_
  rintro e w1 ⟨rfl, hb1⟩
  obtain ⟨m0, m1, m2, mf⟩ := three_cells ((hb1.block w.heap.size (by simp)).trans (heap_alloc_new w (.cells #[.string ⟨u.toArray⟩, .int .i64 p, .int .i64 q] 73)))
  have hB : Below w.heap.size w w1 := (by repeat (first | (with_reducible exact Below.refl _ _) | (with_reducible refine belI_set ?_ (by first | exact Nat.le_refl _ | simp)) | (with_reducible refine belI_alloc ?_) | (with_reducible refine Below.drew ?_) | (with_reducible refine belI_drewN ?_ _) | (with_reducible refine belI_step ?_ (by assumption))))
  clear HC HT HM hb1
  cases k
  · go_wp2_with fail
    go_ret
    exact ⟨rfl, hB⟩
  cases c
  · go_wp2_with fail
    go_ret
    exact ⟨rfl, hB⟩
  cases rp
  · go_wp2_with (go_at_call 319; refine (HP.out _).mono ?_; rintro e w' ⟨rfl, rfl⟩)
    go_ret
    exact ⟨rfl, hB⟩
  · go_wp2_with (first
      | (go_at_call 319; refine (HP.out _).mono ?_; rintro e w' ⟨rfl, rfl⟩)
      | (go_at_call 319; refine (HQ.out _).mono ?_; rintro e w' ⟨rfl, rfl⟩))
    go_ret
    exact ⟨rfl, hB⟩
def atF (u : List UInt8) : Nat → List Tg → Int
  | _, [] => -1
  | k, x :: r => if (x.url == u) = true then (k : Int) else atF u (k + 1) r
theorem atF_drop (u : List UInt8) {xs : List Tg} (k : Nat) (hx : k < xs.length) : atF u k (xs.drop k) = if ((xs.getD k default).url == u) = true then (k : Int) else atF u (k + 1) (xs.drop (k + 1)) := by
  rw [List.drop_eq_getElem_cons hx, atF]; simp [hx]
set_option maxRecDepth 100000 in
theorem clo_any (x : Tg) (g : Nat) (u : List UInt8) (w : World) (hg : w.cell? ⟨g, 0, none⟩ = some (.string ⟨u.toArray⟩)) (hlt : g < w.heap.size) :
    Calls Tryz.prog 321 #[tV x, .pointer (some ⟨g, 0, none⟩)] w fun e w' => e = .returned (.bool (x.url == u)) ∧ Below w.heap.size w w' := by
  obtain ⟨t, p, q⟩ := x
  simp only
  have hg2 : (w.alloc (.cells #[.string ⟨t.toArray⟩, .int .i64 p, .int .i64 q] 73)).cell? ⟨g, 0, none⟩ = some (.string ⟨u.toArray⟩) := by rw [World.cell?_alloc_past _ _ _ hlt]; exact hg
  go_enter Tryz.func321, Tryz.ntmps321
  go_wp2
  go_ret
  exact ⟨ret_b (by first | rfl | simp), (Below.refl _ _).alloc (Nat.le_refl _) _⟩
abbrev cloV (g : Nat) : Value := .func (.func 321) #[] #[.pointer (some ⟨g, 0, none⟩)]
set_option maxRecDepth 100000 in
set_option maxHeartbeats 1000000 in
theorem idx_any (B : Nat) (w0 : World) (xs : List Tg) (v : Value) (u : List UInt8) (g : Nat) (h : TgIn (· < B) w0 v xs) (w : World) (hb : Below B w0 w) (hB : B ≤ w.heap.size) (hg : w.cell? ⟨g, 0, none⟩ = some (.string ⟨u.toArray⟩)) (hlt : g < w.heap.size) :
    Calls Tryz.prog 347 #[v, cloV g] w fun e w' => e = .returned (.int .i64 (atF u 0 xs)) ∧ Below w.heap.size w w' := by
  obtain ⟨a, cap, b, off, rfl, hcap, hm, hlen, ha, hc⟩ := h
  have hn : xs.length ≤ 9223372036854775807 := by omega
  have HC := Lib.hid hc
  have HA := Lib.hid ha
  have HB := Lib.hid hb
  have HG := Lib.hid hg
  clear hc ha hlen hb hg
  go_enter Tryz.func347, Tryz.ntmps347
  go_wp2
  go_loopw [8] (fun i wr => ∃ k : Nat, k ≤ xs.length ∧ i = .int .i64 k ∧ atF u 0 xs = atF u k (xs.drop k) ∧ Below w.heap.size w wr) (fun i _ => xs.length - (intOf i).toNat)
  case atStart => exact ⟨0, by omega, rfl, rfl, Below.refl _ _⟩
  case round =>
    obtain ⟨k, hk, rfl, hE, hR⟩ := hrel
    have HE := Lib.hid hE
    clear hE
    by_cases hl : k < xs.length
    · obtain ⟨ea, hlb⟩ := HA.out (by omega)
      subst ea
      have hW := HB.out.trans (hR.mono hB)
      obtain ⟨c0, c1, c2⟩ := HC.out k hl
      have q0 := (hW.cell (p := ⟨b, off + k * 3, none⟩) hlb).trans c0
      have q1 := (hW.cell (p := ⟨b, off + k * 3 + 1, none⟩) hlb).trans c1
      have q2 := (hW.cell (p := ⟨b, off + k * 3 + 2, none⟩) hlb).trans c2
      have D := Lib.hid (atF_drop u k hl)
      have HK := Lib.hid (clo_any (xs.getD k default) g u wr ((hR.cell (p := ⟨g, 0, none⟩) hlt).trans HG.out) (Nat.lt_of_lt_of_le hlt hR.size))
      have HR := Lib.hid hR
      clear c0 c1 c2 hW hR
      generalize xs.getD k default = x at *
      obtain ⟨c, hcc⟩ : ∃ c, (x.url == u) = c := ⟨_, rfl⟩
      rw [hcc] at D HK
      clear hcc
      go_wp2_with fail
      refine HK.out.mono ?_
      rintro e w1 ⟨rfl, hb1⟩
      have D1 := Lib.hid (belI_step HR.out hb1)
      clear hb1 q0 q1 q2
      cases c with
      | true =>
        go_wp2
        go_ret
        exact ⟨ret_i (by rw [HE.out, D.out]; rfl), D1.out⟩
      | false =>
        go_wp2
        go_roundw
        case rel => exact ⟨k + 1, by omega, by go_num, by rw [HE.out, D.out]; simp, D1.out⟩
        case measure => simp [intOf]; omega
    · go_wp2
      go_ret
      obtain rfl : k = xs.length := by omega
      exact ⟨ret_i (by rw [HE.out, List.drop_length]; rfl), hR⟩
theorem atF_has (u : List UInt8) : ∀ (xs : List Tg) (j : Nat), decide (0 ≤ atF u j xs) = hasU xs u
  | [], _ => by simp [atF, hasU]
  | x :: r, j => by
    have ih := atF_has u r (j + 1)
    cases hx : (x.url == u) with
    | true => simp [atF, hasU, hx]
    | false =>
      simp only [atF, hx, Bool.false_eq_true, if_false]
      rw [ih]
      simp [hasU, hx]
set_option maxRecDepth 100000 in
theorem cont_any (B : Nat) (w0 : World) (xs : List Tg) (v : Value) (u : List UInt8) (g : Nat) (h : TgIn (· < B) w0 v xs) (w : World) (hb : Below B w0 w) (hB : B ≤ w.heap.size) (hg : w.cell? ⟨g, 0, none⟩ = some (.string ⟨u.toArray⟩)) (hlt : g < w.heap.size) :
    Calls Tryz.prog 320 #[v, cloV g] w fun e w' => e = .returned (.bool (hasU xs u)) ∧ Below w.heap.size w w' := by
  have HI := Lib.hid (idx_any B w0 xs v u g h w hb hB hg hlt)
  have E := Lib.hid (atF_has u xs 0)
  obtain ⟨a1, l1, cc1, rfl⟩ := h.slice
  clear h hb hg
  generalize atF u 0 xs = ai at *
  go_enter Tryz.func320, Tryz.ntmps320
  go_wp2_with fail
  refine HI.out.mono ?_
  rintro e w1 ⟨rfl, hb1⟩
  have hE := E.out
  go_wp2
  go_ret
  exact ⟨ret_b (by rw [← hE]), hb1⟩
set_option maxRecDepth 100000 in
theorem has_any (B : Nat) (w0 : World) (xs : List Tg) (v : Value) (u : List UInt8) (h : TgIn (· < B) w0 v xs) (w : World) (hb : Below B w0 w) (hB : B ≤ w.heap.size) :
    Calls Tryz.prog 273 #[v, .string ⟨u.toArray⟩] w fun e w' => e = .returned (.bool (hasU xs u)) ∧ Below w.heap.size w w' := by
  have HI := Lib.hid (cont_any B w0 xs v u w.heap.size h (w.alloc (.cells #[.string ⟨u.toArray⟩] 9)) (hb.alloc hB _) (by simp; omega) (cell_of_row _ _ 0 _ _ _ (heap_alloc_new _ _)) (by simp))
  obtain ⟨a1, l1, cc1, rfl⟩ := h.slice
  clear h hb
  go_enter Tryz.func273, Tryz.ntmps273
  go_wp2_with fail
  refine HI.out.mono ?_
  rintro e w1 ⟨rfl, hb1⟩
  go_wp2
  go_ret
  exact ⟨rfl, ((Below.refl w.heap.size w).alloc (Nat.le_refl _) _).trans (hb1.mono (by simp))⟩
theorem tg_take {S : Nat → Prop} {w : World} {xs : List Tg} {b off cap : Nat} (hn : xs.length ≤ cap) (hm : cap ≤ 9223372036854775807) (hl : ∀ i, i < xs.length → (xs.getD i default).url.length ≤ 9223372036854775807) (hS : S b)
    (hc : ∀ i, i < xs.length → w.cell? ⟨b, off + i * 3, none⟩ = some (.string ⟨(xs.getD i default).url.toArray⟩) ∧ w.cell? ⟨b, off + i * 3 + 1, none⟩ = some (.int .i64 (xs.getD i default).pri) ∧ w.cell? ⟨b, off + i * 3 + 2, none⟩ = some (.int .i64 (xs.getD i default).wt)) (k : Nat) (hk : k ≤ xs.length) :
    TgIn S w (.slice (some ⟨b, off, none⟩) k cap) (xs.take k) := by
  have hlen : (xs.take k).length = k := by simp; omega
  have hg : ∀ i, i < k → (xs.take k).getD i default = xs.getD i default := fun i hi => by simp [List.getD, hi]
  refine ⟨some ⟨b, off, none⟩, cap, b, off, by rw [hlen], by rw [hlen]; omega, hm, ?_, fun _ => ⟨rfl, hS⟩, ?_⟩
  · intro i hi; rw [hlen] at hi; rw [hg i hi]; exact hl i (by omega)
  · intro i hi; rw [hlen] at hi; rw [hg i hi]; exact hc i (by omega)
set_option maxRecDepth 100000 in
set_option maxHeartbeats 4000000 in
theorem tgsI_any (B : Nat) (w0 : World) (xs : List Tg) (v : Value) (h : TgIn (· < B) w0 v xs) (w : World) (hb : Below B w0 w) (hB : B ≤ w.heap.size) (hT : Tab w) (hM : MaxL w) :
    Calls Tryz.prog 196 #[v] w fun e w' => e = .returned (.bool (tgsB [] xs)) ∧ Below w.heap.size w w' := by
  obtain ⟨a, cap, b, off, rfl, hcap, hm, hlen, ha, hc⟩ := h
  have hn : xs.length ≤ 9223372036854775807 := by omega
  have HC := Lib.hid hc
  have HA := Lib.hid ha
  have HB := Lib.hid hb
  have HL := Lib.hid hlen
  have HT := Lib.hid hT
  have HM := Lib.hid hM
  clear hc ha hlen hb hT hM
  go_enter Tryz.func196, Tryz.ntmps196
  go_wp2
  go_loopw [7] (fun i wr => ∃ k : Nat, k ≤ xs.length ∧ i = .int .i64 k ∧ tgsB [] xs = tgsB (xs.take k) (xs.drop k) ∧ Below w.heap.size w wr) (fun i _ => xs.length - (intOf i).toNat)
  case atStart => exact ⟨0, by omega, rfl, rfl, Below.refl _ _⟩
  case round =>
    obtain ⟨k, hk, rfl, hE, hR⟩ := hrel
    have HE := Lib.hid hE
    clear hE
    by_cases hlt : k < xs.length
    · obtain ⟨ea, hlb⟩ := HA.out (by omega)
      subst ea
      have hW := HB.out.trans (hR.mono hB)
      have z1 : w.heap.size ≤ wr.heap.size := hR.size
      obtain ⟨c0, c1, c2⟩ := HC.out k hlt
      have q0 := (hW.cell (p := ⟨b, off + k * 3, none⟩) hlb).trans c0
      have q1 := (hW.cell (p := ⟨b, off + k * 3 + 1, none⟩) hlb).trans c1
      have q2 := (hW.cell (p := ⟨b, off + k * 3 + 2, none⟩) hlb).trans c2
      have TD := Lib.hid (tgsB_drop k hlt)
      have TK := Lib.hid (tg_take (S := (· < B)) (w := w0) (b := b) (off := off) hcap hm HL.out hlb HC.out k hk)
      have HO := Lib.hid (fun W hT hM => tgOK_any (xs.getD k default) W hT hM (HL.out k hlt))
      have HR := Lib.hid hR
      have hk2 : (k : Int) ≤ (cap : Int) := by omega
      clear c0 c1 c2 hW hR
      generalize xs.getD k default = x at *
      have HH := Lib.hid (fun (W : World) (h1 : Below B w0 W) (h2 : B ≤ W.heap.size) => has_any B w0 (xs.take k) _ x.url TK.out W h1 h2)
      generalize hasU (xs.take k) x.url = c at *
      generalize tgB x = tb at *
      go_wp2_with fail
      have D0 := Lib.hid (HR.out.alloc z1 (.cells #[.string ⟨x.url.toArray⟩, .int .i64 x.pri, .int .i64 x.wt] 73))
      obtain ⟨m0, m1, m2, mf⟩ := three_cells (heap_alloc_new wr (.cells #[.string ⟨x.url.toArray⟩, .int .i64 x.pri, .int .i64 x.wt] 73))
      have hz : wr.heap.size < (wr.alloc (.cells #[.string ⟨x.url.toArray⟩, .int .i64 x.pri, .int .i64 x.wt] 73)).heap.size := by simp
      clear q0 q1 q2 HR
      generalize wr.alloc (.cells #[.string ⟨x.url.toArray⟩, .int .i64 x.pri, .int .i64 x.wt] 73) = w1 at *
      have zB : B ≤ w1.heap.size := by omega
      have DB := Lib.hid (HB.out.trans (D0.out.mono hB))
      clear mf
      cases tb <;> cases c
      all_goals
        refine wp_region_ext (by kernel_rfl) (by kernel_rfl) ?_
        repeat (go_big_quiet_step ((first
          | (go_at_call 272; refine call_ext (v := .bool true) ?_; with_reducible exact HO.out _ (HT.out.below (belI_step D0.out (up_below _ _))) (HM.out.below (belI_step D0.out (up_below _ _))))
          | (go_at_call 272; refine call_ext (v := .bool false) ?_; with_reducible exact HO.out _ (HT.out.below (belI_step D0.out (up_below _ _))) (HM.out.below (belI_step D0.out (up_below _ _))))
          | (go_at_call 273; refine call_ext (v := .bool true) ?_; with_reducible exact HH.out _ (DB.out.trans ((up_below _ _).mono zB)) (Nat.le_trans zB (up_below _ _).size))
          | (go_at_call 273; refine call_ext (v := .bool false) ?_; with_reducible exact HH.out _ (DB.out.trans ((up_below _ _).mono zB)) (Nat.le_trans zB (up_below _ _).size)))))
        refine wpQuiet_nil ?_
        intro _ hw'
        obtain ⟨y8, rfl⟩ := hw'
        have hv8 := up_below _ y8
        generalize up _ y8 = v8 at *
        have D8 := Lib.hid (belI_step D0.out hv8)
        clear hv8 m0 m1 m2
      · go_wp2
        go_ret
        exact ⟨ret_b (by rw [HE.out, TD.out]; rfl), D8.out⟩
      · go_wp2
        go_ret
        exact ⟨ret_b (by rw [HE.out, TD.out]; rfl), D8.out⟩
      · go_wp2
        go_roundw
        case rel => exact ⟨k + 1, by omega, by go_num, by rw [HE.out, TD.out]; rfl, D8.out⟩
        case measure => simp [intOf]; omega
      · go_wp2
        go_ret
        exact ⟨ret_b (by rw [HE.out, TD.out]; rfl), D8.out⟩
    · go_wp2
      go_ret
      obtain rfl : k = xs.length := by omega
      exact ⟨ret_b (by rw [HE.out, List.drop_length]; rfl), hR⟩
theorem ageG_any (n : Int) (w : World) : Calls Tryz.prog 195 #[.int .i64 n] w fun e w' => e = .returned (.bool (decide (1 ≤ n ∧ n ≤ 100))) ∧ w = w' := by
  by_cases h1 : 1 ≤ n
  · by_cases h2 : n ≤ 100
    all_goals
      go_enter Tryz.func195, Tryz.ntmps195
      go_wp2
      go_ret
      exact ⟨ret_b (by simp; omega), rfl⟩
  · go_enter Tryz.func195, Tryz.ntmps195
    go_wp2
    go_ret
    exact ⟨ret_b (by simp; omega), rfl⟩
set_option maxRecDepth 100000 in
set_option maxHeartbeats 4000000 in
theorem groupI (B : Nat) (w0 : World) (g : Gp) (v : Value) (h : TgIn (· < B) w0 v g.tgs) (hn : g.name.length ≤ 1048576) (W : World) (hb : Below B w0 W) (hB : B ≤ W.heap.size) (hT : Tab W) (hM : MaxL W) :
    Calls Tryz.prog 103 #[gV g v] W fun e w' => e = .returned (.bool (gpB g)) ∧ Below W.heap.size W w' := by
  obtain ⟨n, ag, xs⟩ := g
  simp only at h hn
  have HS := Lib.hid (fun (W' : World) h1 h2 h3 h4 => tgsI_any B w0 xs v h W' h1 h2 h3 h4)
  obtain ⟨a, cap, b, off, rfl, hcap, hm, -, -, -⟩ := h
  have HN := Lib.hid (fun W => Nm.NameOK_any ⟨n.toArray⟩ W (by simp [ByteArray.size, maxLen]; omega))
  have HB := Lib.hid hb
  have HT := Lib.hid hT
  have HM := Lib.hid hM
  clear hb hT hM hn
  unfold gpB
  simp only
  generalize Nm.nameB ⟨n.toArray⟩ = b1 at *
  generalize tgsB [] xs = b4 at *
  go_enter Tryz.func103, Tryz.ntmps103
  go_wp2_with fail
  refine (HN.out _).mono ?_
  rintro e w1 ⟨rfl, hb1⟩
  obtain ⟨m0, m1, m2, mf⟩ := three_cells ((hb1.block W.heap.size (by simp)).trans (heap_alloc_new W (.cells #[.string ⟨n.toArray⟩, .int .i64 ag, .slice a xs.length cap] 70)))
  have z1 : W.heap.size ≤ w1.heap.size := by have := hb1.size; simp at this; omega
  have HF := Lib.hid (((Below.refl W.heap.size W).alloc (Nat.le_refl _) (.cells #[.string ⟨n.toArray⟩, .int .i64 ag, .slice a xs.length cap] 70)).trans (hb1.mono (by simp)))
  clear hb1
  cases b1
  · go_wp2
    go_ret
    exact ⟨rfl, HF.out⟩
  have HAG := Lib.hid (ageG_any ag w1)
  obtain ⟨b2, hb2⟩ : ∃ b, decide (1 ≤ ag ∧ ag ≤ 100) = b := ⟨_, rfl⟩
  rw [hb2] at HAG
  have E1 := Lib.hid hb2
  clear hb2
  go_wp2_with fail
  refine HAG.out.mono ?_
  rintro e _ ⟨rfl, rfl⟩
  cases b2
  · go_wp2
    go_ret
    exact ⟨ret_b (by rw [E1.out]; rfl), HF.out⟩
  by_cases a3 : 1 ≤ xs.length
  · have d3 : decide ((1 : Int) ≤ (xs.length : Int)) = true := by simp; omega
    by_cases a4 : xs.length ≤ 4
    · have d4 : decide ((xs.length : Int) ≤ 4) = true := by simp; omega
      have e2 := Lib.hid (show decide (1 ≤ xs.length ∧ xs.length ≤ 4) = true by simp; omega)
      go_wp2_with fail
      refine (HS.out w1 (HB.out.trans (HF.out.mono hB)) (by omega) (HT.out.below HF.out) (HM.out.below HF.out)).mono ?_
      rintro e w2 ⟨rfl, hb2⟩
      have HF2 := Lib.hid (HF.out.trans (hb2.mono z1))
      clear hb2 m0 m1 m2 mf
      go_wp2
      go_ret
      exact ⟨ret_b (by rw [E1.out, e2.out]; rfl), HF2.out⟩
    · have d4 : decide ((xs.length : Int) ≤ 4) = false := by simp; omega
      have e2 := Lib.hid (show decide (1 ≤ xs.length ∧ xs.length ≤ 4) = false by simp; omega)
      go_wp2
      go_ret
      exact ⟨ret_b (by rw [E1.out, e2.out]; rfl), HF.out⟩
  · have d3 : decide ((1 : Int) ≤ (xs.length : Int)) = false := by simp; omega
    have e2 := Lib.hid (show decide (1 ≤ xs.length ∧ xs.length ≤ 4) = false by simp; omega)
    go_wp2
    go_ret
    exact ⟨ret_b (by rw [E1.out, e2.out]; rfl), HF.out⟩
theorem eqTs_drop {xs ys : List Tg} (k : Nat) (hx : k < xs.length) (hy : k < ys.length) : (xs.drop k == ys.drop k) = ((xs.getD k default == ys.getD k default) && (xs.drop (k + 1) == ys.drop (k + 1))) := by
  rw [List.drop_eq_getElem_cons hx, List.drop_eq_getElem_cons hy, List.cons_beq_cons]
  simp [hx, hy]
theorem eqTs_len {xs ys : List Tg} (h : xs.length ≠ ys.length) : (xs == ys) = false := by
  simp only [beq_eq_false_iff_ne, ne_eq]; intro e; exact h (by rw [e])
set_option maxRecDepth 100000 in
set_option maxHeartbeats 1000000 in
theorem slEq_any (S1 S2 : Nat → Prop) (xs ys : List Tg) (v u : Value) (w : World) (h1 : TgIn S1 w v xs) (h2 : TgIn S2 w u ys) :
    Calls Tryz.prog 124 #[v, u] w fun e w' => e = .returned (.bool (xs == ys)) ∧ ∃ n, w' = w.drewN n := by
  obtain ⟨a, cap, b, off, rfl, hcap, hm, hlen, ha, hc⟩ := h1
  obtain ⟨a', cap', b', off', rfl, hcap', hm', hlen', ha', hc'⟩ := h2
  have hn : xs.length ≤ 9223372036854775807 := by omega
  have hn' : ys.length ≤ 9223372036854775807 := by omega
  have HC := Lib.hid hc
  have HA := Lib.hid ha
  have HC' := Lib.hid hc'
  have HA' := Lib.hid ha'
  clear hc ha hc' ha' hlen hlen'
  by_cases hl : xs.length = ys.length
  · have HL := Lib.hid hl
    have g1 : ((xs.length : Int) != (ys.length : Int)) = false := by simp [hl]
    clear hl
    go_enter Tryz.func124, Tryz.ntmps124
    go_wp2
    go_loopw [13] (fun i wr => ∃ k n : Nat, k ≤ xs.length ∧ i = .int .i64 k ∧ (xs == ys) = (xs.drop k == ys.drop k) ∧ wr = w.drewN n) (fun i _ => xs.length - (intOf i).toNat)
    case atStart => exact ⟨0, 0, by omega, rfl, rfl, rfl⟩
    case round =>
      obtain ⟨k, n, hk, rfl, hE, rfl⟩ := hrel
      have HE := Lib.hid hE
      clear hE
      by_cases hlt : k < xs.length
      · have hlt' : k < ys.length := by have := HL.out; omega
        obtain ⟨ea, _⟩ := HA.out (by omega)
        obtain ⟨ea', _⟩ := HA'.out (by omega)
        subst ea ea'
        obtain ⟨q0, q1, q2⟩ := HC.out k hlt
        obtain ⟨r0, r1, r2⟩ := HC'.out k hlt'
        have D := Lib.hid (eqTs_drop k hlt hlt')
        generalize xs.getD k default = x at *
        generalize ys.getD k default = y at *
        obtain ⟨u1, p1, s1⟩ := x
        obtain ⟨u2, p2, s2⟩ := y
        simp only at q0 q1 q2 r0 r1 r2
        by_cases hxy : (⟨u1, p1, s1⟩ : Tg) = ⟨u2, p2, s2⟩
        · obtain ⟨rfl, rfl, rfl⟩ : u1 = u2 ∧ p1 = p2 ∧ s1 = s2 := by simpa using hxy
          clear hxy
          have D2 := Lib.hid (D.out.trans (by rw [beq_self_eq_true, Bool.true_and]))
          go_wp2
          go_quiet (fail)
          go_wp2
          go_roundw
          case rel => exact ⟨k + 1, n + nq, by omega, by go_num, by rw [HE.out, D2.out], by first | rfl | exact World.drewN_drewN _ _ _⟩
          case measure => simp [intOf]; omega
        · have e1 : ((⟨u1, p1, s1⟩ : Tg) == ⟨u2, p2, s2⟩) = false := by simpa using hxy
          have D2 := Lib.hid (D.out.trans (by rw [e1, Bool.false_and]))
          clear e1
          have hne : ¬ (u1 = u2 ∧ p1 = p2 ∧ s1 = s2) := by simpa using hxy
          clear hxy
          by_cases h1 : u1 = u2
          · subst h1
            by_cases h2 : p1 = p2
            · subst h2
              have h3 : ¬ s1 = s2 := by simpa using hne
              have f3 : (s1 == s2) = false := by simpa using h3
              have f4 : decide (s1 = s2) = false := by simpa using h3
              clear hne
              go_wp2
              go_quiet (fail)
              go_wp2
              go_ret
              exact ⟨ret_b (by rw [HE.out, D2.out]), n + nq, World.drewN_drewN _ _ _⟩
            · have f3 : (p1 == p2) = false := by simpa using h2
              have f4 : decide (p1 = p2) = false := by simpa using h2
              clear hne
              go_wp2
              go_quiet (fail)
              go_wp2
              go_ret
              exact ⟨ret_b (by rw [HE.out, D2.out]), n + nq, World.drewN_drewN _ _ _⟩
          · have f3 : (u1 == u2) = false := by simpa using h1
            have f4 : decide (u1 = u2) = false := by simpa using h1
            clear hne
            go_wp2
            go_quiet (fail)
            go_wp2
            go_ret
            exact ⟨ret_b (by rw [HE.out, D2.out]), n + nq, World.drewN_drewN _ _ _⟩
      · go_wp2
        go_ret
        obtain rfl : k = xs.length := by omega
        exact ⟨ret_b (by rw [HE.out, List.drop_length, HL.out, List.drop_length]; rfl), n, rfl⟩
  · have E := Lib.hid (eqTs_len hl)
    have g1 : ((xs.length : Int) != (ys.length : Int)) = true := by simp only [bne_iff_ne, ne_eq]; omega
    clear hl
    go_enter Tryz.func124, Tryz.ntmps124
    go_wp2
    go_ret
    exact ⟨ret_b E.out.symm, 0, rfl⟩
def same3 (a b : Gp) : Bool := (a.name == b.name) && (a.age == b.age) && (a.tgs == b.tgs)
def sameG (a b : Gp) : Bool := gpB a && same3 a b
set_option maxRecDepth 100000 in
set_option maxHeartbeats 4000000 in
theorem sameGI (B : Nat) (w0 : World) (g g' : Gp) (v v' : Value) (h : TgIn (· < B) w0 v g.tgs) (h' : TgIn (· < B) w0 v' g'.tgs) (hn : g.name.length ≤ 1048576) (W : World) (hb : Below B w0 W) (hB : B ≤ W.heap.size) (hT : Tab W) (hM : MaxL W) :
    Calls Tryz.prog 52 #[gV g v, gV g' v'] W fun e w' => e = .returned (.bool (sameG g g')) ∧ Below W.heap.size W w' := by
  have HO := Lib.hid (fun (W' : World) h1 h2 h3 h4 => groupI B w0 g v h hn W' h1 h2 h3 h4)
  have HE := Lib.hid (fun (W' : World) (hb' : Below B w0 W') => slEq_any (· < B) (· < B) g.tgs g'.tgs v v' W' (h.blw hb') (h'.blw hb'))
  obtain ⟨a1, l1, c1, rfl⟩ := h.slice
  obtain ⟨a2, l2, c2, rfl⟩ := h'.slice
  have HB := Lib.hid hb
  have HT := Lib.hid hT
  have HM := Lib.hid hM
  clear hb hT hM hn h h'
  unfold sameG same3
  generalize gpB g = r at *
  obtain ⟨n, k, xs⟩ := g
  obtain ⟨n', k', xs'⟩ := g'
  simp only at *
  generalize (xs == xs') = q at *
  have A0 := Lib.hid (alloc2_0 W (.cells #[.string ⟨n.toArray⟩, .int .i64 k, .slice a1 l1 c1] 70) (.cells #[.string ⟨n'.toArray⟩, .int .i64 k', .slice a2 l2 c2] 70))
  have A1 := Lib.hid (alloc2_1 W (.cells #[.string ⟨n.toArray⟩, .int .i64 k, .slice a1 l1 c1] 70) (.cells #[.string ⟨n'.toArray⟩, .int .i64 k', .slice a2 l2 c2] 70))
  have B0 := Lib.hid (((Below.refl W.heap.size W).alloc (Nat.le_refl _) (.cells #[.string ⟨n.toArray⟩, .int .i64 k, .slice a1 l1 c1] 70)).alloc (by simp) (.cells #[.string ⟨n'.toArray⟩, .int .i64 k', .slice a2 l2 c2] 70))
  go_enter Tryz.func52, Tryz.ntmps52
  go_wp2_with fail
  refine (HO.out _ (HB.out.trans (B0.out.mono hB)) (by simp; omega) (HT.out.below B0.out) (HM.out.below B0.out)).mono ?_
  rintro e w1 ⟨rfl, hb1⟩
  obtain ⟨m0, m1, m2, mf⟩ := three_cells ((hb1.block _ (by simp; omega)).trans A0.out)
  obtain ⟨p0, p1, p2, pf⟩ := three_cells ((hb1.block _ (by simp)).trans A1.out)
  have D1 := Lib.hid (B0.out.trans (hb1.mono (by simp; omega)))
  clear hb1
  cases r
  · go_wp2
    go_ret
    exact ⟨rfl, D1.out⟩
  by_cases e1 : n = n'
  · subst e1
    have f1 : (n == n) = true := by simp
    by_cases e2 : k = k'
    · subst e2
      have f2 : (k == k) = true := by simp
      go_wp2_with fail
      refine (HE.out w1 (HB.out.trans (D1.out.mono hB))).mono ?_
      rintro e w2 ⟨rfl, nn, rfl⟩
      have D2 := Lib.hid (belDrew D1.out nn)
      clear m0 m1 m2 mf p0 p1 p2 pf
      go_wp2
      go_ret
      exact ⟨ret_b (by rw [f1, f2]; rfl), D2.out⟩
    · have f2 : (k == k') = false := by simpa using e2
      go_wp2
      go_ret
      exact ⟨ret_b (by rw [f2]; simp), D1.out⟩
  · have f1 : (n == n') = false := by simpa using e1
    go_wp2
    go_ret
    exact ⟨ret_b (by rw [f1]; simp), D1.out⟩
end Go.Proofs.YtbkikbhnehjaaaaGreatDoor.Sg
