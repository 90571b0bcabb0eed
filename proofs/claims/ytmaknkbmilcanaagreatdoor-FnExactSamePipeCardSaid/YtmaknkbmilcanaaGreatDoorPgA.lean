import Derived.Test.YtmaknkbmilcanaaGreatDoorChecked
import Derived.Test.YtmaknkbmilcanaaGreatDoorShelf
import Derived.WalkKit
import Derived.WalkSpells
import Derived.WalkLawsBesides
import Derived.Lib.Hide
import Derived.Lib.Builder
import Derived.Lib.AppendStr
import Derived.Lib.UnsafeStr
import Derived.Laws.Externs
import Derived.Laws.IdiomCopy
import Derived.Maps.AppendAt
import Derived.Outline
import Derived.Test.YtmaknkbmilcanaaGreatDoorPoW
import Derived.Laws.AppendOwn
import Derived.Laws.OwnMore
import Derived.Deep.AppendLies
import Derived.Deep.RegionLaw
import Derived.BigQuiet
import Derived.Test.YtmaknkbmilcanaaGreatDoorNameWalks
namespace Go.Proofs.YtmaknkbmilcanaaGreatDoor.Bl
open Go.RowKit
def Kept (b : Nat) (w w' : World) : Prop := ∀ k o, w.heap[k]? = some o → k ≠ b → (∀ C, o ≠ .cells C 5 (0, 0)) → w'.heap[k]? = some o
theorem Kept.refl (b : Nat) (w : World) : Kept b w w := fun _ _ h _ _ => h
theorem Kept.trans {b : Nat} {w w1 w2 : World} (h : Kept b w w1) (h2 : Kept b w1 w2) : Kept b w w2 := fun k o hk hb hc => h2 k o (h k o hk hb hc) hb hc
theorem Kept.alloc {b : Nat} {w w1 : World} (h : Kept b w w1) (o : Obj) : Kept b w (w1.alloc o) := fun k o' hk hb hc => by
  have := h k o' hk hb hc
  have hlt : k < w1.heap.size := by
    rcases Nat.lt_or_ge k w1.heap.size with h | h
    · exact h
    · rw [Array.getElem?_eq_none h] at this; cases this
  rw [Lib.alloc_old w1 _ k hlt]; exact this
theorem Kept.drew {b : Nat} {w w1 : World} (h : Kept b w w1) : Kept b w w1.drew := h
theorem Kept.set {b : Nat} {w w1 : World} (h : Kept b w w1) (o : Nat) (v : Value) : Kept b w (w1.setCell ⟨b, o, none⟩ v) := fun k o' hk hb hc => by
  rw [Below.heap_setCell _ _ _ _ (fun e => hb (by simpa using e))]
  exact h k o' hk hb hc
theorem Kept.grown {b B : Nat} {w w1 w2 : World} {v : Value} {n : Nat} {xs : List Value} (h : Kept b w w1) (hown : w1.ownsRow B 5 1 v n xs) (hg : w1.grownBy w2 v.ownBlock) : Kept b w w2 := fun k o' hk hb hc => by
  have h1 := h k o' hk hb hc
  have hlt : k < w1.heap.size := by
    rcases Nat.lt_or_ge k w1.heap.size with h | h
    · exact h
    · rw [Array.getElem?_eq_none h] at h1; cases h1
  rw [hg.block k hlt ?_]
  · exact h1
  · intro e
    rcases hown.2 with ⟨rfl, _⟩ | ⟨g, cap, cur, rfl, _, hgg, _⟩
    · simp [Value.ownBlock] at e
    · simp only [Value.ownBlock, Option.some.injEq] at e
      subst e
      rw [hgg] at h1
      exact hc _ (Option.some.inj h1).symm
abbrev IsB (B b : Nat) (l : List UInt8) (w : World) : Prop := Lib.IsBuilder 273 5 B b (Lib.byteCells l) w
theorem IsB.lt {B b : Nat} {l : List UInt8} {w : World} (h : IsB B b l w) : b < w.heap.size := by
  rcases h with h | h <;> exact h.lt
theorem IsB.alloc {B b : Nat} {l : List UInt8} {w : World} (h : IsB B b l w) (o : Obj) : IsB B b l (w.alloc o) := by
  have hlt := h.lt
  rcases h with ⟨hB, v, hb, hown, hne⟩ | ⟨hB, v, hb, hown, hne⟩
  · exact .inl ⟨hB, v, by rw [Lib.alloc_old w _ b hlt]; exact hb, hown.alloc _, hne⟩
  · exact .inr ⟨hB, v, by rw [Lib.alloc_old w _ b hlt]; exact hb, hown.alloc _, hne⟩
theorem IsB.drew {B b : Nat} {l : List UInt8} {w : World} (h : IsB B b l w) : IsB B b l w.drew := h
end Go.Proofs.YtmaknkbmilcanaaGreatDoor.Bl
namespace Go.Proofs.YtmaknkbmilcanaaGreatDoor.Po
open Go.RowKit
open Go.Proofs.YtmaknkbmilcanaaGreatDoor.Tx
open Go.Proofs.YtmaknkbmilcanaaGreatDoor.Ul hiding ret_bool
open Go.Proofs.YtmaknkbmilcanaaGreatDoor.Aw (wordB)
open Go.Proofs.YtmaknkbmilcanaaGreatDoor.Bl (IsB Kept)
@[local go_sem] theorem bappP (a b : List UInt8) : (⟨a.toArray⟩ : ByteArray) ++ ⟨b.toArray⟩ = ⟨(a ++ b).toArray⟩ := by
  apply ByteArray.ext; simp
def wK (ws : List (List UInt8)) : Nat → List UInt8
  | 0 => []
  | j + 1 => wK ws j ++ (32 :: ws.getD j [])
def sepK (k : Nat) : List UInt8 := if k = 0 then [] else [59, 32]
def tK (xs : List Rl) : Nat → List UInt8
  | 0 => []
  | k + 1 => tK xs k ++ sepK k ++ (xs.getD k default).name ++ wK (xs.getD k default).words (xs.getD k default).words.length
theorem wK_len (ws : List (List UInt8)) (h : ∀ j, j < ws.length → (ws.getD j []).length ≤ 1048576) : ∀ j, j ≤ ws.length → (wK ws j).length ≤ j * 1048577
  | 0, _ => by simp [wK]
  | j + 1, hj => by
    have ih := wK_len ws h j (by omega)
    have := h j (by omega)
    simp only [wK, List.length_append, List.length_cons]
    omega
theorem tK_len (xs : List Rl) (hn : ∀ i, i < xs.length → (xs.getD i default).name.length ≤ 1048576) (hw : ∀ i, i < xs.length → (xs.getD i default).words.length ≤ 8 ∧ ∀ j, j < (xs.getD i default).words.length → ((xs.getD i default).words.getD j []).length ≤ 1048576) :
    ∀ k, k ≤ xs.length → (tK xs k).length ≤ k * 9437194
  | 0, _ => by simp [tK]
  | k + 1, hk => by
    have ih := tK_len xs hn hw k (by omega)
    have h1 := hn k (by omega)
    have h2 := wK_len (xs.getD k default).words (hw k (by omega)).2 _ (Nat.le_refl _)
    have h3 := (hw k (by omega)).1
    have h4 : (sepK k).length ≤ 2 := by unfold sepK; split <;> simp
    simp only [tK, List.length_append]
    have h5 : (xs.getD k default).words.length * 1048577 ≤ 8 * 1048577 := Nat.mul_le_mul_right _ h3
    omega
theorem rls_words : ∀ (xs pre : List Rl), rlsB pre xs = true → ∀ i, i < xs.length → (xs.getD i default).words.length ≤ 8
  | [], _, _, i, hi => by simp at hi
  | x :: r, pre, h, i, hi => by
    unfold rlsB at h
    simp only [Bool.and_eq_true] at h
    cases i with
    | zero =>
      have := h.1.1
      unfold rlB at this
      simp only [Bool.and_eq_true, decide_eq_true_eq] at this
      simpa using this.1.2
    | succ i => simpa using rls_words r (pre ++ [x]) h.2 i (by simpa using hi)
structure Fit8 (xs : List Rl) : Prop where
  len : xs.length ≤ 8
  name : ∀ i, i < xs.length → (xs.getD i default).name.length ≤ 1048576
  words : ∀ i, i < xs.length → (xs.getD i default).words.length ≤ 8 ∧ ∀ j, j < (xs.getD i default).words.length → ((xs.getD i default).words.getD j []).length ≤ 1048576
theorem fit8_of (p : Pl) (hs : Small p) (h : plB p = true) : Fit8 p.rules := by
  unfold plB at h
  simp only [Bool.and_eq_true, decide_eq_true_eq] at h
  exact ⟨h.1, hs.name, fun i hi => ⟨rls_words _ _ h.2.1 i hi, (hs.words i hi).2⟩⟩
set_option maxRecDepth 100000 in
set_option maxHeartbeats 2000000 in
theorem ltextS_any (B : Nat) (w0 : World) (p : Pl) (uv rv : Value) (hu : ∃ a l c, uv = .slice a l c) (hr : RlIn (· < B) w0 rv p.rules) (hf : Fit8 p.rules) (W : World) (hb : Below B w0 W) (hB : B ≤ W.heap.size) :
    Calls Tryz.prog 150 #[pV p uv rv] W fun e w' => e = .returned (.string ⟨(tK p.rules p.rules.length).toArray⟩) ∧ Below W.heap.size W w' := by
  obtain ⟨a1, l1, c1, rfl⟩ := hu
  obtain ⟨n, us, xs⟩ := p
  simp only at hr hf ⊢
  obtain ⟨a, cap, b, off, vs, rfl, hcap, hm, hlen, ha, hc⟩ := hr
  have HC := Lib.hid hc
  have HA := Lib.hid ha
  have HF := Lib.hid hf
  have HTL := Lib.hid (tK_len xs hf.name hf.words)
  have h8 := hf.len
  have HB1 := Lib.hid ((Below.refl W.heap.size W).alloc (Nat.le_refl _) (.cells #[.string ⟨n.toArray⟩, .slice a1 l1 c1, .slice a xs.length cap] 37))
  have HW1 := Lib.hid (hb.trans (HB1.out.mono hB))
  obtain ⟨m0, m1, m2, mf⟩ := three_cells (heap_alloc_new W (.cells #[.string ⟨n.toArray⟩, .slice a1 l1 c1, .slice a xs.length cap] 37))
  clear hc ha hlen hf hb
  go_enter Tryz.func150, Tryz.ntmps150
  go_wp2
  generalize W.alloc (.cells #[.string ⟨n.toArray⟩, .slice a1 l1 c1, .slice a xs.length cap] 37) = w1 at *
  go_loop [3, 4] (fun t i => ∃ k : Nat, k ≤ xs.length ∧ i = .int .i64 k ∧ t = .string ⟨(tK xs k).toArray⟩) (fun _ i => xs.length - (intOf i).toNat)
  case atStart => exact ⟨0, by omega, rfl, rfl⟩
  case round =>
    obtain ⟨k, hk, rfl, rfl⟩ := hrel
    have hl := HTL.out k hk
    have hl2 : k * 9437194 ≤ 8 * 9437194 := Nat.mul_le_mul_right _ (by omega)
    by_cases hlt : k < xs.length
    · obtain ⟨ea, hlb⟩ := HA.out (by omega)
      subst ea
      obtain ⟨c0, c1', T1⟩ := HC.out k hlt
      have q0 := (HW1.out.cell (p := ⟨b, off + k * 2, none⟩) hlb).trans c0
      have q1 := (HW1.out.cell (p := ⟨b, off + k * 2 + 1, none⟩) hlb).trans c1'
      obtain ⟨a5, cap5, b5, off5, e5, hcap5, hm5, hl5, ha5, hc5⟩ := T1
      rw [e5] at q1
      have HA5 := Lib.hid ha5
      have HC5 := Lib.hid hc5
      have TS := Lib.hid (show tK xs (k + 1) = tK xs k ++ sepK k ++ (xs.getD k default).name ++ wK (xs.getD k default).words (xs.getD k default).words.length from rfl)
      have hnl := HF.out.name k hlt
      have hwl := HF.out.words k hlt
      have HWL := Lib.hid (wK_len _ hwl.2)
      have hw8 := hwl.1
      have HW2 := Lib.hid hwl.2
      clear c0 c1' ha5 hc5 e5 hl5 hwl
      generalize xs.getD k default = x at *
      obtain ⟨nm, ws⟩ := x
      simp only at *
      generalize tK xs k = T at *
      have hTl : T.length ≤ 75497552 := by omega
      have b1 : ¬ 9223372036854775807 < T.length + 2 := by omega
      have b2 : ¬ 9223372036854775807 < T.length + 2 + nm.length := by omega
      have b3 : ¬ 9223372036854775807 < T.length + nm.length := by omega
      have b2' : ¬ 9223372036854775807 < T.length + (nm.length + 1 + 1) := by omega
      clear hl hl2
      by_cases h0 : k = 0
      · have d0 : decide ((0 : Int) < (k : Int)) = false := by simp [h0]
        have d0' : ¬ 0 < k := by omega
        have TSP := Lib.hid (TS.out.trans (show T ++ sepK k ++ nm ++ wK ws ws.length = (T ++ nm) ++ wK ws ws.length by rw [show sepK k = [] by simp [sepK, h0]]; simp))
        have hPl : (T ++ nm).length ≤ 100000000 := by rw [List.length_append]; omega
        clear h0 hTl
        go_wp2
        generalize (T ++ nm) = P at *
        go_loop [3, 5] (fun t i => ∃ j : Nat, j ≤ ws.length ∧ i = .int .i64 j ∧ t = .string ⟨(P ++ wK ws j).toArray⟩) (fun _ i => ws.length - (intOf i).toNat)
        case atStart => exact ⟨0, by omega, rfl, by simp [wK]⟩
        case round =>
          obtain ⟨j, hj, rfl, rfl⟩ := hrel
          have hwj := HWL.out j hj
          by_cases hlj : j < ws.length
          · obtain ⟨ea5, hlb5⟩ := HA5.out (by omega)
            subst ea5
            have q2 := (HW1.out.cell (p := ⟨b5, off5 + j, none⟩) hlb5).trans (HC5.out j hlj)
            have hyl := HW2.out j hlj
            have WS := Lib.hid (show wK ws (j + 1) = wK ws j ++ (32 :: ws.getD j []) from rfl)
            generalize ws.getD j [] = y at *
            generalize wK ws j = V at *
            have hjm : j * 1048577 ≤ 8 * 1048577 := Nat.mul_le_mul_right _ (by omega)
            have b4 : ¬ 9223372036854775807 < y.length + 1 := by omega
            have b4' : ¬ 9223372036854775807 < 1 + y.length := by omega
            have b5 : ¬ 9223372036854775807 < P.length + V.length + (y.length + 1) := by omega
            clear hjm hwj hyl
            go_wp2
            go_round
            case rel => exact ⟨j + 1, by omega, by go_num, by rw [WS.out]; try simp⟩
            case measure => simp [intOf]; omega
          · obtain rfl : j = ws.length := by omega
            go_wp2
            go_round
            case rel => exact ⟨k + 1, by omega, by go_num, by rw [TSP.out]⟩
            case measure => simp [intOf]; omega
      · have d0 : decide ((0 : Int) < (k : Int)) = true := by simp; omega
        have d0' : 0 < k := by omega
        have TSP := Lib.hid (TS.out.trans (show T ++ sepK k ++ nm ++ wK ws ws.length = (T ++ 59 :: 32 :: nm) ++ wK ws ws.length by rw [show sepK k = [59, 32] by simp [sepK, h0]]; simp))
        have hPl : (T ++ 59 :: 32 :: nm).length ≤ 100000000 := by simp only [List.length_append, List.length_cons]; omega
        clear h0 hTl
        go_wp2
        generalize (T ++ 59 :: 32 :: nm) = P at *
        go_loop [3, 5] (fun t i => ∃ j : Nat, j ≤ ws.length ∧ i = .int .i64 j ∧ t = .string ⟨(P ++ wK ws j).toArray⟩) (fun _ i => ws.length - (intOf i).toNat)
        case atStart => exact ⟨0, by omega, rfl, by simp [wK]⟩
        case round =>
          obtain ⟨j, hj, rfl, rfl⟩ := hrel
          have hwj := HWL.out j hj
          by_cases hlj : j < ws.length
          · obtain ⟨ea5, hlb5⟩ := HA5.out (by omega)
            subst ea5
            have q2 := (HW1.out.cell (p := ⟨b5, off5 + j, none⟩) hlb5).trans (HC5.out j hlj)
            have hyl := HW2.out j hlj
            have WS := Lib.hid (show wK ws (j + 1) = wK ws j ++ (32 :: ws.getD j []) from rfl)
            generalize ws.getD j [] = y at *
            generalize wK ws j = V at *
            have hjm : j * 1048577 ≤ 8 * 1048577 := Nat.mul_le_mul_right _ (by omega)
            have b4 : ¬ 9223372036854775807 < y.length + 1 := by omega
            have b4' : ¬ 9223372036854775807 < 1 + y.length := by omega
            have b5 : ¬ 9223372036854775807 < P.length + V.length + (y.length + 1) := by omega
            clear hjm hwj hyl
            go_wp2
            go_round
            case rel => exact ⟨j + 1, by omega, by go_num, by rw [WS.out]; try simp⟩
            case measure => simp [intOf]; omega
          · obtain rfl : j = ws.length := by omega
            go_wp2
            go_round
            case rel => exact ⟨k + 1, by omega, by go_num, by rw [TSP.out]⟩
            case measure => simp [intOf]; omega
    · obtain rfl : k = xs.length := by omega
      go_wp2
      go_ret
      exact ⟨rfl, HB1.out⟩
def ptT (p : Pl) : List UInt8 := if plB p then tK p.rules p.rules.length else []
end Go.Proofs.YtmaknkbmilcanaaGreatDoor.Po
namespace Go.Proofs.YtmaknkbmilcanaaGreatDoor.Po
open Go.RowKit
open Go.Proofs.YtmaknkbmilcanaaGreatDoor.Tx
open Go.Proofs.YtmaknkbmilcanaaGreatDoor.Ul hiding ret_bool
def uriL : List UInt8 := [117, 114, 105]
end Go.Proofs.YtmaknkbmilcanaaGreatDoor.Po
namespace Go.Proofs.YtmaknkbmilcanaaGreatDoor.Ug
open Go.RowKit
open Go.Proofs.YtmaknkbmilcanaaGreatDoor.Po
open Go.Proofs.YtmaknkbmilcanaaGreatDoor.Tx hiding ret_b ret_i
open Go.Proofs.YtmaknkbmilcanaaGreatDoor.Pm
open Go.Proofs.YtmaknkbmilcanaaGreatDoor.Ext (up up_below up_mk wp_region_ext call_ext call_ext_same)
@[local go_sem] theorem up_cellU (w : World) (y : Ext.Ext w) (b o : Nat) (h : b < w.heap.size) : (up w y).cell? ⟨b, o, none⟩ = w.cell? ⟨b, o, none⟩ := Ext.up_cell w y b o h
structure Tg where
  url : List UInt8
  pri : Int
  wt : Int
deriving DecidableEq
instance : Inhabited Tg := ⟨⟨[], 0, 0⟩⟩
structure Gp where
  name : List UInt8
  age : Int
  tgs : List Tg
def TgIn (S : Nat → Prop) (w : World) (v : Value) (xs : List Tg) : Prop :=
  ∃ (a : Option Addr) (cap b off : Nat), v = .slice a xs.length cap ∧ xs.length ≤ cap ∧ cap ≤ 9223372036854775807 ∧ (∀ i, i < xs.length → (xs.getD i default).url.length ≤ 9223372036854775807) ∧
    (0 < xs.length → a = some ⟨b, off, none⟩ ∧ S b) ∧
    ∀ i, i < xs.length → w.cell? ⟨b, off + i * 3, none⟩ = some (.string ⟨(xs.getD i default).url.toArray⟩) ∧ w.cell? ⟨b, off + i * 3 + 1, none⟩ = some (.int .i64 (xs.getD i default).pri) ∧ w.cell? ⟨b, off + i * 3 + 2, none⟩ = some (.int .i64 (xs.getD i default).wt)
theorem TgIn.same {S S' : Nat → Prop} {w w' : World} {v : Value} {xs : List Tg} (h : TgIn S w v xs) (hs : ∀ b, S b → S' b ∧ w'.heap[b]? = w.heap[b]?) : TgIn S' w' v xs := by
  obtain ⟨a, cap, b, off, e, h1, h2, h3, h4, h5⟩ := h
  have hc : ∀ i o, i < xs.length → w'.cell? ⟨b, o, none⟩ = w.cell? ⟨b, o, none⟩ := fun i o hi => World.cell?_of_block (w := w) (a := ⟨b, o, none⟩) (hs b (h4 (Nat.lt_of_le_of_lt (Nat.zero_le i) hi)).2).2
  exact ⟨a, cap, b, off, e, h1, h2, h3, fun hp => ⟨(h4 hp).1, (hs b (h4 hp).2).1⟩, fun i hi => ⟨(hc i _ hi).trans (h5 i hi).1, (hc i _ hi).trans (h5 i hi).2.1, (hc i _ hi).trans (h5 i hi).2.2⟩⟩
theorem TgIn.blw {B : Nat} {w w' : World} {v : Value} {xs : List Tg} (h : TgIn (· < B) w v xs) (hb : Below B w w') : TgIn (· < B) w' v xs := h.same fun b hlt => ⟨hlt, hb.block b hlt⟩
theorem TgIn.mono {S S' : Nat → Prop} {w : World} {v : Value} {xs : List Tg} (h : TgIn S w v xs) (hs : ∀ b, S b → S' b) : TgIn S' w v xs := h.same fun b hb => ⟨hs b hb, rfl⟩
theorem TgIn.later {S : Nat → Prop} {w wx : World} {v : Value} {xs : List Tg} (h : TgIn S w v xs) (hS : ∀ b, S b → b < w.heap.size) (hx : Below w.heap.size w wx) : TgIn (· < wx.heap.size) wx v xs :=
  h.same fun b hb => ⟨Nat.lt_of_lt_of_le (hS b hb) hx.size, hx.block b (hS b hb)⟩
theorem TgIn.slice {S : Nat → Prop} {w : World} {v : Value} {xs : List Tg} (h : TgIn S w v xs) : ∃ a l c, v = .slice a l c := by
  obtain ⟨a', cap', _, _, rfl, _⟩ := h; exact ⟨_, _, _, rfl⟩

def tgC : List Tg → List Value
  | [] => []
  | t :: r => .string ⟨t.url.toArray⟩ :: .int .i64 t.pri :: .int .i64 t.wt :: tgC r
theorem tgC_get : ∀ (ts : List Tg) (i : Nat), i < ts.length → (tgC ts)[i * 3]? = some (.string ⟨(ts.getD i default).url.toArray⟩) ∧ (tgC ts)[i * 3 + 1]? = some (.int .i64 (ts.getD i default).pri) ∧ (tgC ts)[i * 3 + 2]? = some (.int .i64 (ts.getD i default).wt)
  | [], i, h => by simp at h
  | t :: r, 0, _ => ⟨rfl, rfl, rfl⟩
  | t :: r, i + 1, h => by
    have ih := tgC_get r i (by simpa using h)
    have e : (i + 1) * 3 = i * 3 + 1 + 1 + 1 := by omega
    rw [e]
    simpa [tgC] using ih
def O3 (w : World) (base : Nat) (v : Value) (ts : List Tg) : Prop := w.ownsRow base 85 3 v ts.length (tgC ts)
theorem O3.slice {w : World} {base : Nat} {v : Value} {ts : List Tg} (h : O3 w base v ts) : ∃ a c, v = .slice a ts.length c := by
  obtain ⟨-, h⟩ := h
  rcases h with ⟨rfl, h0⟩ | ⟨g, cap, cur, rfl, _⟩
  · exact ⟨none, 0, by rw [h0]⟩
  · exact ⟨_, _, rfl⟩
theorem O3.tg {w : World} {base : Nat} {v : Value} {ts : List Tg} (h : O3 w base v ts) (hl : ∀ i, i < ts.length → (ts.getD i default).url.length ≤ 9223372036854775807) : TgIn (fun b => base ≤ b ∧ b < w.heap.size) w v ts := by
  obtain ⟨-, h⟩ := h
  rcases h with ⟨rfl, h0⟩ | ⟨g, cap, cur, rfl, hbg, hg, hnc, hcm, hs, ht⟩
  · obtain rfl : ts = [] := List.eq_nil_of_length_eq_zero h0
    exact ⟨none, 0, 0, 0, rfl, by simp, by omega, by simp, by simp, by simp⟩
  · have hlt : g < w.heap.size := (Array.getElem?_eq_some_iff.1 hg).1
    refine ⟨some ⟨g, 0, none⟩, cap, g, 0, rfl, hnc, by unfold maxLen at hcm; omega, hl, fun _ => ⟨rfl, hbg, hlt⟩, fun i hi => ?_⟩
    obtain ⟨e0, e1, e2⟩ := tgC_get ts i hi
    rw [← ht, List.getElem?_take_of_lt (by omega)] at e0 e1 e2
    simp only [Nat.zero_add]
    refine ⟨?_, ?_, ?_⟩ <;> simp [World.cell?, hg]
    · simpa using e0
    · simpa using e1
    · simpa using e2
theorem O3.kept {w w' : World} {base : Nat} {v : Value} {ts : List Tg} {row : Option Nat} (h : O3 w base v ts) (hg : w.grownBy w' row) (hne : v.ownBlock = none ∨ v.ownBlock ≠ row) : O3 w' base v ts := World.ownsRow.kept h hg hne
theorem O3.below {w w' : World} {base : Nat} {v : Value} {ts : List Tg} (h : O3 w base v ts) (hb : Below w.heap.size w w') : O3 w' base v ts :=
  h.kept (row := none) ⟨hb.os, hb.tape, hb.output, hb.size, fun k hk _ => hb.block k hk⟩ (by cases v.ownBlock <;> simp)
end Go.Proofs.YtmaknkbmilcanaaGreatDoor.Ug
namespace Go.Proofs.YtmaknkbmilcanaaGreatDoor.Ug
open Go.RowKit
open Go.Proofs.YtmaknkbmilcanaaGreatDoor.Po
open Go.Proofs.YtmaknkbmilcanaaGreatDoor.Tx hiding ret_b ret_i
open Go.Proofs.YtmaknkbmilcanaaGreatDoor.Ul (Tab MaxL)
def tsK (us : List (List UInt8)) (k : Nat) : List Tg := (List.range k).map fun i => ⟨us.getD i [], (i : Int) + 1, 1⟩
theorem O3.base {w : World} {a b : Nat} {v : Value} {ts : List Tg} (h : O3 w a v ts) (hab : b ≤ a) : O3 w b v ts := by
  obtain ⟨h1, h2⟩ := h
  refine ⟨h1, h2.imp id ?_⟩
  rintro ⟨g, cap, cur, e, hg, r⟩
  exact ⟨g, cap, cur, e, by omega, r⟩
theorem O3.far {w : World} {a g : Nat} {v x : Value} {ts : List Tg} {o : Nat} (h : O3 w a v ts) (hne : v.ownBlock ≠ some g) : O3 (w.setCell ⟨g, o, none⟩ x) a v ts :=
  h.kept (row := some g) ⟨rfl, rfl, rfl, by simp, fun b _ hb2 => heap_setCell_other _ ⟨g, o, none⟩ b _ (fun e => hb2 (congrArg some e))⟩ (.inr hne)
theorem O3.nil (w : World) (a : Nat) : O3 w a (.slice none 0 0) [] := World.ownsRow_nil _ _ _ _
end Go.Proofs.YtmaknkbmilcanaaGreatDoor.Ug
namespace Go.Proofs.YtmaknkbmilcanaaGreatDoor.Ug
open Go.RowKit
open Go.Proofs.YtmaknkbmilcanaaGreatDoor.Po
open Go.Proofs.YtmaknkbmilcanaaGreatDoor.Tx hiding ret_b ret_i
open Go.Proofs.YtmaknkbmilcanaaGreatDoor.Ul (Tab MaxL)
end Go.Proofs.YtmaknkbmilcanaaGreatDoor.Ug
namespace Go.Proofs.YtmaknkbmilcanaaGreatDoor.Ug
open Go.RowKit
open Go.Proofs.YtmaknkbmilcanaaGreatDoor.Po
open Go.Proofs.YtmaknkbmilcanaaGreatDoor.Pm
open Go.Proofs.YtmaknkbmilcanaaGreatDoor.Tx hiding ret_b ret_i
open Go.Proofs.YtmaknkbmilcanaaGreatDoor.Ul (Tab MaxL)
def Hd (w : World) (b : Nat) (o : Obj) : Prop := w.heap[b]? = some o
theorem Hd.lt {w : World} {b : Nat} {o : Obj} (h : Hd w b o) : b < w.heap.size := (Array.getElem?_eq_some_iff.1 h).1
theorem Hd.blw {w w' : World} {b : Nat} {o : Obj} (h : Hd w b o) (hb : Below w.heap.size w w') : Hd w' b o := (hb.block b h.lt).trans h
theorem Hd.al {w : World} {b : Nat} {o : Obj} (h : Hd w b o) (x : Obj) : Hd (w.alloc x) b o := (heap_alloc_old _ _ h.lt).trans h
theorem Hd.new (w : World) (o : Obj) : Hd (w.alloc o) w.heap.size o := heap_alloc_new _ _
theorem Hd.marked {S : Nat → Prop} {w w' : World} {b : Nat} {o : Obj} (h : Hd w b o) (hS : ¬ S b) (hm : Marked S w w') : Hd w' b o := (hm.block b h.lt hS).trans h
theorem Hd.grown {w w' : World} {row : Option Nat} {b : Nat} {o : Obj} (h : Hd w b o) (hg : w.grownBy w' row) (hne : some b ≠ row) : Hd w' b o := (hg.block b h.lt hne).trans h
theorem Hd.cells {w : World} {g : Nat} {a b c : Value} {T : TypeId} (h : Hd w g (.cells #[a, b, c] T)) :
    w.cell? ⟨g, 0, none⟩ = some a ∧ w.cell? ⟨g, 1, none⟩ = some b ∧ w.cell? ⟨g, 2, none⟩ = some c ∧ ∀ o, w.frozen? ⟨g, o, none⟩ = false := three_cells h
theorem O3.marked {S : Nat → Prop} {w w' : World} {base : Nat} {v : Value} {ts : List Tg} (h : O3 w base v ts) (hS : ∀ b, base ≤ b → ¬ S b) (hm : Marked S w w') : O3 w' base v ts := by
  obtain ⟨h1, h2⟩ := h
  refine ⟨h1, ?_⟩
  rcases h2 with hn | ⟨g, cap, cur, rfl, hb, hgg, rest⟩
  · exact .inl hn
  · exact .inr ⟨g, cap, cur, rfl, hb, (hm.block g (Array.getElem?_eq_some_iff.1 hgg).1 (hS g hb)).trans hgg, rest⟩
end Go.Proofs.YtmaknkbmilcanaaGreatDoor.Ug
namespace Go.Proofs.YtmaknkbmilcanaaGreatDoor.Sg
open Go.RowKit
open Go.Proofs.YtmaknkbmilcanaaGreatDoor.Ug (Tg Gp TgIn)
open Go.Proofs.YtmaknkbmilcanaaGreatDoor.Tx (ret_b ret_i)
open Go.Proofs.YtmaknkbmilcanaaGreatDoor.Po (three_cells)
open Go.Proofs.YtmaknkbmilcanaaGreatDoor.Cl (cleanC cleanL clean_any)
open Go.Proofs.YtmaknkbmilcanaaGreatDoor.Ul
open Go.Proofs.YtmaknkbmilcanaaGreatDoor.Aw (belDrew)
open Go.Proofs.YtmaknkbmilcanaaGreatDoor.Ext (up up_below up_mk wp_region_ext call_ext call_ext_same)
@[local go_sem] theorem up_cellS (w : World) (y : Ext.Ext w) (b o : Nat) (h : b < w.heap.size) : (up w y).cell? ⟨b, o, none⟩ = w.cell? ⟨b, o, none⟩ := Ext.up_cell w y b o h
def rk (n : Int) : Bool := decide (1 ≤ n ∧ n ≤ 9)
def tgB (t : Tg) : Bool := ((cleanC t.url && (cleanL t.url == t.url)) && rk t.pri) && rk t.wt
def hasU (xs : List Tg) (u : List UInt8) : Bool := xs.any (fun x => x.url == u)
def tgsB : List Tg → List Tg → Bool
  | _, [] => true
  | before, t :: ts => (tgB t && !hasU before t.url) && tgsB (before ++ [t]) ts
def gpB (g : Gp) : Bool := Nm.nameB ⟨g.name.toArray⟩ && decide (1 ≤ g.age ∧ g.age ≤ 100) && decide (1 ≤ g.tgs.length ∧ g.tgs.length ≤ 4) && tgsB [] g.tgs
end Go.Proofs.YtmaknkbmilcanaaGreatDoor.Sg
