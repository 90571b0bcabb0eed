
/-
  NewPipe, the model's and the program's, walked; marks written into an empty pipe and looked at again; the law FnExactNewPipe. (Made by npg.py.)
-/
import Derived.Test.YtbkikbhnehjaaaaGreatDoorPiA
import Derived.Test.YtbkikbhnehjaaaaGreatDoorRqC
import Derived.Test.YtbkikbhnehjaaaaGreatDoorPoS3
namespace Go.Proofs.YtbkikbhnehjaaaaGreatDoor.Np
open Go.RowKit
open Go.Proofs.YtbkikbhnehjaaaaGreatDoor.Tx (TxtsIn ret_i)
open Go.Proofs.YtbkikbhnehjaaaaGreatDoor.Po (Pl RlIn belI_step belI_alloc)
open Go.Proofs.YtbkikbhnehjaaaaGreatDoor.Pi
open Go.Proofs.YtbkikbhnehjaaaaGreatDoor.Qu (Hd)
open Go.Proofs.YtbkikbhnehjaaaaGreatDoor.Ul (Tab MaxL)
/-- the pipe that nothing has happened to -/
def p0 : Pp := ⟨[], ⟨[], [], []⟩, 0, 1, [], []⟩
abbrev nV (u : PV) : Value := .agg #[u.cv, .string ⟨#[]⟩, u.uv, u.rv, .int .i64 0, .int .i64 1, u.lv, u.wv]
def Em (v : Value) : Prop := ∃ (a : Option Addr) (c : Nat), v = .slice a 0 c ∧ c ≤ 9223372036854775807
structure EmP (u : PV) : Prop where
  cv : Em u.cv
  uv : Em u.uv
  rv : Em u.rv
  lv : Em u.lv
  wv : Em u.wv
theorem EmP.pipe {u : PV} (h : EmP u) (S : Nat → Prop) (w : World) : PpN S w u p0 := by
  obtain ⟨⟨a1, c1, e1, h1⟩, ⟨a2, c2, e2, h2⟩, ⟨a3, c3, e3, h3⟩, ⟨a4, c4, e4, h4⟩, ⟨a5, c5, e5, h5⟩⟩ := h
  refine ⟨?_, ?_, ?_, ?_, ?_⟩
  · rw [e1]; exact ⟨a1, c1, 0, 0, fun _ => default, rfl, Nat.zero_le _, h1, fun i hi => absurd hi (Nat.not_lt_zero i), fun hp => absurd hp (Nat.not_lt_zero 0), fun i hi => absurd hi (Nat.not_lt_zero i)⟩
  · rw [e2]; exact ⟨a2, c2, 0, 0, rfl, Nat.zero_le _, h2, fun i hi => absurd hi (Nat.not_lt_zero i), fun hp => absurd hp (Nat.not_lt_zero 0), fun i hi => absurd hi (Nat.not_lt_zero i)⟩
  · rw [e3]; exact ⟨a3, c3, 0, 0, fun _ => undef, rfl, Nat.zero_le _, h3, fun i hi => absurd hi (Nat.not_lt_zero i), fun hp => absurd hp (Nat.not_lt_zero 0), fun i hi => absurd hi (Nat.not_lt_zero i)⟩
  · rw [e4]; exact ⟨a4, c4, 0, 0, rfl, Nat.zero_le _, h4, fun i hi => absurd hi (Nat.not_lt_zero i), fun hp => absurd hp (Nat.not_lt_zero 0), fun i hi => absurd hi (Nat.not_lt_zero i)⟩
  · rw [e5]; exact ⟨a5, c5, 0, 0, fun _ => default, rfl, Nat.zero_le _, h5, fun i hi => absurd hi (Nat.not_lt_zero i), fun hp => absurd hp (Nat.not_lt_zero 0), fun i hi => absurd hi (Nat.not_lt_zero i)⟩
theorem Em.of_txts {S : Nat → Prop} {w : World} {v : Value} (h : TxtsIn S w v []) : Em v := by
  obtain ⟨a, c, _, _, e, _, hc, _⟩ := h; exact ⟨a, c, e, hc⟩
theorem Em.of_own {w : World} {B s : Nat} {T : TypeId} {v : Value} {xs : List Value} (h : w.ownsRow B T s v 0 xs) : Em v := by
  obtain ⟨-, h⟩ := h
  rcases h with ⟨rfl, -⟩ | ⟨g, cap, C, rfl, _, _, _, hm, _, _⟩
  · exact ⟨none, 0, rfl, by omega⟩
  · exact ⟨_, cap, rfl, by unfold maxLen at hm; omega⟩
set_option maxRecDepth 100000 in
theorem markChannelS_nil (a : Option Addr) (c : Nat) (k : Int) (w : World) : Calls Tryz.prog 58 #[.slice a 0 c, .int .i64 k] w fun e w' => e = .returned (.int .i64 k) ∧ w = w' := by
  go_enter Tryz.func58, Tryz.ntmps58
  go_wp2
  go_loopw [1, 5] (fun l i wr => l = .int .i64 k ∧ i = .int .i64 0 ∧ w = wr) (fun _ _ _ => 0)
  case atStart => exact ⟨rfl, rfl, rfl⟩
  case round =>
    obtain ⟨rfl, rfl, rfl⟩ := hrel
    go_wp2
    go_ret
    exact ⟨rfl, rfl⟩
set_option maxRecDepth 100000 in
theorem markStringS_nil (a : Option Addr) (c : Nat) (k : Int) (w : World) : Calls Tryz.prog 93 #[.slice a 0 c, .int .i64 k] w fun e w' => e = .returned (.int .i64 k) ∧ w = w' := by
  go_enter Tryz.func93, Tryz.ntmps93
  go_wp2
  go_loopw [1, 5] (fun l i wr => l = .int .i64 k ∧ i = .int .i64 0 ∧ w = wr) (fun _ _ _ => 0)
  case atStart => exact ⟨rfl, rfl, rfl⟩
  case round =>
    obtain ⟨rfl, rfl, rfl⟩ := hrel
    go_wp2
    go_ret
    exact ⟨rfl, rfl⟩
set_option maxRecDepth 100000 in
theorem markRuleS_nil (a : Option Addr) (c : Nat) (k : Int) (w : World) : Calls Tryz.prog 134 #[.slice a 0 c, .int .i64 k] w fun e w' => e = .returned (.int .i64 k) ∧ w = w' := by
  go_enter Tryz.func134, Tryz.ntmps134
  go_wp2
  go_loopw [1, 5] (fun l i wr => l = .int .i64 k ∧ i = .int .i64 0 ∧ w = wr) (fun _ _ _ => 0)
  case atStart => exact ⟨rfl, rfl, rfl⟩
  case round =>
    obtain ⟨rfl, rfl, rfl⟩ := hrel
    go_wp2
    go_ret
    exact ⟨rfl, rfl⟩
set_option maxRecDepth 100000 in
theorem markEntryS_nil (a : Option Addr) (c : Nat) (k : Int) (w : World) : Calls Tryz.prog 60 #[.slice a 0 c, .int .i64 k] w fun e w' => e = .returned (.int .i64 k) ∧ w = w' := by
  go_enter Tryz.func60, Tryz.ntmps60
  go_wp2
  go_loopw [1, 5] (fun l i wr => l = .int .i64 k ∧ i = .int .i64 0 ∧ w = wr) (fun _ _ _ => 0)
  case atStart => exact ⟨rfl, rfl, rfl⟩
  case round =>
    obtain ⟨rfl, rfl, rfl⟩ := hrel
    go_wp2
    go_ret
    exact ⟨rfl, rfl⟩
set_option maxRecDepth 100000 in
theorem markWireS_nil (a : Option Addr) (c : Nat) (k : Int) (w : World) : Calls Tryz.prog 61 #[.slice a 0 c, .int .i64 k] w fun e w' => e = .returned (.int .i64 k) ∧ w = w' := by
  go_enter Tryz.func61, Tryz.ntmps61
  go_wp2
  go_loopw [1, 5] (fun l i wr => l = .int .i64 k ∧ i = .int .i64 0 ∧ w = wr) (fun _ _ _ => 0)
  case atStart => exact ⟨rfl, rfl, rfl⟩
  case round =>
    obtain ⟨rfl, rfl, rfl⟩ := hrel
    go_wp2
    go_ret
    exact ⟨rfl, rfl⟩
set_option maxRecDepth 100000 in
theorem heldChannelS_nil (a : Option Addr) (c : Nat) (k : Int) (w : World) : Calls Tryz.prog 62 #[.slice a 0 c, .int .i64 k] w fun e w' => e = .returned (.int .i64 k) ∧ w = w' := by
  go_enter Tryz.func62, Tryz.ntmps62
  go_wp2
  go_loopw [1, 5] (fun l i wr => l = .int .i64 k ∧ i = .int .i64 0 ∧ w = wr) (fun _ _ _ => 0)
  case atStart => exact ⟨rfl, rfl, rfl⟩
  case round =>
    obtain ⟨rfl, rfl, rfl⟩ := hrel
    go_wp2
    go_ret
    exact ⟨rfl, rfl⟩
set_option maxRecDepth 100000 in
theorem heldStringS_nil (a : Option Addr) (c : Nat) (k : Int) (w : World) : Calls Tryz.prog 95 #[.slice a 0 c, .int .i64 k] w fun e w' => e = .returned (.int .i64 k) ∧ w = w' := by
  go_enter Tryz.func95, Tryz.ntmps95
  go_wp2
  go_loopw [1, 5] (fun l i wr => l = .int .i64 k ∧ i = .int .i64 0 ∧ w = wr) (fun _ _ _ => 0)
  case atStart => exact ⟨rfl, rfl, rfl⟩
  case round =>
    obtain ⟨rfl, rfl, rfl⟩ := hrel
    go_wp2
    go_ret
    exact ⟨rfl, rfl⟩
set_option maxRecDepth 100000 in
theorem heldRuleS_nil (a : Option Addr) (c : Nat) (k : Int) (w : World) : Calls Tryz.prog 139 #[.slice a 0 c, .int .i64 k] w fun e w' => e = .returned (.int .i64 k) ∧ w = w' := by
  go_enter Tryz.func139, Tryz.ntmps139
  go_wp2
  go_loopw [1, 5] (fun l i wr => l = .int .i64 k ∧ i = .int .i64 0 ∧ w = wr) (fun _ _ _ => 0)
  case atStart => exact ⟨rfl, rfl, rfl⟩
  case round =>
    obtain ⟨rfl, rfl, rfl⟩ := hrel
    go_wp2
    go_ret
    exact ⟨rfl, rfl⟩
set_option maxRecDepth 100000 in
theorem heldEntryS_nil (a : Option Addr) (c : Nat) (k : Int) (w : World) : Calls Tryz.prog 64 #[.slice a 0 c, .int .i64 k] w fun e w' => e = .returned (.int .i64 k) ∧ w = w' := by
  go_enter Tryz.func64, Tryz.ntmps64
  go_wp2
  go_loopw [1, 5] (fun l i wr => l = .int .i64 k ∧ i = .int .i64 0 ∧ w = wr) (fun _ _ _ => 0)
  case atStart => exact ⟨rfl, rfl, rfl⟩
  case round =>
    obtain ⟨rfl, rfl, rfl⟩ := hrel
    go_wp2
    go_ret
    exact ⟨rfl, rfl⟩
set_option maxRecDepth 100000 in
theorem heldWireS_nil (a : Option Addr) (c : Nat) (k : Int) (w : World) : Calls Tryz.prog 65 #[.slice a 0 c, .int .i64 k] w fun e w' => e = .returned (.int .i64 k) ∧ w = w' := by
  go_enter Tryz.func65, Tryz.ntmps65
  go_wp2
  go_loopw [1, 5] (fun l i wr => l = .int .i64 k ∧ i = .int .i64 0 ∧ w = wr) (fun _ _ _ => 0)
  case atStart => exact ⟨rfl, rfl, rfl⟩
  case round =>
    obtain ⟨rfl, rfl, rfl⟩ := hrel
    go_wp2
    go_ret
    exact ⟨rfl, rfl⟩
set_option maxRecDepth 100000 in
set_option maxHeartbeats 2000000 in
theorem markPolicy_nil (a2 a3 : Option Addr) (c2 c3 : Nat) (w : World) : Calls Tryz.prog 59 #[Po.pV ⟨[], [], []⟩ (.slice a2 0 c2) (.slice a3 0 c3), .int .i64 1] w fun e w' => e = .returned (.int .i64 1) ∧ Below w.heap.size w w' := by
  go_enter Tryz.func59, Tryz.ntmps59
  go_wp2_with fail
  refine (markStringS_nil _ _ _ _).mono ?_
  rintro e wx ⟨rfl, rfl⟩
  go_wp2_with fail
  refine (markRuleS_nil _ _ _ _).mono ?_
  rintro e wx ⟨rfl, rfl⟩
  go_wp2
  go_ret
  exact ⟨rfl, (Below.refl _ _).alloc (Nat.le_refl _) _⟩
set_option maxRecDepth 100000 in
set_option maxHeartbeats 2000000 in
theorem heldPolicy_nil (a2 a3 : Option Addr) (c2 c3 : Nat) (w : World) : Calls Tryz.prog 63 #[Po.pV ⟨[], [], []⟩ (.slice a2 0 c2) (.slice a3 0 c3), .int .i64 1] w fun e w' => e = .returned (.int .i64 1) ∧ Below w.heap.size w w' := by
  go_enter Tryz.func63, Tryz.ntmps63
  go_wp2_with fail
  refine (heldStringS_nil _ _ _ _).mono ?_
  rintro e wx ⟨rfl, rfl⟩
  go_wp2_with fail
  refine (heldRuleS_nil _ _ _ _).mono ?_
  rintro e wx ⟨rfl, rfl⟩
  go_wp2
  go_ret
  exact ⟨rfl, (Below.refl _ _).alloc (Nat.le_refl _) _⟩
set_option maxRecDepth 100000 in
set_option maxHeartbeats 2000000 in
theorem markPipe_nil (a1 a2 a3 a4 a5 : Option Addr) (c1 c2 c3 c4 c5 : Nat) (w : World) : Calls Tryz.prog 14 #[nV ⟨.slice a1 0 c1, .slice a2 0 c2, .slice a3 0 c3, .slice a4 0 c4, .slice a5 0 c5⟩, .int .i64 1] w fun e w' => e = .returned (.int .i64 1) ∧ Below w.heap.size w w' := by
  go_enter Tryz.func14, Tryz.ntmps14
  go_wp2_with fail
  refine (markChannelS_nil _ _ _ _).mono ?_
  rintro e wx ⟨rfl, rfl⟩
  go_wp2_with fail
  refine (markPolicy_nil _ _ _ _ _).mono ?_
  rintro e w2 ⟨rfl, hb⟩
  have BA := Lib.hid (belI_step (belI_alloc (Below.refl _ _)) hb)
  have kk := (Hd.new w (.cells #[.slice a1 0 c1, .string ⟨#[]⟩, .slice a2 0 c2, .slice a3 0 c3, .int .i64 0, .int .i64 1, .slice a4 0 c4, .slice a5 0 c5] 30)).blw hb
  have m0 := cell_of_row w2 w.heap.size 0 _ _ _ kk
  have m1 := cell_of_row w2 w.heap.size 1 _ _ _ kk
  have m2 := cell_of_row w2 w.heap.size 2 _ _ _ kk
  have m3 := cell_of_row w2 w.heap.size 3 _ _ _ kk
  have m4 := cell_of_row w2 w.heap.size 4 _ _ _ kk
  have m5 := cell_of_row w2 w.heap.size 5 _ _ _ kk
  have m6 := cell_of_row w2 w.heap.size 6 _ _ _ kk
  have m7 := cell_of_row w2 w.heap.size 7 _ _ _ kk
  clear hb kk
  go_wp2_with fail
  refine (markEntryS_nil _ _ _ _).mono ?_
  rintro e wx ⟨rfl, rfl⟩
  go_wp2_with fail
  refine (markWireS_nil _ _ _ _).mono ?_
  rintro e wx ⟨rfl, rfl⟩
  go_wp2
  go_ret
  exact ⟨rfl, BA.out⟩
set_option maxRecDepth 100000 in
set_option maxHeartbeats 2000000 in
theorem heldPipe_nil (a1 a2 a3 a4 a5 : Option Addr) (c1 c2 c3 c4 c5 : Nat) (w : World) : Calls Tryz.prog 15 #[nV ⟨.slice a1 0 c1, .slice a2 0 c2, .slice a3 0 c3, .slice a4 0 c4, .slice a5 0 c5⟩, .int .i64 1] w fun e w' => e = .returned (.int .i64 1) ∧ Below w.heap.size w w' := by
  go_enter Tryz.func15, Tryz.ntmps15
  go_wp2_with fail
  refine (heldChannelS_nil _ _ _ _).mono ?_
  rintro e wx ⟨rfl, rfl⟩
  go_wp2_with fail
  refine (heldPolicy_nil _ _ _ _ _).mono ?_
  rintro e w2 ⟨rfl, hb⟩
  have BA := Lib.hid (belI_step (belI_alloc (Below.refl _ _)) hb)
  have kk := (Hd.new w (.cells #[.slice a1 0 c1, .string ⟨#[]⟩, .slice a2 0 c2, .slice a3 0 c3, .int .i64 0, .int .i64 1, .slice a4 0 c4, .slice a5 0 c5] 30)).blw hb
  have m0 := cell_of_row w2 w.heap.size 0 _ _ _ kk
  have m1 := cell_of_row w2 w.heap.size 1 _ _ _ kk
  have m2 := cell_of_row w2 w.heap.size 2 _ _ _ kk
  have m3 := cell_of_row w2 w.heap.size 3 _ _ _ kk
  have m4 := cell_of_row w2 w.heap.size 4 _ _ _ kk
  have m5 := cell_of_row w2 w.heap.size 5 _ _ _ kk
  have m6 := cell_of_row w2 w.heap.size 6 _ _ _ kk
  have m7 := cell_of_row w2 w.heap.size 7 _ _ _ kk
  clear hb kk
  go_wp2_with fail
  refine (heldEntryS_nil _ _ _ _).mono ?_
  rintro e wx ⟨rfl, rfl⟩
  go_wp2_with fail
  refine (heldWireS_nil _ _ _ _).mono ?_
  rintro e wx ⟨rfl, rfl⟩
  go_wp2
  go_ret
  exact ⟨rfl, BA.out⟩
def NewE (W : World) (e : Ending) (w' : World) : Prop := ∃ u, e = .returned (nV u) ∧ EmP u ∧ Below W.heap.size W w'
theorem newE_of {W w' : World} {v1 v2 v3 v4 v5 : Value} (h1 : Em v1) (h2 : Em v2) (h3 : Em v3) (h4 : Em v4) (h5 : Em v5) (hb : Below W.heap.size W w') : NewE W (.returned (.agg #[v1, .string ⟨#[]⟩, v2, v3, .int .i64 0, .int .i64 1, v4, v5])) w' :=
  ⟨⟨v1, v2, v3, v4, v5⟩, rfl, ⟨h1, h2, h3, h4, h5⟩, hb⟩
theorem rp_nil : Rp.rpP [] = ⟨[], [], []⟩ ∧ Rp.rpC [] = 0 := by constructor <;> rfl
set_option maxRecDepth 100000 in
set_option maxHeartbeats 4000000 in
theorem newI_any (W : World) (hT : Tab W) (hM : MaxL W) : Calls Tryz.prog 12 #[] W (NewE W) := by
  have BA := Lib.hid ((Below.refl W.heap.size W).alloc (Nat.le_refl _) (.cells #[.slice none 0 0, .string ⟨#[]⟩, .slice none 0 0, .slice none 0 0, .int .i64 0, .int .i64 0, .slice none 0 0, .slice none 0 0] 30))
  have K := Lib.hid (Hd.new W (.cells #[.slice none 0 0, .string ⟨#[]⟩, .slice none 0 0, .slice none 0 0, .int .i64 0, .int .i64 0, .slice none 0 0, .slice none 0 0] 30))
  have HR := Lib.hid (fun W' a b => show Calls Tryz.prog 42 #[.string ⟨([] : List UInt8).toArray⟩] W' (Rp.RpOwn W' []) from Rp.rpI_any [] (by simp) W' a b)
  have HT := Lib.hid hT
  have HM := Lib.hid hM
  clear hT hM
  go_enter Tryz.func12, Tryz.ntmps12
  go_wp2_with fail
  refine (HR.out _ (HT.out.below BA.out) (HM.out.below BA.out)).mono ?_
  rintro e w1 ⟨uv, rv, vs, L, rfl, -, -, hu, hr, -, hb⟩
  rw [rp_nil.1] at hu hr ⊢
  rw [rp_nil.2]
  have hE2 := Em.of_own hu
  have hE3 := Em.of_own hr.row
  obtain ⟨a2, c2, rfl, hc2⟩ := hE2
  obtain ⟨a3, c3, rfl, hc3⟩ := hE3
  have B1 := Lib.hid (belI_step BA.out hb)
  have K1 := Lib.hid ((K.out.blw hb).al (.cells #[.string ⟨#[]⟩, .slice a2 0 c2, .slice a3 0 c3] 26))
  have B2 := Lib.hid (belI_alloc (o := .cells #[.string ⟨#[]⟩, .slice a2 0 c2, .slice a3 0 c3] 26) B1.out)
  clear hu hr hb
  have kk := K1.out
  have m0 := cell_of_row _ W.heap.size 0 _ _ _ kk
  have m1 := cell_of_row _ W.heap.size 1 _ _ _ kk
  have m2 := cell_of_row _ W.heap.size 2 _ _ _ kk
  have m3 := cell_of_row _ W.heap.size 3 _ _ _ kk
  have m4 := cell_of_row _ W.heap.size 4 _ _ _ kk
  have m5 := cell_of_row _ W.heap.size 5 _ _ _ kk
  have m6 := cell_of_row _ W.heap.size 6 _ _ _ kk
  have m7 := cell_of_row _ W.heap.size 7 _ _ _ kk
  have mf : ∀ o, (w1.alloc (.cells #[.string ⟨#[]⟩, .slice a2 0 c2, .slice a3 0 c3] 26)).frozen? ⟨W.heap.size, o, none⟩ = false := fun o => frozen_of_row _ W.heap.size o _ _ kk
  clear kk
  obtain ⟨w2, hw2⟩ : ∃ w2, w2 = w1.alloc (.cells #[.string ⟨#[]⟩, .slice a2 0 c2, .slice a3 0 c3] 26) := ⟨_, rfl⟩
  have F0 : Hd w2 W.heap.size (.cells #[.slice none 0 0, .string ⟨#[]⟩, .slice none 0 0, .slice none 0 0, .int .i64 0, .int .i64 0, .slice none 0 0, .slice none 0 0] 30) := by rw [hw2]; exact K1.out
  have F8 := Hd.setAt (Hd.setAt (Hd.setAt (Hd.setAt (Hd.setAt (Hd.setAt (Hd.setAt (Hd.setAt F0 0 (.slice none 0 0)) 1 (.string ⟨#[]⟩)) 2 (.slice a2 0 c2)) 3 (.slice a3 0 c3)) 4 (.int .i64 0)) 5 (.int .i64 1)) 6 (.slice none 0 0)) 7 (.slice none 0 0)
  have HF := Lib.hid (show Hd (set8 w2 W.heap.size 0 (.slice none 0 0) (.string ⟨#[]⟩) (.slice a2 0 c2) (.slice a3 0 c3) (.int .i64 0) (.int .i64 1) (.slice none 0 0) (.slice none 0 0)) W.heap.size (.cells #[.slice none 0 0, .string ⟨#[]⟩, .slice a2 0 c2, .slice a3 0 c3, .int .i64 0, .int .i64 1, .slice none 0 0, .slice none 0 0] 30) from F8)
  have HP := Lib.hid (newE_of (v1 := .slice none 0 0) (v2 := .slice a2 0 c2) (v3 := .slice a3 0 c3) (v4 := .slice none 0 0) (v5 := .slice none 0 0) ⟨none, 0, rfl, by omega⟩ ⟨a2, c2, rfl, hc2⟩ ⟨a3, c3, rfl, hc3⟩ ⟨none, 0, rfl, by omega⟩ ⟨none, 0, rfl, by omega⟩ (show Below W.heap.size W (set8 w2 W.heap.size 0 (.slice none 0 0) (.string ⟨#[]⟩) (.slice a2 0 c2) (.slice a3 0 c3) (.int .i64 0) (.int .i64 1) (.slice none 0 0) (.slice none 0 0)) from bel8 (by rw [hw2]; exact B2.out) (Nat.le_refl _) _ _ _ _ _ _ _ _))
  rw [hw2] at HF HP
  clear F0 F8 hw2
  go_wp2
  exact bodyPost_ret (ret_Pp Tryz.results12 rfl HF.out) rfl HP.out
set_option maxRecDepth 100000 in
set_option maxHeartbeats 4000000 in
theorem newS0_any (W : World) : Calls Tryz.prog 53 #[] W (NewE W) := by
  have HMK := Lib.hid (fun (W' : World) (a : Option Addr) (c : Nat) (hc : c ≤ 9223372036854775807) => Po.makeS_any W'.heap.size W' [] (.slice a 0 c) ⟨a, c, 0, 0, fun _ => undef, rfl, Nat.zero_le _, hc, fun i hi => absurd hi (Nat.not_lt_zero i), fun hp => absurd hp (Nat.not_lt_zero 0), fun i hi => absurd hi (Nat.not_lt_zero i)⟩ (by simp) (fun i hi => absurd hi (Nat.not_lt_zero i)) W' (Below.refl _ _) (Nat.le_refl _))
  have BA := Lib.hid (show Below W.heap.size W (((W.alloc (.cells #[.slice none 0 0, .string ⟨#[]⟩, .slice none 0 0, .slice none 0 0, .int .i64 0, .int .i64 0, .slice none 0 0, .slice none 0 0] 30)).alloc (.cells #[] 113)).alloc (.cells #[] 149)) from belI_alloc (belI_alloc (belI_alloc (Below.refl _ _))))
  have K := Lib.hid (((Hd.new W (.cells #[.slice none 0 0, .string ⟨#[]⟩, .slice none 0 0, .slice none 0 0, .int .i64 0, .int .i64 0, .slice none 0 0, .slice none 0 0] 30)).al (.cells #[] 113)).al (.cells #[] 149))
  go_enter Tryz.func53, Tryz.ntmps53
  go_wp2_with fail
  refine (HMK.out _ _ _ (by omega)).mono ?_
  rintro e w1 ⟨uv, rfl, hu, hb⟩
  have hmk0 : Po.makeP [] = ⟨[], [], []⟩ := rfl
  rw [hmk0] at hu ⊢
  obtain ⟨a2, c2, rfl, hc2⟩ := Em.of_txts hu
  have B1 := Lib.hid (belI_step BA.out hb)
  have K1 := Lib.hid (((K.out.blw hb).al (.cells #[] 116)).al (.cells #[] 120))
  have B2 := Lib.hid (belI_alloc (o := .cells #[] 120) (belI_alloc (o := .cells #[] 116) B1.out))
  clear hu hb HMK hmk0
  have kk := K1.out
  have m0 := cell_of_row _ W.heap.size 0 _ _ _ kk
  have m1 := cell_of_row _ W.heap.size 1 _ _ _ kk
  have m2 := cell_of_row _ W.heap.size 2 _ _ _ kk
  have m3 := cell_of_row _ W.heap.size 3 _ _ _ kk
  have m4 := cell_of_row _ W.heap.size 4 _ _ _ kk
  have m5 := cell_of_row _ W.heap.size 5 _ _ _ kk
  have m6 := cell_of_row _ W.heap.size 6 _ _ _ kk
  have m7 := cell_of_row _ W.heap.size 7 _ _ _ kk
  have mf : ∀ o, ((w1.alloc (.cells #[] 116)).alloc (.cells #[] 120)).frozen? ⟨W.heap.size, o, none⟩ = false := fun o => frozen_of_row _ W.heap.size o _ _ kk
  clear kk
  obtain ⟨w2, hw2⟩ : ∃ w2, w2 = (w1.alloc (.cells #[] 116)).alloc (.cells #[] 120) := ⟨_, rfl⟩
  have F0 : Hd w2 W.heap.size (.cells #[.slice none 0 0, .string ⟨#[]⟩, .slice none 0 0, .slice none 0 0, .int .i64 0, .int .i64 0, .slice none 0 0, .slice none 0 0] 30) := by rw [hw2]; exact K1.out
  have F8 := Hd.setAt (Hd.setAt (Hd.setAt (Hd.setAt (Hd.setAt (Hd.setAt (Hd.setAt (Hd.setAt F0 0 (.slice (some ⟨W.heap.size + 1, 0, none⟩) 0 0)) 1 (.string ⟨#[]⟩)) 2 (.slice a2 0 c2)) 3 (.slice (some ⟨W.heap.size + 1 + 1, 0, none⟩) 0 0)) 4 (.int .i64 0)) 5 (.int .i64 1)) 6 (.slice (some ⟨w1.heap.size, 0, none⟩) 0 0)) 7 (.slice (some ⟨w1.heap.size + 1, 0, none⟩) 0 0)
  have HF := Lib.hid (show Hd (set8 w2 W.heap.size 0 (.slice (some ⟨W.heap.size + 1, 0, none⟩) 0 0) (.string ⟨#[]⟩) (.slice a2 0 c2) (.slice (some ⟨W.heap.size + 1 + 1, 0, none⟩) 0 0) (.int .i64 0) (.int .i64 1) (.slice (some ⟨w1.heap.size, 0, none⟩) 0 0) (.slice (some ⟨w1.heap.size + 1, 0, none⟩) 0 0)) W.heap.size (.cells #[.slice (some ⟨W.heap.size + 1, 0, none⟩) 0 0, .string ⟨#[]⟩, .slice a2 0 c2, .slice (some ⟨W.heap.size + 1 + 1, 0, none⟩) 0 0, .int .i64 0, .int .i64 1, .slice (some ⟨w1.heap.size, 0, none⟩) 0 0, .slice (some ⟨w1.heap.size + 1, 0, none⟩) 0 0] 30) from F8)
  have HP := Lib.hid (newE_of (v1 := .slice (some ⟨W.heap.size + 1, 0, none⟩) 0 0) (v2 := .slice a2 0 c2) (v3 := .slice (some ⟨W.heap.size + 1 + 1, 0, none⟩) 0 0) (v4 := .slice (some ⟨w1.heap.size, 0, none⟩) 0 0) (v5 := .slice (some ⟨w1.heap.size + 1, 0, none⟩) 0 0) ⟨_, 0, rfl, by omega⟩ ⟨a2, c2, rfl, hc2⟩ ⟨_, 0, rfl, by omega⟩ ⟨_, 0, rfl, by omega⟩ ⟨_, 0, rfl, by omega⟩ (show Below W.heap.size W (set8 w2 W.heap.size 0 (.slice (some ⟨W.heap.size + 1, 0, none⟩) 0 0) (.string ⟨#[]⟩) (.slice a2 0 c2) (.slice (some ⟨W.heap.size + 1 + 1, 0, none⟩) 0 0) (.int .i64 0) (.int .i64 1) (.slice (some ⟨w1.heap.size, 0, none⟩) 0 0) (.slice (some ⟨w1.heap.size + 1, 0, none⟩) 0 0)) from bel8 (by rw [hw2]; exact B2.out) (Nat.le_refl _) _ _ _ _ _ _ _ _))
  rw [hw2] at HF HP
  clear F0 F8 hw2
  go_wp2
  exact bodyPost_ret (ret_Pp Tryz.results53 rfl HF.out) rfl HP.out
set_option maxRecDepth 100000 in
set_option maxHeartbeats 4000000 in
theorem newS_any (W : World) : Calls Tryz.prog 11 #[] W (NewE W) := by
  have BA := Lib.hid ((Below.refl W.heap.size W).alloc (Nat.le_refl _) (.cells #[.slice none 0 0, .string ⟨#[]⟩, .slice none 0 0, .slice none 0 0, .int .i64 0, .int .i64 0, .slice none 0 0, .slice none 0 0] 30))
  have K := Lib.hid (Hd.new W (.cells #[.slice none 0 0, .string ⟨#[]⟩, .slice none 0 0, .slice none 0 0, .int .i64 0, .int .i64 0, .slice none 0 0, .slice none 0 0] 30))
  go_enter Tryz.func11, Tryz.ntmps11
  go_wp2_with fail
  refine (newS0_any _).mono ?_
  rintro e w1 ⟨⟨v1, v2, v3, v4, v5⟩, rfl, hE, hb⟩
  obtain ⟨⟨a1, c1, e1, h1⟩, ⟨a2, c2, e2, h2⟩, ⟨a3, c3, e3, h3⟩, ⟨a4, c4, e4, h4⟩, ⟨a5, c5, e5, h5⟩⟩ := hE
  simp only at e1 e2 e3 e4 e5
  subst e1 e2 e3 e4 e5
  have B1 := belI_step BA.out hb
  have kk := K.out.blw hb
  have m0 := cell_of_row w1 W.heap.size 0 _ _ _ kk
  have m1 := cell_of_row w1 W.heap.size 1 _ _ _ kk
  have m2 := cell_of_row w1 W.heap.size 2 _ _ _ kk
  have m3 := cell_of_row w1 W.heap.size 3 _ _ _ kk
  have m4 := cell_of_row w1 W.heap.size 4 _ _ _ kk
  have m5 := cell_of_row w1 W.heap.size 5 _ _ _ kk
  have m6 := cell_of_row w1 W.heap.size 6 _ _ _ kk
  have m7 := cell_of_row w1 W.heap.size 7 _ _ _ kk
  have mf : ∀ o, w1.frozen? ⟨W.heap.size, o, none⟩ = false := fun o => frozen_of_row _ W.heap.size o _ _ kk
  have F8 := Hd.setAt (Hd.setAt (Hd.setAt (Hd.setAt (Hd.setAt (Hd.setAt (Hd.setAt (Hd.setAt kk 0 (.slice a1 0 c1)) 1 (.string ⟨#[]⟩)) 2 (.slice a2 0 c2)) 3 (.slice a3 0 c3)) 4 (.int .i64 0)) 5 (.int .i64 1)) 6 (.slice a4 0 c4)) 7 (.slice a5 0 c5)
  have HF := Lib.hid (show Hd (set8 w1 W.heap.size 0 (.slice a1 0 c1) (.string ⟨#[]⟩) (.slice a2 0 c2) (.slice a3 0 c3) (.int .i64 0) (.int .i64 1) (.slice a4 0 c4) (.slice a5 0 c5)) W.heap.size (.cells #[.slice a1 0 c1, .string ⟨#[]⟩, .slice a2 0 c2, .slice a3 0 c3, .int .i64 0, .int .i64 1, .slice a4 0 c4, .slice a5 0 c5] 30) from F8)
  have HP := Lib.hid (newE_of (v1 := .slice a1 0 c1) (v2 := .slice a2 0 c2) (v3 := .slice a3 0 c3) (v4 := .slice a4 0 c4) (v5 := .slice a5 0 c5) ⟨a1, c1, rfl, h1⟩ ⟨a2, c2, rfl, h2⟩ ⟨a3, c3, rfl, h3⟩ ⟨a4, c4, rfl, h4⟩ ⟨a5, c5, rfl, h5⟩ (show Below W.heap.size W (set8 w1 W.heap.size 0 (.slice a1 0 c1) (.string ⟨#[]⟩) (.slice a2 0 c2) (.slice a3 0 c3) (.int .i64 0) (.int .i64 1) (.slice a4 0 c4) (.slice a5 0 c5)) from bel8 B1 (Nat.le_refl _) _ _ _ _ _ _ _ _))
  clear F8 kk B1 hb
  go_wp2
  exact bodyPost_ret (ret_Pp Tryz.results11 rfl HF.out) rfl HP.out
end Go.Proofs.YtbkikbhnehjaaaaGreatDoor.Np
