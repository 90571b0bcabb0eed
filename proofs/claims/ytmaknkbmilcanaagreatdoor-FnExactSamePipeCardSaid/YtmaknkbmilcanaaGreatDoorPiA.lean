
/-
  Channels, entries, wires and pipes as plain data, and in memory; an argument of type laws.Pipe, opened. (Made by pigen.py.) The laws' sizes of entries, wires, channels and pipes. (Made by pigen.py.) The laws' copies of entries, wires, channels and pipes. (Made by pigen.py.) The laws' comparisons of entries, wires, channels and pipes, at a thing and its like. (Made by pigen.py.)
-/
import Derived.Test.YtmaknkbmilcanaaGreatDoorPeA
import Derived.Test.YtmaknkbmilcanaaGreatDoorQuT
import Derived.Test.YtmaknkbmilcanaaGreatDoorPoMem
import Derived.Deep.RegionHeld3
namespace Go.Proofs.YtmaknkbmilcanaaGreatDoor.Pi
open Go.RowKit
open Go.Proofs.YtmaknkbmilcanaaGreatDoor.Tx (TxtsIn open_txts cellsStr cellsInt cellsTxts spot_of szT)
open Go.Proofs.YtmaknkbmilcanaaGreatDoor.Gr (Tg Gp TgIn open_tgs cellsTgs cellsGp gV szG)
open Go.Proofs.YtmaknkbmilcanaaGreatDoor.Pe (Pr PrIn open_prs cellsBool pV)
open Go.Proofs.YtmaknkbmilcanaaGreatDoor.Qu (Rep Q RpIn IntsIn open_reps cellsReps cellsQ qV szQ)
open Go.Proofs.YtmaknkbmilcanaaGreatDoor.Po (Pl RlIn open_rls cellsRls cellsPl)
open Go.ChangeShapes Go.WideShapes Go.ChangeAt Go.Deep
structure Cn where
  g : Gp
  ps : List Pr
  q : Q
instance : Inhabited Cn := ⟨⟨⟨[], 0, []⟩, [], ⟨[], []⟩⟩⟩
structure En where
  kind : Int
  id : Int
  tm : Int
deriving DecidableEq
instance : Inhabited En := ⟨⟨0, 0, 0⟩⟩
structure Wi where
  tm : Int
  st : Int
  grp : List UInt8
  url : List UInt8
  ids : List Int
  body : List UInt8
  lost : Bool
deriving DecidableEq
instance : Inhabited Wi := ⟨⟨0, 0, [], [], [], [], false⟩⟩
structure Pp where
  chs : List Cn
  pol : Pl
  now : Int
  next : Int
  log : List En
  wires : List Wi
theorem list2 {α : Type} {l : List α} (h : l.length = 2) : ∃ a b, l = [a, b] := by
  match l, h with
  | [a, b], _ => exact ⟨a, b, rfl⟩
theorem list3 {α : Type} {l : List α} (h : l.length = 3) : ∃ a b c, l = [a, b, c] := by
  match l, h with
  | [a, b, c], _ => exact ⟨a, b, c, rfl⟩
theorem list6 {α : Type} {l : List α} (h : l.length = 6) : ∃ a b c d e f, l = [a, b, c, d, e, f] := by
  match l, h with
  | [a, b, c, d, e, f], _ => exact ⟨a, b, c, d, e, f, rfl⟩
theorem list7 {α : Type} {l : List α} (h : l.length = 7) : ∃ a b c d e f g, l = [a, b, c, d, e, f, g] := by
  match l, h with
  | [a, b, c, d, e, f, g], _ => exact ⟨a, b, c, d, e, f, g, rfl⟩
theorem list8 {α : Type} {l : List α} (h : l.length = 8) : ∃ a b c d e f g i, l = [a, b, c, d, e, f, g, i] := by
  match l, h with
  | [a, b, c, d, e, f, g, i], _ => exact ⟨a, b, c, d, e, f, g, i, rfl⟩
theorem bt (t : ByteArray) (h : t.size ≤ maxLen) : t.data.toList.length ≤ 9223372036854775807 := by rw [Array.length_toList]; exact h
theorem cellsInts : Tryz.prog.cellsOf 50 = 1 := by kernel_rfl
theorem cellsPrs : Tryz.prog.cellsOf 171 = 1 := by kernel_rfl
theorem cellsPp : Tryz.prog.cellsOf 30 = 8 := by kernel_rfl
theorem _root_.Go.Proofs.YtmaknkbmilcanaaGreatDoor.Qu.IntsIn.blw {B : Nat} {w w' : World} {v : Value} {xs : List Int} (h : IntsIn (· < B) w v xs) (hb : Below B w w') : IntsIn (· < B) w' v xs := h.same fun b hlt => ⟨hlt, hb.block b hlt⟩
theorem _root_.Go.Proofs.YtmaknkbmilcanaaGreatDoor.Qu.IntsIn.slice2 {S : Nat → Prop} {w : World} {v : Value} {xs : List Int} (h : IntsIn S w v xs) : ∃ a c, v = .slice a xs.length c := by
  obtain ⟨a', cap', _, _, rfl, _⟩ := h; exact ⟨_, _, rfl⟩
/-- v is a slice of the entrys xs, in blocks of S -/
def EnIn (S : Nat → Prop) (w : World) (v : Value) (xs : List En) : Prop :=
  ∃ (a : Option Addr) (cap b off : Nat), v = .slice a xs.length cap ∧ xs.length ≤ cap ∧ cap ≤ 9223372036854775807 ∧ (∀ i, i < xs.length → True) ∧
    (0 < xs.length → a = some ⟨b, off, none⟩ ∧ S b) ∧
    ∀ i, i < xs.length → w.cell? ⟨b, off + i * 3, none⟩ = some (.int .i64 (xs.getD i default).kind) ∧ w.cell? ⟨b, off + i * 3 + 1, none⟩ = some (.int .i64 (xs.getD i default).id) ∧ w.cell? ⟨b, off + i * 3 + 2, none⟩ = some (.int .i64 (xs.getD i default).tm)
theorem EnIn.same {S S' : Nat → Prop} {w w' : World} {v : Value} {xs : List En} (h : EnIn S w v xs) (hs : ∀ b, S b → S' b ∧ w'.heap[b]? = w.heap[b]?) : EnIn S' w' v xs := by
  obtain ⟨a, cap, b, off, e, h1, h2, h3, h4, h5⟩ := h
  have hc : ∀ i o, i < xs.length → w'.cell? ⟨b, o, none⟩ = w.cell? ⟨b, o, none⟩ := fun i o hi => World.cell?_of_block (w := w) (a := ⟨b, o, none⟩) (hs b (h4 (Nat.lt_of_le_of_lt (Nat.zero_le i) hi)).2).2
  exact ⟨a, cap, b, off, e, h1, h2, h3, fun hp => ⟨(h4 hp).1, (hs b (h4 hp).2).1⟩, fun i hi => ⟨(hc i _ hi).trans (h5 i hi).1, (hc i _ hi).trans (h5 i hi).2.1, (hc i _ hi).trans (h5 i hi).2.2⟩⟩
theorem EnIn.blw {B : Nat} {w w' : World} {v : Value} {xs : List En} (h : EnIn (· < B) w v xs) (hb : Below B w w') : EnIn (· < B) w' v xs := h.same fun b hlt => ⟨hlt, hb.block b hlt⟩
theorem EnIn.mono {S S' : Nat → Prop} {w : World} {v : Value} {xs : List En} (h : EnIn S w v xs) (hs : ∀ b, S b → S' b) : EnIn S' w v xs := h.same fun b hb => ⟨hs b hb, rfl⟩
theorem EnIn.later {S : Nat → Prop} {w wx : World} {v : Value} {xs : List En} (h : EnIn S w v xs) (hS : ∀ b, S b → b < w.heap.size) (hx : Below w.heap.size w wx) : EnIn (· < wx.heap.size) wx v xs :=
  h.same fun b hb => ⟨Nat.lt_of_lt_of_le (hS b hb) hx.size, hx.block b (hS b hb)⟩
theorem EnIn.slice {S : Nat → Prop} {w : World} {v : Value} {xs : List En} (h : EnIn S w v xs) : ∃ a l c, v = .slice a l c := by
  obtain ⟨a', cap', _, _, rfl, _⟩ := h; exact ⟨_, _, _, rfl⟩
theorem EnIn.slice2 {S : Nat → Prop} {w : World} {v : Value} {xs : List En} (h : EnIn S w v xs) : ∃ a c, v = .slice a xs.length c := by
  obtain ⟨a', cap', _, _, rfl, _⟩ := h; exact ⟨_, _, rfl⟩
theorem EnIn.nil (S : Nat → Prop) (w : World) : EnIn S w (.slice none 0 0) [] := ⟨none, 0, 0, 0, rfl, by simp, by simp, by simp, by simp, by simp⟩
theorem cellsEn : Tryz.prog.cellsOf 188 = 3 := by kernel_rfl
theorem cellsEns : Tryz.prog.cellsOf 27 = 1 := by kernel_rfl
abbrev eV (x : En) : Value := .agg #[.int .i64 x.kind, .int .i64 x.id, .int .i64 x.tm]
structure WV where
  id : Value
instance : Inhabited WV := ⟨⟨undef⟩⟩
structure WiN (S : Nat → Prop) (w : World) (u : WV) (x : Wi) : Prop where
  id : IntsIn S w u.id x.ids
theorem WiN.same {S S' : Nat → Prop} {w w' : World} {u : WV} {x : Wi} (h : WiN S w u x) (hs : ∀ b, S b → S' b ∧ w'.heap[b]? = w.heap[b]?) : WiN S' w' u x := ⟨h.id.same hs⟩
theorem WiN.blw {B : Nat} {w w' : World} {u : WV} {x : Wi} (h : WiN (· < B) w u x) (hb : Below B w w') : WiN (· < B) w' u x := h.same fun b hlt => ⟨hlt, hb.block b hlt⟩
/-- v is a slice of the wires xs, in blocks of S -/
def WiIn (S : Nat → Prop) (w : World) (v : Value) (xs : List Wi) : Prop :=
  ∃ (a : Option Addr) (cap b off : Nat) (us : Nat → WV), v = .slice a xs.length cap ∧ xs.length ≤ cap ∧ cap ≤ 9223372036854775807 ∧ (∀ i, i < xs.length → (xs.getD i default).grp.length ≤ 9223372036854775807 ∧ (xs.getD i default).url.length ≤ 9223372036854775807 ∧ (xs.getD i default).body.length ≤ 9223372036854775807) ∧
    (0 < xs.length → a = some ⟨b, off, none⟩ ∧ S b) ∧
    ∀ i, i < xs.length → w.cell? ⟨b, off + i * 7, none⟩ = some (.int .i64 (xs.getD i default).tm) ∧ w.cell? ⟨b, off + i * 7 + 1, none⟩ = some (.int .i64 (xs.getD i default).st) ∧ w.cell? ⟨b, off + i * 7 + 2, none⟩ = some (.string ⟨(xs.getD i default).grp.toArray⟩) ∧ w.cell? ⟨b, off + i * 7 + 3, none⟩ = some (.string ⟨(xs.getD i default).url.toArray⟩) ∧ w.cell? ⟨b, off + i * 7 + 4, none⟩ = some ((us i).id) ∧ w.cell? ⟨b, off + i * 7 + 5, none⟩ = some (.string ⟨(xs.getD i default).body.toArray⟩) ∧ w.cell? ⟨b, off + i * 7 + 6, none⟩ = some (.bool (xs.getD i default).lost) ∧ WiN S w (us i) (xs.getD i default)
theorem WiIn.same {S S' : Nat → Prop} {w w' : World} {v : Value} {xs : List Wi} (h : WiIn S w v xs) (hs : ∀ b, S b → S' b ∧ w'.heap[b]? = w.heap[b]?) : WiIn S' w' v xs := by
  obtain ⟨a, cap, b, off, us, e, h1, h2, h3, h4, h5⟩ := h
  have hc : ∀ i o, i < xs.length → w'.cell? ⟨b, o, none⟩ = w.cell? ⟨b, o, none⟩ := fun i o hi => World.cell?_of_block (w := w) (a := ⟨b, o, none⟩) (hs b (h4 (Nat.lt_of_le_of_lt (Nat.zero_le i) hi)).2).2
  exact ⟨a, cap, b, off, us, e, h1, h2, h3, fun hp => ⟨(h4 hp).1, (hs b (h4 hp).2).1⟩, fun i hi => ⟨(hc i _ hi).trans (h5 i hi).1, (hc i _ hi).trans (h5 i hi).2.1, (hc i _ hi).trans (h5 i hi).2.2.1, (hc i _ hi).trans (h5 i hi).2.2.2.1, (hc i _ hi).trans (h5 i hi).2.2.2.2.1, (hc i _ hi).trans (h5 i hi).2.2.2.2.2.1, (hc i _ hi).trans (h5 i hi).2.2.2.2.2.2.1, (h5 i hi).2.2.2.2.2.2.2.same hs⟩⟩
theorem WiIn.blw {B : Nat} {w w' : World} {v : Value} {xs : List Wi} (h : WiIn (· < B) w v xs) (hb : Below B w w') : WiIn (· < B) w' v xs := h.same fun b hlt => ⟨hlt, hb.block b hlt⟩
theorem WiIn.mono {S S' : Nat → Prop} {w : World} {v : Value} {xs : List Wi} (h : WiIn S w v xs) (hs : ∀ b, S b → S' b) : WiIn S' w v xs := h.same fun b hb => ⟨hs b hb, rfl⟩
theorem WiIn.later {S : Nat → Prop} {w wx : World} {v : Value} {xs : List Wi} (h : WiIn S w v xs) (hS : ∀ b, S b → b < w.heap.size) (hx : Below w.heap.size w wx) : WiIn (· < wx.heap.size) wx v xs :=
  h.same fun b hb => ⟨Nat.lt_of_lt_of_le (hS b hb) hx.size, hx.block b (hS b hb)⟩
theorem WiIn.slice {S : Nat → Prop} {w : World} {v : Value} {xs : List Wi} (h : WiIn S w v xs) : ∃ a l c, v = .slice a l c := by
  obtain ⟨a', cap', _, _, _, rfl, _⟩ := h; exact ⟨_, _, _, rfl⟩
theorem WiIn.slice2 {S : Nat → Prop} {w : World} {v : Value} {xs : List Wi} (h : WiIn S w v xs) : ∃ a c, v = .slice a xs.length c := by
  obtain ⟨a', cap', _, _, _, rfl, _⟩ := h; exact ⟨_, _, rfl⟩
theorem WiIn.nil (S : Nat → Prop) (w : World) : WiIn S w (.slice none 0 0) [] := ⟨none, 0, 0, 0, fun _ => default, rfl, by simp, by simp, by simp, by simp, by simp⟩
theorem cellsWi : Tryz.prog.cellsOf 179 = 7 := by kernel_rfl
theorem cellsWis : Tryz.prog.cellsOf 28 = 1 := by kernel_rfl
abbrev wV (x : Wi) (u : WV) : Value := .agg #[.int .i64 x.tm, .int .i64 x.st, .string ⟨x.grp.toArray⟩, .string ⟨x.url.toArray⟩, u.id, .string ⟨x.body.toArray⟩, .bool x.lost]
structure CV where
  tv : Value
  pv : Value
  iv : Value
  rv : Value
instance : Inhabited CV := ⟨⟨undef, undef, undef, undef⟩⟩
structure CnN (S : Nat → Prop) (w : World) (u : CV) (x : Cn) : Prop where
  tv : TgIn S w u.tv x.g.tgs
  pv : PrIn S w u.pv x.ps
  iv : RpIn S w u.iv x.q.items
  rv : TxtsIn S w u.rv x.q.recent
theorem CnN.same {S S' : Nat → Prop} {w w' : World} {u : CV} {x : Cn} (h : CnN S w u x) (hs : ∀ b, S b → S' b ∧ w'.heap[b]? = w.heap[b]?) : CnN S' w' u x := ⟨h.tv.same hs, h.pv.same hs, h.iv.same hs, h.rv.same hs⟩
theorem CnN.blw {B : Nat} {w w' : World} {u : CV} {x : Cn} (h : CnN (· < B) w u x) (hb : Below B w w') : CnN (· < B) w' u x := h.same fun b hlt => ⟨hlt, hb.block b hlt⟩
/-- v is a slice of the channels xs, in blocks of S -/
def CnIn (S : Nat → Prop) (w : World) (v : Value) (xs : List Cn) : Prop :=
  ∃ (a : Option Addr) (cap b off : Nat) (us : Nat → CV), v = .slice a xs.length cap ∧ xs.length ≤ cap ∧ cap ≤ 9223372036854775807 ∧ (∀ i, i < xs.length → (xs.getD i default).g.name.length ≤ 9223372036854775807) ∧
    (0 < xs.length → a = some ⟨b, off, none⟩ ∧ S b) ∧
    ∀ i, i < xs.length → w.cell? ⟨b, off + i * 6, none⟩ = some (.string ⟨(xs.getD i default).g.name.toArray⟩) ∧ w.cell? ⟨b, off + i * 6 + 1, none⟩ = some (.int .i64 (xs.getD i default).g.age) ∧ w.cell? ⟨b, off + i * 6 + 2, none⟩ = some ((us i).tv) ∧ w.cell? ⟨b, off + i * 6 + 3, none⟩ = some ((us i).pv) ∧ w.cell? ⟨b, off + i * 6 + 4, none⟩ = some ((us i).iv) ∧ w.cell? ⟨b, off + i * 6 + 5, none⟩ = some ((us i).rv) ∧ CnN S w (us i) (xs.getD i default)
theorem CnIn.same {S S' : Nat → Prop} {w w' : World} {v : Value} {xs : List Cn} (h : CnIn S w v xs) (hs : ∀ b, S b → S' b ∧ w'.heap[b]? = w.heap[b]?) : CnIn S' w' v xs := by
  obtain ⟨a, cap, b, off, us, e, h1, h2, h3, h4, h5⟩ := h
  have hc : ∀ i o, i < xs.length → w'.cell? ⟨b, o, none⟩ = w.cell? ⟨b, o, none⟩ := fun i o hi => World.cell?_of_block (w := w) (a := ⟨b, o, none⟩) (hs b (h4 (Nat.lt_of_le_of_lt (Nat.zero_le i) hi)).2).2
  exact ⟨a, cap, b, off, us, e, h1, h2, h3, fun hp => ⟨(h4 hp).1, (hs b (h4 hp).2).1⟩, fun i hi => ⟨(hc i _ hi).trans (h5 i hi).1, (hc i _ hi).trans (h5 i hi).2.1, (hc i _ hi).trans (h5 i hi).2.2.1, (hc i _ hi).trans (h5 i hi).2.2.2.1, (hc i _ hi).trans (h5 i hi).2.2.2.2.1, (hc i _ hi).trans (h5 i hi).2.2.2.2.2.1, (h5 i hi).2.2.2.2.2.2.same hs⟩⟩
theorem CnIn.blw {B : Nat} {w w' : World} {v : Value} {xs : List Cn} (h : CnIn (· < B) w v xs) (hb : Below B w w') : CnIn (· < B) w' v xs := h.same fun b hlt => ⟨hlt, hb.block b hlt⟩
theorem CnIn.mono {S S' : Nat → Prop} {w : World} {v : Value} {xs : List Cn} (h : CnIn S w v xs) (hs : ∀ b, S b → S' b) : CnIn S' w v xs := h.same fun b hb => ⟨hs b hb, rfl⟩
theorem CnIn.later {S : Nat → Prop} {w wx : World} {v : Value} {xs : List Cn} (h : CnIn S w v xs) (hS : ∀ b, S b → b < w.heap.size) (hx : Below w.heap.size w wx) : CnIn (· < wx.heap.size) wx v xs :=
  h.same fun b hb => ⟨Nat.lt_of_lt_of_le (hS b hb) hx.size, hx.block b (hS b hb)⟩
theorem CnIn.slice {S : Nat → Prop} {w : World} {v : Value} {xs : List Cn} (h : CnIn S w v xs) : ∃ a l c, v = .slice a l c := by
  obtain ⟨a', cap', _, _, _, rfl, _⟩ := h; exact ⟨_, _, _, rfl⟩
theorem CnIn.slice2 {S : Nat → Prop} {w : World} {v : Value} {xs : List Cn} (h : CnIn S w v xs) : ∃ a c, v = .slice a xs.length c := by
  obtain ⟨a', cap', _, _, _, rfl, _⟩ := h; exact ⟨_, _, rfl⟩
theorem CnIn.nil (S : Nat → Prop) (w : World) : CnIn S w (.slice none 0 0) [] := ⟨none, 0, 0, 0, fun _ => default, rfl, by simp, by simp, by simp, by simp, by simp⟩
theorem cellsCn : Tryz.prog.cellsOf 176 = 6 := by kernel_rfl
theorem cellsCns : Tryz.prog.cellsOf 22 = 1 := by kernel_rfl
abbrev cV (x : Cn) (u : CV) : Value := .agg #[.string ⟨x.g.name.toArray⟩, .int .i64 x.g.age, u.tv, u.pv, u.iv, u.rv]
abbrev ppV (p : Pp) (cv uv rv lv wv : Value) : Value := .agg #[cv, .string ⟨p.pol.rep.toArray⟩, uv, rv, .int .i64 p.now, .int .i64 p.next, lv, wv]
/-- the five slices of a pipe -/
structure PV where
  cv : Value
  uv : Value
  rv : Value
  lv : Value
  wv : Value
structure PpN (S : Nat → Prop) (w : World) (u : PV) (p : Pp) : Prop where
  cv : CnIn S w u.cv p.chs
  uv : TxtsIn S w u.uv p.pol.uris
  rv : RlIn S w u.rv p.pol.rules
  lv : EnIn S w u.lv p.log
  wv : WiIn S w u.wv p.wires
theorem PpN.same {S S' : Nat → Prop} {w w' : World} {u : PV} {p : Pp} (h : PpN S w u p) (hs : ∀ b, S b → S' b ∧ w'.heap[b]? = w.heap[b]?) : PpN S' w' u p := ⟨h.cv.same hs, h.uv.same hs, h.rv.same hs, h.lv.same hs, h.wv.same hs⟩
theorem PpN.blw {B : Nat} {w w' : World} {u : PV} {p : Pp} (h : PpN (· < B) w u p) (hb : Below B w w') : PpN (· < B) w' u p := h.same fun b hlt => ⟨hlt, hb.block b hlt⟩
abbrev pV8 (p : Pp) (u : PV) : Value := ppV p u.cv u.uv u.rv u.lv u.wv
section
variable {H : Type} {enc : TypeId × Value → H} {w : World} {spare : Nat → Bool} {held : Bool}
theorem open_nums {fuel : Nat} {v : Value} {x : DataW H × List MemPlace} (h : DataW.trod enc Tryz.prog w 0 spare held fuel 50 [v] = some x) : ∃ ns, IntsIn (· < w.heap.size) w v ns := by
  rcases open_slice Tryz.underlying50 h with ⟨e, _⟩ | ⟨a, len, cap, m, n, D, Pl, e, _, hl, hm, hmm, _, hel⟩
  · simp at e
    exact ⟨[], none, 0, 0, 0, e, by simp, by simp, by simp, by simp⟩
  · simp at e
    subst e
    have hlm : len ≤ m := by rw [hmm]; split <;> omega
    rw [cellsInt] at hel
    have each : ∀ i, i < len → ∃ y : Int, w.cell? (a.add (i * 1)) = some (.int .i64 y) := fun i hi => by
      obtain ⟨cs', h1, h2⟩ := hel i (by omega)
      obtain ⟨p0, a0, -, b0⟩ := DataW.trod_int Tryz.underlying3 h2
      subst a0
      obtain ⟨_, _, hc⟩ := World.cells?_some h1
      simp only [Addr.add_add] at hc
      exact ⟨p0, by simpa using hc 0 (by simp)⟩
    obtain ⟨Y, hY⟩ := choose_lt each
    have hlen2 : ((List.range len).map Y).length = len := by simp
    have hget : ∀ i, i < len → ((List.range len).map Y).getD i 0 = Y i := fun i hi => by simp [hi]
    have hadr : ∀ i, i < len → a.add (i * 1) = ⟨a.block, a.off + i, none⟩ := fun i hi => by
      obtain ⟨e1, _⟩ := spot_of (hY 0 (by omega))
      rw [e1, add_plain]
      simp only [Addr.mk.injEq, true_and, and_true]
      omega
    refine ⟨(List.range len).map Y, some a, cap, a.block, a.off, by rw [hlen2], by rw [hlen2]; exact hl, hm, ?_, ?_⟩
    · rw [hlen2]; intro hp
      obtain ⟨e1, e2⟩ := spot_of (hY 0 hp)
      exact ⟨congrArg some e1, e2⟩
    · rw [hlen2]; intro i hi; rw [hget i hi, ← hadr i hi]; exact hY i hi
set_option maxRecDepth 100000 in
theorem open_ens {fuel : Nat} {v : Value} {x : DataW H × List MemPlace} (h : DataW.trod enc Tryz.prog w 0 spare held fuel 27 [v] = some x) : ∃ xs, EnIn (· < w.heap.size) w v xs := by
  rcases open_slice Tryz.underlying27 h with ⟨e, _⟩ | ⟨a, len, cap, m, n, D, Pl, e, _, hl, hm, hmm, _, hel⟩
  · simp at e
    exact ⟨[], none, 0, 0, 0, e, by simp, by simp, by simp, by simp, by simp⟩
  · simp at e
    subst e
    have hlm : len ≤ m := by rw [hmm]; split <;> omega
    rw [cellsEn] at hel
    have each : ∀ i, i < len → ∃ y : En, w.cell? (a.add (i * 3)) = some (.int .i64 y.kind) ∧ w.cell? (a.add (i * 3 + 1)) = some (.int .i64 y.id) ∧ w.cell? (a.add (i * 3 + 2)) = some (.int .i64 y.tm) ∧ True := fun i hi => by
      obtain ⟨cs', h1, h2⟩ := hel i (by omega)
      obtain ⟨ys, n', _, _, hcl, hyl, hf⟩ := DataW.trod_struct Tryz.underlying188 h2
      rw [cellsEn] at hcl
      obtain ⟨v0, v1, v2, rfl⟩ := list3 hcl
      have hyl' : ys.length = 3 := hyl
      obtain ⟨y0, y1, y2, rfl⟩ := list3 hyl'
      have g0 := hf 0 _ rfl
      have g1 := hf 1 _ rfl
      have g2 := hf 2 _ rfl
      simp [cellsInt] at g0 g1 g2
      obtain ⟨p0, a0, -, b0⟩ := DataW.trod_int Tryz.underlying3 g0
      obtain ⟨p1, a1, -, b1⟩ := DataW.trod_int Tryz.underlying3 g1
      obtain ⟨p2, a2, -, b2⟩ := DataW.trod_int Tryz.underlying3 g2
      simp only [List.cons.injEq, and_true] at a0 a1 a2
      subst a0 a1 a2
      obtain ⟨_, _, hc⟩ := World.cells?_some h1
      simp only [Addr.add_add] at hc
      exact ⟨⟨p0, p1, p2⟩, by simpa using hc 0 (by omega), by simpa using hc 1 (by omega), by simpa using hc 2 (by omega), trivial⟩
    obtain ⟨Y, hY⟩ := choose_lt each
    have hlen2 : ((List.range len).map (Y)).length = len := by simp
    have hget : ∀ i, i < len → ((List.range len).map (Y)).getD i default = Y i := fun i hi => by simp [hi]
    have hadr : ∀ i o, i < len → a.add (i * 3 + o) = ⟨a.block, a.off + i * 3 + o, none⟩ := fun i o hi => by
      obtain ⟨e1, _⟩ := spot_of (hY 0 (by omega)).1
      rw [e1, add_plain]
      simp only [Addr.mk.injEq, true_and, and_true]
      omega
    refine ⟨(List.range len).map (Y), some a, cap, a.block, a.off, by rw [hlen2], by rw [hlen2]; exact hl, hm, ?_, ?_, ?_⟩
    · intro i hi; trivial
    · rw [hlen2]; intro hp
      obtain ⟨e1, e2⟩ := spot_of (hY 0 hp).1
      exact ⟨congrArg some e1, e2⟩
    · rw [hlen2]; intro i hi; rw [hget i hi]
      refine ⟨?_, ?_, ?_⟩
      · show w.cell? ⟨a.block, a.off + i * 3 + 0, none⟩ = _; rw [← hadr i 0 hi]; exact (hY i hi).1
      · rw [← hadr i 1 hi]; exact (hY i hi).2.1
      · rw [← hadr i 2 hi]; exact (hY i hi).2.2.1
set_option maxRecDepth 100000 in
theorem open_wis {fuel : Nat} {v : Value} {x : DataW H × List MemPlace} (h : DataW.trod enc Tryz.prog w 0 spare held fuel 28 [v] = some x) : ∃ xs, WiIn (· < w.heap.size) w v xs := by
  rcases open_slice Tryz.underlying28 h with ⟨e, _⟩ | ⟨a, len, cap, m, n, D, Pl, e, _, hl, hm, hmm, _, hel⟩
  · simp at e
    exact ⟨[], none, 0, 0, 0, fun _ => default, e, by simp, by simp, by simp, by simp, by simp⟩
  · simp at e
    subst e
    have hlm : len ≤ m := by rw [hmm]; split <;> omega
    rw [cellsWi] at hel
    have each : ∀ i, i < len → ∃ y : Wi × WV, w.cell? (a.add (i * 7)) = some (.int .i64 y.1.tm) ∧ w.cell? (a.add (i * 7 + 1)) = some (.int .i64 y.1.st) ∧ w.cell? (a.add (i * 7 + 2)) = some (.string ⟨y.1.grp.toArray⟩) ∧ w.cell? (a.add (i * 7 + 3)) = some (.string ⟨y.1.url.toArray⟩) ∧ w.cell? (a.add (i * 7 + 4)) = some (y.2.id) ∧ w.cell? (a.add (i * 7 + 5)) = some (.string ⟨y.1.body.toArray⟩) ∧ w.cell? (a.add (i * 7 + 6)) = some (.bool y.1.lost) ∧ WiN (· < w.heap.size) w y.2 y.1 ∧ y.1.grp.length ≤ 9223372036854775807 ∧ y.1.url.length ≤ 9223372036854775807 ∧ y.1.body.length ≤ 9223372036854775807 := fun i hi => by
      obtain ⟨cs', h1, h2⟩ := hel i (by omega)
      obtain ⟨ys, n', _, _, hcl, hyl, hf⟩ := DataW.trod_struct Tryz.underlying179 h2
      rw [cellsWi] at hcl
      obtain ⟨v0, v1, v2, v3, v4, v5, v6, rfl⟩ := list7 hcl
      have hyl' : ys.length = 7 := hyl
      obtain ⟨y0, y1, y2, y3, y4, y5, y6, rfl⟩ := list7 hyl'
      have g0 := hf 0 _ rfl
      have g1 := hf 1 _ rfl
      have g2 := hf 2 _ rfl
      have g3 := hf 3 _ rfl
      have g4 := hf 4 _ rfl
      have g5 := hf 5 _ rfl
      have g6 := hf 6 _ rfl
      simp [cellsInt, cellsStr, cellsInts, cellsBool] at g0 g1 g2 g3 g4 g5 g6
      obtain ⟨p0, a0, -, b0⟩ := DataW.trod_int Tryz.underlying3 g0
      obtain ⟨p1, a1, -, b1⟩ := DataW.trod_int Tryz.underlying3 g1
      obtain ⟨t2, a2, -, b2⟩ := DataW.trod_string Tryz.underlying9 g2
      obtain ⟨t3, a3, -, b3⟩ := DataW.trod_string Tryz.underlying9 g3
      obtain ⟨ns, hns⟩ := open_nums g4
      obtain ⟨t5, a5, -, b5⟩ := DataW.trod_string Tryz.underlying9 g5
      obtain ⟨p6, a6, -⟩ := DataW.trod_bool Tryz.underlying4 g6
      simp only [List.cons.injEq, and_true] at a0 a1 a2 a3 a5 a6
      subst a0 a1 a2 a3 a5 a6
      obtain ⟨_, _, hc⟩ := World.cells?_some h1
      simp only [Addr.add_add] at hc
      exact ⟨(⟨p0, p1, t2.data.toList, t3.data.toList, ns, t5.data.toList, p6⟩, ⟨v4⟩), by simpa using hc 0 (by omega), by simpa using hc 1 (by omega), by simpa using hc 2 (by omega), by simpa using hc 3 (by omega), by simpa using hc 4 (by omega), by simpa using hc 5 (by omega), by simpa using hc 6 (by omega), ⟨hns⟩, bt t2 b2, bt t3 b3, bt t5 b5⟩
    obtain ⟨Y, hY⟩ := choose_lt each
    have hlen2 : ((List.range len).map (fun i => (Y i).1)).length = len := by simp
    have hget : ∀ i, i < len → ((List.range len).map (fun i => (Y i).1)).getD i default = (Y i).1 := fun i hi => by simp [hi]
    have hadr : ∀ i o, i < len → a.add (i * 7 + o) = ⟨a.block, a.off + i * 7 + o, none⟩ := fun i o hi => by
      obtain ⟨e1, _⟩ := spot_of (hY 0 (by omega)).1
      rw [e1, add_plain]
      simp only [Addr.mk.injEq, true_and, and_true]
      omega
    refine ⟨(List.range len).map (fun i => (Y i).1), some a, cap, a.block, a.off, fun i => (Y i).2, by rw [hlen2], by rw [hlen2]; exact hl, hm, ?_, ?_, ?_⟩
    · rw [hlen2]; intro i hi; rw [hget i hi]; exact (hY i hi).2.2.2.2.2.2.2.2
    · rw [hlen2]; intro hp
      obtain ⟨e1, e2⟩ := spot_of (hY 0 hp).1
      exact ⟨congrArg some e1, e2⟩
    · rw [hlen2]; intro i hi; rw [hget i hi]
      refine ⟨?_, ?_, ?_, ?_, ?_, ?_, ?_, (hY i hi).2.2.2.2.2.2.2.1⟩
      · show w.cell? ⟨a.block, a.off + i * 7 + 0, none⟩ = _; rw [← hadr i 0 hi]; exact (hY i hi).1
      · rw [← hadr i 1 hi]; exact (hY i hi).2.1
      · rw [← hadr i 2 hi]; exact (hY i hi).2.2.1
      · rw [← hadr i 3 hi]; exact (hY i hi).2.2.2.1
      · rw [← hadr i 4 hi]; exact (hY i hi).2.2.2.2.1
      · rw [← hadr i 5 hi]; exact (hY i hi).2.2.2.2.2.1
      · rw [← hadr i 6 hi]; exact (hY i hi).2.2.2.2.2.2.1
set_option maxRecDepth 100000 in
theorem open_cns {fuel : Nat} {v : Value} {x : DataW H × List MemPlace} (h : DataW.trod enc Tryz.prog w 0 spare held fuel 22 [v] = some x) : ∃ xs, CnIn (· < w.heap.size) w v xs := by
  rcases open_slice Tryz.underlying22 h with ⟨e, _⟩ | ⟨a, len, cap, m, n, D, Pl, e, _, hl, hm, hmm, _, hel⟩
  · simp at e
    exact ⟨[], none, 0, 0, 0, fun _ => default, e, by simp, by simp, by simp, by simp, by simp⟩
  · simp at e
    subst e
    have hlm : len ≤ m := by rw [hmm]; split <;> omega
    rw [cellsCn] at hel
    have each : ∀ i, i < len → ∃ y : Cn × CV, w.cell? (a.add (i * 6)) = some (.string ⟨y.1.g.name.toArray⟩) ∧ w.cell? (a.add (i * 6 + 1)) = some (.int .i64 y.1.g.age) ∧ w.cell? (a.add (i * 6 + 2)) = some (y.2.tv) ∧ w.cell? (a.add (i * 6 + 3)) = some (y.2.pv) ∧ w.cell? (a.add (i * 6 + 4)) = some (y.2.iv) ∧ w.cell? (a.add (i * 6 + 5)) = some (y.2.rv) ∧ CnN (· < w.heap.size) w y.2 y.1 ∧ y.1.g.name.length ≤ 9223372036854775807 := fun i hi => by
      obtain ⟨cs', h1, h2⟩ := hel i (by omega)
      obtain ⟨ys, n', _, _, hcl, hyl, hf⟩ := DataW.trod_struct Tryz.underlying176 h2
      rw [cellsCn] at hcl
      obtain ⟨v0, v1, v2, v3, v4, v5, rfl⟩ := list6 hcl
      have hyl' : ys.length = 3 := hyl
      obtain ⟨y0, y1, y2, rfl⟩ := list3 hyl'
      have g0 := hf 0 _ rfl
      have g1 := hf 1 _ rfl
      have g2 := hf 2 _ rfl
      simp [cellsGp, cellsPrs, cellsQ] at g0 g1 g2
      obtain ⟨zs, n2, _, _, hcl2, hzl, hf2⟩ := DataW.trod_struct Tryz.underlying170 g0
      have hzl' : zs.length = 3 := hzl
      obtain ⟨z0, z1, z2, rfl⟩ := list3 hzl'
      have k0 := hf2 0 _ rfl
      have k1 := hf2 1 _ rfl
      have k2 := hf2 2 _ rfl
      simp [cellsStr, cellsInt, cellsTgs] at k0 k1 k2
      obtain ⟨us', n3, _, _, hcl3, hul, hf3⟩ := DataW.trod_struct Tryz.underlying174 g2
      have hul' : us'.length = 2 := hul
      obtain ⟨u0, u1, rfl⟩ := list2 hul'
      have l0 := hf3 0 _ rfl
      have l1 := hf3 1 _ rfl
      simp [cellsReps, cellsTxts] at l0 l1
      obtain ⟨t0, a0, -, b0⟩ := DataW.trod_string Tryz.underlying9 k0
      obtain ⟨p1, a1, -, b1⟩ := DataW.trod_int Tryz.underlying3 k1
      obtain ⟨ts, hts⟩ := open_tgs k2
      obtain ⟨ps, hps⟩ := open_prs g1
      obtain ⟨rs, hrs⟩ := open_reps l0
      obtain ⟨us, hus⟩ := open_txts l1
      simp only [List.cons.injEq, and_true] at a0 a1
      subst a0 a1
      obtain ⟨_, _, hc⟩ := World.cells?_some h1
      simp only [Addr.add_add] at hc
      exact ⟨(⟨⟨t0.data.toList, p1, ts⟩, ps, ⟨rs, us⟩⟩, ⟨v2, v3, v4, v5⟩), by simpa using hc 0 (by omega), by simpa using hc 1 (by omega), by simpa using hc 2 (by omega), by simpa using hc 3 (by omega), by simpa using hc 4 (by omega), by simpa using hc 5 (by omega), ⟨hts, hps, hrs, hus⟩, bt t0 b0⟩
    obtain ⟨Y, hY⟩ := choose_lt each
    have hlen2 : ((List.range len).map (fun i => (Y i).1)).length = len := by simp
    have hget : ∀ i, i < len → ((List.range len).map (fun i => (Y i).1)).getD i default = (Y i).1 := fun i hi => by simp [hi]
    have hadr : ∀ i o, i < len → a.add (i * 6 + o) = ⟨a.block, a.off + i * 6 + o, none⟩ := fun i o hi => by
      obtain ⟨e1, _⟩ := spot_of (hY 0 (by omega)).1
      rw [e1, add_plain]
      simp only [Addr.mk.injEq, true_and, and_true]
      omega
    refine ⟨(List.range len).map (fun i => (Y i).1), some a, cap, a.block, a.off, fun i => (Y i).2, by rw [hlen2], by rw [hlen2]; exact hl, hm, ?_, ?_, ?_⟩
    · rw [hlen2]; intro i hi; rw [hget i hi]; exact (hY i hi).2.2.2.2.2.2.2
    · rw [hlen2]; intro hp
      obtain ⟨e1, e2⟩ := spot_of (hY 0 hp).1
      exact ⟨congrArg some e1, e2⟩
    · rw [hlen2]; intro i hi; rw [hget i hi]
      refine ⟨?_, ?_, ?_, ?_, ?_, ?_, (hY i hi).2.2.2.2.2.2.1⟩
      · show w.cell? ⟨a.block, a.off + i * 6 + 0, none⟩ = _; rw [← hadr i 0 hi]; exact (hY i hi).1
      · rw [← hadr i 1 hi]; exact (hY i hi).2.1
      · rw [← hadr i 2 hi]; exact (hY i hi).2.2.1
      · rw [← hadr i 3 hi]; exact (hY i hi).2.2.2.1
      · rw [← hadr i 4 hi]; exact (hY i hi).2.2.2.2.1
      · rw [← hadr i 5 hi]; exact (hY i hi).2.2.2.2.2.1
set_option maxRecDepth 100000 in
theorem open_pipe {r : Reach} {b0 : Nat} {v : Value} {d : DataW H} {p : List MemPlace} (hv : Value.okWide Tryz.prog w r b0 30 v) (h : DataW.Trod enc Tryz.prog w 0 spare held 30 v d p) :
    ∃ (g : Pp) (u : PV), v = pV8 g u ∧ PpN (· < w.heap.size) w u g ∧ g.pol.rep.length ≤ 9223372036854775807 := by
  obtain ⟨cs, rfl, hsz⟩ := okWide_struct Tryz.underlying30 hv
  obtain ⟨fuel, hf⟩ := h
  obtain ⟨xs, n, _, _, _, hlen, hfs⟩ := DataW.trod_struct Tryz.underlying30 hf
  rw [cellsPp] at hsz
  have hl : cs.toList.length = 8 := by simpa using hsz
  obtain ⟨c0, c1, c2, c3, c4, c5, c6, c7, hcs⟩ := list8 hl
  have hxl : xs.length = 6 := hlen
  obtain ⟨x0, x1, x2, x3, x4, x5, rfl⟩ := list6 hxl
  have e : cs = #[c0, c1, c2, c3, c4, c5, c6, c7] := by rw [← Array.toArray_toList (xs := cs), hcs]
  subst e
  have g0 := hfs 0 _ rfl
  have g1 := hfs 1 _ rfl
  have g2 := hfs 2 _ rfl
  have g3 := hfs 3 _ rfl
  have g4 := hfs 4 _ rfl
  have g5 := hfs 5 _ rfl
  simp [Value.cells, cellsCns, cellsPl, cellsInt, cellsEns, cellsWis] at g0 g1 g2 g3 g4 g5
  obtain ⟨zs, n2, _, _, hcl2, hzl, hf2⟩ := DataW.trod_struct Tryz.underlying26 g1
  have hzl' : zs.length = 3 := hzl
  obtain ⟨z0, z1, z2, rfl⟩ := list3 hzl'
  have k0 := hf2 0 _ rfl
  have k1 := hf2 1 _ rfl
  have k2 := hf2 2 _ rfl
  simp [cellsStr, cellsTxts, cellsRls] at k0 k1 k2
  obtain ⟨ch, hch⟩ := open_cns g0
  obtain ⟨t, a0, -, b0⟩ := DataW.trod_string Tryz.underlying9 k0
  obtain ⟨us, hus⟩ := open_txts k1
  obtain ⟨rs, hrs⟩ := open_rls k2
  obtain ⟨p2, a2, -, b2⟩ := DataW.trod_int Tryz.underlying3 g2
  obtain ⟨p3, a3, -, b3⟩ := DataW.trod_int Tryz.underlying3 g3
  obtain ⟨lg, hlg⟩ := open_ens g4
  obtain ⟨wi, hwi⟩ := open_wis g5
  simp only [List.cons.injEq, and_true] at a0 a2 a3
  subst a0 a2 a3
  exact ⟨⟨ch, ⟨t.data.toList, us, rs⟩, p2, p3, lg, wi⟩, ⟨c0, c2, c3, c6, c7⟩, rfl, ⟨hch, hus, hrs, hlg, hwi⟩, bt t b0⟩
end
end Go.Proofs.YtmaknkbmilcanaaGreatDoor.Pi
namespace Go.Proofs.YtmaknkbmilcanaaGreatDoor.Pi
open Go.RowKit
open Go.Proofs.YtmaknkbmilcanaaGreatDoor.Tx (TxtsIn szT szT_any szR szR_out szR_in szR_add szR_zero ret_i)
open Go.Proofs.YtmaknkbmilcanaaGreatDoor.Gr (Tg Gp TgIn gV szG szG_any)
open Go.Proofs.YtmaknkbmilcanaaGreatDoor.Pe (Pr PrIn szPrs_any)
open Go.Proofs.YtmaknkbmilcanaaGreatDoor.Qu (Rep Q RpIn IntsIn qV szQ szQ_any)
open Go.Proofs.YtmaknkbmilcanaaGreatDoor.Po (Pl RlIn szP_any)
theorem szR_cut (L : Int) (s t : Nat) (_ : 0 ≤ L) : (szR L s = -1 ∧ szR L (s + t) = -1) ∨ (0 ≤ szR L s ∧ szR L s ≤ L ∧ szR L (s + t) = szR (szR L s) t) := by
  by_cases h : (s : Int) ≤ L
  · refine .inr ?_
    rw [szR_in h, szR_add h]
    exact ⟨by omega, by omega, rfl⟩
  · exact .inl ⟨szR_out (by omega), szR_out (by omega)⟩
theorem szR_sgn (L : Int) (s : Nat) (_ : 0 ≤ L) : szR L s = -1 ∨ 0 ≤ szR L s := by
  by_cases h : (s : Int) ≤ L
  · rw [szR_in h]; exact .inr (by omega)
  · exact .inl (szR_out (by omega))
def szW (x : Wi) : Nat := x.grp.length + (x.url.length + (x.ids.length + x.body.length))
def szWs : List Wi → Nat
  | [] => 0
  | r :: rs => szW r + szWs rs
def szC (x : Cn) : Nat := szG x.g + ((x.ps.length + Pe.szP x.ps) + szQ x.q)
def szCs : List Cn → Nat
  | [] => 0
  | r :: rs => szC r + szCs rs
def szPp (p : Pp) : Nat := (p.chs.length + szCs p.chs) + (Po.szP p.pol + (p.log.length + (p.wires.length + szWs p.wires)))
theorem szWs_drop {xs : List Wi} (k : Nat) (hx : k < xs.length) : szWs (xs.drop k) = szW (xs.getD k default) + szWs (xs.drop (k + 1)) := by
  rw [List.drop_eq_getElem_cons hx]; simp [szWs, hx]
theorem szCs_drop {xs : List Cn} (k : Nat) (hx : k < xs.length) : szCs (xs.drop k) = szC (xs.getD k default) + szCs (xs.drop (k + 1)) := by
  rw [List.drop_eq_getElem_cons hx]; simp [szCs, hx]
set_option maxHeartbeats 1000000 in
theorem szIs_any (S : Nat → Prop) (ns : List Int) (v : Value) (L : Int) (w : World) (h : IntsIn S w v ns) (h0 : 0 ≤ L) (h1 : L ≤ 1048576) :
    Calls Tryz.prog 198 #[v, .int .i64 L] w fun e w' => e = .returned (.int .i64 (szR L ns.length)) ∧ Below w.heap.size w w' := by
  obtain ⟨a, cap, b, off, rfl, hcap, hm, hrest⟩ := h
  have hn : ns.length ≤ 9223372036854775807 := by omega
  clear hrest
  by_cases hs : (ns.length : Int) ≤ L
  · have E := Lib.hid (szR_in hs)
    have g1 : decide (L - (ns.length : Int) < 0) = false := by simp; omega
    go_enter Tryz.func198, Tryz.ntmps198
    go_wp2
    go_ret
    exact ⟨ret_i (by rw [E.out]), Below.refl _ _⟩
  · have E := Lib.hid (szR_out (L := L) (s := ns.length) (by omega))
    have g1 : decide (L - (ns.length : Int) < 0) = true := by simp; omega
    go_enter Tryz.func198, Tryz.ntmps198
    go_wp2
    go_ret
    exact ⟨ret_i (by rw [E.out]), Below.refl _ _⟩
set_option maxHeartbeats 1000000 in
theorem szEs_any (S : Nat → Prop) (ns : List En) (v : Value) (L : Int) (w : World) (h : EnIn S w v ns) (h0 : 0 ≤ L) (h1 : L ≤ 1048576) :
    Calls Tryz.prog 59 #[v, .int .i64 L] w fun e w' => e = .returned (.int .i64 (szR L ns.length)) ∧ Below w.heap.size w w' := by
  obtain ⟨a, cap, b, off, rfl, hcap, hm, hrest⟩ := h
  have hn : ns.length ≤ 9223372036854775807 := by omega
  clear hrest
  by_cases hs : (ns.length : Int) ≤ L
  · have E := Lib.hid (szR_in hs)
    have g1 : decide (L - (ns.length : Int) < 0) = false := by simp; omega
    go_enter Tryz.func59, Tryz.ntmps59
    go_wp2
    go_ret
    exact ⟨ret_i (by rw [E.out]), Below.refl _ _⟩
  · have E := Lib.hid (szR_out (L := L) (s := ns.length) (by omega))
    have g1 : decide (L - (ns.length : Int) < 0) = true := by simp; omega
    go_enter Tryz.func59, Tryz.ntmps59
    go_wp2
    go_ret
    exact ⟨ret_i (by rw [E.out]), Below.refl _ _⟩
set_option maxRecDepth 100000 in
set_option maxHeartbeats 2000000 in
theorem szWi_any (B : Nat) (w0 : World) (x : Wi) (u : WV) (h : WiN (· < B) w0 u x) (hl : x.grp.length ≤ 9223372036854775807 ∧ x.url.length ≤ 9223372036854775807 ∧ x.body.length ≤ 9223372036854775807) (L : Int) (W : World) (hb : Below B w0 W) (hB : B ≤ W.heap.size) (h0 : 0 ≤ L) (h1 : L ≤ 1048576) :
    Calls Tryz.prog 122 #[wV x u, .int .i64 L] W fun e w' => e = .returned (.int .i64 (szR L (szW x))) ∧ Below W.heap.size W w' := by
  obtain ⟨t, s, g, l, ns, d, z⟩ := x
  obtain ⟨u_id⟩ := u
  obtain ⟨hi⟩ := h
  obtain ⟨hl0, hl1, hl2⟩ := hl
  simp only at hi hl0 hl1 hl2
  have HB := Lib.hid hb
  have SI := Lib.hid (fun L' W' (h2 : Below B w0 W') h3 h4 => szIs_any (· < B) ns u_id L' W' (hi.blw h2) h3 h4)
  have E := Lib.hid (show szW ⟨t, s, g, l, ns, d, z⟩ = g.length + (l.length + (ns.length + d.length)) from rfl)
  obtain ⟨a1, l1, c1, rfl⟩ := hi.slice
  clear hi hb
  by_cases ha : (g.length : Int) ≤ L
  · have g1 : decide (L - (g.length : Int) < 0) = false := by simp; omega
    by_cases hbb : (l.length : Int) ≤ L - (g.length : Int)
    · have g2 : decide (L - (g.length : Int) - (l.length : Int) < 0) = false := by simp; omega
      have SJ := Lib.hid (fun W' h2 => SI.out (L - (g.length : Int) - (l.length : Int)) W' h2 (by omega) (by omega))
      by_cases hcc : (ns.length : Int) ≤ L - (g.length : Int) - (l.length : Int)
      · rw [szR_in hcc] at SJ
        have g3 : decide (L - (g.length : Int) - (l.length : Int) - (ns.length : Int) < 0) = false := by simp; omega
        by_cases hdd : (d.length : Int) ≤ L - (g.length : Int) - (l.length : Int) - (ns.length : Int)
        · have g4 : decide (L - (g.length : Int) - (l.length : Int) - (ns.length : Int) - (d.length : Int) < 0) = false := by simp; omega
          have F := Lib.hid (show szR L (szW ⟨t, s, g, l, ns, d, z⟩) = L - (g.length : Int) - (l.length : Int) - (ns.length : Int) - (d.length : Int) by rw [E.out, szR_in (by omega)]; omega)
          clear SI
          go_enter Tryz.func122, Tryz.ntmps122
          go_wp2_with fail
          refine (SJ.out _ (HB.out.alloc hB _)).mono ?_
          rintro e w2 ⟨rfl, hb2⟩
          have k0 := (Qu.Hd.new W (.cells #[.int .i64 t, .int .i64 s, .string ⟨g.toArray⟩, .string ⟨l.toArray⟩, .slice a1 l1 c1, .string ⟨d.toArray⟩, .bool z] 179)).blw hb2
          have BF := Lib.hid (show Below W.heap.size W w2 from ((Below.refl _ _).alloc (Nat.le_refl _) _).trans (hb2.mono (by simp)))
          have m2 := cell_of_row w2 W.heap.size 2 _ _ _ k0
          have m3 := cell_of_row w2 W.heap.size 3 _ _ _ k0
          have m5 := cell_of_row w2 W.heap.size 5 _ _ _ k0
          clear hb2 k0
          go_wp2
          go_ret
          exact ⟨ret_i (by rw [F.out]), BF.out⟩
        · have g4 : decide (L - (g.length : Int) - (l.length : Int) - (ns.length : Int) - (d.length : Int) < 0) = true := by simp; omega
          have F := Lib.hid (show szR L (szW ⟨t, s, g, l, ns, d, z⟩) = -1 by rw [E.out, szR_out (by omega)])
          clear SI
          go_enter Tryz.func122, Tryz.ntmps122
          go_wp2_with fail
          refine (SJ.out _ (HB.out.alloc hB _)).mono ?_
          rintro e w2 ⟨rfl, hb2⟩
          have k0 := (Qu.Hd.new W (.cells #[.int .i64 t, .int .i64 s, .string ⟨g.toArray⟩, .string ⟨l.toArray⟩, .slice a1 l1 c1, .string ⟨d.toArray⟩, .bool z] 179)).blw hb2
          have BF := Lib.hid (show Below W.heap.size W w2 from ((Below.refl _ _).alloc (Nat.le_refl _) _).trans (hb2.mono (by simp)))
          have m2 := cell_of_row w2 W.heap.size 2 _ _ _ k0
          have m3 := cell_of_row w2 W.heap.size 3 _ _ _ k0
          have m5 := cell_of_row w2 W.heap.size 5 _ _ _ k0
          clear hb2 k0
          go_wp2
          go_ret
          exact ⟨ret_i (by rw [F.out]), BF.out⟩
      · rw [szR_out (by omega)] at SJ
        have F := Lib.hid (show szR L (szW ⟨t, s, g, l, ns, d, z⟩) = -1 by rw [E.out, szR_out (by omega)])
        clear SI
        go_enter Tryz.func122, Tryz.ntmps122
        go_wp2_with fail
        refine (SJ.out _ (HB.out.alloc hB _)).mono ?_
        rintro e w2 ⟨rfl, hb2⟩
        have k0 := (Qu.Hd.new W (.cells #[.int .i64 t, .int .i64 s, .string ⟨g.toArray⟩, .string ⟨l.toArray⟩, .slice a1 l1 c1, .string ⟨d.toArray⟩, .bool z] 179)).blw hb2
        have BF := Lib.hid (show Below W.heap.size W w2 from ((Below.refl _ _).alloc (Nat.le_refl _) _).trans (hb2.mono (by simp)))
        have m2 := cell_of_row w2 W.heap.size 2 _ _ _ k0
        have m3 := cell_of_row w2 W.heap.size 3 _ _ _ k0
        have m5 := cell_of_row w2 W.heap.size 5 _ _ _ k0
        clear hb2 k0
        go_wp2
        go_ret
        exact ⟨ret_i (by rw [F.out]), BF.out⟩
    · have g2 : decide (L - (g.length : Int) - (l.length : Int) < 0) = true := by simp; omega
      have F := Lib.hid (show szR L (szW ⟨t, s, g, l, ns, d, z⟩) = -1 by rw [E.out, szR_out (by omega)])
      clear SI
      go_enter Tryz.func122, Tryz.ntmps122
      go_wp2
      go_ret
      exact ⟨ret_i (by rw [F.out]), (Below.refl _ _).alloc (Nat.le_refl _) _⟩
  · have g1 : decide (L - (g.length : Int) < 0) = true := by simp; omega
    have F := Lib.hid (show szR L (szW ⟨t, s, g, l, ns, d, z⟩) = -1 by rw [E.out, szR_out (by omega)])
    clear SI
    go_enter Tryz.func122, Tryz.ntmps122
    go_wp2
    go_ret
    exact ⟨ret_i (by rw [F.out]), (Below.refl _ _).alloc (Nat.le_refl _) _⟩
set_option maxRecDepth 100000 in
set_option maxHeartbeats 2000000 in
theorem szWis_any (B : Nat) (w0 : World) (xs : List Wi) (v : Value) (h : WiIn (· < B) w0 v xs) (L : Int) (W : World) (hb : Below B w0 W) (hB : B ≤ W.heap.size) (h0 : 0 ≤ L) (h1 : L ≤ 1048576) :
    Calls Tryz.prog 60 #[v, .int .i64 L] W fun e w' => e = .returned (.int .i64 (szR L (xs.length + szWs xs))) ∧ Below W.heap.size W w' := by
  obtain ⟨a, cap, b, off, us, rfl, hcap, hm, hlen, ha, hc⟩ := h
  have hn : xs.length ≤ 9223372036854775807 := by omega
  have HC := Lib.hid hc
  have HL := Lib.hid hlen
  have HA := Lib.hid ha
  have HB := Lib.hid hb
  clear hc hlen ha hb
  by_cases hs : (xs.length : Int) ≤ L
  · have E := Lib.hid (szR_add (r := szWs xs) hs)
    have g1 : decide (L - (xs.length : Int) < 0) = false := by simp; omega
    go_enter Tryz.func60, Tryz.ntmps60
    go_wp2
    go_loopw [1, 5] (fun l i wr => ∃ (k : Nat) (m : Int), k ≤ xs.length ∧ i = .int .i64 k ∧ l = .int .i64 m ∧ 0 ≤ m ∧ m ≤ L ∧ szR (L - (xs.length : Int)) (szWs xs) = szR m (szWs (xs.drop k)) ∧ Below W.heap.size W wr) (fun _ i _ => xs.length - (intOf i).toNat)
    case atStart => exact ⟨0, _, by omega, rfl, rfl, by omega, by omega, rfl, Below.refl _ _⟩
    case round =>
      obtain ⟨k, m, hk, rfl, rfl, hm0, hm1, hE, hR⟩ := hrel
      have HE := Lib.hid hE
      have hR1 := HB.out.trans (hR.mono hB)
      have hzz := Nat.le_trans hB hR.size
      have HR := Lib.hid hR
      have HR1 := Lib.hid hR1
      clear hE hR hR1
      by_cases hlt : k < xs.length
      · obtain ⟨ea, hlb⟩ := HA.out (by omega)
        subst ea
        obtain ⟨c0, c1, c2, c3, c4, c5, c6, cN⟩ := HC.out k hlt
        have q0 := (HR1.out.cell (p := ⟨b, off + k * 7, none⟩) hlb).trans c0
        have q1 := (HR1.out.cell (p := ⟨b, off + k * 7 + 1, none⟩) hlb).trans c1
        have q2 := (HR1.out.cell (p := ⟨b, off + k * 7 + 2, none⟩) hlb).trans c2
        have q3 := (HR1.out.cell (p := ⟨b, off + k * 7 + 3, none⟩) hlb).trans c3
        have q4 := (HR1.out.cell (p := ⟨b, off + k * 7 + 4, none⟩) hlb).trans c4
        have q5 := (HR1.out.cell (p := ⟨b, off + k * 7 + 5, none⟩) hlb).trans c5
        have q6 := (HR1.out.cell (p := ⟨b, off + k * 7 + 6, none⟩) hlb).trans c6
        have D := Lib.hid (szWs_drop k hlt)
        have HK := Lib.hid (szWi_any B w0 (xs.getD k default) (us k) cN (HL.out k hlt) m wr HR1.out hzz hm0 (by omega))
        clear c0 c1 c2 c3 c4 c5 c6
        generalize us k = u at *
        generalize xs.getD k default = x at *
        obtain ⟨u_id⟩ := u
        obtain ⟨_, _, _, rfl⟩ : ∃ a l c, u_id = .slice a l c := cN.id.slice
        clear cN
        obtain ⟨r, hr⟩ : ∃ r, szR m (szW x) = r := ⟨_, rfl⟩
        have F := Lib.hid hr
        rw [hr] at HK
        clear hr
        go_wp2_with fail
        refine HK.out.mono ?_
        rintro e w2 ⟨rfl, hb2⟩
        have hR3 : Below W.heap.size W w2 := Po.belI_step HR.out hb2
        by_cases hx : m < (szW x : Int)
        · have g2 : decide (r < 0) = true := by rw [← F.out, szR_out hx]; rfl
          have G := Lib.hid (szR_out (L := m) (s := szW x + szWs (xs.drop (k + 1))) (by omega))
          clear hx
          go_wp2
          go_ret
          exact ⟨ret_i (by rw [E.out, HE.out, D.out, G.out]), hR3⟩
        · have hr2 : r = m - szW x := by rw [← F.out, szR_in (by omega)]
          have g2 : decide (r < 0) = false := by rw [hr2]; simp; omega
          have G := Lib.hid (szR_add (r := szWs (xs.drop (k + 1))) (show (szW x : Int) ≤ m by omega))
          have hr0 : 0 ≤ r ∧ r ≤ L := by omega
          rw [← hr2] at G
          clear hx hr2
          go_wp2
          go_roundw
          case rel => exact ⟨k + 1, r, by omega, by go_num, rfl, hr0.1, hr0.2, by rw [HE.out, D.out, G.out], hR3⟩
          case measure => simp [intOf]; omega
      · go_wp2
        go_ret
        obtain rfl : k = xs.length := by omega
        exact ⟨ret_i (by rw [E.out, HE.out, List.drop_length]; exact (szR_zero hm0).symm), HR.out⟩
  · have E := Lib.hid (szR_out (L := L) (s := xs.length + szWs xs) (by omega))
    have g1 : decide (L - (xs.length : Int) < 0) = true := by simp; omega
    go_enter Tryz.func60, Tryz.ntmps60
    go_wp2
    go_ret
    exact ⟨ret_i (by rw [E.out]), Below.refl _ _⟩
set_option maxRecDepth 100000 in
set_option maxHeartbeats 2000000 in
theorem szCn_any (B : Nat) (w0 : World) (x : Cn) (u : CV) (h : CnN (· < B) w0 u x) (hn : x.g.name.length ≤ 9223372036854775807) (L : Int) (W : World) (hb : Below B w0 W) (hB : B ≤ W.heap.size) (h0 : 0 ≤ L) (h1 : L ≤ 1048576) :
    Calls Tryz.prog 119 #[cV x u, .int .i64 L] W fun e w' => e = .returned (.int .i64 (szR L (szC x))) ∧ Below W.heap.size W w' := by
  obtain ⟨⟨nm, ag, ts⟩, ps, ⟨rs, bs⟩⟩ := x
  obtain ⟨u_tv, u_pv, u_iv, u_rv⟩ := u
  obtain ⟨ht, hp, hi, hr⟩ := h
  simp only at ht hp hi hr hn
  obtain ⟨a1, l1, c1, rfl⟩ := ht.slice
  obtain ⟨a2, l2, c2, rfl⟩ := hp.slice
  obtain ⟨a3, l3, c3, rfl⟩ := hi.slice
  obtain ⟨a4, l4, c4, rfl⟩ := hr.slice
  have HB := Lib.hid hb
  clear hb
  obtain ⟨r0, hr0⟩ : ∃ r, szR L (szG ⟨nm, ag, ts⟩) = r := ⟨_, rfl⟩
  have S0 := Lib.hid (show ∀ W' (_ : Below B w0 W') (_ : B ≤ W'.heap.size), Calls Tryz.prog 194 #[gV ⟨nm, ag, ts⟩ (.slice a1 l1 c1), .int .i64 L] W' (fun e w' => e = .returned (.int .i64 r0) ∧ Below W'.heap.size W' w') from fun W' h2 h3 => by subst hr0; exact szG_any B w0 ⟨nm, ag, ts⟩ (.slice a1 l1 c1) ht hn L W' h2 h3 h0 h1)
  rcases szR_cut L (szG ⟨nm, ag, ts⟩) (ps.length + Pe.szP ps + (szQ ⟨rs, bs⟩)) h0 with ⟨c1, c2⟩ | ⟨c1, c2, c3⟩
  · rw [hr0] at c1
    have E := Lib.hid (show szR L (szC ⟨⟨nm, ag, ts⟩, ps, ⟨rs, bs⟩⟩) = -1 from c2)
    clear c2 hr0
    subst c1
    go_enter Tryz.func119, Tryz.ntmps119
    go_wp2_with fail
    refine (S0.out _ (HB.out.alloc hB _) (by simp; omega)).mono ?_
    rintro e v0 ⟨rfl, hb2⟩
    have K0 := Lib.hid ((Qu.Hd.new W (.cells #[.string ⟨nm.toArray⟩, .int .i64 ag, .slice a1 l1 c1, .slice a2 l2 c2, .slice a3 l3 c3, .slice a4 l4 c4] 176)).blw hb2)
    have B0 := Lib.hid (show Below W.heap.size W v0 from ((Below.refl _ _).alloc (Nat.le_refl _) _).trans (hb2.mono (by simp)))
    clear hb2
    go_wp2
    go_ret
    exact ⟨ret_i (by rw [E.out]), B0.out⟩
  · rw [hr0] at c1 c2 c3
    have p0 := c1
    have q0 : r0 ≤ L := c2
    have g0 : decide (r0 < 0) = false := by simp; omega
    have e1 : szR L (szC ⟨⟨nm, ag, ts⟩, ps, ⟨rs, bs⟩⟩) = _ := c3
    clear c1 c2 c3 hr0
    obtain ⟨r1, hr1⟩ : ∃ r, szR r0 (ps.length + Pe.szP ps) = r := ⟨_, rfl⟩
    have S1 := Lib.hid (show ∀ W' (_ : Below B w0 W') (_ : B ≤ W'.heap.size), Calls Tryz.prog 195 #[.slice a2 l2 c2, .int .i64 r0] W' (fun e w' => e = .returned (.int .i64 r1) ∧ Below W'.heap.size W' w') from fun W' h2 h3 => by subst hr1; exact szPrs_any B w0 ps (.slice a2 l2 c2) hp r0 W' h2 h3 p0 (by omega))
    rcases szR_cut r0 (ps.length + Pe.szP ps) (szQ ⟨rs, bs⟩) p0 with ⟨c1, c2⟩ | ⟨c1, c2, c3⟩
    · rw [hr1] at c1
      have E := Lib.hid (show szR L (szC ⟨⟨nm, ag, ts⟩, ps, ⟨rs, bs⟩⟩) = -1 from e1.trans c2)
      clear c2 hr1 e1
      subst c1
      go_enter Tryz.func119, Tryz.ntmps119
      go_wp2_with fail
      refine (S0.out _ (HB.out.alloc hB _) (by simp; omega)).mono ?_
      rintro e v0 ⟨rfl, hb2⟩
      have K0 := Lib.hid ((Qu.Hd.new W (.cells #[.string ⟨nm.toArray⟩, .int .i64 ag, .slice a1 l1 c1, .slice a2 l2 c2, .slice a3 l3 c3, .slice a4 l4 c4] 176)).blw hb2)
      have B0 := Lib.hid (show Below W.heap.size W v0 from ((Below.refl _ _).alloc (Nat.le_refl _) _).trans (hb2.mono (by simp)))
      clear hb2
      have kk := K0.out
      have m0_0 := cell_of_row v0 W.heap.size 0 _ _ _ kk
      have m0_1 := cell_of_row v0 W.heap.size 1 _ _ _ kk
      have m0_2 := cell_of_row v0 W.heap.size 2 _ _ _ kk
      have m0_3 := cell_of_row v0 W.heap.size 3 _ _ _ kk
      have m0_4 := cell_of_row v0 W.heap.size 4 _ _ _ kk
      have m0_5 := cell_of_row v0 W.heap.size 5 _ _ _ kk
      clear kk
      go_wp2_with fail
      refine (S1.out _ (HB.out.trans (B0.out.mono hB)) (Nat.le_trans hB B0.out.size)).mono ?_
      rintro e v1 ⟨rfl, hb2⟩
      have K1 := Lib.hid (K0.out.blw hb2)
      have B1 := Lib.hid (Po.belI_step B0.out hb2)
      clear hb2
      go_wp2
      go_ret
      exact ⟨ret_i (by rw [E.out]), B1.out⟩
    · rw [hr1] at c1 c2 c3
      have p1 := c1
      have q1 : r1 ≤ L := Int.le_trans c2 q0
      have g1 : decide (r1 < 0) = false := by simp; omega
      have e2 : szR L (szC ⟨⟨nm, ag, ts⟩, ps, ⟨rs, bs⟩⟩) = _ := e1.trans c3
      clear c1 c2 c3 hr1 e1
      obtain ⟨r2, hr2⟩ : ∃ r, szR r1 (szQ ⟨rs, bs⟩) = r := ⟨_, rfl⟩
      have S2 := Lib.hid (show ∀ W' (_ : Below B w0 W') (_ : B ≤ W'.heap.size), Calls Tryz.prog 196 #[qV (.slice a3 l3 c3) (.slice a4 l4 c4), .int .i64 r1] W' (fun e w' => e = .returned (.int .i64 r2) ∧ Below W'.heap.size W' w') from fun W' h2 h3 => by subst hr2; exact szQ_any B w0 ⟨rs, bs⟩ (.slice a3 l3 c3) (.slice a4 l4 c4) hi hr r1 W' h2 h3 p1 (by omega))
      rcases szR_sgn r1 (szQ ⟨rs, bs⟩) p1 with c1 | c1
      · rw [hr2] at c1
        have E := Lib.hid (show szR L (szC ⟨⟨nm, ag, ts⟩, ps, ⟨rs, bs⟩⟩) = -1 from e2.trans (hr2.trans c1))
        clear hr2 e2
        subst c1
        go_enter Tryz.func119, Tryz.ntmps119
        go_wp2_with fail
        refine (S0.out _ (HB.out.alloc hB _) (by simp; omega)).mono ?_
        rintro e v0 ⟨rfl, hb2⟩
        have K0 := Lib.hid ((Qu.Hd.new W (.cells #[.string ⟨nm.toArray⟩, .int .i64 ag, .slice a1 l1 c1, .slice a2 l2 c2, .slice a3 l3 c3, .slice a4 l4 c4] 176)).blw hb2)
        have B0 := Lib.hid (show Below W.heap.size W v0 from ((Below.refl _ _).alloc (Nat.le_refl _) _).trans (hb2.mono (by simp)))
        clear hb2
        have kk := K0.out
        have m0_0 := cell_of_row v0 W.heap.size 0 _ _ _ kk
        have m0_1 := cell_of_row v0 W.heap.size 1 _ _ _ kk
        have m0_2 := cell_of_row v0 W.heap.size 2 _ _ _ kk
        have m0_3 := cell_of_row v0 W.heap.size 3 _ _ _ kk
        have m0_4 := cell_of_row v0 W.heap.size 4 _ _ _ kk
        have m0_5 := cell_of_row v0 W.heap.size 5 _ _ _ kk
        clear kk
        go_wp2_with fail
        refine (S1.out _ (HB.out.trans (B0.out.mono hB)) (Nat.le_trans hB B0.out.size)).mono ?_
        rintro e v1 ⟨rfl, hb2⟩
        have K1 := Lib.hid (K0.out.blw hb2)
        have B1 := Lib.hid (Po.belI_step B0.out hb2)
        clear hb2
        have kk := K1.out
        have m1_0 := cell_of_row v1 W.heap.size 0 _ _ _ kk
        have m1_1 := cell_of_row v1 W.heap.size 1 _ _ _ kk
        have m1_2 := cell_of_row v1 W.heap.size 2 _ _ _ kk
        have m1_3 := cell_of_row v1 W.heap.size 3 _ _ _ kk
        have m1_4 := cell_of_row v1 W.heap.size 4 _ _ _ kk
        have m1_5 := cell_of_row v1 W.heap.size 5 _ _ _ kk
        clear kk
        go_wp2_with fail
        refine (S2.out _ (HB.out.trans (B1.out.mono hB)) (Nat.le_trans hB B1.out.size)).mono ?_
        rintro e v2 ⟨rfl, hb2⟩
        have K2 := Lib.hid (K1.out.blw hb2)
        have B2 := Lib.hid (Po.belI_step B1.out hb2)
        clear hb2
        go_wp2
        go_ret
        exact ⟨ret_i (by rw [E.out]), B2.out⟩
      · rw [hr2] at c1
        have E := Lib.hid (show szR L (szC ⟨⟨nm, ag, ts⟩, ps, ⟨rs, bs⟩⟩) = r2 from e2.trans hr2)
        clear hr2 e2
        have g2 : decide (r2 < 0) = false := by simp; omega
        clear c1
        go_enter Tryz.func119, Tryz.ntmps119
        go_wp2_with fail
        refine (S0.out _ (HB.out.alloc hB _) (by simp; omega)).mono ?_
        rintro e v0 ⟨rfl, hb2⟩
        have K0 := Lib.hid ((Qu.Hd.new W (.cells #[.string ⟨nm.toArray⟩, .int .i64 ag, .slice a1 l1 c1, .slice a2 l2 c2, .slice a3 l3 c3, .slice a4 l4 c4] 176)).blw hb2)
        have B0 := Lib.hid (show Below W.heap.size W v0 from ((Below.refl _ _).alloc (Nat.le_refl _) _).trans (hb2.mono (by simp)))
        clear hb2
        have kk := K0.out
        have m0_0 := cell_of_row v0 W.heap.size 0 _ _ _ kk
        have m0_1 := cell_of_row v0 W.heap.size 1 _ _ _ kk
        have m0_2 := cell_of_row v0 W.heap.size 2 _ _ _ kk
        have m0_3 := cell_of_row v0 W.heap.size 3 _ _ _ kk
        have m0_4 := cell_of_row v0 W.heap.size 4 _ _ _ kk
        have m0_5 := cell_of_row v0 W.heap.size 5 _ _ _ kk
        clear kk
        go_wp2_with fail
        refine (S1.out _ (HB.out.trans (B0.out.mono hB)) (Nat.le_trans hB B0.out.size)).mono ?_
        rintro e v1 ⟨rfl, hb2⟩
        have K1 := Lib.hid (K0.out.blw hb2)
        have B1 := Lib.hid (Po.belI_step B0.out hb2)
        clear hb2
        have kk := K1.out
        have m1_0 := cell_of_row v1 W.heap.size 0 _ _ _ kk
        have m1_1 := cell_of_row v1 W.heap.size 1 _ _ _ kk
        have m1_2 := cell_of_row v1 W.heap.size 2 _ _ _ kk
        have m1_3 := cell_of_row v1 W.heap.size 3 _ _ _ kk
        have m1_4 := cell_of_row v1 W.heap.size 4 _ _ _ kk
        have m1_5 := cell_of_row v1 W.heap.size 5 _ _ _ kk
        clear kk
        go_wp2_with fail
        refine (S2.out _ (HB.out.trans (B1.out.mono hB)) (Nat.le_trans hB B1.out.size)).mono ?_
        rintro e v2 ⟨rfl, hb2⟩
        have K2 := Lib.hid (K1.out.blw hb2)
        have B2 := Lib.hid (Po.belI_step B1.out hb2)
        clear hb2
        go_wp2
        go_ret
        exact ⟨ret_i (by rw [E.out]), B2.out⟩
set_option maxRecDepth 100000 in
set_option maxHeartbeats 2000000 in
theorem szCns_any (B : Nat) (w0 : World) (xs : List Cn) (v : Value) (h : CnIn (· < B) w0 v xs) (L : Int) (W : World) (hb : Below B w0 W) (hB : B ≤ W.heap.size) (h0 : 0 ≤ L) (h1 : L ≤ 1048576) :
    Calls Tryz.prog 57 #[v, .int .i64 L] W fun e w' => e = .returned (.int .i64 (szR L (xs.length + szCs xs))) ∧ Below W.heap.size W w' := by
  obtain ⟨a, cap, b, off, us, rfl, hcap, hm, hlen, ha, hc⟩ := h
  have hn : xs.length ≤ 9223372036854775807 := by omega
  have HC := Lib.hid hc
  have HL := Lib.hid hlen
  have HA := Lib.hid ha
  have HB := Lib.hid hb
  clear hc hlen ha hb
  by_cases hs : (xs.length : Int) ≤ L
  · have E := Lib.hid (szR_add (r := szCs xs) hs)
    have g1 : decide (L - (xs.length : Int) < 0) = false := by simp; omega
    go_enter Tryz.func57, Tryz.ntmps57
    go_wp2
    go_loopw [1, 5] (fun l i wr => ∃ (k : Nat) (m : Int), k ≤ xs.length ∧ i = .int .i64 k ∧ l = .int .i64 m ∧ 0 ≤ m ∧ m ≤ L ∧ szR (L - (xs.length : Int)) (szCs xs) = szR m (szCs (xs.drop k)) ∧ Below W.heap.size W wr) (fun _ i _ => xs.length - (intOf i).toNat)
    case atStart => exact ⟨0, _, by omega, rfl, rfl, by omega, by omega, rfl, Below.refl _ _⟩
    case round =>
      obtain ⟨k, m, hk, rfl, rfl, hm0, hm1, hE, hR⟩ := hrel
      have HE := Lib.hid hE
      have hR1 := HB.out.trans (hR.mono hB)
      have hzz := Nat.le_trans hB hR.size
      have HR := Lib.hid hR
      have HR1 := Lib.hid hR1
      clear hE hR hR1
      by_cases hlt : k < xs.length
      · obtain ⟨ea, hlb⟩ := HA.out (by omega)
        subst ea
        obtain ⟨c0, c1, c2, c3, c4, c5, cN⟩ := HC.out k hlt
        have q0 := (HR1.out.cell (p := ⟨b, off + k * 6, none⟩) hlb).trans c0
        have q1 := (HR1.out.cell (p := ⟨b, off + k * 6 + 1, none⟩) hlb).trans c1
        have q2 := (HR1.out.cell (p := ⟨b, off + k * 6 + 2, none⟩) hlb).trans c2
        have q3 := (HR1.out.cell (p := ⟨b, off + k * 6 + 3, none⟩) hlb).trans c3
        have q4 := (HR1.out.cell (p := ⟨b, off + k * 6 + 4, none⟩) hlb).trans c4
        have q5 := (HR1.out.cell (p := ⟨b, off + k * 6 + 5, none⟩) hlb).trans c5
        have D := Lib.hid (szCs_drop k hlt)
        have HK := Lib.hid (szCn_any B w0 (xs.getD k default) (us k) cN (HL.out k hlt) m wr HR1.out hzz hm0 (by omega))
        clear c0 c1 c2 c3 c4 c5
        generalize us k = u at *
        generalize xs.getD k default = x at *
        obtain ⟨u_tv, u_pv, u_iv, u_rv⟩ := u
        obtain ⟨_, _, _, rfl⟩ : ∃ a l c, u_tv = .slice a l c := cN.tv.slice
        obtain ⟨_, _, _, rfl⟩ : ∃ a l c, u_pv = .slice a l c := cN.pv.slice
        obtain ⟨_, _, _, rfl⟩ : ∃ a l c, u_iv = .slice a l c := cN.iv.slice
        obtain ⟨_, _, _, rfl⟩ : ∃ a l c, u_rv = .slice a l c := cN.rv.slice
        clear cN
        obtain ⟨r, hr⟩ : ∃ r, szR m (szC x) = r := ⟨_, rfl⟩
        have F := Lib.hid hr
        rw [hr] at HK
        clear hr
        go_wp2_with fail
        refine HK.out.mono ?_
        rintro e w2 ⟨rfl, hb2⟩
        have hR3 : Below W.heap.size W w2 := Po.belI_step HR.out hb2
        by_cases hx : m < (szC x : Int)
        · have g2 : decide (r < 0) = true := by rw [← F.out, szR_out hx]; rfl
          have G := Lib.hid (szR_out (L := m) (s := szC x + szCs (xs.drop (k + 1))) (by omega))
          clear hx
          go_wp2
          go_ret
          exact ⟨ret_i (by rw [E.out, HE.out, D.out, G.out]), hR3⟩
        · have hr2 : r = m - szC x := by rw [← F.out, szR_in (by omega)]
          have g2 : decide (r < 0) = false := by rw [hr2]; simp; omega
          have G := Lib.hid (szR_add (r := szCs (xs.drop (k + 1))) (show (szC x : Int) ≤ m by omega))
          have hr0 : 0 ≤ r ∧ r ≤ L := by omega
          rw [← hr2] at G
          clear hx hr2
          go_wp2
          go_roundw
          case rel => exact ⟨k + 1, r, by omega, by go_num, rfl, hr0.1, hr0.2, by rw [HE.out, D.out, G.out], hR3⟩
          case measure => simp [intOf]; omega
      · go_wp2
        go_ret
        obtain rfl : k = xs.length := by omega
        exact ⟨ret_i (by rw [E.out, HE.out, List.drop_length]; exact (szR_zero hm0).symm), HR.out⟩
  · have E := Lib.hid (szR_out (L := L) (s := xs.length + szCs xs) (by omega))
    have g1 : decide (L - (xs.length : Int) < 0) = true := by simp; omega
    go_enter Tryz.func57, Tryz.ntmps57
    go_wp2
    go_ret
    exact ⟨ret_i (by rw [E.out]), Below.refl _ _⟩
set_option maxRecDepth 100000 in
set_option maxHeartbeats 2000000 in
theorem szPp_any (B : Nat) (w0 : World) (p : Pp) (u : PV) (h : PpN (· < B) w0 u p) (hn : p.pol.rep.length ≤ 9223372036854775807) (L : Int) (W : World) (hb : Below B w0 W) (hB : B ≤ W.heap.size) (h0 : 0 ≤ L) (h1 : L ≤ 1048576) :
    Calls Tryz.prog 14 #[pV8 p u, .int .i64 L] W fun e w' => e = .returned (.int .i64 (szR L (szPp p))) ∧ Below W.heap.size W w' := by
  obtain ⟨chs, ⟨rp, uris, rules⟩, now, next, log, ws⟩ := p
  obtain ⟨u_cv, u_uv, u_rv, u_lv, u_wv⟩ := u
  obtain ⟨hcv, huv, hrv, hlv, hwv⟩ := h
  simp only at hcv huv hrv hlv hwv hn
  obtain ⟨a1, l1, c1, rfl⟩ := hcv.slice
  obtain ⟨a2, l2, c2, rfl⟩ := huv.slice
  obtain ⟨a3, l3, c3, rfl⟩ := hrv.slice
  obtain ⟨a4, l4, c4, rfl⟩ := hlv.slice
  obtain ⟨a5, l5, c5, rfl⟩ := hwv.slice
  have HB := Lib.hid hb
  clear hb
  obtain ⟨r0, hr0⟩ : ∃ r, szR L (chs.length + szCs chs) = r := ⟨_, rfl⟩
  have S0 := Lib.hid (show ∀ W' (_ : Below B w0 W') (_ : B ≤ W'.heap.size), Calls Tryz.prog 57 #[.slice a1 l1 c1, .int .i64 L] W' (fun e w' => e = .returned (.int .i64 r0) ∧ Below W'.heap.size W' w') from fun W' h2 h3 => by subst hr0; exact szCns_any B w0 chs (.slice a1 l1 c1) hcv L W' h2 h3 h0 h1)
  rcases szR_cut L (chs.length + szCs chs) (Po.szP ⟨rp, uris, rules⟩ + (log.length + (ws.length + szWs ws))) h0 with ⟨c1, c2⟩ | ⟨c1, c2, c3⟩
  · rw [hr0] at c1
    have E := Lib.hid (show szR L (szPp ⟨chs, ⟨rp, uris, rules⟩, now, next, log, ws⟩) = -1 from c2)
    clear c2 hr0
    subst c1
    go_enter Tryz.func14, Tryz.ntmps14
    go_wp2_with fail
    refine (S0.out _ (HB.out.alloc hB _) (by simp; omega)).mono ?_
    rintro e v0 ⟨rfl, hb2⟩
    have K0 := Lib.hid ((Qu.Hd.new W (.cells #[.slice a1 l1 c1, .string ⟨rp.toArray⟩, .slice a2 l2 c2, .slice a3 l3 c3, .int .i64 now, .int .i64 next, .slice a4 l4 c4, .slice a5 l5 c5] 30)).blw hb2)
    have B0 := Lib.hid (show Below W.heap.size W v0 from ((Below.refl _ _).alloc (Nat.le_refl _) _).trans (hb2.mono (by simp)))
    clear hb2
    go_wp2
    go_ret
    exact ⟨ret_i (by rw [E.out]), B0.out⟩
  · rw [hr0] at c1 c2 c3
    have p0 := c1
    have q0 : r0 ≤ L := c2
    have g0 : decide (r0 < 0) = false := by simp; omega
    have e1 : szR L (szPp ⟨chs, ⟨rp, uris, rules⟩, now, next, log, ws⟩) = _ := c3
    clear c1 c2 c3 hr0
    obtain ⟨r1, hr1⟩ : ∃ r, szR r0 (Po.szP ⟨rp, uris, rules⟩) = r := ⟨_, rfl⟩
    have S1 := Lib.hid (show ∀ W' (_ : Below B w0 W') (_ : B ≤ W'.heap.size), Calls Tryz.prog 58 #[Po.pV ⟨rp, uris, rules⟩ (.slice a2 l2 c2) (.slice a3 l3 c3), .int .i64 r0] W' (fun e w' => e = .returned (.int .i64 r1) ∧ Below W'.heap.size W' w') from fun W' h2 h3 => by subst hr1; exact szP_any B w0 ⟨rp, uris, rules⟩ (.slice a2 l2 c2) (.slice a3 l3 c3) huv hrv hn r0 W' h2 h3 p0 (by omega))
    rcases szR_cut r0 (Po.szP ⟨rp, uris, rules⟩) (log.length + (ws.length + szWs ws)) p0 with ⟨c1, c2⟩ | ⟨c1, c2, c3⟩
    · rw [hr1] at c1
      have E := Lib.hid (show szR L (szPp ⟨chs, ⟨rp, uris, rules⟩, now, next, log, ws⟩) = -1 from e1.trans c2)
      clear c2 hr1 e1
      subst c1
      go_enter Tryz.func14, Tryz.ntmps14
      go_wp2_with fail
      refine (S0.out _ (HB.out.alloc hB _) (by simp; omega)).mono ?_
      rintro e v0 ⟨rfl, hb2⟩
      have K0 := Lib.hid ((Qu.Hd.new W (.cells #[.slice a1 l1 c1, .string ⟨rp.toArray⟩, .slice a2 l2 c2, .slice a3 l3 c3, .int .i64 now, .int .i64 next, .slice a4 l4 c4, .slice a5 l5 c5] 30)).blw hb2)
      have B0 := Lib.hid (show Below W.heap.size W v0 from ((Below.refl _ _).alloc (Nat.le_refl _) _).trans (hb2.mono (by simp)))
      clear hb2
      have kk := K0.out
      have m0_0 := cell_of_row v0 W.heap.size 0 _ _ _ kk
      have m0_1 := cell_of_row v0 W.heap.size 1 _ _ _ kk
      have m0_2 := cell_of_row v0 W.heap.size 2 _ _ _ kk
      have m0_3 := cell_of_row v0 W.heap.size 3 _ _ _ kk
      have m0_4 := cell_of_row v0 W.heap.size 4 _ _ _ kk
      have m0_5 := cell_of_row v0 W.heap.size 5 _ _ _ kk
      have m0_6 := cell_of_row v0 W.heap.size 6 _ _ _ kk
      have m0_7 := cell_of_row v0 W.heap.size 7 _ _ _ kk
      clear kk
      go_wp2_with fail
      refine (S1.out _ (HB.out.trans (B0.out.mono hB)) (Nat.le_trans hB B0.out.size)).mono ?_
      rintro e v1 ⟨rfl, hb2⟩
      have K1 := Lib.hid (K0.out.blw hb2)
      have B1 := Lib.hid (Po.belI_step B0.out hb2)
      clear hb2
      go_wp2
      go_ret
      exact ⟨ret_i (by rw [E.out]), B1.out⟩
    · rw [hr1] at c1 c2 c3
      have p1 := c1
      have q1 : r1 ≤ L := Int.le_trans c2 q0
      have g1 : decide (r1 < 0) = false := by simp; omega
      have e2 : szR L (szPp ⟨chs, ⟨rp, uris, rules⟩, now, next, log, ws⟩) = _ := e1.trans c3
      clear c1 c2 c3 hr1 e1
      obtain ⟨r2, hr2⟩ : ∃ r, szR r1 (log.length) = r := ⟨_, rfl⟩
      have S2 := Lib.hid (show ∀ W' (_ : Below B w0 W') (_ : B ≤ W'.heap.size), Calls Tryz.prog 59 #[.slice a4 l4 c4, .int .i64 r1] W' (fun e w' => e = .returned (.int .i64 r2) ∧ Below W'.heap.size W' w') from fun W' h2 h3 => by subst hr2; exact szEs_any (· < B) log (.slice a4 l4 c4) r1 W' (hlv.blw h2) p1 (by omega))
      rcases szR_cut r1 (log.length) (ws.length + szWs ws) p1 with ⟨c1, c2⟩ | ⟨c1, c2, c3⟩
      · rw [hr2] at c1
        have E := Lib.hid (show szR L (szPp ⟨chs, ⟨rp, uris, rules⟩, now, next, log, ws⟩) = -1 from e2.trans c2)
        clear c2 hr2 e2
        subst c1
        go_enter Tryz.func14, Tryz.ntmps14
        go_wp2_with fail
        refine (S0.out _ (HB.out.alloc hB _) (by simp; omega)).mono ?_
        rintro e v0 ⟨rfl, hb2⟩
        have K0 := Lib.hid ((Qu.Hd.new W (.cells #[.slice a1 l1 c1, .string ⟨rp.toArray⟩, .slice a2 l2 c2, .slice a3 l3 c3, .int .i64 now, .int .i64 next, .slice a4 l4 c4, .slice a5 l5 c5] 30)).blw hb2)
        have B0 := Lib.hid (show Below W.heap.size W v0 from ((Below.refl _ _).alloc (Nat.le_refl _) _).trans (hb2.mono (by simp)))
        clear hb2
        have kk := K0.out
        have m0_0 := cell_of_row v0 W.heap.size 0 _ _ _ kk
        have m0_1 := cell_of_row v0 W.heap.size 1 _ _ _ kk
        have m0_2 := cell_of_row v0 W.heap.size 2 _ _ _ kk
        have m0_3 := cell_of_row v0 W.heap.size 3 _ _ _ kk
        have m0_4 := cell_of_row v0 W.heap.size 4 _ _ _ kk
        have m0_5 := cell_of_row v0 W.heap.size 5 _ _ _ kk
        have m0_6 := cell_of_row v0 W.heap.size 6 _ _ _ kk
        have m0_7 := cell_of_row v0 W.heap.size 7 _ _ _ kk
        clear kk
        go_wp2_with fail
        refine (S1.out _ (HB.out.trans (B0.out.mono hB)) (Nat.le_trans hB B0.out.size)).mono ?_
        rintro e v1 ⟨rfl, hb2⟩
        have K1 := Lib.hid (K0.out.blw hb2)
        have B1 := Lib.hid (Po.belI_step B0.out hb2)
        clear hb2
        have kk := K1.out
        have m1_0 := cell_of_row v1 W.heap.size 0 _ _ _ kk
        have m1_1 := cell_of_row v1 W.heap.size 1 _ _ _ kk
        have m1_2 := cell_of_row v1 W.heap.size 2 _ _ _ kk
        have m1_3 := cell_of_row v1 W.heap.size 3 _ _ _ kk
        have m1_4 := cell_of_row v1 W.heap.size 4 _ _ _ kk
        have m1_5 := cell_of_row v1 W.heap.size 5 _ _ _ kk
        have m1_6 := cell_of_row v1 W.heap.size 6 _ _ _ kk
        have m1_7 := cell_of_row v1 W.heap.size 7 _ _ _ kk
        clear kk
        go_wp2_with fail
        refine (S2.out _ (HB.out.trans (B1.out.mono hB)) (Nat.le_trans hB B1.out.size)).mono ?_
        rintro e v2 ⟨rfl, hb2⟩
        have K2 := Lib.hid (K1.out.blw hb2)
        have B2 := Lib.hid (Po.belI_step B1.out hb2)
        clear hb2
        go_wp2
        go_ret
        exact ⟨ret_i (by rw [E.out]), B2.out⟩
      · rw [hr2] at c1 c2 c3
        have p2 := c1
        have q2 : r2 ≤ L := Int.le_trans c2 q1
        have g2 : decide (r2 < 0) = false := by simp; omega
        have e3 : szR L (szPp ⟨chs, ⟨rp, uris, rules⟩, now, next, log, ws⟩) = _ := e2.trans c3
        clear c1 c2 c3 hr2 e2
        obtain ⟨r3, hr3⟩ : ∃ r, szR r2 (ws.length + szWs ws) = r := ⟨_, rfl⟩
        have S3 := Lib.hid (show ∀ W' (_ : Below B w0 W') (_ : B ≤ W'.heap.size), Calls Tryz.prog 60 #[.slice a5 l5 c5, .int .i64 r2] W' (fun e w' => e = .returned (.int .i64 r3) ∧ Below W'.heap.size W' w') from fun W' h2 h3 => by subst hr3; exact szWis_any B w0 ws (.slice a5 l5 c5) hwv r2 W' h2 h3 p2 (by omega))
        rcases szR_sgn r2 (ws.length + szWs ws) p2 with c1 | c1
        · rw [hr3] at c1
          have E := Lib.hid (show szR L (szPp ⟨chs, ⟨rp, uris, rules⟩, now, next, log, ws⟩) = -1 from e3.trans (hr3.trans c1))
          clear hr3 e3
          subst c1
          go_enter Tryz.func14, Tryz.ntmps14
          go_wp2_with fail
          refine (S0.out _ (HB.out.alloc hB _) (by simp; omega)).mono ?_
          rintro e v0 ⟨rfl, hb2⟩
          have K0 := Lib.hid ((Qu.Hd.new W (.cells #[.slice a1 l1 c1, .string ⟨rp.toArray⟩, .slice a2 l2 c2, .slice a3 l3 c3, .int .i64 now, .int .i64 next, .slice a4 l4 c4, .slice a5 l5 c5] 30)).blw hb2)
          have B0 := Lib.hid (show Below W.heap.size W v0 from ((Below.refl _ _).alloc (Nat.le_refl _) _).trans (hb2.mono (by simp)))
          clear hb2
          have kk := K0.out
          have m0_0 := cell_of_row v0 W.heap.size 0 _ _ _ kk
          have m0_1 := cell_of_row v0 W.heap.size 1 _ _ _ kk
          have m0_2 := cell_of_row v0 W.heap.size 2 _ _ _ kk
          have m0_3 := cell_of_row v0 W.heap.size 3 _ _ _ kk
          have m0_4 := cell_of_row v0 W.heap.size 4 _ _ _ kk
          have m0_5 := cell_of_row v0 W.heap.size 5 _ _ _ kk
          have m0_6 := cell_of_row v0 W.heap.size 6 _ _ _ kk
          have m0_7 := cell_of_row v0 W.heap.size 7 _ _ _ kk
          clear kk
          go_wp2_with fail
          refine (S1.out _ (HB.out.trans (B0.out.mono hB)) (Nat.le_trans hB B0.out.size)).mono ?_
          rintro e v1 ⟨rfl, hb2⟩
          have K1 := Lib.hid (K0.out.blw hb2)
          have B1 := Lib.hid (Po.belI_step B0.out hb2)
          clear hb2
          have kk := K1.out
          have m1_0 := cell_of_row v1 W.heap.size 0 _ _ _ kk
          have m1_1 := cell_of_row v1 W.heap.size 1 _ _ _ kk
          have m1_2 := cell_of_row v1 W.heap.size 2 _ _ _ kk
          have m1_3 := cell_of_row v1 W.heap.size 3 _ _ _ kk
          have m1_4 := cell_of_row v1 W.heap.size 4 _ _ _ kk
          have m1_5 := cell_of_row v1 W.heap.size 5 _ _ _ kk
          have m1_6 := cell_of_row v1 W.heap.size 6 _ _ _ kk
          have m1_7 := cell_of_row v1 W.heap.size 7 _ _ _ kk
          clear kk
          go_wp2_with fail
          refine (S2.out _ (HB.out.trans (B1.out.mono hB)) (Nat.le_trans hB B1.out.size)).mono ?_
          rintro e v2 ⟨rfl, hb2⟩
          have K2 := Lib.hid (K1.out.blw hb2)
          have B2 := Lib.hid (Po.belI_step B1.out hb2)
          clear hb2
          have kk := K2.out
          have m2_0 := cell_of_row v2 W.heap.size 0 _ _ _ kk
          have m2_1 := cell_of_row v2 W.heap.size 1 _ _ _ kk
          have m2_2 := cell_of_row v2 W.heap.size 2 _ _ _ kk
          have m2_3 := cell_of_row v2 W.heap.size 3 _ _ _ kk
          have m2_4 := cell_of_row v2 W.heap.size 4 _ _ _ kk
          have m2_5 := cell_of_row v2 W.heap.size 5 _ _ _ kk
          have m2_6 := cell_of_row v2 W.heap.size 6 _ _ _ kk
          have m2_7 := cell_of_row v2 W.heap.size 7 _ _ _ kk
          clear kk
          go_wp2_with fail
          refine (S3.out _ (HB.out.trans (B2.out.mono hB)) (Nat.le_trans hB B2.out.size)).mono ?_
          rintro e v3 ⟨rfl, hb2⟩
          have K3 := Lib.hid (K2.out.blw hb2)
          have B3 := Lib.hid (Po.belI_step B2.out hb2)
          clear hb2
          go_wp2
          go_ret
          exact ⟨ret_i (by rw [E.out]), B3.out⟩
        · rw [hr3] at c1
          have E := Lib.hid (show szR L (szPp ⟨chs, ⟨rp, uris, rules⟩, now, next, log, ws⟩) = r3 from e3.trans hr3)
          clear hr3 e3
          have g3 : decide (r3 < 0) = false := by simp; omega
          clear c1
          go_enter Tryz.func14, Tryz.ntmps14
          go_wp2_with fail
          refine (S0.out _ (HB.out.alloc hB _) (by simp; omega)).mono ?_
          rintro e v0 ⟨rfl, hb2⟩
          have K0 := Lib.hid ((Qu.Hd.new W (.cells #[.slice a1 l1 c1, .string ⟨rp.toArray⟩, .slice a2 l2 c2, .slice a3 l3 c3, .int .i64 now, .int .i64 next, .slice a4 l4 c4, .slice a5 l5 c5] 30)).blw hb2)
          have B0 := Lib.hid (show Below W.heap.size W v0 from ((Below.refl _ _).alloc (Nat.le_refl _) _).trans (hb2.mono (by simp)))
          clear hb2
          have kk := K0.out
          have m0_0 := cell_of_row v0 W.heap.size 0 _ _ _ kk
          have m0_1 := cell_of_row v0 W.heap.size 1 _ _ _ kk
          have m0_2 := cell_of_row v0 W.heap.size 2 _ _ _ kk
          have m0_3 := cell_of_row v0 W.heap.size 3 _ _ _ kk
          have m0_4 := cell_of_row v0 W.heap.size 4 _ _ _ kk
          have m0_5 := cell_of_row v0 W.heap.size 5 _ _ _ kk
          have m0_6 := cell_of_row v0 W.heap.size 6 _ _ _ kk
          have m0_7 := cell_of_row v0 W.heap.size 7 _ _ _ kk
          clear kk
          go_wp2_with fail
          refine (S1.out _ (HB.out.trans (B0.out.mono hB)) (Nat.le_trans hB B0.out.size)).mono ?_
          rintro e v1 ⟨rfl, hb2⟩
          have K1 := Lib.hid (K0.out.blw hb2)
          have B1 := Lib.hid (Po.belI_step B0.out hb2)
          clear hb2
          have kk := K1.out
          have m1_0 := cell_of_row v1 W.heap.size 0 _ _ _ kk
          have m1_1 := cell_of_row v1 W.heap.size 1 _ _ _ kk
          have m1_2 := cell_of_row v1 W.heap.size 2 _ _ _ kk
          have m1_3 := cell_of_row v1 W.heap.size 3 _ _ _ kk
          have m1_4 := cell_of_row v1 W.heap.size 4 _ _ _ kk
          have m1_5 := cell_of_row v1 W.heap.size 5 _ _ _ kk
          have m1_6 := cell_of_row v1 W.heap.size 6 _ _ _ kk
          have m1_7 := cell_of_row v1 W.heap.size 7 _ _ _ kk
          clear kk
          go_wp2_with fail
          refine (S2.out _ (HB.out.trans (B1.out.mono hB)) (Nat.le_trans hB B1.out.size)).mono ?_
          rintro e v2 ⟨rfl, hb2⟩
          have K2 := Lib.hid (K1.out.blw hb2)
          have B2 := Lib.hid (Po.belI_step B1.out hb2)
          clear hb2
          have kk := K2.out
          have m2_0 := cell_of_row v2 W.heap.size 0 _ _ _ kk
          have m2_1 := cell_of_row v2 W.heap.size 1 _ _ _ kk
          have m2_2 := cell_of_row v2 W.heap.size 2 _ _ _ kk
          have m2_3 := cell_of_row v2 W.heap.size 3 _ _ _ kk
          have m2_4 := cell_of_row v2 W.heap.size 4 _ _ _ kk
          have m2_5 := cell_of_row v2 W.heap.size 5 _ _ _ kk
          have m2_6 := cell_of_row v2 W.heap.size 6 _ _ _ kk
          have m2_7 := cell_of_row v2 W.heap.size 7 _ _ _ kk
          clear kk
          go_wp2_with fail
          refine (S3.out _ (HB.out.trans (B2.out.mono hB)) (Nat.le_trans hB B2.out.size)).mono ?_
          rintro e v3 ⟨rfl, hb2⟩
          have K3 := Lib.hid (K2.out.blw hb2)
          have B3 := Lib.hid (Po.belI_step B2.out hb2)
          clear hb2
          go_wp2
          go_ret
          exact ⟨ret_i (by rw [E.out]), B3.out⟩
end Go.Proofs.YtmaknkbmilcanaaGreatDoor.Pi
namespace Go.Proofs.YtmaknkbmilcanaaGreatDoor.Pi
open Go.RowKit
open Go.Proofs.YtmaknkbmilcanaaGreatDoor.Tx (TxtsIn)
open Go.Proofs.YtmaknkbmilcanaaGreatDoor.Gr (Tg Gp TgIn gV)
open Go.Proofs.YtmaknkbmilcanaaGreatDoor.Pe (Pr PrIn toPrs_any)
open Go.Proofs.YtmaknkbmilcanaaGreatDoor.Qu (Rep Q RpIn IntsIn qV toQ_any Hd)
open Go.Proofs.YtmaknkbmilcanaaGreatDoor.Po (Pl RlIn)
theorem Hd.setAt {w : World} {b : Nat} {C : Array Value} {T : TypeId} (h : Hd w b (.cells C T)) (i : Nat) (v : Value) : Hd (w.setCell ⟨b, i, none⟩ v) b (.cells (C.setIfInBounds i v) T) := Tx.heap_set h i v
theorem Hd.farAt {w : World} {b g : Nat} {o : Obj} (h : Hd w b o) (i : Nat) (v : Value) (hne : b ≠ g) : Hd (w.setCell ⟨g, i, none⟩ v) b o := (heap_setCell_other _ ⟨g, i, none⟩ b v hne).trans h
/-- the blocks of a copy function: its argument, its answer, its variable -/
structure TC (PT RT : TypeId) (W w : World) (pc rc oc : Array Value) : Prop where
  p : Hd w W.heap.size (.cells pc PT)
  r : Hd w (W.heap.size + 1) (.cells rc RT)
  o : Hd w (W.heap.size + 1 + 1) (.cells oc RT)
  b : Below W.heap.size W w
  z : W.heap.size + 3 ≤ w.heap.size
theorem TC.start (PT RT : TypeId) (W : World) (pc rc oc : Array Value) : TC PT RT W (((W.alloc (.cells pc PT)).alloc (.cells rc RT)).alloc (.cells oc RT)) pc rc oc :=
  ⟨Qu.alloc3_0 _ _ _ _, Qu.alloc3_1 _ _ _ _, Qu.alloc3_2 _ _ _ _, (((Below.refl _ _).alloc (Nat.le_refl _) _).alloc (by simp) _).alloc (by simp; omega) _, by simp⟩
theorem TC.blw {PT RT : TypeId} {W w w' : World} {pc rc oc : Array Value} (h : TC PT RT W w pc rc oc) (hb : Below w.heap.size w w') : TC PT RT W w' pc rc oc :=
  ⟨h.p.blw hb, h.r.blw hb, h.o.blw hb, h.b.trans (hb.mono h.b.size), Nat.le_trans h.z hb.size⟩
theorem TC.set {PT RT : TypeId} {W w : World} {pc rc oc : Array Value} (h : TC PT RT W w pc rc oc) (i : Nat) (v : Value) : TC PT RT W (w.setCell ⟨W.heap.size + 1 + 1, i, none⟩ v) pc rc (oc.setIfInBounds i v) :=
  ⟨Hd.farAt h.p i v (by omega), Hd.farAt h.r i v (by omega), Hd.setAt h.o i v, h.b.setCell (by simp; omega) _, by simpa using h.z⟩
theorem TC.setr {PT RT : TypeId} {W w : World} {pc rc oc : Array Value} (h : TC PT RT W w pc rc oc) (i : Nat) (v : Value) : TC PT RT W (w.setCell ⟨W.heap.size + 1, i, none⟩ v) pc (rc.setIfInBounds i v) oc :=
  ⟨Hd.farAt h.p i v (by omega), Hd.setAt h.r i v, Hd.farAt h.o i v (by omega), h.b.setCell (by simp) _, by simpa using h.z⟩
abbrev set6 (w : World) (g o : Nat) (x0 x1 x2 x3 x4 x5 : Value) : World := (((((w.setCell ⟨g, o, none⟩ x0).setCell ⟨g, o + 1, none⟩ x1).setCell ⟨g, o + 2, none⟩ x2).setCell ⟨g, o + 3, none⟩ x3).setCell ⟨g, o + 4, none⟩ x4).setCell ⟨g, o + 5, none⟩ x5
/-! ### numbers -/
theorem Tryz.infoInt : (Tryz.prog.info? 3).map (fun i => (i.zero, i.size, i.bytes)) = some (some (.int .i64 0), 1, 8) := by kernel_rfl
/-! ### entries -/
theorem Tryz.infoEn : (Tryz.prog.info? 107).map (fun i => (i.zero, i.size, i.bytes)) = some (some (.agg #[.int .i64 0, .int .i64 0, .int .i64 0]), 3, 24) := by kernel_rfl
/-! ### wires -/
def WSm (x : Wi) : Prop := x.ids.length ≤ 1048576
theorem Tryz.infoWi : (Tryz.prog.info? 142).map (fun i => (i.zero, i.size, i.bytes)) = some (some (.agg #[.int .i64 0, .int .i64 0, .string ByteArray.empty, .string ByteArray.empty, .slice none 0 0, .string ByteArray.empty, .bool false]), 7, 96) := by kernel_rfl
/-! ### channels -/
structure CSm (x : Cn) : Prop where
  t : x.g.tgs.length ≤ 1048576
  p : x.ps.length ≤ 1048576
  i : x.q.items.length ≤ 1048576
  r : x.q.recent.length ≤ 1048576
theorem Tryz.infoCn : (Tryz.prog.info? 132).map (fun i => (i.zero, i.size, i.bytes)) = some (some (.agg #[.string ByteArray.empty, .int .i64 0, .slice none 0 0, .slice none 0 0, .slice none 0 0, .slice none 0 0]), 6, 120) := by kernel_rfl
/-! ### pipes -/
structure PSm (p : Pp) : Prop where
  c : p.chs.length ≤ 1048576
  cs : ∀ i, i < p.chs.length → CSm (p.chs.getD i default)
  u : p.pol.uris.length ≤ 1048576
  r : p.pol.rules.length ≤ 1048576
  rs : ∀ i, i < p.pol.rules.length → (p.pol.rules.getD i default).words.length ≤ 1048576
  l : p.log.length ≤ 1048576
  w : p.wires.length ≤ 1048576
  ws : ∀ i, i < p.wires.length → WSm (p.wires.getD i default)
end Go.Proofs.YtmaknkbmilcanaaGreatDoor.Pi
namespace Go.Proofs.YtmaknkbmilcanaaGreatDoor.Pi
open Go.RowKit
open Go.Proofs.YtmaknkbmilcanaaGreatDoor.Tx (TxtsIn)
open Go.Proofs.YtmaknkbmilcanaaGreatDoor.Gr (Tg Gp TgIn gV eqG_self)
open Go.Proofs.YtmaknkbmilcanaaGreatDoor.Pe (Pr PrIn eqPrs_self)
open Go.Proofs.YtmaknkbmilcanaaGreatDoor.Qu (Rep Q RpIn IntsIn qV eqQ_self)
open Go.Proofs.YtmaknkbmilcanaaGreatDoor.Po (Pl RlIn eqP_self)
set_option maxHeartbeats 1000000 in
theorem eqIs_self (B : Nat) (w0 : World) (ns : List Int) (v u : Value) (h1 : IntsIn (· < B) w0 v ns) (h2 : IntsIn (· < B) w0 u ns) (W : World) (hb : Below B w0 W) (hB : B ≤ W.heap.size) :
    Calls Tryz.prog 27 #[v, u] W fun e w' => e = .returned (.bool true) ∧ Below W.heap.size W w' := by
  obtain ⟨a, cap, b, off, rfl, hcap, hm, ha, hc⟩ := h1
  obtain ⟨a', cap', b', off', rfl, hcap', hm', ha', hc'⟩ := h2
  have hn : ns.length ≤ 9223372036854775807 := by omega
  have HC := Lib.hid hc
  have HA := Lib.hid ha
  have HC' := Lib.hid hc'
  have HA' := Lib.hid ha'
  have HB := Lib.hid hb
  clear hc ha hc' ha' hb
  have g1 : ((ns.length : Int) != (ns.length : Int)) = false := by simp
  go_enter Tryz.func27, Tryz.ntmps27
  go_wp2
  go_loopw [5] (fun i wr => ∃ k : Nat, k ≤ ns.length ∧ i = .int .i64 k ∧ Below W.heap.size W wr) (fun i _ => ns.length - (intOf i).toNat)
  case atStart => exact ⟨0, by omega, rfl, Below.refl _ _⟩
  case round =>
    obtain ⟨k, hk, rfl, hR⟩ := hrel
    by_cases hlt : k < ns.length
    · obtain ⟨ea, hlb⟩ := HA.out (by omega)
      obtain ⟨ea', hlb'⟩ := HA'.out (by omega)
      subst ea ea'
      have hW := HB.out.trans (hR.mono hB)
      have q0 := (hW.cell (p := ⟨b, off + k, none⟩) hlb).trans (HC.out k hlt)
      have q1 := (hW.cell (p := ⟨b', off' + k, none⟩) hlb').trans (HC'.out k hlt)
      clear hW
      have HR := Lib.hid hR
      clear hR
      generalize ns.getD k 0 = t at *
      have e1 : (t == t) = true := by simp
      have e2 : (t != t) = false := by simp
      go_wp2
      go_quiet (fail)
      go_wp2
      go_roundw
      case rel => exact ⟨k + 1, by omega, by go_num, Po.belI_drewN HR.out _⟩
      case measure => simp [intOf]; omega
    · go_wp2
      go_ret
      exact ⟨rfl, hR⟩
set_option maxRecDepth 100000 in
set_option maxHeartbeats 2000000 in
theorem eqEn_self (x : En) (W : World) : Calls Tryz.prog 73 #[eV x, eV x] W fun e w' => e = .returned (.bool true) ∧ Below W.heap.size W w' := by
  obtain ⟨p, q, r⟩ := x
  have e3 : (p == p) = true := by simp
  have e4 : (p != p) = false := by simp
  have e5 : (q == q) = true := by simp
  have e6 : (q != q) = false := by simp
  have e7 : (r == r) = true := by simp
  have e8 : (r != r) = false := by simp
  go_enter Tryz.func73, Tryz.ntmps73
  go_wp2
  go_ret
  exact ⟨rfl, ((Below.refl _ _).alloc (Nat.le_refl _) _).alloc (by simp) _⟩
set_option maxRecDepth 100000 in
set_option maxHeartbeats 4000000 in
theorem eqEns_self (B : Nat) (w0 : World) (xs : List En) (v u : Value) (h1 : EnIn (· < B) w0 v xs) (h2 : EnIn (· < B) w0 u xs) (W : World) (hb : Below B w0 W) (hB : B ≤ W.heap.size) :
    Calls Tryz.prog 21 #[v, u] W fun e w' => e = .returned (.bool true) ∧ Below W.heap.size W w' := by
  obtain ⟨a, cap, b, off, rfl, hcap, hm, hlen, ha, hc⟩ := h1
  obtain ⟨a', cap', b', off', rfl, hcap', hm', hlen', ha', hc'⟩ := h2
  have hn : xs.length ≤ 9223372036854775807 := by omega
  have HC := Lib.hid hc
  have HA := Lib.hid ha
  have HC' := Lib.hid hc'
  have HA' := Lib.hid ha'
  have HB := Lib.hid hb
  clear hc ha hc' ha' hb hlen hlen'
  have g1 : ((xs.length : Int) != (xs.length : Int)) = false := by simp
  go_enter Tryz.func21, Tryz.ntmps21
  go_wp2
  go_loopw [5] (fun i wr => ∃ k : Nat, k ≤ xs.length ∧ i = .int .i64 k ∧ Below W.heap.size W wr) (fun i _ => xs.length - (intOf i).toNat)
  case atStart => exact ⟨0, by omega, rfl, Below.refl _ _⟩
  case round =>
    obtain ⟨k, hk, rfl, hR⟩ := hrel
    by_cases hlt : k < xs.length
    · obtain ⟨ea, hlb⟩ := HA.out (by omega)
      obtain ⟨ea', hlb'⟩ := HA'.out (by omega)
      subst ea ea'
      have hW := HB.out.trans (hR.mono hB)
      obtain ⟨c0, c1, c2⟩ := HC.out k hlt
      obtain ⟨e0, e1, e2⟩ := HC'.out k hlt
      have q0 := (hW.cell (p := ⟨b, off + k * 3, none⟩) hlb).trans c0
      have q1 := (hW.cell (p := ⟨b, off + k * 3 + 1, none⟩) hlb).trans c1
      have q2 := (hW.cell (p := ⟨b, off + k * 3 + 2, none⟩) hlb).trans c2
      have r0 := (hW.cell (p := ⟨b', off' + k * 3, none⟩) hlb').trans e0
      have r1 := (hW.cell (p := ⟨b', off' + k * 3 + 1, none⟩) hlb').trans e1
      have r2 := (hW.cell (p := ⟨b', off' + k * 3 + 2, none⟩) hlb').trans e2
      have HK := Lib.hid (fun (W' : World) (_ : Below B w0 W') (_ : B ≤ W'.heap.size) => eqEn_self (xs.getD k default) W')
      clear hW c0 c1 c2 e0 e1 e2
      generalize xs.getD k default = x at *
      go_wp2_with fail
      go_region_held3 (fun wx => wx.cell? ⟨b, off + k * 3, none⟩ = some (.int .i64 x.kind) ∧ wx.cell? ⟨b, off + k * 3 + 1, none⟩ = some (.int .i64 x.id) ∧ wx.cell? ⟨b, off + k * 3 + 2, none⟩ = some (.int .i64 x.tm) ∧ wx.cell? ⟨b', off' + k * 3, none⟩ = some (.int .i64 x.kind) ∧ wx.cell? ⟨b', off' + k * 3 + 1, none⟩ = some (.int .i64 x.id) ∧ wx.cell? ⟨b', off' + k * 3 + 2, none⟩ = some (.int .i64 x.tm) ∧ Below W.heap.size W wx)
        (first
          | (simp [*, Below.drew]; done)
          | (go_split_ands
             have hz : B ≤ _ := Nat.le_trans hB (Below.size (by assumption))
             refine ⟨?_, ?_, ?_, ?_, ?_, ?_, Po.belI_step (by assumption) hb⟩
             · (rw [hb.cell (p := ⟨b, off + k * 3, none⟩) (Nat.lt_of_lt_of_le hlb hz)]; assumption)
             · (rw [hb.cell (p := ⟨b, off + k * 3 + 1, none⟩) (Nat.lt_of_lt_of_le hlb hz)]; assumption)
             · (rw [hb.cell (p := ⟨b, off + k * 3 + 2, none⟩) (Nat.lt_of_lt_of_le hlb hz)]; assumption)
             · (rw [hb.cell (p := ⟨b', off' + k * 3, none⟩) (Nat.lt_of_lt_of_le hlb' hz)]; assumption)
             · (rw [hb.cell (p := ⟨b', off' + k * 3 + 1, none⟩) (Nat.lt_of_lt_of_le hlb' hz)]; assumption)
             · (rw [hb.cell (p := ⟨b', off' + k * 3 + 2, none⟩) (Nat.lt_of_lt_of_le hlb' hz)]; assumption)))
        (first
          | (go_split_ands; go_at_call 73; have hbx : Below W.heap.size W _ := (by assumption); refine (HK.out _ (HB.out.trans (hbx.mono hB)) (Nat.le_trans hB hbx.size)).mono ?_; rintro e w1 ⟨rfl, hb⟩)
          | fail)
      go_split_ands
      rename_i hNW
      have HN := Lib.hid hNW
      clear hNW
      go_wp2
      go_roundw
      case rel => exact ⟨k + 1, by omega, by go_num, HN.out⟩
      case measure => simp [intOf]; omega
    · go_wp2
      go_ret
      exact ⟨rfl, hR⟩
set_option maxRecDepth 100000 in
set_option maxHeartbeats 4000000 in
theorem eqWi_self (B : Nat) (w0 : World) (x : Wi) (u u' : WV) (h : WiN (· < B) w0 u x) (h' : WiN (· < B) w0 u' x) (W : World) (hb : Below B w0 W) (hB : B ≤ W.heap.size) :
    Calls Tryz.prog 141 #[wV x u, wV x u'] W fun e w' => e = .returned (.bool true) ∧ Below W.heap.size W w' := by
  obtain ⟨t, s, g, l, ns, d, z⟩ := x
  obtain ⟨u_id⟩ := u
  obtain ⟨v_id⟩ := u'
  obtain ⟨hi⟩ := h
  obtain ⟨hi'⟩ := h'
  simp only at hi hi'
  have SI := Lib.hid (eqIs_self B w0 ns u_id v_id hi hi')
  obtain ⟨a1, l1, c1, rfl⟩ := hi.slice
  obtain ⟨a2, l2, c2, rfl⟩ := hi'.slice
  clear hi hi'
  have HB := Lib.hid hb
  clear hb
  have ea0 : (t == t) = true := by simp
  have eb0 : (t != t) = false := by simp
  have ea1 : (s == s) = true := by simp
  have eb1 : (s != s) = false := by simp
  have ea2 : (g == g) = true := by simp
  have eb2 : (g != g) = false := by simp
  have ea3 : (l == l) = true := by simp
  have eb3 : (l != l) = false := by simp
  have ea4 : (d == d) = true := by simp
  have eb4 : (d != d) = false := by simp
  have ea5 : (z == z) = true := by simp
  have eb5 : (z != z) = false := by simp
  have K0 := Lib.hid ((Qu.Hd.new W (.cells #[.int .i64 t, .int .i64 s, .string ⟨g.toArray⟩, .string ⟨l.toArray⟩, .slice a1 l1 c1, .string ⟨d.toArray⟩, .bool z] 142)).al (.cells #[.int .i64 t, .int .i64 s, .string ⟨g.toArray⟩, .string ⟨l.toArray⟩, .slice a2 l2 c2, .string ⟨d.toArray⟩, .bool z] 142))
  have K1 := Lib.hid (show Qu.Hd ((W.alloc (.cells #[.int .i64 t, .int .i64 s, .string ⟨g.toArray⟩, .string ⟨l.toArray⟩, .slice a1 l1 c1, .string ⟨d.toArray⟩, .bool z] 142)).alloc (.cells #[.int .i64 t, .int .i64 s, .string ⟨g.toArray⟩, .string ⟨l.toArray⟩, .slice a2 l2 c2, .string ⟨d.toArray⟩, .bool z] 142)) (W.heap.size + 1) (.cells #[.int .i64 t, .int .i64 s, .string ⟨g.toArray⟩, .string ⟨l.toArray⟩, .slice a2 l2 c2, .string ⟨d.toArray⟩, .bool z] 142) by simpa using Qu.Hd.new (W.alloc (.cells #[.int .i64 t, .int .i64 s, .string ⟨g.toArray⟩, .string ⟨l.toArray⟩, .slice a1 l1 c1, .string ⟨d.toArray⟩, .bool z] 142)) (.cells #[.int .i64 t, .int .i64 s, .string ⟨g.toArray⟩, .string ⟨l.toArray⟩, .slice a2 l2 c2, .string ⟨d.toArray⟩, .bool z] 142))
  have BA := Lib.hid (show Below W.heap.size W ((W.alloc (.cells #[.int .i64 t, .int .i64 s, .string ⟨g.toArray⟩, .string ⟨l.toArray⟩, .slice a1 l1 c1, .string ⟨d.toArray⟩, .bool z] 142)).alloc (.cells #[.int .i64 t, .int .i64 s, .string ⟨g.toArray⟩, .string ⟨l.toArray⟩, .slice a2 l2 c2, .string ⟨d.toArray⟩, .bool z] 142)) from ((Below.refl _ _).alloc (Nat.le_refl _) _).alloc (by simp) _)
  go_enter Tryz.func141, Tryz.ntmps141
  go_wp2_with fail
  refine (SI.out _ (HB.out.trans (BA.out.mono hB)) (Nat.le_trans hB BA.out.size)).mono ?_
  rintro e y0 ⟨rfl, hb2⟩
  have K0 := Lib.hid (K0.out.blw hb2)
  have K1 := Lib.hid (K1.out.blw hb2)
  have BA := Lib.hid (Po.belI_step BA.out hb2)
  clear hb2
  have k0 := K0.out
  have k1 := K1.out
  have m0_0 := cell_of_row y0 W.heap.size 0 _ _ _ k0
  have n0_0 := cell_of_row y0 (W.heap.size + 1) 0 _ _ _ k1
  have m0_1 := cell_of_row y0 W.heap.size 1 _ _ _ k0
  have n0_1 := cell_of_row y0 (W.heap.size + 1) 1 _ _ _ k1
  have m0_2 := cell_of_row y0 W.heap.size 2 _ _ _ k0
  have n0_2 := cell_of_row y0 (W.heap.size + 1) 2 _ _ _ k1
  have m0_3 := cell_of_row y0 W.heap.size 3 _ _ _ k0
  have n0_3 := cell_of_row y0 (W.heap.size + 1) 3 _ _ _ k1
  have m0_4 := cell_of_row y0 W.heap.size 4 _ _ _ k0
  have n0_4 := cell_of_row y0 (W.heap.size + 1) 4 _ _ _ k1
  have m0_5 := cell_of_row y0 W.heap.size 5 _ _ _ k0
  have n0_5 := cell_of_row y0 (W.heap.size + 1) 5 _ _ _ k1
  have m0_6 := cell_of_row y0 W.heap.size 6 _ _ _ k0
  have n0_6 := cell_of_row y0 (W.heap.size + 1) 6 _ _ _ k1
  clear k0 k1
  go_wp2
  go_ret
  exact ⟨rfl, BA.out⟩
set_option maxRecDepth 100000 in
set_option maxHeartbeats 4000000 in
theorem eqWis_self (B : Nat) (w0 : World) (xs : List Wi) (v u : Value) (h1 : WiIn (· < B) w0 v xs) (h2 : WiIn (· < B) w0 u xs) (W : World) (hb : Below B w0 W) (hB : B ≤ W.heap.size) :
    Calls Tryz.prog 71 #[v, u] W fun e w' => e = .returned (.bool true) ∧ Below W.heap.size W w' := by
  obtain ⟨a, cap, b, off, us, rfl, hcap, hm, hlen, ha, hc⟩ := h1
  obtain ⟨a', cap', b', off', us', rfl, hcap', hm', hlen', ha', hc'⟩ := h2
  have hn : xs.length ≤ 9223372036854775807 := by omega
  have HC := Lib.hid hc
  have HA := Lib.hid ha
  have HC' := Lib.hid hc'
  have HA' := Lib.hid ha'
  have HB := Lib.hid hb
  clear hc ha hc' ha' hb hlen hlen'
  have g1 : ((xs.length : Int) != (xs.length : Int)) = false := by simp
  go_enter Tryz.func71, Tryz.ntmps71
  go_wp2
  go_loopw [5] (fun i wr => ∃ k : Nat, k ≤ xs.length ∧ i = .int .i64 k ∧ Below W.heap.size W wr) (fun i _ => xs.length - (intOf i).toNat)
  case atStart => exact ⟨0, by omega, rfl, Below.refl _ _⟩
  case round =>
    obtain ⟨k, hk, rfl, hR⟩ := hrel
    by_cases hlt : k < xs.length
    · obtain ⟨ea, hlb⟩ := HA.out (by omega)
      obtain ⟨ea', hlb'⟩ := HA'.out (by omega)
      subst ea ea'
      have hW := HB.out.trans (hR.mono hB)
      obtain ⟨c0, c1, c2, c3, c4, c5, c6, cN⟩ := HC.out k hlt
      obtain ⟨e0, e1, e2, e3, e4, e5, e6, eN⟩ := HC'.out k hlt
      have q0 := (hW.cell (p := ⟨b, off + k * 7, none⟩) hlb).trans c0
      have q1 := (hW.cell (p := ⟨b, off + k * 7 + 1, none⟩) hlb).trans c1
      have q2 := (hW.cell (p := ⟨b, off + k * 7 + 2, none⟩) hlb).trans c2
      have q3 := (hW.cell (p := ⟨b, off + k * 7 + 3, none⟩) hlb).trans c3
      have q4 := (hW.cell (p := ⟨b, off + k * 7 + 4, none⟩) hlb).trans c4
      have q5 := (hW.cell (p := ⟨b, off + k * 7 + 5, none⟩) hlb).trans c5
      have q6 := (hW.cell (p := ⟨b, off + k * 7 + 6, none⟩) hlb).trans c6
      have r0 := (hW.cell (p := ⟨b', off' + k * 7, none⟩) hlb').trans e0
      have r1 := (hW.cell (p := ⟨b', off' + k * 7 + 1, none⟩) hlb').trans e1
      have r2 := (hW.cell (p := ⟨b', off' + k * 7 + 2, none⟩) hlb').trans e2
      have r3 := (hW.cell (p := ⟨b', off' + k * 7 + 3, none⟩) hlb').trans e3
      have r4 := (hW.cell (p := ⟨b', off' + k * 7 + 4, none⟩) hlb').trans e4
      have r5 := (hW.cell (p := ⟨b', off' + k * 7 + 5, none⟩) hlb').trans e5
      have r6 := (hW.cell (p := ⟨b', off' + k * 7 + 6, none⟩) hlb').trans e6
      have HK := Lib.hid (fun (W' : World) (h : Below B w0 W') (h' : B ≤ W'.heap.size) => eqWi_self B w0 (xs.getD k default) (us k) (us' k) cN eN W' h h')
      clear hW c0 c1 c2 c3 c4 c5 c6 e0 e1 e2 e3 e4 e5 e6
      generalize us k = u at *
      generalize us' k = u' at *
      generalize xs.getD k default = x at *
      obtain ⟨u_id⟩ := u
      obtain ⟨v_id⟩ := u'
      obtain ⟨a0, l0, c0, rfl⟩ : ∃ a l c, u_id = .slice a l c := cN.id.slice
      obtain ⟨da0, dl0, dc0, rfl⟩ : ∃ a l c, v_id = .slice a l c := eN.id.slice
      clear cN eN
      go_wp2_with fail
      go_region_held3 (fun wx => wx.cell? ⟨b, off + k * 7, none⟩ = some (.int .i64 x.tm) ∧ wx.cell? ⟨b, off + k * 7 + 1, none⟩ = some (.int .i64 x.st) ∧ wx.cell? ⟨b, off + k * 7 + 2, none⟩ = some (.string ⟨x.grp.toArray⟩) ∧ wx.cell? ⟨b, off + k * 7 + 3, none⟩ = some (.string ⟨x.url.toArray⟩) ∧ wx.cell? ⟨b, off + k * 7 + 4, none⟩ = some (.slice a0 l0 c0) ∧ wx.cell? ⟨b, off + k * 7 + 5, none⟩ = some (.string ⟨x.body.toArray⟩) ∧ wx.cell? ⟨b, off + k * 7 + 6, none⟩ = some (.bool x.lost) ∧ wx.cell? ⟨b', off' + k * 7, none⟩ = some (.int .i64 x.tm) ∧ wx.cell? ⟨b', off' + k * 7 + 1, none⟩ = some (.int .i64 x.st) ∧ wx.cell? ⟨b', off' + k * 7 + 2, none⟩ = some (.string ⟨x.grp.toArray⟩) ∧ wx.cell? ⟨b', off' + k * 7 + 3, none⟩ = some (.string ⟨x.url.toArray⟩) ∧ wx.cell? ⟨b', off' + k * 7 + 4, none⟩ = some (.slice da0 dl0 dc0) ∧ wx.cell? ⟨b', off' + k * 7 + 5, none⟩ = some (.string ⟨x.body.toArray⟩) ∧ wx.cell? ⟨b', off' + k * 7 + 6, none⟩ = some (.bool x.lost) ∧ Below W.heap.size W wx)
        (first
          | (simp [*, Below.drew]; done)
          | (go_split_ands
             have hz : B ≤ _ := Nat.le_trans hB (Below.size (by assumption))
             refine ⟨?_, ?_, ?_, ?_, ?_, ?_, ?_, ?_, ?_, ?_, ?_, ?_, ?_, ?_, Po.belI_step (by assumption) hb⟩
             · (rw [hb.cell (p := ⟨b, off + k * 7, none⟩) (Nat.lt_of_lt_of_le hlb hz)]; assumption)
             · (rw [hb.cell (p := ⟨b, off + k * 7 + 1, none⟩) (Nat.lt_of_lt_of_le hlb hz)]; assumption)
             · (rw [hb.cell (p := ⟨b, off + k * 7 + 2, none⟩) (Nat.lt_of_lt_of_le hlb hz)]; assumption)
             · (rw [hb.cell (p := ⟨b, off + k * 7 + 3, none⟩) (Nat.lt_of_lt_of_le hlb hz)]; assumption)
             · (rw [hb.cell (p := ⟨b, off + k * 7 + 4, none⟩) (Nat.lt_of_lt_of_le hlb hz)]; assumption)
             · (rw [hb.cell (p := ⟨b, off + k * 7 + 5, none⟩) (Nat.lt_of_lt_of_le hlb hz)]; assumption)
             · (rw [hb.cell (p := ⟨b, off + k * 7 + 6, none⟩) (Nat.lt_of_lt_of_le hlb hz)]; assumption)
             · (rw [hb.cell (p := ⟨b', off' + k * 7, none⟩) (Nat.lt_of_lt_of_le hlb' hz)]; assumption)
             · (rw [hb.cell (p := ⟨b', off' + k * 7 + 1, none⟩) (Nat.lt_of_lt_of_le hlb' hz)]; assumption)
             · (rw [hb.cell (p := ⟨b', off' + k * 7 + 2, none⟩) (Nat.lt_of_lt_of_le hlb' hz)]; assumption)
             · (rw [hb.cell (p := ⟨b', off' + k * 7 + 3, none⟩) (Nat.lt_of_lt_of_le hlb' hz)]; assumption)
             · (rw [hb.cell (p := ⟨b', off' + k * 7 + 4, none⟩) (Nat.lt_of_lt_of_le hlb' hz)]; assumption)
             · (rw [hb.cell (p := ⟨b', off' + k * 7 + 5, none⟩) (Nat.lt_of_lt_of_le hlb' hz)]; assumption)
             · (rw [hb.cell (p := ⟨b', off' + k * 7 + 6, none⟩) (Nat.lt_of_lt_of_le hlb' hz)]; assumption)))
        (first
          | (go_split_ands; go_at_call 141; have hbx : Below W.heap.size W _ := (by assumption); refine (HK.out _ (HB.out.trans (hbx.mono hB)) (Nat.le_trans hB hbx.size)).mono ?_; rintro e w1 ⟨rfl, hb⟩)
          | fail)
      go_split_ands
      rename_i hNW
      have HN := Lib.hid hNW
      clear hNW
      go_wp2
      go_roundw
      case rel => exact ⟨k + 1, by omega, by go_num, HN.out⟩
      case measure => simp [intOf]; omega
    · go_wp2
      go_ret
      exact ⟨rfl, hR⟩
set_option maxRecDepth 100000 in
set_option maxHeartbeats 4000000 in
theorem eqCn_self (B : Nat) (w0 : World) (x : Cn) (u u' : CV) (h : CnN (· < B) w0 u x) (h' : CnN (· < B) w0 u' x) (W : World) (hb : Below B w0 W) (hB : B ≤ W.heap.size) :
    Calls Tryz.prog 139 #[cV x u, cV x u'] W fun e w' => e = .returned (.bool true) ∧ Below W.heap.size W w' := by
  obtain ⟨⟨nm, ag, ts⟩, ps, ⟨rs, bs⟩⟩ := x
  obtain ⟨u_tv, u_pv, u_iv, u_rv⟩ := u
  obtain ⟨v_tv, v_pv, v_iv, v_rv⟩ := u'
  obtain ⟨ht, hp, hi, hr⟩ := h
  obtain ⟨ht', hp', hi', hr'⟩ := h'
  simp only at ht hp hi hr ht' hp' hi' hr'
  have SG := Lib.hid (eqG_self B w0 ⟨nm, ag, ts⟩ u_tv v_tv ht ht')
  have SP := Lib.hid (eqPrs_self B w0 ps u_pv v_pv hp hp')
  have SQ := Lib.hid (eqQ_self B w0 ⟨rs, bs⟩ u_iv u_rv v_iv v_rv hi hr hi' hr')
  obtain ⟨a1, l1, c1, rfl⟩ := ht.slice
  obtain ⟨a2, l2, c2, rfl⟩ := hp.slice
  obtain ⟨a3, l3, c3, rfl⟩ := hi.slice
  obtain ⟨a4, l4, c4, rfl⟩ := hr.slice
  obtain ⟨d1, k1, e1, rfl⟩ := ht'.slice
  obtain ⟨d2, k2, e2, rfl⟩ := hp'.slice
  obtain ⟨d3, k3, e3, rfl⟩ := hi'.slice
  obtain ⟨d4, k4, e4, rfl⟩ := hr'.slice
  clear ht hp hi hr ht' hp' hi' hr'
  have HB := Lib.hid hb
  clear hb
  have K0 := Lib.hid ((Qu.Hd.new W (.cells #[.string ⟨nm.toArray⟩, .int .i64 ag, .slice a1 l1 c1, .slice a2 l2 c2, .slice a3 l3 c3, .slice a4 l4 c4] 132)).al (.cells #[.string ⟨nm.toArray⟩, .int .i64 ag, .slice d1 k1 e1, .slice d2 k2 e2, .slice d3 k3 e3, .slice d4 k4 e4] 132))
  have K1 := Lib.hid (show Qu.Hd ((W.alloc (.cells #[.string ⟨nm.toArray⟩, .int .i64 ag, .slice a1 l1 c1, .slice a2 l2 c2, .slice a3 l3 c3, .slice a4 l4 c4] 132)).alloc (.cells #[.string ⟨nm.toArray⟩, .int .i64 ag, .slice d1 k1 e1, .slice d2 k2 e2, .slice d3 k3 e3, .slice d4 k4 e4] 132)) (W.heap.size + 1) (.cells #[.string ⟨nm.toArray⟩, .int .i64 ag, .slice d1 k1 e1, .slice d2 k2 e2, .slice d3 k3 e3, .slice d4 k4 e4] 132) by simpa using Qu.Hd.new (W.alloc (.cells #[.string ⟨nm.toArray⟩, .int .i64 ag, .slice a1 l1 c1, .slice a2 l2 c2, .slice a3 l3 c3, .slice a4 l4 c4] 132)) (.cells #[.string ⟨nm.toArray⟩, .int .i64 ag, .slice d1 k1 e1, .slice d2 k2 e2, .slice d3 k3 e3, .slice d4 k4 e4] 132))
  have BA := Lib.hid (show Below W.heap.size W ((W.alloc (.cells #[.string ⟨nm.toArray⟩, .int .i64 ag, .slice a1 l1 c1, .slice a2 l2 c2, .slice a3 l3 c3, .slice a4 l4 c4] 132)).alloc (.cells #[.string ⟨nm.toArray⟩, .int .i64 ag, .slice d1 k1 e1, .slice d2 k2 e2, .slice d3 k3 e3, .slice d4 k4 e4] 132)) from ((Below.refl _ _).alloc (Nat.le_refl _) _).alloc (by simp) _)
  go_enter Tryz.func139, Tryz.ntmps139
  go_wp2_with fail
  refine (SG.out _ (HB.out.trans (BA.out.mono hB)) (Nat.le_trans hB BA.out.size)).mono ?_
  rintro e y0 ⟨rfl, hb2⟩
  have K0 := Lib.hid (K0.out.blw hb2)
  have K1 := Lib.hid (K1.out.blw hb2)
  have BA := Lib.hid (Po.belI_step BA.out hb2)
  clear hb2
  have k0 := K0.out
  have k1 := K1.out
  have m0_0 := cell_of_row y0 W.heap.size 0 _ _ _ k0
  have n0_0 := cell_of_row y0 (W.heap.size + 1) 0 _ _ _ k1
  have m0_1 := cell_of_row y0 W.heap.size 1 _ _ _ k0
  have n0_1 := cell_of_row y0 (W.heap.size + 1) 1 _ _ _ k1
  have m0_2 := cell_of_row y0 W.heap.size 2 _ _ _ k0
  have n0_2 := cell_of_row y0 (W.heap.size + 1) 2 _ _ _ k1
  have m0_3 := cell_of_row y0 W.heap.size 3 _ _ _ k0
  have n0_3 := cell_of_row y0 (W.heap.size + 1) 3 _ _ _ k1
  have m0_4 := cell_of_row y0 W.heap.size 4 _ _ _ k0
  have n0_4 := cell_of_row y0 (W.heap.size + 1) 4 _ _ _ k1
  have m0_5 := cell_of_row y0 W.heap.size 5 _ _ _ k0
  have n0_5 := cell_of_row y0 (W.heap.size + 1) 5 _ _ _ k1
  clear k0 k1
  go_wp2_with fail
  refine (SP.out _ (HB.out.trans (BA.out.mono hB)) (Nat.le_trans hB BA.out.size)).mono ?_
  rintro e y1 ⟨rfl, hb2⟩
  have K0 := Lib.hid (K0.out.blw hb2)
  have K1 := Lib.hid (K1.out.blw hb2)
  have BA := Lib.hid (Po.belI_step BA.out hb2)
  clear hb2
  have k0 := K0.out
  have k1 := K1.out
  have m1_0 := cell_of_row y1 W.heap.size 0 _ _ _ k0
  have n1_0 := cell_of_row y1 (W.heap.size + 1) 0 _ _ _ k1
  have m1_1 := cell_of_row y1 W.heap.size 1 _ _ _ k0
  have n1_1 := cell_of_row y1 (W.heap.size + 1) 1 _ _ _ k1
  have m1_2 := cell_of_row y1 W.heap.size 2 _ _ _ k0
  have n1_2 := cell_of_row y1 (W.heap.size + 1) 2 _ _ _ k1
  have m1_3 := cell_of_row y1 W.heap.size 3 _ _ _ k0
  have n1_3 := cell_of_row y1 (W.heap.size + 1) 3 _ _ _ k1
  have m1_4 := cell_of_row y1 W.heap.size 4 _ _ _ k0
  have n1_4 := cell_of_row y1 (W.heap.size + 1) 4 _ _ _ k1
  have m1_5 := cell_of_row y1 W.heap.size 5 _ _ _ k0
  have n1_5 := cell_of_row y1 (W.heap.size + 1) 5 _ _ _ k1
  clear k0 k1
  go_wp2_with fail
  refine (SQ.out _ (HB.out.trans (BA.out.mono hB)) (Nat.le_trans hB BA.out.size)).mono ?_
  rintro e y2 ⟨rfl, hb2⟩
  have K0 := Lib.hid (K0.out.blw hb2)
  have K1 := Lib.hid (K1.out.blw hb2)
  have BA := Lib.hid (Po.belI_step BA.out hb2)
  clear hb2
  have k0 := K0.out
  have k1 := K1.out
  have m2_0 := cell_of_row y2 W.heap.size 0 _ _ _ k0
  have n2_0 := cell_of_row y2 (W.heap.size + 1) 0 _ _ _ k1
  have m2_1 := cell_of_row y2 W.heap.size 1 _ _ _ k0
  have n2_1 := cell_of_row y2 (W.heap.size + 1) 1 _ _ _ k1
  have m2_2 := cell_of_row y2 W.heap.size 2 _ _ _ k0
  have n2_2 := cell_of_row y2 (W.heap.size + 1) 2 _ _ _ k1
  have m2_3 := cell_of_row y2 W.heap.size 3 _ _ _ k0
  have n2_3 := cell_of_row y2 (W.heap.size + 1) 3 _ _ _ k1
  have m2_4 := cell_of_row y2 W.heap.size 4 _ _ _ k0
  have n2_4 := cell_of_row y2 (W.heap.size + 1) 4 _ _ _ k1
  have m2_5 := cell_of_row y2 W.heap.size 5 _ _ _ k0
  have n2_5 := cell_of_row y2 (W.heap.size + 1) 5 _ _ _ k1
  clear k0 k1
  go_wp2
  go_ret
  exact ⟨rfl, BA.out⟩
set_option maxRecDepth 100000 in
set_option maxHeartbeats 4000000 in
theorem eqCns_self (B : Nat) (w0 : World) (xs : List Cn) (v u : Value) (h1 : CnIn (· < B) w0 v xs) (h2 : CnIn (· < B) w0 u xs) (W : World) (hb : Below B w0 W) (hB : B ≤ W.heap.size) :
    Calls Tryz.prog 69 #[v, u] W fun e w' => e = .returned (.bool true) ∧ Below W.heap.size W w' := by
  obtain ⟨a, cap, b, off, us, rfl, hcap, hm, hlen, ha, hc⟩ := h1
  obtain ⟨a', cap', b', off', us', rfl, hcap', hm', hlen', ha', hc'⟩ := h2
  have hn : xs.length ≤ 9223372036854775807 := by omega
  have HC := Lib.hid hc
  have HA := Lib.hid ha
  have HC' := Lib.hid hc'
  have HA' := Lib.hid ha'
  have HB := Lib.hid hb
  clear hc ha hc' ha' hb hlen hlen'
  have g1 : ((xs.length : Int) != (xs.length : Int)) = false := by simp
  go_enter Tryz.func69, Tryz.ntmps69
  go_wp2
  go_loopw [5] (fun i wr => ∃ k : Nat, k ≤ xs.length ∧ i = .int .i64 k ∧ Below W.heap.size W wr) (fun i _ => xs.length - (intOf i).toNat)
  case atStart => exact ⟨0, by omega, rfl, Below.refl _ _⟩
  case round =>
    obtain ⟨k, hk, rfl, hR⟩ := hrel
    by_cases hlt : k < xs.length
    · obtain ⟨ea, hlb⟩ := HA.out (by omega)
      obtain ⟨ea', hlb'⟩ := HA'.out (by omega)
      subst ea ea'
      have hW := HB.out.trans (hR.mono hB)
      obtain ⟨c0, c1, c2, c3, c4, c5, cN⟩ := HC.out k hlt
      obtain ⟨e0, e1, e2, e3, e4, e5, eN⟩ := HC'.out k hlt
      have q0 := (hW.cell (p := ⟨b, off + k * 6, none⟩) hlb).trans c0
      have q1 := (hW.cell (p := ⟨b, off + k * 6 + 1, none⟩) hlb).trans c1
      have q2 := (hW.cell (p := ⟨b, off + k * 6 + 2, none⟩) hlb).trans c2
      have q3 := (hW.cell (p := ⟨b, off + k * 6 + 3, none⟩) hlb).trans c3
      have q4 := (hW.cell (p := ⟨b, off + k * 6 + 4, none⟩) hlb).trans c4
      have q5 := (hW.cell (p := ⟨b, off + k * 6 + 5, none⟩) hlb).trans c5
      have r0 := (hW.cell (p := ⟨b', off' + k * 6, none⟩) hlb').trans e0
      have r1 := (hW.cell (p := ⟨b', off' + k * 6 + 1, none⟩) hlb').trans e1
      have r2 := (hW.cell (p := ⟨b', off' + k * 6 + 2, none⟩) hlb').trans e2
      have r3 := (hW.cell (p := ⟨b', off' + k * 6 + 3, none⟩) hlb').trans e3
      have r4 := (hW.cell (p := ⟨b', off' + k * 6 + 4, none⟩) hlb').trans e4
      have r5 := (hW.cell (p := ⟨b', off' + k * 6 + 5, none⟩) hlb').trans e5
      have HK := Lib.hid (fun (W' : World) (h : Below B w0 W') (h' : B ≤ W'.heap.size) => eqCn_self B w0 (xs.getD k default) (us k) (us' k) cN eN W' h h')
      clear hW c0 c1 c2 c3 c4 c5 e0 e1 e2 e3 e4 e5
      generalize us k = u at *
      generalize us' k = u' at *
      generalize xs.getD k default = x at *
      obtain ⟨u_tv, u_pv, u_iv, u_rv⟩ := u
      obtain ⟨v_tv, v_pv, v_iv, v_rv⟩ := u'
      obtain ⟨a0, l0, c0, rfl⟩ : ∃ a l c, u_tv = .slice a l c := cN.tv.slice
      obtain ⟨da0, dl0, dc0, rfl⟩ : ∃ a l c, v_tv = .slice a l c := eN.tv.slice
      obtain ⟨a1, l1, c1, rfl⟩ : ∃ a l c, u_pv = .slice a l c := cN.pv.slice
      obtain ⟨da1, dl1, dc1, rfl⟩ : ∃ a l c, v_pv = .slice a l c := eN.pv.slice
      obtain ⟨a2, l2, c2, rfl⟩ : ∃ a l c, u_iv = .slice a l c := cN.iv.slice
      obtain ⟨da2, dl2, dc2, rfl⟩ : ∃ a l c, v_iv = .slice a l c := eN.iv.slice
      obtain ⟨a3, l3, c3, rfl⟩ : ∃ a l c, u_rv = .slice a l c := cN.rv.slice
      obtain ⟨da3, dl3, dc3, rfl⟩ : ∃ a l c, v_rv = .slice a l c := eN.rv.slice
      clear cN eN
      go_wp2_with fail
      go_region_held3 (fun wx => wx.cell? ⟨b, off + k * 6, none⟩ = some (.string ⟨x.g.name.toArray⟩) ∧ wx.cell? ⟨b, off + k * 6 + 1, none⟩ = some (.int .i64 x.g.age) ∧ wx.cell? ⟨b, off + k * 6 + 2, none⟩ = some (.slice a0 l0 c0) ∧ wx.cell? ⟨b, off + k * 6 + 3, none⟩ = some (.slice a1 l1 c1) ∧ wx.cell? ⟨b, off + k * 6 + 4, none⟩ = some (.slice a2 l2 c2) ∧ wx.cell? ⟨b, off + k * 6 + 5, none⟩ = some (.slice a3 l3 c3) ∧ wx.cell? ⟨b', off' + k * 6, none⟩ = some (.string ⟨x.g.name.toArray⟩) ∧ wx.cell? ⟨b', off' + k * 6 + 1, none⟩ = some (.int .i64 x.g.age) ∧ wx.cell? ⟨b', off' + k * 6 + 2, none⟩ = some (.slice da0 dl0 dc0) ∧ wx.cell? ⟨b', off' + k * 6 + 3, none⟩ = some (.slice da1 dl1 dc1) ∧ wx.cell? ⟨b', off' + k * 6 + 4, none⟩ = some (.slice da2 dl2 dc2) ∧ wx.cell? ⟨b', off' + k * 6 + 5, none⟩ = some (.slice da3 dl3 dc3) ∧ Below W.heap.size W wx)
        (first
          | (simp [*, Below.drew]; done)
          | (go_split_ands
             have hz : B ≤ _ := Nat.le_trans hB (Below.size (by assumption))
             refine ⟨?_, ?_, ?_, ?_, ?_, ?_, ?_, ?_, ?_, ?_, ?_, ?_, Po.belI_step (by assumption) hb⟩
             · (rw [hb.cell (p := ⟨b, off + k * 6, none⟩) (Nat.lt_of_lt_of_le hlb hz)]; assumption)
             · (rw [hb.cell (p := ⟨b, off + k * 6 + 1, none⟩) (Nat.lt_of_lt_of_le hlb hz)]; assumption)
             · (rw [hb.cell (p := ⟨b, off + k * 6 + 2, none⟩) (Nat.lt_of_lt_of_le hlb hz)]; assumption)
             · (rw [hb.cell (p := ⟨b, off + k * 6 + 3, none⟩) (Nat.lt_of_lt_of_le hlb hz)]; assumption)
             · (rw [hb.cell (p := ⟨b, off + k * 6 + 4, none⟩) (Nat.lt_of_lt_of_le hlb hz)]; assumption)
             · (rw [hb.cell (p := ⟨b, off + k * 6 + 5, none⟩) (Nat.lt_of_lt_of_le hlb hz)]; assumption)
             · (rw [hb.cell (p := ⟨b', off' + k * 6, none⟩) (Nat.lt_of_lt_of_le hlb' hz)]; assumption)
             · (rw [hb.cell (p := ⟨b', off' + k * 6 + 1, none⟩) (Nat.lt_of_lt_of_le hlb' hz)]; assumption)
             · (rw [hb.cell (p := ⟨b', off' + k * 6 + 2, none⟩) (Nat.lt_of_lt_of_le hlb' hz)]; assumption)
             · (rw [hb.cell (p := ⟨b', off' + k * 6 + 3, none⟩) (Nat.lt_of_lt_of_le hlb' hz)]; assumption)
             · (rw [hb.cell (p := ⟨b', off' + k * 6 + 4, none⟩) (Nat.lt_of_lt_of_le hlb' hz)]; assumption)
             · (rw [hb.cell (p := ⟨b', off' + k * 6 + 5, none⟩) (Nat.lt_of_lt_of_le hlb' hz)]; assumption)))
        (first
          | (go_split_ands; go_at_call 139; have hbx : Below W.heap.size W _ := (by assumption); refine (HK.out _ (HB.out.trans (hbx.mono hB)) (Nat.le_trans hB hbx.size)).mono ?_; rintro e w1 ⟨rfl, hb⟩)
          | fail)
      go_split_ands
      rename_i hNW
      have HN := Lib.hid hNW
      clear hNW
      go_wp2
      go_roundw
      case rel => exact ⟨k + 1, by omega, by go_num, HN.out⟩
      case measure => simp [intOf]; omega
    · go_wp2
      go_ret
      exact ⟨rfl, hR⟩
set_option maxRecDepth 100000 in
set_option maxHeartbeats 4000000 in
theorem eqPp_self (B : Nat) (w0 : World) (p : Pp) (u u' : PV) (h : PpN (· < B) w0 u p) (h' : PpN (· < B) w0 u' p) (W : World) (hb : Below B w0 W) (hB : B ≤ W.heap.size) :
    Calls Tryz.prog 18 #[pV8 p u, pV8 p u'] W fun e w' => e = .returned (.bool true) ∧ Below W.heap.size W w' := by
  obtain ⟨chs, ⟨rp, uris, rules⟩, now, next, log, ws⟩ := p
  obtain ⟨u_cv, u_uv, u_rv, u_lv, u_wv⟩ := u
  obtain ⟨v_cv, v_uv, v_rv, v_lv, v_wv⟩ := u'
  obtain ⟨hcv, huv, hrv, hlv, hwv⟩ := h
  obtain ⟨hcv', huv', hrv', hlv', hwv'⟩ := h'
  simp only at hcv huv hrv hlv hwv hcv' huv' hrv' hlv' hwv'
  have SC := Lib.hid (eqCns_self B w0 chs u_cv v_cv hcv hcv')
  have SP := Lib.hid (eqP_self B w0 ⟨rp, uris, rules⟩ u_uv u_rv v_uv v_rv huv hrv huv' hrv')
  have SE := Lib.hid (eqEns_self B w0 log u_lv v_lv hlv hlv')
  have SW := Lib.hid (eqWis_self B w0 ws u_wv v_wv hwv hwv')
  obtain ⟨a1, l1, c1, rfl⟩ := hcv.slice
  obtain ⟨a2, l2, c2, rfl⟩ := huv.slice
  obtain ⟨a3, l3, c3, rfl⟩ := hrv.slice
  obtain ⟨a4, l4, c4, rfl⟩ := hlv.slice
  obtain ⟨a5, l5, c5, rfl⟩ := hwv.slice
  obtain ⟨d1, k1, e1, rfl⟩ := hcv'.slice
  obtain ⟨d2, k2, e2, rfl⟩ := huv'.slice
  obtain ⟨d3, k3, e3, rfl⟩ := hrv'.slice
  obtain ⟨d4, k4, e4, rfl⟩ := hlv'.slice
  obtain ⟨d5, k5, e5, rfl⟩ := hwv'.slice
  clear hcv huv hrv hlv hwv hcv' huv' hrv' hlv' hwv'
  have HB := Lib.hid hb
  clear hb
  have ea0 : (now == now) = true := by simp
  have eb0 : (now != now) = false := by simp
  have ea1 : (next == next) = true := by simp
  have eb1 : (next != next) = false := by simp
  have K0 := Lib.hid ((Qu.Hd.new W (.cells #[.slice a1 l1 c1, .string ⟨rp.toArray⟩, .slice a2 l2 c2, .slice a3 l3 c3, .int .i64 now, .int .i64 next, .slice a4 l4 c4, .slice a5 l5 c5] 41)).al (.cells #[.slice d1 k1 e1, .string ⟨rp.toArray⟩, .slice d2 k2 e2, .slice d3 k3 e3, .int .i64 now, .int .i64 next, .slice d4 k4 e4, .slice d5 k5 e5] 41))
  have K1 := Lib.hid (show Qu.Hd ((W.alloc (.cells #[.slice a1 l1 c1, .string ⟨rp.toArray⟩, .slice a2 l2 c2, .slice a3 l3 c3, .int .i64 now, .int .i64 next, .slice a4 l4 c4, .slice a5 l5 c5] 41)).alloc (.cells #[.slice d1 k1 e1, .string ⟨rp.toArray⟩, .slice d2 k2 e2, .slice d3 k3 e3, .int .i64 now, .int .i64 next, .slice d4 k4 e4, .slice d5 k5 e5] 41)) (W.heap.size + 1) (.cells #[.slice d1 k1 e1, .string ⟨rp.toArray⟩, .slice d2 k2 e2, .slice d3 k3 e3, .int .i64 now, .int .i64 next, .slice d4 k4 e4, .slice d5 k5 e5] 41) by simpa using Qu.Hd.new (W.alloc (.cells #[.slice a1 l1 c1, .string ⟨rp.toArray⟩, .slice a2 l2 c2, .slice a3 l3 c3, .int .i64 now, .int .i64 next, .slice a4 l4 c4, .slice a5 l5 c5] 41)) (.cells #[.slice d1 k1 e1, .string ⟨rp.toArray⟩, .slice d2 k2 e2, .slice d3 k3 e3, .int .i64 now, .int .i64 next, .slice d4 k4 e4, .slice d5 k5 e5] 41))
  have BA := Lib.hid (show Below W.heap.size W ((W.alloc (.cells #[.slice a1 l1 c1, .string ⟨rp.toArray⟩, .slice a2 l2 c2, .slice a3 l3 c3, .int .i64 now, .int .i64 next, .slice a4 l4 c4, .slice a5 l5 c5] 41)).alloc (.cells #[.slice d1 k1 e1, .string ⟨rp.toArray⟩, .slice d2 k2 e2, .slice d3 k3 e3, .int .i64 now, .int .i64 next, .slice d4 k4 e4, .slice d5 k5 e5] 41)) from ((Below.refl _ _).alloc (Nat.le_refl _) _).alloc (by simp) _)
  go_enter Tryz.func18, Tryz.ntmps18
  go_wp2_with fail
  refine (SC.out _ (HB.out.trans (BA.out.mono hB)) (Nat.le_trans hB BA.out.size)).mono ?_
  rintro e y0 ⟨rfl, hb2⟩
  have K0 := Lib.hid (K0.out.blw hb2)
  have K1 := Lib.hid (K1.out.blw hb2)
  have BA := Lib.hid (Po.belI_step BA.out hb2)
  clear hb2
  have k0 := K0.out
  have k1 := K1.out
  have m0_0 := cell_of_row y0 W.heap.size 0 _ _ _ k0
  have n0_0 := cell_of_row y0 (W.heap.size + 1) 0 _ _ _ k1
  have m0_1 := cell_of_row y0 W.heap.size 1 _ _ _ k0
  have n0_1 := cell_of_row y0 (W.heap.size + 1) 1 _ _ _ k1
  have m0_2 := cell_of_row y0 W.heap.size 2 _ _ _ k0
  have n0_2 := cell_of_row y0 (W.heap.size + 1) 2 _ _ _ k1
  have m0_3 := cell_of_row y0 W.heap.size 3 _ _ _ k0
  have n0_3 := cell_of_row y0 (W.heap.size + 1) 3 _ _ _ k1
  have m0_4 := cell_of_row y0 W.heap.size 4 _ _ _ k0
  have n0_4 := cell_of_row y0 (W.heap.size + 1) 4 _ _ _ k1
  have m0_5 := cell_of_row y0 W.heap.size 5 _ _ _ k0
  have n0_5 := cell_of_row y0 (W.heap.size + 1) 5 _ _ _ k1
  have m0_6 := cell_of_row y0 W.heap.size 6 _ _ _ k0
  have n0_6 := cell_of_row y0 (W.heap.size + 1) 6 _ _ _ k1
  have m0_7 := cell_of_row y0 W.heap.size 7 _ _ _ k0
  have n0_7 := cell_of_row y0 (W.heap.size + 1) 7 _ _ _ k1
  clear k0 k1
  go_wp2_with fail
  refine (SP.out _ (HB.out.trans (BA.out.mono hB)) (Nat.le_trans hB BA.out.size)).mono ?_
  rintro e y1 ⟨rfl, hb2⟩
  have K0 := Lib.hid (K0.out.blw hb2)
  have K1 := Lib.hid (K1.out.blw hb2)
  have BA := Lib.hid (Po.belI_step BA.out hb2)
  clear hb2
  have k0 := K0.out
  have k1 := K1.out
  have m1_0 := cell_of_row y1 W.heap.size 0 _ _ _ k0
  have n1_0 := cell_of_row y1 (W.heap.size + 1) 0 _ _ _ k1
  have m1_1 := cell_of_row y1 W.heap.size 1 _ _ _ k0
  have n1_1 := cell_of_row y1 (W.heap.size + 1) 1 _ _ _ k1
  have m1_2 := cell_of_row y1 W.heap.size 2 _ _ _ k0
  have n1_2 := cell_of_row y1 (W.heap.size + 1) 2 _ _ _ k1
  have m1_3 := cell_of_row y1 W.heap.size 3 _ _ _ k0
  have n1_3 := cell_of_row y1 (W.heap.size + 1) 3 _ _ _ k1
  have m1_4 := cell_of_row y1 W.heap.size 4 _ _ _ k0
  have n1_4 := cell_of_row y1 (W.heap.size + 1) 4 _ _ _ k1
  have m1_5 := cell_of_row y1 W.heap.size 5 _ _ _ k0
  have n1_5 := cell_of_row y1 (W.heap.size + 1) 5 _ _ _ k1
  have m1_6 := cell_of_row y1 W.heap.size 6 _ _ _ k0
  have n1_6 := cell_of_row y1 (W.heap.size + 1) 6 _ _ _ k1
  have m1_7 := cell_of_row y1 W.heap.size 7 _ _ _ k0
  have n1_7 := cell_of_row y1 (W.heap.size + 1) 7 _ _ _ k1
  clear k0 k1
  go_wp2_with fail
  refine (SE.out _ (HB.out.trans (BA.out.mono hB)) (Nat.le_trans hB BA.out.size)).mono ?_
  rintro e y2 ⟨rfl, hb2⟩
  have K0 := Lib.hid (K0.out.blw hb2)
  have K1 := Lib.hid (K1.out.blw hb2)
  have BA := Lib.hid (Po.belI_step BA.out hb2)
  clear hb2
  have k0 := K0.out
  have k1 := K1.out
  have m2_0 := cell_of_row y2 W.heap.size 0 _ _ _ k0
  have n2_0 := cell_of_row y2 (W.heap.size + 1) 0 _ _ _ k1
  have m2_1 := cell_of_row y2 W.heap.size 1 _ _ _ k0
  have n2_1 := cell_of_row y2 (W.heap.size + 1) 1 _ _ _ k1
  have m2_2 := cell_of_row y2 W.heap.size 2 _ _ _ k0
  have n2_2 := cell_of_row y2 (W.heap.size + 1) 2 _ _ _ k1
  have m2_3 := cell_of_row y2 W.heap.size 3 _ _ _ k0
  have n2_3 := cell_of_row y2 (W.heap.size + 1) 3 _ _ _ k1
  have m2_4 := cell_of_row y2 W.heap.size 4 _ _ _ k0
  have n2_4 := cell_of_row y2 (W.heap.size + 1) 4 _ _ _ k1
  have m2_5 := cell_of_row y2 W.heap.size 5 _ _ _ k0
  have n2_5 := cell_of_row y2 (W.heap.size + 1) 5 _ _ _ k1
  have m2_6 := cell_of_row y2 W.heap.size 6 _ _ _ k0
  have n2_6 := cell_of_row y2 (W.heap.size + 1) 6 _ _ _ k1
  have m2_7 := cell_of_row y2 W.heap.size 7 _ _ _ k0
  have n2_7 := cell_of_row y2 (W.heap.size + 1) 7 _ _ _ k1
  clear k0 k1
  go_wp2_with fail
  refine (SW.out _ (HB.out.trans (BA.out.mono hB)) (Nat.le_trans hB BA.out.size)).mono ?_
  rintro e y3 ⟨rfl, hb2⟩
  have K0 := Lib.hid (K0.out.blw hb2)
  have K1 := Lib.hid (K1.out.blw hb2)
  have BA := Lib.hid (Po.belI_step BA.out hb2)
  clear hb2
  have k0 := K0.out
  have k1 := K1.out
  have m3_0 := cell_of_row y3 W.heap.size 0 _ _ _ k0
  have n3_0 := cell_of_row y3 (W.heap.size + 1) 0 _ _ _ k1
  have m3_1 := cell_of_row y3 W.heap.size 1 _ _ _ k0
  have n3_1 := cell_of_row y3 (W.heap.size + 1) 1 _ _ _ k1
  have m3_2 := cell_of_row y3 W.heap.size 2 _ _ _ k0
  have n3_2 := cell_of_row y3 (W.heap.size + 1) 2 _ _ _ k1
  have m3_3 := cell_of_row y3 W.heap.size 3 _ _ _ k0
  have n3_3 := cell_of_row y3 (W.heap.size + 1) 3 _ _ _ k1
  have m3_4 := cell_of_row y3 W.heap.size 4 _ _ _ k0
  have n3_4 := cell_of_row y3 (W.heap.size + 1) 4 _ _ _ k1
  have m3_5 := cell_of_row y3 W.heap.size 5 _ _ _ k0
  have n3_5 := cell_of_row y3 (W.heap.size + 1) 5 _ _ _ k1
  have m3_6 := cell_of_row y3 W.heap.size 6 _ _ _ k0
  have n3_6 := cell_of_row y3 (W.heap.size + 1) 6 _ _ _ k1
  have m3_7 := cell_of_row y3 W.heap.size 7 _ _ _ k0
  have n3_7 := cell_of_row y3 (W.heap.size + 1) 7 _ _ _ k1
  clear k0 k1
  go_wp2
  go_ret
  exact ⟨rfl, BA.out⟩
end Go.Proofs.YtmaknkbmilcanaaGreatDoor.Pi
