
/-
  A URL in memory: the block of nine cells that holds its fields; the result of a call that returns one.
-/
import Derived.Test.YtmaknkbmilcanaaGreatDoorChecked
import Derived.Test.YtmaknkbmilcanaaGreatDoorUrlPlain
import Derived.WalkKit
import Derived.Deep.RegionHeld
import Derived.Deep.Draws
namespace Go.Proofs.YtmaknkbmilcanaaGreatDoor.Ul
open Go.RowKit
abbrev uV (u : U) : Value := .agg #[.string ⟨u.sch.toArray⟩, .string ⟨u.usr.toArray⟩, .string ⟨u.hst.toArray⟩, .int .i64 u.prt, .string ⟨u.pth.toArray⟩, .string ⟨u.qry.toArray⟩, .string ⟨u.frg.toArray⟩, .bool u.hq, .bool u.hf]
theorem ret_url2 {fn : Func} {a s B : Nat} {tmps : Array Value} {X : World} {c : Value} {u : U} (hres : fn.results = #[.cell a 264, .tmp s]) (ha : tmps[a]?.getD undef = .pointer (some ⟨B, 0, none⟩)) (hs : tmps[s]?.getD undef = c)
    (k0 : X.cell? ⟨B, 0, none⟩ = some (.string ⟨u.sch.toArray⟩)) (k1 : X.cell? ⟨B, 1, none⟩ = some (.string ⟨u.usr.toArray⟩)) (k2 : X.cell? ⟨B, 2, none⟩ = some (.string ⟨u.hst.toArray⟩)) (k3 : X.cell? ⟨B, 3, none⟩ = some (.int .i64 u.prt)) (k4 : X.cell? ⟨B, 4, none⟩ = some (.string ⟨u.pth.toArray⟩)) (k5 : X.cell? ⟨B, 5, none⟩ = some (.string ⟨u.qry.toArray⟩)) (k6 : X.cell? ⟨B, 6, none⟩ = some (.string ⟨u.frg.toArray⟩)) (k7 : X.cell? ⟨B, 7, none⟩ = some (.bool u.hq)) (k8 : X.cell? ⟨B, 8, none⟩ = some (.bool u.hf)) :
    (results fn tmps).run Tryz.prog X = .ok (.tuple #[uV u, c]) X := by
  simp [results, hres, ha, hs, go_sem, k0, k1, k2, k3, k4, k5, k6, k7, k8]
/-- The block b holds the nine fields of u. -/
structure UAt (w : World) (b : Nat) (u : U) : Prop where
  k0 : w.cell? ⟨b, 0, none⟩ = some (.string ⟨u.sch.toArray⟩)
  k1 : w.cell? ⟨b, 1, none⟩ = some (.string ⟨u.usr.toArray⟩)
  k2 : w.cell? ⟨b, 2, none⟩ = some (.string ⟨u.hst.toArray⟩)
  k3 : w.cell? ⟨b, 3, none⟩ = some (.int .i64 u.prt)
  k4 : w.cell? ⟨b, 4, none⟩ = some (.string ⟨u.pth.toArray⟩)
  k5 : w.cell? ⟨b, 5, none⟩ = some (.string ⟨u.qry.toArray⟩)
  k6 : w.cell? ⟨b, 6, none⟩ = some (.string ⟨u.frg.toArray⟩)
  k7 : w.cell? ⟨b, 7, none⟩ = some (.bool u.hq)
  k8 : w.cell? ⟨b, 8, none⟩ = some (.bool u.hf)
  kf : ∀ o, w.frozen? ⟨b, o, none⟩ = false
theorem UAt.same {w w1 : World} {b : Nat} {u : U} (h : UAt w b u) (hb : ∀ o, w1.cell? ⟨b, o, none⟩ = w.cell? ⟨b, o, none⟩) (hf : ∀ o, w1.frozen? ⟨b, o, none⟩ = w.frozen? ⟨b, o, none⟩) : UAt w1 b u :=
  ⟨(hb 0).trans h.k0, (hb 1).trans h.k1, (hb 2).trans h.k2, (hb 3).trans h.k3, (hb 4).trans h.k4, (hb 5).trans h.k5, (hb 6).trans h.k6, (hb 7).trans h.k7, (hb 8).trans h.k8, fun o => (hf o).trans (h.kf o)⟩
theorem UAt.below {W w1 : World} {b : Nat} {u : U} (h : UAt W b u) (hb : Below W.heap.size W w1) (hlt : b < W.heap.size) : UAt w1 b u :=
  h.same (fun _ => hb.cell (p := ⟨b, _, none⟩) hlt) (fun _ => hb.frozen (p := ⟨b, _, none⟩) hlt)
theorem UAt.new (w : World) (u : U) : UAt (w.alloc (.cells #[.string ⟨u.sch.toArray⟩, .string ⟨u.usr.toArray⟩, .string ⟨u.hst.toArray⟩, .int .i64 u.prt, .string ⟨u.pth.toArray⟩, .string ⟨u.qry.toArray⟩, .string ⟨u.frg.toArray⟩, .bool u.hq, .bool u.hf] 264)) w.heap.size u := by
  refine ⟨?_, ?_, ?_, ?_, ?_, ?_, ?_, ?_, ?_, fun o => World.frozen?_alloc_at _ _ _ _ rfl⟩ <;> (rw [World.cell?_alloc_at _ _ _ _ rfl]; rfl)
theorem UAt.alloc {w : World} {b : Nat} {u : U} (h : UAt w b u) (o : Obj) (hlt : b < w.heap.size) : UAt (w.alloc o) b u :=
  h.same (fun _ => World.cell?_alloc_past _ _ _ hlt) (fun _ => World.frozen?_alloc_past _ _ _ hlt)
theorem UAt.far {w : World} {b : Nat} {u : U} (h : UAt w b u) (p : Addr) (v : Value) (hne : p.block ≠ b) : UAt (w.setCell p v) b u :=
  h.same (fun _ => World.cell?_setCell_far _ _ _ _ hne) (fun _ => World.frozen?_setCell _ _ _ _)
theorem UAt.host {w : World} {b : Nat} {u : U} (h : UAt w b u) (l : List UInt8) : UAt (w.setCell ⟨b, 2, none⟩ (.string ⟨l.toArray⟩)) b { u with hst := l } := by
  obtain ⟨k0, k1, k2, k3, k4, k5, k6, k7, k8, kf⟩ := h
  refine ⟨?_, ?_, World.cell?_setCell_same _ _ _ k2, ?_, ?_, ?_, ?_, ?_, ?_, fun o => (World.frozen?_setCell _ _ _ _).trans (kf o)⟩ <;> (rw [World.cell?_setCell_other _ _ _ _ (by simp)]; assumption)
theorem UAt.port {w : World} {b : Nat} {u : U} (h : UAt w b u) (n : Int) : UAt (w.setCell ⟨b, 3, none⟩ (.int .i64 n)) b { u with prt := n } := by
  obtain ⟨k0, k1, k2, k3, k4, k5, k6, k7, k8, kf⟩ := h
  refine ⟨?_, ?_, ?_, World.cell?_setCell_same _ _ _ k3, ?_, ?_, ?_, ?_, ?_, fun o => (World.frozen?_setCell _ _ _ _).trans (kf o)⟩ <;> (rw [World.cell?_setCell_other _ _ _ _ (by simp)]; assumption)
theorem UAt.user {w : World} {b : Nat} {u : U} (h : UAt w b u) (l : List UInt8) : UAt (w.setCell ⟨b, 1, none⟩ (.string ⟨l.toArray⟩)) b { u with usr := l } := by
  obtain ⟨k0, k1, k2, k3, k4, k5, k6, k7, k8, kf⟩ := h
  refine ⟨?_, World.cell?_setCell_same _ _ _ k1, ?_, ?_, ?_, ?_, ?_, ?_, ?_, fun o => (World.frozen?_setCell _ _ _ _).trans (kf o)⟩ <;> (rw [World.cell?_setCell_other _ _ _ _ (by simp)]; assumption)
theorem UAt.path {w : World} {b : Nat} {u : U} (h : UAt w b u) (l : List UInt8) : UAt (w.setCell ⟨b, 4, none⟩ (.string ⟨l.toArray⟩)) b { u with pth := l } := by
  obtain ⟨k0, k1, k2, k3, k4, k5, k6, k7, k8, kf⟩ := h
  refine ⟨?_, ?_, ?_, ?_, World.cell?_setCell_same _ _ _ k4, ?_, ?_, ?_, ?_, fun o => (World.frozen?_setCell _ _ _ _).trans (kf o)⟩ <;> (rw [World.cell?_setCell_other _ _ _ _ (by simp)]; assumption)
theorem UAt.query {w : World} {b : Nat} {u : U} (h : UAt w b u) (l : List UInt8) : UAt (w.setCell ⟨b, 5, none⟩ (.string ⟨l.toArray⟩)) b { u with qry := l } := by
  obtain ⟨k0, k1, k2, k3, k4, k5, k6, k7, k8, kf⟩ := h
  refine ⟨?_, ?_, ?_, ?_, ?_, World.cell?_setCell_same _ _ _ k5, ?_, ?_, ?_, fun o => (World.frozen?_setCell _ _ _ _).trans (kf o)⟩ <;> (rw [World.cell?_setCell_other _ _ _ _ (by simp)]; assumption)
theorem UAt.frag {w : World} {b : Nat} {u : U} (h : UAt w b u) (l : List UInt8) : UAt (w.setCell ⟨b, 6, none⟩ (.string ⟨l.toArray⟩)) b { u with frg := l } := by
  obtain ⟨k0, k1, k2, k3, k4, k5, k6, k7, k8, kf⟩ := h
  refine ⟨?_, ?_, ?_, ?_, ?_, ?_, World.cell?_setCell_same _ _ _ k6, ?_, ?_, fun o => (World.frozen?_setCell _ _ _ _).trans (kf o)⟩ <;> (rw [World.cell?_setCell_other _ _ _ _ (by simp)]; assumption)
theorem UAt.drewN {w : World} {b : Nat} {u : U} (h : UAt w b u) (n : Nat) : UAt (w.drewN n) b u := h.same (fun _ => rfl) (fun _ => rfl)
theorem UAt.drew {w : World} {b : Nat} {u : U} (h : UAt w b u) : UAt w.drew b u := h.same (fun _ => rfl) (fun _ => rfl)
end Go.Proofs.YtmaknkbmilcanaaGreatDoor.Ul
