
/-
  The program's reader of JSON, walked: whitespace, a part that is next, what stands behind a backslash.
-/
import Derived.Test.YtjakkmjipglkiaaDoorRdH
import Derived.Test.YtjakkmjipglkiaaDoorRdM
import Derived.Test.YtjakkmjipglkiaaDoorUrlSpecA
import Derived.Shelf.Strings.SlTrimAscii
import Derived.BigQuiet
namespace Go.Proofs.YtjakkmjipglkiaaDoor.Rd
open Go.RowKit
open Go.Proofs.YtjakkmjipglkiaaDoor.Rm
/-- the program's reader -/
abbrev rdO (bs : B) : Obj := .cells #[.string ⟨bs.toArray⟩] 32
abbrev ptI (R : Nat) : Value := .pointer (some ⟨R, 0, none⟩)
/-- the variable strconv.ErrSyntax holds an error -/
def SynV (w : World) : Prop := ∃ u x, w.cell? ⟨2, 0, none⟩ = some (.iface u x)
theorem SynV.lt {w : World} (h : SynV w) : 2 < w.heap.size := by
  obtain ⟨u, x, h⟩ := h
  exact World.block_lt_of_cell? _ _ h
theorem SynV.ch {S : Nat → Prop} {w w' : World} (h : SynV w) (hc : Ch S w w') (hS : ¬ S 2) : SynV w' := by
  have hlt := h.lt
  obtain ⟨u, x, h⟩ := h
  exact ⟨u, x, (World.cell?_of_block (w := w) (a := ⟨2, 0, none⟩) (hc.block _ hlt hS)).trans h⟩
theorem SynV.below {w w' : World} (h : SynV w) (hb : Below w.heap.size w w') : SynV w' := h.ch (S := fun _ => False) (.of_below hb) (fun h => h)
theorem trimI_any (bs cs : B) (w : World) (hc : cs.length < 4294967281) (ha : cs.all (fun b => decide (b.toNat < 128)) = true) : Calls Tryd.prog 26 #[.string ⟨bs.toArray⟩, .string ⟨cs.toArray⟩] w fun e w' => e = .returned (.string ⟨(Lib.trimLeftS bs cs).toArray⟩) ∧ Below w.heap.size w w' :=
  Any.strings_TrimLeft_laid Tryd.lays161 (by kernel_rfl) ⟨bs.toArray⟩ ⟨cs.toArray⟩ w hc (ascii_of_all ha)
theorem cutI_any (bs p : B) (w : World) : Calls Tryd.prog 35 #[.string ⟨bs.toArray⟩, .string ⟨p.toArray⟩] w fun e w' => e = .returned (.tuple #[.string ⟨(Lib.trimPrefix bs p).toArray⟩, .bool (Lib.hasPrefix bs p)]) ∧ w = w' :=
  (Tryd.strings_CutPrefix ⟨bs.toArray⟩ ⟨p.toArray⟩ w).mono fun _ _ ⟨h1, h2⟩ => ⟨h1, h2.symm⟩
set_option maxRecDepth 100000 in
set_option maxHeartbeats 1000000 in
theorem skipI_any (R : Nat) (bs : B) (W : World) (h : Hd W R (rdO bs)) : Calls Tryd.prog 11 #[ptI R] W fun e w' => e = .returned (.tuple #[]) ∧ Hd w' R (rdO (trim bs)) ∧ Ch (· = R) W w' := by
  have HT := Lib.hid (fun w => trimI_any bs [32, 9, 10, 13] w (by decide) (by decide))
  obtain ⟨c0, f0⟩ := h.one
  have H := Lib.hid h
  have hlt := h.lt
  clear h
  go_enter Tryd.func11, Tryd.ntmps11
  go_wp2_with fail
  refine (HT.out _).mono ?_
  rintro e w1 ⟨rfl, hb⟩
  have h1 := H.out.blw hb
  obtain ⟨d0, e0⟩ := h1.one
  have hl1 := h1.lt
  have H1 := Lib.hid h1
  have HC := Lib.hid (Ch.of_below (S := (· = R)) hb)
  clear h1 hb c0 f0
  go_wp2
  go_end0
  exact ⟨rfl, H1.out.set1 _, HC.out.set rfl⟩
set_option maxRecDepth 100000 in
set_option maxHeartbeats 1000000 in
theorem takeI_any (R : Nat) (bs p : B) (W : World) (h : Hd W R (rdO bs)) : Calls Tryd.prog 21 #[ptI R, .string ⟨p.toArray⟩] W fun e w' => e = .returned (.bool (Lib.hasPrefix (trim bs) p)) ∧ Hd w' R (rdO (Lib.trimPrefix (trim bs) p)) ∧ Ch (· = R) W w' := by
  have HK := Lib.hid (skipI_any R bs W h)
  have HT := Lib.hid (fun w => cutI_any (trim bs) p w)
  generalize trim bs = ts at *
  generalize Lib.hasPrefix ts p = r at *
  generalize Lib.trimPrefix ts p = us at *
  clear h
  go_enter Tryd.func21, Tryd.ntmps21
  go_wp2_with fail
  refine HK.out.mono ?_
  rintro e w1 ⟨rfl, h1, hc⟩
  obtain ⟨d0, e0⟩ := h1.one
  have hl1 := h1.lt
  have H1 := Lib.hid h1
  have HC := Lib.hid hc
  clear h1 hc
  go_wp2_with fail
  refine (HT.out _).mono ?_
  rintro e w2 ⟨rfl, rfl⟩
  go_wp2
  go_ret
  exact ⟨rfl, H1.out.set1 _, HC.out.set rfl⟩
end Go.Proofs.YtjakkmjipglkiaaDoor.Rd
