
/-
  An argument of type []byte, opened.
-/
import Derived.Test.YtjjabbdnoapnkabDoorDrawVal
import Derived.ProofKit
import Derived.OpenShut
import Derived.ChangeSlices
namespace Go.Proofs.YtjjabbdnoapnkabDoor.Dr
open Go.RowKit
open Go.ChangeShapes Go.WideShapes Go.ChangeAt
theorem open_bytes {H : Type} {enc : TypeId × Value → H} {W : World} {r : Reach} {b0 : Nat} {v : Value} {d : DataW H} {p : List MemPlace} (hv : Value.okWide Tryd.prog W r b0 22 v) (h : DataW.Trod enc Tryd.prog W 0 (fun _ => true) true 22 v d p) :
    ∃ (a : Option Addr) (code : List UInt8) (cap : Nat), v = .slice a code.length cap ∧ code.length ≤ maxLen ∧ CodeIn W v code := by
  obtain ⟨a0, len, cap, rfl⟩ := okWide_slice Tryd.underlying22 hv
  obtain ⟨fuel, hf⟩ := h
  rcases open_ints Tryd.underlying22 Tryd.underlying5 (by kernel_rfl) hf with ⟨hcs, _⟩ | ⟨a, len', cap', zs, hcs, _, hl, hm, hz, _, hcell, hwf⟩
  · simp [Value.cells] at hcs
    obtain ⟨rfl, rfl, rfl⟩ := hcs
    exact ⟨none, [], 0, rfl, by simp [maxLen], none, 0, rfl, .inl rfl⟩
  · simp [Value.cells] at hcs
    obtain ⟨rfl, rfl, rfl⟩ := hcs
    simp only [if_true] at hz
    have hlen : ((zs.take len).map (fun z => UInt8.ofNat z.toNat)).length = len := by simp; omega
    refine ⟨some a, (zs.take len).map (fun z => UInt8.ofNat z.toNat), cap, by rw [hlen], by rw [hlen]; omega, some a, cap, by rw [hlen], ?_⟩
    by_cases h0 : len = 0
    · exact .inl (by rw [hlen]; exact h0)
    · refine .inr ?_
      have c0 := hcell 0 (by omega)
      obtain ⟨b, off, spot⟩ := a
      have hspot : spot = none := by simpa [Addr.add] using World.cell?_spot c0
      subst hspot
      refine ⟨b, off, rfl, by have := World.block_lt_of_cell? _ _ c0; simpa [add_plain] using this, fun j hj => ?_⟩
      rw [hlen] at hj
      have cj := hcell j (by omega)
      rw [add_plain] at cj
      rw [cj]
      have hjz : j < zs.length := by omega
      have hw := hwf zs[j] (List.getElem_mem hjz)
      simp only [Lit.wf, Bool.and_eq_true, decide_eq_true_eq] at hw
      rw [show IntKind.u8.min = 0 from rfl, show IntKind.u8.max = 255 from rfl] at hw
      have e1 : zs.getD j 0 = zs[j] := by simp [List.getD, hjz]
      have e2 : (((zs.take len).map (fun z => UInt8.ofNat z.toNat)).getD j 0).toNat = zs[j].toNat := by
        have hjt : j < (zs.take len).length := by simp; omega
        simp only [List.getD_eq_getElem?_getD, List.getElem?_map, List.getElem?_take, hj, if_true, List.getElem?_eq_getElem hjz, Option.map_some, Option.getD_some]
        simp
        omega
      rw [e1, e2]
      congr 2
      omega
end Go.Proofs.YtjjabbdnoapnkabDoor.Dr
