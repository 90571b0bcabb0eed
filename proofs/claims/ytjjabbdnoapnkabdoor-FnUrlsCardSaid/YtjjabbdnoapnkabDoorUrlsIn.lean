
/-
  What the law FnUrls calls, each in one; a []byte argument, opened with its capacity.
-/
import Derived.Test.YtjjabbdnoapnkabDoorBytesArg
import Derived.Test.YtjjabbdnoapnkabDoorStripIn
import Derived.Test.YtjjabbdnoapnkabDoorUrlLawD
import Derived.Test.YtjjabbdnoapnkabDoorAnyUrl
namespace Go.Proofs.YtjjabbdnoapnkabDoor.Ul
open Go.RowKit
theorem iText_ok (u : U) (w : World) (hT : Tab w) (hl : sizeU u ≤ 281474976710656) (hok : okB u = true) : Calls Tryd.prog 5 #[uV u] w fun e w' => e = .returned (.tuple #[.string ⟨(textL u).toArray⟩, .int .i64 0]) ∧ Below w.heap.size w w' :=
  iText_yes u.sch u.usr u.hst u.pth u.qry u.frg u.prt u.hq u.hf w hT (by unfold sizeU at hl; omega) hok
theorem sText_ok (u : U) (w : World) (hp1 : u.prt ≤ 9223372036854775807) (hl : sizeU u ≤ 281474976710656) (hok : okB u = true) : Calls Tryd.prog 6 #[uV u] w fun e w' => e = .returned (.tuple #[.string ⟨(textL u).toArray⟩, .int .i64 0]) ∧ Below w.heap.size w w' :=
  sText_yes u.sch u.usr u.hst u.pth u.qry u.frg u.prt u.hq u.hf w hp1 (by unfold sizeU at hl; omega) hok
theorem iOK_any (u : U) (w : World) (hT : Tab w) (hl : sizeU u ≤ 281474976710656) : Calls Tryd.prog 8 #[uV u] w fun e w' => e = .returned (.bool (okB u)) ∧ Below w.heap.size w w' :=
  UrlOK_any u.sch u.usr u.hst u.pth u.qry u.frg u.prt u.hq u.hf w hT (by unfold sizeU at hl; omega)
def sameU (a b : U) : Bool := okB a && okB b && (webB a.sch && (a.sch == b.sch) && (a.hst == b.hst) && (a.prt == b.prt))
theorem sameU_symm (a b : U) : sameU a b = sameU b a := by
  unfold sameU
  by_cases h : a.sch = b.sch
  · rw [h, beq_self_eq_true, Bool.beq_comm (a := a.hst) (b := b.hst), Bool.and_comm (okB a) (okB b), show (a.prt == b.prt) = (b.prt == a.prt) from Bool.beq_comm]
  · have h1 : (a.sch == b.sch) = false := by simpa using h
    have h2 : (b.sch == a.sch) = false := by simpa using fun e => h e.symm
    simp [h1, h2]
theorem sSameU (a b : U) (w : World) (hp1 : a.prt ≤ 9223372036854775807) (hp2 : b.prt ≤ 9223372036854775807) (hl : sizeU a ≤ 281474976710656) (hl2 : sizeU b ≤ 281474976710656) : Calls Tryd.prog 17 #[uV a, uV b] w fun e w' => e = .returned (.bool (sameU a b)) ∧ Below w.heap.size w w' :=
  sSame_any a.sch a.usr a.hst a.pth a.qry a.frg b.sch b.usr b.hst b.pth b.qry b.frg a.prt b.prt a.hq a.hf b.hq b.hf w hp1 hp2 (by unfold sizeU at hl; omega) (by unfold sizeU at hl2; omega)
theorem iSameU (a b : U) (w : World) (hT : Tab w) (hl : sizeU a ≤ 281474976710656) (hl2 : sizeU b ≤ 281474976710656) : Calls Tryd.prog 16 #[uV a, uV b] w fun e w' => e = .returned (.bool (sameU a b)) ∧ Below w.heap.size w w' :=
  iSame_any a.sch a.usr a.hst a.pth a.qry a.frg b.sch b.usr b.hst b.pth b.qry b.frg a.prt b.prt a.hq a.hf b.hq b.hf w hT (by unfold sizeU at hl; omega) (by unfold sizeU at hl2; omega)
theorem PU_port (t : List UInt8) : (PU t).prt ≤ 9223372036854775807 := by
  unfold PU
  split
  · simp [U.none]
  · unfold parseU
    cases hb : parseB t with
    | false => simp [U.none]
    | true =>
      have hb' := hb
      unfold parseB at hb'
      simp only [Bool.and_eq_true] at hb'
      have := parseX_port t
      simpa [parseX, hb'.1] using this
theorem PC_ok (t : List UInt8) (h : PC t = 0) : okB (PU t) = true := by
  unfold PC at h
  unfold PU
  by_cases hl : 65536 < t.length
  · simp [hl] at h
  · simp only [hl, if_false] at h ⊢
    unfold parseC at h
    cases hb : parseB t with
    | false => simp [hb] at h
    | true =>
      have hb' := hb
      unfold parseB at hb'
      simp only [Bool.and_eq_true] at hb'
      simp [parseU, hb, hb'.2]
end Go.Proofs.YtjjabbdnoapnkabDoor.Ul
namespace Go.Proofs.YtjjabbdnoapnkabDoor.Dr
open Go.RowKit
open Go.ChangeShapes Go.WideShapes Go.ChangeAt
theorem open_bytes2 {H : Type} {enc : TypeId × Value → H} {W : World} {r : Reach} {b0 : Nat} {v : Value} {d : DataW H} {p : List MemPlace} (hv : Value.okWide Tryd.prog W r b0 22 v) (h : DataW.Trod enc Tryd.prog W 0 (fun _ => true) true 22 v d p) :
    ∃ (a : Option Addr) (code : List UInt8) (cap : Nat), v = .slice a code.length cap ∧ code.length ≤ maxLen ∧ CodeIn W v code ∧ code.length ≤ cap := by
  obtain ⟨a, code, cap, e, y, k⟩ := open_bytes hv h
  refine ⟨a, code, cap, e, y, k, ?_⟩
  subst e
  obtain ⟨fuel, hf⟩ := h
  rcases open_ints Tryd.underlying22 Tryd.underlying5 (by kernel_rfl) hf with ⟨hcs, _⟩ | ⟨a', len', cap', zs, hcs, _, hl, _⟩
  · simp [Value.cells] at hcs
    simp [hcs]
  · simp [Value.cells] at hcs
    obtain ⟨_, h2, h3⟩ := hcs
    omega
/-- the first bytes of such an argument, as a text -/
theorem CodeIn.text {w : World} {a : Option Addr} {n cap : Nat} {code : List UInt8} (h : CodeIn w (.slice a n cap) code) (k cap' : Nat) (hk : k ≤ code.length) :
    (convert 22 9 (.slice a k cap')).run Tryd.prog w = .ok (.string ⟨(code.take k).toArray⟩) w := by
  obtain ⟨a', cap2, e, h⟩ := h
  obtain ⟨rfl, _, _⟩ := by simpa using e
  have hlen : (code.take k).length = k := by simp; omega
  rcases h with h | ⟨g, off, rfl, hlt, hc⟩
  · obtain rfl : k = 0 := by omega
    cases a with
    | none => exact run_convert_bytes_nil (P := Tryd.prog) w 22 5 Tryd.underlying22 Tryd.underlying5 0 cap' 9 Tryd.underlying9
    | some a => exact run_convert_bytes_back (P := Tryd.prog) w 22 9 5 a cap' [] Tryd.underlying22 Tryd.underlying5 Tryd.underlying9 (fun j hj => by simp at hj)
  · have := run_convert_bytes_back (P := Tryd.prog) w 22 9 5 ⟨g, off, none⟩ cap' (code.take k) Tryd.underlying22 Tryd.underlying5 Tryd.underlying9 (fun j hj => by
      have hj2 : j < code.length := by simp at hj; omega
      have e : (⟨g, off, none⟩ : Addr).add j = ⟨g, off + j, none⟩ := by unfold Addr.add; split <;> simp_all
      rw [e, hc j hj2]
      simp [List.getD, hj2])
    rwa [hlen] at this
set_option maxRecDepth 100000 in
theorem AnyUrlDrawn_any (c : Value) (code : List UInt8) (w : World) (h : CodeIn w c code) (hl : code.length ≤ 9223372036854775807) :
    Calls Tryd.prog 9 #[c] w fun e w' => ∃ t : List UInt8, e = .returned (.string ⟨t.toArray⟩) ∧ t.length ≤ 1000 ∧ Below w.heap.size w w' := by
  have HS := Lib.hid (source_any c code w h hl)
  have HU := Lib.hid (fun W h => anyUrl_any w.heap.size c (S.start code) W h (start_fit code))
  clear h
  go_enter Tryd.func9, Tryd.ntmps9
  go_wp2_with fail
  refine HS.out.mono ?_
  rintro e w1 ⟨rfl, h1, b1, z1⟩
  go_wp2_with fail
  refine (HU.out _ h1).mono ?_
  rintro e w2 ⟨t, rfl, lt, f2⟩
  go_wp2
  go_ret
  exact ⟨t, rfl, lt, b1.trans (f2.below (Nat.le_refl _) (by omega))⟩
end Go.Proofs.YtjjabbdnoapnkabDoor.Dr
