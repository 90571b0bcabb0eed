
/-
  markJson and heldJson, walked; the member of an object, plainly; the program's Member, walked, with what its answer owns.
-/
import Derived.Test.YtjakkmjipglkiaaDoorJoH
import Derived.Test.YtjakkmjipglkiaaDoorJoF
import Derived.Test.YtjakkmjipglkiaaDoorJsTop
namespace Go.Proofs.YtjakkmjipglkiaaDoor.Js
open Go.RowKit
theorem Only.mono {S S' : Nat → Prop} {w w' : World} (h : Only S w w') (hS : ∀ b, S b → S' b) : Only S' w w' := ⟨h.os, h.tape, h.output, h.size, fun b hb hn => h.block b hb fun h' => hn (hS b h')⟩
theorem Only.then {S : Nat → Prop} {w w1 w2 : World} (h : Only S w w1) (h2 : Only S w1 w2) : Only S w w2 := h.step h2 fun _ hb => hb
/-- a value with its marks -/
def markJ : J → Nat → J
  | .mk k n t ns xs, q => .mk k n t (mks ns.length q) (markL xs (q + ns.length))
set_option maxRecDepth 100000 in
set_option maxHeartbeats 1000000 in
theorem markJ_any (base : Nat) (S : Nat → Prop) (j : J) (nv iv : Value) (w : World) (q : Nat) (h : OJ w base S j nv iv) (hq : 0 < q) (hq2 : q + cntJ j ≤ 4611686018427387904) :
    Calls Tryd.prog 7 #[jV j nv iv, .int .i64 (q : Int)] w fun e w' => e = .returned (.int .i64 ((q + cntJ j : Nat) : Int)) ∧ OJ w' base S (markJ j q) nv iv ∧ Only S w w' := by
  obtain ⟨k, n, t, ns, xs⟩ := j
  obtain ⟨⟨an, ln, cn, en⟩, ⟨ai, li, ci, ei⟩⟩ := h.slices
  have hc0 : cntJ (.mk k n t ns xs) = ns.length + cntL xs := by simp [cntJ]
  rw [hc0] at hq2 ⊢
  have h1 : OJ (w.alloc (.cells #[.int .i64 k, .int .i64 n, .string ⟨t.toArray⟩, nv, iv] 25)) base S (.mk k n t ns xs) nv iv := h.same fun b hb => heap_alloc_old _ _ (h.lt b hb).2
  have HO1 := Lib.hid (only_below ((Below.refl w.heap.size w).alloc (Nat.le_refl _) (.cells #[.int .i64 k, .int .i64 n, .string ⟨t.toArray⟩, nv, iv] 25)))
  have HK := Lib.hid (heap_alloc_new w (.cells #[.int .i64 k, .int .i64 n, .string ⟨t.toArray⟩, nv, iv] 25))
  have HN := Lib.hid (fun w2 hg ho => h1.rename (w' := w2) hg ho (mks_fit ns.length q (by omega)).1 (mks_fit ns.length q (by omega)).2)
  have HS := Lib.hid (fun b hb => h1.names.2 b hb)
  have HLT := Lib.hid (fun b hb => (h.lt b hb).2)
  have HM := Lib.hid (markO_any base nv ns q _ h1.names.1 hq (by omega))
  have HL := Lib.hid (fun w2 (h : OJ w2 base S (.mk k n t (mks ns.length q) xs) nv iv) => markL_go (.mk k n t ns xs) k n t (mks ns.length q) base S nv iv w2 (q + ns.length) h (by omega) (by simp only [J.items]; omega))
  simp only [J.items] at HL
  clear h h1 hc0
  subst en ei
  show Calls _ _ #[.agg #[.int .i64 k, .int .i64 n, .string ⟨t.toArray⟩, .slice an ln cn, .slice ai li ci], .int .i64 (q : Int)] _ _
  go_enter Tryd.func7, Tryd.ntmps7
  go_wp2_with fail
  refine HM.out.mono ?_
  rintro e w2 ⟨rfl, ho2, hg2⟩
  have hne : (Value.slice an ln cn).ownBlock ≠ some w.heap.size := fun e => by have := HLT.out _ (HS.out _ e); omega
  have hk2 := (hg2.block w.heap.size (by simp) (fun e => hne e.symm)).trans HK.out
  obtain ⟨m0, m1, m2, m3, m4, -⟩ := five_cells hk2
  have HL2 := Lib.hid (HL.out w2 (HN.out w2 hg2 ho2))
  have HO2 := Lib.hid ((HO1.out.mono (S' := S) (fun b hb => hb.elim)).then ((only_row hg2).mono (S' := S) (fun b hb => HS.out b hb)))
  clear ho2 hg2 hk2 hne
  go_wp2_with fail
  refine HL2.out.mono ?_
  rintro e w3 ⟨rfl, ho3, hg3⟩
  have HF := Lib.hid (HO2.out.then hg3)
  have HJ := Lib.hid (show OJ w3 base S (markJ (.mk k n t ns xs) q) (.slice an ln cn) (.slice ai li ci) from ho3)
  clear ho3 hg3
  go_wp2
  go_ret
  exact ⟨ret_iO (by omega), HJ.out, HF.out⟩
theorem markJ_in {S : Nat → Prop} {w : World} {j : J} {q : Nat} {nv iv : Value} (h : JIn S w (markJ j q) nv iv) : TxtsIn S w nv (mks j.names.length q) ∧ LIn S w iv (markL j.items (q + j.names.length)) := by
  obtain ⟨k, n, t, ns, xs⟩ := j
  unfold markJ at h
  obtain ⟨h1, h2, -⟩ := h.inv
  exact ⟨h2, h1⟩
theorem markJ_fit {j : J} (h : FitJ j) (q : Nat) : FitJ (markJ j q) := by
  obtain ⟨k, n, t, ns, xs⟩ := j
  exact ⟨h.k, h.n, h.t⟩
set_option maxRecDepth 100000 in
set_option maxHeartbeats 1000000 in
theorem heldJ_any (S : Nat → Prop) (j : J) (nv iv : Value) (w : World) (q : Nat) (h : JIn S w (markJ j q) nv iv) (hS : ∀ b, S b → b < w.heap.size) (hq : 0 < q) (hq2 : q + cntJ j ≤ 4611686018427387904) :
    Calls Tryd.prog 8 #[jV j nv iv, .int .i64 (q : Int)] w fun e w' => e = .returned (.int .i64 ((q + cntJ j : Nat) : Int)) ∧ Below w.heap.size w w' := by
  obtain ⟨hN, hL⟩ := markJ_in h
  obtain ⟨an, ln, cn, en⟩ := hN.slice
  obtain ⟨ai, li, ci, ei⟩ := hL.slice
  rw [cntJ_parts] at hq2 ⊢
  have hb0 : ∀ o : Array Value, Below w.heap.size w (w.alloc (.cells o 25)) := fun o => (Below.refl _ _).alloc (Nat.le_refl _) _
  have HB0 := Lib.hid hb0
  have HH := Lib.hid (fun (W : World) (h : Below w.heap.size w W) => heldS_any S nv j.names.length q W (hN.same fun b hb => ⟨hb, h.block b (hS b hb)⟩) (fun b hb => Nat.lt_of_lt_of_le (hS b hb) h.size) hq (by omega))
  have HL := Lib.hid (fun (W : World) (h : Below w.heap.size w W) => heldL_go j S iv W (q + j.names.length) (hL.same fun b hb => ⟨hb, h.block b (hS b hb)⟩) (fun b hb => Nat.lt_of_lt_of_le (hS b hb) h.size) (by omega) (by omega))
  have HK := Lib.hid (heap_alloc_new w (.cells #[.int .i64 j.kind, .int .i64 j.num, .string ⟨j.text.toArray⟩, nv, iv] 25))
  clear h hN hL hb0
  subst en ei
  go_enter Tryd.func8, Tryd.ntmps8
  go_wp2_with fail
  refine (HH.out _ (HB0.out _)).mono ?_
  rintro e w2 ⟨rfl, hb2⟩
  obtain ⟨m0, m1, m2, m3, m4, -⟩ := five_cells ((hb2.block _ (by simp)).trans HK.out)
  have HB2 := Lib.hid ((HB0.out _).trans (hb2.mono (by simp)))
  have g9 : ¬ (((q + j.names.length : Nat) : Int) < 0) := by omega
  clear hb2
  go_wp2_with fail
  refine (HL.out w2 HB2.out).mono ?_
  rintro e w3 ⟨rfl, hb3⟩
  have HB3 := Lib.hid (belI_step HB2.out hb3)
  have g10 : ¬ (((q + j.names.length + cntL j.items : Nat) : Int) < 0) := by omega
  clear hb3
  go_wp2
  go_ret
  exact ⟨ret_iO (by omega), HB3.out⟩
/-! ### The member of an object -/
def zeroJ : J := .mk 0 0 [] [] []
/-- the place of the first name that is u, from k on -/
def atT (u : List UInt8) : Nat → List (List UInt8) → Option Nat
  | _, [] => none
  | k, t :: ts => if t = u then some k else atT u (k + 1) ts
theorem atT_drop (u : List UInt8) {ns : List (List UInt8)} (k : Nat) (h : k < ns.length) : atT u k (ns.drop k) = if ns.getD k [] = u then some k else atT u (k + 1) (ns.drop (k + 1)) := by
  rw [List.drop_eq_getElem_cons h]
  simp only [atT]
  have : ns.getD k [] = ns[k] := by simp [h]
  rw [this]
theorem atT_lt (u : List UInt8) : ∀ (ns : List (List UInt8)) (k i : Nat), atT u k ns = some i → k ≤ i ∧ i < k + ns.length
  | [], _, _, h => by simp [atT] at h
  | t :: ts, k, i, h => by
    simp only [atT] at h
    split at h
    · obtain rfl := Option.some.inj h
      simp
    · have := atT_lt u ts (k + 1) i h
      simp; omega
def MR (j : J) (u : List UInt8) : J := if 65536 < u.length then zeroJ else if okJ j 5 then (if j.kind = 6 then (match atT u 0 j.names with | some i => j.items.getD i default | none => zeroJ) else zeroJ) else zeroJ
def MC (j : J) (u : List UInt8) : Int := if 65536 < u.length then 2 else if okJ j 5 then (if j.kind = 6 then (match atT u 0 j.names with | some _ => 0 | none => 5) else 9) else 1
theorem idx_at (u : List UInt8) : ∀ (ns : List (List UInt8)) (k : Nat), (Lib.idxFromS (ns.map fun t => (⟨t.toArray⟩ : ByteArray)) ⟨u.toArray⟩ k) = match atT u k ns with | some i => (i : Int) | none => -1
  | [], _ => by simp [Lib.idxFromS, atT]
  | t :: ts, k => by
    have ih := idx_at u ts (k + 1)
    simp only [List.map_cons, Lib.idxFromS, atT]
    by_cases h : t = u
    · subst h; simp
    · have : ¬ ((⟨t.toArray⟩ : ByteArray) = ⟨u.toArray⟩) := fun e => h (by have := congrArg (fun b : ByteArray => b.data.toList) e; simpa using this)
      simp [h, this, ih]
end Go.Proofs.YtjakkmjipglkiaaDoor.Js
