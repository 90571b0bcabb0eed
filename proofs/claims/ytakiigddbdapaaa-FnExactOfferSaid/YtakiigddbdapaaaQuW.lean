
/-
  The open queue: its two rings; opened; the code of a batch.
-/
import Derived.Test.YtakiigddbdapaaaQuV
import Derived.Test.YtakiigddbdapaaaQuQ
import Derived.Deep.RegionHeld3
namespace Go.Proofs.Ytakiigddbdapaaa.Qu
open Go.RowKit
open Go.Proofs.Ytakiigddbdapaaa.Tx
def cellOf (w : World) (b o : Nat) : Value := (w.cell? ⟨b, o, none⟩).getD undef
/-- wx is wr but for the block B, which has two cells -/
def Gst (B : Nat) (T : TypeId) (wr wx : World) : Prop := wr.grownBy wx (some B) ∧ ∃ a b, Hd wx B (.cells #[a, b] T)
theorem Gst.start {B : Nat} {T : TypeId} {wr : World} {a b : Value} (h : Hd wr B (.cells #[a, b] T)) : Gst B T wr wr.drew :=
  ⟨⟨rfl, rfl, rfl, Nat.le_refl _, fun _ _ _ => rfl⟩, a, b, h⟩
theorem Gst.call {B : Nat} {T : TypeId} {wr wx wy : World} (h : Gst B T wr wx) (hb : Below wx.heap.size wx wy) : Gst B T wr wy := by
  obtain ⟨h1, a, b, h2⟩ := h
  exact ⟨⟨hb.os.trans h1.os, hb.tape.trans h1.tape, hb.output.trans h1.output, Nat.le_trans h1.size hb.size, fun k hk hne => (hb.block k (Nat.lt_of_lt_of_le hk h1.size)).trans (h1.block k hk hne)⟩, a, b, h2.blw hb⟩
theorem Gst.store {B : Nat} {T : TypeId} {wr wx : World} {u v : Value} (h : Gst B T wr wx) : Gst B T wr (set2 wx B 0 u v) := by
  obtain ⟨h1, a, b, h2⟩ := h
  refine ⟨⟨h1.os, h1.tape, h1.output, by rw [set2_size]; exact h1.size, fun k hk hne => ?_⟩, _, _, h2.set2 u v⟩
  rw [set2_far _ _ _ _ _ _ (by intro e; subst e; exact hne rfl)]
  exact h1.block k hk hne
theorem Gst.cells {B : Nat} {T : TypeId} {wr wx : World} (h : Gst B T wr wx) : wx.cell? ⟨B, 0, none⟩ = some (cellOf wx B 0) ∧ wx.cell? ⟨B, 1, none⟩ = some (cellOf wx B 1) ∧ ∀ o, wx.frozen? ⟨B, o, none⟩ = false := by
  obtain ⟨h1, a, b, h2⟩ := h
  obtain ⟨c0, c1, cf⟩ := h2.two
  exact ⟨by unfold cellOf; rw [c0]; rfl, by unfold cellOf; rw [c1]; rfl, cf⟩
theorem Gst.row {B : Nat} {T : TypeId} {wr wx : World} (h : Gst B T wr wx) (u v : Value) : Hd (set2 wx B 0 u v) B (.cells #[u, v] T) := by
  obtain ⟨h1, a, b, h2⟩ := h
  exact h2.set2 u v
theorem Gst.below {B : Nat} {T : TypeId} {W wr wx : World} (h : Gst B T wr wx) (hR : Below W.heap.size W wr) (hB : W.heap.size ≤ B) : Below W.heap.size W wx := hR.grown h.1 hR.size (fun k e => by cases e; exact hB)
/-- the open queue's rings, made from block base on, apart from each other -/
structure OpQ (base : Nat) (w : World) (ra ca rb cb : Nat) (q : Q) : Prop where
  R : RgR w ra ca q.items
  T : RgT w rb cb q.recent
  b1 : base ≤ ra
  b2 : base ≤ ca
  b3 : base ≤ rb
  b4 : base ≤ cb
  n1 : ra ≠ rb
  n2 : ra ≠ cb
  n3 : ca ≠ rb
  n4 : ca ≠ cb
abbrev oV (ra rb : Nat) : Value := .agg #[.pointer (some ⟨ra, 0, none⟩), .pointer (some ⟨rb, 0, none⟩)]
abbrev oO (ra rb : Nat) : Obj := .cells #[.pointer (some ⟨ra, 0, none⟩), .pointer (some ⟨rb, 0, none⟩)] 55
def NewO (W : World) (q : Q) (e : Ending) (w' : World) : Prop := ∃ ra ca rb cb, e = .returned (oV ra rb) ∧ OpQ W.heap.size w' ra ca rb cb q ∧ Below W.heap.size W w'
theorem far2 {w : World} {B : Nat} (u v : Value) : Ch (fun b => b = B) w (set2 w B 0 u v) := ⟨rfl, rfl, rfl, by rw [set2_size]; exact Nat.le_refl _, fun b _ hb => set2_far _ _ _ _ _ _ hb⟩
theorem RgR.lts {w : World} {rb cb : Nat} {xs : List Rep} (h : RgR w rb cb xs) : rb < w.heap.size ∧ cb < w.heap.size := by
  obtain ⟨cs, f, h1, h2, h3⟩ := h
  exact ⟨h2.lt, h3.lt⟩
theorem RgT.lts {w : World} {rb cb : Nat} {xs : List (List UInt8)} (h : RgT w rb cb xs) : rb < w.heap.size ∧ cb < w.heap.size := by
  obtain ⟨cs, f, h1, h2, h3⟩ := h
  exact ⟨h2.lt, h3.lt⟩
theorem opq1 {base B k : Nat} {w6 w7 : World} {xs : List Rep} {ys : List (List UInt8)} (hk : B < k) (hB : base ≤ B) (hR : RgR w6 (k + 1) k xs) (hb : Below w6.heap.size w6 w7) (hT : RgT w7 (w6.heap.size + 1) w6.heap.size ys) (u v : Value) :
    OpQ base (set2 w7 B 0 u v) (k + 1) k (w6.heap.size + 1) w6.heap.size ⟨xs, ys⟩ := by
  have h1 := hR.lts
  exact ⟨(hR.blw hb).ch (far2 u v) (by omega) (by omega), hT.ch (far2 u v) (by omega) (by omega), by omega, by omega, by omega, by omega, by omega, by omega, by omega, by omega⟩
theorem opq2 {base B k : Nat} {w6 w7 : World} {xs : List Rep} {ys : List (List UInt8)} (hk : B < k) (hB : base ≤ B) (hT : RgT w6 (k + 1) k ys) (hb : Below w6.heap.size w6 w7) (hR : RgR w7 (w6.heap.size + 1) w6.heap.size xs) (u v : Value) :
    OpQ base (set2 w7 B 0 u v) (w6.heap.size + 1) w6.heap.size (k + 1) k ⟨xs, ys⟩ := by
  have h1 := hT.lts
  exact ⟨hR.ch (far2 u v) (by omega) (by omega), (hT.blw hb).ch (far2 u v) (by omega) (by omega), by omega, by omega, by omega, by omega, by omega, by omega, by omega, by omega⟩
theorem ret_O {fn : Func} {a B : Nat} {tmps : Array Value} {X : World} {c0 c1 : Value} {T : TypeId} (hres : fn.results = #[.cell a 55]) (ha : tmps[a]?.getD undef = .pointer (some ⟨B, 0, none⟩)) (h : Hd X B (.cells #[c0, c1] T)) :
    (results fn tmps).run Try.prog X = .ok (.agg #[c0, c1]) X := by
  obtain ⟨k0, k1, _⟩ := h.two
  simp [results, hres, ha, go_sem, k0, k1]
set_option maxRecDepth 100000 in
set_option maxHeartbeats 2000000 in
theorem openedQ_any (B : Nat) (w0 : World) (q : Q) (iv rv : Value) (hi : RpIn (· < B) w0 iv q.items) (hr : TxtsIn (· < B) w0 rv q.recent) (h5 : q.items.length ≤ 5) (h6 : q.recent.length ≤ 6) (W : World) (hb : Below B w0 W) (hB : B ≤ W.heap.size) :
    Calls Try.prog 27 #[qV iv rv] W (NewO W q) := by
  have HR1 := Lib.hid (fun W' h1 h2 => ringOfR_any B w0 q.items iv hi h5 W' h1 h2)
  have HT1 := Lib.hid (fun W' h1 h2 => ringOfT_any B w0 q.recent rv hr h6 W' h1 h2)
  obtain ⟨a1, l1, c1, rfl⟩ := hi.slice
  obtain ⟨a2, l2, c2, rfl⟩ := hr.slice
  have HB := Lib.hid hb
  obtain ⟨w1, hw1⟩ : ∃ w1, w1 = (W.alloc (iqO (.slice a1 l1 c1) (.slice a2 l2 c2))).alloc (.cells #[.pointer none, .pointer none] 55) := ⟨_, rfl⟩
  have HK := Lib.hid (show Hd w1 W.heap.size (iqO (.slice a1 l1 c1) (.slice a2 l2 c2)) from hw1 ▸ (Hd.new W _).al _)
  have HG := Lib.hid (show Hd w1 (W.heap.size + 1) (.cells #[.pointer none, .pointer none] 55) from by
    have := Hd.new (W.alloc (iqO (.slice a1 l1 c1) (.slice a2 l2 c2))) (.cells #[.pointer none, .pointer none] 55)
    rw [hw1]; simpa using this)
  have BF := Lib.hid (show Below W.heap.size W w1 from hw1 ▸ ((Below.refl W.heap.size W).alloc (Nat.le_refl _) _).alloc (by simp) _)
  have z1 := HG.out.lt
  have HALL := Lib.hid (fun wx (hg : Gst (W.heap.size + 1) 55 w1 wx) =>
    And.intro (HK.out.grown hg.1 (by simp)).two.1 (And.intro (HK.out.grown hg.1 (by simp)).two.2.1 (And.intro hg.cells (And.intro hg (show w1.heap.size ≤ wx.heap.size from hg.1.size)))))
  have HST := Lib.hid (Gst.start HG.out)
  have HD := Lib.hid (fun wx (hg : Gst (W.heap.size + 1) 55 w1 wx) => And.intro (HB.out.trans ((hg.below BF.out (by omega)).mono hB)) (Nat.le_trans hB (hg.below BF.out (by omega)).size))
  obtain ⟨xs, ys⟩ := q
  simp only at *
  have HFIN := Lib.hid (fun (w7 : World) (ra ca rb cb : Nat) (hG : Gst (W.heap.size + 1) 55 w1 w7) (h : OpQ W.heap.size (set2 w7 (W.heap.size + 1) 0 (.pointer (some ⟨ra, 0, none⟩)) (.pointer (some ⟨rb, 0, none⟩))) ra ca rb cb ⟨xs, ys⟩) =>
    And.intro (hG.row (.pointer (some ⟨ra, 0, none⟩)) (.pointer (some ⟨rb, 0, none⟩))) (show NewO W ⟨xs, ys⟩ (.returned (oV ra rb)) (set2 w7 (W.heap.size + 1) 0 (.pointer (some ⟨ra, 0, none⟩)) (.pointer (some ⟨rb, 0, none⟩))) from ⟨ra, ca, rb, cb, rfl, h, hG.store.below BF.out (by omega)⟩))
  clear hb hi hr h5 h6
  go_enter Try.func27, Try.ntmps27
  go_wp2_with fail
  rw [← hw1]
  clear hw1
  go_region_held3 (fun wx => wx.cell? ⟨W.heap.size, 0, none⟩ = some (.slice a1 l1 c1) ∧ wx.cell? ⟨W.heap.size, 1, none⟩ = some (.slice a2 l2 c2) ∧
      (wx.cell? ⟨W.heap.size + 1, 0, none⟩ = some (cellOf wx (W.heap.size + 1) 0) ∧ wx.cell? ⟨W.heap.size + 1, 1, none⟩ = some (cellOf wx (W.heap.size + 1) 1) ∧ ∀ o, wx.frozen? ⟨W.heap.size + 1, o, none⟩ = false) ∧ Gst (W.heap.size + 1) 55 w1 wx ∧ w1.heap.size ≤ wx.heap.size)
    (first
      | exact HALL.out _ HST.out
      | (go_split_ands; exact HALL.out _ (Gst.call (by assumption) hbR))
      | (go_split_ands; exact HALL.out _ (Gst.call (by assumption) hbT))
      | (go_split_ands; exact HALL.out _ (Gst.store (by assumption))))
    (first
      | (go_split_ands; go_at_call 46; have hd := HD.out _ (by assumption); refine (HR1.out _ hd.1 hd.2).mono ?_; clear hd; rintro e w6 ⟨rfl, hRg, hbR⟩)
      | (go_split_ands; go_at_call 47; have hd := HD.out _ (by assumption); refine (HT1.out _ hd.1 hd.2).mono ?_; clear hd; rintro e w7 ⟨rfl, hTg, hbT⟩))
  all_goals
    go_split_ands
    first
      | (have hF := Lib.hid (HFIN.out _ _ _ _ _ (Gst.call (by assumption) hbT) (opq1 (by omega) (by omega) hRg hbT hTg _ _)); go_wp2; exact bodyPost_ret (ret_O Try.results27 rfl hF.out.1) rfl hF.out.2)
      | (have hF := Lib.hid (HFIN.out _ _ _ _ _ (Gst.call (by assumption) hbR) (opq2 (by omega) (by omega) hTg hbR hRg _ _)); go_wp2; exact bodyPost_ret (ret_O Try.results27 rfl hF.out.1) rfl hF.out.2)
end Go.Proofs.Ytakiigddbdapaaa.Qu
