
/-
  Marks written into a policy and read back: the policy that a call has made owns its memory.
-/
import Derived.Test.YtmaknkbmilcanaaGreatDoorPoV
namespace Go.Proofs.YtmaknkbmilcanaaGreatDoor.Pm
open Go.RowKit
open Go.Proofs.YtmaknkbmilcanaaGreatDoor.Po
open Go.Proofs.YtmaknkbmilcanaaGreatDoor.Tx
open Go.Proofs.YtmaknkbmilcanaaGreatDoor.Ul (conv_one)
@[local go_sem] theorem bappM (a b : List UInt8) : (⟨a.toArray⟩ : ByteArray) ++ ⟨b.toArray⟩ = ⟨(a ++ b).toArray⟩ := by
  apply ByteArray.ext; simp
end Go.Proofs.YtmaknkbmilcanaaGreatDoor.Pm
namespace Go.Proofs.YtmaknkbmilcanaaGreatDoor.Pm
open Go.RowKit
open Go.Proofs.YtmaknkbmilcanaaGreatDoor.Po
open Go.Proofs.YtmaknkbmilcanaaGreatDoor.Tx hiding ret_b ret_i
def SRow (w : World) (g n : Nat) : Prop := ∃ f, w.rowIs g 9 n f
def RRow (w : World) (g n : Nat) (vs : Nat → Value) : Prop := ∃ F, w.rowIs g 205 (n * 2) F ∧ ∀ i, i < n → F (i * 2 + 1) = vs i
def OwnS (S : Nat → Prop) (w : World) (v : Value) (n : Nat) : Prop := ∃ g, v = .slice (some ⟨g, 0, none⟩) n n ∧ S g ∧ SRow w g n
def OwnR (S : Nat → Prop) (w : World) (v : Value) (n : Nat) (ns : Nat → Nat) : Prop := ∃ g vs, v = .slice (some ⟨g, 0, none⟩) n n ∧ S g ∧ RRow w g n vs ∧ ∀ i, i < n → OwnS S w (vs i) (ns i)
theorem rowIs_at {w w' : World} {g n : Nat} {t : TypeId} {f : Nat → Value} (h : w.rowIs g t n f) (e : w'.heap[g]? = w.heap[g]?) : w'.rowIs g t n f := by
  obtain ⟨c, h1, h2⟩ := h; exact ⟨c, e.trans h1, h2⟩
theorem OwnS.away {S S' : Nat → Prop} {w w' : World} {v : Value} {n : Nat} (h : OwnS S w v n) (hs : ∀ b, S b → S' b) (he : ∀ b, S b → w'.heap[b]? = w.heap[b]?) : OwnS S' w' v n := by
  obtain ⟨g, e, hg, f, hr⟩ := h
  exact ⟨g, e, hs g hg, f, rowIs_at hr (he g hg)⟩
theorem OwnR.away {S S' : Nat → Prop} {w w' : World} {v : Value} {n : Nat} {ns : Nat → Nat} (h : OwnR S w v n ns) (hs : ∀ b, S b → S' b) (he : ∀ b, S b → w'.heap[b]? = w.heap[b]?) : OwnR S' w' v n ns := by
  obtain ⟨g, vs, e, hg, ⟨F, hr, hF⟩, hd⟩ := h
  exact ⟨g, vs, e, hs g hg, ⟨F, rowIs_at hr (he g hg), hF⟩, fun i hi => (hd i hi).away hs he⟩
def NewTO (W : World) (ns : List (List UInt8)) (e : Ending) (w' : World) : Prop := ∃ v, e = .returned v ∧ TxtsIn (fun b => W.heap.size ≤ b ∧ b < w'.heap.size) w' v ns ∧ Below W.heap.size W w' ∧ OwnS (fun b => W.heap.size ≤ b ∧ b < w'.heap.size) w' v ns.length
theorem newTO_of {W w' : World} {ns : List (List UInt8)} {f : Nat → Value} (h : NewTxts W ns (.returned (.slice (some ⟨W.heap.size, 0, none⟩) ns.length ns.length)) w') (hr : w'.rowIs W.heap.size 9 ns.length f) (hlt : W.heap.size < w'.heap.size) : NewTO W ns (.returned (.slice (some ⟨W.heap.size, 0, none⟩) ns.length ns.length)) w' := by
  obtain ⟨v, e, h1, h2⟩ := h
  cases e
  exact ⟨_, rfl, h1, h2, W.heap.size, rfl, ⟨Nat.le_refl _, hlt⟩, f, hr⟩
def NewRO (W : World) (r : Rl) (e : Ending) (w' : World) : Prop := ∃ v, e = .returned (rV r v) ∧ TxtsIn (fun b => W.heap.size ≤ b ∧ b < w'.heap.size) w' v r.words ∧ Below W.heap.size W w' ∧ OwnS (fun b => W.heap.size ≤ b ∧ b < w'.heap.size) w' v r.words.length
abbrev wl (xs : List Rl) : Nat → Nat := fun i => (xs.getD i default).words.length
def NewRsO (W : World) (xs : List Rl) (e : Ending) (w' : World) : Prop := ∃ v, e = .returned v ∧ RlIn (fun b => W.heap.size ≤ b ∧ b < w'.heap.size) w' v xs ∧ Below W.heap.size W w' ∧ OwnR (fun b => W.heap.size ≤ b ∧ b < w'.heap.size) w' v xs.length (wl xs)
def NewPO (W : World) (p : Pl) (e : Ending) (w' : World) : Prop := ∃ uv rv, e = .returned (pV p uv rv) ∧ TxtsIn (fun b => W.heap.size ≤ b ∧ b < w'.heap.size) w' uv p.uris ∧ RlIn (fun b => W.heap.size ≤ b ∧ b < w'.heap.size) w' rv p.rules ∧ Below W.heap.size W w' ∧
  OwnS (fun b => W.heap.size ≤ b ∧ b < w'.heap.size) w' uv p.uris.length ∧ OwnR (fun b => W.heap.size ≤ b ∧ b < w'.heap.size) w' rv p.rules.length (wl p.rules)
def RRelO (W : World) (xs : List Rl) (k : Nat) (wr : World) : Prop :=
  ∃ (F vs : Nat → Value), wr.rowIs W.heap.size 205 (xs.length * 2) F ∧
    (∀ i, i < k → F (i * 2) = .string ⟨(xs.getD i default).name.toArray⟩ ∧ F (i * 2 + 1) = vs i) ∧
    (∀ i, i < k → TxtsIn (fun b => W.heap.size < b ∧ b < wr.heap.size) wr (vs i) (xs.getD i default).words) ∧
    (∀ i, i < k → OwnS (fun b => W.heap.size < b ∧ b < wr.heap.size) wr (vs i) (wl xs i)) ∧ Below W.heap.size W wr
theorem rRelO_start (W : World) (xs : List Rl) : RRelO W xs 0 (W.alloc (.cells (madeCells #[.string ByteArray.empty, .slice none 0 0] (xs.length * 2)) 205)) := by
  obtain ⟨F, vs, h1, h2, h3, h4⟩ := rRel_start W xs
  exact ⟨F, vs, h1, h2, h3, fun i hi => by omega, h4⟩
theorem rRelO_end {W w' : World} {xs : List Rl} (h : RRelO W xs xs.length w') (hm : xs.length ≤ 1048576) (hl : ∀ i, i < xs.length → (xs.getD i default).name.length ≤ 9223372036854775807) : NewRsO W xs (.returned (.slice (some ⟨W.heap.size, 0, none⟩) xs.length xs.length)) w' := by
  obtain ⟨F, vs, hr, hf, hj, ho, hb⟩ := h
  obtain ⟨v, e, h1, h2⟩ := rRel_end (W := W) (w' := w') ⟨F, vs, hr, hf, hj, hb⟩ hm hl
  cases e
  exact ⟨_, rfl, h1, h2, W.heap.size, vs, rfl, ⟨Nat.le_refl _, hr.lt⟩, ⟨F, hr, fun i hi => (hf i hi).2⟩, fun i hi => (ho i hi).away (fun b hb => ⟨by omega, hb.2⟩) (fun _ _ => rfl)⟩
theorem rRelO_step {W wr w2 : World} {xs : List Rl} {k : Nat} {x : Rl} {nv : Value} {F wn : Nat → Value} (hx : xs.getD k default = x) (hr : w2.rowIs W.heap.size 205 (xs.length * 2) F)
    (hf : ∀ i, i < k → F (i * 2) = .string ⟨(xs.getD i default).name.toArray⟩ ∧ F (i * 2 + 1) = wn i)
    (hj : ∀ i, i < k → TxtsIn (fun b => W.heap.size < b ∧ b < wr.heap.size) wr (wn i) (xs.getD i default).words)
    (ho : ∀ i, i < k → OwnS (fun b => W.heap.size < b ∧ b < wr.heap.size) wr (wn i) (wl xs i)) (hN : Below W.heap.size W wr) (hlt : W.heap.size < wr.heap.size)
    (hj2 : TxtsIn (fun b => wr.heap.size ≤ b ∧ b < w2.heap.size) w2 nv x.words) (ho2 : OwnS (fun b => wr.heap.size ≤ b ∧ b < w2.heap.size) w2 nv x.words.length) (hb2 : Below wr.heap.size wr w2) :
    RRelO W xs (k + 1) (set2 w2 W.heap.size (k * 2) (.string ⟨x.name.toArray⟩) nv) := by
  have hs := hb2.size
  refine ⟨fun j => if j = k * 2 + 1 then nv else if j = k * 2 then .string ⟨x.name.toArray⟩ else F j, fun i => if i = k then nv else wn i, (hr.set _ _).set _ _, fun i hi => ?_, fun i hi => ?_, fun i hi => ?_, ?_⟩
  · by_cases e : i = k
    · subst e
      rw [hx]
      refine ⟨?_, ?_⟩ <;> simp
    · obtain ⟨f0, f1⟩ := hf i (by omega)
      refine ⟨?_, ?_⟩ <;> dsimp only
      · rw [if_neg (by omega), if_neg (by omega), f0]
      · rw [if_neg (by omega), if_neg (by omega), f1, if_neg e]
  · by_cases e : i = k
    · subst e
      rw [hx]
      simp only [if_true]
      exact hj2.same fun b hb => ⟨⟨by omega, by rw [set2_size]; exact hb.2⟩, set2_far _ _ _ _ _ _ (by omega)⟩
    · simp only [if_neg e]
      exact (hj i (by omega)).same fun b hb => ⟨⟨hb.1, by rw [set2_size]; omega⟩, by rw [set2_far _ _ _ _ _ _ (by omega)]; exact hb2.block b hb.2⟩
  · by_cases e : i = k
    · subst e
      simp only [if_true]
      show OwnS _ _ _ (xs.getD i default).words.length
      rw [hx]
      exact ho2.away (fun b hb => ⟨by omega, by rw [set2_size]; exact hb.2⟩) (fun b hb => set2_far _ _ _ _ _ _ (by omega))
    · simp only [if_neg e]
      exact (ho i (by omega)).away (fun b hb => ⟨hb.1, by rw [set2_size]; omega⟩) (fun b hb => by rw [set2_far _ _ _ _ _ _ (by omega)]; exact hb2.block b hb.2)
  · have hb3 : Below W.heap.size W w2 := hN.trans (hb2.mono (by omega))
    exact (hb3.setCell (by simp) _).setCell (by simp) _
set_option maxHeartbeats 1000000 in
theorem toT_own (B : Nat) (w0 : World) (ns : List (List UInt8)) (v : Value) (h : TxtsIn (· < B) w0 v ns) (hsz : ns.length ≤ 1048576) (W : World) (hb : Below B w0 W) (hB : B ≤ W.heap.size) :
    Calls Tryz.prog 128 #[v] W (NewTO W ns) := by
  have h' := h.blw hb
  obtain ⟨a, cap, b, off, rfl, hcap, hm, hlen, ha, hc⟩ := h'
  have HC := Lib.hid hc
  have HL := Lib.hid hlen
  have HA := Lib.hid ha
  clear hc hlen ha h hb
  have hmk := fun w => run_make_row' (P := Tryz.prog) 23 9 (.string ByteArray.empty) 16 Tryz.underlying23 Tryz.infoTxt rfl .i64 .i64 ns.length (by omega) (by omega) w
  have HR0 := Lib.hid (World.rowIs_made W (.string ByteArray.empty) ns.length 9)
  have HB0 := Lib.hid ((Below.refl W.heap.size W).alloc (Nat.le_refl _) (.cells (madeCells #[.string ByteArray.empty] ns.length) 9))
  go_enter Tryz.func128, Tryz.ntmps128
  go_wp2
  go_loopw [4] (fun i wr => ∃ (k : Nat), k ≤ ns.length ∧ i = .int .i64 k ∧ wr.rowIs W.heap.size 9 ns.length (txtF ns k) ∧ Below W.heap.size W wr) (fun i _ => ns.length - (intOf i).toNat)
  case atStart => exact ⟨0, by omega, rfl, HR0.out.congr (fun i _ => by simp [txtF]), HB0.out⟩
  case round =>
    obtain ⟨k, hk, rfl, hR, hN⟩ := hrel
    by_cases hlt : k < ns.length
    · obtain ⟨ea, hlb⟩ := HA.out (by omega)
      subst ea
      have q0 := (hN.cell (p := ⟨b, off + k, none⟩) (Nat.lt_of_lt_of_le hlb hB)).trans (HC.out k hlt)
      have q1 := hR.cell hlt
      have q2 := hR.frozen k
      have hR' := Lib.hid ((hR.set k (.string ⟨(ns.getD k []).toArray⟩)).congr (fun j _ => txtF_step ns k j))
      have hN' := Lib.hid (hN.setCell (p := ⟨W.heap.size, k, none⟩) (Nat.le_refl _) (.string ⟨(ns.getD k []).toArray⟩))
      clear hR hN
      generalize ns.getD k [] = t at *
      generalize txtF ns k k = z at *
      go_wp2
      go_roundw
      case rel => exact ⟨k + 1, by omega, by go_num, hR'.out, hN'.out⟩
      case measure => simp [intOf]; omega
    · obtain rfl : k = ns.length := by omega
      have hF : NewTO W ns (.returned (.slice (some ⟨W.heap.size, 0, none⟩) ns.length ns.length)) wr := by
        exact newTO_of (newTxts_of (Nat.le_refl _) (by omega) HL.out hR (fun i hi => by simp [txtF, hi]) hN) hR hR.lt
      go_wp2
      go_ret
      exact hF
set_option maxHeartbeats 1000000 in
theorem toRl_own (B : Nat) (w0 : World) (r : Rl) (v : Value) (h : TxtsIn (· < B) w0 v r.words) (hsz : r.words.length ≤ 1048576) (W : World) (hb : Below B w0 W) (hB : B ≤ W.heap.size) :
    Calls Tryz.prog 207 #[rV r v] W (NewRO W r) := by
  obtain ⟨n, ns⟩ := r
  have TT := Lib.hid (toT_own B w0 ns v h hsz)
  have HB := Lib.hid hb
  obtain ⟨a1, l1, c1, rfl⟩ := h.slice
  clear h hb
  go_enter Tryz.func207, Tryz.ntmps207
  go_wp2_with fail
  have k1 := alloc3_1 W (.cells #[.string ⟨n.toArray⟩, .slice a1 l1 c1] 236) (.cells #[.string ⟨#[]⟩, .slice none 0 0] 205) (.cells #[.string ⟨n.toArray⟩, .slice none 0 0] 205)
  have k2 := alloc3_2 W (.cells #[.string ⟨n.toArray⟩, .slice a1 l1 c1] 236) (.cells #[.string ⟨#[]⟩, .slice none 0 0] 205) (.cells #[.string ⟨n.toArray⟩, .slice none 0 0] 205)
  have hb3 : Below W.heap.size W (((W.alloc (.cells #[.string ⟨n.toArray⟩, .slice a1 l1 c1] 236)).alloc (.cells #[.string ⟨#[]⟩, .slice none 0 0] 205)).alloc (.cells #[.string ⟨n.toArray⟩, .slice none 0 0] 205)) := (((Below.refl _ _).alloc (Nat.le_refl _) _).alloc (by simp) _).alloc (by simp; omega) _
  have z3 : W.heap.size + 3 = (((W.alloc (.cells #[.string ⟨n.toArray⟩, .slice a1 l1 c1] 236)).alloc (.cells #[.string ⟨#[]⟩, .slice none 0 0] 205)).alloc (.cells #[.string ⟨n.toArray⟩, .slice none 0 0] 205)).heap.size := by simp
  generalize (((W.alloc (.cells #[.string ⟨n.toArray⟩, .slice a1 l1 c1] 236)).alloc (.cells #[.string ⟨#[]⟩, .slice none 0 0] 205)).alloc (.cells #[.string ⟨n.toArray⟩, .slice none 0 0] 205)) = w3 at *
  refine (TT.out w3 (HB.out.trans (hb3.mono hB)) (by omega)).mono ?_
  rintro e w4 ⟨v4, rfl, ht4, hb4, ho4⟩
  obtain ⟨a4, l4, c4, rfl⟩ := ht4.slice
  have z4 := hb4.size
  have k1' := (hb4.block _ (by omega)).trans k1
  have k2' := (hb4.block _ (by omega)).trans k2
  obtain ⟨m10, m11, m1f⟩ := two_cells k1'
  obtain ⟨m20, m21, m2f⟩ := two_cells k2'
  have hfin : (set2 (w4.setCell ⟨W.heap.size + 1 + 1, 1, none⟩ (.slice a4 l4 c4)) (W.heap.size + 1) 0 (.string ⟨n.toArray⟩) (.slice a4 l4 c4)).heap[W.heap.size + 1]? = some (.cells #[.string ⟨n.toArray⟩, .slice a4 l4 c4] 205 (0, 0)) :=
    heap_set (heap_set ((heap_setCell_other _ ⟨W.heap.size + 1 + 1, 1, none⟩ _ _ (by simp)).trans k1') 0 (.string ⟨n.toArray⟩)) 1 (.slice a4 l4 c4)
  have HFIN := Lib.hid hfin
  have hown := ho4.away (S' := fun b => W.heap.size ≤ b ∧ b < (set2 (w4.setCell ⟨W.heap.size + 1 + 1, 1, none⟩ (.slice a4 l4 c4)) (W.heap.size + 1) 0 (.string ⟨n.toArray⟩) (.slice a4 l4 c4)).heap.size) (w' := set2 (w4.setCell ⟨W.heap.size + 1 + 1, 1, none⟩ (.slice a4 l4 c4)) (W.heap.size + 1) 0 (.string ⟨n.toArray⟩) (.slice a4 l4 c4)) (fun b hb => ⟨by omega, by rw [set2_size]; simpa using hb.2⟩) (fun b hb => (show (set2 (w4.setCell ⟨W.heap.size + 1 + 1, 1, none⟩ (.slice a4 l4 c4)) (W.heap.size + 1) 0 (.string ⟨n.toArray⟩) (.slice a4 l4 c4)).heap[b]? = w4.heap[b]? by
    rw [set2_far _ _ _ _ _ _ (by omega)]
    exact heap_setCell_other _ ⟨W.heap.size + 1 + 1, 1, none⟩ b _ (by simp; omega)))
  have hpost : NewRO W ⟨n, ns⟩ (.returned (rV ⟨n, ns⟩ (.slice a4 l4 c4))) (set2 (w4.setCell ⟨W.heap.size + 1 + 1, 1, none⟩ (.slice a4 l4 c4)) (W.heap.size + 1) 0 (.string ⟨n.toArray⟩) (.slice a4 l4 c4)) := by
    refine ⟨_, rfl, ht4.same fun b hb => ⟨⟨by omega, by rw [set2_size]; simpa using hb.2⟩, ?_⟩, ?_, hown⟩
    · rw [set2_far _ _ _ _ _ _ (by omega)]
      exact heap_setCell_other _ ⟨W.heap.size + 1 + 1, 1, none⟩ b _ (by simp; omega)
    · exact (((hb3.trans (hb4.mono (by omega))).setCell (by simp; omega) _).setCell (by simp) _).setCell (by simp) _
  have HP := Lib.hid hpost
  clear hfin hpost hown ho4 k1 k2 k1' k2' ht4 hb4 hb3
  go_wp2
  exact bodyPost_ret (ret_R Tryz.results207 rfl HFIN.out) rfl HP.out
set_option maxHeartbeats 1000000 in
theorem toRls_own (B : Nat) (w0 : World) (xs : List Rl) (v : Value) (h : RlIn (· < B) w0 v xs) (hsz : xs.length ≤ 1048576) (hsw : ∀ i, i < xs.length → (xs.getD i default).words.length ≤ 1048576) (W : World) (hb : Below B w0 W) (hB : B ≤ W.heap.size) :
    Calls Tryz.prog 129 #[v] W (NewRsO W xs) := by
  obtain ⟨a, cap, b, off, vs, rfl, hcap, hm, hlen, ha, hc⟩ := h
  have HC := Lib.hid hc
  have HL := Lib.hid hlen
  have HA := Lib.hid ha
  have HB := Lib.hid hb
  have HS := Lib.hid hsw
  clear hc ha hb hlen hsw
  have hmk := fun w => run_makeR xs.length hsz w
  have HR0 := Lib.hid (rRelO_start W xs)
  go_enter Tryz.func129, Tryz.ntmps129
  go_wp2
  go_loopw [4] (fun i wr => ∃ (k : Nat), k ≤ xs.length ∧ i = .int .i64 k ∧ RRelO W xs k wr) (fun i _ => xs.length - (intOf i).toNat)
  case atStart => exact ⟨0, by omega, rfl, HR0.out⟩
  case round =>
    obtain ⟨k, hk, rfl, hR⟩ := hrel
    by_cases hlt : k < xs.length
    · obtain ⟨ea, hlb⟩ := HA.out (by omega)
      subst ea
      obtain ⟨F, wn, hr, hf, hj, ho, hN⟩ := hR
      have hW : Below B w0 wr := HB.out.trans (hN.mono hB)
      obtain ⟨d0, d1, d2⟩ := HC.out k hlt
      have q0 := (hW.cell (p := ⟨b, off + k * 2, none⟩) hlb).trans d0
      have q1 := (hW.cell (p := ⟨b, off + k * 2 + 1, none⟩) hlb).trans d1
      have HK := Lib.hid (toRl_own B w0 (xs.getD k default) (vs k) d2 (HS.out k hlt) wr hW (Nat.le_trans hB hN.size))
      obtain ⟨a5, l5, c5, e5⟩ := d2.slice
      rw [e5] at q1 HK
      clear d0 d1 d2
      have HF := Lib.hid hf
      have HJ := Lib.hid hj
      have HO := Lib.hid ho
      have HN := Lib.hid hN
      have HR := Lib.hid hr
      clear hf hj ho hN hW hr
      generalize hx : xs.getD k default = x at *
      have HX := Lib.hid hx
      clear hx
      go_wp2_with fail
      refine HK.out.mono ?_
      rintro e w2 ⟨nv, rfl, hj2, hb2, ho2⟩
      obtain ⟨an, ln, cn, rfl⟩ := hj2.slice
      have z2 := hb2.size
      have hr2 := HR.out.of_block (hb2.block _ HR.out.lt)
      have p0 := hr2.cell (i := k * 2) (by omega)
      have p1 := hr2.cell (i := k * 2 + 1) (by omega)
      have pf := hr2.frozen
      have HR2 := Lib.hid hr2
      have HJ2 := Lib.hid hj2
      have HO2 := Lib.hid ho2
      have HB2 := Lib.hid hb2
      clear hr2 hj2 hb2 ho2
      go_wp2
      go_roundw
      case rel => exact ⟨k + 1, by omega, by go_num, rRelO_step HX.out HR2.out HF.out HJ.out HO.out HN.out HR.out.lt HJ2.out HO2.out HB2.out⟩
      case measure => simp [intOf]; omega
    · obtain rfl : k = xs.length := by omega
      have hF := Lib.hid (rRelO_end hR hsz HL.out)
      go_wp2
      go_ret
      exact hF.out
set_option maxRecDepth 100000 in
set_option maxHeartbeats 1000000 in
theorem toP_own (B : Nat) (w0 : World) (p : Pl) (uv rv : Value) (hu : TxtsIn (· < B) w0 uv p.uris) (hr : RlIn (· < B) w0 rv p.rules) (hsu : p.uris.length ≤ 1048576) (hsr : p.rules.length ≤ 1048576) (hsw : ∀ i, i < p.rules.length → (p.rules.getD i default).words.length ≤ 1048576) (W : World) (hb : Below B w0 W) (hB : B ≤ W.heap.size) :
    Calls Tryz.prog 64 #[pV p uv rv] W (NewPO W p) := by
  obtain ⟨n, us, xs⟩ := p
  simp only at hu hr hsu hsr hsw
  have TU := Lib.hid (toT_own B w0 us uv hu hsu)
  have TR := Lib.hid (toRls_own B w0 xs rv hr hsr hsw)
  have HB := Lib.hid hb
  obtain ⟨a1, l1, c1, rfl⟩ := hu.slice
  obtain ⟨a2, l2, c2, rfl⟩ := hr.slice
  clear hu hr hb hsw
  go_enter Tryz.func64, Tryz.ntmps64
  go_wp2_with fail
  have k1 := alloc3_1 W (.cells #[.string ⟨n.toArray⟩, .slice a1 l1 c1, .slice a2 l2 c2] 26) (.cells #[.string ⟨#[]⟩, .slice none 0 0, .slice none 0 0] 37) (.cells #[.string ⟨n.toArray⟩, .slice none 0 0, .slice none 0 0] 37)
  have k2 := alloc3_2 W (.cells #[.string ⟨n.toArray⟩, .slice a1 l1 c1, .slice a2 l2 c2] 26) (.cells #[.string ⟨#[]⟩, .slice none 0 0, .slice none 0 0] 37) (.cells #[.string ⟨n.toArray⟩, .slice none 0 0, .slice none 0 0] 37)
  have k0 := alloc3_0 W (.cells #[.string ⟨n.toArray⟩, .slice a1 l1 c1, .slice a2 l2 c2] 26) (.cells #[.string ⟨#[]⟩, .slice none 0 0, .slice none 0 0] 37) (.cells #[.string ⟨n.toArray⟩, .slice none 0 0, .slice none 0 0] 37)
  have hb3 : Below W.heap.size W (((W.alloc (.cells #[.string ⟨n.toArray⟩, .slice a1 l1 c1, .slice a2 l2 c2] 26)).alloc (.cells #[.string ⟨#[]⟩, .slice none 0 0, .slice none 0 0] 37)).alloc (.cells #[.string ⟨n.toArray⟩, .slice none 0 0, .slice none 0 0] 37)) := (((Below.refl _ _).alloc (Nat.le_refl _) _).alloc (by simp) _).alloc (by simp; omega) _
  have z3 : W.heap.size + 3 = (((W.alloc (.cells #[.string ⟨n.toArray⟩, .slice a1 l1 c1, .slice a2 l2 c2] 26)).alloc (.cells #[.string ⟨#[]⟩, .slice none 0 0, .slice none 0 0] 37)).alloc (.cells #[.string ⟨n.toArray⟩, .slice none 0 0, .slice none 0 0] 37)).heap.size := by simp
  generalize (((W.alloc (.cells #[.string ⟨n.toArray⟩, .slice a1 l1 c1, .slice a2 l2 c2] 26)).alloc (.cells #[.string ⟨#[]⟩, .slice none 0 0, .slice none 0 0] 37)).alloc (.cells #[.string ⟨n.toArray⟩, .slice none 0 0, .slice none 0 0] 37)) = w3 at *
  refine (TU.out w3 (HB.out.trans (hb3.mono hB)) (by omega)).mono ?_
  rintro e w4 ⟨v4, rfl, ht4, hb4, ho4⟩
  obtain ⟨a4, l4, c4, rfl⟩ := ht4.slice
  have z4 := hb4.size
  have k1' := (hb4.block _ (by omega)).trans k1
  have k2' := (hb4.block _ (by omega)).trans k2
  have k0' := (hb4.block _ (by omega)).trans k0
  obtain ⟨m00, m01, m02, m0f⟩ := three_cells k0'
  obtain ⟨m20, m21, m22, m2f⟩ := three_cells k2'
  have hf0 : (w4.setCell ⟨W.heap.size + 1 + 1, 1, none⟩ (.slice a4 l4 c4)).heap[W.heap.size]? = _ := (heap_setCell_other _ ⟨W.heap.size + 1 + 1, 1, none⟩ _ _ (by simp; omega)).trans k0'
  have hf1 : (w4.setCell ⟨W.heap.size + 1 + 1, 1, none⟩ (.slice a4 l4 c4)).heap[W.heap.size + 1]? = _ := (heap_setCell_other _ ⟨W.heap.size + 1 + 1, 1, none⟩ _ _ (by simp)).trans k1'
  have hf2 : (w4.setCell ⟨W.heap.size + 1 + 1, 1, none⟩ (.slice a4 l4 c4)).heap[W.heap.size + 1 + 1]? = _ := heap_set k2' 1 (.slice a4 l4 c4)
  have hB4 : Below W.heap.size W (w4.setCell ⟨W.heap.size + 1 + 1, 1, none⟩ (.slice a4 l4 c4)) := (hb3.trans (hb4.mono (by omega))).setCell (by simp; omega) _
  have ht5 : TxtsIn (fun b => w3.heap.size ≤ b ∧ b < (w4.setCell ⟨W.heap.size + 1 + 1, 1, none⟩ (.slice a4 l4 c4)).heap.size) (w4.setCell ⟨W.heap.size + 1 + 1, 1, none⟩ (.slice a4 l4 c4)) (.slice a4 l4 c4) us :=
    ht4.same fun b hb => ⟨⟨hb.1, by simpa using hb.2⟩, heap_setCell_other _ ⟨W.heap.size + 1 + 1, 1, none⟩ b _ (by simp; omega)⟩
  have ho5 := ho4.away (S' := fun b => w3.heap.size ≤ b ∧ b < (w4.setCell ⟨W.heap.size + 1 + 1, 1, none⟩ (.slice a4 l4 c4)).heap.size) (w' := w4.setCell ⟨W.heap.size + 1 + 1, 1, none⟩ (.slice a4 l4 c4)) (fun b hb => ⟨hb.1, by simpa using hb.2⟩) (fun b hb => heap_setCell_other _ ⟨W.heap.size + 1 + 1, 1, none⟩ b _ (by simp; omega))
  have HO5 := Lib.hid ho5
  clear ho4 ho5
  have z5 : w4.heap.size = (w4.setCell ⟨W.heap.size + 1 + 1, 1, none⟩ (.slice a4 l4 c4)).heap.size := by simp
  have HF0 := Lib.hid hf0
  have HF1 := Lib.hid hf1
  have HF2 := Lib.hid hf2
  have HB4 := Lib.hid hB4
  have HT5 := Lib.hid ht5
  clear k0 k1 k2 k0' k1' k2' ht4 hb4 hb3 hf0 hf1 hf2 hB4 ht5
  go_wp2_with fail
  generalize w4.setCell ⟨W.heap.size + 1 + 1, 1, none⟩ (.slice a4 l4 c4) = w5 at *
  refine (TR.out w5 (HB.out.trans (HB4.out.mono hB)) (by omega)).mono ?_
  rintro e w6 ⟨v6, rfl, ht6, hb6, ho6⟩
  obtain ⟨a6, l6, c6, rfl⟩ := ht6.slice
  have z6 := hb6.size
  have k1' := (hb6.block _ (by omega)).trans HF1.out
  have k2' := (hb6.block _ (by omega)).trans HF2.out
  obtain ⟨p10, p11, p12, p1f⟩ := three_cells k1'
  obtain ⟨p20, p21, p22, p2f⟩ := three_cells k2'
  have hfin : (set3 (w6.setCell ⟨W.heap.size + 1 + 1, 2, none⟩ (.slice a6 l6 c6)) (W.heap.size + 1) 0 (.string ⟨n.toArray⟩) (.slice a4 l4 c4) (.slice a6 l6 c6)).heap[W.heap.size + 1]? = some (.cells #[.string ⟨n.toArray⟩, .slice a4 l4 c4, .slice a6 l6 c6] 37 (0, 0)) :=
    heap_set (heap_set (heap_set ((heap_setCell_other _ ⟨W.heap.size + 1 + 1, 2, none⟩ _ _ (by simp)).trans k1') 0 (.string ⟨n.toArray⟩)) 1 (.slice a4 l4 c4)) 2 (.slice a6 l6 c6)
  have HFIN := Lib.hid hfin
  have far : ∀ b, w3.heap.size ≤ b → (set3 (w6.setCell ⟨W.heap.size + 1 + 1, 2, none⟩ (.slice a6 l6 c6)) (W.heap.size + 1) 0 (.string ⟨n.toArray⟩) (.slice a4 l4 c4) (.slice a6 l6 c6)).heap[b]? = w6.heap[b]? := fun b hb => by
    rw [set3_far _ _ _ _ _ _ _ (by omega)]
    exact heap_setCell_other _ ⟨W.heap.size + 1 + 1, 2, none⟩ b _ (by simp; omega)
  have hpost : NewPO W ⟨n, us, xs⟩ (.returned (pV ⟨n, us, xs⟩ (.slice a4 l4 c4) (.slice a6 l6 c6))) (set3 (w6.setCell ⟨W.heap.size + 1 + 1, 2, none⟩ (.slice a6 l6 c6)) (W.heap.size + 1) 0 (.string ⟨n.toArray⟩) (.slice a4 l4 c4) (.slice a6 l6 c6)) := by
    refine ⟨_, _, rfl, HT5.out.same fun b hb => ⟨⟨by omega, by rw [set3_size]; simp; omega⟩, (far b hb.1).trans (hb6.block b hb.2)⟩, ht6.same fun b hb => ⟨⟨by omega, by rw [set3_size]; simpa using hb.2⟩, far b (by omega)⟩, ?_, HO5.out.away (fun b hb => ⟨by omega, by rw [set3_size]; simp; omega⟩) (fun b hb => (far b hb.1).trans (hb6.block b hb.2)), ho6.away (fun b hb => ⟨by omega, by rw [set3_size]; simpa using hb.2⟩) (fun b hb => far b (by omega))⟩
    exact ((((HB4.out.trans (hb6.mono (by omega))).setCell (by simp; omega) _).setCell (by simp) _).setCell (by simp) _).setCell (by simp) _
  have HP := Lib.hid hpost
  clear hfin hpost k1' k2' ht6 hb6 ho6 far m00 m01 m02 m0f m20 m21 m22 m2f
  go_wp2
  exact bodyPost_ret (ret_P Tryz.results64 rfl HFIN.out) rfl HP.out
end Go.Proofs.YtmaknkbmilcanaaGreatDoor.Pm
namespace Go.Proofs.YtmaknkbmilcanaaGreatDoor.Pm
open Go.RowKit
open Go.Proofs.YtmaknkbmilcanaaGreatDoor.Po
open Go.Proofs.YtmaknkbmilcanaaGreatDoor.Tx hiding ret_b ret_i
/-- w' is w but for what lies in S, and the rows of texts and of rules are such rows still -/
structure Marked (S : Nat → Prop) (w w' : World) : Prop where
  os : w'.os = w.os
  tape : w'.tape = w.tape
  output : w'.output = w.output
  size : w.heap.size ≤ w'.heap.size
  block : ∀ k, k < w.heap.size → ¬ S k → w'.heap[k]? = w.heap[k]?
  srow : ∀ g n, SRow w g n → SRow w' g n
  rrow : ∀ g n vs, RRow w g n vs → RRow w' g n vs
theorem Marked.refl (S : Nat → Prop) (w : World) : Marked S w w := ⟨rfl, rfl, rfl, Nat.le_refl _, fun _ _ _ => rfl, fun _ _ h => h, fun _ _ _ h => h⟩
theorem Marked.trans {S : Nat → Prop} {a b c : World} (h : Marked S a b) (k : Marked S b c) : Marked S a c :=
  ⟨k.os.trans h.os, k.tape.trans h.tape, k.output.trans h.output, Nat.le_trans h.size k.size, fun i hi hs => (k.block i (Nat.lt_of_lt_of_le hi h.size) hs).trans (h.block i hi hs), fun g n hh => k.srow g n (h.srow g n hh), fun g n vs hh => k.rrow g n vs (h.rrow g n vs hh)⟩
theorem Marked.below {S : Nat → Prop} {a b : World} (h : Below a.heap.size a b) : Marked S a b :=
  ⟨h.os, h.tape, h.output, h.size, fun i hi _ => h.block i hi, fun g _ ⟨f, hf⟩ => ⟨f, rowIs_at hf (h.block g hf.lt)⟩, fun g _ _ ⟨F, hF, hv⟩ => ⟨F, rowIs_at hF (h.block g hF.lt), hv⟩⟩
theorem rowIs_type {w : World} {g n m : Nat} {t u : TypeId} {f f' : Nat → Value} (h : w.rowIs g t n f) (h' : w.rowIs g u m f') : t = u := by
  obtain ⟨c, h1, _⟩ := h
  obtain ⟨c', h2, _⟩ := h'
  rw [h1] at h2
  simp only [Option.some.injEq, Obj.cells.injEq] at h2
  exact h2.2.1
theorem Marked.name {S : Nat → Prop} {w : World} {g n k : Nat} {vs : Nat → Value} (h : RRow w g n vs) (hS : S g) (v : Value) : Marked S w (w.setCell ⟨g, k * 2, none⟩ v) := by
  obtain ⟨F0, hF0, _⟩ := h
  refine ⟨rfl, rfl, rfl, by simp [World.setCell], fun i hi hs => Below.heap_setCell _ _ _ _ (by intro e; subst e; exact hs hS), fun g' m ⟨f', hf'⟩ => ?_, fun g' m vs' ⟨F, hF, hv⟩ => ?_⟩
  · by_cases e : g' = g
    · subst e; exact absurd (rowIs_type hf' hF0) (by decide)
    · exact ⟨f', rowIs_at hf' (Below.heap_setCell _ _ _ _ e)⟩
  · by_cases e : g' = g
    · subst e
      refine ⟨_, hF.set (k * 2) v, fun i hi => ?_⟩
      rw [if_neg (by omega)]
      exact hv i hi
    · exact ⟨F, rowIs_at hF (Below.heap_setCell _ _ _ _ e), hv⟩
end Go.Proofs.YtmaknkbmilcanaaGreatDoor.Pm
