
/-
  slices.Backward over entries: its contract; FateOf of the program and of the model, walked. (Made by fta.py.)
-/
import Derived.RangeFuncNested
import Derived.RangeFuncBound
import Derived.RangeFuncCalls
import Derived.RangeFuncLeaves
import Derived.RangeFuncBox
import Derived.Shelf.Abstract
import Derived.Shelf.RegionOpen
import Derived.WalkKit
import Derived.OwnWalkIn
import Derived.TacticsInMore
import Derived.LoopNIn
import Derived.LoopIn
import Derived.Test.YtmaknkbmilcanaaGreatDoorFtA
import Derived.Test.YtmaknkbmilcanaaGreatDoorPiS
namespace Go.Proofs.YtmaknkbmilcanaaGreatDoor.Ft
open Go.RowKit
open Go.Proofs.YtmaknkbmilcanaaGreatDoor.Tx (TxtsIn ret_b)
open Go.Proofs.YtmaknkbmilcanaaGreatDoor.Gr (Tg Gp TgIn ret_i)
open Go.Proofs.YtmaknkbmilcanaaGreatDoor.Pe (Pr PrIn)
open Go.Proofs.YtmaknkbmilcanaaGreatDoor.Qu (Rep Q RpIn IntsIn OI Hd intV)
open Go.Proofs.YtmaknkbmilcanaaGreatDoor.Po (Pl RlIn)
open Go.Proofs.YtmaknkbmilcanaaGreatDoor.Gr (belI_step belI_alloc)
open Go.Proofs.YtmaknkbmilcanaaGreatDoor.Pi (Cn En Wi Pp EnIn WiIn CnIn PpN PV pV8 ppV eV)
open Go.Proofs.YtmaknkbmilcanaaGreatDoor.Ul (Tab MaxL in_any)
open Go.Proofs.YtmaknkbmilcanaaGreatDoor.Pi (Sm ppB)
open Go.Proofs.YtmaknkbmilcanaaGreatDoor.Mk (below_grownBy own_slice own_base grown_below)

open Go.Shelf
attribute [local go_sem] Oper.semAt_some
theorem loB_all (now next : Int) : ∀ (xs : List En) (e : Int), Pi.loB now next e xs = true → ∀ x ∈ xs, (1 ≤ x.kind ∧ x.kind ≤ 7) ∧ (1 ≤ x.id ∧ x.id ≤ next - 1)
  | [], _, _ => by simp
  | x :: t, e, h => by
    simp only [Pi.loB, Pi.enB, Bool.and_eq_true, decide_eq_true_eq] at h
    intro y hy
    rcases List.mem_cons.1 hy with rfl | hy
    · exact ⟨h.1.1, h.1.2.1⟩
    · exact loB_all now next t _ h.2 y hy
theorem pp_log {p : Pp} (h : ppB p = true) : ∀ x ∈ p.log, (1 ≤ x.kind ∧ x.kind ≤ 7) ∧ (1 ≤ x.id ∧ x.id ≤ p.next - 1) := by
  simp only [ppB, Bool.and_eq_true] at h
  exact loB_all _ _ _ _ h.2.2.2.2.1.2
theorem getD_mem {xs : List En} {k : Nat} (h : k < xs.length) : xs.getD k default ∈ xs := by
  rw [List.getD_eq_getElem?_getD, List.getElem?_eq_getElem h]; exact List.getElem_mem h
theorem fate_none {xs : List En} {id : Int} : ∀ k, (∀ j, j < k → (xs.getD j default).id ≠ id) → fateB xs id k = 0
  | 0, _ => rfl
  | k + 1, h => by unfold fateB; rw [if_neg (h k (by omega)), fate_none k (fun j hj => h j (by omega))]
theorem fate_hit {xs : List En} {id : Int} (j : Nat) (hj : (xs.getD j default).id = id) : ∀ d, (∀ i, j < i → i < j + 1 + d → (xs.getD i default).id ≠ id) → fateB xs id (j + 1 + d) = (xs.getD j default).kind
  | 0, _ => by unfold fateB; rw [if_pos hj]
  | d + 1, h => by
    have e : j + 1 + (d + 1) = (j + 1 + d) + 1 := by omega
    rw [e]
    unfold fateB
    rw [if_neg (h (j + 1 + d) (by omega) (by omega)), fate_hit j hj d (fun i h1 h2 => h i h1 (by omega))]
theorem fate_some {xs : List En} {id : Int} (h : ∀ x ∈ xs, 1 ≤ x.kind ∧ x.kind ≤ 7) : ∀ k, k ≤ xs.length → fateB xs id k ≠ 0 ∨ ∀ j, j < k → (xs.getD j default).id ≠ id
  | 0, _ => .inr fun j hj => by omega
  | k + 1, hk => by
    unfold fateB
    split
    · have := (h _ (getD_mem (show k < xs.length by omega))).1
      exact .inl (by omega)
    · rename_i hne
      rcases fate_some h k (by omega) with h1 | h1
      · exact .inl h1
      · exact .inr fun j hj => by
          by_cases e : j = k
          · subst e; exact hne
          · exact h1 j (by omega)
/-- code and fate of FateOf -/
def foC (p : Pp) (id : Int) : Int := if ppB p = true then (if fateB p.log id p.log.length = 0 then 5 else 0) else 1
def foP (p : Pp) (id : Int) : Int := if foC p id = 0 then fateB p.log id p.log.length else 0
def Ho (W : World) (x c : Int) (e : Ending) (w' : World) : Prop := e = .returned (.tuple #[.int .i64 x, .int .i64 c]) ∧ Below W.heap.size W w'
theorem ret_2 {fn : Func} {a b : Nat} {tmps : Array Value} {X : World} (hres : fn.results = #[.tmp a, .tmp b]) : (results fn tmps).run Tryz.prog X = .ok (.tuple #[tmps[a]?.getD undef, tmps[b]?.getD undef]) X := by simp [results, hres, go_sem]
theorem ho_bad {W w : World} {p : Pp} {id c : Int} (h : foC p id = c) (h0 : c ≠ 0) (hb : Below W.heap.size W w) : Ho W (foP p id) (foC p id) (.returned (.tuple #[.int .i64 0, .int .i64 c])) w := by
  unfold foP; rw [h, if_neg h0]; exact ⟨rfl, hb⟩
theorem ho_good {W w : World} {p : Pp} {id f : Int} (h : foC p id = 0) (hf : fateB p.log id p.log.length = f) (hb : Below W.heap.size W w) : Ho W (foP p id) (foC p id) (.returned (.tuple #[.int .i64 f, .int .i64 0])) w := by
  unfold foP; rw [h, if_pos rfl, hf]; exact ⟨rfl, hb⟩
set_option maxRecDepth 100000 in
set_option maxHeartbeats 4000000 in
theorem fateOfS_any (B : Nat) (w0 : World) (p : Pp) (u : PV) (h : PpN (· < B) w0 u p) (sm : Sm p) (hlg : p.log.length ≤ 1048576) (id : Int) (W : World) (hb : Below B w0 W) (hB : B ≤ W.heap.size) :
    Calls Tryz.prog 15 #[pV8 p u, .int .i64 id] W (Ho W (foP p id) (foC p id)) := by
  obtain ⟨r, hr⟩ : ∃ r, ppB p = r := ⟨_, rfl⟩
  have HOK := Lib.hid (fun (W' : World) (hb : Below B w0 W') (hB : B ≤ W'.heap.size) => show Calls Tryz.prog 61 #[pV8 p u] W' (fun e w' => e = .returned (.bool r) ∧ Below W'.heap.size W' w') from by subst hr; exact Pi.ok08_any B w0 p u h sm W' hb hB)
  have HC := Lib.hid (show foC p id = if r = true then (if fateB p.log id p.log.length = 0 then 5 else 0) else 1 by subst hr; rfl)
  have HX := Lib.hid (fun (w : World) (c : Int) (h1 : foC p id = c) (h2 : c ≠ 0) (h3 : Below W.heap.size W w) => ho_bad h1 h2 h3)
  have HY := Lib.hid (fun (w : World) (f : Int) (h1 : foC p id = 0) (h2 : fateB p.log id p.log.length = f) (h3 : Below W.heap.size W w) => ho_good h1 h2 h3)
  have HB := Lib.hid hb
  clear hr hb sm
  generalize foC p id = C at *
  generalize foP p id = P at *
  obtain ⟨chs, ⟨rp, uris, rules⟩, now, next, log, ws⟩ := p
  obtain ⟨u1, u2, u3, u4, u5⟩ := u
  obtain ⟨h1, h2, h3, h4, h5⟩ := h
  simp only at h1 h2 h3 h4 h5 hlg HC HY
  have HF := Lib.hid (fun W' a b => fateS_any B w0 log u4 h4 u1 rp u2 u3 now next u5 id W' a b)
  obtain ⟨a1, l1, c1, rfl⟩ := h1.slice
  obtain ⟨a2, l2, c2, rfl⟩ := h2.slice
  obtain ⟨a3, l3, c3, rfl⟩ := h3.slice
  obtain ⟨a4, l4, c4, rfl⟩ := h4.slice
  obtain ⟨a5, l5, c5, rfl⟩ := h5.slice
  clear h1 h2 h3 h4 h5
  generalize fateB log id log.length = f at *
  have BA := Lib.hid ((Below.refl W.heap.size W).alloc (Nat.le_refl _) (.cells #[.slice a1 l1 c1, .string ⟨rp.toArray⟩, .slice a2 l2 c2, .slice a3 l3 c3, .int .i64 now, .int .i64 next, .slice a4 l4 c4, .slice a5 l5 c5] 41))
  have K := Lib.hid (Hd.new W (.cells #[.slice a1 l1 c1, .string ⟨rp.toArray⟩, .slice a2 l2 c2, .slice a3 l3 c3, .int .i64 now, .int .i64 next, .slice a4 l4 c4, .slice a5 l5 c5] 41))
  go_enter Tryz.func15, Tryz.ntmps15
  go_wp2_with fail
  refine (HOK.out _ (HB.out.trans (BA.out.mono hB)) (Nat.le_trans hB BA.out.size)).mono ?_
  rintro e w1 ⟨rfl, hb1⟩
  have B1 := Lib.hid (belI_step BA.out hb1)
  have K1 := Lib.hid (K.out.blw hb1)
  clear hb1 K BA
  cases r
  · have HZ := Lib.hid (HX.out w1 1 (by rw [HC.out]; rfl) (by decide) B1.out)
    go_wp2
    exact bodyPost_ret (ret_2 Tryz.results15) rfl HZ.out
  · have kk := K1.out
    have m0 := cell_of_row w1 W.heap.size 0 _ _ _ kk
    have m1 := cell_of_row w1 W.heap.size 1 _ _ _ kk
    have m2 := cell_of_row w1 W.heap.size 2 _ _ _ kk
    have m3 := cell_of_row w1 W.heap.size 3 _ _ _ kk
    have m4 := cell_of_row w1 W.heap.size 4 _ _ _ kk
    have m5 := cell_of_row w1 W.heap.size 5 _ _ _ kk
    have m6 := cell_of_row w1 W.heap.size 6 _ _ _ kk
    have m7 := cell_of_row w1 W.heap.size 7 _ _ _ kk
    clear kk
    go_wp2_with fail
    refine (HF.out w1 (HB.out.trans (B1.out.mono hB)) (Nat.le_trans hB B1.out.size)).mono ?_
    rintro e w2 ⟨rfl, hb2⟩
    have B2 := Lib.hid (belI_step B1.out hb2)
    clear hb2
    by_cases hz : f = 0
    · have HZ := Lib.hid (HX.out w2 5 (by rw [HC.out, hz]; rfl) (by decide) B2.out)
      have hz1 : (f == 0) = true := by simp [hz]
      go_wp2
      exact bodyPost_ret (ret_2 Tryz.results15) rfl HZ.out
    · have HZ := Lib.hid (HY.out w2 f (by rw [HC.out]; simp [hz]) rfl B2.out)
      have hz1 : (f == 0) = false := by simp [hz]
      go_wp2
      exact bodyPost_ret (ret_2 Tryz.results15) rfl HZ.out
/-! ### slices.Backward -/
theorem boxed_blw {w w' : World} {b : Nat} {T : TypeId} {v : Value} (h : Boxed w b T v) (hb : Below w.heap.size w w') : Boxed w' b T v := (hb.block _ h.lt).trans h
theorem boxed_al {w : World} {b : Nat} {T : TypeId} {v : Value} (h : Boxed w b T v) (o : Obj) : Boxed (w.alloc o) b T v := h.alloc o
/-- what has come when k rounds are over -/
def came (zs : List En) (k : Nat) : List (Nat × En) := (List.range k).map fun j => (zs.length - 1 - j, zs.getD (zs.length - 1 - j) default)
theorem came_succ (zs : List En) (k : Nat) : came zs (k + 1) = came zs k ++ [(zs.length - 1 - k, zs.getD (zs.length - 1 - k) default)] := by simp [came, List.range_succ]
theorem came_len (zs : List En) (k : Nat) : (came zs k).length = k := by simp [came]
theorem came_mem (zs : List En) (k j : Nat) (h : j < k) : (zs.length - 1 - j, zs.getD (zs.length - 1 - j) default) ∈ came zs k := by
  simp only [came, List.mem_map, List.mem_range]; exact ⟨j, h, rfl⟩
theorem hd_own {β : Type} (B : Nat) (C : β → Array Value) (T : TypeId) : Own (fun s W => Hd W B (.cells (C s) T)) := fun s X Y row hs hg hrow => by
  have := grownBy_keeps_cells hg hrow hs rfl
  exact this.trans hs
theorem hd_cells {w : World} {b : Nat} {C : Array Value} {T : TypeId} (h : Hd w b (.cells C T)) {i : Nat} {v : Value} (hv : C[i]? = some v) : w.cell? ⟨b, i, none⟩ = some v := by
  simp [World.cell?, show w.heap[b]? = _ from h, hv]
set_option maxRecDepth 100000 in
set_option maxHeartbeats 4000000 in
theorem bwd1_in (F : Fence) (n : Nat) (hf : F.fn 138) (hro : F.round = none) (hn : 1 ≤ n) (l Bs n₀ b off cap : Nat) (zs : List En) (hl : zs.length ≤ 1048576) (hb : b < n₀) (hB : Bs < n₀) (J Jx : List (Nat × En) → World → Prop)
    (hY : ∀ pre x W, J pre W → pre.length < zs.length → YieldAt F (n - 1) Tryz.prog l #[.int .i64 (x.1 : Int), eV x.2] W fun e W' =>
      (e = .returned (.bool true) ∧ J (pre ++ [x]) W' ∧ Below n₀ W W') ∨ (e = .returned (.bool false) ∧ Jx (pre ++ [x]) W'))
    (W : World) (hBs : W.cell? ⟨Bs, 0, none⟩ = some (.slice (some ⟨b, off, none⟩) zs.length cap))
    (hc : ∀ i, i < zs.length → W.cell? ⟨b, off + i * 3, none⟩ = some (.int .i64 (zs.getD i default).kind) ∧ W.cell? ⟨b, off + i * 3 + 1, none⟩ = some (.int .i64 (zs.getD i default).id) ∧ W.cell? ⟨b, off + i * 3 + 2, none⟩ = some (.int .i64 (zs.getD i default).tm)) (h0 : J [] W) :
    CallsIn F n Tryz.prog 138 #[.func (.yield l) #[] #[], .pointer (some ⟨Bs, 0, none⟩)] W fun e W' => (∃ v, e = .returned v) ∧
      ((∃ ys, ys = came zs zs.length ∧ J ys W') ∨ (∃ pre, (∃ k, k ≤ zs.length ∧ pre = came zs k) ∧ Jx pre W')) := by
  have HC := Lib.hid hc
  have HY := Lib.hid hY
  have hn2 : (zs.length : Int) ≤ 9223372036854775807 := by omega
  clear hc hY
  refine callsIn_of_wp Tryz.func138 rfl hf ?_ hro
  simp only [Tryz.ntmps138, List.size_toArray, List.length_cons, List.length_nil, Nat.reduceAdd, Nat.reduceSub, Array.replicate_succ, Array.replicate_zero, List.push_toArray, List.append_toArray, List.nil_append, List.cons_append]
  gi_wp2
  gi_loopw [3] (fun i wr => ∃ k : Nat, k ≤ zs.length ∧ i = .int .i64 ((zs.length : Int) - 1 - k) ∧ J (came zs k) wr ∧ Below n₀ W wr)
    (fun i _ => (intOf i + 1).toNat)
  case atStart => exact ⟨0, Nat.zero_le _, by go_num, h0, Below.refl _ _⟩
  case round =>
    obtain ⟨k, hk, rfl, hJs, hnx⟩ := hrel
    have hbx := (hnx.cell (p := ⟨Bs, 0, none⟩) hB).trans hBs
    by_cases hlt : k < zs.length
    · obtain ⟨j, hj⟩ : ∃ j, zs.length - 1 - k = j := ⟨_, rfl⟩
      have ej : (zs.length : Int) - 1 - k = (j : Int) := by omega
      rw [ej]
      have hjl : j < zs.length := by omega
      obtain ⟨c0, c1, c2⟩ := HC.out j hjl
      have q0 := (hnx.cell (p := ⟨b, off + j * 3, none⟩) hb).trans c0
      have q1 := (hnx.cell (p := ⟨b, off + j * 3 + 1, none⟩) hb).trans c1
      have q2 := (hnx.cell (p := ⟨b, off + j * 3 + 2, none⟩) hb).trans c2
      have CS := Lib.hid (came_succ zs k)
      rw [hj] at CS
      clear c0 c1 c2
      generalize zs.getD j default = x at *
      obtain ⟨fn, tmps, assign, body, hy, hR⟩ := HY.out _ (j, x) wr hJs (by rw [came_len]; exact hlt)
      obtain ⟨x0, x1, x2⟩ := x
      dsimp only at hy q0 q1 q2
      gi_wp2
      refine hR.mono ?_
      rintro e W3 (⟨rfl, hJ3, hk3⟩ | ⟨rfl, hJx3⟩)
      · have hN3 := hnx.trans hk3
        rw [← CS.out] at hJ3
        gi_wp2
        go_roundw
        case rel => exact ⟨k + 1, by omega, by go_num, hJ3, hN3⟩
        case measure => simp [intOf]
      · rw [← CS.out] at hJx3
        gi_wp2
        refine bodyPost_ret (results_none rfl _ _ _) rfl ?_
        exact ⟨⟨_, rfl⟩, .inr ⟨_, ⟨k + 1, by omega, rfl⟩, hJx3⟩⟩
    · obtain rfl : k = zs.length := by omega
      have ej : (zs.length : Int) - 1 - zs.length = -1 := by omega
      rw [ej]
      gi_wp2
      go_end0
      exact ⟨⟨_, rfl⟩, .inl ⟨_, rfl, hJs⟩⟩
set_option maxRecDepth 100000 in
set_option maxHeartbeats 1000000 in
theorem bwd1_nil_in (F : Fence) (n : Nat) (hf : F.fn 138) (hro : F.round = none) (l Bs : Nat) (a : Option Addr) (cap : Nat) (J : List (Nat × En) → World → Prop) (W : World) (hBs : W.cell? ⟨Bs, 0, none⟩ = some (.slice a 0 cap)) (h0 : J [] W) :
    CallsIn F n Tryz.prog 138 #[.func (.yield l) #[] #[], .pointer (some ⟨Bs, 0, none⟩)] W fun e W' => (∃ v, e = .returned v) ∧ J [] W' := by
  refine callsIn_of_wp Tryz.func138 rfl hf ?_ hro
  simp only [Tryz.ntmps138, List.size_toArray, List.length_cons, List.length_nil, Nat.reduceAdd, Nat.reduceSub, Array.replicate_succ, Array.replicate_zero, List.push_toArray, List.append_toArray, List.nil_append, List.cons_append]
  gi_wp2
  gi_loopw [3] (fun i wr => i = .int .i64 (-1) ∧ J [] wr) (fun _ _ => 0)
  case atStart => exact ⟨rfl, h0⟩
  case round =>
    obtain ⟨rfl, hJs⟩ := hrel
    gi_wp2
    go_end0
    exact ⟨⟨_, rfl⟩, hJs⟩
theorem bwd_stops (F : Fence) (n : Nat) (hf : F.fn 138) (hro : F.round = none) (hn : 1 ≤ n) (Bs n₀ : Nat) (sv : Value) (zs : List En) (hl : zs.length ≤ 1048576) (w : World) (hBs : Bs < n₀) (hn₀ : n₀ ≤ w.heap.size)
    (hc : w.cell? ⟨Bs, 0, none⟩ = some sv) (hI : EnIn (· < n₀) w sv zs) :
    SeqStopsK F n Tryz.prog 138 #[.pointer (some ⟨Bs, 0, none⟩)] (fun x : Nat × En => #[Value.int .i64 (x.1 : Int), eV x.2]) (Below n₀) (fun ys => ys = came zs zs.length)
      (fun pre => ∃ k, k ≤ zs.length ∧ pre = came zs k) zs.length w := fun l J Jx W hW _ _ hY h0 => by
  have hc' := (hW.cell (p := ⟨Bs, 0, none⟩) (Nat.lt_of_lt_of_le hBs hn₀)).trans hc
  obtain ⟨a, cap, b, off, rfl, -, hm, -, ha, hcs⟩ := hI.blw (hW.mono hn₀)
  by_cases hp : 0 < zs.length
  · obtain ⟨rfl, hb⟩ := ha hp
    exact bwd1_in F n hf hro hn l Bs n₀ b off cap zs hl hb hBs J Jx hY W hc' hcs h0
  · obtain rfl : zs = [] := List.eq_nil_of_length_eq_zero (by omega)
    exact (bwd1_nil_in F n hf hro l Bs a cap J W hc' h0).mono fun e W' ⟨he, hj⟩ => ⟨he, .inl ⟨_, rfl, hj⟩⟩
set_option maxHeartbeats 1000000 in
theorem bwd_in (F : Fence) (n : Nat) (hf : F.fn 68) (hro : F.round = none) (a : Option Addr) (len cap : Nat) (w : World) :
    CallsIn F n Tryz.prog 68 #[.slice a len cap] w fun e w' => e = .returned (.func (.func 138) #[] #[.pointer (some ⟨w.heap.size, 0, none⟩)]) ∧ w' = w.alloc (.cells #[.slice a len cap] 38) := by
  refine callsIn_of_wp Tryz.func68 rfl hf ?_ hro
  simp only [Tryz.ntmps68, List.size_toArray, List.length_cons, List.length_nil, Nat.reduceAdd, Nat.reduceSub, Array.replicate_succ, Array.replicate_zero, List.push_toArray, List.append_toArray, List.nil_append, List.cons_append]
  gi_wp2
  go_ret
  exact ⟨rfl, rfl⟩
/-! ### FateOf -/
def NoP (id : Int) (pre : List (Nat × En)) : Prop := ∀ x ∈ pre, x.2.id ≠ id
def HitP (id : Int) (pre : List (Nat × En)) (kd : Int) : Prop := ∃ ini last, pre = ini ++ [last] ∧ NoP id ini ∧ last.2.id = id ∧ last.2.kind = kd
theorem noP_snoc {id : Int} {pre : List (Nat × En)} {x : Nat × En} (h : NoP id pre) (hx : x.2.id ≠ id) : NoP id (pre ++ [x]) := fun y hy => (List.mem_append.1 hy).elim (h y) (fun e => by rw [List.mem_singleton.1 e]; exact hx)
theorem hitP_snoc {id : Int} {pre : List (Nat × En)} {x : Nat × En} (h : NoP id pre) (hx : x.2.id = id) : HitP id (pre ++ [x]) x.2.kind := ⟨pre, x, rfl, h, hx, rfl⟩
set_option maxRecDepth 100000 in
set_option maxHeartbeats 4000000 in
theorem fateI_no (B : Nat) (w0 : World) (p : Pp) (u : PV) (h : PpN (· < B) w0 u p) (sm : Sm p) (id : Int) (hr : ppB p = false) (W : World) (hb : Below B w0 W) (hB : B ≤ W.heap.size) (hT : Tab W) (hM : MaxL W) :
    Calls Tryz.prog 17 #[pV8 p u, .int .i64 id] W (Ho W (foP p id) (foC p id)) := by
  have HOK := Lib.hid (fun (W' : World) (hb : Below B w0 W') (hB : B ≤ W'.heap.size) (h2 : Tab W') (h3 : MaxL W') => show Calls Tryz.prog 67 #[pV8 p u] W' (fun e w' => e = .returned (.bool false) ∧ Below W'.heap.size W' w') from by rw [← hr]; exact Pi.ppI_any B w0 p u h sm W' hb hB h2 h3)
  have HX := Lib.hid (fun (w : World) (h3 : Below W.heap.size W w) => ho_bad (id := id) (show foC p id = 1 by unfold foC; rw [hr]; rfl) (by decide) h3)
  have HB := Lib.hid hb
  have HT := Lib.hid hT
  have HM := Lib.hid hM
  clear hr hb hT hM sm
  generalize foC p id = C at *
  generalize foP p id = P at *
  obtain ⟨chs, ⟨rp, uris, rules⟩, now, next, log, ws⟩ := p
  obtain ⟨u1, u2, u3, u4, u5⟩ := u
  obtain ⟨h1, h2, h3, h4, h5⟩ := h
  simp only at h1 h2 h3 h4 h5
  obtain ⟨a1, l1, c1, rfl⟩ := h1.slice
  obtain ⟨a2, l2, c2, rfl⟩ := h2.slice
  obtain ⟨a3, l3, c3, rfl⟩ := h3.slice
  obtain ⟨a4, l4, c4, rfl⟩ := h4.slice
  obtain ⟨a5, l5, c5, rfl⟩ := h5.slice
  clear h1 h2 h3 h4 h5
  obtain ⟨W1, hW1⟩ : ∃ W1, W1 = (((W.alloc (.cells #[.slice a1 l1 c1, .string ⟨rp.toArray⟩, .slice a2 l2 c2, .slice a3 l3 c3, .int .i64 now, .int .i64 next, .slice a4 l4 c4, .slice a5 l5 c5] 41)).alloc (.cells #[.int .i64 id] 3)).alloc (.cells #[.int .i64 0] 3)).alloc (.cells #[.int .i64 0] 3) := ⟨_, rfl⟩
  have BR := Lib.hid (show Boxed W1 (W.heap.size + 1 + 1) 3 (.int .i64 0) by have := (Boxed.new ((W.alloc (.cells #[.slice a1 l1 c1, .string ⟨rp.toArray⟩, .slice a2 l2 c2, .slice a3 l3 c3, .int .i64 now, .int .i64 next, .slice a4 l4 c4, .slice a5 l5 c5] 41)).alloc (.cells #[.int .i64 id] 3)) 3 (.int .i64 0)).alloc (.cells #[.int .i64 0] 3); simp only [World.size_alloc] at this; rwa [hW1])
  have BQ := Lib.hid (show Boxed W1 (W.heap.size + 1 + 1 + 1) 3 (.int .i64 0) by have := Boxed.new (((W.alloc (.cells #[.slice a1 l1 c1, .string ⟨rp.toArray⟩, .slice a2 l2 c2, .slice a3 l3 c3, .int .i64 now, .int .i64 next, .slice a4 l4 c4, .slice a5 l5 c5] 41)).alloc (.cells #[.int .i64 id] 3)).alloc (.cells #[.int .i64 0] 3)) 3 (.int .i64 0); simp only [World.size_alloc] at this; rwa [hW1])
  have B1 := Lib.hid (show Below W.heap.size W W1 by rw [hW1]; exact ((((Below.refl W.heap.size W).alloc (Nat.le_refl _) _).alloc (by simp) _).alloc (by simp; omega) _).alloc (by simp; omega) _)
  have HOK1 := Lib.hid (HOK.out W1 (HB.out.trans (B1.out.mono hB)) (Nat.le_trans hB B1.out.size) (HT.out.below B1.out) (HM.out.below B1.out))
  go_enter Tryz.func17, Tryz.ntmps17
  go_wp2_with fail
  rw [← hW1]
  clear hW1
  refine HOK1.out.mono ?_
  rintro e w1 ⟨rfl, hb1⟩
  have bR := boxed_blw BR.out hb1
  have bQ := boxed_blw BQ.out hb1
  have cR := bR.cell
  have fR := bR.frozen
  have cQ := bQ.cell
  have fQ := bQ.frozen
  have B2 := belI_step B1.out hb1
  have cR2 := ((bR.set (.int .i64 0)).other (B' := W.heap.size + 1 + 1 + 1) (by omega) (.int .i64 1)).cell
  have cQ2 := ((bQ.other (B' := W.heap.size + 1 + 1) (by omega) (.int .i64 0)).set (.int .i64 1)).cell
  have HZ := Lib.hid (HX.out ((w1.setCell ⟨W.heap.size + 1 + 1, 0, none⟩ (.int .i64 0)).setCell ⟨W.heap.size + 1 + 1 + 1, 0, none⟩ (.int .i64 1)) ((B2.setCell (p := ⟨W.heap.size + 1 + 1, 0, none⟩) (by simp; omega) _).setCell (p := ⟨W.heap.size + 1 + 1 + 1, 0, none⟩) (by simp; omega) _))
  clear bR bQ B2 hb1 BR BQ
  go_wp2
  exact bodyPost_ret (v := .tuple #[.int .i64 0, .int .i64 1]) (by simp [results, Tryz.results17, go_sem, cR2, cQ2]) rfl HZ.out
set_option maxRecDepth 100000 in
set_option maxHeartbeats 4000000 in
theorem fateI_yes (B : Nat) (w0 : World) (p : Pp) (u : PV) (h : PpN (· < B) w0 u p) (sm : Sm p) (hlg : p.log.length ≤ 1048576) (id : Int) (hr : ppB p = true) (W : World) (hb : Below B w0 W) (hB : B ≤ W.heap.size) (hT : Tab W) (hM : MaxL W) :
    Calls Tryz.prog 17 #[pV8 p u, .int .i64 id] W (Ho W (foP p id) (foC p id)) := by
  have HOK := Lib.hid (fun (W' : World) (hb : Below B w0 W') (hB : B ≤ W'.heap.size) (h2 : Tab W') (h3 : MaxL W') => show Calls Tryz.prog 67 #[pV8 p u] W' (fun e w' => e = .returned (.bool true) ∧ Below W'.heap.size W' w') from by rw [← hr]; exact Pi.ppI_any B w0 p u h sm W' hb hB h2 h3)
  have HL := Lib.hid (show ∀ x ∈ p.log, 1 ≤ x.kind ∧ x.kind ≤ 7 from fun x hx => (pp_log hr x hx).1)
  have HC := Lib.hid (show foC p id = if fateB p.log id p.log.length = 0 then 5 else 0 by unfold foC; rw [hr]; rfl)
  have HX := Lib.hid (fun (w : World) (c : Int) (h1 : foC p id = c) (h2 : c ≠ 0) (h3 : Below W.heap.size W w) => ho_bad h1 h2 h3)
  have HY := Lib.hid (fun (w : World) (f : Int) (h1 : foC p id = 0) (h2 : fateB p.log id p.log.length = f) (h3 : Below W.heap.size W w) => ho_good h1 h2 h3)
  have HB := Lib.hid hb
  have HT := Lib.hid hT
  have HM := Lib.hid hM
  clear hr hb hT hM sm
  generalize foC p id = C at *
  generalize foP p id = P at *
  obtain ⟨chs, ⟨rp, uris, rules⟩, now, next, log, ws⟩ := p
  obtain ⟨u1, u2, u3, u4, u5⟩ := u
  obtain ⟨h1, h2, h3, h4, h5⟩ := h
  simp only at h1 h2 h3 h4 h5 hlg HL HC HY
  have H4 := Lib.hid h4
  obtain ⟨a1, l1, c1, rfl⟩ := h1.slice
  obtain ⟨a2, l2, c2, rfl⟩ := h2.slice
  obtain ⟨a3, l3, c3, rfl⟩ := h3.slice
  obtain ⟨a4, l4, c4, rfl⟩ := h4.slice
  obtain ⟨a5, l5, c5, rfl⟩ := h5.slice
  clear h1 h2 h3 h4 h5
  refine (callsIn_wide (n := 9)).1 ?_
  refine callsIn_of_wp_marks Tryz.func17 rfl trivial ?_ rfl
  simp only [Tryz.ntmps17, List.size_toArray, List.length_cons, List.length_nil, Nat.reduceAdd, Nat.reduceSub, Array.replicate_succ, Array.replicate_zero, List.push_toArray, List.append_toArray, List.nil_append, List.cons_append]
  obtain ⟨W1, hW1⟩ : ∃ W1, W1 = (((W.alloc (.cells #[.slice a1 l1 c1, .string ⟨rp.toArray⟩, .slice a2 l2 c2, .slice a3 l3 c3, .int .i64 now, .int .i64 next, .slice a4 l4 c4, .slice a5 l5 c5] 41)).alloc (.cells #[.int .i64 id] 3)).alloc (.cells #[.int .i64 0] 3)).alloc (.cells #[.int .i64 0] 3) := ⟨_, rfl⟩
  have bp := Lib.hid (show Hd W1 W.heap.size (.cells #[.slice a1 l1 c1, .string ⟨rp.toArray⟩, .slice a2 l2 c2, .slice a3 l3 c3, .int .i64 now, .int .i64 next, .slice a4 l4 c4, .slice a5 l5 c5] 41) by rw [hW1]; exact ((((Hd.new W _).al _).al _).al _))
  have bI := ((Boxed.new (W.alloc (.cells #[.slice a1 l1 c1, .string ⟨rp.toArray⟩, .slice a2 l2 c2, .slice a3 l3 c3, .int .i64 now, .int .i64 next, .slice a4 l4 c4, .slice a5 l5 c5] 41)) 3 (.int .i64 id)).alloc (.cells #[.int .i64 0] 3)).alloc (.cells #[.int .i64 0] 3)
  have bR := (Boxed.new ((W.alloc (.cells #[.slice a1 l1 c1, .string ⟨rp.toArray⟩, .slice a2 l2 c2, .slice a3 l3 c3, .int .i64 now, .int .i64 next, .slice a4 l4 c4, .slice a5 l5 c5] 41)).alloc (.cells #[.int .i64 id] 3)) 3 (.int .i64 0)).alloc (.cells #[.int .i64 0] 3)
  have bQ := Boxed.new (((W.alloc (.cells #[.slice a1 l1 c1, .string ⟨rp.toArray⟩, .slice a2 l2 c2, .slice a3 l3 c3, .int .i64 now, .int .i64 next, .slice a4 l4 c4, .slice a5 l5 c5] 41)).alloc (.cells #[.int .i64 id] 3)).alloc (.cells #[.int .i64 0] 3)) 3 (.int .i64 0)
  simp only [World.size_alloc] at bI bR bQ
  rw [← hW1] at bI bR bQ
  have B1 := Lib.hid (show Below W.heap.size W W1 by rw [hW1]; exact ((((Below.refl W.heap.size W).alloc (Nat.le_refl _) _).alloc (by simp) _).alloc (by simp; omega) _).alloc (by simp; omega) _)
  have BI := Lib.hid bI
  have BR := Lib.hid bR
  have BQ := Lib.hid bQ
  clear bI bR bQ
  have HOK1 := Lib.hid (HOK.out W1 (HB.out.trans (B1.out.mono hB)) (Nat.le_trans hB B1.out.size) (HT.out.below B1.out) (HM.out.below B1.out))
  gi_wp2_with fail
  rw [← hW1]
  clear hW1
  refine ⟨trivial, ?_⟩
  gi_at_call 67
  refine (callsIn_wide.2 HOK1.out).mono ?_
  rintro e w1 ⟨rfl, hb1⟩
  have m6 := cell_of_row w1 W.heap.size 6 _ _ _ (bp.out.blw hb1)
  have BI := Lib.hid (boxed_blw BI.out hb1)
  have BR := Lib.hid (boxed_blw BR.out hb1)
  have BQ := Lib.hid (boxed_blw BQ.out hb1)
  have B2 := Lib.hid (belI_step B1.out hb1)
  clear hb1 HOK1 HOK bp B1
  gi_wp2_with fail
  refine ⟨trivial, ?_⟩
  refine (bwd_in Fence.wide _ trivial rfl _ _ _ _).mono ?_
  rintro e w' ⟨rfl, rfl⟩
  obtain ⟨w2, hw2⟩ : ∃ w2, w2 = w1.alloc (.cells #[.slice a4 l4 c4] 38) := ⟨_, rfl⟩
  have bS : Boxed w2 w1.heap.size 38 (.slice a4 l4 c4) := by rw [hw2]; exact Boxed.new w1 _ _
  have A2 : Below w1.heap.size w1 w2 := by rw [hw2]; exact (Below.refl _ _).alloc (Nat.le_refl _) _
  have B3 : Below W.heap.size W w2 := belI_step B2.out A2
  have bI := boxed_blw BI.out A2
  have bR := boxed_blw BR.out A2
  have bQ := boxed_blw BQ.out A2
  have hE : EnIn (· < w2.heap.size) w2 (.slice a4 l4 c4) log := H4.out.same fun b hb' => ⟨Nat.lt_of_lt_of_le hb' (Nat.le_trans hB B3.size), (HB.out.trans (B3.mono hB)).block b hb'⟩
  have hz1 := bS.lt
  have hzq := bQ.lt
  have hsz : W.heap.size ≤ w2.heap.size := B3.size
  gi_wp2_with fail
  rw [← hw2]
  clear hw2 BI BR BQ B2 A2 H4 HT HM
  refine wpIn_rangeFunc_ownH rfl (by omega) (gf := 138) (lb := #[.pointer (some ⟨w1.heap.size, 0, none⟩)]) rfl trivial (enters_of Tryz.func138 (by kernel_rfl) rfl)
    (bwd_stops Fence.wide _ trivial rfl (by omega) w1.heap.size w2.heap.size _ log hlg w2 hz1 (Nat.le_refl _) bS.cell hE) belowK_t (belowK_b (Nat.le_refl _)) (Below.refl _ _) (fun _ => rfl)
    (fun pre X => NoP id pre ∧ Below w2.heap.size w2 X)
    (fun c pre X => (c = .ret ∧ ∃ kd, HitP id pre kd ∧ Boxed X (W.heap.size + 1 + 1) 3 (.int .i64 kd) ∧ Boxed X (W.heap.size + 1 + 1 + 1) 3 (.int .i64 0)) ∧ Below W.heap.size W X)
    (OwnFrom.and (Own.from (fun _ _ _ _ hs _ _ => hs) _) (ownFrom_below (Nat.le_refl _) (Nat.le_refl _)))
    (fun c => OwnFrom.and (Own.from (fun s X Y row hs hg hr => by
      obtain ⟨hc, kd, e1, e4, e5⟩ := hs
      exact ⟨hc, kd, e1, boxed_own _ _ (fun (_ : Unit) => .int .i64 kd) () X Y row e4 hg hr, boxed_own _ _ (fun (_ : Unit) => .int .i64 0) () X Y row e5 hg hr⟩) _) (ownFrom_below (Nat.le_refl _) hsz))
    ⟨fun _ h => (by cases h), Below.refl _ _⟩
    (fun x a' X => ∃ Bx, W.heap.size + 1 + 1 + 1 < Bx ∧ Hd X Bx (.cells #[.int .i64 x.2.kind, .int .i64 x.2.id, .int .i64 x.2.tm] 107) ∧ a' = { tmps := #[pV8 ⟨chs, ⟨rp, uris, rules⟩, now, next, log, ws⟩ ⟨.slice a1 l1 c1, .slice a2 l2 c2, .slice a3 l3 c3, .slice a4 l4 c4, .slice a5 l5 c5⟩, .int .i64 id, .pointer (some ⟨W.heap.size, 0, none⟩), .pointer (some ⟨W.heap.size + 1, 0, none⟩), .pointer (some ⟨W.heap.size + 1 + 1, 0, none⟩), .pointer (some ⟨W.heap.size + 1 + 1 + 1, 0, none⟩), undef, .pointer (some ⟨Bx, 0, none⟩), .agg #[.slice a1 l1 c1, .string ⟨rp.toArray⟩, .slice a2 l2 c2, .slice a3 l3 c3, .int .i64 now, .int .i64 next, .slice a4 l4 c4, .slice a5 l5 c5], .bool true, .bool false, .pointer (some ⟨W.heap.size, 6, none⟩), .slice a4 l4 c4, .func (.func 138) #[] #[.pointer (some ⟨w1.heap.size, 0, none⟩)], .int .i64 (x.1 : Int), eV x.2, undef, undef, undef, undef, undef, undef], defers := [] })
    (fun x a' _ X Y row hs hg hr => by
      obtain ⟨Bx, h1, h2, h3⟩ := hs
      exact ⟨Bx, h1, hd_own Bx (fun (_ : Unit) => #[.int .i64 x.2.kind, .int .i64 x.2.id, .int .i64 x.2.tm]) _ () X Y row h2 hg (fun r e => (hr r e).2), h3⟩)
    ?assign ?body ?done ?stop
  case assign =>
    rintro l pre x X K ⟨hp, hBX⟩ hK
    obtain ⟨jx, kd, xid, tm⟩ := x
    gi_wp2
    exact hK _ _ ((KeepsOthers.alloc _ _).from _) ((Below.refl _ X).alloc hBX.size _) ⟨hp, hBX.alloc hBX.size _⟩ ⟨X.heap.size, by have := hBX.size; omega, Hd.new X _, rfl⟩
  case body =>
    rintro l pre x a' X hl hr ⟨hp, hBX⟩ ⟨Bx, hBx, hX, rfl⟩ hlt
    have bI' := boxed_blw bI hBX
    have bR' := boxed_blw bR hBX
    have bQ' := boxed_blw bQ hBX
    have x0 := hd_cells hX (i := 0) rfl
    have x1 := hd_cells hX (i := 1) rfl
    have cI := bI'.cell
    obtain ⟨jx, kd, xid, tm⟩ := x
    simp only at x0 x1
    by_cases he : xid = id
    · subst he
      have he1 : (xid == xid) = true := by simp
      have cR := bR'.cell
      have fR := bR'.frozen
      have cQ := bQ'.cell
      have fQ := bQ'.frozen
      gi_wp2
      exact ⟨((KeepsOthers.setCell _ _ _).trans (KeepsOthers.setCell _ _ _)).from _, ⟨rfl, kd, hitP_snoc (x := (jx, ⟨kd, xid, tm⟩)) hp rfl, (bR'.set _).other (by omega) _, (bQ'.other (by omega) _).set _⟩, ((B3.trans (hBX.mono hsz)).setCell (p := ⟨W.heap.size + 1 + 1, 0, none⟩) (by simp; omega) _).setCell (p := ⟨W.heap.size + 1 + 1 + 1, 0, none⟩) (by simp; omega) _⟩
    · have he1 : (xid == id) = false := by simp [he]
      gi_wp2
      exact ⟨KeepsFrom.refl _ _, Below.refl _ _, noP_snoc hp he, hBX⟩
  case done =>
    rintro D ys X hD rfl ⟨hp, hBX⟩ hK
    have hf0 : fateB log id log.length = 0 := fate_none _ fun j hj => by
      have h1 := came_mem log log.length (log.length - 1 - j) (by omega)
      have h2 := hp _ h1
      rwa [show log.length - 1 - (log.length - 1 - j) = j by omega] at h2
    have bR' := boxed_blw bR hBX
    have bQ' := boxed_blw bQ hBX
    have cR := bR'.cell
    have fR := bR'.frozen
    have cQ := bQ'.cell
    have fQ := bQ'.frozen
    have BX2 := ((B3.trans (hBX.mono hsz)).setCell (p := ⟨W.heap.size + 1 + 1, 0, none⟩) (by simp; omega) (.int .i64 0)).setCell (p := ⟨W.heap.size + 1 + 1 + 1, 0, none⟩) (by simp; omega) (.int .i64 5)
    have hK' := ((KeepsOthers.setCell X ⟨W.heap.size + 1 + 1, 0, none⟩ (.int .i64 0)).trans (KeepsOthers.setCell _ ⟨W.heap.size + 1 + 1 + 1, 0, none⟩ (.int .i64 5))).same D _ hK rfl
    have cR2 := ((((bR'.set (.int .i64 0)).other (B' := W.heap.size + 1 + 1 + 1) (by omega) (.int .i64 5))).kept (grownBy_putObj' _ D (.deferred none)) (by intro e; cases e; omega)).cell
    have cQ2 := ((((bQ'.other (B' := W.heap.size + 1 + 1) (by omega) (.int .i64 0)).set (.int .i64 5))).kept (grownBy_putObj' _ D (.deferred none)) (by intro e; cases e; omega)).cell
    have HZ := HX.out _ 5 (by rw [HC.out, if_pos hf0]) (by decide) (BX2.trans (belowK_b (w := W) (Nat.le_refl _) _ D _ (.deferred none) (by omega) hK' rfl rfl))
    gi_wp2
    refine ⟨by simp, .inl ⟨_, _, rfl, run_takeDeferred hK', ?_⟩⟩
    exact ⟨.tuple #[.int .i64 0, .int .i64 5], by simp [results, Tryz.results17, go_sem, cR2, cQ2], HZ⟩
  case stop =>
    rintro D c pre X hD ⟨k, hk, rfl⟩ ⟨⟨rfl, kd, ⟨ini, last, e1, e2, e3, e6⟩, bR', bQ'⟩, hBX⟩ hK
    obtain ⟨k', rfl⟩ : ∃ k', k = k' + 1 := by
      cases k with
      | zero => simp [came] at e1
      | succ k' => exact ⟨k', rfl⟩
    rw [came_succ] at e1
    obtain ⟨rfl, e5⟩ := List.append_inj' e1 rfl
    obtain rfl : (log.length - 1 - k', log.getD (log.length - 1 - k') default) = last := by simpa using e5
    have hfk : fateB log id log.length = (log.getD (log.length - 1 - k') default).kind := by
      have h1 := fate_hit (xs := log) (id := id) (log.length - 1 - k') e3 k' (fun i h1 h2 => by
        have h3 := came_mem log k' (log.length - 1 - i) (by omega)
        have h4 := e2 _ h3
        rwa [show log.length - 1 - (log.length - 1 - i) = i by omega] at h4)
      rwa [show log.length - 1 - k' + 1 + k' = log.length by omega] at h1
    have hne := (HL.out _ (getD_mem (show log.length - 1 - k' < log.length by omega))).1
    simp only at e6
    rw [e6] at hfk hne
    have cR2 := (bR'.kept (grownBy_putObj' _ D (.deferred none)) (by intro e; cases e; omega)).cell
    have cQ2 := (bQ'.kept (grownBy_putObj' _ D (.deferred none)) (by intro e; cases e; omega)).cell
    have HZ := HY.out _ kd (by rw [HC.out, hfk, if_neg (by omega)]) hfk (hBX.trans (belowK_b (w := W) (Nat.le_refl _) _ D _ (.deferred none) (by omega) hK rfl rfl))
    gi_wp2
    refine ⟨by simp, .inl ⟨_, _, rfl, run_takeDeferred hK, ?_⟩⟩
    exact ⟨.tuple #[.int .i64 kd, .int .i64 0], by simp [results, Tryz.results17, go_sem, cR2, cQ2], HZ⟩
theorem fateI_any (B : Nat) (w0 : World) (p : Pp) (u : PV) (h : PpN (· < B) w0 u p) (sm : Sm p) (hlg : p.log.length ≤ 1048576) (id : Int) (W : World) (hb : Below B w0 W) (hB : B ≤ W.heap.size) (hT : Tab W) (hM : MaxL W) :
    Calls Tryz.prog 17 #[pV8 p u, .int .i64 id] W (Ho W (foP p id) (foC p id)) := by
  cases hr : ppB p
  · exact fateI_no B w0 p u h sm id hr W hb hB hT hM
  · exact fateI_yes B w0 p u h sm hlg id hr W hb hB hT hM
end Go.Proofs.YtmaknkbmilcanaaGreatDoor.Ft
