
/-
  Append of a row at a step of a region that draws. QueuedNow of the program and of the model, walked: the insertion sort, and the library's sort. QueuedNow of the program, walked. QueuedNow of the model, walked: the insertion of each Id. QueuedNow of the model, walked. (Made by ftt.py.)
-/
import Derived.Test.YtmaknkbmilcanaaGreatDoorPeJ
import Derived.Sort.OwnSortedInts
import Derived.Deep.LoopGhost
import Derived.BigQuiet
import Derived.Test.YtmaknkbmilcanaaGreatDoorShelf
import Derived.Test.YtmaknkbmilcanaaGreatDoorFtC
import Derived.Deep.RegionHeld3
namespace Go.Proofs.YtmaknkbmilcanaaGreatDoor.App
open Go.RowKit
open Go.Proofs.YtmaknkbmilcanaaGreatDoor.Apq
section
variable {P : Program} (w : World)
theorem run_app_any (t ty : TypeId) (base : Nat) (e : TypeId) (i : TypeInfo) (z : Value) (size bytes : Nat) (ht : P.underlying t = some (.slice e)) (hi : P.info? e = some i) (hz : i.zero = some z)
    (hsize : i.size = size) (hby : i.bytes = bytes) (hzs : z.cells.size = size) (hsz : 0 < size)
    (v : Value) (n : Nat) (xs : List Value) (hown : w.ownsRow base e size v n xs)
    (xo : Option Addr) (m c : Nat) (news : List Value) (hm : 0 < m → ∃ ad, xo = some ad ∧ ∀ j u, news[j]? = some u → w.cell? (ad.add j) = some u) (hl : news.length = m * size) (h1 : ∀ u ∈ news, u.oneCell' = true)
    (h63 : n + m ≤ 9223372036854775807) (hbytes : (n + m) * bytes ≤ 140737488355328) (hbase : base ≤ w.heap.size) :
    ∃ v' w', (Builtin.append_ #[t, t] ty #[v, .slice xo m c]).run P w = .ok v' w' ∧ w'.ownsRow base e size v' (n + m) (xs ++ news) ∧ w.grownBy w' v.ownBlock := by
  by_cases hm0 : m = 0
  · subst hm0
    have hn0 : news = [] := List.eq_nil_of_length_eq_zero (by rw [hl]; omega)
    subst hn0
    have hsrc : Src P i.size t (.slice xo 0 c) 0 [] w := by
      cases xo with
      | none => exact Src.ofNil w ht c
      | some ad => exact Src.ofSlice w ht ad 0 c [] (by simp) (fun j u h => by simp at h) (fun u h => by cases h)
    have hr : (Builtin.append_ #[t, t] ty #[v, .slice xo 0 c]).run P w = .ok v w := by
      rcases hown.2 with ⟨rfl, rfl⟩ | ⟨g, cap, cur, rfl, _, _, hnc, _⟩
      · exact run_append_nothing w t t ty e i ht hi none 0 0 (Nat.le_refl _) _ hsrc
      · exact run_append_nothing w t t ty e i ht hi _ n cap hnc _ hsrc
    exact ⟨v, w, hr, by simpa using hown, ⟨rfl, rfl, rfl, Nat.le_refl _, fun _ _ _ => rfl⟩⟩
  · obtain ⟨ad, rfl, hc⟩ := hm (by omega)
    obtain ⟨v', w', hr, h2, h3, _⟩ := run_append_own (P := P) w base t ty e i z size bytes ht hi hz hsize hby hzs hsz v n xs hown ad m c news hl hc h1 (by unfold maxLen; exact h63) hbytes hbase
    exact ⟨v', w', hr, h2, h3⟩
theorem step_app_any {ops : Array Oper} {o : Oper} {a : Act} {K : Act → World → Prop} {Q : Exit → Act → World → Prop} {E : Prop} (hgd : o.guard = none) (s x : Operand) (t : TypeId)
    (ho : o.op = .call { callee := .builtin .append, args := #[s, x], argTypes := #[t, t] })
    (base : Nat) (e : TypeId) (i : TypeInfo) (z : Value) (size bytes : Nat) (ht : P.underlying t = some (.slice e)) (hi : P.info? e = some i) (hz : i.zero = some z)
    (hsize : i.size = size) (hby : i.bytes = bytes) (hzs : z.cells.size = size) (hsz : 0 < size)
    (v : Value) (n : Nat) (xs : List Value) (hs : a.eval s = v) (hown : w.ownsRow base e size v n xs)
    (xo : Option Addr) (m c : Nat) (news : List Value) (hx : a.eval x = .slice xo m c) (hm : 0 < m → ∃ ad, xo = some ad ∧ ∀ j u, news[j]? = some u → w.cell? (ad.add j) = some u) (hl : news.length = m * size) (h1 : ∀ u ∈ news, u.oneCell' = true)
    (h63 : n + m ≤ 9223372036854775807) (hbytes : (n + m) * bytes ≤ 140737488355328) (hbase : base ≤ w.heap.size)
    (h : ∀ v' w', w.ownsRow base e size v n xs → w'.ownsRow base e size v' (n + m) (xs ++ news) → w.grownBy w' v.ownBlock → K (a.put o.dst v') w') :
    if Region.wanted o (yielded ops a.tmps) = true then Oper.wp P o a w K Q else E := by
  have hw : Region.wanted o (yielded ops a.tmps) = true := by simp [Region.wanted, hgd]
  rw [if_pos hw]
  obtain ⟨v', w', hr, h2, h3⟩ := run_app_any (P := P) w t o.type base e i z size bytes ht hi hz hsize hby hzs hsz v n xs hown xo m c news hm hl h1 h63 hbytes hbase
  unfold Oper.wp execOp
  simp only [ho, resolve, invoke, builtin, Sem.run_bind, Sem.run_pure, Result.andThen_ok, List.map_toArray, List.map_cons, List.map_nil, hs, hx, hr]
  exact h v' w' hown h2 h3
end
end Go.Proofs.YtmaknkbmilcanaaGreatDoor.App
namespace Go.Proofs.YtmaknkbmilcanaaGreatDoor.Ft
open Go.RowKit
open Go.Proofs.YtmaknkbmilcanaaGreatDoor.Tx (TxtsIn ret_b)
open Go.Proofs.YtmaknkbmilcanaaGreatDoor.Gr (Tg Gp TgIn ret_i)
open Go.Proofs.YtmaknkbmilcanaaGreatDoor.Pe (Pr PrIn)
open Go.Proofs.YtmaknkbmilcanaaGreatDoor.Qu (Rep Q RpIn IntsIn OI Hd intV)
open Go.Proofs.YtmaknkbmilcanaaGreatDoor.Po (Pl RlIn)
open Go.Proofs.YtmaknkbmilcanaaGreatDoor.Gr (belI_step belI_alloc)
open Go.Proofs.YtmaknkbmilcanaaGreatDoor.Pi (Cn En Wi Pp EnIn WiIn CnIn CnN CV PpN PV pV8 ppV eV)
open Go.Proofs.YtmaknkbmilcanaaGreatDoor.Ul (Tab MaxL in_any)
open Go.Proofs.YtmaknkbmilcanaaGreatDoor.Pi (Sm ppB)
open Go.Proofs.YtmaknkbmilcanaaGreatDoor.Mk (below_grownBy own_slice own_base)

/-- the Ids of reports; of all queues, channel after channel -/
def idL (xs : List Rep) : List Int := xs.map (·.id)
def nowL (xs : List Cn) : List Int := (xs.map fun c => idL c.q.items).flatten
theorem idL_len (xs : List Rep) : (idL xs).length = xs.length := by simp [idL]
theorem idL_take (xs : List Rep) (k : Nat) (h : k < xs.length) : idL (xs.take (k + 1)) = idL (xs.take k) ++ [(xs.getD k default).id] := by
  unfold idL
  rw [List.take_succ_eq_append_getElem h, List.map_append]
  simp [List.getD, h]
theorem nowL_take (xs : List Cn) (k : Nat) (h : k < xs.length) : nowL (xs.take (k + 1)) = nowL (xs.take k) ++ idL (xs.getD k default).q.items := by
  unfold nowL
  rw [List.take_succ_eq_append_getElem h, List.map_append, List.flatten_append]
  simp [List.getD, h]
theorem nowL_len : ∀ (xs : List Cn), (∀ x ∈ xs, x.q.items.length ≤ 5) → (nowL xs).length ≤ 5 * xs.length
  | [], _ => by simp [nowL]
  | x :: t, h => by
    have h1 := nowL_len t (fun y hy => h y (List.mem_cons_of_mem _ hy))
    have h2 := h x (List.mem_cons_self ..)
    have e : nowL (x :: t) = idL x.q.items ++ nowL t := by simp [nowL]
    rw [e, List.length_append, idL_len, List.length_cons]
    omega
theorem insAll_snoc (l : List Int) (a : Int) : insAll (l ++ [a]) [] = insI a (insAll l []) := by simp [insAll, List.foldl_append]
theorem insAll_len (l : List Int) : (insAll l []).length = l.length := by
  have := (insAll_perm l []).length_eq
  simpa using this
theorem insAll_sort (l : List Int) : (insAll l []).Pairwise (· ≤ ·) := insAll_sorted l [] List.Pairwise.nil
theorem pp_now {p : Pp} (h : ppB p = true) : (nowL p.chs).length ≤ 25 ∧ ∀ i, i < p.chs.length → (p.chs.getD i default).q.items.length ≤ 5 := by
  simp only [ppB, Bool.and_eq_true, decide_eq_true_eq] at h
  have h5 := h.2.2.2.1.1
  have hc := h.2.2.2.1.2
  have hall : ∀ (xs pre : List Cn), Pi.chsB p.now p.next pre xs = true → ∀ x ∈ xs, x.q.items.length ≤ 5 := by
    intro xs
    induction xs with
    | nil => intro _ _ x hx; cases hx
    | cons c t ih =>
      intro pre hp x hx
      simp only [Pi.chsB, Bool.and_eq_true] at hp
      rcases List.mem_cons.1 hx with rfl | hx
      · have hq := hp.1.1
        simp only [Pi.chB, Bool.and_eq_true] at hq
        have hq2 := hq.2.2.1
        unfold Qu.quB at hq2
        simp only [Bool.and_eq_true, decide_eq_true_eq] at hq2
        exact hq2.1
      · exact ih _ hp.2 x hx
  have h2 := hall _ _ hc
  refine ⟨by have := nowL_len _ h2; omega, fun i hi => h2 _ (by rw [List.getD_eq_getElem?_getD, List.getElem?_eq_getElem hi]; exact List.getElem_mem hi)⟩
def nowR (p : Pp) : List Int := if ppB p = true then insAll (nowL p.chs) [] else []
/-- slices.Sort of a row of the call's own -/
theorem sortI_own (base : Nat) (v : Value) (ns : List Int) (w : World) (h : OI w base v ns) (hn : ns.length ≤ 1048576) :
    Calls Tryz.prog 85 #[v] w fun e w' => e = .returned (.tuple #[]) ∧ OI w' base v (insAll ns []) ∧ w.grownBy w' v.ownBlock := by
  rcases h.2 with ⟨rfl, h0⟩ | ⟨g, cap, cur, rfl, hbg, hg, hnc, hcm, hs, ht⟩
  · obtain rfl : ns = [] := List.eq_nil_of_length_eq_zero h0
    refine (Tryz.slices_Sort_int_none none 0 w).mono ?_
    rintro e w' ⟨rfl, rfl⟩
    exact ⟨rfl, h, ⟨rfl, rfl, rfl, Nat.le_refl _, fun _ _ _ => rfl⟩⟩
  · have hlt : g < w.heap.size := (Array.getElem?_eq_some_iff.1 hg).1
    refine (Tryz.slices_Sort_int g 0 cap ns w (holds_of_blockI hg (by simpa [intV] using ht)) hlt (by omega)).mono ?_
    rintro e w' ⟨rfl, n, os, rfl⟩
    have hl : (ns.mergeSort fun x y => decide (x ≤ y)).length = ns.length := List.length_mergeSort _
    have h1 := ownsRow_sortedI (n := n) (os := os) (ts := ns.mergeSort fun x y => decide (x ≤ y)) hl hbg hg hnc hcm hs
    rw [sort_insAll] at h1 ⊢
    rw [sort_insAll] at hl
    refine ⟨rfl, ?_, grownBy_sortedI _⟩
    unfold OI
    rw [hl]
    exact h1
set_option maxRecDepth 100000 in
set_option maxHeartbeats 2000000 in
theorem ids6_any (B : Nat) (w0 : World) (xs : List Rep) (iv : Value) (hi : RpIn (· < B) w0 iv xs) (hn : xs.length ≤ 1048576) (W : World) (hb : Below B w0 W) (hB : B ≤ W.heap.size) :
    Calls Tryz.prog 147 #[iv] W (NewI W (idL xs)) := by
  obtain ⟨a1, c1, rfl⟩ := hi.slice2
  have HI := Lib.hid (hi.blw hb)
  have H0 := Lib.hid (show OI (W.alloc (.cells #[] 3)) W.heap.size (.slice (some ⟨W.heap.size, 0, none⟩) 0 0) (idL (xs.take 0)) from OI_made W)
  have B0 := Lib.hid ((Below.refl W.heap.size W).alloc (Nat.le_refl _) (.cells #[] 3))
  obtain ⟨i0, hi0, hz0, hz1, hz2⟩ := info_parts Pi.Tryz.infoInt
  clear hi hb
  go_enter Tryz.func147, Tryz.ntmps147
  go_wp2
  go_loopw [3, 4] (fun v iv wr => ∃ k : Nat, k ≤ xs.length ∧ iv = .int .i64 k ∧ OI wr W.heap.size v (idL (xs.take k)) ∧ Below W.heap.size W wr) (fun _ iv _ => xs.length - (intOf iv).toNat)
  case atStart => exact ⟨0, by omega, rfl, H0.out, B0.out⟩
  case round =>
    obtain ⟨k, hk, rfl, hS, hbr⟩ := hrel
    have HS := Lib.hid hS
    have HB := Lib.hid hbr
    by_cases hlt : k < xs.length
    · have HT := Lib.hid (idL_take xs k hlt)
      have HLN := Lib.hid (show (idL (xs.take k)).length = k by simp [idL]; omega)
      obtain ⟨a, cap, b, off, e, h1, h2, h3, h4, h5⟩ := HI.out.blw (hbr.mono hB)
      injection e with e1 e2 e3
      subst e3
      obtain ⟨rfl, -⟩ := h4 (by omega)
      subst e1
      obtain ⟨q0, q1, q2, q3⟩ := h5 k hlt
      generalize xs.getD k default = x at *
      generalize idL (xs.take k) = ds at *
      obtain ⟨a5, c5, rfl⟩ := hS.slice
      clear hS hbr q1 q2 q3 h3 h4 h5 e2
      have HA := Lib.hid (own_al HS.out (.cells #[.int .i64 x.id] 3))
      go_wp2_with (at_builtin; refine wpList_append_own _ rfl _ _ 50 rfl W.heap.size 3 i0 (.int .i64 0) 1 8 Tryz.underlying50 hi0 hz0 hz1 hz2 rfl (by decide) _ _ _ rfl HA.out ⟨wr.heap.size, 0, none⟩ 1 1 [.int .i64 x.id] rfl rfl (cell_one_new _ _ _) (one_int _) (by have := HLN.out; unfold maxLen; omega) (by have := HLN.out; omega) (by have := HB.out.size; simp; omega) ?_; intro v' w4 hown' hgrow hplace; have HN := Lib.hid (HT.out ▸ oi_snoc hown'); have HB4 := Lib.hid ((belI_alloc HB.out).grown hgrow (by have := HB.out.size; simp; omega) (fun g e => (World.ownsRow.lt HS.out g e).1)); obtain ⟨a7, c7, rfl⟩ := own_slice hown'; clear hown' hgrow hplace)
      go_roundw
      case rel => exact ⟨k + 1, by omega, by go_num, HN.out, HB4.out⟩
      case measure => simp [intOf]; omega
    · obtain rfl : k = xs.length := by omega
      rw [List.take_length] at hS
      have HF := Lib.hid (show NewI W (idL xs) (.returned u3) wr from ⟨_, rfl, hS, hbr⟩)
      generalize NewI W (idL xs) = PST at *
      generalize idL xs = ds at *
      obtain ⟨a5, c5, rfl⟩ := hS.slice
      clear hS hbr
      go_wp2
      exact HF.out
end Go.Proofs.YtmaknkbmilcanaaGreatDoor.Ft
namespace Go.Proofs.YtmaknkbmilcanaaGreatDoor.Ft
open Go.RowKit
open Go.Proofs.YtmaknkbmilcanaaGreatDoor.Tx (TxtsIn ret_b)
open Go.Proofs.YtmaknkbmilcanaaGreatDoor.Gr (Tg Gp TgIn ret_i)
open Go.Proofs.YtmaknkbmilcanaaGreatDoor.Pe (Pr PrIn)
open Go.Proofs.YtmaknkbmilcanaaGreatDoor.Qu (Rep Q RpIn IntsIn OI Hd intV)
open Go.Proofs.YtmaknkbmilcanaaGreatDoor.Po (Pl RlIn)
open Go.Proofs.YtmaknkbmilcanaaGreatDoor.Gr (belI_step belI_alloc)
open Go.Proofs.YtmaknkbmilcanaaGreatDoor.Pi (Cn En Wi Pp EnIn WiIn CnIn CnN CV PpN PV pV8 ppV eV)
open Go.Proofs.YtmaknkbmilcanaaGreatDoor.Ul (Tab MaxL in_any)
open Go.Proofs.YtmaknkbmilcanaaGreatDoor.Pi (Sm ppB)
open Go.Proofs.YtmaknkbmilcanaaGreatDoor.Mk (below_grownBy own_slice own_base)

theorem nowL_app (a b : List Cn) : nowL (a ++ b) = nowL a ++ nowL b := by simp [nowL]
theorem nowL_pre (xs : List Cn) (k : Nat) : (nowL (xs.take k)).length ≤ (nowL xs).length := by
  have e := nowL_app (xs.take k) (xs.drop k)
  rw [List.take_append_drop] at e
  rw [e, List.length_append]
  omega
set_option maxRecDepth 100000 in
set_option maxHeartbeats 4000000 in
theorem nowI_any (B : Nat) (w0 : World) (p : Pp) (u : PV) (h : PpN (· < B) w0 u p) (sm : Sm p) (W : World) (hb : Below B w0 W) (hB : B ≤ W.heap.size) (hT : Tab W) (hM : MaxL W) :
    Calls Tryz.prog 33 #[pV8 p u] W (NewIC W (nowR p) (enCo p)) := by
  obtain ⟨r, hr⟩ : ∃ r, ppB p = r := ⟨_, rfl⟩
  have HOK := Lib.hid (fun (W' : World) (hb : Below B w0 W') (hB : B ≤ W'.heap.size) (h2 : Tab W') (h3 : MaxL W') => show Calls Tryz.prog 67 #[pV8 p u] W' (fun e w' => e = .returned (.bool r) ∧ Below W'.heap.size W' w') from by subst hr; exact Pi.ppI_any B w0 p u h sm W' hb hB h2 h3)
  have HC := Lib.hid (show enCo p = if r = true then 0 else 1 by subst hr; rfl)
  have HR := Lib.hid (show nowR p = if r = true then insAll (nowL p.chs) [] else [] by subst hr; rfl)
  have HL := Lib.hid (show r = true → (nowL p.chs).length ≤ 25 ∧ ∀ i, i < p.chs.length → (p.chs.getD i default).q.items.length ≤ 5 from fun e => pp_now (hr.trans e))
  have HB := Lib.hid hb
  have HT := Lib.hid hT
  have HM := Lib.hid hM
  clear hr hb sm hT hM
  generalize enCo p = C at *
  generalize nowR p = R at *
  obtain ⟨chs, ⟨rp, uris, rules⟩, now, next, log, ws⟩ := p
  obtain ⟨u1, u2, u3, u4, u5⟩ := u
  obtain ⟨h1, h2, h3, h4, h5⟩ := h
  simp only at h1 h2 h3 h4 h5 HR HL
  obtain ⟨a1, cap, b, off, us, rfl, hcap, hm, -, ha, hc⟩ := h1
  have HCC := Lib.hid hc
  have HA := Lib.hid ha
  obtain ⟨a2, l2, c2, rfl⟩ := h2.slice
  obtain ⟨a3, l3, c3, rfl⟩ := h3.slice
  obtain ⟨a4, l4, c4, rfl⟩ := h4.slice
  obtain ⟨a5, l5, c5, rfl⟩ := h5.slice
  clear h2 h3 h4 h5 hc ha
  obtain ⟨i0, hi0, hz0, hz1, hz2⟩ := info_parts Pi.Tryz.infoInt
  have BA := Lib.hid ((Below.refl W.heap.size W).alloc (Nat.le_refl _) (.cells #[.slice a1 chs.length cap, .string ⟨rp.toArray⟩, .slice a2 l2 c2, .slice a3 l3 c3, .int .i64 now, .int .i64 next, .slice a4 l4 c4, .slice a5 l5 c5] 41))
  have K := Lib.hid (Hd.new W (.cells #[.slice a1 chs.length cap, .string ⟨rp.toArray⟩, .slice a2 l2 c2, .slice a3 l3 c3, .int .i64 now, .int .i64 next, .slice a4 l4 c4, .slice a5 l5 c5] 41))
  go_enter Tryz.func33, Tryz.ntmps33
  go_wp2_with fail
  refine (HOK.out _ (HB.out.trans (BA.out.mono hB)) (Nat.le_trans hB BA.out.size) (HT.out.below BA.out) (HM.out.below BA.out)).mono ?_
  rintro e w1 ⟨rfl, hb1⟩
  have B1 := Lib.hid (belI_step BA.out hb1)
  have K1 := Lib.hid (K.out.blw hb1)
  clear hb1 K BA
  cases r
  · have HFIN := Lib.hid (newIC_nil (W := W) (w' := w1) (show R = [] by rw [HR.out]; rfl) (show C = 1 by rw [HC.out]; rfl) B1.out)
    go_wp2
    exact bodyPost_ret (ret_2 Tryz.results33) rfl HFIN.out
  · have HC0 := Lib.hid (show C = 0 by rw [HC.out]; rfl)
    have HR0 := Lib.hid (show R = insAll (nowL chs) [] by rw [HR.out]; rfl)
    have HL2 := Lib.hid (HL.out rfl)
    have HLN := Lib.hid (fun k => Nat.le_trans (nowL_pre chs k) HL2.out.1)
    have m0 := cell_of_row w1 W.heap.size 0 _ _ _ K1.out
    have O0 := Lib.hid (show OI w1 w1.heap.size (.slice none 0 0) (nowL (chs.take 0)) from OI.nil w1 _)
    have z1 : W.heap.size ≤ w1.heap.size := B1.out.size
    have hn : (chs.length : Int) ≤ 9223372036854775807 := by omega
    clear HT HM HL HC HR hcap hm HOK
    go_wp2
    clear m0
    go_loopg [4, 15] chs.length (fun g v i wr => ∃ k : Nat, k + g = chs.length ∧ i = .int .i64 k ∧ OI wr w1.heap.size v (nowL (chs.take k)) ∧ Below w1.heap.size w1 wr)
    case atStart => exact ⟨0, by omega, rfl, O0.out, Below.refl _ _⟩
    case round =>
      obtain ⟨k, hk, rfl, hO, hRr⟩ := hrel
      obtain ⟨wo, hwo⟩ : ∃ wo, wo = wr := ⟨_, rfl⟩
      subst hwo
      have HK := Lib.hid hk
      have HRr := Lib.hid hRr
      have HO := Lib.hid hO
      have HLK := Lib.hid (HLN.out k)
      clear hRr hO
      obtain ⟨a9, c9, rfl⟩ := HO.out.slice
      cases gk with
      | zero =>
        obtain rfl : k = chs.length := by omega
        rw [List.take_length] at HO ⊢
        have HLF := Lib.hid (show (nowL chs).length ≤ 1048576 by have := HL2.out.1; omega)
        have HSO := Lib.hid (sortI_own w1.heap.size _ _ wo HO.out HLF.out)
        generalize nowL chs = ds at *
        clear hk
        go_wp2_with fail
        refine HSO.out.mono ?_
        rintro e w3 ⟨rfl, hO3, hg3⟩
        have HFIN := Lib.hid (show NewIC W R C (.returned (.tuple #[.slice a9 ds.length c9, .int .i64 0])) w3 by
          rw [HC0.out, HR0.out]
          exact ⟨_, rfl, own_base hO3 z1, belI_step B1.out (HRr.out.grown hg3 HRr.out.size (fun g e => (World.ownsRow.lt HO.out g e).1))⟩)
        clear hO3 hg3
        go_wp2
        exact bodyPost_ret (ret_2 Tryz.results33) rfl HFIN.out
      | succ g =>
        have hlt : k < chs.length := by omega
        obtain ⟨ea, hlb⟩ := HA.out (by omega)
        subst ea
        obtain ⟨c0, c1, c2', c3', c4', c5', cN⟩ := HCC.out k hlt
        have hW0 := HB.out.trans ((B1.out.mono hB).trans (HRr.out.mono (Nat.le_trans hB z1)))
        have q0 := (hW0.cell (p := ⟨b, off + k * 6, none⟩) hlb).trans c0
        have q1 := (hW0.cell (p := ⟨b, off + k * 6 + 1, none⟩) hlb).trans c1
        have q2 := (hW0.cell (p := ⟨b, off + k * 6 + 2, none⟩) hlb).trans c2'
        have q3 := (hW0.cell (p := ⟨b, off + k * 6 + 3, none⟩) hlb).trans c3'
        have q4 := (hW0.cell (p := ⟨b, off + k * 6 + 4, none⟩) hlb).trans c4'
        have q5 := (hW0.cell (p := ⟨b, off + k * 6 + 5, none⟩) hlb).trans c5'
        have TK := Lib.hid (nowL_take chs k hlt)
        have H5 := Lib.hid (HL2.out.2 k hlt)
        have HG := Lib.hid (show g < g + 1 from Nat.lt_succ_self g)
        clear c0 c1 c2' c3' c4' c5' hW0 hk
        generalize us k = uu at *
        generalize chs.getD k default = x at *
        generalize nowL (chs.take k) = ds at *
        obtain ⟨u_tv, u_pv, u_iv, u_rv⟩ := uu
        obtain ⟨d1, f1, g1, rfl⟩ : ∃ a l c, u_tv = .slice a l c := cN.tv.slice
        obtain ⟨d2, f2, g2, rfl⟩ : ∃ a l c, u_pv = .slice a l c := cN.pv.slice
        obtain ⟨d4, f4, g4, rfl⟩ : ∃ a l c, u_rv = .slice a l c := cN.rv.slice
        obtain ⟨d3, cap3, b3, off3, e3, hcap3, hm3, -, ha3, hc3⟩ := cN.iv
        simp only at e3
        subst e3
        have HA3 := Lib.hid ha3
        have HC3 := Lib.hid hc3
        clear cN ha3 hc3
        obtain ⟨⟨nm, ag, ts⟩, ps, ⟨rs, bs⟩⟩ := x
        simp only at q0 q1 q2 q3 q4 q5 TK H5 HA3 HC3 hcap3 ⊢
        obtain ⟨wa, hwa⟩ : ∃ wa, wa = wo.alloc (.cells #[.string ⟨nm.toArray⟩, .int .i64 ag, .slice d1 f1 g1, .slice d2 f2 g2, .slice d3 rs.length cap3, .slice d4 f4 g4] 132) := ⟨_, rfl⟩
        have BW := Lib.hid (show Below w1.heap.size w1 wa by rw [hwa]; exact belI_alloc HRr.out)
        have OA := Lib.hid (show OI wa w1.heap.size (.slice a9 ds.length c9) (ds ++ idL (rs.take 0)) by rw [hwa]; have := own_al HO.out (.cells #[.string ⟨nm.toArray⟩, .int .i64 ag, .slice d1 f1 g1, .slice d2 f2 g2, .slice d3 rs.length cap3, .slice d4 f4 g4] 132); simpa [idL, OI] using this)
        have hkx : Hd wa wo.heap.size (.cells #[.string ⟨nm.toArray⟩, .int .i64 ag, .slice d1 f1 g1, .slice d2 f2 g2, .slice d3 rs.length cap3, .slice d4 f4 g4] 132) := by rw [hwa]; exact Hd.new wo _
        have x4 := cell_of_row wa wo.heap.size 4 _ _ _ hkx
        have hrn : (rs.length : Int) ≤ 9223372036854775807 := by omega
        clear hkx
        go_upto_region 7 with fail
        rw [← hwa]
        clear hwa q0 q1 q2 q3 q4 q5
        go_wp2
        clear x4
        go_loopg [4, 23] rs.length (fun g2 v i wx => ∃ j : Nat, j + g2 = rs.length ∧ i = .int .i64 j ∧ OI wx w1.heap.size v (ds ++ idL (rs.take j)) ∧ Below w1.heap.size w1 wx)
        case atStart => exact ⟨0, by omega, rfl, OA.out, BW.out⟩
        case round =>
          obtain ⟨j, hj, rfl, hO2, hR2⟩ := hrel
          obtain ⟨wx, hwx⟩ : ∃ wx, wx = wr := ⟨_, rfl⟩
          subst hwx
          have HJ := Lib.hid hj
          have HR2 := Lib.hid hR2
          have HO2 := Lib.hid hO2
          clear hR2 hO2 BW OA HO
          obtain ⟨a8, c8, rfl⟩ := HO2.out.slice
          cases gk with
          | zero =>
            obtain rfl : j = rs.length := by omega
            rw [List.take_length] at HO2 ⊢
            clear hj
            go_wp2
            go_roundg g
            case measure => exact HG.out
            case rel => exact ⟨k + 1, by have := HK.out; omega, by go_num, by rw [TK.out]; exact HO2.out, HR2.out⟩
          | succ g2 =>
            have hjl : j < rs.length := by omega
            obtain ⟨ea, hlb3⟩ := HA3.out (by omega)
            subst ea
            obtain ⟨c0, c1, c2', c3'⟩ := HC3.out j hjl
            have hW0 := HB.out.trans ((B1.out.mono hB).trans (HR2.out.mono (Nat.le_trans hB z1)))
            have q0 := (hW0.cell (p := ⟨b3, off3 + j * 4, none⟩) hlb3).trans c0
            have q1 := (hW0.cell (p := ⟨b3, off3 + j * 4 + 1, none⟩) hlb3).trans c1
            have q2 := (hW0.cell (p := ⟨b3, off3 + j * 4 + 2, none⟩) hlb3).trans c2'
            have q3 := (hW0.cell (p := ⟨b3, off3 + j * 4 + 3, none⟩) hlb3).trans c3'
            have TJ := Lib.hid (idL_take rs j hjl)
            have HG2 := Lib.hid (show g2 < g2 + 1 from Nat.lt_succ_self g2)
            have hel : (ds ++ idL (rs.take j)).length ≤ 1000000 := by
              have h1 := HLK.out
              have h2 := H5.out
              rw [List.length_append, idL_len, List.length_take]
              omega
            clear c0 c1 c2' c3' hW0 hj
            generalize rs.getD j default = y at *
            have TJ2 := Lib.hid (show ds ++ idL (rs.take (j + 1)) = (ds ++ idL (rs.take j)) ++ [y.id] by rw [TJ.out, List.append_assoc])
            generalize ds ++ idL (rs.take j) = es at *
            obtain ⟨yi, yb, yt, yy⟩ := y
            simp only at q0 q1 q2 q3 TJ2
            obtain ⟨wb, hwb⟩ : ∃ wb, wb = wx.alloc (.cells #[.int .i64 yi, .int .i64 yb, .int .i64 yt, .string ⟨yy.toArray⟩] 134) := ⟨_, rfl⟩
            have BY := Lib.hid (show Below w1.heap.size w1 wb by rw [hwb]; exact belI_alloc HR2.out)
            have OY := Lib.hid (show OI wb w1.heap.size (.slice a8 es.length c8) es by rw [hwb]; exact own_al HO2.out _)
            have hky : Hd wb wx.heap.size (.cells #[.int .i64 yi, .int .i64 yb, .int .i64 yt, .string ⟨yy.toArray⟩] 134) := by rw [hwb]; exact Hd.new wx _
            have y0 := cell_of_row wb wx.heap.size 0 _ _ _ hky
            have OB := Lib.hid (own_al OY.out (.cells #[.int .i64 yi] 3))
            have BB := Lib.hid (belI_alloc (o := .cells #[.int .i64 yi] 3) BY.out)
            have z2 := BY.out.size
            clear hky
            go_upto_region 10 with fail
            rw [← hwb]
            clear hwb q0 q1 q2 q3
            go_wp2_with (at_builtin; refine wpList_append_own _ rfl _ _ 50 rfl w1.heap.size 3 i0 (.int .i64 0) 1 8 Tryz.underlying50 hi0 hz0 hz1 hz2 rfl (by decide) _ _ _ rfl OB.out ⟨wb.heap.size, 0, none⟩ 1 1 [.int .i64 yi] rfl rfl (cell_one_new _ _ _) (one_int _) (by unfold maxLen; omega) (by omega) (by simp; omega) ?_; intro v' w4 hown' hgrow hplace; have HN := Lib.hid (TJ2.out ▸ oi_snoc hown'); have HB4 := Lib.hid (BB.out.grown hgrow (by simp; omega) (fun g e => (World.ownsRow.lt OB.out g e).1)); obtain ⟨a7, c7, rfl⟩ := own_slice hown'; clear hown' hgrow hplace)
            go_roundg g2
            case measure => exact HG2.out
            case rel => exact ⟨j + 1, by have := HJ.out; omega, by go_num, HN.out, HB4.out⟩
end Go.Proofs.YtmaknkbmilcanaaGreatDoor.Ft
namespace Go.Proofs.YtmaknkbmilcanaaGreatDoor.Ft
open Go.RowKit
open Go.Proofs.YtmaknkbmilcanaaGreatDoor.Tx (TxtsIn ret_b)
open Go.Proofs.YtmaknkbmilcanaaGreatDoor.Gr (Tg Gp TgIn ret_i)
open Go.Proofs.YtmaknkbmilcanaaGreatDoor.Pe (Pr PrIn)
open Go.Proofs.YtmaknkbmilcanaaGreatDoor.Qu (Rep Q RpIn IntsIn OI Hd intV)
open Go.Proofs.YtmaknkbmilcanaaGreatDoor.Po (Pl RlIn)
open Go.Proofs.YtmaknkbmilcanaaGreatDoor.Gr (belI_step belI_alloc)
open Go.Proofs.YtmaknkbmilcanaaGreatDoor.Pi (Cn En Wi Pp EnIn WiIn CnIn CnN CV PpN PV pV8 ppV eV)
open Go.Proofs.YtmaknkbmilcanaaGreatDoor.Ul (Tab MaxL in_any)
open Go.Proofs.YtmaknkbmilcanaaGreatDoor.Pi (Sm ppB)
open Go.Proofs.YtmaknkbmilcanaaGreatDoor.Mk (below_grownBy own_slice own_base)

theorem own_drewI {w : World} {B s n : Nat} {T : TypeId} {v : Value} {xs : List Value} (h : w.ownsRow B T s v n xs) : w.drew.ownsRow B T s v n xs := h
theorem hd_drewI {w : World} {b : Nat} {o : Obj} (h : Hd w b o) : Hd w.drew b o := h
theorem add_addI (ad : Addr) (n j : Nat) : (ad.add n).add j = ad.add (n + j) := by
  unfold Addr.add
  by_cases h1 : n = 0 <;> by_cases h2 : j = 0 <;> simp [h1, h2, Nat.add_assoc]
theorem belI_drewN {B : Nat} {a w : World} (h : Below B a w) (n : Nat) : Below B a (w.drewN n) := ⟨h.os, h.tape, h.output, h.size, h.block⟩
theorem OI_mkI {W : World} {n base : Nat} (hn : W.heap.size = n) (hb : base ≤ W.heap.size) : (W.alloc (.cells #[] 3)).ownsRow base 3 1 (.slice (some ⟨n, 0, none⟩) 0 0) 0 [] := by
  subst hn
  exact own_base (OI_made W) hb
theorem Hd_mkI {W : World} {n : Nat} {o : Obj} (hn : W.heap.size = n) : Hd (W.alloc o) n o := by
  subst hn
  exact Hd.new W o
theorem rowI_of {w : World} {g : Nat} {a : Value} {T : TypeId} (h : Hd w g (.cells #[a] T)) : ∀ (j : Nat) (u : Value), [a][j]? = some u → w.cell? ((⟨g, 0, none⟩ : Addr).add j) = some u := by
  intro j u hj
  have hlt : j < 1 := by have := (List.getElem?_eq_some_iff.1 hj).1; simpa using this
  obtain rfl : j = 0 := by omega
  simp at hj; subst hj
  have := cell_of_row w g 0 _ _ _ h
  simpa [Addr.add] using this
/-- the cells of a row of the call's own, by its address -/
theorem oi_news {w : World} {base n c : Nat} {a : Option Addr} {ns : List Int} (h : OI w base (.slice a n c) ns) : 0 < ns.length → ∃ ad, a = some ad ∧ ∀ j u, (intV ns)[j]? = some u → w.cell? (ad.add j) = some u := by
  intro hp
  have hc := fun g (e : (Value.slice a n c).ownBlock = some g) => World.ownsRow.cells h e
  rcases h.2 with ⟨e, h0⟩ | ⟨g, cap, cur, e, -⟩
  · omega
  · injection e with e1
    subst e1
    exact ⟨_, rfl, hc _ rfl⟩
theorem oi_cap {w : World} {base n c : Nat} {a : Option Addr} {ns : List Int} (h : OI w base (.slice a n c) ns) : n = ns.length ∧ ns.length ≤ c ∧ c ≤ 9223372036854775807 := by
  rcases h.2 with ⟨e, h0⟩ | ⟨g, cap, cur, e, -, -, h1, h2, -⟩
  · injection e with e1 e2 e3
    subst e2 e3
    exact ⟨h0.symm, by omega, by omega⟩
  · injection e with e1 e2 e3
    subst e2 e3
    exact ⟨rfl, h1, by unfold maxLen at h2; exact h2⟩
theorem intV_take (ns : List Int) (n j : Nat) (u : Value) (h : (intV (ns.take n))[j]? = some u) : (intV ns)[j]? = some u := by
  have hj := (List.getElem?_eq_some_iff.1 h).1
  simp only [intV, List.length_map, List.length_take] at hj
  simp only [intV, List.map_take] at h ⊢
  rw [List.getElem?_take_of_lt (by omega)] at h
  exact h
theorem intV_drop (ns : List Int) (n j : Nat) : (intV (ns.drop n))[j]? = (intV ns)[n + j]? := by
  simp [intV, List.map_drop]
theorem run_takeI (w : World) (a : Option Addr) (l c n : Nat) (h1 : n ≤ c) :
    (Instr.slice 50 (.slice a l c) none (some (.int .i64 (n : Int))) none).run Tryz.prog w = .ok (.slice a n c) w := by
  have hn : (n : Int) ≤ (c : Int) := by omega
  simp [Instr.slice, Instr.sliceBounds, go_sem, hn]
theorem run_dropI (w : World) (a : Option Addr) (l c n : Nat) (h1 : n ≤ l) :
    (Instr.slice 50 (.slice a l c) (some (.int .i64 (n : Int))) none none).run Tryz.prog w = .ok (.slice (if c = n then a else a.map (fun x => x.add (n * 1))) (l - n) (c - n)) w := by
  have hn : (n : Int) ≤ (l : Int) := by omega
  simp [Instr.slice, Instr.sliceBounds, go_sem, hn]
theorem intV_one (ns : List Int) : ∀ u ∈ intV ns, u.oneCell' = true := by
  intro u hu
  obtain ⟨x, -, rfl⟩ := List.mem_map.1 hu
  rfl
theorem intV_len (ns : List Int) : (intV ns).length = ns.length := by simp [intV]
theorem ins_row {w : World} {base : Nat} {v : Value} {ls : List Int} {a : Int} {n : Nat} (hs : ls.Pairwise (· ≤ ·)) (hp : posI a ls ls.length = n) (hn : n ≤ ls.length)
    (h : w.ownsRow base 3 1 v (n + 1 + (ls.length - n)) ((intV (ls.take n) ++ [.int .i64 a]) ++ intV (ls.drop n))) : OI w base v (insI a ls) := by
  have e := insI_posAll a ls hs
  rw [hp] at e
  have h2 : intV (insI a ls) = (intV (ls.take n) ++ [.int .i64 a]) ++ intV (ls.drop n) := by
    rw [e]
    simp [intV]
  have h3 : (insI a ls).length = n + 1 + (ls.length - n) := by
    rw [e, List.length_append, List.length_cons, List.length_take, List.length_drop]
    omega
  unfold OI
  rw [h2, h3]
  exact h
set_option maxRecDepth 100000 in
set_option maxHeartbeats 8000000 in
theorem nowS_any (B : Nat) (w0 : World) (chs : List Cn) (cv : Value) (h : CnIn (· < B) w0 cv chs) (rp : List UInt8) (uv rv : Value) (now next : Int) (lv wv : Value) (h25 : (nowL chs).length ≤ 25) (h5 : ∀ i, i < chs.length → (chs.getD i default).q.items.length ≤ 5) (W : World) (hb : Below B w0 W) (hB : B ≤ W.heap.size) :
    Calls Tryz.prog 84 #[rawP cv rp uv rv now next lv wv] W (NewI W (insAll (nowL chs) [])) := by
  obtain ⟨a1, cap, b, off, us, rfl, hcap, hm, -, ha, hc⟩ := h
  have HCC := Lib.hid hc
  have HA := Lib.hid ha
  have HB := Lib.hid hb
  have H5 := Lib.hid h5
  have HLN := Lib.hid (fun k => Nat.le_trans (nowL_pre chs k) h25)
  have hn : (chs.length : Int) ≤ 9223372036854775807 := by omega
  clear hc ha hb h5 hm hcap h25
  obtain ⟨i0, hi0, hz0, hz1, hz2⟩ := info_parts Pi.Tryz.infoInt
  obtain ⟨W1, hW1⟩ : ∃ W1, W1 = W.alloc (.cells #[.slice a1 chs.length cap, .string ⟨rp.toArray⟩, uv, rv, .int .i64 now, .int .i64 next, lv, wv] 41) := ⟨_, rfl⟩
  have B1 := Lib.hid (show Below W.heap.size W W1 by rw [hW1]; exact (Below.refl W.heap.size W).alloc (Nat.le_refl _) _)
  have K1 := Lib.hid (show Hd W1 W.heap.size (.cells #[.slice a1 chs.length cap, .string ⟨rp.toArray⟩, uv, rv, .int .i64 now, .int .i64 next, lv, wv] 41) by rw [hW1]; exact Hd.new W _)
  have BA := Lib.hid (belI_alloc (o := .cells #[] 3) B1.out)
  have K := Lib.hid (K1.out.al (.cells #[] 3))
  have O0 := Lib.hid (show OI (W1.alloc (.cells #[] 3)) (W.heap.size + 1) (.slice (some ⟨W1.heap.size, 0, none⟩) 0 0) (insAll (nowL (chs.take 0)) []) from own_base (OI_made W1) (K1.out.lt))
  go_enter Tryz.func84, Tryz.ntmps84
  go_upto_region 1 with fail
  rw [← hW1]
  clear hW1
  go_wp2
  go_loopg [3, 4] chs.length (fun g v i wr => ∃ k : Nat, k + g = chs.length ∧ i = .int .i64 k ∧ OI wr (W.heap.size + 1) v (insAll (nowL (chs.take k)) []) ∧ Hd wr W.heap.size (.cells #[.slice a1 chs.length cap, .string ⟨rp.toArray⟩, uv, rv, .int .i64 now, .int .i64 next, lv, wv] 41) ∧ Below W.heap.size W wr)
  case atStart => exact ⟨0, by omega, rfl, O0.out, K.out, BA.out⟩
  case round =>
    obtain ⟨k, hk, rfl, hO, hK, hR⟩ := hrel
    obtain ⟨wo, hwo⟩ : ∃ wo, wo = wr := ⟨_, rfl⟩
    subst hwo
    have HJK := Lib.hid hk
    have HR := Lib.hid hR
    have HO := Lib.hid hO
    have HK := Lib.hid hK
    have HLK := Lib.hid (HLN.out k)
    have m0 := cell_of_row wo W.heap.size 0 _ _ _ hK
    clear hR hO hK BA K O0
    obtain ⟨a9, c9, rfl⟩ := OI.slice HO.out
    cases gk with
    | zero =>
      obtain rfl : k = chs.length := by omega
      rw [List.take_length] at HO ⊢
      have HFIN := Lib.hid (show NewI W (insAll (nowL chs) []) (.returned (.slice a9 (insAll (nowL chs) []).length c9)) wo from ⟨_, rfl, own_base HO.out (Nat.le_succ _), HR.out⟩)
      clear hk HO
      generalize insAll (nowL chs) [] = ds at *
      go_wp2
      go_ret
      exact HFIN.out
    | succ g =>
      have hlt : k < chs.length := by omega
      obtain ⟨ea, hlb⟩ := HA.out (by omega)
      subst ea
      obtain ⟨-, -, -, -, c4', -, cN⟩ := HCC.out k hlt
      have hW0 := HB.out.trans (HR.out.mono hB)
      have q4 := (hW0.cell (p := ⟨b, off + k * 6 + 4, none⟩) hlb).trans c4'
      have TK := Lib.hid (nowL_take chs k hlt)
      have HI5 := Lib.hid (H5.out k hlt)
      have HG := Lib.hid (show g < g + 1 from Nat.lt_succ_self g)
      clear c4' hk
      generalize us k = uu at *
      generalize chs.getD k default = x at *
      generalize nowL (chs.take k) = pre at *
      obtain ⟨u_tv, u_pv, u_iv, u_rv⟩ := uu
      have HID := Lib.hid (fun W' a b => ids6_any B w0 x.q.items u_iv cN.iv (by have := HI5.out; omega) W' a b)
      obtain ⟨d3, f3, g3, rfl⟩ : ∃ a l c, u_iv = .slice a l c := cN.iv.slice
      clear cN
      have hil : (idL x.q.items).length ≤ 5 := by rw [idL_len]; exact HI5.out
      generalize idL x.q.items = is at *
      simp only at q4
      have HIW := Lib.hid (HID.out wo hW0 (Nat.le_trans hB HR.out.size))
      clear hW0 HID
      go_wp2_with fail
      refine HIW.out.mono ?_
      rintro e w2 ⟨vi, rfl, hOi, hb2⟩
      have O2 := Lib.hid (show OI w2 (W.heap.size + 1) (.slice a9 (insAll pre []).length c9) (insAll (pre ++ is.take 0) []) by rw [List.take_zero, List.append_nil]; exact OI.below HO.out hb2)
      have K2 := Lib.hid (HK.out.blw hb2)
      have B2 := Lib.hid (belI_step HR.out hb2)
      obtain ⟨a6, c6, rfl⟩ := OI.slice hOi
      have HC6 := Lib.hid (OI.ints hOi)
      have z2 : W.heap.size + 1 ≤ w2.heap.size := K2.out.lt
      have hisz : ((is.length : Nat) : Int) ≤ 9223372036854775807 := by omega
      clear hOi hb2 m0 q4 HIW HO HR HK
      go_wp2
      go_loopg [3, 6] is.length (fun g2 v i wx => ∃ j : Nat, j + g2 = is.length ∧ i = .int .i64 j ∧ OI wx (W.heap.size + 1) v (insAll (pre ++ is.take j) []) ∧ Below w2.heap.size w2 wx)
      case atStart => exact ⟨0, by omega, rfl, O2.out, Below.refl _ _⟩
      case round =>
        obtain ⟨j, hj, rfl, hO2, hR2⟩ := hrel
        obtain ⟨wx, hwx⟩ : ∃ wx, wx = wr := ⟨_, rfl⟩
        subst hwx
        have HJ := Lib.hid hj
        have HR2 := Lib.hid hR2
        have HO2 := Lib.hid hO2
        clear hR2 hO2 O2
        obtain ⟨a8, c8, rfl⟩ := OI.slice HO2.out
        cases gk with
        | zero =>
          obtain rfl : j = is.length := by omega
          rw [List.take_length] at HO2 ⊢
          clear hj
          go_wp2
          go_roundg g
          case measure => exact HG.out
          case rel => exact ⟨k + 1, by have := HJK.out; omega, by go_num, by rw [TK.out]; exact HO2.out, K2.out.blw HR2.out, belI_step B2.out HR2.out⟩
        | succ g2 =>
          have hjl : j < is.length := by omega
          have hjlI : ((j : Int) < (is.length : Int)) := by omega
          have TJ := Lib.hid (show insAll (pre ++ is.take (j + 1)) [] = insI (is.getD j 0) (insAll (pre ++ is.take j) []) by
            rw [List.take_add_one, List.getElem?_eq_getElem hjl, Option.toList_some, ← List.append_assoc, insAll_snoc]
            simp [hjl])
          have HS := Lib.hid (insAll_sort (pre ++ is.take j))
          have hln : (insAll (pre ++ is.take j) []).length ≤ 1000 := by
            have := HLK.out
            rw [insAll_len, List.length_append, List.length_take]
            omega
          have HG2 := Lib.hid (show g2 < g2 + 1 from Nat.lt_succ_self g2)
          obtain ⟨b6, o6, e6, hI6, hS6, qi⟩ : ∃ b6 o6, a6 = some ⟨b6, o6, none⟩ ∧ b6 < w2.heap.size ∧ j < c6 + 1 ∧ w2.cell? ⟨b6, o6 + j, none⟩ = some (.int .i64 (is.getD j 0)) := by
            obtain ⟨a', cap', b', off', e, h1, -, h4, h5'⟩ := HC6.out
            injection e with e1 e2 e3
            subst e1 e3
            obtain ⟨h41, h42⟩ := h4 (by omega)
            exact ⟨b', off', h41, h42.2, by omega, h5' j hjl⟩
          subst e6
          have QI := Lib.hid (fun wy (hb : Below wx.heap.size wx wy) => show wy.cell? ⟨b6, o6 + j, none⟩ = some (.int .i64 (is.getD j 0)) from ((HR2.out.trans (hb.mono HR2.out.size)).cell (p := ⟨b6, o6 + j, none⟩) hI6).trans qi)
          clear qi hj hS6
          generalize is.getD j 0 = av at *
          generalize insAll (pre ++ is.take j) [] = ls at *
          have hcap8 := oi_cap HO2.out
          go_wp2
          go_loopg [7] ls.length (fun g3 v wy => v = .int .i64 (g3 : Int) ∧ g3 ≤ ls.length ∧ posI av ls ls.length = posI av ls g3 ∧ Below wx.heap.size wx wy)
          case atStart => exact ⟨rfl, Nat.le_refl _, rfl, Below.refl _ _⟩
          case round =>
            obtain ⟨rfl, hgl, hP, hB3⟩ := hrel
            have HB3 := Lib.hid hB3
            have HO3 := Lib.hid (OI.below HO2.out hB3)
            have HLS := Lib.hid (OI.ints HO3.out)
            have qj := QI.out wr hB3
            have z3 := hB3.size
            obtain ⟨n, hnn⟩ : ∃ n, n = gk := ⟨_, rfl⟩
            subst hnn
            have HP := Lib.hid hP
            clear hP hB3
            by_cases hgt : 0 < n ∧ av < ls.getD (n - 1) 0
            · obtain ⟨hn0, hgt⟩ := hgt
              have hpos : (0 : Int) < (n : Int) := by omega
              have ej : (n : Int) - 1 = ((n - 1 : Nat) : Int) := by omega
              obtain ⟨b8, o8, e8, q8⟩ : ∃ b8 o8, a8 = some ⟨b8, o8, none⟩ ∧ wr.cell? ⟨b8, o8 + (n - 1), none⟩ = some (.int .i64 (ls.getD (n - 1) 0)) := by
                obtain ⟨a', cap', b', off', e, h1, -, h4, h5'⟩ := HLS.out
                injection e with e1 e2 e3
                subst e1
                exact ⟨b', off', (h4 (by omega)).1, h5' (n - 1) (by omega)⟩
              subst e8
              have HN := Lib.hid (show posI av ls n = posI av ls (n - 1) by
                obtain ⟨m, rfl⟩ : ∃ m, n = m + 1 := ⟨n - 1, by omega⟩
                simp only [Nat.add_sub_cancel] at hgt ⊢
                rw [posI, if_pos hgt])
              have HM := Lib.hid (show n - 1 < n by omega)
              have hnl : (((n - 1 : Nat) : Int) < (ls.length : Int)) := by omega
              have hnl0 : n - 1 < ls.length := by omega
              generalize ls.getD (n - 1) 0 = ev at *
              go_wp2_with fail
              go_quiet (fail)
              go_wp2
              go_roundg (n - 1)
              case measure => exact HM.out
              case rel => exact ⟨by go_num, by omega, HP.out.trans HN.out, belI_drewN HB3.out _⟩
            · have HPN := Lib.hid (show posI av ls ls.length = n by
                rw [HP.out]
                cases n with
                | zero => rfl
                | succ m =>
                  rw [posI, if_neg (fun e => hgt ⟨Nat.succ_pos _, by simpa using e⟩)])
              have hnc : n ≤ c8 := by omega
              have hst := fun w => run_takeI w a8 ls.length c8 n hnc
              have hsd := fun w => run_dropI w a8 ls.length c8 n hgl
              obtain ⟨aX, hax⟩ : ∃ x, (if c8 = n then a8 else a8.map (fun x => x.add (n * 1))) = x := ⟨_, rfl⟩
              have HNT := Lib.hid (fun wy (hb : Below wr.heap.size wr wy) => show 0 < n → ∃ ad, a8 = some ad ∧ ∀ j u, (intV (ls.take n))[j]? = some u → wy.cell? (ad.add j) = some u from fun hp => by
                obtain ⟨ad, e1, e2⟩ := oi_news (OI.below HO3.out hb) (Nat.lt_of_lt_of_le hp hgl)
                exact ⟨ad, e1, fun j u h => e2 j u (intV_take _ _ _ _ h)⟩)
              have HND := Lib.hid (fun wy (hb : Below wr.heap.size wr wy) => show 0 < ls.length - n → ∃ ad, aX = some ad ∧ ∀ j u, (intV (ls.drop n))[j]? = some u → wy.cell? (ad.add j) = some u from fun hp => by
                have hp2 : 0 < ls.length := Nat.lt_of_lt_of_le hp (Nat.sub_le _ _)
                have hp3 : c8 ≠ n := fun e => by have := hcap8.2.1; rw [e] at this; exact absurd hp (by rw [Nat.sub_eq_zero_of_le this]; exact Nat.lt_irrefl 0)
                obtain ⟨ad, e1, e2⟩ := oi_news (OI.below HO3.out hb) hp2
                refine ⟨ad.add (n * 1), ?_, fun j u h => ?_⟩
                · rw [← hax, if_neg hp3, e1]; rfl
                · rw [intV_drop] at h
                  have := e2 _ _ h
                  have e : (ad.add (n * 1)).add j = ad.add (n + j) := by rw [Nat.mul_one, add_addI]
                  rw [e]; exact this)
              rw [hax] at hsd
              have HFX := Lib.hid (fun (bs : Nat) (w' : World) (v : Value) h => ins_row (w := w') (base := bs) (v := v) (a := av) HS.out HPN.out hgl h)
              have L1 := Lib.hid (show (intV (ls.take n)).length = n * 1 by rw [intV_len, List.length_take]; omega)
              have L2 := Lib.hid (show (intV (ls.drop n)).length = (ls.length - n) * 1 by rw [intV_len, List.length_drop]; omega)
              have V1 := Lib.hid (intV_one (ls.take n))
              have V2 := Lib.hid (intV_one (ls.drop n))
              have HGT := Lib.hid hgt
              have hls : ls.length - n ≤ 1000 := by omega
              have hn1 : n ≤ 1000 := by omega
              clear hax HPN HP HS hgt
              generalize intV (ls.take n) = tv at *
              generalize intV (ls.drop n) = dv at *
              have hO3 := HO3.out
              go_wp2_with fail
              by_cases h0 : n = 0
              · have hzn : decide (0 < n) = false := decide_eq_false (by omega)
                clear h0
                go_quiet (fail)
                have hb5 := belI_drewN (Below.refl wr.heap.size wr) nq
                generalize wr.drewN nq = w5 at *
                have HB5 := Lib.hid hb5
                have z5 := hb5.size
                have zw2 : w2.heap.size ≤ w5.heap.size := Nat.le_trans HR2.out.size (Nat.le_trans z3 z5)
                have zW : W.heap.size + 1 ≤ w5.heap.size := Nat.le_trans z2 zw2
                have HALL5 := Lib.hid (fun wy (hb : Below w5.heap.size w5 wy) => And.intro (QI.out wy (HB3.out.trans ((HB5.out.trans (hb.mono z5)).mono z3))) (And.intro hb hb.size))
                have HNT5 := Lib.hid (fun wy (hb : Below w5.heap.size w5 wy) => HNT.out wy (HB5.out.trans (hb.mono z5)))
                have HND5 := Lib.hid (fun wy (hb : Below w5.heap.size w5 wy) => HND.out wy (HB5.out.trans (hb.mono z5)))
                have q5 := (HALL5.out w5 (Below.refl _ _)).1
                clear hb5 qj HNT HND
                go_wp2_with fail
                go_region_held3 (fun wy => wy.cell? ⟨b6, o6 + j, none⟩ = some (.int .i64 av) ∧ Below w5.heap.size w5 wy ∧ w5.heap.size ≤ wy.heap.size)
                  (first
                    | exact HALL5.out _ (Below.refl _ _)
                    | exact HALL5.out _ (Below.drew (Below.refl _ _))
                    | (go_split_ands; exact HALL5.out _ hG3)
                    | (go_split_ands; exact HALL5.out _ hG2)
                    | (go_split_ands; exact HALL5.out _ hG1)
                    | (go_split_ands; exact HALL5.out _ (belI_alloc (by assumption)))
                    | (go_split_ands; exact HALL5.out _ (Below.drew (by assumption))))
                  (first
                    | (go_split_ands
                       have hh := h58
                       refine App.step_app_any _ rfl _ _ 50 rfl w5.heap.size 3 i0 _ 1 8 Tryz.underlying50 hi0 hz0 hz1 hz2 rfl (by decide) (.slice a12 (n + 1) c12) (n + 1) (tv ++ [.int .i64 av]) rfl (by first | exact hh | exact own_drewI hh) aX (ls.length - n) (c8 - n) dv rfl (HND5.out _ (by assumption)) L2.out V2.out (by omega) (by omega) (by assumption) ?_
                       intro v6 w6 _ h62 hg6
                       have hG3 : Below w5.heap.size w5 w6 := Below.grown (by assumption) hg6 (by assumption) (fun g e => (World.ownsRow.lt hh g e).1)
                       obtain ⟨a13, c13, rfl⟩ := own_slice h62)
                    | (go_split_ands
                       have hh := h52
                       refine App.step_app_any _ rfl _ _ 50 rfl w5.heap.size 3 i0 _ 1 8 Tryz.underlying50 hi0 hz0 hz1 hz2 rfl (by decide) (.slice a10 n c10) n tv rfl (by first | exact hh | exact own_al hh _ | exact own_drewI hh | exact own_drewI (own_al hh _)) (some ⟨_, 0, none⟩) 1 1 [.int .i64 av] rfl (fun _ => ⟨_, rfl, by first | exact rowI_of hN | exact rowI_of (Hd.new _ _) | exact rowI_of (hd_drewI (Hd.new _ _)) | exact rowI_of (hd_drewI hN)⟩) rfl (one_int _) (by omega) (by omega) (by assumption) ?_
                       intro v5 w6 hq h58 hg5
                       have hG2 : Below w5.heap.size w5 w6 := Below.grown (by assumption) hg5 (by assumption) (fun g e => (World.ownsRow.lt hq g e).1)
                       obtain ⟨a12, c12, rfl⟩ := own_slice h58)
                    | (go_split_ands
                       refine App.step_app_any _ rfl _ _ 50 rfl w5.heap.size 3 i0 _ 1 8 Tryz.underlying50 hi0 hz0 hz1 hz2 rfl (by decide) (.slice (some ⟨_, 0, none⟩) 0 0) 0 [] rfl (by first | exact OI_mkI (by first | rfl | simp) (by first | omega | (simp <;> omega)) | exact own_al (OI_mkI (by first | rfl | simp) (by first | omega | (simp <;> omega))) _ | exact own_drewI (OI_mkI (by first | rfl | simp) (by first | omega | (simp <;> omega))) | exact own_drewI (own_al (OI_mkI (by first | rfl | simp) (by first | omega | (simp <;> omega))) _)) a8 n c8 tv rfl (HNT5.out _ (by assumption)) L1.out V1.out (by omega) (by omega) (by assumption) ?_
                       intro v4 w4 hq h52 hg4
                       rw [Nat.zero_add, List.nil_append] at h52
                       have hG1 : Below w5.heap.size w5 w4 := Below.grown (by assumption) hg4 (by assumption) (fun g e => (World.ownsRow.lt hq g e).1)
                       first
                         | (have hN : Hd w4 w5.heap.size (.cells #[.int .i64 av] 3) := Hd.grown (by first | exact Hd.al (Hd_mkI rfl) _ | exact hd_drewI (Hd.al (Hd_mkI rfl) _)) hg4 (by simp [Value.ownBlock]))
                         | (have hN : Hd w4 (w5.heap.size + 1) (.cells #[.int .i64 av] 3) := Hd.grown (by first | exact Hd_mkI (by simp) | exact hd_drewI (Hd_mkI (by simp))) hg4 (by simp [Value.ownBlock]))
                         | skip
                       obtain ⟨a10, c10, rfl⟩ := own_slice h52))
                all_goals
                  go_split_ands
                  have HF6 := Lib.hid (HFX.out _ _ _ h62)
                  have HG6 := Lib.hid hG3
                  clear h62 hG3
                  go_wp2
                  go_roundg g2
                  case measure => exact HG2.out
                  case rel => exact ⟨j + 1, by have := HJ.out; omega, by go_num, by rw [TJ.out]; exact own_base HF6.out zW, (HR2.out.trans (HB3.out.mono HR2.out.size)).trans ((HB5.out.mono (Nat.le_trans HR2.out.size z3)).trans (HG6.out.mono zw2))⟩
              · have hn0 : 0 < n := by omega
                have hpos : (0 : Int) < (n : Int) := by omega
                have ej : (n : Int) - 1 = ((n - 1 : Nat) : Int) := by omega
                obtain ⟨b8, o8, e8, q8⟩ : ∃ b8 o8, a8 = some ⟨b8, o8, none⟩ ∧ wr.cell? ⟨b8, o8 + (n - 1), none⟩ = some (.int .i64 (ls.getD (n - 1) 0)) := by
                  obtain ⟨a', cap', b', off', e, h1, -, h4, h5'⟩ := HLS.out
                  injection e with e1 e2 e3
                  subst e1
                  exact ⟨b', off', (h4 (by omega)).1, h5' (n - 1) (by omega)⟩
                subst e8
                have hnl : (((n - 1 : Nat) : Int) < (ls.length : Int)) := by omega
                have hnl0 : n - 1 < ls.length := by omega
                have hnlt : ¬ (av < ls.getD (n - 1) 0) := fun e => HGT.out ⟨by omega, e⟩
                generalize ls.getD (n - 1) 0 = ev at *
                go_quiet (fail)
                clear q8
                have hb5 := belI_drewN (Below.refl wr.heap.size wr) nq
                generalize wr.drewN nq = w5 at *
                have HB5 := Lib.hid hb5
                have z5 := hb5.size
                have zw2 : w2.heap.size ≤ w5.heap.size := Nat.le_trans HR2.out.size (Nat.le_trans z3 z5)
                have zW : W.heap.size + 1 ≤ w5.heap.size := Nat.le_trans z2 zw2
                have HALL5 := Lib.hid (fun wy (hb : Below w5.heap.size w5 wy) => And.intro (QI.out wy (HB3.out.trans ((HB5.out.trans (hb.mono z5)).mono z3))) (And.intro hb hb.size))
                have HNT5 := Lib.hid (fun wy (hb : Below w5.heap.size w5 wy) => HNT.out wy (HB5.out.trans (hb.mono z5)))
                have HND5 := Lib.hid (fun wy (hb : Below w5.heap.size w5 wy) => HND.out wy (HB5.out.trans (hb.mono z5)))
                have q5 := (HALL5.out w5 (Below.refl _ _)).1
                clear hb5 qj HNT HND
                go_wp2_with fail
                go_region_held3 (fun wy => wy.cell? ⟨b6, o6 + j, none⟩ = some (.int .i64 av) ∧ Below w5.heap.size w5 wy ∧ w5.heap.size ≤ wy.heap.size)
                  (first
                    | exact HALL5.out _ (Below.refl _ _)
                    | exact HALL5.out _ (Below.drew (Below.refl _ _))
                    | (go_split_ands; exact HALL5.out _ hG3)
                    | (go_split_ands; exact HALL5.out _ hG2)
                    | (go_split_ands; exact HALL5.out _ hG1)
                    | (go_split_ands; exact HALL5.out _ (belI_alloc (by assumption)))
                    | (go_split_ands; exact HALL5.out _ (Below.drew (by assumption))))
                  (first
                    | (go_split_ands
                       have hh := h58
                       refine App.step_app_any _ rfl _ _ 50 rfl w5.heap.size 3 i0 _ 1 8 Tryz.underlying50 hi0 hz0 hz1 hz2 rfl (by decide) (.slice a12 (n + 1) c12) (n + 1) (tv ++ [.int .i64 av]) rfl (by first | exact hh | exact own_drewI hh) aX (ls.length - n) (c8 - n) dv rfl (HND5.out _ (by assumption)) L2.out V2.out (by omega) (by omega) (by assumption) ?_
                       intro v6 w6 _ h62 hg6
                       have hG3 : Below w5.heap.size w5 w6 := Below.grown (by assumption) hg6 (by assumption) (fun g e => (World.ownsRow.lt hh g e).1)
                       obtain ⟨a13, c13, rfl⟩ := own_slice h62)
                    | (go_split_ands
                       have hh := h52
                       refine App.step_app_any _ rfl _ _ 50 rfl w5.heap.size 3 i0 _ 1 8 Tryz.underlying50 hi0 hz0 hz1 hz2 rfl (by decide) (.slice a10 n c10) n tv rfl (by first | exact hh | exact own_al hh _ | exact own_drewI hh | exact own_drewI (own_al hh _)) (some ⟨_, 0, none⟩) 1 1 [.int .i64 av] rfl (fun _ => ⟨_, rfl, by first | exact rowI_of hN | exact rowI_of (Hd.new _ _) | exact rowI_of (hd_drewI (Hd.new _ _)) | exact rowI_of (hd_drewI hN)⟩) rfl (one_int _) (by omega) (by omega) (by assumption) ?_
                       intro v5 w6 hq h58 hg5
                       have hG2 : Below w5.heap.size w5 w6 := Below.grown (by assumption) hg5 (by assumption) (fun g e => (World.ownsRow.lt hq g e).1)
                       obtain ⟨a12, c12, rfl⟩ := own_slice h58)
                    | (go_split_ands
                       refine App.step_app_any _ rfl _ _ 50 rfl w5.heap.size 3 i0 _ 1 8 Tryz.underlying50 hi0 hz0 hz1 hz2 rfl (by decide) (.slice (some ⟨_, 0, none⟩) 0 0) 0 [] rfl (by first | exact OI_mkI (by first | rfl | simp) (by first | omega | (simp <;> omega)) | exact own_al (OI_mkI (by first | rfl | simp) (by first | omega | (simp <;> omega))) _ | exact own_drewI (OI_mkI (by first | rfl | simp) (by first | omega | (simp <;> omega))) | exact own_drewI (own_al (OI_mkI (by first | rfl | simp) (by first | omega | (simp <;> omega))) _)) (some ⟨b8, o8, none⟩) n c8 tv rfl (HNT5.out _ (by assumption)) L1.out V1.out (by omega) (by omega) (by assumption) ?_
                       intro v4 w4 hq h52 hg4
                       rw [Nat.zero_add, List.nil_append] at h52
                       have hG1 : Below w5.heap.size w5 w4 := Below.grown (by assumption) hg4 (by assumption) (fun g e => (World.ownsRow.lt hq g e).1)
                       first
                         | (have hN : Hd w4 w5.heap.size (.cells #[.int .i64 av] 3) := Hd.grown (by first | exact Hd.al (Hd_mkI rfl) _ | exact hd_drewI (Hd.al (Hd_mkI rfl) _)) hg4 (by simp [Value.ownBlock]))
                         | (have hN : Hd w4 (w5.heap.size + 1) (.cells #[.int .i64 av] 3) := Hd.grown (by first | exact Hd_mkI (by simp) | exact hd_drewI (Hd_mkI (by simp))) hg4 (by simp [Value.ownBlock]))
                         | skip
                       obtain ⟨a10, c10, rfl⟩ := own_slice h52))
                all_goals
                  go_split_ands
                  have HF6 := Lib.hid (HFX.out _ _ _ h62)
                  have HG6 := Lib.hid hG3
                  clear h62 hG3
                  go_wp2
                  go_roundg g2
                  case measure => exact HG2.out
                  case rel => exact ⟨j + 1, by have := HJ.out; omega, by go_num, by rw [TJ.out]; exact own_base HF6.out zW, (HR2.out.trans (HB3.out.mono HR2.out.size)).trans ((HB5.out.mono (Nat.le_trans HR2.out.size z3)).trans (HG6.out.mono zw2))⟩
end Go.Proofs.YtmaknkbmilcanaaGreatDoor.Ft
namespace Go.Proofs.YtmaknkbmilcanaaGreatDoor.Ft
open Go.RowKit
open Go.Proofs.YtmaknkbmilcanaaGreatDoor.Tx (TxtsIn ret_b)
open Go.Proofs.YtmaknkbmilcanaaGreatDoor.Gr (Tg Gp TgIn ret_i)
open Go.Proofs.YtmaknkbmilcanaaGreatDoor.Pe (Pr PrIn)
open Go.Proofs.YtmaknkbmilcanaaGreatDoor.Qu (Rep Q RpIn IntsIn OI Hd intV)
open Go.Proofs.YtmaknkbmilcanaaGreatDoor.Po (Pl RlIn)
open Go.Proofs.YtmaknkbmilcanaaGreatDoor.Gr (belI_step belI_alloc)
open Go.Proofs.YtmaknkbmilcanaaGreatDoor.Pi (Cn En Wi Pp EnIn WiIn CnIn CnN CV PpN PV pV8 ppV eV)
open Go.Proofs.YtmaknkbmilcanaaGreatDoor.Ul (Tab MaxL in_any)
open Go.Proofs.YtmaknkbmilcanaaGreatDoor.Pi (Sm ppB)
open Go.Proofs.YtmaknkbmilcanaaGreatDoor.Mk (below_grownBy own_slice own_base)

theorem nowR_len (p : Pp) : (nowR p).length ≤ 1048576 := by
  unfold nowR
  split
  · rename_i h
    have := (pp_now h).1
    rw [insAll_len]
    omega
  · exact Nat.zero_le _
set_option maxRecDepth 100000 in
set_option maxHeartbeats 4000000 in
theorem nowOfS_any (B : Nat) (w0 : World) (p : Pp) (u : PV) (h : PpN (· < B) w0 u p) (sm : Sm p) (W : World) (hb : Below B w0 W) (hB : B ≤ W.heap.size) :
    Calls Tryz.prog 32 #[pV8 p u] W (NewIC W (nowR p) (enCo p)) := by
  obtain ⟨r, hr⟩ : ∃ r, ppB p = r := ⟨_, rfl⟩
  have HOK := Lib.hid (fun (W' : World) (hb : Below B w0 W') (hB : B ≤ W'.heap.size) => show Calls Tryz.prog 61 #[pV8 p u] W' (fun e w' => e = .returned (.bool r) ∧ Below W'.heap.size W' w') from by subst hr; exact Pi.ok08_any B w0 p u h sm W' hb hB)
  have HC := Lib.hid (show enCo p = if r = true then 0 else 1 by subst hr; rfl)
  have HR := Lib.hid (show nowR p = if r = true then insAll (nowL p.chs) [] else [] by subst hr; rfl)
  have HL := Lib.hid (show r = true → (nowL p.chs).length ≤ 25 ∧ ∀ i, i < p.chs.length → (p.chs.getD i default).q.items.length ≤ 5 from fun e => pp_now (hr.trans e))
  have HB := Lib.hid hb
  clear hr hb sm
  generalize enCo p = C at *
  generalize nowR p = R at *
  obtain ⟨chs, ⟨rp, uris, rules⟩, now, next, log, ws⟩ := p
  obtain ⟨u1, u2, u3, u4, u5⟩ := u
  obtain ⟨h1, h2, h3, h4, h5⟩ := h
  simp only at h1 h2 h3 h4 h5 HR HL
  have HF := Lib.hid (fun a b W' c d => nowS_any B w0 chs u1 h1 rp u2 u3 now next u4 u5 a b W' c d)
  obtain ⟨a1, l1, c1, rfl⟩ := h1.slice
  obtain ⟨a2, l2, c2, rfl⟩ := h2.slice
  obtain ⟨a3, l3, c3, rfl⟩ := h3.slice
  obtain ⟨a4, l4, c4, rfl⟩ := h4.slice
  obtain ⟨a5, l5, c5, rfl⟩ := h5.slice
  clear h1 h2 h3 h4 h5
  have BA := Lib.hid ((Below.refl W.heap.size W).alloc (Nat.le_refl _) (.cells #[.slice a1 l1 c1, .string ⟨rp.toArray⟩, .slice a2 l2 c2, .slice a3 l3 c3, .int .i64 now, .int .i64 next, .slice a4 l4 c4, .slice a5 l5 c5] 41))
  have K := Lib.hid (Hd.new W (.cells #[.slice a1 l1 c1, .string ⟨rp.toArray⟩, .slice a2 l2 c2, .slice a3 l3 c3, .int .i64 now, .int .i64 next, .slice a4 l4 c4, .slice a5 l5 c5] 41))
  go_enter Tryz.func32, Tryz.ntmps32
  go_wp2_with fail
  refine (HOK.out _ (HB.out.trans (BA.out.mono hB)) (Nat.le_trans hB BA.out.size)).mono ?_
  rintro e w1 ⟨rfl, hb1⟩
  have B1 := Lib.hid (belI_step BA.out hb1)
  have K1 := Lib.hid (K.out.blw hb1)
  clear hb1 K BA
  cases r
  · have HFIN := Lib.hid (newIC_mk (W := W) (w := w1) (show R = [] by rw [HR.out]; rfl) (show C = 1 by rw [HC.out]; rfl) B1.out rfl rfl)
    go_wp2
    exact bodyPost_ret (ret_2 Tryz.results32) rfl HFIN.out
  · have HC0 := Lib.hid (show C = 0 by rw [HC.out]; rfl)
    have HR0 := Lib.hid (show R = insAll (nowL chs) [] by rw [HR.out]; rfl)
    have HL2 := Lib.hid (HL.out rfl)
    clear HL
    have kk := K1.out
    have m0 := cell_of_row w1 W.heap.size 0 _ _ _ kk
    have m1 := cell_of_row w1 W.heap.size 1 _ _ _ kk
    have m2 := cell_of_row w1 W.heap.size 2 _ _ _ kk
    have m3 := cell_of_row w1 W.heap.size 3 _ _ _ kk
    have m4 := cell_of_row w1 W.heap.size 4 _ _ _ kk
    have m5 := cell_of_row w1 W.heap.size 5 _ _ _ kk
    have m6 := cell_of_row w1 W.heap.size 6 _ _ _ kk
    have m7 := cell_of_row w1 W.heap.size 7 _ _ _ kk
    clear kk
    go_wp2_with fail
    refine (HF.out HL2.out.1 HL2.out.2 w1 (HB.out.trans (B1.out.mono hB)) (Nat.le_trans hB B1.out.size)).mono ?_
    rintro e w3 ⟨v, rfl, hO, hb3⟩
    have HFIN := Lib.hid (show NewIC W R C (.returned (.tuple #[v, .int .i64 0])) w3 by
      rw [HC0.out, HR0.out]; exact ⟨_, rfl, own_base hO B1.out.size, belI_step B1.out hb3⟩)
    obtain ⟨a9, c9, rfl⟩ := OI.slice hO
    clear hb3 hO
    go_wp2
    exact bodyPost_ret (ret_2 Tryz.results32) rfl HFIN.out
end Go.Proofs.YtmaknkbmilcanaaGreatDoor.Ft
