
/-
  Plainly: which channels, entries, wires and pipes are valid. The program's PipeOK and what it calls, walked. (Made by pii.py.) The program's channelOK, walked. (Made by pii.py.) The program's channelsOK, logOK, wiresOK and PipeOK, walked. (Made by pii.py.) The program's sentIdsOK, wireOK, wiresOK, logOK and PipeOK, walked. (Made by pim.py.)
-/
import Derived.Test.YtmaknkbmilcanaaGreatDoorPiA
import Derived.Test.YtmaknkbmilcanaaGreatDoorGrO
import Derived.Test.YtmaknkbmilcanaaGreatDoorPeJ
import Derived.Test.YtmaknkbmilcanaaGreatDoorQuS
import Derived.Test.YtmaknkbmilcanaaGreatDoorPoV
import Derived.Test.YtmaknkbmilcanaaGreatDoorNameWalks
namespace Go.Proofs.YtmaknkbmilcanaaGreatDoor.Pi
open Go.RowKit
open Go.Proofs.YtmaknkbmilcanaaGreatDoor.Gr (Tg Gp gpB hasU atF at_has)
open Go.Proofs.YtmaknkbmilcanaaGreatDoor.Pe (Pr)
open Go.Proofs.YtmaknkbmilcanaaGreatDoor.Qu (Rep Q quB itB itB_drop folB fol_take)
open Go.Proofs.YtmaknkbmilcanaaGreatDoor.Nm (nameB)
/-- a channel's name, as the address of a target: the group's lemmas on 'the first with this address' serve -/
def nmT (c : Cn) : Tg := ⟨c.g.name, 0, 0⟩
def atC (u : List UInt8) (xs : List Cn) : Int := atF u 0 (xs.map nmT)
def hasC (xs : List Cn) (u : List UInt8) : Bool := hasU (xs.map nmT) u
def oldB (now next : Int) (r : Rep) : Bool := decide (r.id < next) && decide (r.born ≤ now)
def chB (now next : Int) (c : Cn) : Bool := gpB c.g && (Pe.plB c.ps && (quB c.q && ((c.ps.map Pr.tg == c.g.tgs) && c.q.items.all (oldB now next))))
def chsB (now next : Int) : List Cn → List Cn → Bool
  | _, [] => true
  | before, t :: ts => (chB now next t && !hasC before t.g.name) && chsB now next (before ++ [t]) ts
def enB (now next e : Int) (x : En) : Bool := decide (1 ≤ x.kind ∧ x.kind ≤ 7) && (decide (1 ≤ x.id ∧ x.id ≤ next - 1) && (decide (e ≤ x.tm) && decide (x.tm ≤ now)))
def loB (now next : Int) : Int → List En → Bool
  | _, [] => true
  | e, t :: ts => enB now next e t && loB now next t.tm ts
def idB (next e i : Int) : Bool := decide (1 ≤ i ∧ i ≤ next - 1) && decide (e < i)
def idsB (next : Int) : Int → List Int → Bool
  | _, [] => true
  | e, t :: ts => idB next e t && idsB next t ts
def wiB (now next : Int) (x : Wi) : Bool := decide (0 ≤ x.tm ∧ x.tm ≤ now) && (decide (100 ≤ x.st ∧ x.st ≤ 599) && (nameB ⟨x.grp.toArray⟩ && (decide (x.url.length ≤ 100) && (decide (x.body.length ≤ 65536) && (decide (1 ≤ x.ids.length ∧ x.ids.length ≤ 3) && idsB next 0 x.ids)))))
def ppB (p : Pp) : Bool := decide (0 ≤ p.now ∧ p.now ≤ 1000000) && (decide (1 ≤ p.next ∧ p.next ≤ 1000000) && (Po.plB p.pol && ((decide (p.chs.length ≤ 5) && chsB p.now p.next [] p.chs) && ((decide (p.log.length ≤ 4096) && loB p.now p.next 0 p.log) && (decide (p.wires.length ≤ 4096) && p.wires.all (wiB p.now p.next))))))
theorem map_getD {xs : List Cn} (k : Nat) (hk : k < xs.length) : (xs.map nmT).getD k default = nmT (xs.getD k default) := by simp [hk]
theorem atC_has (xs : List Cn) (k : Nat) (hk : k < xs.length) : (atC (xs.getD k default).g.name xs != (k : Int)) = hasC (xs.take k) (xs.getD k default).g.name := by
  have h := at_has (xs.map nmT) k (by simpa using hk)
  rw [map_getD k hk] at h
  unfold atC hasC
  rw [List.map_take]
  exact h
theorem chsB_drop (now next : Int) {xs : List Cn} (k : Nat) (hx : k < xs.length) : chsB now next (xs.take k) (xs.drop k) = ((chB now next (xs.getD k default) && !hasC (xs.take k) (xs.getD k default).g.name) && chsB now next (xs.take (k + 1)) (xs.drop (k + 1))) := by
  rw [List.drop_eq_getElem_cons hx, chsB]
  have e : xs.take k ++ [xs[k]] = xs.take (k + 1) := by rw [List.take_add_one, List.getElem?_eq_getElem hx]; rfl
  rw [e]
  simp [hx]
theorem loB_drop (now next e : Int) {xs : List En} (k : Nat) (hx : k < xs.length) : loB now next e (xs.drop k) = (enB now next e (xs.getD k default) && loB now next (xs.getD k default).tm (xs.drop (k + 1))) := by
  rw [List.drop_eq_getElem_cons hx, loB]; simp [hx]
theorem idsB_drop (next e : Int) {xs : List Int} (k : Nat) (hx : k < xs.length) : idsB next e (xs.drop k) = (idB next e (xs.getD k 0) && idsB next (xs.getD k 0) (xs.drop (k + 1))) := by
  rw [List.drop_eq_getElem_cons hx, idsB]; simp [hx]
theorem allW_drop (f : Wi → Bool) {xs : List Wi} (k : Nat) (hx : k < xs.length) : (xs.drop k).all f = (f (xs.getD k default) && (xs.drop (k + 1)).all f) := by
  rw [List.drop_eq_getElem_cons hx, List.all_cons]; simp [hx]
theorem allR_drop (f : Rep → Bool) {xs : List Rep} (k : Nat) (hx : k < xs.length) : (xs.drop k).all f = (f (xs.getD k default) && (xs.drop (k + 1)).all f) := by
  rw [List.drop_eq_getElem_cons hx, List.all_cons]; simp [hx]
/-! ### a valid queue's items are old if its last one is -/
theorem itB_from {xs : List Rep} (h : itB [] xs = true) : ∀ k, k ≤ xs.length → itB (xs.take k) (xs.drop k) = true
  | 0, _ => by simpa using h
  | k + 1, hk => by
    have ih := itB_from h k (by omega)
    rw [itB_drop k (by omega)] at ih
    simp only [Bool.and_eq_true] at ih
    exact ih.2
theorem itB_next {xs : List Rep} (h : itB [] xs = true) (k : Nat) (hk : k + 1 < xs.length) : (xs.getD k default).id < (xs.getD (k + 1) default).id ∧ (xs.getD k default).born ≤ (xs.getD (k + 1) default).born := by
  have ih := itB_from h (k + 1) (by omega)
  rw [itB_drop (k + 1) hk] at ih
  simp only [Bool.and_eq_true] at ih
  have h2 := ih.1.2
  rw [fol_take (by omega) rfl] at h2
  simpa using h2
theorem itB_last {xs : List Rep} (h : itB [] xs = true) : ∀ d i, i + d < xs.length → (xs.getD i default).id ≤ (xs.getD (i + d) default).id ∧ (xs.getD i default).born ≤ (xs.getD (i + d) default).born
  | 0, i, _ => ⟨Int.le_refl _, Int.le_refl _⟩
  | d + 1, i, hd => by
    have a := itB_last h d i (by omega)
    have b := itB_next h (i + d) (by omega)
    rw [show i + (d + 1) = i + d + 1 by omega]
    exact ⟨by omega, by omega⟩
theorem fol_old {xs : List Rep} (h : itB [] xs = true) (now next t : Int) (s : List UInt8) : folB xs ⟨next, now, t, s⟩ = xs.all (oldB now next) := by
  cases hx : xs.length with
  | zero => obtain rfl := List.eq_nil_of_length_eq_zero hx; rfl
  | succ n =>
    have e : folB xs ⟨next, now, t, s⟩ = oldB now next (xs.getD n default) := by
      unfold folB oldB; rw [hx]; simp
    rw [e]
    apply Bool.eq_iff_iff.2
    rw [List.all_eq_true]
    constructor
    · intro ho x hm
      obtain ⟨i, hi, rfl⟩ := List.getElem_of_mem hm
      have := itB_last h (n - i) i (by omega)
      rw [show i + (n - i) = n by omega, show xs.getD i default = xs[i] by simp [hi]] at this
      simp only [oldB, Bool.and_eq_true, decide_eq_true_eq] at ho ⊢
      omega
    · intro ha
      have hm : xs.getD n default ∈ xs := by
        rw [show xs.getD n default = xs[n]'(by omega) by simp [show n < xs.length by omega]]
        exact List.getElem_mem _
      exact ha _ hm
theorem quB_items {q : Q} (h : quB q = true) : itB [] q.items = true := by
  unfold quB at h
  simp only [Bool.and_eq_true] at h
  exact h.2.2.1
theorem chB_prog (now next t : Int) (s : List UInt8) (c : Cn) : (gpB c.g && (Pe.plB c.ps && (quB c.q && ((c.ps.map Pr.tg == c.g.tgs) && folB c.q.items ⟨next, now, t, s⟩)))) = chB now next c := by
  unfold chB
  cases hq : quB c.q with
  | false => simp
  | true => rw [fol_old (quB_items hq)]
/-! ### how great a pipe may be -/
theorem szCs_get : ∀ (xs : List Cn) (i : Nat), i < xs.length → szC (xs.getD i default) ≤ szCs xs
  | [], _, h => by simp at h
  | x :: r, 0, _ => by simp [szCs]
  | x :: r, i + 1, h => by
    have := szCs_get r i (by simpa using h)
    simp only [szCs, List.getD_cons_succ]
    omega
theorem szWs_get : ∀ (xs : List Wi) (i : Nat), i < xs.length → szW (xs.getD i default) ≤ szWs xs
  | [], _, h => by simp at h
  | x :: r, 0, _ => by simp [szWs]
  | x :: r, i + 1, h => by
    have := szWs_get r i (by simpa using h)
    simp only [szWs, List.getD_cons_succ]
    omega
theorem szU_get2 : ∀ (xs : List Tg) (i : Nat), i < xs.length → (xs.getD i default).url.length ≤ Gr.szU xs
  | [], _, h => by simp at h
  | x :: r, 0, _ => by simp [Gr.szU]
  | x :: r, i + 1, h => by
    have := szU_get2 r i (by simpa using h)
    simp only [Gr.szU, List.getD_cons_succ]
    omega
theorem szP_get2 : ∀ (xs : List Pr) (i : Nat), i < xs.length → (xs.getD i default).url.length ≤ Pe.szP xs
  | [], _, h => by simp at h
  | x :: r, 0, _ => by simp [Pe.szP]
  | x :: r, i + 1, h => by
    have := szP_get2 r i (by simpa using h)
    simp only [Pe.szP, List.getD_cons_succ]
    omega
structure CBig (c : Cn) : Prop where
  name : c.g.name.length ≤ 1048576
  tu : ∀ i, i < c.g.tgs.length → (c.g.tgs.getD i default).url.length ≤ 1048576
  pu : ∀ i, i < c.ps.length → (c.ps.getD i default).url.length ≤ 1048576
structure WBig (x : Wi) : Prop where
  grp : x.grp.length ≤ 1048576
  url : x.url.length ≤ 1048576
  ids : x.ids.length ≤ 1048576
  body : x.body.length ≤ 1048576
structure Sm (p : Pp) : Prop where
  ps : PSm p
  pol : Po.Small p.pol
  ch : ∀ i, i < p.chs.length → CBig (p.chs.getD i default)
  wi : ∀ i, i < p.wires.length → WBig (p.wires.getD i default)
theorem sm_of (p : Pp) (h : szPp p ≤ 1048576) : Sm p := by
  unfold szPp at h
  have hc : ∀ i, i < p.chs.length → szC (p.chs.getD i default) ≤ 1048576 := fun i hi => by have := szCs_get p.chs i hi; omega
  have hw : ∀ i, i < p.wires.length → szW (p.wires.getD i default) ≤ 1048576 := fun i hi => by have := szWs_get p.wires i hi; omega
  have hp := Po.small_of p.pol (by omega)
  refine ⟨⟨by omega, fun i hi => ?_, hp.uris, hp.rules, fun i hi => (hp.words i hi).1, by omega, by omega, fun i hi => ?_⟩, hp, fun i hi => ?_, fun i hi => ?_⟩
  · have := hc i hi
    unfold szC Gr.szG Qu.szQ at this
    exact ⟨by omega, by omega, by omega, by omega⟩
  · have := hw i hi
    unfold szW at this
    unfold WSm
    omega
  · have h1 := hc i hi
    unfold szC Gr.szG at h1
    exact ⟨by omega, fun j hj => by have := szU_get2 _ j hj; omega, fun j hj => by have := szP_get2 _ j hj; omega⟩
  · have := hw i hi
    unfold szW at this
    exact ⟨by omega, by omega, by omega, by omega⟩
end Go.Proofs.YtmaknkbmilcanaaGreatDoor.Pi
namespace Go.Proofs.YtmaknkbmilcanaaGreatDoor.Pi
open Go.RowKit
open Go.Proofs.YtmaknkbmilcanaaGreatDoor.Tx (TxtsIn ret_b)
open Go.Proofs.YtmaknkbmilcanaaGreatDoor.Gr (Tg Gp TgIn gV tV gpB)
open Go.Proofs.YtmaknkbmilcanaaGreatDoor.Pe (Pr PrIn pV)
open Go.Proofs.YtmaknkbmilcanaaGreatDoor.Qu (Rep Q RpIn IntsIn qV rV quB folB Hd)
open Go.Proofs.YtmaknkbmilcanaaGreatDoor.Po (Pl RlIn belI_step belI_alloc Seen cloV)
open Go.Proofs.YtmaknkbmilcanaaGreatDoor.Ul (Tab MaxL)
open Go.Proofs.YtmaknkbmilcanaaGreatDoor.Ext (up up_below up_mk wp_region_ext call_ext call_ext_same)
@[local go_sem] theorem up_cellP (w : World) (y : Ext.Ext w) (b o : Nat) (h : b < w.heap.size) : (up w y).cell? ⟨b, o, none⟩ = w.cell? ⟨b, o, none⟩ := Ext.up_cell w y b o h
abbrev rawP (cv : Value) (rp : List UInt8) (uv rv : Value) (now next : Int) (lv wv : Value) : Value := .agg #[cv, .string ⟨rp.toArray⟩, uv, rv, .int .i64 now, .int .i64 next, lv, wv]
theorem fateI_any (n : Int) (w : World) : Calls Tryz.prog 81 #[.int .i64 n] w fun e w' => e = .returned (.bool (decide (1 ≤ n ∧ n ≤ 7))) ∧ w = w' := by
  by_cases h1 : 1 ≤ n
  · by_cases h2 : n ≤ 7
    all_goals
      go_enter Tryz.func81, Tryz.ntmps81
      go_wp2
      go_ret
      exact ⟨ret_b (by simp; omega), rfl⟩
  · go_enter Tryz.func81, Tryz.ntmps81
    go_wp2
    go_ret
    exact ⟨ret_b (by simp; omega), rfl⟩
theorem statusI_any (n : Int) (w : World) : Calls Tryz.prog 287 #[.int .i64 n] w fun e w' => e = .returned (.bool (decide (100 ≤ n ∧ n ≤ 599))) ∧ w = w' := by
  by_cases h1 : 100 ≤ n
  · by_cases h2 : n ≤ 599
    all_goals
      go_enter Tryz.func287, Tryz.ntmps287
      go_wp2
      go_ret
      exact ⟨ret_b (by simp; omega), rfl⟩
  · go_enter Tryz.func287, Tryz.ntmps287
    go_wp2
    go_ret
    exact ⟨ret_b (by simp; omega), rfl⟩
theorem wasI_any (cv : Value) (rp : List UInt8) (uv rv : Value) (now next : Int) (lv wv : Value) (n : Int) (w : World) : Calls Tryz.prog 213 #[rawP cv rp uv rv now next lv wv, .int .i64 n] w fun e w' => e = .returned (.bool (decide (1 ≤ n ∧ n ≤ next - 1))) ∧ Below w.heap.size w w' := by
  have HB := Lib.hid ((Below.refl w.heap.size w).alloc (Nat.le_refl _) (.cells #[cv, .string ⟨rp.toArray⟩, uv, rv, .int .i64 now, .int .i64 next, lv, wv] 41))
  by_cases h1 : 1 ≤ n
  · by_cases h2 : n < next
    all_goals
      go_enter Tryz.func213, Tryz.ntmps213
      go_wp2
      go_ret
      exact ⟨ret_b (by simp; omega), HB.out⟩
  · go_enter Tryz.func213, Tryz.ntmps213
    go_wp2
    go_ret
    exact ⟨ret_b (by simp; omega), HB.out⟩
theorem nextRep_any (cv : Value) (rp : List UInt8) (uv rv : Value) (now next : Int) (lv wv : Value) (bd : List UInt8) (w : World) : Calls Tryz.prog 286 #[rawP cv rp uv rv now next lv wv, .string ⟨bd.toArray⟩] w fun e w' => e = .returned (rV ⟨next, now, 0, bd⟩) ∧ Below w.heap.size w w' := by
  have HB := Lib.hid (((Below.refl w.heap.size w).alloc (Nat.le_refl _) (.cells #[cv, .string ⟨rp.toArray⟩, uv, rv, .int .i64 now, .int .i64 next, lv, wv] 41)).alloc (by simp) (.cells #[.int .i64 next, .int .i64 now, .int .i64 0, .string ⟨bd.toArray⟩] 134))
  have HF := Lib.hid (show Hd ((w.alloc (.cells #[cv, .string ⟨rp.toArray⟩, uv, rv, .int .i64 now, .int .i64 next, lv, wv] 41)).alloc (.cells #[.int .i64 next, .int .i64 now, .int .i64 0, .string ⟨bd.toArray⟩] 134)) (w.heap.size + 1) (.cells #[.int .i64 next, .int .i64 now, .int .i64 0, .string ⟨bd.toArray⟩] 134) by simpa using Hd.new (w.alloc (.cells #[cv, .string ⟨rp.toArray⟩, uv, rv, .int .i64 now, .int .i64 next, lv, wv] 41)) (.cells #[.int .i64 next, .int .i64 now, .int .i64 0, .string ⟨bd.toArray⟩] 134))
  go_enter Tryz.func286, Tryz.ntmps286
  go_wp2
  exact bodyPost_ret (Qu.ret_R Tryz.results286 rfl HF.out) rfl ⟨rfl, HB.out⟩
set_option maxRecDepth 100000 in
theorem hasT_any (x : Pr) (t : Tg) (w : World) : Calls Tryz.prog 284 #[pV x, tV t] w fun e w' => e = .returned (.bool (x.tg == t)) ∧ Below w.heap.size w w' := by
  obtain ⟨u, p, q, f, r, g⟩ := x
  obtain ⟨u', p', q'⟩ := t
  have HB := Lib.hid (((Below.refl w.heap.size w).alloc (Nat.le_refl _) (.cells #[.string ⟨u.toArray⟩, .int .i64 p, .int .i64 q, .int .i64 f, .int .i64 r, .bool g] 87)).alloc (by simp) (.cells #[.string ⟨u'.toArray⟩, .int .i64 p', .int .i64 q'] 85))
  by_cases hxy : (⟨u, p, q⟩ : Tg) = ⟨u', p', q'⟩
  · obtain ⟨rfl, rfl, rfl⟩ : u = u' ∧ p = p' ∧ q = q' := by simpa using hxy
    clear hxy
    have D := Lib.hid (show ((⟨u, p, q⟩ : Tg) == ⟨u, p, q⟩) = true from beq_self_eq_true _)
    go_enter Tryz.func284, Tryz.ntmps284
    go_wp2
    go_ret
    exact ⟨ret_b (by first | rfl | simp), HB.out⟩
  · have D := Lib.hid (show ((⟨u, p, q⟩ : Tg) == ⟨u', p', q'⟩) = false by simpa using hxy)
    have hne : ¬ (u = u' ∧ p = p' ∧ q = q') := by simpa using hxy
    clear hxy
    by_cases h1 : u = u'
    · subst h1
      by_cases h2 : p = p'
      · subst h2
        have h3 : ¬ q = q' := by simpa using hne
        have f5 : (q == q') = false := by simpa using h3
        have f6 : decide (q = q') = false := by simpa using h3
        clear hne
        go_enter Tryz.func284, Tryz.ntmps284
        go_wp2
        go_ret
        exact ⟨ret_b (by rw [D.out]), HB.out⟩
      · have f5 : (p == p') = false := by simpa using h2
        have f6 : decide (p = p') = false := by simpa using h2
        clear hne
        go_enter Tryz.func284, Tryz.ntmps284
        go_wp2
        go_ret
        exact ⟨ret_b (by rw [D.out]), HB.out⟩
    · have f5 : (u == u') = false := by simpa using h1
      have f6 : decide (u = u') = false := by simpa using h1
      clear hne
      go_enter Tryz.func284, Tryz.ntmps284
      go_wp2
      go_ret
      exact ⟨ret_b (by rw [D.out]), HB.out⟩
abbrev htV : Value := .func (.func 284) #[] #[]
theorem tgs_drop {xs ys : List Tg} (k : Nat) (hx : k < xs.length) (hy : k < ys.length) : (xs.drop k == ys.drop k) = ((xs.getD k default == ys.getD k default) && (xs.drop (k + 1) == ys.drop (k + 1))) := by
  rw [List.drop_eq_getElem_cons hx, List.drop_eq_getElem_cons hy, List.cons_beq_cons]
  simp [hx, hy]
theorem tgs_len {xs ys : List Tg} (h : xs.length ≠ ys.length) : (xs == ys) = false := by
  simp only [beq_eq_false_iff_ne, ne_eq]; intro e; exact h (by rw [e])
set_option maxRecDepth 100000 in
set_option maxHeartbeats 2000000 in
theorem eqfI_any (B : Nat) (w0 : World) (ps : List Pr) (ts : List Tg) (v u : Value) (h1 : PrIn (· < B) w0 v ps) (h2 : TgIn (· < B) w0 u ts) (W : World) (hb : Below B w0 W) (hB : B ≤ W.heap.size) :
    Calls Tryz.prog 283 #[v, u, htV] W fun e w' => e = .returned (.bool (ps.map Pr.tg == ts)) ∧ Below W.heap.size W w' := by
  obtain ⟨a, cap, b, off, rfl, hcap, hm, -, ha, hc⟩ := h1
  obtain ⟨a', cap', b', off', rfl, hcap', hm', -, ha', hc'⟩ := h2
  have hn : ps.length ≤ 9223372036854775807 := by omega
  have hn' : ts.length ≤ 9223372036854775807 := by omega
  have HC := Lib.hid hc
  have HA := Lib.hid ha
  have HC' := Lib.hid hc'
  have HA' := Lib.hid ha'
  have HB := Lib.hid hb
  clear hc ha hc' ha' hb
  by_cases hl : ps.length = ts.length
  · have HL := Lib.hid hl
    have g1 : ((ps.length : Int) != (ts.length : Int)) = false := by simp [hl]
    clear hl
    go_enter Tryz.func283, Tryz.ntmps283
    go_wp2
    go_loopw [17] (fun i wr => ∃ k : Nat, k ≤ ps.length ∧ i = .int .i64 k ∧ (ps.map Pr.tg == ts) = ((ps.map Pr.tg).drop k == ts.drop k) ∧ Below W.heap.size W wr) (fun i _ => ps.length - (intOf i).toNat)
    case atStart => exact ⟨0, by omega, rfl, rfl, Below.refl _ _⟩
    case round =>
      obtain ⟨k, hk, rfl, hE, hR⟩ := hrel
      have HE := Lib.hid hE
      have hW := HB.out.trans (hR.mono hB)
      have HR := Lib.hid hR
      clear hE hR
      by_cases hlt : k < ps.length
      · have hlt' : k < ts.length := by have := HL.out; omega
        obtain ⟨ea, hlb⟩ := HA.out (by omega)
        obtain ⟨ea', hlb'⟩ := HA'.out (by omega)
        subst ea ea'
        obtain ⟨c0, c1, c2, c3, c4, c5⟩ := HC.out k hlt
        obtain ⟨d0, d1, d2⟩ := HC'.out k hlt'
        have q0 := (hW.cell (p := ⟨b, off + k * 6, none⟩) hlb).trans c0
        have q1 := (hW.cell (p := ⟨b, off + k * 6 + 1, none⟩) hlb).trans c1
        have q2 := (hW.cell (p := ⟨b, off + k * 6 + 2, none⟩) hlb).trans c2
        have q3 := (hW.cell (p := ⟨b, off + k * 6 + 3, none⟩) hlb).trans c3
        have q4 := (hW.cell (p := ⟨b, off + k * 6 + 4, none⟩) hlb).trans c4
        have q5 := (hW.cell (p := ⟨b, off + k * 6 + 5, none⟩) hlb).trans c5
        have z1 : B ≤ wr.heap.size := Nat.le_trans hB HR.out.size
        have y0 := (hW.cell (p := ⟨b', off' + k * 3, none⟩) hlb').trans d0
        have y1 := (hW.cell (p := ⟨b', off' + k * 3 + 1, none⟩) hlb').trans d1
        have y2 := (hW.cell (p := ⟨b', off' + k * 3 + 2, none⟩) hlb').trans d2
        have z2 : b' < wr.heap.size := Nat.lt_of_lt_of_le hlb' z1
        have D := Lib.hid (tgs_drop (xs := ps.map Pr.tg) (ys := ts) k (by simpa using hlt) hlt')
        rw [show (ps.map Pr.tg).getD k default = (ps.getD k default).tg by simp [hlt]] at D
        have HK := Lib.hid (fun W' => hasT_any (ps.getD k default) (ts.getD k default) W')
        clear c0 c1 c2 c3 c4 c5 d0 d1 d2 hW
        generalize ps.getD k default = x at *
        generalize ts.getD k default = y at *
        obtain ⟨c, hcc⟩ : ∃ c, (x.tg == y) = c := ⟨_, rfl⟩
        rw [hcc] at D HK
        clear hcc
        obtain ⟨u1, p1, r1, f1, e1, n1⟩ := x
        obtain ⟨u2, p2, r2⟩ := y
        simp only at q0 q1 q2 q3 q4 q5 y0 y1 y2
        go_wp2_with fail
        refine (HK.out _).mono ?_
        rintro e w1 ⟨rfl, hb1⟩
        have B1 := Lib.hid (belI_step (belI_alloc (o := .cells #[.string ⟨u2.toArray⟩, .int .i64 p2, .int .i64 r2] 85) (belI_alloc (o := .cells #[.string ⟨u1.toArray⟩, .int .i64 p1, .int .i64 r1, .int .i64 f1, .int .i64 e1, .bool n1] 87) HR.out)) hb1)
        clear hb1
        cases c
        · go_wp2
          go_ret
          exact ⟨ret_b (by rw [HE.out, D.out]; rfl), B1.out⟩
        · go_wp2
          go_roundw
          case rel => exact ⟨k + 1, by omega, by go_num, by rw [HE.out, D.out]; rfl, B1.out⟩
          case measure => simp [intOf]; omega
      · obtain rfl : k = ps.length := by omega
        go_wp2
        go_ret
        exact ⟨ret_b (by rw [HE.out, show (ps.map Pr.tg).drop ps.length = [] by simp, HL.out, List.drop_length]; rfl), HR.out⟩
  · have D := Lib.hid (tgs_len (xs := ps.map Pr.tg) (ys := ts) (by simpa using hl))
    have g1 : ((ps.length : Int) != (ts.length : Int)) = true := by simp only [bne_iff_ne, ne_eq]; omega
    clear hl
    go_enter Tryz.func283, Tryz.ntmps283
    go_wp2
    go_ret
    exact ⟨ret_b D.out.symm, Below.refl _ _⟩
end Go.Proofs.YtmaknkbmilcanaaGreatDoor.Pi
namespace Go.Proofs.YtmaknkbmilcanaaGreatDoor.Pi
open Go.RowKit
open Go.Proofs.YtmaknkbmilcanaaGreatDoor.Tx (TxtsIn ret_b)
open Go.Proofs.YtmaknkbmilcanaaGreatDoor.Gr (Tg Gp TgIn gV tV gpB)
open Go.Proofs.YtmaknkbmilcanaaGreatDoor.Pe (Pr PrIn pV)
open Go.Proofs.YtmaknkbmilcanaaGreatDoor.Qu (Rep Q RpIn IntsIn qV rV quB folB Hd)
open Go.Proofs.YtmaknkbmilcanaaGreatDoor.Po (Pl RlIn belI_step belI_alloc Seen cloV)
open Go.Proofs.YtmaknkbmilcanaaGreatDoor.Ul (Tab MaxL)
open Go.Proofs.YtmaknkbmilcanaaGreatDoor.Ext (up up_below up_mk wp_region_ext call_ext call_ext_same)
@[local go_sem] theorem up_cellJ (w : World) (y : Ext.Ext w) (b o : Nat) (h : b < w.heap.size) : (up w y).cell? ⟨b, o, none⟩ = w.cell? ⟨b, o, none⟩ := Ext.up_cell w y b o h
set_option maxRecDepth 100000 in
set_option maxHeartbeats 8000000 in
theorem chanI_any (B : Nat) (w0 : World) (c : Cn) (u : CV) (h : CnN (· < B) w0 u c) (big : CBig c) (cv : Value) (rp : List UInt8) (uv rv : Value) (now next : Int) (lv wv : Value) (W : World) (hb : Below B w0 W) (hB : B ≤ W.heap.size) (hT : Tab W) (hM : MaxL W) :
    Calls Tryz.prog 212 #[rawP cv rp uv rv now next lv wv, cV c u] W fun e w' => e = .returned (.bool (chB now next c)) ∧ Below W.heap.size W w' := by
  have ES := Lib.hid (chB_prog now next 0 [] c)
  obtain ⟨⟨nm, ag, ts⟩, ps, ⟨rs, bs⟩⟩ := c
  obtain ⟨u_tv, u_pv, u_iv, u_rv⟩ := u
  obtain ⟨ht, hp, hi, hr⟩ := h
  obtain ⟨g1, g2, g3⟩ := big
  simp only at ht hp hi hr g1 g2 g3 ES
  have HG := Lib.hid (fun W' h1 h2 h3 h4 => Gr.groupI B w0 ⟨nm, ag, ts⟩ u_tv ht g1 W' h1 h2 h3 h4)
  have HP := Lib.hid (fun W' h1 h2 h3 h4 => Pe.okI_any B w0 ps u_pv hp W' h1 h2 h3 h4)
  have HQ := Lib.hid (fun W' h1 h2 => Qu.quI_any B w0 ⟨rs, bs⟩ u_iv u_rv hi hr W' h1 h2)
  have HE := Lib.hid (fun W' h1 h2 => eqfI_any B w0 ps ts u_pv u_tv hp ht W' h1 h2)
  have HF := Lib.hid (fun (W' : World) (h1 : Below B w0 W') (h2 : B ≤ W'.heap.size) => Qu.follows_any (· < B) rs ⟨next, now, 0, []⟩ u_iv W' (hi.blw h1) (fun b hb => Nat.lt_of_lt_of_le hb h2))
  have HN := Lib.hid (fun W' => nextRep_any cv rp uv rv now next lv wv [] W')
  have HB := Lib.hid hb
  have HT := Lib.hid hT
  have HM := Lib.hid hM
  obtain ⟨a1, l1, c1, rfl⟩ := ht.slice
  obtain ⟨a2, l2, c2, rfl⟩ := hp.slice
  obtain ⟨a3, l3, c3, rfl⟩ := hi.slice
  obtain ⟨a4, l4, c4, rfl⟩ := hr.slice
  clear ht hp hi hr g1 g2 g3 hb hT hM
  generalize gpB ⟨nm, ag, ts⟩ = b1 at *
  generalize Pe.plB ps = b2 at *
  generalize quB ⟨rs, bs⟩ = b3 at *
  generalize (ps.map Pr.tg == ts) = b4 at *
  generalize folB rs ⟨next, now, 0, []⟩ = b5 at *
  generalize chB now next ⟨⟨nm, ag, ts⟩, ps, ⟨rs, bs⟩⟩ = r at *
  have B2 := Lib.hid ((Below.refl W.heap.size W).alloc (Nat.le_refl _) (.cells #[cv, .string ⟨rp.toArray⟩, uv, rv, .int .i64 now, .int .i64 next, lv, wv] 41) |>.alloc (by simp) (.cells #[.string ⟨nm.toArray⟩, .int .i64 ag, .slice a1 l1 c1, .slice a2 l2 c2, .slice a3 l3 c3, .slice a4 l4 c4] 132))
  go_enter Tryz.func212, Tryz.ntmps212
  go_wp2_with fail
  refine (HG.out _ (HB.out.trans (B2.out.mono hB)) (Nat.le_trans hB B2.out.size) (HT.out.below B2.out) (HM.out.below B2.out)).mono ?_
  rintro e w1 ⟨rfl, hb2⟩
  have K0 := Lib.hid (((Hd.new W (.cells #[cv, .string ⟨rp.toArray⟩, uv, rv, .int .i64 now, .int .i64 next, lv, wv] 41)).al (.cells #[.string ⟨nm.toArray⟩, .int .i64 ag, .slice a1 l1 c1, .slice a2 l2 c2, .slice a3 l3 c3, .slice a4 l4 c4] 132)).blw hb2)
  have K1 := Lib.hid ((show Hd ((W.alloc (.cells #[cv, .string ⟨rp.toArray⟩, uv, rv, .int .i64 now, .int .i64 next, lv, wv] 41)).alloc (.cells #[.string ⟨nm.toArray⟩, .int .i64 ag, .slice a1 l1 c1, .slice a2 l2 c2, .slice a3 l3 c3, .slice a4 l4 c4] 132)) (W.heap.size + 1) (.cells #[.string ⟨nm.toArray⟩, .int .i64 ag, .slice a1 l1 c1, .slice a2 l2 c2, .slice a3 l3 c3, .slice a4 l4 c4] 132) by simpa using Hd.new (W.alloc (.cells #[cv, .string ⟨rp.toArray⟩, uv, rv, .int .i64 now, .int .i64 next, lv, wv] 41)) (.cells #[.string ⟨nm.toArray⟩, .int .i64 ag, .slice a1 l1 c1, .slice a2 l2 c2, .slice a3 l3 c3, .slice a4 l4 c4] 132)).blw hb2)
  have BA := Lib.hid (belI_step (belI_alloc (o := (.cells #[.string ⟨nm.toArray⟩, .int .i64 ag, .slice a1 l1 c1, .slice a2 l2 c2, .slice a3 l3 c3, .slice a4 l4 c4] 132)) (belI_alloc (o := (.cells #[cv, .string ⟨rp.toArray⟩, uv, rv, .int .i64 now, .int .i64 next, lv, wv] 41)) (Below.refl W.heap.size W))) hb2)
  clear hb2
  have kk := K0.out
  have m0 := cell_of_row w1 (W.heap.size) 0 _ _ _ kk
  have m1 := cell_of_row w1 (W.heap.size) 1 _ _ _ kk
  have m2 := cell_of_row w1 (W.heap.size) 2 _ _ _ kk
  have m3 := cell_of_row w1 (W.heap.size) 3 _ _ _ kk
  have m4 := cell_of_row w1 (W.heap.size) 4 _ _ _ kk
  have m5 := cell_of_row w1 (W.heap.size) 5 _ _ _ kk
  have m6 := cell_of_row w1 (W.heap.size) 6 _ _ _ kk
  have m7 := cell_of_row w1 (W.heap.size) 7 _ _ _ kk
  clear kk
  have kk := K1.out
  have n0 := cell_of_row w1 (W.heap.size + 1) 0 _ _ _ kk
  have n1 := cell_of_row w1 (W.heap.size + 1) 1 _ _ _ kk
  have n2 := cell_of_row w1 (W.heap.size + 1) 2 _ _ _ kk
  have n3 := cell_of_row w1 (W.heap.size + 1) 3 _ _ _ kk
  have n4 := cell_of_row w1 (W.heap.size + 1) 4 _ _ _ kk
  have n5 := cell_of_row w1 (W.heap.size + 1) 5 _ _ _ kk
  clear kk
  cases b1
  · go_wp2
    go_ret
    exact ⟨ret_b (by rw [← ES.out]; rfl), BA.out⟩
  go_wp2_with fail
  refine (HP.out _ (HB.out.trans (BA.out.mono hB)) (Nat.le_trans hB BA.out.size) (HT.out.below BA.out) (HM.out.below BA.out)).mono ?_
  rintro e w2 ⟨rfl, hb2⟩
  clear m0 m1 m2 m3 m4 m5 m6 m7
  clear n0 n1 n2 n3 n4 n5
  have K0 := Lib.hid (K0.out.blw hb2)
  have K1 := Lib.hid (K1.out.blw hb2)
  have BA := Lib.hid (belI_step BA.out hb2)
  clear hb2
  have kk := K0.out
  have m0 := cell_of_row w2 (W.heap.size) 0 _ _ _ kk
  have m1 := cell_of_row w2 (W.heap.size) 1 _ _ _ kk
  have m2 := cell_of_row w2 (W.heap.size) 2 _ _ _ kk
  have m3 := cell_of_row w2 (W.heap.size) 3 _ _ _ kk
  have m4 := cell_of_row w2 (W.heap.size) 4 _ _ _ kk
  have m5 := cell_of_row w2 (W.heap.size) 5 _ _ _ kk
  have m6 := cell_of_row w2 (W.heap.size) 6 _ _ _ kk
  have m7 := cell_of_row w2 (W.heap.size) 7 _ _ _ kk
  clear kk
  have kk := K1.out
  have n0 := cell_of_row w2 (W.heap.size + 1) 0 _ _ _ kk
  have n1 := cell_of_row w2 (W.heap.size + 1) 1 _ _ _ kk
  have n2 := cell_of_row w2 (W.heap.size + 1) 2 _ _ _ kk
  have n3 := cell_of_row w2 (W.heap.size + 1) 3 _ _ _ kk
  have n4 := cell_of_row w2 (W.heap.size + 1) 4 _ _ _ kk
  have n5 := cell_of_row w2 (W.heap.size + 1) 5 _ _ _ kk
  clear kk
  cases b2
  · go_wp2
    go_ret
    exact ⟨ret_b (by rw [← ES.out]; rfl), BA.out⟩
  go_wp2_with fail
  refine (HQ.out _ (HB.out.trans (BA.out.mono hB)) (Nat.le_trans hB BA.out.size)).mono ?_
  rintro e w3 ⟨rfl, hb2⟩
  clear m0 m1 m2 m3 m4 m5 m6 m7
  clear n0 n1 n2 n3 n4 n5
  have K0 := Lib.hid (K0.out.blw hb2)
  have K1 := Lib.hid (K1.out.blw hb2)
  have BA := Lib.hid (belI_step BA.out hb2)
  clear hb2
  have kk := K0.out
  have m0 := cell_of_row w3 (W.heap.size) 0 _ _ _ kk
  have m1 := cell_of_row w3 (W.heap.size) 1 _ _ _ kk
  have m2 := cell_of_row w3 (W.heap.size) 2 _ _ _ kk
  have m3 := cell_of_row w3 (W.heap.size) 3 _ _ _ kk
  have m4 := cell_of_row w3 (W.heap.size) 4 _ _ _ kk
  have m5 := cell_of_row w3 (W.heap.size) 5 _ _ _ kk
  have m6 := cell_of_row w3 (W.heap.size) 6 _ _ _ kk
  have m7 := cell_of_row w3 (W.heap.size) 7 _ _ _ kk
  clear kk
  have kk := K1.out
  have n0 := cell_of_row w3 (W.heap.size + 1) 0 _ _ _ kk
  have n1 := cell_of_row w3 (W.heap.size + 1) 1 _ _ _ kk
  have n2 := cell_of_row w3 (W.heap.size + 1) 2 _ _ _ kk
  have n3 := cell_of_row w3 (W.heap.size + 1) 3 _ _ _ kk
  have n4 := cell_of_row w3 (W.heap.size + 1) 4 _ _ _ kk
  have n5 := cell_of_row w3 (W.heap.size + 1) 5 _ _ _ kk
  clear kk
  cases b3
  · go_wp2
    go_ret
    exact ⟨ret_b (by rw [← ES.out]; rfl), BA.out⟩
  have z1 : W.heap.size < w3.heap.size := K0.out.lt
  have z2 : W.heap.size + 1 < w3.heap.size := K1.out.lt
  have DB := Lib.hid (HB.out.trans (BA.out.mono hB))
  have zB : B ≤ w3.heap.size := Nat.le_trans hB BA.out.size
  go_wp2_with fail
  cases b4 <;> cases b5
  all_goals
    refine wp_region_ext (by kernel_rfl) (by kernel_rfl) ?_
    repeat (go_big_quiet_step ((first
      | (go_at_call 283; refine call_ext (v := .bool true) ?_; with_reducible exact HE.out _ (DB.out.trans ((up_below _ _).mono zB)) (Nat.le_trans zB (up_below _ _).size))
      | (go_at_call 283; refine call_ext (v := .bool false) ?_; with_reducible exact HE.out _ (DB.out.trans ((up_below _ _).mono zB)) (Nat.le_trans zB (up_below _ _).size))
      | (go_at_call 286; refine call_ext (v := rV ⟨next, now, 0, []⟩) ?_; exact HN.out _)
      | (go_at_call 285; refine call_ext (v := .bool true) ?_; with_reducible exact HF.out _ (DB.out.trans ((up_below _ _).mono zB)) (Nat.le_trans zB (up_below _ _).size))
      | (go_at_call 285; refine call_ext (v := .bool false) ?_; with_reducible exact HF.out _ (DB.out.trans ((up_below _ _).mono zB)) (Nat.le_trans zB (up_below _ _).size)))))
    refine wpQuiet_nil ?_
    intro _ hw'
    obtain ⟨y8, rfl⟩ := hw'
    have hv8 := up_below _ y8
    generalize up _ y8 = v8 at *
    have D8 := Lib.hid (belI_step BA.out hv8)
    clear hv8 m0 m1 m2 m3 m4 m5 m6 m7 n0 n1 n2 n3 n4 n5
    go_wp2
    go_ret
    exact ⟨ret_b (by rw [← ES.out]; rfl), D8.out⟩
end Go.Proofs.YtmaknkbmilcanaaGreatDoor.Pi
namespace Go.Proofs.YtmaknkbmilcanaaGreatDoor.Pi
open Go.RowKit
open Go.Proofs.YtmaknkbmilcanaaGreatDoor.Tx (TxtsIn ret_b)
open Go.Proofs.YtmaknkbmilcanaaGreatDoor.Gr (Tg Gp TgIn gV tV gpB)
open Go.Proofs.YtmaknkbmilcanaaGreatDoor.Pe (Pr PrIn pV)
open Go.Proofs.YtmaknkbmilcanaaGreatDoor.Qu (Rep Q RpIn IntsIn qV rV quB folB Hd)
open Go.Proofs.YtmaknkbmilcanaaGreatDoor.Po (Pl RlIn belI_step belI_alloc Seen cloV)
open Go.Proofs.YtmaknkbmilcanaaGreatDoor.Ul (Tab MaxL)
open Go.Proofs.YtmaknkbmilcanaaGreatDoor.Ext (up up_below up_mk wp_region_ext call_ext call_ext_same)
@[local go_sem] theorem up_cellK (w : World) (y : Ext.Ext w) (b o : Nat) (h : b < w.heap.size) : (up w y).cell? ⟨b, o, none⟩ = w.cell? ⟨b, o, none⟩ := Ext.up_cell w y b o h
theorem hasC_step {xs : List Cn} {k : Nat} (hk : k < xs.length) (t : List UInt8) : (if t = (xs.getD k default).g.name then true else hasC (xs.take k) t) = hasC (xs.take (k + 1)) t := by
  unfold hasC Gr.hasU
  rw [List.take_add_one, List.getElem?_eq_getElem hk]
  simp only [List.map_append, List.any_append, Option.toList_some, List.map_cons, List.map_nil, List.any_cons, List.any_nil, Bool.or_false]
  rw [show xs.getD k default = xs[k] by simp [hk]]
  by_cases e : t = xs[k].g.name
  · rw [if_pos e]; simp [nmT, e]
  · rw [if_neg e]
    have : ((nmT xs[k]).url == t) = false := by simp only [nmT, beq_eq_false_iff_ne, ne_eq]; exact fun h => e h.symm
    rw [this, Bool.or_false]
set_option maxRecDepth 100000 in
set_option maxHeartbeats 8000000 in
theorem chansI_any (B : Nat) (w0 : World) (xs : List Cn) (u : Value) (h : CnIn (· < B) w0 u xs) (big : ∀ i, i < xs.length → CBig (xs.getD i default)) (rp : List UInt8) (uv rv : Value) (now next : Int) (lv wv : Value) (W : World) (hb : Below B w0 W) (hB : B ≤ W.heap.size) (hT : Tab W) (hM : MaxL W) :
    Calls Tryz.prog 135 #[rawP u rp uv rv now next lv wv] W fun e w' => e = .returned (.bool (decide (xs.length ≤ 5) && chsB now next [] xs)) ∧ Below W.heap.size W w' := by
  obtain ⟨a, cap, b, off, us, rfl, hcap, hm, hlen, ha, hc⟩ := h
  have HC := Lib.hid hc
  have HA := Lib.hid ha
  have HB := Lib.hid hb
  have HG := Lib.hid big
  have HT := Lib.hid hT
  have HM := Lib.hid hM
  clear hc ha hlen hb big hT hM
  have BA := Lib.hid ((Below.refl W.heap.size W).alloc (Nat.le_refl _) (.cells #[.slice a xs.length cap, .string ⟨rp.toArray⟩, uv, rv, .int .i64 now, .int .i64 next, lv, wv] 41))
  have K := Lib.hid (Hd.new W (.cells #[.slice a xs.length cap, .string ⟨rp.toArray⟩, uv, rv, .int .i64 now, .int .i64 next, lv, wv] 41))
  by_cases h5 : 5 < xs.length
  · have E := Lib.hid (show (decide (xs.length ≤ 5) && chsB now next [] xs) = false by rw [decide_eq_false (by omega)]; rfl)
    have g1 : (5 : Int) < (xs.length : Int) := by omega
    clear K
    go_enter Tryz.func135, Tryz.ntmps135
    go_wp2
    go_ret
    exact ⟨ret_b E.out.symm, BA.out⟩
  · have E := Lib.hid (show (decide (xs.length ≤ 5) && chsB now next [] xs) = chsB now next [] xs by rw [decide_eq_true (by omega)]; rfl)
    have g1 : ¬ ((5 : Int) < (xs.length : Int)) := by omega
    rw [E.out]
    clear E
    go_enter Tryz.func135, Tryz.ntmps135
    go_wp2_with fail
    have zz : (W.alloc (.cells #[.slice a xs.length cap, .string ⟨rp.toArray⟩, uv, rv, .int .i64 now, .int .i64 next, lv, wv] 41)).heap.size = W.heap.size + 1 := by simp
    generalize W.alloc (.cells #[.slice a xs.length cap, .string ⟨rp.toArray⟩, uv, rv, .int .i64 now, .int .i64 next, lv, wv] 41) = wa at *
    refine (Po.first_any wa).mono ?_
    rintro e w1 ⟨rfl, hS1, hb1⟩
    rw [zz] at hS1
    have HS1 := Lib.hid hS1
    have K := Lib.hid (K.out.blw hb1)
    have HB1 := Lib.hid (belI_step BA.out hb1)
    have kk := K.out
    have m0 := cell_of_row w1 W.heap.size 0 _ _ _ kk
    have zz1 : W.heap.size + 1 ≤ w1.heap.size := K.out.lt
    clear hS1 hb1 kk
    go_wp2
    clear m0 zz
    go_loopw [14] (fun i wr => ∃ (k n : Nat) (f : List UInt8 → Bool), k ≤ xs.length ∧ n ≤ k ∧ i = .int .i64 k ∧ chsB now next [] xs = chsB now next (xs.take k) (xs.drop k) ∧ Seen wr (W.heap.size + 1 + 1) (W.heap.size + 1) n f ∧ (∀ t, f t = hasC (xs.take k) t) ∧ Hd wr W.heap.size (.cells #[.slice a xs.length cap, .string ⟨rp.toArray⟩, uv, rv, .int .i64 now, .int .i64 next, lv, wv] 41) ∧ Below W.heap.size W wr ∧ W.heap.size + 1 ≤ wr.heap.size) (fun i _ => xs.length - (intOf i).toNat)
    case atStart => exact ⟨0, 0, _, by omega, by omega, rfl, rfl, HS1.out, fun t => rfl, K.out, HB1.out, by omega⟩
    case round =>
      obtain ⟨k, n, f, hk, hnk, rfl, hE, hS, hf, hK, hR, hza⟩ := hrel
      have HE := Lib.hid hE
      have HS := Lib.hid hS
      have HF := Lib.hid hf
      have HK := Lib.hid hK
      have hW : Below B w0 wr := HB.out.trans (hR.mono hB)
      have hzr := hR.size
      have HR := Lib.hid hR
      clear hE hS hf hR hK
      by_cases hlt : k < xs.length
      · obtain ⟨ea, hlb⟩ := HA.out (by omega)
        subst ea
        obtain ⟨c0, c1, c2, c3, c4, c5, cN⟩ := HC.out k hlt
        have q0 := (hW.cell (p := ⟨b, off + k * 6, none⟩) hlb).trans c0
        have q1 := (hW.cell (p := ⟨b, off + k * 6 + 1, none⟩) hlb).trans c1
        have q2 := (hW.cell (p := ⟨b, off + k * 6 + 2, none⟩) hlb).trans c2
        have q3 := (hW.cell (p := ⟨b, off + k * 6 + 3, none⟩) hlb).trans c3
        have q4 := (hW.cell (p := ⟨b, off + k * 6 + 4, none⟩) hlb).trans c4
        have q5 := (hW.cell (p := ⟨b, off + k * 6 + 5, none⟩) hlb).trans c5
        have TD := Lib.hid (chsB_drop now next k hlt)
        have HST := Lib.hid (hasC_step hlt)
        have hnl := (HG.out k hlt).name
        have HRU := Lib.hid (fun (W' : World) (h : Below wr.heap.size wr W') (h2 : Tab W') (h3 : MaxL W') => chanI_any B w0 (xs.getD k default) (us k) cN (HG.out k hlt) (.slice (some ⟨b, off, none⟩) xs.length cap) rp uv rv now next lv wv W' (hW.trans (h.mono (by omega))) (by have := h.size; omega) h2 h3)
        have hd2 : b < wr.heap.size := by omega
        clear c0 c1 c2 c3 c4 c5 hW
        generalize us k = uu at *
        generalize xs.getD k default = x at *
        obtain ⟨u_tv, u_pv, u_iv, u_rv⟩ := uu
        obtain ⟨a1, l1, c1, rfl⟩ : ∃ a l c, u_tv = .slice a l c := cN.tv.slice
        obtain ⟨a2, l2, c2, rfl⟩ : ∃ a l c, u_pv = .slice a l c := cN.pv.slice
        obtain ⟨a3, l3, c3, rfl⟩ : ∃ a l c, u_iv = .slice a l c := cN.iv.slice
        obtain ⟨a4, l4, c4, rfl⟩ : ∃ a l c, u_rv = .slice a l c := cN.rv.slice
        clear cN
        obtain ⟨⟨nm, ag, ts⟩, ps, ⟨rs, bs⟩⟩ := x
        simp only at q0 q1 hnl TD HST HRU
        generalize chB now next ⟨⟨nm, ag, ts⟩, ps, ⟨rs, bs⟩⟩ = rb at *
        have HFx := HF.out nm
        have FF := Lib.hid (show ∀ t, (if t = nm then true else f t) = hasC (xs.take (k + 1)) t from fun t => by rw [← HST.out t, HF.out t])
        generalize hasC (xs.take k) nm = hh at *
        have HBR := Lib.hid (Below.refl wr.heap.size wr |>.alloc (Nat.le_refl _) (.cells #[.string ⟨nm.toArray⟩, .int .i64 ag, .slice a1 l1 c1, .slice a2 l2 c2, .slice a3 l3 c3, .slice a4 l4 c4] 132))
        have kk := HK.out.al (.cells #[.string ⟨nm.toArray⟩, .int .i64 ag, .slice a1 l1 c1, .slice a2 l2 c2, .slice a3 l3 c3, .slice a4 l4 c4] 132)
        have m0 := cell_of_row _ W.heap.size 0 _ _ _ kk
        have m1 := cell_of_row _ W.heap.size 1 _ _ _ kk
        have m2 := cell_of_row _ W.heap.size 2 _ _ _ kk
        have m3 := cell_of_row _ W.heap.size 3 _ _ _ kk
        have m4 := cell_of_row _ W.heap.size 4 _ _ _ kk
        have m5 := cell_of_row _ W.heap.size 5 _ _ _ kk
        have m6 := cell_of_row _ W.heap.size 6 _ _ _ kk
        have m7 := cell_of_row _ W.heap.size 7 _ _ _ kk
        clear kk
        go_wp2_with fail
        refine (HRU.out _ HBR.out (HT.out.below (HR.out.trans (HBR.out.mono hzr))) (HM.out.below (HR.out.trans (HBR.out.mono hzr)))).mono ?_
        rintro e w2 ⟨rfl, hb2⟩
        have kx := (Hd.new wr (.cells #[.string ⟨nm.toArray⟩, .int .i64 ag, .slice a1 l1 c1, .slice a2 l2 c2, .slice a3 l3 c3, .slice a4 l4 c4] 132)).blw hb2
        have n0 := cell_of_row w2 wr.heap.size 0 _ _ _ kx
        have hbw2 : Below wr.heap.size wr w2 := HBR.out.trans (hb2.mono (by simp))
        have HB2 := Lib.hid (belI_step HR.out hbw2)
        have HS2 := Lib.hid (HS.out.later hbw2)
        have HK2 := Lib.hid (HK.out.blw hbw2)
        have hz2 : W.heap.size ≤ w2.heap.size := HB2.out.size
        have hz3 : W.heap.size + 1 ≤ w2.heap.size := Nat.le_trans hza hbw2.size
        clear hb2 hbw2 HBR HRU kx m0 m1 m2 m3 m4 m5 m6 m7
        cases rb
        · go_wp2
          go_ret
          exact ⟨ret_b (by rw [HE.out, TD.out]; simp), HB2.out⟩
        · go_wp2_with fail
          refine (Po.clo_any nm (by omega) w2 _ _ n f HS2.out (by omega)).mono ?_
          rintro e w3 ⟨rfl, hS3, hg3⟩
          have HB3 := Lib.hid (Mp.below_grownM HB2.out hg3 (by omega) hz2)
          have HS3 := Lib.hid hS3
          have HK3 := Lib.hid (HK2.out.grown hg3 (fun e => absurd (Option.some.inj e) (by omega)))
          have hz4 : W.heap.size + 1 ≤ w3.heap.size := Nat.le_trans hz3 hg3.size
          rw [HFx]
          clear hS3 hg3 n0 HS2
          cases hh
          · go_wp2
            go_roundw
            case rel => exact ⟨k + 1, n + 1, _, by omega, by omega, by go_num, by rw [HE.out, TD.out]; rfl, HS3.out, FF.out, HK3.out, HB3.out, hz4⟩
            case measure => simp [intOf]; omega
          · go_wp2
            go_ret
            exact ⟨ret_b (by rw [HE.out, TD.out]; simp), HB3.out⟩
      · obtain rfl : k = xs.length := by omega
        go_wp2
        go_ret
        exact ⟨ret_b (by rw [HE.out, List.drop_length]; rfl), HR.out⟩
end Go.Proofs.YtmaknkbmilcanaaGreatDoor.Pi
namespace Go.Proofs.YtmaknkbmilcanaaGreatDoor.Pi
open Go.RowKit
open Go.Proofs.YtmaknkbmilcanaaGreatDoor.Tx (TxtsIn ret_b)
open Go.Proofs.YtmaknkbmilcanaaGreatDoor.Qu (IntsIn Hd)
open Go.Proofs.YtmaknkbmilcanaaGreatDoor.Po (Pl RlIn belI_step belI_alloc)
open Go.Proofs.YtmaknkbmilcanaaGreatDoor.Ul (Tab MaxL)
open Go.Proofs.YtmaknkbmilcanaaGreatDoor.Nm (nameB)
theorem idB_first (next t : Int) : idB next 0 t = decide (1 ≤ t ∧ t ≤ next - 1) := by
  unfold idB
  by_cases h : 1 ≤ t ∧ t ≤ next - 1
  · rw [decide_eq_true h, decide_eq_true (by omega)]; rfl
  · rw [decide_eq_false h]; rfl
/-- the number ahead of the k-th, or 0 -/
def preI (ns : List Int) : Nat → Int
  | 0 => 0
  | k + 1 => ns.getD k 0
set_option maxRecDepth 100000 in
set_option maxHeartbeats 4000000 in
theorem sentI_any (cv : Value) (rp : List UInt8) (uv rv : Value) (now next : Int) (lv wv : Value) (B : Nat) (w0 : World) (ns : List Int) (v : Value) (h : IntsIn (· < B) w0 v ns) (W : World) (hb : Below B w0 W) (hB : B ≤ W.heap.size) :
    Calls Tryz.prog 288 #[rawP cv rp uv rv now next lv wv, v] W fun e w' => e = .returned (.bool (decide (1 ≤ ns.length ∧ ns.length ≤ 3) && idsB next 0 ns)) ∧ Below W.heap.size W w' := by
  obtain ⟨a, cap, b, off, rfl, hcap, hm, ha, hc⟩ := h
  have HC := Lib.hid hc
  have HA := Lib.hid ha
  have HB := Lib.hid hb
  clear hc ha hb
  obtain ⟨R, hRR⟩ : ∃ R, (decide (1 ≤ ns.length ∧ ns.length ≤ 3) && idsB next 0 ns) = R := ⟨_, rfl⟩
  rw [hRR]
  have BA := Lib.hid ((Below.refl W.heap.size W).alloc (Nat.le_refl _) (.cells #[cv, .string ⟨rp.toArray⟩, uv, rv, .int .i64 now, .int .i64 next, lv, wv] 41))
  have K := Lib.hid (Hd.new W (.cells #[cv, .string ⟨rp.toArray⟩, uv, rv, .int .i64 now, .int .i64 next, lv, wv] 41))
  by_cases h1 : ns.length < 1
  · have Z := Lib.hid (show R = false by rw [← hRR, decide_eq_false (by omega)]; rfl)
    clear hRR
    have g1 : ((ns.length : Int) < 1) := by omega
    clear K
    go_enter Tryz.func288, Tryz.ntmps288
    go_wp2
    go_ret
    exact ⟨ret_b Z.out.symm, BA.out⟩
  have g1 : ¬ ((ns.length : Int) < 1) := by omega
  by_cases h3 : 3 < ns.length
  · have Z := Lib.hid (show R = false by rw [← hRR, decide_eq_false (by omega)]; rfl)
    clear hRR
    have g2 : (3 : Int) < (ns.length : Int) := by omega
    clear K
    go_enter Tryz.func288, Tryz.ntmps288
    go_wp2
    go_ret
    exact ⟨ret_b Z.out.symm, BA.out⟩
  have g2 : ¬ ((3 : Int) < (ns.length : Int)) := by omega
  have Z := Lib.hid (show R = idsB next 0 ns by rw [← hRR, decide_eq_true (by omega)]; rfl)
  clear hRR
  go_enter Tryz.func288, Tryz.ntmps288
  go_wp2
  go_loopw [17] (fun i wr => ∃ k : Nat, k ≤ ns.length ∧ i = .int .i64 k ∧ idsB next 0 ns = idsB next (preI ns k) (ns.drop k) ∧ Hd wr W.heap.size (.cells #[cv, .string ⟨rp.toArray⟩, uv, rv, .int .i64 now, .int .i64 next, lv, wv] 41) ∧ Below W.heap.size W wr) (fun i _ => ns.length - (intOf i).toNat)
  case atStart => exact ⟨0, by omega, rfl, rfl, K.out, BA.out⟩
  case round =>
    obtain ⟨k, hk, rfl, hE, hK, hR⟩ := hrel
    have HE := Lib.hid hE
    have HK := Lib.hid hK
    have hW := HB.out.trans (hR.mono hB)
    have HR := Lib.hid hR
    clear hE hK hR
    by_cases hlt : k < ns.length
    · obtain ⟨ea, hlb⟩ := HA.out (by omega)
      subst ea
      have q0 := (hW.cell (p := ⟨b, off + k, none⟩) hlb).trans (HC.out k hlt)
      have D := Lib.hid (idsB_drop next (preI ns k) k hlt)
      have HN := Lib.hid (show preI ns (k + 1) = ns.getD k 0 from rfl)
      have HWS := Lib.hid (fun W' => wasI_any cv rp uv rv now next lv wv (ns.getD k 0) W')
      have HQ := Lib.hid (fun (W' : World) (h : Below B w0 W') (m : Nat) (hm : k = m + 1) => (h.cell (p := ⟨b, off + m, none⟩) hlb).trans (HC.out m (by omega)))
      have HP := Lib.hid (fun (m : Nat) (hm : k = m + 1) => show preI ns k = ns.getD m 0 by subst hm; rfl)
      have HP0 := Lib.hid (fun (hm : k = 0) => show preI ns k = 0 by subst hm; rfl)
      generalize ns.getD k 0 = t at *
      have kk := HK.out
      have m0 := cell_of_row wr (W.heap.size) 0 _ _ _ kk
      have m1 := cell_of_row wr (W.heap.size) 1 _ _ _ kk
      have m2 := cell_of_row wr (W.heap.size) 2 _ _ _ kk
      have m3 := cell_of_row wr (W.heap.size) 3 _ _ _ kk
      have m4 := cell_of_row wr (W.heap.size) 4 _ _ _ kk
      have m5 := cell_of_row wr (W.heap.size) 5 _ _ _ kk
      have m6 := cell_of_row wr (W.heap.size) 6 _ _ _ kk
      have m7 := cell_of_row wr (W.heap.size) 7 _ _ _ kk
      clear kk
      go_wp2_with fail
      refine (HWS.out wr).mono ?_
      rintro e w2 ⟨rfl, hb2⟩
      have K2 := Lib.hid (HK.out.blw hb2)
      have B2 := Lib.hid (belI_step HR.out hb2)
      have hW2 : Below B w0 w2 := HB.out.trans (B2.out.mono hB)
      clear hb2 m0 m1 m2 m3 m4 m5 m6 m7
      by_cases hw : 1 ≤ t ∧ t ≤ next - 1
      · have d1 : decide (1 ≤ t ∧ t ≤ next - 1) = true := decide_eq_true hw
        rw [d1]
        cases k with
        | zero =>
          have G := Lib.hid (show idB next (preI ns 0) t = true by rw [HP0.out rfl, idB_first]; exact d1)
          clear hw d1 HQ
          go_wp2
          go_roundw
          case rel => exact ⟨1, by omega, by go_num, by rw [HE.out, D.out, G.out, ← HN.out]; rfl, K2.out, B2.out⟩
          case measure => simp [intOf]; omega
        | succ m =>
          have r0 := HQ.out w2 hW2 m rfl
          have P0 := HP.out m rfl
          have e1 : ((m : Int) + 1) - 1 = (m : Int) := by omega
          generalize ns.getD m 0 = s at *
          by_cases hs : t ≤ s
          · have G := Lib.hid (show idB next (preI ns (m + 1)) t = false by rw [P0]; unfold idB; rw [decide_eq_false (p := s < t) (by omega), Bool.and_false])
            clear hw d1 HQ P0 HP HP0
            go_wp2
            go_ret
            exact ⟨ret_b (by rw [Z.out, HE.out, D.out, G.out]; rfl), B2.out⟩
          · have G := Lib.hid (show idB next (preI ns (m + 1)) t = true by rw [P0]; unfold idB; rw [d1, decide_eq_true (p := s < t) (by omega)]; rfl)
            clear hw d1 HQ P0 HP HP0
            go_wp2
            go_roundw
            case rel => exact ⟨m + 1 + 1, by omega, by go_num, by rw [HE.out, D.out, G.out, ← HN.out]; rfl, K2.out, B2.out⟩
            case measure => simp [intOf]; omega
      · have d1 : decide (1 ≤ t ∧ t ≤ next - 1) = false := decide_eq_false hw
        have G := Lib.hid (show idB next (preI ns k) t = false by unfold idB; rw [d1]; rfl)
        rw [d1]
        clear hw d1 HQ HP HP0
        go_wp2
        go_ret
        exact ⟨ret_b (by rw [Z.out, HE.out, D.out, G.out]; rfl), B2.out⟩
    · obtain rfl : k = ns.length := by omega
      go_wp2
      go_ret
      exact ⟨ret_b (by rw [Z.out, HE.out, List.drop_length]; rfl), HR.out⟩
set_option maxRecDepth 100000 in
set_option maxHeartbeats 8000000 in
theorem wireI_any (cv : Value) (rp : List UInt8) (uv rv : Value) (now next : Int) (lv wv : Value) (B : Nat) (w0 : World) (x : Wi) (u : WV) (h : WiN (· < B) w0 u x) (big : WBig x) (W : World) (hb : Below B w0 W) (hB : B ≤ W.heap.size) :
    Calls Tryz.prog 214 #[rawP cv rp uv rv now next lv wv, wV x u] W fun e w' => e = .returned (.bool (wiB now next x)) ∧ Below W.heap.size W w' := by
  obtain ⟨t, s, g, l, ns, d, z⟩ := x
  obtain ⟨u_id⟩ := u
  obtain ⟨hi⟩ := h
  obtain ⟨y1, y2, y3, y4⟩ := big
  simp only at hi y1 y2 y3 y4
  have HS := Lib.hid (fun W' => statusI_any s W')
  have HN := Lib.hid (fun W' => Nm.NameOK_any ⟨g.toArray⟩ W' (by simp [ByteArray.size, maxLen]; omega))
  have HI := Lib.hid (fun W' h1 h2 => sentI_any cv rp uv rv now next lv wv B w0 ns u_id hi W' h1 h2)
  have HB := Lib.hid hb
  have Z := Lib.hid (show wiB now next ⟨t, s, g, l, ns, d, z⟩ = (decide (0 ≤ t ∧ t ≤ now) && (decide (100 ≤ s ∧ s ≤ 599) && (nameB ⟨g.toArray⟩ && (decide (l.length ≤ 100) && (decide (d.length ≤ 65536) && (decide (1 ≤ ns.length ∧ ns.length ≤ 3) && idsB next 0 ns)))))) from rfl)
  obtain ⟨a1, l1, c1, rfl⟩ := hi.slice
  clear hi hb y1 y3
  generalize decide (100 ≤ s ∧ s ≤ 599) = b1 at *
  generalize nameB ⟨g.toArray⟩ = b2 at *
  generalize (decide (1 ≤ ns.length ∧ ns.length ≤ 3) && idsB next 0 ns) = b3 at *
  generalize wiB now next ⟨t, s, g, l, ns, d, z⟩ = r at *
  have K0 := Lib.hid ((Hd.new W (.cells #[cv, .string ⟨rp.toArray⟩, uv, rv, .int .i64 now, .int .i64 next, lv, wv] 41)).al (.cells #[.int .i64 t, .int .i64 s, .string ⟨g.toArray⟩, .string ⟨l.toArray⟩, .slice a1 l1 c1, .string ⟨d.toArray⟩, .bool z] 142))
  have K1 := Lib.hid (show Hd ((W.alloc (.cells #[cv, .string ⟨rp.toArray⟩, uv, rv, .int .i64 now, .int .i64 next, lv, wv] 41)).alloc (.cells #[.int .i64 t, .int .i64 s, .string ⟨g.toArray⟩, .string ⟨l.toArray⟩, .slice a1 l1 c1, .string ⟨d.toArray⟩, .bool z] 142)) (W.heap.size + 1) (.cells #[.int .i64 t, .int .i64 s, .string ⟨g.toArray⟩, .string ⟨l.toArray⟩, .slice a1 l1 c1, .string ⟨d.toArray⟩, .bool z] 142) by simpa using Hd.new (W.alloc (.cells #[cv, .string ⟨rp.toArray⟩, uv, rv, .int .i64 now, .int .i64 next, lv, wv] 41)) (.cells #[.int .i64 t, .int .i64 s, .string ⟨g.toArray⟩, .string ⟨l.toArray⟩, .slice a1 l1 c1, .string ⟨d.toArray⟩, .bool z] 142))
  have BA := Lib.hid (((Below.refl W.heap.size W).alloc (Nat.le_refl _) (.cells #[cv, .string ⟨rp.toArray⟩, uv, rv, .int .i64 now, .int .i64 next, lv, wv] 41)).alloc (by simp) (.cells #[.int .i64 t, .int .i64 s, .string ⟨g.toArray⟩, .string ⟨l.toArray⟩, .slice a1 l1 c1, .string ⟨d.toArray⟩, .bool z] 142))
  by_cases h0 : 0 ≤ t
  · by_cases h1 : t ≤ now
    · have ez : decide (0 ≤ t ∧ t ≤ now) = true := decide_eq_true ⟨h0, h1⟩
      rw [ez] at Z
      clear ez
      go_enter Tryz.func214, Tryz.ntmps214
      go_wp2_with fail
      refine (HS.out _).mono ?_
      rintro e wx ⟨rfl, rfl⟩
      cases b1
      · go_wp2
        go_ret
        exact ⟨ret_b Z.out.symm, BA.out⟩
      go_wp2_with fail
      refine (HN.out _).mono ?_
      rintro e w2 ⟨rfl, hb2⟩
      have K0 := Lib.hid (K0.out.blw hb2)
      have K1 := Lib.hid (K1.out.blw hb2)
      have BA := Lib.hid (belI_step BA.out hb2)
      clear hb2
      have kk := K0.out
      have m0 := cell_of_row w2 (W.heap.size) 0 _ _ _ kk
      have m1 := cell_of_row w2 (W.heap.size) 1 _ _ _ kk
      have m2 := cell_of_row w2 (W.heap.size) 2 _ _ _ kk
      have m3 := cell_of_row w2 (W.heap.size) 3 _ _ _ kk
      have m4 := cell_of_row w2 (W.heap.size) 4 _ _ _ kk
      have m5 := cell_of_row w2 (W.heap.size) 5 _ _ _ kk
      have m6 := cell_of_row w2 (W.heap.size) 6 _ _ _ kk
      have m7 := cell_of_row w2 (W.heap.size) 7 _ _ _ kk
      clear kk
      have kk := K1.out
      have n0 := cell_of_row w2 (W.heap.size + 1) 0 _ _ _ kk
      have n1 := cell_of_row w2 (W.heap.size + 1) 1 _ _ _ kk
      have n2 := cell_of_row w2 (W.heap.size + 1) 2 _ _ _ kk
      have n3 := cell_of_row w2 (W.heap.size + 1) 3 _ _ _ kk
      have n4 := cell_of_row w2 (W.heap.size + 1) 4 _ _ _ kk
      have n5 := cell_of_row w2 (W.heap.size + 1) 5 _ _ _ kk
      have n6 := cell_of_row w2 (W.heap.size + 1) 6 _ _ _ kk
      clear kk
      cases b2
      · go_wp2
        go_ret
        exact ⟨ret_b Z.out.symm, BA.out⟩
      by_cases hu : l.length ≤ 100
      · have e1 : decide (l.length ≤ 100) = true := decide_eq_true hu
        rw [e1] at Z
        have gu : (l.length : Int) ≤ 100 := by omega
        by_cases hd : d.length ≤ 65536
        · have e2 : decide (d.length ≤ 65536) = true := decide_eq_true hd
          rw [e2] at Z
          have gd : (d.length : Int) ≤ 65536 := by omega
          clear e1 e2 hu hd
          go_wp2_with fail
          refine (HI.out _ (HB.out.trans (BA.out.mono hB)) (Nat.le_trans hB BA.out.size)).mono ?_
          rintro e w3 ⟨rfl, hb3⟩
          have BA := Lib.hid (belI_step BA.out hb3)
          clear hb3
          go_wp2
          go_ret
          exact ⟨ret_b (by rw [Z.out]; rfl), BA.out⟩
        · have e2 : decide (d.length ≤ 65536) = false := decide_eq_false hd
          rw [e2] at Z
          have gd : ¬ ((d.length : Int) ≤ 65536) := by omega
          clear e1 e2 hu hd
          go_wp2
          go_ret
          exact ⟨ret_b (by rw [Z.out]; rfl), BA.out⟩
      · have e1 : decide (l.length ≤ 100) = false := decide_eq_false hu
        rw [e1] at Z
        have gu : ¬ ((l.length : Int) ≤ 100) := by omega
        clear e1 hu
        go_wp2
        go_ret
        exact ⟨ret_b (by rw [Z.out]; rfl), BA.out⟩
    · rw [decide_eq_false (by omega)] at Z
      go_enter Tryz.func214, Tryz.ntmps214
      go_wp2
      go_ret
      exact ⟨ret_b (by rw [Z.out]; rfl), BA.out⟩
  · rw [decide_eq_false (by omega)] at Z
    go_enter Tryz.func214, Tryz.ntmps214
    go_wp2
    go_ret
    exact ⟨ret_b (by rw [Z.out]; rfl), BA.out⟩
set_option maxRecDepth 100000 in
set_option maxHeartbeats 8000000 in
theorem wiresI_any (B : Nat) (w0 : World) (xs : List Wi) (u : Value) (h : WiIn (· < B) w0 u xs) (big : ∀ i, i < xs.length → WBig (xs.getD i default)) (cv : Value) (rp : List UInt8) (uv rv : Value) (now next : Int) (lv : Value) (W : World) (hb : Below B w0 W) (hB : B ≤ W.heap.size) :
    Calls Tryz.prog 137 #[rawP cv rp uv rv now next lv u] W fun e w' => e = .returned (.bool (decide (xs.length ≤ 4096) && xs.all (wiB now next))) ∧ Below W.heap.size W w' := by
  obtain ⟨a, cap, b, off, us, rfl, hcap, hm, hlen, ha, hc⟩ := h
  have HC := Lib.hid hc
  have HA := Lib.hid ha
  have HB := Lib.hid hb
  have HG := Lib.hid big
  clear hc ha hlen hb big
  have BA := Lib.hid ((Below.refl W.heap.size W).alloc (Nat.le_refl _) (.cells #[cv, .string ⟨rp.toArray⟩, uv, rv, .int .i64 now, .int .i64 next, lv, .slice a xs.length cap] 41))
  have K := Lib.hid (Hd.new W (.cells #[cv, .string ⟨rp.toArray⟩, uv, rv, .int .i64 now, .int .i64 next, lv, .slice a xs.length cap] 41))
  by_cases h5 : 4096 < xs.length
  · have Z := Lib.hid (show (decide (xs.length ≤ 4096) && xs.all (wiB now next)) = false by rw [decide_eq_false (by omega)]; rfl)
    have g1 : (4096 : Int) < (xs.length : Int) := by omega
    clear K
    go_enter Tryz.func137, Tryz.ntmps137
    go_wp2
    go_ret
    exact ⟨ret_b Z.out.symm, BA.out⟩
  · have Z := Lib.hid (show (decide (xs.length ≤ 4096) && xs.all (wiB now next)) = xs.all (wiB now next) by rw [decide_eq_true (by omega)]; rfl)
    have g1 : ¬ ((4096 : Int) < (xs.length : Int)) := by omega
    go_enter Tryz.func137, Tryz.ntmps137
    go_wp2
    go_loopw [12] (fun i wr => ∃ k : Nat, k ≤ xs.length ∧ i = .int .i64 k ∧ xs.all (wiB now next) = (xs.drop k).all (wiB now next) ∧ Hd wr W.heap.size (.cells #[cv, .string ⟨rp.toArray⟩, uv, rv, .int .i64 now, .int .i64 next, lv, .slice a xs.length cap] 41) ∧ Below W.heap.size W wr) (fun i _ => xs.length - (intOf i).toNat)
    case atStart => exact ⟨0, by omega, rfl, rfl, K.out, BA.out⟩
    case round =>
      obtain ⟨k, hk, rfl, hE, hK, hR⟩ := hrel
      have HE := Lib.hid hE
      have HK := Lib.hid hK
      have hW := HB.out.trans (hR.mono hB)
      have hzr := hR.size
      have HR := Lib.hid hR
      clear hE hK hR
      by_cases hlt : k < xs.length
      · obtain ⟨ea, hlb⟩ := HA.out (by omega)
        subst ea
        obtain ⟨c0, c1, c2, c3, c4, c5, c6, cN⟩ := HC.out k hlt
        have q0 := (hW.cell (p := ⟨b, off + k * 7, none⟩) hlb).trans c0
        have q1 := (hW.cell (p := ⟨b, off + k * 7 + 1, none⟩) hlb).trans c1
        have q2 := (hW.cell (p := ⟨b, off + k * 7 + 2, none⟩) hlb).trans c2
        have q3 := (hW.cell (p := ⟨b, off + k * 7 + 3, none⟩) hlb).trans c3
        have q4 := (hW.cell (p := ⟨b, off + k * 7 + 4, none⟩) hlb).trans c4
        have q5 := (hW.cell (p := ⟨b, off + k * 7 + 5, none⟩) hlb).trans c5
        have q6 := (hW.cell (p := ⟨b, off + k * 7 + 6, none⟩) hlb).trans c6
        have D := Lib.hid (allW_drop (wiB now next) k hlt)
        have HK2 := Lib.hid (fun (W' : World) (h : Below wr.heap.size wr W') => wireI_any cv rp uv rv now next lv (.slice (some ⟨b, off, none⟩) xs.length cap) B w0 (xs.getD k default) (us k) cN (HG.out k hlt) W' (hW.trans (h.mono (by omega))) (by have := h.size; omega))
        have hd2 : b < wr.heap.size := by omega
        clear c0 c1 c2 c3 c4 c5 c6 hW
        generalize us k = uu at *
        generalize xs.getD k default = x at *
        obtain ⟨u_id⟩ := uu
        obtain ⟨a1, l1, c1, rfl⟩ : ∃ a l c, u_id = .slice a l c := cN.id.slice
        clear cN
        obtain ⟨t, s, g, l, ns, d, z⟩ := x
        simp only at q0 q1 q2 q3 q5 q6
        generalize wiB now next ⟨t, s, g, l, ns, d, z⟩ = rb at *
        have HBR := Lib.hid ((Below.refl wr.heap.size wr).alloc (Nat.le_refl _) (.cells #[.int .i64 t, .int .i64 s, .string ⟨g.toArray⟩, .string ⟨l.toArray⟩, .slice a1 l1 c1, .string ⟨d.toArray⟩, .bool z] 142))
        have KA := Lib.hid (HK.out.al (.cells #[.int .i64 t, .int .i64 s, .string ⟨g.toArray⟩, .string ⟨l.toArray⟩, .slice a1 l1 c1, .string ⟨d.toArray⟩, .bool z] 142))
        have KX := Lib.hid (Hd.new wr (.cells #[.int .i64 t, .int .i64 s, .string ⟨g.toArray⟩, .string ⟨l.toArray⟩, .slice a1 l1 c1, .string ⟨d.toArray⟩, .bool z] 142))
        have kk := KA.out
        have m0 := cell_of_row _ (W.heap.size) 0 _ _ _ kk
        have m1 := cell_of_row _ (W.heap.size) 1 _ _ _ kk
        have m2 := cell_of_row _ (W.heap.size) 2 _ _ _ kk
        have m3 := cell_of_row _ (W.heap.size) 3 _ _ _ kk
        have m4 := cell_of_row _ (W.heap.size) 4 _ _ _ kk
        have m5 := cell_of_row _ (W.heap.size) 5 _ _ _ kk
        have m6 := cell_of_row _ (W.heap.size) 6 _ _ _ kk
        have m7 := cell_of_row _ (W.heap.size) 7 _ _ _ kk
        clear kk
        go_wp2_with fail
        refine (HK2.out _ HBR.out).mono ?_
        rintro e w2 ⟨rfl, hb2⟩
        have hbw2 : Below wr.heap.size wr w2 := HBR.out.trans (hb2.mono (by simp))
        have B2 := Lib.hid (belI_step HR.out hbw2)
        have K2 := Lib.hid (HK.out.blw hbw2)
        clear hb2 hbw2 m0 m1 m2 m3 m4 m5 m6 m7
        cases rb
        · go_wp2
          go_ret
          exact ⟨ret_b (by rw [Z.out, HE.out, D.out]; rfl), B2.out⟩
        · go_wp2
          go_roundw
          case rel => exact ⟨k + 1, by omega, by go_num, by rw [HE.out, D.out]; rfl, K2.out, B2.out⟩
          case measure => simp [intOf]; omega
      · obtain rfl : k = xs.length := by omega
        go_wp2
        go_ret
        exact ⟨ret_b (by rw [Z.out, HE.out, List.drop_length]; rfl), HR.out⟩
set_option maxRecDepth 100000 in
set_option maxHeartbeats 8000000 in
theorem logI_any (B : Nat) (w0 : World) (xs : List En) (u : Value) (h : EnIn (· < B) w0 u xs) (cv : Value) (rp : List UInt8) (uv rv : Value) (now next : Int) (wv : Value) (W : World) (hb : Below B w0 W) (hB : B ≤ W.heap.size) :
    Calls Tryz.prog 136 #[rawP cv rp uv rv now next u wv] W fun e w' => e = .returned (.bool (decide (xs.length ≤ 4096) && loB now next 0 xs)) ∧ Below W.heap.size W w' := by
  obtain ⟨a, cap, b, off, rfl, hcap, hm, -, ha, hc⟩ := h
  have HC := Lib.hid hc
  have HA := Lib.hid ha
  have HB := Lib.hid hb
  clear hc ha hb
  have BA := Lib.hid ((Below.refl W.heap.size W).alloc (Nat.le_refl _) (.cells #[cv, .string ⟨rp.toArray⟩, uv, rv, .int .i64 now, .int .i64 next, .slice a xs.length cap, wv] 41))
  have K := Lib.hid (Hd.new W (.cells #[cv, .string ⟨rp.toArray⟩, uv, rv, .int .i64 now, .int .i64 next, .slice a xs.length cap, wv] 41))
  by_cases h5 : 4096 < xs.length
  · have Z := Lib.hid (show (decide (xs.length ≤ 4096) && loB now next 0 xs) = false by rw [decide_eq_false (by omega)]; rfl)
    have g1 : (4096 : Int) < (xs.length : Int) := by omega
    clear K
    go_enter Tryz.func136, Tryz.ntmps136
    go_wp2
    go_ret
    exact ⟨ret_b Z.out.symm, BA.out⟩
  · have Z := Lib.hid (show (decide (xs.length ≤ 4096) && loB now next 0 xs) = loB now next 0 xs by rw [decide_eq_true (by omega)]; rfl)
    have g1 : ¬ ((4096 : Int) < (xs.length : Int)) := by omega
    go_enter Tryz.func136, Tryz.ntmps136
    go_wp2
    go_loopw [3, 13] (fun l i wr => ∃ (k : Nat) (e : Int), k ≤ xs.length ∧ l = .int .i64 e ∧ i = .int .i64 k ∧ loB now next 0 xs = loB now next e (xs.drop k) ∧ Hd wr W.heap.size (.cells #[cv, .string ⟨rp.toArray⟩, uv, rv, .int .i64 now, .int .i64 next, .slice a xs.length cap, wv] 41) ∧ Below W.heap.size W wr) (fun _ i _ => xs.length - (intOf i).toNat)
    case atStart => exact ⟨0, 0, by omega, rfl, rfl, rfl, K.out, BA.out⟩
    case round =>
      obtain ⟨k, e, hk, rfl, rfl, hE, hK, hR⟩ := hrel
      have HE := Lib.hid hE
      have HK := Lib.hid hK
      have hW := HB.out.trans (hR.mono hB)
      have HR := Lib.hid hR
      clear hE hK hR
      by_cases hlt : k < xs.length
      · obtain ⟨ea, hlb⟩ := HA.out (by omega)
        subst ea
        obtain ⟨c0, c1, c2⟩ := HC.out k hlt
        have q0 := (hW.cell (p := ⟨b, off + k * 3, none⟩) hlb).trans c0
        have q1 := (hW.cell (p := ⟨b, off + k * 3 + 1, none⟩) hlb).trans c1
        have q2 := (hW.cell (p := ⟨b, off + k * 3 + 2, none⟩) hlb).trans c2
        have D := Lib.hid (loB_drop now next e k hlt)
        have hd2 : b < wr.heap.size := Nat.lt_of_lt_of_le hlb (Nat.le_trans hB HR.out.size)
        clear c0 c1 c2 hW
        generalize xs.getD k default = x at *
        obtain ⟨kd, id, tm⟩ := x
        simp only at q0 q1 q2 D
        have HF := Lib.hid (fun W' => fateI_any kd W')
        have HW := Lib.hid (fun W' => wasI_any cv rp uv rv now next (.slice (some ⟨b, off, none⟩) xs.length cap) wv id W')
        have EB := Lib.hid (show enB now next e ⟨kd, id, tm⟩ = (decide (1 ≤ kd ∧ kd ≤ 7) && (decide (1 ≤ id ∧ id ≤ next - 1) && (decide (e ≤ tm) && decide (tm ≤ now)))) from rfl)
        generalize decide (1 ≤ kd ∧ kd ≤ 7) = b1 at *
        generalize decide (1 ≤ id ∧ id ≤ next - 1) = b2 at *
        generalize enB now next e ⟨kd, id, tm⟩ = eb at *
        have BR := Lib.hid (belI_alloc (o := (.cells #[.int .i64 kd, .int .i64 id, .int .i64 tm] 107)) HR.out)
        have KA := Lib.hid (HK.out.al (.cells #[.int .i64 kd, .int .i64 id, .int .i64 tm] 107))
        have KX := Lib.hid (Hd.new wr (.cells #[.int .i64 kd, .int .i64 id, .int .i64 tm] 107))
        have kk := KA.out
        have m0 := cell_of_row _ (W.heap.size) 0 _ _ _ kk
        have m1 := cell_of_row _ (W.heap.size) 1 _ _ _ kk
        have m2 := cell_of_row _ (W.heap.size) 2 _ _ _ kk
        have m3 := cell_of_row _ (W.heap.size) 3 _ _ _ kk
        have m4 := cell_of_row _ (W.heap.size) 4 _ _ _ kk
        have m5 := cell_of_row _ (W.heap.size) 5 _ _ _ kk
        have m6 := cell_of_row _ (W.heap.size) 6 _ _ _ kk
        have m7 := cell_of_row _ (W.heap.size) 7 _ _ _ kk
        clear kk
        go_wp2_with fail
        refine (HF.out _).mono ?_
        rintro e2 wx ⟨rfl, rfl⟩
        cases b1
        · go_wp2
          go_ret
          exact ⟨ret_b (by rw [Z.out, HE.out, D.out, EB.out]; rfl), BR.out⟩
        go_wp2_with fail
        refine (HW.out _).mono ?_
        rintro e2 w2 ⟨rfl, hb2⟩
        have B2 := Lib.hid (belI_step BR.out hb2)
        have K2 := Lib.hid (KA.out.blw hb2)
        have KX2 := Lib.hid (KX.out.blw hb2)
        clear hb2 m0 m1 m2 m3 m4 m5 m6 m7
        have kk := K2.out
        have m0 := cell_of_row w2 (W.heap.size) 0 _ _ _ kk
        have m1 := cell_of_row w2 (W.heap.size) 1 _ _ _ kk
        have m2 := cell_of_row w2 (W.heap.size) 2 _ _ _ kk
        have m3 := cell_of_row w2 (W.heap.size) 3 _ _ _ kk
        have m4 := cell_of_row w2 (W.heap.size) 4 _ _ _ kk
        have m5 := cell_of_row w2 (W.heap.size) 5 _ _ _ kk
        have m6 := cell_of_row w2 (W.heap.size) 6 _ _ _ kk
        have m7 := cell_of_row w2 (W.heap.size) 7 _ _ _ kk
        clear kk
        have kk := KX2.out
        have n0 := cell_of_row w2 (wr.heap.size) 0 _ _ _ kk
        have n1 := cell_of_row w2 (wr.heap.size) 1 _ _ _ kk
        have n2 := cell_of_row w2 (wr.heap.size) 2 _ _ _ kk
        clear kk
        cases b2
        · go_wp2
          go_ret
          exact ⟨ret_b (by rw [Z.out, HE.out, D.out, EB.out]; rfl), B2.out⟩
        by_cases h1 : tm < e
        · have G := Lib.hid (show eb = false by rw [EB.out, decide_eq_false (p := e ≤ tm) (by omega)]; rfl)
          go_wp2
          go_ret
          exact ⟨ret_b (by rw [Z.out, HE.out, D.out, G.out]; rfl), B2.out⟩
        by_cases h2 : now < tm
        · have G := Lib.hid (show eb = false by rw [EB.out, decide_eq_false (p := tm ≤ now) (by omega), Bool.and_false]; rfl)
          go_wp2
          go_ret
          exact ⟨ret_b (by rw [Z.out, HE.out, D.out, G.out]; rfl), B2.out⟩
        have G := Lib.hid (show eb = true by rw [EB.out, decide_eq_true (p := tm ≤ now) (by omega), decide_eq_true (p := e ≤ tm) (by omega)]; rfl)
        go_wp2
        go_roundw
        case rel => exact ⟨k + 1, tm, by omega, rfl, by go_num, by rw [HE.out, D.out, G.out]; rfl, K2.out, B2.out⟩
        case measure => simp [intOf]; omega
      · obtain rfl : k = xs.length := by omega
        go_wp2
        go_ret
        exact ⟨ret_b (by rw [Z.out, HE.out, List.drop_length]; rfl), HR.out⟩
set_option maxRecDepth 100000 in
set_option maxHeartbeats 8000000 in
theorem ppI_any (B : Nat) (w0 : World) (p : Pp) (u : PV) (h : PpN (· < B) w0 u p) (sm : Sm p) (W : World) (hb : Below B w0 W) (hB : B ≤ W.heap.size) (hT : Tab W) (hM : MaxL W) :
    Calls Tryz.prog 67 #[pV8 p u] W fun e w' => e = .returned (.bool (ppB p)) ∧ Below W.heap.size W w' := by
  obtain ⟨chs, ⟨rp, uris, rules⟩, now, next, log, ws⟩ := p
  obtain ⟨u1, u2, u3, u4, u5⟩ := u
  obtain ⟨h1, h2, h3, h4, h5⟩ := h
  obtain ⟨s1, s2, s3, s4⟩ := sm
  simp only at h1 h2 h3 h4 h5 s2 s3 s4
  have H1 := Lib.hid (fun W' => Qu.nowI_any now W')
  have H2 := Lib.hid (fun W' => Qu.idI_any next W')
  have H3 := Lib.hid (fun W' a b c d => Po.polI_any B w0 ⟨rp, uris, rules⟩ u2 u3 h2 h3 s2 W' a b c d)
  have H4 := Lib.hid (fun W' a b c d => chansI_any B w0 chs u1 h1 s3 rp u2 u3 now next u4 u5 W' a b c d)
  have H5 := Lib.hid (fun W' a b => logI_any B w0 log u4 h4 u1 rp u2 u3 now next u5 W' a b)
  have H6 := Lib.hid (fun W' a b => wiresI_any B w0 ws u5 h5 s4 u1 rp u2 u3 now next u4 W' a b)
  have HB := Lib.hid hb
  have HT := Lib.hid hT
  have HM := Lib.hid hM
  obtain ⟨a1, l1, c1, rfl⟩ := h1.slice
  obtain ⟨a2, l2, c2, rfl⟩ := h2.slice
  obtain ⟨a3, l3, c3, rfl⟩ := h3.slice
  obtain ⟨a4, l4, c4, rfl⟩ := h4.slice
  obtain ⟨a5, l5, c5, rfl⟩ := h5.slice
  clear h1 h2 h3 h4 h5 hb hT hM s1 s2 s3 s4
  have Z := Lib.hid (show ppB ⟨chs, ⟨rp, uris, rules⟩, now, next, log, ws⟩ = (decide (0 ≤ now ∧ now ≤ 1000000) && (decide (1 ≤ next ∧ next ≤ 1000000) && (Po.plB ⟨rp, uris, rules⟩ && ((decide (chs.length ≤ 5) && chsB now next [] chs) && ((decide (log.length ≤ 4096) && loB now next 0 log) && (decide (ws.length ≤ 4096) && ws.all (wiB now next))))))) from rfl)
  generalize decide (0 ≤ now ∧ now ≤ 1000000) = b1 at *
  generalize decide (1 ≤ next ∧ next ≤ 1000000) = b2 at *
  generalize Po.plB ⟨rp, uris, rules⟩ = b3 at *
  generalize (decide (chs.length ≤ 5) && chsB now next [] chs) = b4 at *
  generalize (decide (log.length ≤ 4096) && loB now next 0 log) = b5 at *
  generalize (decide (ws.length ≤ 4096) && ws.all (wiB now next)) = b6 at *
  generalize ppB ⟨chs, ⟨rp, uris, rules⟩, now, next, log, ws⟩ = r at *
  have BA := Lib.hid ((Below.refl W.heap.size W).alloc (Nat.le_refl _) (.cells #[.slice a1 l1 c1, .string ⟨rp.toArray⟩, .slice a2 l2 c2, .slice a3 l3 c3, .int .i64 now, .int .i64 next, .slice a4 l4 c4, .slice a5 l5 c5] 41))
  have K := Lib.hid (Hd.new W (.cells #[.slice a1 l1 c1, .string ⟨rp.toArray⟩, .slice a2 l2 c2, .slice a3 l3 c3, .int .i64 now, .int .i64 next, .slice a4 l4 c4, .slice a5 l5 c5] 41))
  go_enter Tryz.func67, Tryz.ntmps67
  go_wp2_with fail
  refine (H1.out _).mono ?_
  rintro e wx ⟨rfl, rfl⟩
  cases b1
  · go_wp2
    go_ret
    exact ⟨ret_b Z.out.symm, BA.out⟩
  go_wp2_with fail
  refine (H2.out _).mono ?_
  rintro e wx ⟨rfl, rfl⟩
  cases b2
  · go_wp2
    go_ret
    exact ⟨ret_b Z.out.symm, BA.out⟩
  go_wp2_with fail
  refine (H3.out _ (HB.out.trans (BA.out.mono hB)) (Nat.le_trans hB BA.out.size) (HT.out.below BA.out) (HM.out.below BA.out)).mono ?_
  rintro e v0 ⟨rfl, hb2⟩
  have K := Lib.hid (K.out.blw hb2)
  have BA := Lib.hid (belI_step BA.out hb2)
  clear hb2
  have kk := K.out
  have m0 := cell_of_row v0 (W.heap.size) 0 _ _ _ kk
  have m1 := cell_of_row v0 (W.heap.size) 1 _ _ _ kk
  have m2 := cell_of_row v0 (W.heap.size) 2 _ _ _ kk
  have m3 := cell_of_row v0 (W.heap.size) 3 _ _ _ kk
  have m4 := cell_of_row v0 (W.heap.size) 4 _ _ _ kk
  have m5 := cell_of_row v0 (W.heap.size) 5 _ _ _ kk
  have m6 := cell_of_row v0 (W.heap.size) 6 _ _ _ kk
  have m7 := cell_of_row v0 (W.heap.size) 7 _ _ _ kk
  clear kk
  cases b3
  · go_wp2
    go_ret
    exact ⟨ret_b Z.out.symm, BA.out⟩
  go_wp2_with fail
  refine (H4.out _ (HB.out.trans (BA.out.mono hB)) (Nat.le_trans hB BA.out.size) (HT.out.below BA.out) (HM.out.below BA.out)).mono ?_
  rintro e v1 ⟨rfl, hb2⟩
  clear m0 m1 m2 m3 m4 m5 m6 m7
  have K := Lib.hid (K.out.blw hb2)
  have BA := Lib.hid (belI_step BA.out hb2)
  clear hb2
  have kk := K.out
  have m0 := cell_of_row v1 (W.heap.size) 0 _ _ _ kk
  have m1 := cell_of_row v1 (W.heap.size) 1 _ _ _ kk
  have m2 := cell_of_row v1 (W.heap.size) 2 _ _ _ kk
  have m3 := cell_of_row v1 (W.heap.size) 3 _ _ _ kk
  have m4 := cell_of_row v1 (W.heap.size) 4 _ _ _ kk
  have m5 := cell_of_row v1 (W.heap.size) 5 _ _ _ kk
  have m6 := cell_of_row v1 (W.heap.size) 6 _ _ _ kk
  have m7 := cell_of_row v1 (W.heap.size) 7 _ _ _ kk
  clear kk
  cases b4
  · go_wp2
    go_ret
    exact ⟨ret_b Z.out.symm, BA.out⟩
  go_wp2_with fail
  refine (H5.out _ (HB.out.trans (BA.out.mono hB)) (Nat.le_trans hB BA.out.size)).mono ?_
  rintro e v2 ⟨rfl, hb2⟩
  clear m0 m1 m2 m3 m4 m5 m6 m7
  have K := Lib.hid (K.out.blw hb2)
  have BA := Lib.hid (belI_step BA.out hb2)
  clear hb2
  have kk := K.out
  have m0 := cell_of_row v2 (W.heap.size) 0 _ _ _ kk
  have m1 := cell_of_row v2 (W.heap.size) 1 _ _ _ kk
  have m2 := cell_of_row v2 (W.heap.size) 2 _ _ _ kk
  have m3 := cell_of_row v2 (W.heap.size) 3 _ _ _ kk
  have m4 := cell_of_row v2 (W.heap.size) 4 _ _ _ kk
  have m5 := cell_of_row v2 (W.heap.size) 5 _ _ _ kk
  have m6 := cell_of_row v2 (W.heap.size) 6 _ _ _ kk
  have m7 := cell_of_row v2 (W.heap.size) 7 _ _ _ kk
  clear kk
  cases b5
  · go_wp2
    go_ret
    exact ⟨ret_b Z.out.symm, BA.out⟩
  go_wp2_with fail
  refine (H6.out _ (HB.out.trans (BA.out.mono hB)) (Nat.le_trans hB BA.out.size)).mono ?_
  rintro e v3 ⟨rfl, hb2⟩
  clear m0 m1 m2 m3 m4 m5 m6 m7
  have K := Lib.hid (K.out.blw hb2)
  have BA := Lib.hid (belI_step BA.out hb2)
  clear hb2
  have kk := K.out
  have m0 := cell_of_row v3 (W.heap.size) 0 _ _ _ kk
  have m1 := cell_of_row v3 (W.heap.size) 1 _ _ _ kk
  have m2 := cell_of_row v3 (W.heap.size) 2 _ _ _ kk
  have m3 := cell_of_row v3 (W.heap.size) 3 _ _ _ kk
  have m4 := cell_of_row v3 (W.heap.size) 4 _ _ _ kk
  have m5 := cell_of_row v3 (W.heap.size) 5 _ _ _ kk
  have m6 := cell_of_row v3 (W.heap.size) 6 _ _ _ kk
  have m7 := cell_of_row v3 (W.heap.size) 7 _ _ _ kk
  clear kk
  go_wp2
  go_ret
  exact ⟨ret_b (by rw [Z.out]; rfl), BA.out⟩
end Go.Proofs.YtmaknkbmilcanaaGreatDoor.Pi
