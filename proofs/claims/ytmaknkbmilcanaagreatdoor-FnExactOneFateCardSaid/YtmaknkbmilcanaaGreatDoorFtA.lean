
/-
  Own rows of Ids and of entries; the model's functions on fates, walked. (Made by fta.py.)
-/
import Derived.Test.YtmaknkbmilcanaaGreatDoorFtP
import Derived.Test.YtmaknkbmilcanaaGreatDoorApp
namespace Go.Proofs.YtmaknkbmilcanaaGreatDoor.Ft
open Go.RowKit
open Go.Proofs.YtmaknkbmilcanaaGreatDoor.Tx (TxtsIn ret_b)
open Go.Proofs.YtmaknkbmilcanaaGreatDoor.Gr (Tg Gp TgIn ret_i)
open Go.Proofs.YtmaknkbmilcanaaGreatDoor.Pe (Pr PrIn)
open Go.Proofs.YtmaknkbmilcanaaGreatDoor.Qu (Rep Q RpIn IntsIn OI Hd intV)
open Go.Proofs.YtmaknkbmilcanaaGreatDoor.Po (Pl RlIn)
open Go.Proofs.YtmaknkbmilcanaaGreatDoor.Gr (belI_step belI_alloc)
open Go.Proofs.YtmaknkbmilcanaaGreatDoor.Pi (Cn En Wi Pp EnIn WiIn CnIn PpN PV pV8 ppV eV)

open Go.Proofs.YtmaknkbmilcanaaGreatDoor.Mk (below_grownBy own_slice own_base)

/-- a pipe by its cells -/
abbrev rawP (cv : Value) (rp : List UInt8) (uv rv : Value) (now next : Int) (lv wv : Value) : Value := .agg #[cv, .string ⟨rp.toArray⟩, uv, rv, .int .i64 now, .int .i64 next, lv, wv]
theorem one_row3 (w : World) (a b c : Value) (T : TypeId) (j : Nat) (u : Value) (h : [a, b, c][j]? = some u) : (w.alloc (.cells #[a, b, c] T)).cell? ((⟨w.heap.size, 0, none⟩ : Addr).add j) = some u := by
  have e : ((⟨w.heap.size, 0, none⟩ : Addr).add j) = ⟨w.heap.size, j, none⟩ := by simp [Addr.add]; omega
  rw [e]
  have hk := Hd.new w (.cells #[a, b, c] T)
  have hj : j < 3 := by have := (List.getElem?_eq_some_iff.1 h).1; simpa using this
  simp only [World.cell?, show (w.alloc (.cells #[a, b, c] T)).heap[w.heap.size]? = _ from hk]
  simpa using h
theorem own_al {w : World} {B s n : Nat} {T : TypeId} {v : Value} {xs : List Value} (h : w.ownsRow B T s v n xs) (o : Obj) : (w.alloc o).ownsRow B T s v n xs :=
  h.kept (below_grownBy ((Below.refl w.heap.size w).alloc (Nat.le_refl _) o) none) (by cases v.ownBlock <;> simp)
theorem own_blw {w w' : World} {B s n : Nat} {T : TypeId} {v : Value} {xs : List Value} (h : w.ownsRow B T s v n xs) (hb : Below w.heap.size w w') : w'.ownsRow B T s v n xs :=
  h.kept (below_grownBy hb none) (by cases v.ownBlock <;> simp)
theorem one_int (a : Int) : ∀ u ∈ [Value.int .i64 a], u.oneCell' = true := by
  intro u hu
  rw [List.mem_singleton.1 hu]
  rfl
theorem OI_made (W : World) : OI (W.alloc (.cells #[] 3)) W.heap.size (.slice (some ⟨W.heap.size, 0, none⟩) 0 0) [] := World.ownsRow_made W #[] 0 (Nat.le_refl _) (by decide) rfl
theorem oi_snoc {w : World} {base : Nat} {v : Value} {ds : List Int} {x : Int} (h : w.ownsRow base 3 1 v (ds.length + 1) (intV ds ++ [.int .i64 x])) : OI w base v (ds ++ [x]) := by
  unfold OI
  simpa [intV] using h
/-! ### a row of entries of the call's own -/
def enC : List En → List Value
  | [] => []
  | t :: r => .int .i64 t.kind :: .int .i64 t.id :: .int .i64 t.tm :: enC r
theorem enC_app : ∀ a b : List En, enC (a ++ b) = enC a ++ enC b
  | [], b => rfl
  | t :: r, b => by simp [enC, enC_app r b]
theorem enC_get : ∀ (ts : List En) (i : Nat), i < ts.length → (enC ts)[i * 3]? = some (.int .i64 (ts.getD i default).kind) ∧ (enC ts)[i * 3 + 1]? = some (.int .i64 (ts.getD i default).id) ∧ (enC ts)[i * 3 + 2]? = some (.int .i64 (ts.getD i default).tm)
  | [], i, h => by simp at h
  | t :: r, 0, _ => ⟨rfl, rfl, rfl⟩
  | t :: r, i + 1, h => by
    have ih := enC_get r i (by simpa using h)
    have e : (i + 1) * 3 = i * 3 + 1 + 1 + 1 := by omega
    rw [e]
    simpa [enC] using ih
def OE (w : World) (base : Nat) (v : Value) (ts : List En) : Prop := w.ownsRow base 107 3 v ts.length (enC ts)
theorem OE.nil (w : World) (a : Nat) : OE w a (.slice none 0 0) [] := World.ownsRow_nil _ _ _ _
theorem OE.made (W : World) : OE (W.alloc (.cells #[] 107)) W.heap.size (.slice (some ⟨W.heap.size, 0, none⟩) 0 0) [] := World.ownsRow_made W #[] 0 (Nat.le_refl _) (by decide) rfl
theorem OE.below {w w' : World} {base : Nat} {v : Value} {ts : List En} (h : OE w base v ts) (hb : Below w.heap.size w w') : OE w' base v ts := own_blw h hb
theorem OE.slice {w : World} {base : Nat} {v : Value} {ts : List En} (h : OE w base v ts) : ∃ a c, v = .slice a ts.length c := own_slice h
theorem OE.en {w : World} {base : Nat} {v : Value} {ts : List En} (h : OE w base v ts) : EnIn (fun b => base ≤ b ∧ b < w.heap.size) w v ts := by
  obtain ⟨-, h⟩ := h
  rcases h with ⟨rfl, h0⟩ | ⟨g, cap, cur, rfl, hbg, hg, hnc, hcm, hs, ht⟩
  · obtain rfl : ts = [] := List.eq_nil_of_length_eq_zero h0
    exact ⟨none, 0, 0, 0, rfl, by simp, by simp, by simp, by simp, by simp⟩
  · have hlt : g < w.heap.size := (Array.getElem?_eq_some_iff.1 hg).1
    refine ⟨some ⟨g, 0, none⟩, cap, g, 0, rfl, hnc, by unfold maxLen at hcm; omega, fun _ _ => trivial, fun _ => ⟨rfl, hbg, hlt⟩, fun i hi => ?_⟩
    obtain ⟨e0, e1, e2⟩ := enC_get ts i hi
    rw [← ht, List.getElem?_take_of_lt (by omega)] at e0 e1 e2
    simp only [Nat.zero_add]
    refine ⟨?_, ?_, ?_⟩ <;> simp [World.cell?, hg]
    · simpa using e0
    · simpa using e1
    · simpa using e2
theorem of_take {xs : List En} (id : Int) (k : Nat) (hx : k < xs.length) : ofId (xs.take (k + 1)) id = ofId (xs.take k) id ++ (if (xs.getD k default).id = id then [xs.getD k default] else []) := by
  rw [take_get xs k hx]
  unfold ofId
  rw [List.filter_append]
  generalize xs.getD k default = x
  by_cases e : x.id = id <;> simp [e]
theorem of_len (xs : List En) (id : Int) (k : Nat) : (ofId (xs.take k) id).length ≤ k := by
  unfold ofId
  have h1 := List.length_filter_le (fun x : En => decide (x.id = id)) (xs.take k)
  have h2 := List.length_take (l := xs) (i := k)
  omega
def NewI (W : World) (ds : List Int) (e : Ending) (w' : World) : Prop := ∃ v, e = .returned v ∧ OI w' W.heap.size v ds ∧ Below W.heap.size W w'
def NewE (W : World) (ds : List En) (e : Ending) (w' : World) : Prop := ∃ v, e = .returned v ∧ OE w' W.heap.size v ds ∧ Below W.heap.size W w'
set_option maxRecDepth 100000 in
set_option maxHeartbeats 2000000 in
theorem fateS_any (B : Nat) (w0 : World) (xs : List En) (u : Value) (h : EnIn (· < B) w0 u xs) (cv : Value) (rp : List UInt8) (uv rv : Value) (now next : Int) (wv : Value) (id : Int) (W : World) (hb : Below B w0 W) (hB : B ≤ W.heap.size) :
    Calls Tryz.prog 62 #[rawP cv rp uv rv now next u wv, .int .i64 id] W fun e w' => e = .returned (.int .i64 (fateB xs id xs.length)) ∧ Below W.heap.size W w' := by
  obtain ⟨a, cap, b, off, rfl, hcap, hm, -, ha, hc⟩ := h
  have HC := Lib.hid hc
  have HA := Lib.hid ha
  have HB := Lib.hid hb
  have hn : (xs.length : Int) ≤ 9223372036854775807 := by omega
  clear hc ha hb hcap hm
  have BA := Lib.hid ((Below.refl W.heap.size W).alloc (Nat.le_refl _) (.cells #[cv, .string ⟨rp.toArray⟩, uv, rv, .int .i64 now, .int .i64 next, .slice a xs.length cap, wv] 41))
  have K := Lib.hid (Hd.new W (.cells #[cv, .string ⟨rp.toArray⟩, uv, rv, .int .i64 now, .int .i64 next, .slice a xs.length cap, wv] 41))
  go_enter Tryz.func62, Tryz.ntmps62
  go_wp2
  go_loopw [5] (fun i wr => ∃ k : Nat, k ≤ xs.length ∧ i = .int .i64 ((k : Int) - 1) ∧ fateB xs id xs.length = fateB xs id k ∧ Hd wr W.heap.size (.cells #[cv, .string ⟨rp.toArray⟩, uv, rv, .int .i64 now, .int .i64 next, .slice a xs.length cap, wv] 41) ∧ Below W.heap.size W wr) (fun i _ => (intOf i + 1).toNat)
  case atStart => exact ⟨xs.length, Nat.le_refl _, rfl, rfl, K.out, BA.out⟩
  case round =>
    obtain ⟨k, hk, rfl, hE, hK, hR⟩ := hrel
    have HE := Lib.hid hE
    have HR := Lib.hid hR
    have m4 := cell_of_row _ (W.heap.size) 6 _ _ _ hK
    have HK := Lib.hid hK
    clear hE hR hK
    by_cases hp : 0 < k
    · obtain ⟨j, rfl⟩ : ∃ j, k = j + 1 := ⟨k - 1, by omega⟩
      have ej : ((j + 1 : Nat) : Int) - 1 = (j : Int) := by omega
      rw [ej]
      have hlt : j < xs.length := by omega
      obtain ⟨ea, hlb⟩ := HA.out (by omega)
      subst ea
      obtain ⟨c0, c1, c2⟩ := HC.out j hlt
      have hW := HB.out.trans (HR.out.mono hB)
      have q0 := (hW.cell (p := ⟨b, off + j * 3, none⟩) hlb).trans c0
      have q1 := (hW.cell (p := ⟨b, off + j * 3 + 1, none⟩) hlb).trans c1
      have D := Lib.hid (show fateB xs id (j + 1) = if (xs.getD j default).id = id then (xs.getD j default).kind else fateB xs id j from rfl)
      clear c0 c1 c2 hW
      generalize xs.getD j default = x at *
      obtain ⟨kd, xid, tm⟩ := x
      simp only at q0 q1 D
      by_cases he : xid = id
      · have F := Lib.hid (show fateB xs id xs.length = kd by rw [HE.out, D.out, if_pos he])
        have he1 : (xid == id) = true := by simp [he]
        clear HE D
        go_wp2
        go_ret
        exact ⟨ret_i F.out.symm, HR.out⟩
      · have F := Lib.hid (show fateB xs id xs.length = fateB xs id j by rw [HE.out, D.out, if_neg he])
        have he1 : (xid == id) = false := by simp [he]
        clear HE D
        go_wp2
        go_roundw
        case rel => exact ⟨j, by omega, by go_num, F.out, HK.out, HR.out⟩
        case measure => simp [intOf]
    · obtain rfl : k = 0 := by omega
      have ej : ((0 : Nat) : Int) - 1 = -1 := by omega
      rw [ej]
      go_wp2
      go_ret
      exact ⟨ret_i (by rw [HE.out]; rfl), HR.out⟩
set_option maxRecDepth 100000 in
set_option maxHeartbeats 2000000 in
theorem entriesS_any (B : Nat) (w0 : World) (xs : List En) (u : Value) (h : EnIn (· < B) w0 u xs) (hsz : xs.length ≤ 1048576) (cv : Value) (rp : List UInt8) (uv rv : Value) (now next : Int) (wv : Value) (id : Int) (W : World) (hb : Below B w0 W) (hB : B ≤ W.heap.size) :
    Calls Tryz.prog 72 #[rawP cv rp uv rv now next u wv, .int .i64 id] W (NewE W (ofId xs id)) := by
  obtain ⟨a, cap, b, off, rfl, hcap, hm, -, ha, hc⟩ := h
  have HC := Lib.hid hc
  have HA := Lib.hid ha
  have HB := Lib.hid hb
  have hn : (xs.length : Int) ≤ 9223372036854775807 := by omega
  clear hc ha hb hcap hm
  obtain ⟨i0, hi, hz0, hz1, hz2⟩ := info_parts Pi.Tryz.infoEn
  obtain ⟨W1, hW1⟩ : ∃ W1, W1 = W.alloc (.cells #[cv, .string ⟨rp.toArray⟩, uv, rv, .int .i64 now, .int .i64 next, .slice a xs.length cap, wv] 41) := ⟨_, rfl⟩
  have B1 := Lib.hid (show Below W.heap.size W W1 by rw [hW1]; exact (Below.refl W.heap.size W).alloc (Nat.le_refl _) _)
  have K1 := Lib.hid (show Hd W1 W.heap.size (.cells #[cv, .string ⟨rp.toArray⟩, uv, rv, .int .i64 now, .int .i64 next, .slice a xs.length cap, wv] 41) by rw [hW1]; exact Hd.new W _)
  have BA := Lib.hid (belI_alloc (o := .cells #[] 107) B1.out)
  have K := Lib.hid (K1.out.al (.cells #[] 107))
  have O0 := Lib.hid (show OE (W1.alloc (.cells #[] 107)) (W.heap.size + 1) (.slice (some ⟨W1.heap.size, 0, none⟩) 0 0) (ofId (xs.take 0) id) from own_base (OE.made W1) (K1.out.lt))
  go_enter Tryz.func72, Tryz.ntmps72
  go_upto_region 1 with fail
  rw [← hW1]
  clear hW1
  go_wp2
  go_loopw [5, 6] (fun v i wr => ∃ k : Nat, k ≤ xs.length ∧ i = .int .i64 k ∧ OE wr (W.heap.size + 1) v (ofId (xs.take k) id) ∧ Hd wr W.heap.size (.cells #[cv, .string ⟨rp.toArray⟩, uv, rv, .int .i64 now, .int .i64 next, .slice a xs.length cap, wv] 41) ∧ Below W.heap.size W wr) (fun _ i _ => xs.length - (intOf i).toNat)
  case atStart => exact ⟨0, by omega, rfl, O0.out, K.out, BA.out⟩
  case round =>
    obtain ⟨k, hk, rfl, hO, hK, hR⟩ := hrel
    have HR := Lib.hid hR
    have m4 := cell_of_row _ (W.heap.size) 6 _ _ _ hK
    have HK := Lib.hid hK
    have HO := Lib.hid hO
    clear hR hK hO
    by_cases hlt : k < xs.length
    · obtain ⟨ea, hlb⟩ := HA.out (by omega)
      subst ea
      obtain ⟨c0, c1, c2⟩ := HC.out k hlt
      have hW := HB.out.trans (HR.out.mono hB)
      have q0 := (hW.cell (p := ⟨b, off + k * 3, none⟩) hlb).trans c0
      have q1 := (hW.cell (p := ⟨b, off + k * 3 + 1, none⟩) hlb).trans c1
      have q2 := (hW.cell (p := ⟨b, off + k * 3 + 2, none⟩) hlb).trans c2
      have D := Lib.hid (of_take id k hlt)
      have hln := of_len xs id k
      clear c0 c1 c2 hW
      generalize xs.getD k default = x at *
      generalize ofId (xs.take k) id = ds at *
      obtain ⟨kd, xid, tm⟩ := x
      simp only at q0 q1 q2 D
      obtain ⟨a5, c5, rfl⟩ := HO.out.slice
      by_cases he : xid = id
      · subst he
        have he1 : (xid == xid) = true := by simp
        have F := Lib.hid (show ofId (xs.take (k + 1)) xid = ds ++ [⟨kd, xid, tm⟩] by rw [D.out, if_pos rfl])
        clear D
        have OA := Lib.hid (own_al HO.out (.cells #[.int .i64 kd, .int .i64 xid, .int .i64 tm] 107))
        have BA := Lib.hid (belI_alloc (o := .cells #[.int .i64 kd, .int .i64 xid, .int .i64 tm] 107) HR.out)
        have KA := Lib.hid (HK.out.al (.cells #[.int .i64 kd, .int .i64 xid, .int .i64 tm] 107))
        have z2 := HR.out.size
        have z3 := HK.out.lt
        go_wp2_with (at_builtin; refine App.wpList_app _ rfl _ _ 38 rfl (W.heap.size + 1) 107 i0 _ 3 24 Tryz.underlying38 hi hz0 hz1 hz2 rfl (by omega) _ ds.length (enC ds) rfl OA.out ⟨wr.heap.size, 0, none⟩ 1 _ [.int .i64 kd, .int .i64 xid, .int .i64 tm] rfl (by omega) rfl (one_row3 wr _ _ _ _) (by intro u hu; simp at hu; rcases hu with rfl | rfl | rfl <;> rfl) (by omega) (by omega) (by simp; omega) ?_; intro l' w4 hown' hgrow hplace; have O4 := Lib.hid (show OE w4 (W.heap.size + 1) l' (ds ++ [⟨kd, xid, tm⟩]) by unfold OE; rw [List.length_append, enC_app]; exact hown'); have B4 := Lib.hid (show Below W.heap.size W w4 from BA.out.grown hgrow (by simp; omega) (fun g e => by have := (World.ownsRow.lt OA.out g e).1; omega)); have K4 := Lib.hid (KA.out.grown hgrow (fun e => by have := (World.ownsRow.lt OA.out _ e.symm).1; omega)); obtain ⟨a7, c7, rfl⟩ := O4.out.slice; clear hown' hgrow hplace)
        go_roundw
        case rel => exact ⟨k + 1, by omega, by go_num, by rw [F.out]; simpa using O4.out, K4.out, B4.out⟩
        case measure => simp [intOf]; omega
      · have he1 : (xid == id) = false := by simp [he]
        have F := Lib.hid (show ofId (xs.take (k + 1)) id = ds by rw [D.out, if_neg he, List.append_nil])
        clear D
        go_wp2
        go_roundw
        case rel => exact ⟨k + 1, by omega, by go_num, by rw [F.out]; exact HO.out, HK.out, HR.out⟩
        case measure => simp [intOf]; omega
    · obtain rfl : k = xs.length := by omega
      have HF := Lib.hid (show NewE W (ofId xs id) (.returned u5) wr from ⟨_, rfl, by have := own_base HO.out (Nat.le_succ _); rwa [List.take_length] at this, HR.out⟩)
      obtain ⟨a5, c5, rfl⟩ := HO.out.slice
      clear HO
      go_wp2
      go_ret
      exact HF.out
end Go.Proofs.YtmaknkbmilcanaaGreatDoor.Ft
