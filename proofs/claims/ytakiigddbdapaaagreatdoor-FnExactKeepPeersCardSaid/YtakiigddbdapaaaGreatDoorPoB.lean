
/-
  PeersOf, the model's and the program's (by its KeepPeers of no old peers), walked.
-/
import Derived.Test.YtakiigddbdapaaaGreatDoorPoA
import Derived.Test.YtakiigddbdapaaaGreatDoorPeK
import Derived.Test.YtakiigddbdapaaaGreatDoorGrO
namespace Go.Proofs.YtakiigddbdapaaaGreatDoor.Pe
open Go.RowKit
open Go.Proofs.YtakiigddbdapaaaGreatDoor.Gr (Tg Gp TgIn tV gV gpB gpS_any groupI belI_step belI_alloc ret_b ret_i heap_set)
open Go.Proofs.YtakiigddbdapaaaGreatDoor.Ul (Tab MaxL)
open Go.Proofs.YtakiigddbdapaaaGreatDoor.Mk
def zP (t : Tg) : Pr := ⟨t.url, t.pri, t.wt, 0, 0, false⟩
def poC (g : Gp) : Int := if gpB g = true then 0 else 1
def poR (g : Gp) : List Pr := if gpB g = true then g.tgs.map zP else []
abbrev gO (g : Gp) (v : Value) : Obj := .cells #[.string ⟨g.name.toArray⟩, .int .i64 g.age, v] 31
theorem one_row6 (w : World) (a b c d e f : Value) (T : TypeId) (j : Nat) (u : Value) (h : [a, b, c, d, e, f][j]? = some u) : (w.alloc (.cells #[a, b, c, d, e, f] T)).cell? ((⟨w.heap.size, 0, none⟩ : Addr).add j) = some u := by
  rw [add_at, Nat.zero_add]
  have k := (Hd.new w (.cells #[a, b, c, d, e, f] T)).six
  have hj : j < 6 := by have := (List.getElem?_eq_some_iff.1 h).1; simpa using this
  rcases (show j = 0 ∨ j = 1 ∨ j = 2 ∨ j = 3 ∨ j = 4 ∨ j = 5 by omega) with rfl | rfl | rfl | rfl | rfl | rfl
  · simp at h; subst h; exact k.1
  · simp at h; subst h; exact k.2.1
  · simp at h; subst h; exact k.2.2.1
  · simp at h; subst h; exact k.2.2.2.1
  · simp at h; subst h; exact k.2.2.2.2.1
  · simp at h; subst h; exact k.2.2.2.2.2.1
theorem zP_take {xs : List Tg} (k : Nat) (hx : k < xs.length) : (xs.take (k + 1)).map zP = (xs.take k).map zP ++ [zP (xs.getD k default)] := by
  rw [show xs.take (k + 1) = xs.take k ++ [xs[k]] by rw [List.take_add_one, List.getElem?_eq_getElem hx]; rfl, List.map_append]
  simp [hx]
theorem zP_len {xs : List Tg} (k : Nat) (hk : k ≤ xs.length) : ((xs.take k).map zP).length = k := by simp; omega
theorem own_at {w : World} {base k g m : Nat} {T T' : TypeId} {v : Value} {ys : List Value} {C : Array Value} (h : w.ownsRow base T m v k ys) (hg : Hd w g (.cells C T')) (e : v.ownBlock = some g) (hT : T' ≠ T := by decide) : False := by
  rcases h.2 with ⟨rfl, _⟩ | ⟨g', cap, cur, rfl, _, hg', _⟩
  · cases e
  · simp only [Value.ownBlock, Option.some.injEq] at e
    subst e
    unfold Hd at hg
    rw [hg] at hg'
    simp only [Option.some.injEq, Obj.cells.injEq] at hg'
    exact hT hg'.2.1
set_option maxRecDepth 100000 in
set_option maxHeartbeats 2000000 in
theorem ofS_any (B : Nat) (w0 : World) (g : Gp) (v : Value) (h : TgIn (· < B) w0 v g.tgs) (hn : g.tgs.length ≤ 1048576) (W : World) (hb : Below B w0 W) (hB : B ≤ W.heap.size) :
    Calls Tryz.prog 32 #[gV g v] W (NewPrs W (g.tgs.map zP)) := by
  obtain ⟨nm, ag, xs⟩ := g
  simp only at h hn ⊢
  obtain ⟨a, cap, b, off, rfl, hcap, hm, -, ha, hc⟩ := h
  have HC := Lib.hid hc
  have HA := Lib.hid ha
  have HB := Lib.hid hb
  clear hc ha hb
  obtain ⟨w1, hw1⟩ : ∃ w1, w1 = W.alloc (gO ⟨nm, ag, xs⟩ (.slice a xs.length cap)) := ⟨_, rfl⟩
  have H1 := Lib.hid (show Hd w1 W.heap.size (gO ⟨nm, ag, xs⟩ (.slice a xs.length cap)) by rw [hw1]; exact Hd.new _ _)
  have B1 := Lib.hid (show Below W.heap.size W w1 by rw [hw1]; exact (Below.refl _ _).alloc (Nat.le_refl _) _)
  have O2 := Lib.hid ((O6_made w1).base B1.out.size)
  have H2 := Lib.hid (H1.out.al (.cells #[] 57))
  have B2 := Lib.hid (belI_alloc (o := .cells #[] 57) B1.out)
  obtain ⟨i0, hi, hz0, hz1, hz2⟩ := info_parts Tryz.infoPr
  go_enter Tryz.func32, Tryz.ntmps32
  go_upto_region 1 with fail
  rw [← hw1]
  clear hw1
  go_wp2
  go_loopw [3, 4] (fun ov iv wr => ∃ k : Nat, k ≤ xs.length ∧ iv = .int .i64 k ∧ O6 wr W.heap.size ov ((xs.take k).map zP) ∧ Below W.heap.size W wr ∧ Hd wr W.heap.size (gO ⟨nm, ag, xs⟩ (.slice a xs.length cap))) (fun _ iv _ => xs.length - (intOf iv).toNat)
  case atStart => exact ⟨0, by omega, rfl, O2.out, B2.out, H2.out⟩
  case round =>
    obtain ⟨k, hk, rfl, hO, hR, hH⟩ := hrel
    have HO := Lib.hid hO
    have HR := Lib.hid hR
    have HH := Lib.hid hH
    obtain ⟨at0, ct0, hv⟩ := hO.slice
    rw [zP_len k hk] at hv
    subst hv
    obtain ⟨m0, m1, m2, -⟩ := hH.three
    clear hO hR hH
    by_cases hlt : k < xs.length
    · obtain ⟨ea, hlb⟩ := HA.out (by omega)
      subst ea
      have hW := HB.out.trans (HR.out.mono hB)
      obtain ⟨c0, c1, c2⟩ := HC.out k hlt
      have q0 := (hW.cell (p := ⟨b, off + k * 3, none⟩) hlb).trans c0
      have q1 := (hW.cell (p := ⟨b, off + k * 3 + 1, none⟩) hlb).trans c1
      have q2 := (hW.cell (p := ⟨b, off + k * 3 + 2, none⟩) hlb).trans c2
      have HT := Lib.hid (zP_take k hlt)
      have hlk := zP_len (xs := xs) k hk
      clear c0 c1 c2 hW
      generalize xs.getD k default = t at *
      obtain ⟨u, p, q⟩ := t
      simp only at q0 q1 q2
      generalize (xs.take k).map zP = ts at *
      subst hlk
      have OA := Lib.hid (HO.out.below ((Below.refl wr.heap.size wr).alloc (Nat.le_refl _) (.cells #[.string ⟨u.toArray⟩, .int .i64 p, .int .i64 q, .int .i64 0, .int .i64 0, .bool false] 57)))
      have BA := Lib.hid (belI_alloc (o := .cells #[.string ⟨u.toArray⟩, .int .i64 p, .int .i64 q, .int .i64 0, .int .i64 0, .bool false] 57) HR.out)
      have HHA := Lib.hid (HH.out.al (.cells #[.string ⟨u.toArray⟩, .int .i64 p, .int .i64 q, .int .i64 0, .int .i64 0, .bool false] 57))
      have z1 := HR.out.size
      have hW0 := HH.out.lt
      go_wp2_with (at_builtin; refine App.wpList_app _ rfl _ _ 26 rfl W.heap.size 57 i0 _ 6 56 Tryz.underlying26 hi hz0 hz1 hz2 rfl (by omega) _ ts.length (prC ts) rfl OA.out ⟨wr.heap.size, 0, none⟩ 1 _ [.string ⟨u.toArray⟩, .int .i64 p, .int .i64 q, .int .i64 0, .int .i64 0, .bool false] rfl (by omega) rfl (one_row6 wr _ _ _ _ _ _ _) (by intro u hu; simp at hu; rcases hu with rfl | rfl | rfl | rfl | rfl | rfl <;> rfl) (by omega) (by omega) (by simp; omega) ?_; intro l' w4 hown' hgrow hplace; have O4 := Lib.hid (show O6 w4 W.heap.size l' (ts ++ [zP ⟨u, p, q⟩]) by unfold O6; rw [List.length_append, prC_app]; exact hown'); have B4 := Lib.hid (show Below W.heap.size W w4 from BA.out.grown hgrow (by simp; omega) (fun g e => (World.ownsRow.lt OA.out g e).1)); have H4 := Lib.hid (HHA.out.grown hgrow (fun e => by have := own_at OA.out HHA.out e.symm; exact this)); obtain ⟨a7, c7, rfl⟩ := O4.out.slice; clear hown' hgrow hplace)
      go_roundw
      case rel => exact ⟨ts.length + 1, by omega, by go_num, by have := O4.out; rw [HT.out]; simpa using this, B4.out, H4.out⟩
      case measure => simp [intOf]; omega
    · obtain rfl : k = xs.length := by omega
      rw [List.take_length] at HO
      have HF := Lib.hid (show NewPrs W (xs.map zP) (.returned (.slice at0 xs.length ct0)) wr from ⟨_, rfl, HO.out, HR.out⟩)
      go_wp2
      go_ret
      exact HF.out
end Go.Proofs.YtakiigddbdapaaaGreatDoor.Pe
