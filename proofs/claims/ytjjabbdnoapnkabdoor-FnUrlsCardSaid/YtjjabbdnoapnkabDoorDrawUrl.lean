
/-
  The texts of addresses that the model draws, plainly and walked.
-/
import Derived.Test.YtjjabbdnoapnkabDoorDraw
import Derived.Deep.DeepCutAuto
namespace Go.Proofs.YtjjabbdnoapnkabDoor.Dr
open Go.RowKit
def schemes : List (List UInt8) := [[104, 116, 116, 112, 115, 58, 47, 47], [104, 116, 116, 112, 115, 58, 47, 47], [104, 116, 116, 112, 58, 47, 47]]
def users : List (List UInt8) := [[117, 64], [117, 58, 112, 64]]
def hosts : List (List UInt8) := [[97, 46, 101, 120, 97, 109, 112, 108, 101], [98, 46, 101, 120, 97, 109, 112, 108, 101], [114, 46, 116, 101, 115, 116], [120]]
def ports : List (List UInt8) := [[58, 56, 48], [58, 52, 52, 51], [58, 56, 48, 56, 48]]
def paths : List (List UInt8) := [[], [47], [47, 112], [47, 112, 47, 113, 46, 106, 115]]
def queries : List (List UInt8) := [[63], [63, 107, 61, 118], [63, 97, 63, 98]]
def frags : List (List UInt8) := [[35], [35, 102], [35, 97, 35, 98]]
structure TS where
  t : List UInt8
  s : S
/-- a text, a pick behind it -/
def TS.pick (x : TS) (ts : List (List UInt8)) : TS := ⟨x.t ++ pickL x.s ts, nextS x.s ts.length⟩
/-- .. with a chance of one in four -/
def TS.may (x : TS) (ts : List (List UInt8)) : TS := if chanceB x.s 4 then TS.pick ⟨x.t, nextS x.s 4⟩ ts else ⟨x.t, nextS x.s 4⟩
def urlT (s : S) : TS := (((((((TS.mk [] s).pick schemes).may users).pick hosts).may ports).pick paths).may queries).may frags
structure TS.ok (x : TS) (N M : Nat) : Prop where
  fit : x.s.fit N
  len : x.t.length ≤ M
theorem pickL_len (s : S) (ts : List (List UInt8)) (h : (ts.all fun t => decide (t.length ≤ 9)) = true) : (pickL s ts).length ≤ 9 := by
  unfold pickL
  rw [List.getD_eq_getElem?_getD]
  cases hg : ts[nextV s ts.length]? with
  | none => simp
  | some t =>
    have := List.mem_of_getElem? hg
    have := List.all_eq_true.1 h t this
    simpa using this
theorem TS.ok.pick {x : TS} {N M : Nat} (h : x.ok N M) (ts : List (List UInt8)) (ht : (ts.all fun t => decide (t.length ≤ 9)) = true) : (x.pick ts).ok (N + 1) (M + 9) :=
  ⟨h.fit.next _, by have := pickL_len x.s ts ht; have := h.len; simp [TS.pick]; omega⟩
theorem TS.ok.may {x : TS} {N M : Nat} (h : x.ok N M) (ts : List (List UInt8)) (ht : (ts.all fun t => decide (t.length ≤ 9)) = true) : (x.may ts).ok (N + 2) (M + 9) := by
  unfold TS.may
  split
  · exact (TS.ok.pick (x := ⟨x.t, nextS x.s 4⟩) ⟨h.fit.next 4, h.len⟩ ts ht)
  · exact ⟨(h.fit.next 4).le (by omega), by have := h.len; simp; omega⟩
@[local go_sem] theorem bappD (a b : List UInt8) : (⟨a.toArray⟩ : ByteArray) ++ ⟨b.toArray⟩ = ⟨(a ++ b).toArray⟩ := by
  apply ByteArray.ext; simp
theorem rets {a b : List UInt8} (h : a = b) : Ending.returned (.string ⟨a.toArray⟩) = .returned (.string ⟨b.toArray⟩) := by rw [h]
theorem strs {a b : List UInt8} (h : a = b) : Value.string ⟨a.toArray⟩ = Value.string ⟨b.toArray⟩ := by rw [h]
theorem host_any (b : Nat) (c : Value) (s : S) (w : World) (h : SrcAt w b c s) (hf : s.fit 1000000) :
    Calls Tryd.prog 54 #[.pointer (some ⟨b, 0, none⟩)] w fun e w' => e = .returned (.string ⟨(pickL s hosts).toArray⟩) ∧ SrcAt w' b c (nextS s 4) ∧ Fr b w w' := by
  have hlt := h.lt
  have HT := texts_new w hosts 9
  have hb := h.alloc (.cells (hosts.map fun t => Value.string ⟨t.toArray⟩).toArray 9)
  go_enter Tryd.func54, Tryd.ntmps54
  go_wp2_with fail
  refine (pick_any b w.heap.size 4 c s hosts _ (by decide) (by decide) (by omega) (by simp) HT hb hf).mono ?_
  rintro e w1 ⟨rfl, h2, h3⟩
  go_wp2
  go_ret
  exact ⟨rfl, h2, ((Fr.refl b w).alloc _).trans h3⟩
set_option maxRecDepth 100000 in
set_option maxHeartbeats 4000000 in
theorem url_any (b : Nat) (c : Value) (s : S) (w : World) (h : SrcAt w b c s) (hf : s.fit 900000) :
    Calls Tryd.prog 30 #[.pointer (some ⟨b, 0, none⟩)] w fun e w' => e = .returned (.string ⟨(urlT s).t.toArray⟩) ∧ SrcAt w' b c (urlT s).s ∧ Fr b w w' := by
  have EU : Hid (urlT s = (((((((TS.mk [] s).pick schemes).may users).pick hosts).may ports).pick paths).may queries).may frags) := Lib.hid rfl
  have OK : (TS.mk [] s).ok 900000 0 := ⟨hf, Nat.le_refl _⟩
  have OK1 := OK.pick schemes (by decide)
  have E1 : Hid ((TS.mk [] s).pick schemes = ⟨pickL s schemes, nextS s 3⟩) := Lib.hid rfl
  generalize (TS.mk [] s).pick schemes = x1 at *
  have ER : ((TS.mk [] s : TS).s) = s := rfl
  go_enter Tryd.func30, Tryd.ntmps30
  have HT := texts_new w schemes 9
  have hlt := h.lt
  have hb0 := h.alloc (.cells (schemes.map fun t => Value.string ⟨t.toArray⟩).toArray 9)
  go_wp2_with fail
  refine (pick_any b w.heap.size 3 c s schemes _ (by decide) (by decide) (by omega) (by simp) HT hb0 (hf.le (by omega))).mono ?_
  rintro e w1 ⟨rfl, h1, f1⟩
  have f1 := ((Fr.refl b w).alloc (.cells (schemes.map fun t => Value.string ⟨t.toArray⟩).toArray 9)).trans f1
  rw [show pickL s schemes = x1.t from by rw [E1.out]]
  rw [show nextS s schemes.length = x1.s from by rw [E1.out]; rfl] at h1
  clear HT hb0 hlt h OK ER
  have OK2 := OK1.may users (by decide)
  have M2 : Hid (x1.may users = if chanceB x1.s 4 then TS.pick ⟨x1.t, nextS x1.s 4⟩ users else ⟨x1.t, nextS x1.s 4⟩) := Lib.hid rfl
  generalize x1.may users = x2 at *
  have L2 := OK1.len
  go_upto_if 8 with (refine (chance_any b c x1.s 4 _ (by decide) h1 (OK1.fit.le (by omega))).mono ?_; rintro e v2 ⟨rfl, g2, k2⟩)
  have k2 := f1.trans k2
  clear h1 f1
  go_cut [3] (fun s3 wx => s3 = .string ⟨x2.t.toArray⟩ ∧ SrcAt wx b c x2.s ∧ Fr b w wx)
  case first =>
    cases hc : chanceB x1.s 4
    · rw [hc] at M2
      have hd := hc
      clear hc
      go_wp2_with fail
      go_meet
      exact ⟨strs (by rw [M2.out]; rfl), by rw [M2.out]; exact g2, k2⟩
    · rw [hc] at M2
      have hd := hc
      clear hc
      have HT := texts_new v2 users 9
      have hlt := g2.lt
      have hb0 := g2.alloc (.cells (users.map fun t => Value.string ⟨t.toArray⟩).toArray 9)
      have hpl := pickL_len (nextS x1.s 4) users (by decide)
      go_wp2_with fail
      refine (pick_any b v2.heap.size 2 c (nextS x1.s 4) users _ (by decide) (by decide) (by omega) (by simp) HT hb0 ((OK1.fit.next 4).le (by omega))).mono ?_
      rintro e w' ⟨rfl, h', f'⟩
      have f'' := (k2.alloc (.cells (users.map fun t => Value.string ⟨t.toArray⟩).toArray 9)).trans f'
      go_wp2_with fail
      go_meet
      exact ⟨strs (by rw [M2.out]; rfl), by rw [M2.out]; exact h', f''⟩
  case rest =>
    obtain ⟨rfl, h2, f2⟩ := hcut
    clear g2 k2 L2
    have OK3 := OK2.pick hosts (by decide)
    have M3 : Hid (x2.pick hosts = ⟨x2.t ++ pickL x2.s hosts, nextS x2.s 4⟩) := Lib.hid rfl
    generalize x2.pick hosts = x3 at *
    have L3 := OK2.len
    have P3 := pickL_len x2.s hosts (by decide)
    go_wp2_with fail
    refine (host_any b c x2.s _ h2 (OK2.fit.le (by omega))).mono ?_
    rintro e v3 ⟨rfl, h3, f3⟩
    have f3 := f2.trans f3
    rw [show nextS x2.s 4 = x3.s from by rw [M3.out]] at h3
    have R3 : Hid (x2.t ++ pickL x2.s hosts = x3.t) := Lib.hid (by rw [M3.out])
    have R3' := R3.out
    clear h2 f2
    have OK4 := OK3.may ports (by decide)
    have M4 : Hid (x3.may ports = if chanceB x3.s 4 then TS.pick ⟨x3.t, nextS x3.s 4⟩ ports else ⟨x3.t, nextS x3.s 4⟩) := Lib.hid rfl
    generalize x3.may ports = x4 at *
    have L4 := OK3.len
    go_upto_if 19 with (refine (chance_any b c x3.s 4 _ (by decide) h3 (OK3.fit.le (by omega))).mono ?_; rintro e v4 ⟨rfl, g4, k4⟩)
    have k4 := f3.trans k4
    clear h3 f3
    go_cut [3] (fun s3 wx => s3 = .string ⟨x4.t.toArray⟩ ∧ SrcAt wx b c x4.s ∧ Fr b w wx)
    case first =>
      cases hc : chanceB x3.s 4
      · rw [hc] at M4
        have hd := hc
        clear hc
        go_wp2_with fail
        go_meet
        exact ⟨strs (by rw [M4.out]; rfl), by rw [M4.out]; exact g4, k4⟩
      · rw [hc] at M4
        have hd := hc
        clear hc
        have HT := texts_new v4 ports 9
        have hlt := g4.lt
        have hb0 := g4.alloc (.cells (ports.map fun t => Value.string ⟨t.toArray⟩).toArray 9)
        have hpl := pickL_len (nextS x3.s 4) ports (by decide)
        go_wp2_with fail
        refine (pick_any b v4.heap.size 3 c (nextS x3.s 4) ports _ (by decide) (by decide) (by omega) (by simp) HT hb0 ((OK3.fit.next 4).le (by omega))).mono ?_
        rintro e w' ⟨rfl, h', f'⟩
        have f'' := (k4.alloc (.cells (ports.map fun t => Value.string ⟨t.toArray⟩).toArray 9)).trans f'
        go_wp2_with fail
        go_meet
        exact ⟨strs (by rw [M4.out]; rfl), by rw [M4.out]; exact h', f''⟩
    case rest =>
      obtain ⟨rfl, h4, f4⟩ := hcut
      clear g4 k4 L4
      have OK5 := OK4.pick paths (by decide)
      have M5 : Hid (x4.pick paths = ⟨x4.t ++ pickL x4.s paths, nextS x4.s 4⟩) := Lib.hid rfl
      generalize x4.pick paths = x5 at *
      have L5 := OK4.len
      have P5 := pickL_len x4.s paths (by decide)
      have HT := texts_new wc paths 9
      have hlt := h4.lt
      have hb0 := h4.alloc (.cells (paths.map fun t => Value.string ⟨t.toArray⟩).toArray 9)
      go_wp2_with fail
      refine (pick_any b wc.heap.size 4 c x4.s paths _ (by decide) (by decide) (by omega) (by simp) HT hb0 (OK4.fit.le (by omega))).mono ?_
      rintro e v5 ⟨rfl, h5, f5⟩
      have f5 := (f4.alloc (.cells (paths.map fun t => Value.string ⟨t.toArray⟩).toArray 9)).trans f5
      rw [show nextS x4.s paths.length = x5.s from by rw [M5.out]; rfl] at h5
      have R5 : Hid (x4.t ++ pickL x4.s paths = x5.t) := Lib.hid (by rw [M5.out])
      have R5' := R5.out
      clear HT hlt hb0 h4 f4
      have OK6 := OK5.may queries (by decide)
      have M6 : Hid (x5.may queries = if chanceB x5.s 4 then TS.pick ⟨x5.t, nextS x5.s 4⟩ queries else ⟨x5.t, nextS x5.s 4⟩) := Lib.hid rfl
      generalize x5.may queries = x6 at *
      have L6 := OK5.len
      go_upto_if 31 with (refine (chance_any b c x5.s 4 _ (by decide) h5 (OK5.fit.le (by omega))).mono ?_; rintro e v6 ⟨rfl, g6, k6⟩)
      have k6 := f5.trans k6
      clear h5 f5
      go_cut [3] (fun s3 wx => s3 = .string ⟨x6.t.toArray⟩ ∧ SrcAt wx b c x6.s ∧ Fr b w wx)
      case first =>
        cases hc : chanceB x5.s 4
        · rw [hc] at M6
          have hd := hc
          clear hc
          go_wp2_with fail
          go_meet
          exact ⟨strs (by rw [M6.out]; rfl), by rw [M6.out]; exact g6, k6⟩
        · rw [hc] at M6
          have hd := hc
          clear hc
          have HT := texts_new v6 queries 9
          have hlt := g6.lt
          have hb0 := g6.alloc (.cells (queries.map fun t => Value.string ⟨t.toArray⟩).toArray 9)
          have hpl := pickL_len (nextS x5.s 4) queries (by decide)
          go_wp2_with fail
          refine (pick_any b v6.heap.size 3 c (nextS x5.s 4) queries _ (by decide) (by decide) (by omega) (by simp) HT hb0 ((OK5.fit.next 4).le (by omega))).mono ?_
          rintro e w' ⟨rfl, h', f'⟩
          have f'' := (k6.alloc (.cells (queries.map fun t => Value.string ⟨t.toArray⟩).toArray 9)).trans f'
          go_wp2_with fail
          go_meet
          exact ⟨strs (by rw [M6.out]; rfl), by rw [M6.out]; exact h', f''⟩
      case rest =>
        obtain ⟨rfl, h6, f6⟩ := hcut
        clear g6 k6 L6
        have OK7 := OK6.may frags (by decide)
        have M7 : Hid (x6.may frags = if chanceB x6.s 4 then TS.pick ⟨x6.t, nextS x6.s 4⟩ frags else ⟨x6.t, nextS x6.s 4⟩) := Lib.hid rfl
        generalize x6.may frags = x7 at *
        have L7 := OK6.len
        go_upto_if 38 with (refine (chance_any b c x6.s 4 _ (by decide) h6 (OK6.fit.le (by omega))).mono ?_; rintro e v7 ⟨rfl, g7, k7⟩)
        have k7 := f6.trans k7
        clear h6 f6
        go_cut [3] (fun s3 wx => s3 = .string ⟨x7.t.toArray⟩ ∧ SrcAt wx b c x7.s ∧ Fr b w wx)
        case first =>
          cases hc : chanceB x6.s 4
          · rw [hc] at M7
            have hd := hc
            clear hc
            go_wp2_with fail
            go_meet
            exact ⟨strs (by rw [M7.out]; rfl), by rw [M7.out]; exact g7, k7⟩
          · rw [hc] at M7
            have hd := hc
            clear hc
            have HT := texts_new v7 frags 9
            have hlt := g7.lt
            have hb0 := g7.alloc (.cells (frags.map fun t => Value.string ⟨t.toArray⟩).toArray 9)
            have hpl := pickL_len (nextS x6.s 4) frags (by decide)
            go_wp2_with fail
            refine (pick_any b v7.heap.size 3 c (nextS x6.s 4) frags _ (by decide) (by decide) (by omega) (by simp) HT hb0 ((OK6.fit.next 4).le (by omega))).mono ?_
            rintro e w' ⟨rfl, h', f'⟩
            have f'' := (k7.alloc (.cells (frags.map fun t => Value.string ⟨t.toArray⟩).toArray 9)).trans f'
            go_wp2_with fail
            go_meet
            exact ⟨strs (by rw [M7.out]; rfl), by rw [M7.out]; exact h', f''⟩
        case rest =>
          obtain ⟨rfl, h7, f7⟩ := hcut
          clear g7 k7 L7
          go_wp2_with fail
          go_ret
          exact ⟨rets (by rw [EU.out]), by rw [EU.out]; exact h7, f7⟩
end Go.Proofs.YtjjabbdnoapnkabDoor.Dr
