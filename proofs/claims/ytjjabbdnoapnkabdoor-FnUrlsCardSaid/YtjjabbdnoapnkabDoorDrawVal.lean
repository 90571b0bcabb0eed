
/-
  The addresses that the model draws: a value, a text, out of some bytes.
-/
import Derived.Test.YtjjabbdnoapnkabDoorDrawUrl
import Derived.Test.YtjjabbdnoapnkabDoorUrlSpecI
namespace Go.Proofs.YtjjabbdnoapnkabDoor.Dr
open Go.RowKit
open Go.Proofs.YtjjabbdnoapnkabDoor.Ul (U uV parseB parseX parseU okB parseS_any UAt ret_oneS)
def CodeIn (w : World) (c : Value) (code : List UInt8) : Prop :=
  ∃ (a : Option Addr) (cap : Nat), c = .slice a code.length cap ∧ (code.length = 0 ∨ ∃ g off, a = some ⟨g, off, none⟩ ∧ g < w.heap.size ∧ ∀ j, j < code.length → w.cell? ⟨g, off + j, none⟩ = some (.int .u8 (code.getD j 0).toNat))
theorem CodeIn.below {w w' : World} {c : Value} {code : List UInt8} (h : CodeIn w c code) (hb : Below w.heap.size w w') : CodeIn w' c code := by
  obtain ⟨a, cap, rfl, h⟩ := h
  refine ⟨a, cap, rfl, ?_⟩
  rcases h with h | ⟨g, off, rfl, hlt, hc⟩
  · exact .inl h
  · exact .inr ⟨g, off, rfl, by have := hb.size; omega, fun j hj => (hb.cell (p := ⟨g, off + j, none⟩) hlt).trans (hc j hj)⟩
theorem source_any (c : Value) (code : List UInt8) (w : World) (h : CodeIn w c code) (hl : code.length ≤ 9223372036854775807) :
    Calls Tryd.prog 18 #[c] w fun e w' => e = .returned (.pointer (some ⟨w.heap.size, 0, none⟩)) ∧ SrcAt w' w.heap.size c (S.start code) ∧ Below w.heap.size w w' ∧ w'.heap.size = w.heap.size + 1 := by
  obtain ⟨a, cap, rfl, hc⟩ := h
  go_enter Tryd.func18, Tryd.ntmps18
  go_wp2
  go_ret
  refine ⟨rfl, ⟨?_, a, cap, rfl, ?_⟩, (Below.refl _ _).alloc (Nat.le_refl _) _, by simp⟩
  · show (w.heap.push _)[w.heap.size]? = _
    simp [S.start]
  · rcases hc with hc | ⟨g, off, rfl, hlt, hc⟩
    · exact .inl hc
    · refine .inr ⟨g, off, rfl, by omega, by simp; omega, fun j hj => ?_⟩
      rw [World.cell?_alloc_past _ _ _ hlt]
      exact hc j hj
theorem UAt.fr {w w' : World} {k b : Nat} {u : U} (h : UAt w k u) (hf : Fr b w w') (hk : k ≠ b) (hlt : k < w.heap.size) : UAt w' k u :=
  h.same (fun o => World.cell?_of_block (w := w) (a := ⟨k, o, none⟩) (hf.block k hlt hk)) (fun o => World.frozen?_of_block (w := w) (a := ⟨k, o, none⟩) (hf.block k hlt hk))
theorem bstep {B : Nat} {w W w1 : World} (h : Below B w W) (hb : Below W.heap.size W w1) (hB : B ≤ w.heap.size) : Below B w w1 := h.trans (hb.mono (by have := h.size; omega))
theorem belB_alloc {b : Nat} {w Y : World} (hb : b ≤ w.heap.size) (h : Below b w Y) (o : Obj) : Below b w (Y.alloc o) := h.alloc (Nat.le_trans hb h.size) o
theorem belB_set {b k : Nat} {w Y : World} (hk : b ≤ k) (h : Below b w Y) (o : Nat) (v : Value) : Below b w (Y.setCell ⟨k, o, none⟩ v) := h.setCell hk v
def about : U := ⟨[97, 98, 111, 117, 116], [], [], 0, [98, 108, 97, 110, 107], [], [], false, false⟩
def urlU (s : S) : U := if parseB (urlT s).t then parseX (urlT s).t else about
theorem about_ok : okB about = true := by decide
theorem urlU_ok (s : S) : okB (urlU s) = true := by
  unfold urlU
  cases hb : parseB (urlT s).t with
  | false => exact about_ok
  | true =>
    have hb' := hb
    unfold parseB at hb'
    simp only [Bool.and_eq_true] at hb'
    simp [parseX, hb'.1, hb'.2]
theorem urlT_ok (s : S) (hf : s.fit 0) : (urlT s).ok 100 80 := by
  have h : (TS.mk [] s).ok 0 0 := ⟨hf, Nat.le_refl _⟩
  have := ((((((((h.pick schemes (by decide)).may users (by decide)).pick hosts (by decide)).may ports (by decide)).pick paths (by decide)).may queries (by decide)).may frags (by decide)))
  exact ⟨this.fit.le (by omega), by have := this.len; unfold urlT; omega⟩
set_option maxRecDepth 100000 in
theorem urlValue_any (b : Nat) (c : Value) (s : S) (w : World) (h : SrcAt w b c s) (hf : s.fit 0) :
    Calls Tryd.prog 19 #[.pointer (some ⟨b, 0, none⟩)] w fun e w' => e = .returned (uV (urlU s)) ∧ Below b w w' := by
  have hlt := h.lt
  have ht := (urlT_ok s hf).len
  have HU := Lib.hid (fun W h => url_any b c s W h (hf.le (by omega)))
  have HP := Lib.hid (fun W => parseS_any (urlT s).t W (by omega))
  have EU : Hid (urlU s = if parseB (urlT s).t then parseX (urlT s).t else about) := Lib.hid rfl
  have Q0 := UAt.new w U.none
  have hal := h.alloc (.cells #[.string ⟨#[]⟩, .string ⟨#[]⟩, .string ⟨#[]⟩, .int .i64 0, .string ⟨#[]⟩, .string ⟨#[]⟩, .string ⟨#[]⟩, .bool false, .bool false] 24)
  generalize (urlT s).s = s2 at *
  generalize (urlT s).t = t at *
  generalize parseX t = x at *
  cases hb : parseB t
  · rw [hb] at HP EU
    go_enter Tryd.func19, Tryd.ntmps19
    go_wp2_with fail
    refine (HU.out _ hal).mono ?_
    rintro e w1 ⟨rfl, _, f1⟩
    have Q1 := UAt.fr Q0 f1 (by omega) (by simp)
    have B1 : Below b w w1 := ((Below.refl b w).alloc (by omega) _).trans (f1.below (Nat.le_refl _) (by simp; omega))
    have z1 : w.heap.size < w1.heap.size := by have := f1.size; simp at this; omega
    clear f1 hal Q0
    go_wp2_with fail
    refine (HP.out _).mono ?_
    rintro e w2 ⟨rfl, hb2⟩
    have Q2 := Q1.below hb2 (by omega)
    have B2 : Below b w w2 := bstep B1 hb2 (by omega)
    have z2 : w.heap.size < w2.heap.size := by have := hb2.size; omega
    obtain ⟨q0, q1, q2, q3, q4, q5, q6, q7, q8, qf⟩ := Q2
    clear Q1 hb2 B1
    go_wp2
    refine bodyPost_ret (ret_oneS (u := about) (a := 2) (B := w.heap.size) Tryd.results19 rfl ?_) rfl ⟨by rw [EU.out]; rfl, ?_⟩
    · refine ⟨?_, ?_, ?_, ?_, ?_, ?_, ?_, ?_, ?_, ?_⟩
      all_goals (simp [go_sem, about, *]; done)
    · have hle : b ≤ w.heap.size := by omega
      repeat (first | (with_reducible exact B2) | (with_reducible refine belB_set hle ?_ _ _) | (with_reducible refine belB_alloc hle ?_ _))
  · rw [hb] at HP EU
    go_enter Tryd.func19, Tryd.ntmps19
    go_wp2_with fail
    refine (HU.out _ hal).mono ?_
    rintro e w1 ⟨rfl, _, f1⟩
    have Q1 := UAt.fr Q0 f1 (by omega) (by simp)
    have B1 : Below b w w1 := ((Below.refl b w).alloc (by omega) _).trans (f1.below (Nat.le_refl _) (by simp; omega))
    have z1 : w.heap.size < w1.heap.size := by have := f1.size; simp at this; omega
    clear f1 hal Q0
    go_wp2_with fail
    refine (HP.out _).mono ?_
    rintro e w2 ⟨rfl, hb2⟩
    have Q2 := Q1.below hb2 (by omega)
    have B2 : Below b w w2 := bstep B1 hb2 (by omega)
    have z2 : w.heap.size < w2.heap.size := by have := hb2.size; omega
    obtain ⟨q0, q1, q2, q3, q4, q5, q6, q7, q8, qf⟩ := Q2
    clear Q1 hb2 B1
    go_wp2
    refine bodyPost_ret (ret_oneS (u := x) (a := 2) (B := w.heap.size) Tryd.results19 rfl ?_) rfl ⟨by rw [EU.out]; rfl, ?_⟩
    · refine ⟨?_, ?_, ?_, ?_, ?_, ?_, ?_, ?_, ?_, ?_⟩
      all_goals (simp [go_sem, *]; done)
    · have hle : b ≤ w.heap.size := by omega
      repeat (first | (with_reducible exact B2) | (with_reducible refine belB_set hle ?_ _ _) | (with_reducible refine belB_alloc hle ?_ _))
set_option maxRecDepth 100000 in
theorem UrlDrawn_any (c : Value) (code : List UInt8) (w : World) (h : CodeIn w c code) (hl : code.length ≤ 9223372036854775807) :
    Calls Tryd.prog 10 #[c] w fun e w' => e = .returned (.string ⟨(urlT (S.start code)).t.toArray⟩) ∧ Below w.heap.size w w' := by
  have HS := Lib.hid (source_any c code w h hl)
  have HU := Lib.hid (fun W h => url_any w.heap.size c (S.start code) W h ((start_fit code).le (by omega)))
  generalize (urlT (S.start code)).s = s2 at *
  generalize (urlT (S.start code)).t = t at *
  clear h
  go_enter Tryd.func10, Tryd.ntmps10
  go_wp2_with fail
  refine HS.out.mono ?_
  rintro e w1 ⟨rfl, h1, b1, z1⟩
  go_wp2_with fail
  refine (HU.out _ h1).mono ?_
  rintro e w2 ⟨rfl, _, f2⟩
  go_wp2
  go_ret
  exact ⟨rfl, b1.trans (f2.below (Nat.le_refl _) (by omega))⟩
set_option maxRecDepth 100000 in
theorem UrlValue_any (c : Value) (code : List UInt8) (w : World) (h : CodeIn w c code) (hl : code.length ≤ 9223372036854775807) :
    Calls Tryd.prog 4 #[c] w fun e w' => e = .returned (uV (urlU (S.start code))) ∧ Below w.heap.size w w' := by
  have h0 : CodeIn (w.alloc (.cells #[.string ⟨#[]⟩, .string ⟨#[]⟩, .string ⟨#[]⟩, .int .i64 0, .string ⟨#[]⟩, .string ⟨#[]⟩, .string ⟨#[]⟩, .bool false, .bool false] 24)) c code := h.below ((Below.refl _ _).alloc (Nat.le_refl _) _)
  have HS0 := source_any c code _ h0 hl
  rw [show (w.alloc (.cells #[.string ⟨#[]⟩, .string ⟨#[]⟩, .string ⟨#[]⟩, .int .i64 0, .string ⟨#[]⟩, .string ⟨#[]⟩, .string ⟨#[]⟩, .bool false, .bool false] 24)).heap.size = w.heap.size + 1 from by simp] at HS0
  have HS := Lib.hid HS0
  clear HS0
  have HU := Lib.hid (fun b W h => urlValue_any b c (S.start code) W h (start_fit code))
  have Q0 := UAt.new w U.none
  generalize urlU (S.start code) = u at *
  clear h h0
  go_enter Tryd.func4, Tryd.ntmps4
  go_wp2_with fail
  refine HS.out.mono ?_
  rintro e w1 ⟨rfl, h1, b1, z1⟩
  have Q1 := Q0.same (fun o => b1.cell (p := ⟨w.heap.size, o, none⟩) (by simp)) (fun o => b1.frozen (p := ⟨w.heap.size, o, none⟩) (by simp))
  have B1 : Below w.heap.size w w1 := ((Below.refl _ _).alloc (Nat.le_refl _) _).trans (b1.mono (by simp))
  go_wp2_with fail
  refine (HU.out _ _ h1).mono ?_
  rintro e w2 ⟨rfl, b2⟩
  have Q2 : UAt w2 w.heap.size U.none := Q1.same (fun o => b2.cell (p := ⟨w.heap.size, o, none⟩) (by simp)) (fun o => b2.frozen (p := ⟨w.heap.size, o, none⟩) (by simp))
  have B2 : Below w.heap.size w w2 := B1.trans (b2.mono (by simp))
  have z2 : w.heap.size < w2.heap.size := by have := b2.size; omega
  obtain ⟨q0, q1, q2, q3, q4, q5, q6, q7, q8, qf⟩ := Q2
  clear Q0 Q1 b1 b2 B1 h1
  go_wp2
  refine bodyPost_ret (ret_oneS (u := u) (a := 2) (B := w.heap.size) Tryd.results4 rfl ?_) rfl ⟨rfl, ?_⟩
  · refine ⟨?_, ?_, ?_, ?_, ?_, ?_, ?_, ?_, ?_, ?_⟩
    all_goals (simp [go_sem, *]; done)
  · repeat (first | (with_reducible exact B2) | (with_reducible refine belB_set (Nat.le_refl _) ?_ _ _))
end Go.Proofs.YtjjabbdnoapnkabDoor.Dr
