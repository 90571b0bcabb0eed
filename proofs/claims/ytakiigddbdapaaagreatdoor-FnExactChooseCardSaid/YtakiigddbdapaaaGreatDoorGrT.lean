
/-
  The model's l03At, l03OK, walked.
-/
import Derived.Test.YtakiigddbdapaaaGreatDoorGrS
namespace Go.Proofs.YtakiigddbdapaaaGreatDoor.Gr
open Go.RowKit
open Go.Proofs.YtakiigddbdapaaaGreatDoor.Ul
open Go.Proofs.YtakiigddbdapaaaGreatDoor.Ext (up up_below up_mk wp_region_ext call_ext call_ext_same call_ext_drewN)
def atF (u : List UInt8) : Nat → List Tg → Int
  | _, [] => -1
  | k, x :: r => if (x.url == u) = true then (k : Int) else atF u (k + 1) r
theorem atF_drop (u : List UInt8) {xs : List Tg} (k : Nat) (hx : k < xs.length) : atF u k (xs.drop k) = if ((xs.getD k default).url == u) = true then (k : Int) else atF u (k + 1) (xs.drop (k + 1)) := by
  rw [List.drop_eq_getElem_cons hx, atF]; simp [hx]
@[local go_sem] theorem up_cellT (w : World) (y : Ext.Ext w) (b o : Nat) (h : b < w.heap.size) : (up w y).cell? ⟨b, o, none⟩ = w.cell? ⟨b, o, none⟩ := Ext.up_cell w y b o h
set_option maxRecDepth 100000 in
set_option maxHeartbeats 1000000 in
theorem at_any (S : Nat → Prop) (xs : List Tg) (v : Value) (u : List UInt8) (w : World) (h : TgIn S w v xs) :
    Calls Tryz.prog 60 #[v, .string ⟨u.toArray⟩] w fun e w' => e = .returned (.int .i64 (atF u 0 xs)) ∧ w = w' := by
  obtain ⟨a, cap, b, off, rfl, hcap, hm, hlen, ha, hc⟩ := h
  have hn : xs.length ≤ 9223372036854775807 := by omega
  have HC := Lib.hid hc
  have HA := Lib.hid ha
  clear hc ha hlen
  go_enter Tryz.func60, Tryz.ntmps60
  go_wp2
  go_loopw [5] (fun i wr => ∃ k : Nat, k ≤ xs.length ∧ i = .int .i64 k ∧ atF u 0 xs = atF u k (xs.drop k) ∧ w = wr) (fun i _ => xs.length - (intOf i).toNat)
  case atStart => exact ⟨0, by omega, rfl, rfl, rfl⟩
  case round =>
    obtain ⟨k, hk, rfl, hE, rfl⟩ := hrel
    have HE := Lib.hid hE
    clear hE
    by_cases hlt : k < xs.length
    · obtain ⟨ea, _⟩ := HA.out (by omega)
      subst ea
      have q0 := (HC.out k hlt).1
      have D := Lib.hid (atF_drop u k hlt)
      generalize (xs.getD k default).url = t at *
      obtain ⟨c, hcc⟩ : ∃ c, (t == u) = c := ⟨_, rfl⟩
      rw [hcc] at D
      cases c with
      | true =>
        go_wp2
        go_ret
        exact ⟨ret_i (by rw [HE.out, D.out]; rfl), rfl⟩
      | false =>
        go_wp2
        go_roundw
        case rel => exact ⟨k + 1, by omega, by go_num, by rw [HE.out, D.out]; simp, trivial⟩
        case measure => simp [intOf]; omega
    · go_wp2
      go_ret
      obtain rfl : k = xs.length := by omega
      exact ⟨ret_i (by rw [HE.out, List.drop_length]; rfl), rfl⟩
theorem at_spec (u : List UInt8) : ∀ (xs : List Tg) (k j : Nat), k < xs.length → (xs.getD k default).url = u → (hasU (xs.take k) u = false → atF u j xs = ((j + k : Nat) : Int)) ∧ (hasU (xs.take k) u = true → atF u j xs < ((j + k : Nat) : Int))
  | [], k, j, h, _ => by simp at h
  | x :: r, 0, j, _, he => by
    have e : x.url = u := by simpa using he
    refine ⟨fun _ => by simp [atF, e], fun h => by simp [hasU] at h⟩
  | x :: r, k + 1, j, h, he => by
    have ih := at_spec u r k (j + 1) (by simpa using h) (by simpa using he)
    cases hx : (x.url == u) with
    | true =>
      have hh : hasU ((x :: r).take (k + 1)) u = true := by simp [hasU, hx]
      refine ⟨fun h2 => by rw [hh] at h2; simp at h2, fun _ => ?_⟩
      simp only [atF, hx, if_true]
      omega
    | false =>
      have hh : hasU ((x :: r).take (k + 1)) u = hasU (r.take k) u := by simp [hasU, hx]
      rw [hh]
      simp only [atF, hx]
      refine ⟨fun h2 => ?_, fun h2 => ?_⟩
      · have := ih.1 h2; simp only [Bool.false_eq_true, if_false]; omega
      · have := ih.2 h2; simp only [Bool.false_eq_true, if_false]; omega
theorem at_has (xs : List Tg) (k : Nat) (hk : k < xs.length) : (atF (xs.getD k default).url 0 xs != (k : Int)) = hasU (xs.take k) (xs.getD k default).url := by
  have h := at_spec (xs.getD k default).url xs k 0 hk rfl
  generalize (xs.getD k default).url = u at *
  generalize atF u 0 xs = ai at *
  cases hh : hasU (xs.take k) u with
  | false => have := h.1 hh; simp; omega
  | true => have := h.2 hh; simp; omega
set_option maxRecDepth 100000 in
set_option maxHeartbeats 4000000 in
theorem gpS_any (B : Nat) (w0 : World) (g : Gp) (v : Value) (h : TgIn (· < B) w0 v g.tgs) (hl : ∀ i, i < g.tgs.length → (g.tgs.getD i default).url.length ≤ 1048576) (hn : g.name.length ≤ 1048576) (W : World) (hb : Below B w0 W) (hB : B ≤ W.heap.size) :
    Calls Tryz.prog 31 #[gV g v] W fun e w' => e = .returned (.bool (gpB g)) ∧ Below W.heap.size W w' := by
  obtain ⟨n, ag, xs⟩ := g
  simp only at h hl hn
  have h1 := h
  obtain ⟨a, cap, b, off, rfl, hcap, hm, hlen, ha, hc⟩ := h
  have HC := Lib.hid hc
  have HA := Lib.hid ha
  have HL := Lib.hid hl
  have HB := Lib.hid hb
  have HN := Lib.hid (fun W => Nm.l00Word_any ⟨n.toArray⟩ W (by simp [ByteArray.size, maxLen]; omega))
  have HI1 := Lib.hid (fun W => in_any ag 1 100 W)
  have HI2 := Lib.hid (fun W => in_any (xs.length : Int) 1 4 W)
  have HAt := Lib.hid (fun (W' : World) (u : List UInt8) (hb' : Below B w0 W') => at_any (· < B) xs _ u W' (h1.blw hb'))
  clear hc ha hl hb hlen hn h1
  unfold gpB
  simp only
  obtain ⟨b1, e1⟩ : ∃ b1, Nm.nameB ⟨n.toArray⟩ = b1 := ⟨_, rfl⟩
  obtain ⟨b2, e2⟩ : ∃ b2, decide (1 ≤ ag ∧ ag ≤ 100) = b2 := ⟨_, rfl⟩
  obtain ⟨b3, e3⟩ : ∃ b3, decide (1 ≤ xs.length ∧ xs.length ≤ 4) = b3 := ⟨_, rfl⟩
  have e3' : decide ((1 : Int) ≤ (xs.length : Int) ∧ (xs.length : Int) ≤ 4) = b3 := by rw [← e3]; congr 1; simp; omega
  rw [e1] at HN
  rw [e2] at HI1
  rw [e3'] at HI2
  rw [e1, e2, e3]
  go_enter Tryz.func31, Tryz.ntmps31
  have K0 := heap_alloc_new W (.cells #[.string ⟨n.toArray⟩, .int .i64 ag, .slice a xs.length cap] 31)
  have B0 := (Below.refl W.heap.size W).alloc (Nat.le_refl _) (.cells #[.string ⟨n.toArray⟩, .int .i64 ag, .slice a xs.length cap] 31)
  have Z0 : (W.alloc (.cells #[.string ⟨n.toArray⟩, .int .i64 ag, .slice a xs.length cap] 31)).heap.size = W.heap.size + 1 := by simp
  have BF := Lib.hid B0
  cases b1
  · clear K0 B0 Z0
    go_wp2_with (first
      | (go_at_call 58; refine (HN.out _).mono ?_; rintro e w' ⟨rfl, rfl⟩)
      | (go_at_call 40; refine Calls.mono (by with_reducible exact HI1.out _) ?_; rintro e w' ⟨rfl, rfl⟩)
      | (go_at_call 40; refine Calls.mono (by with_reducible exact HI2.out _) ?_; rintro e w' ⟨rfl, rfl⟩))
    go_ret
    exact ⟨rfl, BF.out⟩
  cases b2
  · clear K0 B0 Z0
    go_wp2_with (first
      | (go_at_call 58; refine (HN.out _).mono ?_; rintro e w' ⟨rfl, rfl⟩)
      | (go_at_call 40; refine Calls.mono (by with_reducible exact HI1.out _) ?_; rintro e w' ⟨rfl, rfl⟩)
      | (go_at_call 40; refine Calls.mono (by with_reducible exact HI2.out _) ?_; rintro e w' ⟨rfl, rfl⟩))
    go_ret
    exact ⟨rfl, BF.out⟩
  cases b3
  · clear K0 B0 Z0
    go_wp2_with (first
      | (go_at_call 58; refine (HN.out _).mono ?_; rintro e w' ⟨rfl, rfl⟩)
      | (go_at_call 40; refine Calls.mono (by with_reducible exact HI1.out _) ?_; rintro e w' ⟨rfl, rfl⟩)
      | (go_at_call 40; refine Calls.mono (by with_reducible exact HI2.out _) ?_; rintro e w' ⟨rfl, rfl⟩))
    go_ret
    exact ⟨rfl, BF.out⟩
  clear BF
  have K := Lib.hid K0
  have BW := Lib.hid B0
  clear K0 B0
  have RF := Below.refl (W.alloc (.cells #[.string ⟨n.toArray⟩, .int .i64 ag, .slice a xs.length cap] 31)).heap.size (W.alloc (.cells #[.string ⟨n.toArray⟩, .int .i64 ag, .slice a xs.length cap] 31))
  go_wp2_with (first
      | (go_at_call 58; refine (HN.out _).mono ?_; rintro e w' ⟨rfl, rfl⟩)
      | (go_at_call 40; refine Calls.mono (by with_reducible exact HI1.out _) ?_; rintro e w' ⟨rfl, rfl⟩)
      | (go_at_call 40; refine Calls.mono (by with_reducible exact HI2.out _) ?_; rintro e w' ⟨rfl, rfl⟩))
  generalize (W.alloc (.cells #[.string ⟨n.toArray⟩, .int .i64 ag, .slice a xs.length cap] 31)) = w1 at *
  go_loopw [3] (fun i wr => ∃ k : Nat, k ≤ xs.length ∧ i = .int .i64 k ∧ tgsB [] xs = tgsB (xs.take k) (xs.drop k) ∧ Below w1.heap.size w1 wr) (fun i _ => xs.length - (intOf i).toNat)
  case atStart => exact ⟨0, by omega, rfl, rfl, RF⟩
  case round =>
    obtain ⟨k, hk, rfl, hE, hR⟩ := hrel
    obtain ⟨m0, m1, m2, mf⟩ := three_cells ((hR.block W.heap.size (by omega)).trans K.out)
    have HE := Lib.hid hE
    clear hE RF
    by_cases hlt : k < xs.length
    · obtain ⟨ea, hlb⟩ := HA.out (by omega)
      subst ea
      have hW := HB.out.trans ((BW.out.trans (hR.mono (by omega))).mono hB)
      have z1 : w1.heap.size ≤ wr.heap.size := hR.size
      have z2 : W.heap.size < wr.heap.size := by omega
      have z3 : b < wr.heap.size := by omega
      obtain ⟨c0, c1, c2⟩ := HC.out k hlt
      have q0 := (hW.cell (p := ⟨b, off + k * 3, none⟩) hlb).trans c0
      have q1 := (hW.cell (p := ⟨b, off + k * 3 + 1, none⟩) hlb).trans c1
      have q2 := (hW.cell (p := ⟨b, off + k * 3 + 2, none⟩) hlb).trans c2
      have TD := Lib.hid (tgsB_drop k hlt)
      have AH := at_has xs k hlt
      have HT := Lib.hid (fun W => tgS_any (xs.getD k default) W (Nat.le_trans (HL.out k hlt) (by omega)))
      have HA2 := Lib.hid (fun (W' : World) (hb' : Below wr.heap.size wr W') => HAt.out W' (xs.getD k default).url (hW.trans (hb'.mono (by omega))))
      have HR := Lib.hid hR
      clear c0 c1 c2 hW hR HAt
      generalize xs.getD k default = x at *
      generalize atF x.url 0 xs = ai at *
      generalize hasU (xs.take k) x.url = c at *
      generalize tgB x = tb at *
      have hd : b < wr.heap.size := z3
      go_wp2_with fail
      cases tb <;> cases c
      all_goals
        refine wp_region_ext (by kernel_rfl) (by kernel_rfl) ?_
        repeat (go_big_quiet_step ((first
          | (go_at_call 59; refine call_ext (v := .bool true) ?_; with_reducible exact HT.out _)
          | (go_at_call 59; refine call_ext (v := .bool false) ?_; with_reducible exact HT.out _)
          | (go_at_call 60; refine call_ext_same (v := .int .i64 ai) ?_; with_reducible exact HA2.out _ (up_below _ _)))))
        refine wpQuiet_nil ?_
        intro _ hw'
        obtain ⟨y8, rfl⟩ := hw'
        have hv8 := up_below _ y8
        generalize up _ y8 = v8 at *
        have D8 := Lib.hid (belI_step HR.out hv8)
        clear hv8 m0 m1 m2 mf q0 q1 q2
      · go_wp2
        go_ret
        exact ⟨ret_b (by rw [HE.out, TD.out]; rfl), BW.out.trans (D8.out.mono (by omega))⟩
      · go_wp2
        go_ret
        exact ⟨ret_b (by rw [HE.out, TD.out]; rfl), BW.out.trans (D8.out.mono (by omega))⟩
      · go_wp2
        go_roundw
        case rel => exact ⟨k + 1, by omega, by go_num, by rw [HE.out, TD.out]; rfl, D8.out⟩
        case measure => simp [intOf]; omega
      · go_wp2
        go_ret
        exact ⟨ret_b (by rw [HE.out, TD.out]; rfl), BW.out.trans (D8.out.mono (by omega))⟩
    · go_wp2
      go_ret
      obtain rfl : k = xs.length := by omega
      exact ⟨ret_b (by rw [HE.out, List.drop_length]; rfl), BW.out.trans (hR.mono (by omega))⟩
end Go.Proofs.YtakiigddbdapaaaGreatDoor.Gr
