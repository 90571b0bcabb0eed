
/-
  The model's functions on rules, walked: l04Name, l04Word, l04At, l03Clean. The model's l03Clean, walked.
-/
import Derived.Test.YtmaknkbmilcanaaGreatDoorPoPlain
namespace Go.Proofs.YtmaknkbmilcanaaGreatDoor.Po
open Go.RowKit
open Go.Proofs.YtmaknkbmilcanaaGreatDoor.Tx
open Go.Proofs.YtmaknkbmilcanaaGreatDoor.Ul hiding ret_bool
open Go.Proofs.YtmaknkbmilcanaaGreatDoor.Cl
open Go.Proofs.YtmaknkbmilcanaaGreatDoor.Aw (nowB wordB)
theorem rn_no (t : List UInt8) (k : Nat) (x : UInt8) (h : k < t.length) (hx : t[k] = x) (hb : (lowB x || (x == 45 && !(k == 0))) = false) : rnB k (t.drop k) = false := by
  rw [List.drop_eq_getElem_cons h, rnB, hx, hb, Bool.false_and]
theorem rn_yes (t : List UInt8) (k : Nat) (x : UInt8) (h : k < t.length) (hx : t[k] = x) (hb : (lowB x || (x == 45 && !(k == 0))) = true) : rnB k (t.drop k) = rnB (k + 1) (t.drop (k + 1)) := by
  rw [List.drop_eq_getElem_cons h, rnB, hx, hb, Bool.true_and]
theorem low_yes (x : UInt8) (h1 : 97 ≤ x.toNat) (h2 : x.toNat ≤ 122) : lowB x = true := by simp [lowB, h1, h2]
theorem low_no (x : UInt8) (h : x.toNat < 97 ∨ 122 < x.toNat) : lowB x = false := by
  unfold lowB
  rcases h with h | h
  · rw [decide_eq_false (by omega)]; rfl
  · rw [decide_eq_false (p := x.toNat ≤ 122) (by omega), Bool.and_false]
theorem dash_of (x : UInt8) : (x == 45) = decide (x.toNat = 45) := by
  by_cases h : x = 45
  · subst h; rfl
  · have : ¬ x.toNat = 45 := fun e => h (UInt8.toNat_inj.1 e)
    simp [h, this]
set_option maxRecDepth 100000 in
set_option maxHeartbeats 1000000 in
theorem nameS_any (t : List UInt8) (w : World) (hl : t.length ≤ 9223372036854775807) : Calls Tryz.prog 159 #[.string ⟨t.toArray⟩] w fun e w' => e = .returned (.bool (rnameB t)) ∧ w = w' := by
  have HI := Lib.hid (fun W => in_any (t.length : Int) 1 24 W)
  by_cases hs : 1 ≤ t.length ∧ t.length ≤ 24
  · have e1 : decide ((1 : Int) ≤ (t.length : Int) ∧ (t.length : Int) ≤ 24) = true := by simp; omega
    rw [e1] at HI
    have E : rnameB t = rnB 0 t := by simp [rnameB, hs]
    have HE := Lib.hid E
    clear e1 E
    go_enter Tryz.func159, Tryz.ntmps159
    go_wp2_with (go_at_call 78; refine (HI.out _).mono ?_; rintro e w' ⟨rfl, rfl⟩)
    go_loop [3] (fun i => ∃ k : Nat, k ≤ t.length ∧ i = .int .i64 k ∧ rnB 0 t = rnB k (t.drop k)) (fun i => t.length - (intOf i).toNat)
    case atStart => exact ⟨0, by omega, rfl, rfl⟩
    case round =>
      obtain ⟨k, hk, rfl, hR⟩ := hrel
      have HR := Lib.hid hR
      clear hR
      by_cases hlt : k < t.length
      · obtain ⟨x, hx, hb⟩ := Ul.byte_at t k hlt
        have NO := Lib.hid (rn_no t k x hlt hx)
        have YES := Lib.hid (rn_yes t k x hlt hx)
        clear hx
        by_cases h1 : 97 ≤ x.toNat ∧ x.toNat ≤ 122
        · have F := Lib.hid (YES.out (by rw [low_yes x h1.1 h1.2]; rfl))
          have d1 : decide ((x.toNat : Int) < 97) = false := by simp; omega
          have d2 : decide ((122 : Int) < x.toNat) = false := by simp; omega
          clear NO YES
          go_wp2
          go_round
          case rel => exact ⟨k + 1, by omega, by go_num, by rw [HR.out, F.out]⟩
          case measure => simp [intOf]; omega
        · have hlo := low_no x (by omega)
          have hd := dash_of x
          by_cases h2 : x.toNat = 45
          · have d1 : decide ((x.toNat : Int) < 97) = true := by simp; omega
            have d3 : ((x.toNat : Int) != 45) = false := by simp [h2]
            by_cases h3 : k = 0
            · have F := Lib.hid (NO.out (by rw [hlo, h3]; simp))
              subst h3
              clear NO YES
              go_wp2
              go_ret
              exact ⟨ret_b (by rw [HE.out, HR.out, F.out]), rfl⟩
            · have F := Lib.hid (YES.out (by rw [hlo, hd]; simp [h2, h3]))
              have d4 : ((k : Int) == 0) = false := by simp; omega
              clear NO YES
              go_wp2
              go_round
              case rel => exact ⟨k + 1, by omega, by go_num, by rw [HR.out, F.out]⟩
              case measure => simp [intOf]; omega
          · have F := Lib.hid (NO.out (by rw [hlo, hd]; simp [h2]))
            have d3 : ((x.toNat : Int) != 45) = true := by simp only [bne_iff_ne, ne_eq]; omega
            clear NO YES
            by_cases h4 : x.toNat < 97
            · have d1 : decide ((x.toNat : Int) < 97) = true := by simp; omega
              go_wp2
              go_ret
              exact ⟨ret_b (by rw [HE.out, HR.out, F.out]), rfl⟩
            · have d1 : decide ((x.toNat : Int) < 97) = false := by simp; omega
              have d2 : decide ((122 : Int) < x.toNat) = true := by simp; omega
              go_wp2
              go_ret
              exact ⟨ret_b (by rw [HE.out, HR.out, F.out]), rfl⟩
      · obtain rfl : k = t.length := by omega
        go_wp2
        go_ret
        exact ⟨ret_b (by rw [HE.out, HR.out, List.drop_length]; rfl), rfl⟩
  · have e1 : decide ((1 : Int) ≤ (t.length : Int) ∧ (t.length : Int) ≤ 24) = false := by simp; omega
    rw [e1] at HI
    have E : rnameB t = false := by simp [rnameB, hs]
    have HE := Lib.hid E
    clear e1 E
    go_enter Tryz.func159, Tryz.ntmps159
    go_wp2_with (go_at_call 78; refine (HI.out _).mono ?_; rintro e w' ⟨rfl, rfl⟩)
    go_ret
    exact ⟨ret_b HE.out.symm, rfl⟩
theorem now_of (x : UInt8) : nowB x = (decide (x.toNat = 32) || decide (x.toNat = 9) || decide (x.toNat = 59)) := by
  have h : ∀ y : UInt8, (x == y) = decide (x.toNat = y.toNat) := fun y => by
    by_cases e : x = y
    · subst e; simp
    · have : ¬ x.toNat = y.toNat := fun e' => e (UInt8.toNat_inj.1 e')
      simp [e, this]
  unfold nowB
  rw [h 32, h 9, h 59]
  rfl
theorem any_drop (t : List UInt8) (k : Nat) (x : UInt8) (h : k < t.length) (hx : t[k] = x) : (t.drop k).any nowB = (nowB x || (t.drop (k + 1)).any nowB) := by
  rw [List.drop_eq_getElem_cons h, List.any_cons, hx]
theorem blank_any (x : UInt8) (w : World) : Calls Tryz.prog 274 #[.int .u8 x.toNat] w fun e w' => e = .returned (.bool (decide (x.toNat = 32) || decide (x.toNat = 9))) ∧ w = w' := by
  by_cases h1 : x.toNat = 32
  · have d1 : ((x.toNat : Int) == 32) = true := by simp [h1]
    go_enter Tryz.func274, Tryz.ntmps274
    go_wp2
    go_ret
    exact ⟨ret_b (by simp [h1]), rfl⟩
  · have d1 : ((x.toNat : Int) == 32) = false := by simp; omega
    have d2 : ((x.toNat : Int) == 9) = decide (x.toNat = 9) := by
      by_cases h : x.toNat = 9
      · simp [h]
      · simp [h]; omega
    go_enter Tryz.func274, Tryz.ntmps274
    go_wp2
    go_ret
    exact ⟨ret_b (by simp [h1]), rfl⟩
set_option maxRecDepth 100000 in
set_option maxHeartbeats 1000000 in
theorem wordS_any (t : List UInt8) (w : World) (hl : t.length ≤ 9223372036854775807) : Calls Tryz.prog 200 #[.string ⟨t.toArray⟩] w fun e w' => e = .returned (.bool (wordB t)) ∧ w = w' := by
  have HE := Lib.hid (show wordB t = (!(t.any nowB) && !t.isEmpty) from rfl)
  go_enter Tryz.func200, Tryz.ntmps200
  go_wp2
  go_loop [3] (fun i => ∃ k : Nat, k ≤ t.length ∧ i = .int .i64 k ∧ t.any nowB = (t.drop k).any nowB) (fun i => t.length - (intOf i).toNat)
  case atStart => exact ⟨0, by omega, rfl, rfl⟩
  case round =>
    obtain ⟨k, hk, rfl, hR⟩ := hrel
    have HR := Lib.hid hR
    clear hR
    by_cases hlt : k < t.length
    · obtain ⟨x, hx, hb⟩ := Ul.byte_at t k hlt
      have D := Lib.hid (any_drop t k x hlt hx)
      have HB := Lib.hid (fun W => blank_any x W)
      have N := Lib.hid (now_of x)
      clear hx
      obtain ⟨c, hc⟩ : ∃ c, (decide (x.toNat = 32) || decide (x.toNat = 9)) = c := ⟨_, rfl⟩
      rw [hc] at HB N
      clear hc
      cases c with
      | true =>
        have F := Lib.hid (show t.any nowB = true by rw [HR.out, D.out, N.out]; rfl)
        go_wp2_with (go_at_call 274; refine (HB.out _).mono ?_; rintro e w' ⟨rfl, rfl⟩)
        go_ret
        exact ⟨ret_b (by rw [HE.out, F.out]; rfl), rfl⟩
      | false =>
        by_cases h1 : x.toNat = 59
        · have d1 : ((x.toNat : Int) == 59) = true := by simp [h1]
          have F := Lib.hid (show t.any nowB = true by rw [HR.out, D.out, N.out, decide_eq_true h1]; rfl)
          clear h1
          go_wp2_with (go_at_call 274; refine (HB.out _).mono ?_; rintro e w' ⟨rfl, rfl⟩)
          go_ret
          exact ⟨ret_b (by rw [HE.out, F.out]; rfl), rfl⟩
        · have d1 : ((x.toNat : Int) == 59) = false := by simp; omega
          have F := Lib.hid (show t.any nowB = (t.drop (k + 1)).any nowB by rw [HR.out, D.out, N.out, decide_eq_false h1]; rfl)
          clear h1
          go_wp2_with (go_at_call 274; refine (HB.out _).mono ?_; rintro e w' ⟨rfl, rfl⟩)
          go_round
          case rel => exact ⟨k + 1, by omega, by go_num, F.out⟩
          case measure => simp [intOf]; omega
    · obtain rfl : k = t.length := by omega
      have F := Lib.hid (show t.any nowB = false by rw [HR.out, List.drop_length]; rfl)
      have G := Lib.hid (show decide (0 < t.length) = !t.isEmpty by cases t <;> simp)
      go_wp2
      go_ret
      exact ⟨ret_b (by rw [HE.out, F.out, G.out]; rfl), rfl⟩
set_option maxRecDepth 100000 in
set_option maxHeartbeats 1000000 in
theorem atS_any (S : Nat → Prop) (xs : List Rl) (v : Value) (u : List UInt8) (w : World) (h : RlIn S w v xs) :
    Calls Tryz.prog 199 #[v, .string ⟨u.toArray⟩] w fun e w' => e = .returned (.int .i64 (atN u 0 xs)) ∧ w = w' := by
  obtain ⟨a, cap, b, off, vs, rfl, hcap, hm, hlen, ha, hc⟩ := h
  have hn : xs.length ≤ 9223372036854775807 := by omega
  have HC := Lib.hid hc
  have HA := Lib.hid ha
  clear hc ha hlen
  go_enter Tryz.func199, Tryz.ntmps199
  go_wp2
  go_loopw [5] (fun i wr => ∃ k : Nat, k ≤ xs.length ∧ i = .int .i64 k ∧ atN u 0 xs = atN u k (xs.drop k) ∧ w = wr) (fun i _ => xs.length - (intOf i).toNat)
  case atStart => exact ⟨0, by omega, rfl, rfl, rfl⟩
  case round =>
    obtain ⟨k, hk, rfl, hE, rfl⟩ := hrel
    have HE := Lib.hid hE
    clear hE
    by_cases hlt : k < xs.length
    · obtain ⟨ea, _⟩ := HA.out (by omega)
      subst ea
      have q0 := (HC.out k hlt).1
      have D := Lib.hid (atN_drop u k hlt)
      generalize (xs.getD k default).name = t at *
      obtain ⟨c, hcc⟩ : ∃ c, (t == u) = c := ⟨_, rfl⟩
      rw [hcc] at D
      cases c with
      | true =>
        go_wp2
        go_ret
        exact ⟨ret_i (by rw [HE.out, D.out]; rfl), rfl⟩
      | false =>
        go_wp2
        go_roundw
        case rel => exact ⟨k + 1, by omega, by go_num, by rw [HE.out, D.out]; simp, trivial⟩
        case measure => simp [intOf]; omega
    · go_wp2
      go_ret
      obtain rfl : k = xs.length := by omega
      exact ⟨ret_i (by rw [HE.out, List.drop_length]; rfl), rfl⟩
end Go.Proofs.YtmaknkbmilcanaaGreatDoor.Po
namespace Go.Proofs.YtmaknkbmilcanaaGreatDoor.Po
open Go.RowKit
open Go.Proofs.YtmaknkbmilcanaaGreatDoor.Tx
open Go.Proofs.YtmaknkbmilcanaaGreatDoor.Ul hiding ret_bool
open Go.Proofs.YtmaknkbmilcanaaGreatDoor.Cl
set_option maxRecDepth 100000 in
set_option maxHeartbeats 4000000 in
theorem cleanS_any (t : List UInt8) (W : World) (hl : t.length ≤ 4294967280) :
    Calls Tryz.prog 184 #[.string ⟨t.toArray⟩] W fun e w' => e = .returned (.tuple #[.string ⟨(cleanL t).toArray⟩, .bool (cleanC t)]) ∧ Below W.heap.size W w' := by
  have HP := Lib.hid (fun W => parseS_any t W (Nat.le_trans hl (by omega)))
  have px := parseX_port t
  have sx := parseX_size t hl
  obtain ⟨e1, e2⟩ := clean_same t
  rw [← e1, ← e2]
  clear e1 e2
  unfold cleanSL cleanSC
  generalize parseB t = pb at *
  generalize parseX t = x at *
  obtain ⟨s, us, h, pr, pa, qu, f, hq, hf⟩ := x
  have HT := Lib.hid (fun W => text_any (nofrag ⟨s, us, h, pr, pa, qu, f, hq, hf⟩) W px (by simp [nofrag, sizeU] at sx ⊢; omega))
  have HW := Lib.hid (fun W => web_any s W)
  clear px sx hl
  simp only [nofrag] at *
  generalize textL ⟨s, us, h, pr, pa, qu, [], hq, false⟩ = tx at *
  generalize webB s = wb at *
  go_enter Tryz.func184, Tryz.ntmps184
  go_wp2_with fail
  refine (HP.out _).mono ?_
  rintro e w1 ⟨rfl, hb1⟩
  have U1 := UAt.new w1 ⟨s, us, h, pr, pa, qu, f, hq, hf⟩
  obtain ⟨q0, q1, q2, q3, q4, q5, q6, q7, q8, -⟩ := U1
  have D := Lib.hid (hb1.alloc hb1.size (.cells #[.string ⟨s.toArray⟩, .string ⟨us.toArray⟩, .string ⟨h.toArray⟩, .int .i64 pr, .string ⟨pa.toArray⟩, .string ⟨qu.toArray⟩, .string ⟨f.toArray⟩, .bool hq, .bool hf] 264))
  have HB1 := Lib.hid hb1
  clear hb1 HP
  cases pb
  · go_wp2
    exact bodyPost_ret (v := .tuple #[.string ⟨#[]⟩, .bool false]) (by simp [results, Tryz.results184, go_sem]) rfl ⟨rfl, D.out⟩
  cases wb
  · go_wp2_with (go_at_call 260; refine (HW.out _).mono ?_; rintro e w' ⟨rfl, rfl⟩)
    exact bodyPost_ret (v := .tuple #[.string ⟨#[]⟩, .bool false]) (by simp [results, Tryz.results184, go_sem]) rfl ⟨rfl, D.out⟩
  · go_wp2_with (first
      | (go_at_call 260; refine (HW.out _).mono ?_; rintro e w' ⟨rfl, rfl⟩))
    refine (HT.out _).mono ?_
    rintro e w3 ⟨rfl, hb3⟩
    have D3 := Lib.hid (belI_step (HB1.out.alloc HB1.out.size _) hb3)
    clear hb3
    go_wp2
    exact bodyPost_ret (v := .tuple #[.string ⟨tx.toArray⟩, .bool true]) (by simp [results, Tryz.results184, go_sem]) rfl ⟨rfl, D3.out⟩
end Go.Proofs.YtmaknkbmilcanaaGreatDoor.Po
