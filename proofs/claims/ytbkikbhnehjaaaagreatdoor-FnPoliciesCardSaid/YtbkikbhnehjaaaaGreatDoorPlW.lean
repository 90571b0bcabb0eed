
/-
  The law FnPolicies, walked.
-/
import Derived.Test.YtbkikbhnehjaaaaGreatDoorPlA
import Derived.Deep.RegionHeld3
import Derived.Handy
namespace Go.Proofs.YtbkikbhnehjaaaaGreatDoor.Pl
open Go.RowKit
open Go.Proofs.YtbkikbhnehjaaaaGreatDoor.Po
open Go.Proofs.YtbkikbhnehjaaaaGreatDoor.Rp
open Go.Proofs.YtbkikbhnehjaaaaGreatDoor.Tx hiding ret_b ret_i
open Go.Proofs.YtbkikbhnehjaaaaGreatDoor.Ow (O1 ORs Hd)
open Go.Proofs.YtbkikbhnehjaaaaGreatDoor.Ul (Tab MaxL)
open Go.Proofs.YtbkikbhnehjaaaaGreatDoor.Ug (Tg Gp TgIn O3 gV gO tsK tsK_len ugG ugC ug_small uriS2 uriI2)
open Go.Proofs.YtbkikbhnehjaaaaGreatDoor.Dr (CodeIn TextsAt line_any)
/-- block b holds the policy p, its texts and rules lie below -/
def PIn (w : World) (b : Nat) (p : Pl) : Prop := ∃ (a1 : Option Addr) (l1 c1 : Nat) (a2 : Option Addr) (l2 c2 : Nat), Hd w b (xO p (.slice a1 l1 c1) (.slice a2 l2 c2)) ∧ TxtsIn (· < w.heap.size) w (.slice a1 l1 c1) p.uris ∧ RlIn (· < w.heap.size) w (.slice a2 l2 c2) p.rules
theorem PIn.blw {w w' : World} {b : Nat} {p : Pl} (h : PIn w b p) (hb : Below w.heap.size w w') : PIn w' b p := by
  obtain ⟨a1, l1, c1, a2, l2, c2, h1, h2, h3⟩ := h
  exact ⟨a1, l1, c1, a2, l2, c2, h1.blw hb, h2.later (fun _ hb => hb) hb, h3.later (fun _ hb => hb) hb⟩
theorem PIn.new {w : World} {p : Pl} {a1 : Option Addr} {l1 c1 : Nat} {a2 : Option Addr} {l2 c2 : Nat} (h2 : TxtsIn (· < w.heap.size) w (.slice a1 l1 c1) p.uris) (h3 : RlIn (· < w.heap.size) w (.slice a2 l2 c2) p.rules) : PIn (w.alloc (xO p (.slice a1 l1 c1) (.slice a2 l2 c2))) w.heap.size p := by
  have hal := (Below.refl w.heap.size w).alloc (Nat.le_refl _) (xO p (.slice a1 l1 c1) (.slice a2 l2 c2))
  exact ⟨a1, l1, c1, a2, l2, c2, Hd.new _ _, h2.later (fun _ hb => hb) hal, h3.later (fun _ hb => hb) hal⟩
/-- block b holds the group g -/
def GIn (w : World) (b : Nat) (g : Gp) : Prop := ∃ (a : Option Addr) (l c : Nat), Hd w b (gO g.name g.age (.slice a l c)) ∧ TgIn (· < w.heap.size) w (.slice a l c) g.tgs
theorem GIn.blw {w w' : World} {b : Nat} {g : Gp} (h : GIn w b g) (hb : Below w.heap.size w w') : GIn w' b g := by
  obtain ⟨a, l, c, h1, h2⟩ := h
  exact ⟨a, l, c, h1.blw hb, h2.later (fun _ hb => hb) hb⟩
theorem GIn.new {w : World} {g : Gp} {a : Option Addr} {l c : Nat} (h2 : TgIn (· < w.heap.size) w (.slice a l c) g.tgs) : GIn (w.alloc (gO g.name g.age (.slice a l c))) w.heap.size g := by
  have hal := (Below.refl w.heap.size w).alloc (Nat.le_refl _) (gO g.name g.age (.slice a l c))
  exact ⟨a, l, c, Hd.new _ _, h2.later (fun _ hb => hb) hal⟩
/-- a policy that is read, plainly -/
def RdP (p : Pl) (C : Int) (W : World) (e : Ending) (w' : World) : Prop :=
  ∃ (a1 : Option Addr) (l1 c1 : Nat) (a2 : Option Addr) (l2 c2 : Nat), e = .returned (.tuple #[pV p (.slice a1 l1 c1) (.slice a2 l2 c2), .int .i64 C]) ∧ TxtsIn (· < w'.heap.size) w' (.slice a1 l1 c1) p.uris ∧ RlIn (· < w'.heap.size) w' (.slice a2 l2 c2) p.rules ∧ Below W.heap.size W w'
theorem rdI (t : List UInt8) (hn : t.length ≤ 9223372036854775807) (p : Pl) (C : Int) (hp : rpP t = p) (hC : rpC t = C) (W : World) (hT : Tab W) (hM : MaxL W) : Calls Tryz.prog 42 #[.string ⟨t.toArray⟩] W (RdP p C W) := by
  have sm := sm_rp t hn
  rw [hp] at sm
  refine (rpI2 t hn p C hp hC W hT hM).mono ?_
  rintro e w' ⟨uv, rv, vs, L, rfl, h1, h2, h3, h4, h5, h6⟩
  have t1 := (h3.txts (fun u hu => Nat.le_trans (sm.uri u hu) (by omega)) (by have := sm.uris; omega)).mono (S' := (· < w'.heap.size)) fun _ hb => hb.2
  have t2 := (h4.rl (by omega) sm.lim).mono (S' := (· < w'.heap.size)) fun _ hb => hb.2
  obtain ⟨a1, l1, c1, rfl⟩ := t1.slice
  obtain ⟨a2, l2, c2, rfl⟩ := t2.slice
  exact ⟨_, _, _, _, _, _, rfl, t1, t2, h6⟩
theorem rdS (t : List UInt8) (hn : t.length ≤ 9223372036854775807) (p : Pl) (C : Int) (hp : rpP t = p) (hC : rpC t = C) (W : World) : Calls Tryz.prog 43 #[.string ⟨t.toArray⟩] W (RdP p C W) := by
  refine (rpS2 t hn p C hp hC W).mono ?_
  rintro e w' ⟨uv, rv, rfl, h1, h2, h3⟩
  obtain ⟨a1, l1, c1, rfl⟩ := h1.slice
  obtain ⟨a2, l2, c2, rfl⟩ := h2.slice
  exact ⟨_, _, _, _, _, _, rfl, h1.mono fun _ hb => hb.2, h2.mono fun _ hb => hb.2, h3⟩
/-- a group that is made, plainly -/
def UgP (g : Gp) (C : Int) (W : World) (e : Ending) (w' : World) : Prop :=
  ∃ (a : Option Addr) (l c : Nat), e = .returned (.tuple #[gV g (.slice a l c), .int .i64 C]) ∧ TgIn (· < w'.heap.size) w' (.slice a l c) g.tgs ∧ Below W.heap.size W w'
theorem ugI (p : Pl) (sm : Small p) (W : World) (u v : Value) (h : TxtsIn (· < W.heap.size) W u p.uris) (h2 : RlIn (· < W.heap.size) W v p.rules) (hT : Tab W) (hM : MaxL W) : Calls Tryz.prog 49 #[pV p u v] W (UgP (ugG p) (ugC p) W) := by
  refine (uriI2 p _ _ rfl rfl W W u v h h2 sm (Below.refl _ _) (Nat.le_refl _) hT hM).mono ?_
  rintro e w' ⟨tv, rfl, h3, h4⟩
  have t1 := (h3.tg (ug_small p sm).2).mono (S' := (· < w'.heap.size)) fun _ hb => hb.2
  obtain ⟨a, l, c, rfl⟩ := t1.slice
  exact ⟨_, _, _, rfl, t1, h4⟩
theorem ugS (p : Pl) (sm : Small p) (W : World) (u v : Value) (h : TxtsIn (· < W.heap.size) W u p.uris) (h2 : RlIn (· < W.heap.size) W v p.rules) : Calls Tryz.prog 50 #[pV p u v] W (UgP (ugG p) (ugC p) W) := by
  refine (uriS2 p _ _ rfl rfl W u v h h2 sm).mono ?_
  rintro e w' ⟨tv, rfl, h3, h4⟩
  have t1 := (h3.tg (ug_small p sm).2).mono (S' := (· < w'.heap.size)) fun _ hb => hb.2
  obtain ⟨a, l, c, rfl⟩ := t1.slice
  exact ⟨_, _, _, rfl, t1, h4⟩
/-- what one line comes to: the state ahead of a round and behind it -/
def RoundSt (w : World) (G : Nat) (ts : List (List UInt8)) (wr : World) : Prop := TextsAt wr G ts ∧ G < wr.heap.size ∧ Below w.heap.size w wr
theorem RoundSt.blw {w : World} {G : Nat} {ts : List (List UInt8)} {wr w' : World} (h : RoundSt w G ts wr) (hb : Below wr.heap.size wr w') : RoundSt w G ts w' :=
  ⟨h.1.below hb h.2.1, Nat.lt_of_lt_of_le h.2.1 hb.size, h.2.2.trans (hb.mono h.2.2.size)⟩
theorem below_drewP (w : World) (n : Nat) : Below w.heap.size w (w.drewN n) := ⟨rfl, rfl, rfl, Nat.le_refl _, fun _ _ => rfl⟩
theorem ug_same (p : Pl) (hok : plB p = true) (hg : ¬ p.uris.length = 0 → Sg.gpB ⟨uriL, 100, tsK p.uris p.uris.length⟩ = true) (h : ugC p = 0) : Sg.sameG (ugG p) (ugG p) = true := by
  unfold ugC at h
  rw [hok] at h
  by_cases h0 : p.uris.length = 0
  · simp [h0] at h
  · have e : ugG p = ⟨uriL, 100, tsK p.uris p.uris.length⟩ := by unfold ugG; rw [hok]; simp [h0]
    rw [e]
    simp [Sg.sameG, Sg.same3, hg h0]
theorem for_rep (p : Pl) (hok : plB p = true) : (p.rep != []) = false ∨ ((p.rep != []) = true ∧ forC p = 0 ∧ forT p = p.rep) := by
  by_cases h : p.rep = []
  · exact .inl (by simp [h])
  · refine .inr ⟨by simpa using h, ?_, ?_⟩
    · unfold forC; rw [hok]; simp [h]
    · unfold forT; rw [hok]; simp [h]
set_option maxRecDepth 100000 in
set_option maxHeartbeats 16000000 in
theorem policies_in (a b : Option Addr) (n m cn cm : Nat) (_ t3 : List UInt8) (w : World) (hT : Tab w) (hM : MaxL w) (y0 : ¬ 1048576 < n) (y1 : ¬ 1048576 < m) (hcm : m ≤ cm) (ht3 : t3.length ≤ 1000)
    (HD0 : ∀ W : World, Below w.heap.size w W → Calls Tryz.prog 41 #[.slice a n cn] W fun e w' => ∃ t : List UInt8, e = .returned (.string ⟨t.toArray⟩) ∧ t.length ≤ 1000 ∧ Below W.heap.size W w')
    (HC0 : ∀ (W : World) (cap : Nat), Below w.heap.size w W → (convert 65 9 (.slice b (min (m : Int) 120).toNat cap)).run Tryz.prog W = .ok (.string ⟨t3.toArray⟩) W) :
    Calls Tryz.prog 10 #[.slice a n cn, .slice b m cm] w fun e w' => e = .returned (.bool true) ∧ Below w.heap.size w w' := by
  have HM := Lib.hid hM
  have HT := Lib.hid hT
  have HD := Lib.hid HD0
  have HC := Lib.hid HC0
  have B5 : Below w.heap.size w w := Below.refl _ _
  have g1 : decide ((1048576 : Int) < (n : Int)) = false := by simp; omega
  have g2 : decide ((1048576 : Int) < (m : Int)) = false := by simp; omega
  clear hM hT HD0 HC0
  go_enter Tryz.func10, Tryz.ntmps10
  go_wp2_with fail
  have HC' := HC.out
  have k1 : (0 : Int) ≤ min (m : Int) 120 := by omega
  have k2 : min (m : Int) 120 ≤ (cm : Int) := by omega
  go_region_held3 (fun wx => Below w.heap.size w wx ∧ w.heap.size ≤ wx.heap.size)
    (first
      | exact ⟨B5.drew, Nat.le_refl _⟩
      | (go_split_ands; exact ⟨belI_alloc (by assumption), by simp; omega⟩)
      | (go_split_ands; exact ⟨belI_step (by assumption) hb, Nat.le_trans (by assumption) hb.size⟩))
    (first
      | (go_split_ands; go_at_call 41; refine (HD.out _ (by assumption)).mono ?_; rintro e v0 ⟨t0, rfl, lt0, hb⟩))
  all_goals
    go_split_ands
    have hB0 : Below w.heap.size w v0 := by first | (with_reducible assumption) | exact belI_step (by assumption) hb
    clear HC' k1 k2
    have HTX := Dr.texts_new v0 [t0, t3] 9
    have hal0 := (Below.refl v0.heap.size v0).alloc (Nat.le_refl _) (.cells #[.string ⟨t0.toArray⟩, .string ⟨t3.toArray⟩] 9)
    have HST := Lib.hid (show RoundSt w v0.heap.size [t0, t3] (v0.alloc (.cells #[.string ⟨t0.toArray⟩, .string ⟨t3.toArray⟩] 9)) from ⟨HTX, by simp, Below.trans hB0 (hal0.mono hB0.size)⟩)
    clear HTX hal0 hb hB0
    go_wp2_with fail
    go_loopw [6] (fun i wr => ∃ k : Nat, k ≤ 2 ∧ i = .int .i64 k ∧ RoundSt w v0.heap.size [t0, t3] wr) (fun i _ => 2 - (intOf i).toNat)
    case atStart => exact ⟨0, by omega, rfl, HST.out⟩
    case round =>
      as_aux_lemma =>
        obtain ⟨k, hk, rfl, hS⟩ := hrel
        have S0 := Lib.hid hS
        by_cases hlt : k < 2
        · have hx : ([t0, t3].getD k []).length ≤ 1000 := by
            rcases (show k = 0 ∨ k = 1 by omega) with rfl | rfl
            · exact lt0
            · exact ht3
          have q0 := hS.1 k hlt
          obtain ⟨x, hxe⟩ : ∃ x, [t0, t3].getD k [] = x := ⟨_, rfl⟩
          rw [hxe] at q0 hx
          have HX := Lib.hid hxe
          have FA := Lib.hid (fun h => facts x hx h)
          have SM := Lib.hid (small_rp x (by omega))
          obtain ⟨p, hp⟩ : ∃ p, rpP x = p := ⟨_, rfl⟩
          obtain ⟨C, hC⟩ : ∃ C, rpC x = C := ⟨_, rfl⟩
          have RI := Lib.hid (fun W hT hM => rdI x (by omega) p C hp hC W hT hM)
          have RS := Lib.hid (fun W => rdS x (by omega) p C hp hC W)
          rw [hp] at FA SM
          rw [hC] at FA
          have ecc : (C != C) = false := by simp
          have err : (p.rep != p.rep) = false := by simp
          have euu : (p.uris == p.uris) = true := by simp
          have HSL := Lib.hid (fun (W : World) (u v : Value) (h1 : TxtsIn (· < W.heap.size) W u p.uris) (h2 : TxtsIn (· < W.heap.size) W v p.uris) => (sameL_any _ _ p.uris p.uris u v W h1 h2).mono (fun e w' ⟨h3, n, h4⟩ => show e = Ending.returned (.bool true) ∧ Below W.heap.size W w' from ⟨by rw [h3, euu], h4 ▸ below_drewP W n⟩))
          clear hS hp hC hxe euu
          go_wp2_with fail
          refine (RI.out wr (HT.out.below S0.out.2.2) (HM.out.below S0.out.2.2)).mono ?_
          rintro e w1 ⟨a1, l1, c1, a2, l2, c2, rfl, ht1, hr1, hb1⟩
          have hal := (Below.refl w1.heap.size w1).alloc (Nat.le_refl _) (xO p (.slice a1 l1 c1) (.slice a2 l2 c2))
          have P7 := Lib.hid (PIn.new ht1 hr1)
          have S1 := Lib.hid ((S0.out.blw hb1).blw hal)
          have q0 := S1.out.1 k hlt
          rw [HX.out] at q0
          clear ht1 hr1 hb1 hal S0
          go_wp2_with fail
          refine (RS.out _).mono ?_
          rintro e w2 ⟨a3, l3, c3, a4, l4, c4, rfl, ht2, hr2, hb2⟩
          have hal := (Below.refl w2.heap.size w2).alloc (Nat.le_refl _) (xO p (.slice a3 l3 c3) (.slice a4 l4 c4))
          have P9 := Lib.hid (PIn.new ht2 hr2)
          have P7 := Lib.hid ((P7.out.blw hb2).blw hal)
          have S2 := Lib.hid ((S1.out.blw hb2).blw hal)
          clear ht2 hr2 hb2 hal S1 q0
          obtain ⟨d1, i1, j1, d2, i2, j2, hd7, hT7, hR7⟩ := P7.out
          obtain ⟨d3, i3, j3, d4, i4, j4, hd9, hT9, hR9⟩ := P9.out
          have HS3 := Lib.hid (HSL.out _ _ _ hT7 hT9)
          obtain ⟨m0, m1, m2, -⟩ := hd7.cells
          obtain ⟨n0, n1, n2, -⟩ := hd9.cells
          clear hT7 hR7 hT9 hR9 hd7 hd9
          by_cases hC0 : C = 0
          · subst hC0
            have F := FA.out rfl
            have hpc : ptC p = 0 := by unfold ptC; rw [F.ok]; rfl
            have HPI0 := fun (W : World) (u v : Value) (h1 : TxtsIn (· < W.heap.size) W u p.uris) (h2 : RlIn (· < W.heap.size) W v p.rules) (hT : Tab W) (hM : MaxL W) => ptextI_any W.heap.size W p u v h1 h2 SM.out W (Below.refl _ _) (Nat.le_refl _) hT hM
            have HPS0 := fun (W : World) (u v : Value) (h1 : TxtsIn (· < W.heap.size) W u p.uris) (h2 : RlIn (· < W.heap.size) W v p.rules) => ptextS_any W.heap.size W p u v h1 h2 SM.out W (Below.refl _ _) (Nat.le_refl _)
            have HGI := Lib.hid (fun (W : World) (u v : Value) (h1 : TxtsIn (· < W.heap.size) W u p.uris) (h2 : RlIn (· < W.heap.size) W v p.rules) (hT : Tab W) (hM : MaxL W) => forI_any W.heap.size W p u v h1 h2 SM.out W (Below.refl _ _) (Nat.le_refl _) hT hM)
            have HGS := Lib.hid (fun (W : World) (u v : Value) (h1 : TxtsIn (· < W.heap.size) W u p.uris) (h2 : RlIn (· < W.heap.size) W v p.rules) => forS_any W.heap.size W p u v h1 h2 SM.out W (Below.refl _ _) (Nat.le_refl _))
            have HUI := Lib.hid (fun (W : World) (u v : Value) h1 h2 hT hM => ugI p SM.out W u v h1 h2 hT hM)
            have HUS := Lib.hid (fun (W : World) (u v : Value) h1 h2 => ugS p SM.out W u v h1 h2)
            have HOK0 := fun (W : World) (u v : Value) (h1 : TxtsIn (· < W.heap.size) W u p.uris) (h2 : RlIn (· < W.heap.size) W v p.rules) (hT : Tab W) (hM : MaxL W) => polI_any W.heap.size W p u v h1 h2 SM.out W (Below.refl _ _) (Nat.le_refl _) hT hM
            have hgn : (ugG p).name.length ≤ 1048576 := by unfold ugG; split <;> (try split) <;> simp [uriL]
            have HSG := Lib.hid (fun (h : ugC p = 0) (W : World) (v v' : Value) (h1 : TgIn (· < W.heap.size) W v (ugG p).tgs) (h2 : TgIn (· < W.heap.size) W v' (ugG p).tgs) (hT : Tab W) (hM : MaxL W) => (Sg.sameGI W.heap.size W (ugG p) (ugG p) v v' h1 h2 hgn W (Below.refl _ _) (Nat.le_refl _) hT hM).mono (fun e w' ⟨h3, h4⟩ => show e = Ending.returned (.bool true) ∧ Below W.heap.size W w' from ⟨by rw [h3, ug_same p F.ok F.grp h], h4⟩))
            have hfr := for_rep p F.ok
            have htx := F.fit
            have hbk := F.back
            have hcd := F.code
            rw [F.ok] at HOK0
            obtain ⟨tx, hte⟩ : ∃ tx, ptT p = tx := ⟨_, rfl⟩
            rw [hte] at htx hbk hcd HPI0 HPS0
            rw [hpc] at HPI0 HPS0
            have HPI := Lib.hid HPI0
            have HPS := Lib.hid HPS0
            have HOK := Lib.hid HOK0
            have RB := Lib.hid (fun W hT hM => rdI tx (by omega) p 0 hbk hcd W hT hM)
            clear F HPI0 HPS0 HOK0 hte hbk hcd hpc hgn FA SM RI RS
            generalize forT p = ft at *
            generalize forC p = fc at *
            generalize ugG p = gg at *
            generalize ugC p = uc at *
            as_aux_lemma =>
              go_wp2_with (go_at_call 44; refine HS3.out.mono ?_; rintro e w3 ⟨rfl, hb3⟩; have P7 := Lib.hid (P7.out.blw hb3); have P9 := Lib.hid (P9.out.blw hb3); have S3 := Lib.hid (S2.out.blw hb3); obtain ⟨d1, i1, j1, d2, i2, j2, hd7, hT7, hR7⟩ := P7.out; have HC3 := Lib.hid (HPI.out w3 _ _ hT7 hR7 (HT.out.below S3.out.2.2) (HM.out.below S3.out.2.2)); clear hb3 m0 m1 m2 n0 n1 n2 HS3 hT7 hR7 S2; obtain ⟨m0, m1, m2, -⟩ := hd7.cells; clear hd7)
              refine HC3.out.mono ?_
              rintro e w4 ⟨rfl, hb4⟩
              have P7 := Lib.hid (P7.out.blw hb4)
              have P9 := Lib.hid (P9.out.blw hb4)
              have S4 := Lib.hid (S3.out.blw hb4)
              clear hb4 m0 m1 m2 HC3 S3
              obtain ⟨d1, i1, j1, d2, i2, j2, hd7, hT7, hR7⟩ := P9.out
              have HC5 := Lib.hid (HPS.out _ _ _ hT7 hR7)
              obtain ⟨m0, m1, m2, -⟩ := hd7.cells
              clear hd7 hT7 hR7
              go_wp2_with fail
              refine HC5.out.mono ?_
              rintro e w5 ⟨rfl, hb5⟩
              have P7 := Lib.hid (P7.out.blw hb5)
              have P9 := Lib.hid (P9.out.blw hb5)
              have S5 := Lib.hid (S4.out.blw hb5)
              clear hb5 m0 m1 m2 HC5 S4
              as_aux_lemma =>
                go_wp2_with fail
                refine (RB.out _ (HT.out.below S5.out.2.2) (HM.out.below S5.out.2.2)).mono ?_
                rintro e w6 ⟨a5, l5, c5, a6, l6, c6, rfl, ht6, hr6, hb6⟩
                have hal := (Below.refl w6.heap.size w6).alloc (Nat.le_refl _) (xO p (.slice a5 l5 c5) (.slice a6 l6 c6))
                have P15 := Lib.hid (PIn.new ht6 hr6)
                have P7 := Lib.hid ((P7.out.blw hb6).blw hal)
                have P9 := Lib.hid ((P9.out.blw hb6).blw hal)
                have S6 := Lib.hid ((S5.out.blw hb6).blw hal)
                clear ht6 hr6 hb6 hal S5
                obtain ⟨d1, i1, j1, d2, i2, j2, hd7, hT7, hR7⟩ := P15.out
                have HC7 := Lib.hid (HPI.out _ _ _ hT7 hR7 (HT.out.below S6.out.2.2) (HM.out.below S6.out.2.2))
                obtain ⟨m0, m1, m2, -⟩ := hd7.cells
                clear hd7 hT7 hR7
                go_wp2_with fail
                refine HC7.out.mono ?_
                rintro e w7 ⟨rfl, hb7⟩
                have P7 := Lib.hid (P7.out.blw hb7)
                have P9 := Lib.hid (P9.out.blw hb7)
                have S7 := Lib.hid (S6.out.blw hb7)
                clear hb7 m0 m1 m2 HC7 S6 P15 RB HPI HPS
                as_aux_lemma =>
                  obtain ⟨d1, i1, j1, d2, i2, j2, hd7, hT7, hR7⟩ := P7.out
                  have HC8 := Lib.hid (HGI.out _ _ _ hT7 hR7 (HT.out.below S7.out.2.2) (HM.out.below S7.out.2.2))
                  obtain ⟨m0, m1, m2, -⟩ := hd7.cells
                  clear hd7 hT7 hR7
                  go_wp2_with fail
                  refine HC8.out.mono ?_
                  rintro e w8 ⟨rfl, hb8⟩
                  have P7 := Lib.hid (P7.out.blw hb8)
                  have P9 := Lib.hid (P9.out.blw hb8)
                  have S8 := Lib.hid (S7.out.blw hb8)
                  clear hb8 m0 m1 m2 HC8 S7
                  obtain ⟨d1, i1, j1, d2, i2, j2, hd7, hT7, hR7⟩ := P9.out
                  have HC9 := Lib.hid (HGS.out _ _ _ hT7 hR7)
                  obtain ⟨m0, m1, m2, -⟩ := hd7.cells
                  clear hd7 hT7 hR7
                  go_wp2_with fail
                  refine HC9.out.mono ?_
                  rintro e w9 ⟨rfl, hb9⟩
                  have P7 := Lib.hid (P7.out.blw hb9)
                  have P9 := Lib.hid (P9.out.blw hb9)
                  have S9 := Lib.hid (S8.out.blw hb9)
                  clear hb9 m0 m1 m2 HC9 S8
                  as_aux_lemma =>
                    obtain ⟨d1, i1, j1, d2, i2, j2, hd7, hT7, hR7⟩ := P7.out
                    have HC10 := Lib.hid (HUI.out _ _ _ hT7 hR7 (HT.out.below S9.out.2.2) (HM.out.below S9.out.2.2))
                    obtain ⟨m0, m1, m2, -⟩ := hd7.cells
                    clear hd7 hT7 hR7
                    go_wp2_with fail
                    refine HC10.out.mono ?_
                    rintro e w10 ⟨a7, l7, c7, rfl, hg10, hb10⟩
                    have hal := (Below.refl w10.heap.size w10).alloc (Nat.le_refl _) (gO gg.name gg.age (.slice a7 l7 c7))
                    have Q23 := Lib.hid (GIn.new (g := gg) hg10)
                    have P7 := Lib.hid ((P7.out.blw hb10).blw hal)
                    have P9 := Lib.hid ((P9.out.blw hb10).blw hal)
                    have S10 := Lib.hid ((S9.out.blw hb10).blw hal)
                    clear hg10 hb10 hal S9 m0 m1 m2 HC10
                    obtain ⟨d1, i1, j1, d2, i2, j2, hd7, hT7, hR7⟩ := P9.out
                    have HC11 := Lib.hid (HUS.out _ _ _ hT7 hR7)
                    obtain ⟨m0, m1, m2, -⟩ := hd7.cells
                    clear hd7 hT7 hR7
                    go_wp2_with fail
                    refine HC11.out.mono ?_
                    rintro e w11 ⟨a8, l8, c8, rfl, hg11, hb11⟩
                    have hal := (Below.refl w11.heap.size w11).alloc (Nat.le_refl _) (gO gg.name gg.age (.slice a8 l8 c8))
                    have Q25 := Lib.hid (GIn.new (g := gg) hg11)
                    have P7 := Lib.hid ((P7.out.blw hb11).blw hal)
                    have P9 := Lib.hid ((P9.out.blw hb11).blw hal)
                    have Q23 := Lib.hid ((Q23.out.blw hb11).blw hal)
                    have S11 := Lib.hid ((S10.out.blw hb11).blw hal)
                    clear hg11 hb11 hal S10 m0 m1 m2 HC11 HGI HGS HUI HUS
                    as_aux_lemma =>
                      obtain ⟨d1, i1, j1, d2, i2, j2, hd7, hT7, hR7⟩ := P7.out
                      have HC12 := Lib.hid (HOK.out _ _ _ hT7 hR7 (HT.out.below S11.out.2.2) (HM.out.below S11.out.2.2))
                      obtain ⟨m0, m1, m2, -⟩ := hd7.cells
                      clear hd7 hT7 hR7 HOK P7
                      have ett : (tx != tx) = false := by simp
                      have efc : (fc != fc) = false := by simp
                      have eft : (ft != ft) = false := by simp
                      have euc : (uc != uc) = false := by simp
                      go_wp2_with fail
                      refine HC12.out.mono ?_
                      rintro e w12 ⟨rfl, hb12⟩
                      have P9 := Lib.hid (P9.out.blw hb12)
                      have Q23 := Lib.hid (Q23.out.blw hb12)
                      have Q25 := Lib.hid (Q25.out.blw hb12)
                      have S12 := Lib.hid (S11.out.blw hb12)
                      obtain ⟨a9, l9, c9, hq3, hG3⟩ := Q23.out
                      obtain ⟨a10, l10, c10, hq5, hG5⟩ := Q25.out
                      obtain ⟨d3, i3, j3, d4, i4, j4, hd9, -, -⟩ := P9.out
                      have HC13 := Lib.hid (fun hu => HSG.out hu _ _ _ hG3 hG5 (HT.out.below S12.out.2.2) (HM.out.below S12.out.2.2))
                      clear m0 m1 m2 hb12 S11 HC12
                      obtain ⟨g0, g1, g2, -⟩ := hq3.cells
                      obtain ⟨h0, h1, h2, -⟩ := hq5.cells
                      obtain ⟨n0, n1, n2, -⟩ := hd9.cells
                      clear hq3 hq5 hd9 hG3 hG5 HSG Q23 Q25
                      by_cases hu : uc = 0
                      · have du : (uc == 0) = true := by simp [hu]
                        have HC13 := Lib.hid (HC13.out hu)
                        clear hu
                        go_wp2_with fail
                        refine HC13.out.mono ?_
                        rintro e w13 ⟨rfl, hb13⟩
                        have P9 := Lib.hid (P9.out.blw hb13)
                        have SF := Lib.hid (S12.out.blw hb13)
                        obtain ⟨d3, i3, j3, d4, i4, j4, hd9, -, -⟩ := P9.out
                        clear n0 n1 n2 g0 g1 g2 h0 h1 h2 hb13 HC13 S12
                        obtain ⟨n0, n1, n2, -⟩ := hd9.cells
                        clear hd9 P9
                        as_aux_lemma =>
                          rcases hfr with hr | ⟨hr, h2, h3⟩
                          · obtain ⟨bf, hbf⟩ : ∃ b, (fc == 0) = b := ⟨_, rfl⟩
                            cases bf
                            all_goals
                              go_wp2
                              all_goals first
                                | exact absurd (show p.rep = [] by simpa using hr) ‹¬p.rep = []›
                                | (go_roundw
                                   case rel => exact ⟨k + 1, by omega, by go_num, SF.out⟩
                                   case measure => simp [intOf]; omega)
                          · subst h2 h3
                            have hn : ¬p.rep = [] := by simpa using hr
                            go_wp2
                            all_goals first
                              | exact absurd ‹p.rep = []› hn
                              | (go_roundw
                                 case rel => exact ⟨k + 1, by omega, by go_num, SF.out⟩
                                 case measure => simp [intOf]; omega)
                      · have du : (uc == 0) = false := by simpa using hu
                        clear hu HC13
                        as_aux_lemma =>
                          rcases hfr with hr | ⟨hr, h2, h3⟩
                          · obtain ⟨bf, hbf⟩ : ∃ b, (fc == 0) = b := ⟨_, rfl⟩
                            cases bf
                            all_goals
                              go_wp2
                              all_goals first
                                | exact absurd (show p.rep = [] by simpa using hr) ‹¬p.rep = []›
                                | (go_roundw
                                   case rel => exact ⟨k + 1, by omega, by go_num, S12.out⟩
                                   case measure => simp [intOf]; omega)
                          · subst h2 h3
                            have hn : ¬p.rep = [] := by simpa using hr
                            go_wp2
                            all_goals first
                              | exact absurd ‹p.rep = []› hn
                              | (go_roundw
                                 case rel => exact ⟨k + 1, by omega, by go_num, S12.out⟩
                                 case measure => simp [intOf]; omega)
          · have c0 : (C != 0) = true := by simpa using hC0
            clear hC0 FA SM RI RS
            go_wp2_with (go_at_call 44; refine HS3.out.mono ?_; rintro e w3 ⟨rfl, hb3⟩; have S3 := Lib.hid (S2.out.blw hb3); clear hb3 m0 m1 m2 n0 n1 n2)
            go_roundw
            case rel => exact ⟨k + 1, by omega, by go_num, S3.out⟩
            case measure => simp [intOf]; omega
        · obtain rfl : k = 2 := by omega
          go_wp2
          go_ret
          exact ⟨rfl, S0.out.2.2⟩
end Go.Proofs.YtbkikbhnehjaaaaGreatDoor.Pl
