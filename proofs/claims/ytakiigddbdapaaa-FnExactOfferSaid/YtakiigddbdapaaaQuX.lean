
/-
  The open queue closed again.
-/
import Derived.Test.YtakiigddbdapaaaQuW
import Derived.Deep.CutRange
import Derived.Deep.DeepCutAuto
namespace Go.Proofs.Ytakiigddbdapaaa.Qu
open Go.RowKit
open Go.Proofs.Ytakiigddbdapaaa.Tx
theorem own_al {w : World} {B s n : Nat} {T : TypeId} {v : Value} {xs : List Value} (h : w.ownsRow B T s v n xs) (o : Obj) : (w.alloc o).ownsRow B T s v n xs :=
  h.kept (below_grownBy ((Below.refl w.heap.size w).alloc (Nat.le_refl _) o) none) (by cases v.ownBlock <;> simp)
theorem own_blw {w w' : World} {B s n : Nat} {T : TypeId} {v : Value} {xs : List Value} (h : w.ownsRow B T s v n xs) (hb : Below w.heap.size w w') : w'.ownsRow B T s v n xs :=
  h.kept (below_grownBy hb none) (by cases v.ownBlock <;> simp)
theorem own_hd {w : World} {B s n k : Nat} {T U : TypeId} {v : Value} {xs : List Value} {C : Array Value} (h : w.ownsRow B T s v n xs) (hk : Hd w k (.cells C U)) (hT : U ≠ T) : some k ≠ v.ownBlock := by
  intro e
  rcases h.2 with ⟨rfl, _⟩ | ⟨g, cap, cur, rfl, _, hg, _⟩
  · cases e
  · simp only [Value.ownBlock, Option.some.injEq] at e
    subst e
    unfold Hd at hk
    rw [hk] at hg
    simp at hg
    exact hT hg.2
/-- the local queue is made: its lists are owned -/
structure Mid (W w1 : World) (q : Q) (n : Nat) (a3 : Option Addr) (c3 : Nat) (a5 : Option Addr) (c5 : Nat) (wx : World) : Prop where
  H : Hd wx n (iqO (.slice a3 q.items.length c3) (.slice a5 q.recent.length c5))
  o4 : O4 wx w1.heap.size (.slice a3 q.items.length c3) q.items
  o1 : O1 wx w1.heap.size (.slice a5 q.recent.length c5) q.recent
  b : Below w1.heap.size w1 wx
  n : w1.heap.size ≤ n
theorem mid1 {W w1 w : World} {q : Q} {a3 : Option Addr} {c3 : Nat} {a5 : Option Addr} {c5 : Nat} (h4 : O4 w w1.heap.size (.slice a3 q.items.length c3) q.items) (h5 : O1 w w1.heap.size (.slice a5 q.recent.length c5) q.recent) (hb : Below w1.heap.size w1 w) :
    Mid W w1 q w.heap.size a3 c3 a5 c5 (w.alloc (iqO (.slice a3 q.items.length c3) (.slice a5 q.recent.length c5))) :=
  ⟨Hd.new _ _, own_al h4 _, own_al h5 _, belI_alloc hb, hb.size⟩
theorem mid2 {W w1 w : World} {q : Q} {n : Nat} {x y : Value} {a3 : Option Addr} {c3 : Nat} {a5 : Option Addr} {c5 : Nat} (k : Hd w n (.cells #[x, y] 34)) (h4 : O4 w w1.heap.size (.slice a3 q.items.length c3) q.items) (h5 : O1 w w1.heap.size (.slice a5 q.recent.length c5) q.recent) (hb : Below w1.heap.size w1 w) (hn : w1.heap.size ≤ n) :
    Mid W w1 q n a3 c3 a5 c5 (set2 w n 0 (.slice a3 q.items.length c3) (.slice a5 q.recent.length c5)) :=
  ⟨k.set2 _ _, own_ch (far2 _ _) h4 (fun b e x => own_hd h4 k (by decide) (by rw [e, x])), own_ch (far2 _ _) h5 (fun b e x => own_hd h5 k (by decide) (by rw [e, x])), (far2 _ _).below hb hb.size (fun b e => by omega), hn⟩
theorem grown_blw {g : Nat} {wr wx wy : World} (h : wr.grownBy wx (some g)) (hb : Below wx.heap.size wx wy) : wr.grownBy wy (some g) :=
  ⟨hb.os.trans h.os, hb.tape.trans h.tape, hb.output.trans h.output, Nat.le_trans h.size hb.size, fun k hk hne => (hb.block k (Nat.lt_of_lt_of_le hk h.size)).trans (h.block k hk hne)⟩
theorem grown_set {g : Nat} {wr wx : World} (h : wr.grownBy wx (some g)) (o : Nat) (v : Value) : wr.grownBy (wx.setCell ⟨g, o, none⟩ v) (some g) :=
  ⟨h.os, h.tape, h.output, by simpa using h.size, fun k hk hne => (heap_setCell_other _ ⟨g, o, none⟩ k v (fun e => hne (by rw [e]))).trans (h.block k hk hne)⟩
theorem grown_tr {g : Nat} {w wr wx : World} (h : w.grownBy wr (some g)) (h2 : wr.grownBy wx (some g)) : w.grownBy wx (some g) :=
  ⟨h2.os.trans h.os, h2.tape.trans h.tape, h2.output.trans h.output, Nat.le_trans h.size h2.size, fun k hk hne => (h2.block k (Nat.lt_of_lt_of_le hk h.size) hne).trans (h.block k hk hne)⟩
theorem grown_refl (g : Nat) (w : World) : w.grownBy w (some g) := ⟨rfl, rfl, rfl, Nat.le_refl _, fun _ _ _ => rfl⟩
theorem grown_drew (g : Nat) (w : World) : w.grownBy w.drew (some g) := ⟨rfl, rfl, rfl, Nat.le_refl _, fun _ _ _ => rfl⟩
theorem row_same {w : World} {g n i : Nat} {T : TypeId} {F : Nat → Value} (h : w.rowIs g T n F) (v : Value) (e : F i = v) : (w.setCell ⟨g, i, none⟩ v).rowIs g T n F :=
  (h.set i v).congr (g := F) (fun j _ => by
    by_cases e2 : j = i
    · rw [if_pos e2, e2, e]
    · rw [if_neg e2])
abbrev zqO : Obj := .cells #[.slice none 0 0, .slice none 0 0] 34
set_option maxRecDepth 100000 in
set_option maxHeartbeats 4000000 in
theorem closed_any (base : Nat) (ra ca rb cb : Nat) (q : Q) (W : World) (h : OpQ base W ra ca rb cb q) (hl : ∀ i, i < q.items.length → (q.items.getD i default).body.length ≤ 1048576) (hl2 : ∀ i, i < q.recent.length → (q.recent.getD i []).length ≤ 1048576) (h5 : q.items.length ≤ 5) (h6 : q.recent.length ≤ 6) :
    Calls Try.prog 29 #[oV ra rb] W (NewQ W q) := by
  obtain ⟨w1, hw1⟩ : ∃ w1, w1 = (W.alloc (oO ra rb)).alloc zqO := ⟨_, rfl⟩
  have HK := Lib.hid (show Hd w1 W.heap.size (oO ra rb) from hw1 ▸ (Hd.new W _).al _)
  have HG := Lib.hid (show Hd w1 (W.heap.size + 1) zqO from by
    have := Hd.new (W.alloc (oO ra rb)) zqO
    rw [hw1]; simpa using this)
  have BF := Lib.hid (show Below W.heap.size W w1 from hw1 ▸ ((Below.refl W.heap.size W).alloc (Nat.le_refl _) _).alloc (by simp) _)
  have HR := Lib.hid (h.R.blw BF.out)
  have HT := Lib.hid (h.T.blw BF.out)
  have HLR := Lib.hid (fun wx (h : RgR wx ra ca q.items) => listR_any ra ca q.items wx h)
  have HLT := Lib.hid (fun wx (h : RgT wx rb cb q.recent) => listT_any rb cb q.recent wx h)
  have HOW := Lib.hid (fun wx base v (h : O4 wx base v q.items) => ownR_any base v q.items wx h hl (by omega))
  have HCL := Lib.hid (fun W' i hi => cloneS_any (q.recent.getD i []) W' (hl2 i hi))
  have HALL := Lib.hid (fun wx (hg : Below w1.heap.size w1 wx) => And.intro (HK.out.blw hg).two.1 (And.intro (HK.out.blw hg).two.2.1 (And.intro hg (And.intro (HR.out.blw hg) (And.intro (HT.out.blw hg) hg.size)))))
  clear h hl hl2
  go_enter Try.func29, Try.ntmps29
  go_wp2_with fail
  rw [← hw1]
  clear hw1
  go_cut [3] (fun s3 wx => ∃ n a3 c3 a5 c5, s3 = .pointer (some ⟨n, 0, none⟩) ∧ Mid W w1 q n a3 c3 a5 c5 wx)
  case first =>
    go_region_held3 (fun wx => wx.cell? ⟨W.heap.size, 0, none⟩ = some (.pointer (some ⟨ra, 0, none⟩)) ∧ wx.cell? ⟨W.heap.size, 1, none⟩ = some (.pointer (some ⟨rb, 0, none⟩)) ∧
        Below w1.heap.size w1 wx ∧ RgR wx ra ca q.items ∧ RgT wx rb cb q.recent ∧ w1.heap.size ≤ wx.heap.size)
      (first
        | exact HALL.out _ (Below.drew (Below.refl _ _))
        | (go_split_ands; exact HALL.out _ (belI_step (by assumption) hbL))
        | (go_split_ands; exact HALL.out _ hbO)
        | (go_split_ands; exact HALL.out _ (belI_alloc (by assumption)))
        | (go_split_ands; exact HALL.out _ (belI_step (by assumption) hbT))
        | (go_split_ands; exact HALL.out _ (belI_alloc (belI_step (by assumption) hbT)))
        | (go_split_ands; exact HALL.out _ (belI_alloc hbO))
        | (go_split_ands; exact HALL.out _ (Below.setCell (Below.setCell (by assumption) (by first | omega | (simp <;> omega)) _) (by first | omega | (simp <;> omega)) _))
        | (go_split_ands; exact HALL.out _ (Below.setCell (Below.setCell hbO (by first | omega | (simp <;> omega)) _) (by first | omega | (simp <;> omega)) _))
        | (go_split_ands; exact HALL.out _ (Below.setCell (Below.setCell (belI_step (by assumption) hbT) (by first | omega | (simp <;> omega)) _) (by first | omega | (simp <;> omega)) _)))
      (first
        | (have hh := ho3; go_split_ands; go_at_call 48
           first
            | (refine (HOW.out _ _ _ ho3).mono ?_)
            | (have ho3 := own_al ho3 zqO; refine (HOW.out _ _ _ ho3).mono ?_)
           rintro e w4 ⟨rfl, ho4, hg⟩
           have hbO : Below w1.heap.size w1 w4 := Below.grown (by assumption) hg (Below.size (by assumption)) (fun k e => (World.ownsRow.lt ho3 k e).1)
           have hy4 : w1.heap.size ≤ w4.heap.size := hbO.size
           first
            | (have kN := Hd.grown kN hg (own_hd ho3 kN (by decide)); obtain ⟨kc0, kc1, kcf⟩ := kN.two)
            | (have kN := Hd.grown (Hd.new _ zqO) hg (own_hd ho3 (Hd.new _ zqO) (by decide)); obtain ⟨kc0, kc1, kcf⟩ := kN.two)
            | skip
           first
            | (have ho5 := World.ownsRow.kept ho5 hg (own_apart ho5 ho3 (by decide)))
            | (have ho5 := World.ownsRow.kept (own_al ho5 zqO) hg (own_apart (own_al ho5 zqO) ho3 (by decide)))
            | skip)
        | (go_split_ands; go_at_call 49; refine (HLR.out _ (by assumption)).mono ?_; have hz3 : w1.heap.size ≤ _ := Below.size (by assumption); rintro e w3 ⟨v3, rfl, ho3, hbL⟩; obtain ⟨a3, c3, rfl⟩ := ho3.slice
           have ho3 := O4.base ho3 hz3
           have hy3 : w1.heap.size ≤ w3.heap.size := Nat.le_trans hz3 hbL.size
           first
            | (have kN := Hd.blw kN hbL; obtain ⟨kc0, kc1, kcf⟩ := kN.two)
            | (have kN : Hd _ w1.heap.size zqO := Hd.blw (Hd.new w1.drew zqO) hbL; obtain ⟨kc0, kc1, kcf⟩ := kN.two)
            | (have kN := Hd.blw (Hd.new _ zqO) hbL; obtain ⟨kc0, kc1, kcf⟩ := kN.two)
            | skip
           first
            | (have ho5 := own_blw ho5 hbL)
            | (have ho5 := own_blw (own_al ho5 zqO) hbL)
            | skip)
        | (go_split_ands; go_at_call 50; refine (HLT.out _ (by assumption)).mono ?_; have hz4 : w1.heap.size ≤ _ := Below.size (by assumption); rintro e w5 ⟨v5, rfl, ho5, hbT⟩; obtain ⟨a5, c5, rfl⟩ := ho5.slice
           have ho5 := O1.base ho5 hz4
           have hy5 : w1.heap.size ≤ w5.heap.size := Nat.le_trans hz4 hbT.size
           first
            | (have kN := Hd.blw kN hbT; obtain ⟨kc0, kc1, kcf⟩ := kN.two)
            | (have kN : Hd _ w1.heap.size zqO := Hd.blw (Hd.new w1.drew zqO) hbT; obtain ⟨kc0, kc1, kcf⟩ := kN.two)
            | (have kN := Hd.blw (Hd.new _ zqO) hbT; obtain ⟨kc0, kc1, kcf⟩ := kN.two)
            | skip
           first
            | (have ho4 := own_blw ho4 hbT)
            | (have ho4 := own_blw (own_al ho4 zqO) hbT)
            | (have ho3 := own_blw ho3 hbT)
            | (have ho3 := own_blw (own_al ho3 zqO) hbT)
            | skip))
    all_goals
      go_split_ands
      go_wp2_with fail
      go_meet
    all_goals first
      | exact ⟨_, _, _, _, _, rfl, mid1 ho4 ho5 hbO⟩
      | exact ⟨_, _, _, _, _, rfl, mid1 ho4 ho5 (belI_step (by assumption) hbT)⟩
      | exact ⟨_, _, _, _, _, rfl, mid2 kN ho4 ho5 (belI_step (by assumption) hbT) (by omega)⟩
  case rest =>
    obtain ⟨n, a3, c3, a5, c5, rfl, hM⟩ := hcut
    obtain ⟨kH, o4, o1, bM, hn⟩ := hM
    have hgw := HG.out.lt
    have HRW := Lib.hid (HG.out.blw bM)
    obtain ⟨m0, m1, mf⟩ := kH.two
    obtain ⟨p0, p1, pf⟩ := HRW.out.two
    obtain ⟨hlen, hx⟩ := o1
    rcases hx with ⟨e5, e0⟩ | ⟨g, cap, cur, e5, hbg, hg, hnc, hcm, hs, ht⟩
    · injection e5 with e1 e2 e3
      subst e1
      subst e3
      have hz : q.recent = [] := List.eq_nil_of_length_eq_zero e2
      rw [e2] at m1 kH
      have HP := Lib.hid (And.intro (HRW.out.set2 (.slice a3 q.items.length c3) (.slice none 0 0)) (show NewQ W q (.returned (qV (.slice a3 q.items.length c3) (.slice none 0 0))) (set2 wc (W.heap.size + 1) 0 (.slice a3 q.items.length c3) (.slice none 0 0)) from
        ⟨_, _, rfl, own_ch (far2 _ _) (own_base o4 BF.out.size) (fun b e x => by have := (World.ownsRow.lt o4 b e).1; omega), by rw [hz]; exact O1.nil _ _, (far2 _ _).below (below_chain BF.out bM) (below_chain BF.out bM).size (fun b e => by omega)⟩))
      clear HK HG HR HT HLR HLT HOW HCL HALL hlen o4
      go_wp2
      go_loopw [17] (fun iv wr => iv = .int .i64 0 ∧ wr = wc) (fun _ _ => 0)
      case atStart => exact ⟨rfl, rfl⟩
      case round =>
        obtain ⟨rfl, rfl⟩ := hrel
        go_wp2
        exact bodyPost_ret (ret_Q Try.results29 rfl HP.out.1) rfl HP.out.2
    · injection e5 with e1 e2 e3
      subst e1
      subst e3
      have hgn : n ≠ g := fun e => by
        subst e
        unfold Hd at kH
        rw [kH] at hg
        simp at hg
      have hgW : W.heap.size + 1 ≠ g := by omega
      have O4W := Lib.hid o4
      obtain ⟨F, hrow, hF⟩ : ∃ F : Nat → Value, wc.rowIs g 9 (c5 * 1) F ∧ ∀ i, i < q.recent.length → F i = .string ⟨(q.recent.getD i []).toArray⟩ :=
        ⟨fun i => cur[i]?.getD undef, ⟨cur, hg, hs, fun i hi => by
          have : i < cur.size := by omega
          simp [this]⟩, fun i hi => by
          have e0 : (strV q.recent)[i]? = some (.string ⟨(q.recent.getD i []).toArray⟩) := by simp [strV, hi]
          rw [← ht, List.getElem?_take_of_lt (by omega)] at e0
          simp only [Array.getElem?_toList] at e0
          simp [e0]⟩
      rw [Nat.mul_one] at hrow
      have HAP := Lib.hid (own_apart (v' := .slice (some ⟨g, 0, none⟩) q.recent.length c5) o4 ⟨hlen, .inr ⟨g, c5, cur, rfl, hbg, hg, hnc, hcm, hs, ht⟩⟩ (by decide))
      have HROW := Lib.hid hrow
      have HF := Lib.hid hF
      have HKN := Lib.hid kH
      have HRES := Lib.hid HRW
      clear ht hs hg hrow hlen hF o4 HK HG HR HT HLR HLT HOW HALL p0 p1 pf
      go_wp2
      go_loopw [17] (fun iv wr => ∃ i : Nat, i ≤ q.recent.length ∧ iv = .int .i64 i ∧ wr.rowIs g 9 c5 F ∧ wc.grownBy wr (some g)) (fun iv _ => q.recent.length - (intOf iv).toNat)
      case atStart => exact ⟨0, by omega, rfl, HROW.out, grown_refl _ _⟩
      case round =>
        obtain ⟨i, hi, rfl, hr, hG⟩ := hrel
        have HR := Lib.hid hr
        have HG := Lib.hid hG
        replace m0 := (HKN.out.grown hG (by simpa using hgn)).two.1
        replace m1 := (HKN.out.grown hG (by simpa using hgn)).two.2.1
        have HKR := Lib.hid (HKN.out.grown hG (by simpa using hgn))
        by_cases hlt2 : i < q.recent.length
        · have f0 := HF.out i hlt2
          have q0 := (hr.cell (i := i) (by omega)).trans (congrArg some f0)
          have F0 := Lib.hid f0
          have HC := Lib.hid (fun W' => HCL.out W' i hlt2)
          generalize q.recent.getD i [] = x at *
          have HALL := Lib.hid (fun wx (h1 : wr.grownBy wx (some g)) (h2 : wx.rowIs g 9 c5 F) => And.intro (HKR.out.grown h1 (by simpa using hgn)).two.2.1 (And.intro ((h2.cell (i := i) (by omega)).trans (congrArg some F0.out)) (And.intro h2.frozen (And.intro h1 h2))))
          clear hr hG f0
          go_wp2_with fail
          go_region_held3 (fun wx => wx.cell? ⟨n, 1, none⟩ = some (.slice (some ⟨g, 0, none⟩) q.recent.length c5) ∧ wx.cell? ⟨g, i, none⟩ = some (.string ⟨x.toArray⟩) ∧ (∀ o, wx.frozen? ⟨g, o, none⟩ = false) ∧ wr.grownBy wx (some g) ∧ wx.rowIs g 9 c5 F)
            (first
              | exact HALL.out _ (grown_drew _ _) HR.out.drew
              | (go_split_ands; exact HALL.out _ (grown_blw (by assumption) hbC) (World.rowIs.of_block (by assumption) (hbC.block _ (World.rowIs.lt (by assumption)))))
              | (go_split_ands; exact HALL.out _ (grown_set (by assumption) _ _) (row_same (by assumption) _ F0.out)))
            (first
              | (go_split_ands; go_at_call 51; refine (HC.out _).mono ?_; rintro e w6 ⟨rfl, hbC⟩))
          have HG2 := Lib.hid (grown_tr HG.out (grown_set (grown_blw (grown_drew g wr) hbC) i (.string ⟨x.toArray⟩)))
          have HR2 := Lib.hid (row_same (World.rowIs.of_block HR.out.drew (hbC.block _ (World.rowIs.lt HR.out.drew))) (.string ⟨x.toArray⟩) F0.out)
          go_split_ands
          clear hbC
          go_wp2
          go_roundw
          case rel => exact ⟨i + 1, by omega, by go_num, HR2.out, HG2.out⟩
          case measure => simp [intOf]; omega
        · obtain rfl : i = q.recent.length := by omega
          have RW := HRES.out.out.grown hG (by simpa using hgW)
          obtain ⟨p0, p1, pf⟩ := RW.two
          have HP := Lib.hid (And.intro (RW.set2 (.slice a3 q.items.length c3) (.slice (some ⟨g, 0, none⟩) q.recent.length c5)) (show NewQ W q (.returned (qV (.slice a3 q.items.length c3) (.slice (some ⟨g, 0, none⟩) q.recent.length c5))) (set2 wr (W.heap.size + 1) 0 (.slice a3 q.items.length c3) (.slice (some ⟨g, 0, none⟩) q.recent.length c5)) from
            ⟨_, _, rfl, own_ch (far2 _ _) (own_base (World.ownsRow.kept O4W.out hG HAP.out) BF.out.size) (fun b e x => by have := (World.ownsRow.lt O4W.out b e).1; omega), own_ch (far2 _ _) (own_base (O1_of_row (base := w1.heap.size) HR.out hnc hcm hbg HF.out) BF.out.size) (fun b e x => by simp only [Value.ownBlock, Option.some.injEq] at e; omega), (far2 _ _).below ((below_chain BF.out bM).grown hG (below_chain BF.out bM).size (fun b e => by injection e with e; have := BF.out.size; omega)) (Nat.le_trans (below_chain BF.out bM).size hG.size) (fun b e => by omega)⟩))
          clear hr hG
          go_wp2
          exact bodyPost_ret (ret_Q Try.results29 rfl HP.out.1) rfl HP.out.2
end Go.Proofs.Ytakiigddbdapaaa.Qu
