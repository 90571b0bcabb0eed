
/-
  Choose of the program, walked.
-/
import Derived.Test.YtakiigddbdapaaaGreatDoorChE
import Derived.Test.YtakiigddbdapaaaGreatDoorPeI
namespace Go.Proofs.YtakiigddbdapaaaGreatDoor.Pe
open Go.RowKit
open Go.Proofs.YtakiigddbdapaaaGreatDoor.Gr (belI_step belI_alloc ret_b ret_i)
open Go.Proofs.YtakiigddbdapaaaGreatDoor.Ul (Tab MaxL)
open Go.Proofs.YtakiigddbdapaaaGreatDoor.Mk
def inV (l : List Nat) : List Value := l.map fun (j : Nat) => .int .i64 (j : Int)
def OI (w : World) (base : Nat) (v : Value) (l : List Nat) : Prop := w.ownsRow base 3 1 v l.length (inV l)
theorem OI.slice {w : World} {base : Nat} {v : Value} {l : List Nat} (h : OI w base v l) : ∃ a c, v = .slice a l.length c := own_slice h
theorem OI.below {w w' : World} {base : Nat} {v : Value} {l : List Nat} (h : OI w base v l) (hb : Below w.heap.size w w') : OI w' base v l := World.ownsRow.kept h (below_grownBy hb none) (by cases v.ownBlock <;> simp)
theorem plc_app (now l : Int) : ∀ (xs ys : List Pr) (i : Nat), plc now l i (xs ++ ys) = plc now l i xs ++ plc now l (i + xs.length) ys
  | [], ys, i => by simp [plc]
  | x :: r, ys, i => by
    rw [List.cons_append, plc, plc, plc_app now l r ys (i + 1), List.append_assoc, List.length_cons, show i + 1 + r.length = i + (r.length + 1) by omega]
theorem plc_take (now l : Int) {xs : List Pr} (k : Nat) (hk : k < xs.length) : plc now l 0 (xs.take (k + 1)) = plc now l 0 (xs.take k) ++ (if rdy now (xs.getD k default) && ((xs.getD k default).pri == l) then List.replicate (xs.getD k default).wt.toNat k else []) := by
  rw [show xs.take (k + 1) = xs.take k ++ [xs[k]] by rw [List.take_add_one, List.getElem?_eq_getElem hk]; rfl, plc_app]
  have e : (xs.take k).length = k := by simp; omega
  rw [e, plc, plc]
  simp [hk]
theorem inV_app (a b : List Nat) : inV (a ++ b) = inV a ++ inV b := by simp [inV]
theorem inV_rep (n k : Nat) : inV (List.replicate n k) = List.replicate n (.int .i64 (k : Int)) := by simp [inV]
theorem rep_src {w : World} {cb n : Nat} {i : Int} {T : TypeId} (h : Hd w cb (.cells (List.replicate n (Value.int .i64 i)).toArray T)) : ∀ j v, (List.replicate n (Value.int .i64 i))[j]? = some v → w.cell? (({ block := cb, off := 0 } : Addr).add j) = some v := by
  intro j v hv
  have h' : w.heap[cb]? = some (.cells (List.replicate n (Value.int .i64 i)).toArray T) := h
  rw [add_at, Nat.zero_add]
  simp only [World.cell?, h']
  rw [List.getElem?_toArray]
  simpa using hv
set_option maxRecDepth 100000 in
set_option maxHeartbeats 8000000 in
theorem hoI_any (B : Nat) (w0 : World) (xs : List Pr) (v : Value) (h : PrIn (· < B) w0 v xs) (now draw : Int) (W : World) (hb : Below B w0 W) (hB : B ≤ W.heap.size) (hT : Tab W) (hM : MaxL W) :
    Calls Tryz.prog 21 #[v, .int .i64 now, .int .i64 draw] W (Ho W (hoP xs now draw) (hoC xs now draw)) := by
  have HP := Lib.hid (pcI_any B w0 xs v h W hb hB hT hM)
  have HI1 := Lib.hid (fun w => nowP_any now w)
  have HI2 := Lib.hid (fun w => nowP_any draw w)
  have HLE := Lib.hid (fun W' h1 h2 => leastI_any B w0 xs v h now W' h1 h2)
  obtain ⟨a, cap, b, off, rfl, hcap, hmx, -, ha, hc⟩ := h
  have HC := Lib.hid hc
  have HA := Lib.hid ha
  have HB := Lib.hid hb
  clear hc ha hb hT hM
  by_cases hp : pcC xs ≠ 0
  · have HCC := Lib.hid (show hoC xs now draw = pcC xs by unfold hoC; rw [if_neg hp])
    obtain ⟨C, hC⟩ : ∃ C, pcC xs = C := ⟨_, rfl⟩
    rw [hC] at hp HP HCC
    have hp1 : (C != 0) = true := by simpa using hp
    have HFX := Lib.hid (fun w hbw => ho_bad (W := W) (w := w) HCC.out hp hbw)
    clear hC hp HCC
    generalize hoP xs now draw = P at *
    generalize hoC xs now draw = C2 at *
    go_enter Tryz.func21, Tryz.ntmps21
    go_wp2_with fail
    refine HP.out.mono ?_
    rintro e w2 ⟨rfl, hb2⟩
    have HF := Lib.hid (HFX.out w2 hb2)
    clear hb2
    go_wp2
    exact bodyPost_ret (ret_2 Tryz.results21) rfl HF.out
  obtain hp : pcC xs = 0 := by simpa using hp
  have hpl := pcC_pl hp
  have hrk := plB_rk hpl
  have h4 := (plB_at hpl).1
  obtain ⟨n1, hn1⟩ : ∃ n1, nwB now = n1 := ⟨_, rfl⟩
  obtain ⟨n2, hn2⟩ : ∃ n2, nwB draw = n2 := ⟨_, rfl⟩
  have HCC := Lib.hid (show hoC xs now draw = (if n1 && n2 then (if wS now (ls now 0 xs) xs = 0 then 5 else 0) else 4) by unfold hoC; rw [if_pos hp, hn1, hn2])
  have HD := Lib.hid (show n2 = true → 0 ≤ draw ∧ draw ≤ 1000000 by intro e; rw [e] at hn2; unfold nwB at hn2; exact of_decide_eq_true hn2)
  rw [hn1] at HI1
  rw [hn2] at HI2
  rw [hp] at HP
  clear hn1 hn2 hp hpl
  cases n1
  · have HFX := Lib.hid (fun w hbw => ho_bad (W := W) (w := w) (show hoC xs now draw = 4 by rw [HCC.out]; rfl) (by decide) hbw)
    clear HCC HLE hrk
    generalize hoP xs now draw = P at *
    generalize hoC xs now draw = C2 at *
    go_enter Tryz.func21, Tryz.ntmps21
    go_wp2_with fail
    refine HP.out.mono ?_
    rintro e w2 ⟨rfl, hb2⟩
    have HF := Lib.hid (HFX.out w2 hb2)
    clear hb2
    go_wp2_with fail
    refine (HI1.out w2).mono ?_
    rintro e _ ⟨rfl, rfl⟩
    go_wp2
    exact bodyPost_ret (ret_2 Tryz.results21) rfl HF.out
  cases n2
  · have HFX := Lib.hid (fun w hbw => ho_bad (W := W) (w := w) (show hoC xs now draw = 4 by rw [HCC.out]; rfl) (by decide) hbw)
    clear HCC HLE hrk
    generalize hoP xs now draw = P at *
    generalize hoC xs now draw = C2 at *
    go_enter Tryz.func21, Tryz.ntmps21
    go_wp2_with fail
    refine HP.out.mono ?_
    rintro e w2 ⟨rfl, hb2⟩
    have HF := Lib.hid (HFX.out w2 hb2)
    clear hb2
    go_wp2_with fail
    refine (HI1.out w2).mono ?_
    rintro e _ ⟨rfl, rfl⟩
    go_wp2_with fail
    refine (HI2.out w2).mono ?_
    rintro e _ ⟨rfl, rfl⟩
    go_wp2
    exact bodyPost_ret (ret_2 Tryz.results21) rfl HF.out
  have hd := HD.out rfl
  have HRK := Lib.hid (fun x hx => show Rk x from ⟨(hrk x hx).1.1, (hrk x hx).2.1⟩)
  have HRG := Lib.hid (fun i (hi : i < xs.length) => hrk (xs.getD i default) (by simp [hi]))
  have HPL := Lib.hid (plc_len now (ls now 0 xs) xs 0 HRK.out)
  have HCE := Lib.hid (fun hw => choose_eq now draw xs HRK.out hw)
  have HCH := Lib.hid (show chS now draw xs = if wS now (ls now 0 xs) xs = 0 then -1 else ch2 now (ls now 0 xs) (draw % wS now (ls now 0 xs) xs) 0 xs from rfl)
  have HR0 := Lib.hid (fun (x : Pr) (W' : World) => rdyI_any x now W')
  obtain ⟨i0, hi, hz0, hz1, hz2⟩ := info_parts Tryz.infoI
  clear hrk
  generalize ls now 0 xs = L at *
  go_enter Tryz.func21, Tryz.ntmps21
  go_wp2_with fail
  refine HP.out.mono ?_
  rintro e w2 ⟨rfl, hb2⟩
  have B2 := Lib.hid hb2
  clear hb2 HP
  go_wp2_with fail
  refine (HI1.out w2).mono ?_
  rintro e _ ⟨rfl, rfl⟩
  go_wp2_with fail
  refine (HI2.out w2).mono ?_
  rintro e _ ⟨rfl, rfl⟩
  go_wp2_with fail
  refine (HLE.out w2 (HB.out.trans (B2.out.mono hB)) (Nat.le_trans hB B2.out.size)).mono ?_
  rintro e w3 ⟨rfl, hb3⟩
  have B3 := Lib.hid (below_chain B2.out hb3)
  clear hb3 HLE HI1 HI2
  go_wp2
  go_loopw [10, 33] (fun pv iv wr => ∃ k : Nat, k ≤ xs.length ∧ iv = .int .i64 k ∧ OI wr W.heap.size pv (plc now L 0 (xs.take k)) ∧ Below W.heap.size W wr) (fun _ iv _ => xs.length - (intOf iv).toNat)
  case atStart => exact ⟨0, by omega, rfl, World.ownsRow_nil _ _ _ _, B3.out⟩
  case round =>
    obtain ⟨k, hk, rfl, hO, hR⟩ := hrel
    have HO := Lib.hid hO
    have HR := Lib.hid hR
    obtain ⟨at0, ct0, rfl⟩ := hO.slice
    clear hO hR
    by_cases hlt : k < xs.length
    · obtain ⟨ea, hlb⟩ := HA.out (by omega)
      subst ea
      have hW := HB.out.trans (HR.out.mono hB)
      obtain ⟨c0, c1', c2, c3, c4, c5⟩ := HC.out k hlt
      have q0 := (hW.cell (p := ⟨b, off + k * 6, none⟩) hlb).trans c0
      have q1 := (hW.cell (p := ⟨b, off + k * 6 + 1, none⟩) hlb).trans c1'
      have q2 := (hW.cell (p := ⟨b, off + k * 6 + 2, none⟩) hlb).trans c2
      have q3 := (hW.cell (p := ⟨b, off + k * 6 + 3, none⟩) hlb).trans c3
      have q4 := (hW.cell (p := ⟨b, off + k * 6 + 4, none⟩) hlb).trans c4
      have q5 := (hW.cell (p := ⟨b, off + k * 6 + 5, none⟩) hlb).trans c5
      have PT := Lib.hid (plc_take now L k hlt)
      have HRX := Lib.hid (fun W' => HR0.out (xs.getD k default) W')
      have hrg := HRG.out k hlt
      have hpk := Lib.hid (show (plc now L 0 (xs.take k)).length ≤ 36 by
        have e := plc_len now L (xs.take k) 0 (fun x hx => HRK.out x (List.mem_of_mem_take hx))
        have : ∀ ys : List Pr, (∀ x ∈ ys, x.wt ≤ 9) → wS now L ys ≤ 9 * (ys.length : Int) := by
          intro ys
          induction ys with
          | nil => intro _; simp [wS]
          | cons y r ih =>
            intro hy
            have h1 := ih fun x hx => hy x (by simp [hx])
            have h2 := hy y (by simp)
            rw [wS, List.length_cons]
            split <;> omega
        have h5 := this (xs.take k) (fun x hx => by
          obtain ⟨j, hj, rfl⟩ := List.getElem_of_mem (List.mem_of_mem_take hx)
          have := (HRG.out j hj).2.2
          simpa [hj] using this)
        have h6 : (xs.take k).length = k := by simp; omega
        rw [h6] at h5
        omega)
      clear c0 c1' c2 c3 c4 c5 hW
      generalize xs.getD k default = x at *
      generalize plc now L 0 (xs.take k) = ps at *
      obtain ⟨u, p, q, f, r, g⟩ := x
      simp only at q0 q1 q2 q3 q4 q5 hrg PT
      obtain ⟨⟨hp1, hp2⟩, hq1, hq2⟩ := hrg
      obtain ⟨qn, rfl⟩ : ∃ qn : Nat, q = (qn : Int) := ⟨q.toNat, by omega⟩
      rw [Int.toNat_natCast] at PT
      obtain ⟨c, hcc⟩ : ∃ c, rdy now ⟨u, p, qn, f, r, g⟩ = c := ⟨_, rfl⟩
      rw [hcc] at PT HRX
      clear hcc
      obtain ⟨w1, hw1⟩ : ∃ w1, w1 = wr.alloc (.cells #[.string ⟨u.toArray⟩, .int .i64 p, .int .i64 qn, .int .i64 f, .int .i64 r, .bool g] 57) := ⟨_, rfl⟩
      have H1 := Lib.hid (show Hd w1 wr.heap.size (.cells #[.string ⟨u.toArray⟩, .int .i64 p, .int .i64 qn, .int .i64 f, .int .i64 r, .bool g] 57) by rw [hw1]; exact Hd.new _ _)
      have A1 := Lib.hid (show Below wr.heap.size wr w1 by rw [hw1]; exact (Below.refl _ _).alloc (Nat.le_refl _) _)
      go_upto_region 11 with fail
      rw [show wr.alloc (.cells #[.string ⟨u.toArray⟩, .int .i64 p, .int .i64 qn, .int .i64 f, .int .i64 r, .bool g] 57) = w1 from hw1.symm]
      clear hw1 q0 q1 q2 q3 q4 q5
      obtain ⟨m0, m1, m2, m3, m4, m5, -⟩ := H1.out.six
      go_wp2_with fail
      refine (HRX.out w1).mono ?_
      rintro e w2 ⟨rfl, hb2⟩
      have A2 := Lib.hid (below_chain A1.out hb2)
      have S12 := Lib.hid (show w1.heap.size ≤ w2.heap.size from hb2.size)
      obtain ⟨n0, n1, n2, n3, n4, n5, -⟩ := (H1.out.blw hb2).six
      have O2 := Lib.hid (HO.out.below A2.out)
      have R2 := Lib.hid (below_chain HR.out A2.out)
      clear hb2 m0 m1 m2 m3 m4 m5
      cases c
      · rw [if_neg (by simp), List.append_nil] at PT
        go_wp2
        go_roundw
        case rel => exact ⟨k + 1, by omega, by go_num, by rw [PT.out]; exact O2.out, R2.out⟩
        case measure => simp [intOf]; omega
      · by_cases e1 : p = L
        · subst e1
          rw [if_pos (by simp)] at PT
          obtain ⟨w3, hw3⟩ : ∃ w3, w3 = w2.alloc (.cells #[.int .i64 (k : Int)] 3) := ⟨_, rfl⟩
          have H3 := Lib.hid (show Hd w3 w2.heap.size (.cells #[.int .i64 (k : Int)] 3) by rw [hw3]; exact Hd.new _ _)
          have A3 := Lib.hid (show Below w2.heap.size w2 w3 by rw [hw3]; exact (Below.refl _ _).alloc (Nat.le_refl _) _)
          have HRP := Lib.hid (repI_any k qn (by omega) (by omega) w2.heap.size w3 H3.out)
          have hlt2 : wr.heap.size < w2.heap.size := Nat.lt_of_lt_of_le H1.out.lt S12.out
          have l2 : (w2.alloc (.cells #[.int .i64 (k : Int)] 3)).cell? ⟨wr.heap.size, 2, none⟩ = some (.int .i64 (qn : Int)) := by rw [World.cell?_alloc_past _ _ _ hlt2]; exact n2
          have O3 := Lib.hid (O2.out.below A3.out)
          have R3 := Lib.hid (below_chain R2.out A3.out)
          have HW3 := Lib.hid hw3.symm
          clear hw3 hlt2
          go_wp2_with fail
          rw [HW3.out]
          refine HRP.out.mono ?_
          rintro e w4 ⟨rfl, hh4, hb4⟩
          have O4 := Lib.hid (O3.out.below hb4)
          have R4 := Lib.hid (below_chain R3.out hb4)
          have H4 := Lib.hid hh4
          have s4 := Lib.hid (show W.heap.size ≤ w4.heap.size from R4.out.size)
          clear hh4 hb4 l2 n0 n1 n2 n3 n4 n5
          go_wp2_with (at_builtin; refine Apq.wpList_app_any _ rfl _ _ 71 rfl W.heap.size 3 i0 _ 1 8 Tryz.underlying71 hi hz0 hz1 hz2 rfl (by omega) _ ps.length (inV ps) rfl O4.out (some ⟨w3.heap.size, 0, none⟩) qn _ (List.replicate qn (.int .i64 (k : Int))) rfl (fun _ => ⟨_, rfl, rep_src H4.out⟩) (by simp) (by intro u hu; rw [List.eq_of_mem_replicate hu]; rfl) (by have := hpk.out; omega) (by have := hpk.out; omega) s4.out ?_; intro l' w5 hown' hgrow hplace; have O5 := Lib.hid (show OI w5 W.heap.size l' (ps ++ List.replicate qn k) by unfold OI; rw [inV_app, inV_rep, List.length_append, List.length_replicate]; exact hown'); have R5 := Lib.hid (show Below W.heap.size W w5 from R4.out.grown hgrow s4.out (fun g e => (World.ownsRow.lt O4.out g e).1)); obtain ⟨a7, c7, rfl⟩ := O5.out.slice; clear hown' hgrow hplace)
          go_roundw
          case rel => exact ⟨k + 1, by omega, by go_num, by rw [PT.out]; first | exact O5.out | (have := O5.out; simpa using this), R5.out⟩
          case measure => simp [intOf]; omega
        · rw [if_neg (by simp [e1]), List.append_nil] at PT
          have e1b : (p == L) = false := by simpa using e1
          go_wp2
          go_roundw
          case rel => exact ⟨k + 1, by omega, by go_num, by rw [PT.out]; exact O2.out, R2.out⟩
          case measure => simp [intOf]; omega
    · obtain rfl : k = xs.length := by omega
      rw [List.take_length] at HO ⊢
      generalize plc now L 0 xs = ps at *
      by_cases h0 : ps.length = 0
      · have hw : wS now L xs = 0 := by rw [← HPL.out, h0]; rfl
        have HF := Lib.hid (ho_bad (W := W) (w := wr) (show hoC xs now draw = 5 by rw [HCC.out, hw]; rfl) (by decide) HR.out)
        clear HCC HCE HCH HPL hw HC HRG HRK
        generalize hoP xs now draw = P at *
        generalize hoC xs now draw = C2 at *
        have h0b : ((ps.length : Int) == 0) = true := by simp [h0]
        have hps : ps = [] := List.eq_nil_of_length_eq_zero h0
        subst hps
        clear h0 h0b
        go_wp2
        exact bodyPost_ret (ret_2 Tryz.results21) rfl HF.out
      · have hw : wS now L xs ≠ 0 := by rw [← HPL.out]; omega
        have hch := HCH.out
        rw [if_neg hw, HCE.out hw] at hch
        obtain ⟨dn, rfl⟩ : ∃ dn : Nat, draw = (dn : Int) := ⟨draw.toNat, by omega⟩
        have hix : (dn : Int) % (ps.length : Int) = ((dn % ps.length : Nat) : Int) := (Int.natCast_emod _ _).symm
        rw [hix, Int.toNat_natCast] at hch
        have hdl : dn % ps.length < ps.length := Nat.mod_lt _ (by omega)
        obtain ⟨d, hd'⟩ : ∃ d, dn % ps.length = d := ⟨_, rfl⟩
        rw [hd'] at hix hch hdl
        obtain ⟨gb, capb, curb, eb⟩ : ∃ gb capb cb, Value.slice at0 ps.length ct0 = .slice (some ⟨gb, 0, none⟩) cb capb := by
          rcases HO.out.2 with ⟨e, h⟩ | ⟨gb, cap, cur, e, _⟩
          · exact absurd h h0
          · exact ⟨gb, cap, _, e⟩
        injection eb with e1 e2 e3
        subst e1
        have hcell : wr.cell? ⟨gb, d, none⟩ = some (.int .i64 ((ps.getD d 0 : Nat) : Int)) := own_cell HO.out d _ (by unfold inV; rw [List.getElem?_map, List.getElem?_eq_getElem hdl]; simp [hdl])
        have HF := Lib.hid (ho_good (W := W) (w := wr) (show hoC xs now dn = 0 by rw [HCC.out]; simp [hw]) hch HR.out)
        have hnb : ((ps.length : Int) == 0) = false := by rw [beq_eq_false_iff_ne]; omega
        have hnz : ¬ (ps.length : Int) = 0 := by omega
        have hne : ¬ ps = [] := fun e => h0 (by rw [e]; rfl)
        have hdI : ((d : Int) < (ps.length : Int)) := by omega
        clear HCC HCE HCH HPL hw HC HRG HRK hch e2 e3 hd' HO
        generalize hoP xs now dn = P at *
        generalize hoC xs now dn = C2 at *
        generalize ((ps.getD d 0 : Nat) : Int) = res at *
        have htm : (dn : Int).tmod (ps.length : Int) = (d : Int) := by rw [Int.tmod_eq_emod_of_nonneg (by omega)]; exact hix
        go_wp2
        exact bodyPost_ret (ret_2 Tryz.results21) rfl HF.out
end Go.Proofs.YtakiigddbdapaaaGreatDoor.Pe
