
/-
  PeerFails, PeerWorks, PeerGone of the model, walked.
-/
import Derived.Test.YtakiigddbdapaaaGreatDoorPeF
namespace Go.Proofs.YtakiigddbdapaaaGreatDoor.Pe
open Go.RowKit
open Go.Proofs.YtakiigddbdapaaaGreatDoor.Gr (belI_step belI_alloc ret_b ret_i)
open Go.Proofs.YtakiigddbdapaaaGreatDoor.Ul (in_any)
open Go.Proofs.YtakiigddbdapaaaGreatDoor.Mk
open Go.Proofs.YtakiigddbdapaaaGreatDoor.Pw (waF waS_any waF_le)
theorem newL_mk {W w : World} {R : List Pr} {C D : Int} (hR : R = []) (hC : C = D) (hb : Below W.heap.size W w) : NewL W R C (.returned (.tuple #[.slice (some ⟨w.heap.size, 0, none⟩) 0 0, .int .i64 D])) (w.alloc (.cells #[] 57)) := by
  subst hR hC; exact ⟨_, rfl, (O6_made w).base hb.size, belI_alloc hb⟩
theorem ret_2 {fn : Func} {a b : Nat} {tmps : Array Value} {X : World} (hres : fn.results = #[.tmp a, .tmp b]) : (results fn tmps).run Tryz.prog X = .ok (.tuple #[tmps[a]?.getD undef, tmps[b]?.getD undef]) X := by simp [results, hres, go_sem]
theorem askC_long {xs : List Pr} {k : Int} (h : 4096 < xs.length) : askC xs k = 2 := by unfold askC; rw [if_pos h]
set_option maxRecDepth 100000 in
set_option maxHeartbeats 2000000 in
theorem failsS_any (B : Nat) (w0 : World) (xs : List Pr) (v : Value) (h : PrIn (· < B) w0 v xs) (hl : ∀ i, i < xs.length → (xs.getD i default).url.length ≤ 1048576) (k now : Int) (W : World) (hb : Below B w0 W) (hB : B ≤ W.heap.size) :
    Calls Tryz.prog 22 #[v, .int .i64 k, .int .i64 now] W (NewL W (pfR xs k now) (pfC xs k now)) := by
  have HA := Lib.hid (askS_any B w0 xs v h hl k W hb hB)
  have HB := Lib.hid hb
  have HH := Lib.hid h
  obtain ⟨a, c, rfl⟩ := h.slice2
  by_cases h1 : 4096 < xs.length
  · have g1 : (4096 : Int) < (xs.length : Int) := by omega
    have eC : pfC xs k now = 2 := by unfold pfC; rw [askC_long h1]; rfl
    have eR : pfR xs k now = [] := by unfold pfR pfC; rw [askC_long h1]; rfl
    have HF := Lib.hid (newL_mk (W := W) eR eC (Below.refl _ _))
    clear h hb hl HH
    go_enter Tryz.func22, Tryz.ntmps22
    go_wp2
    exact bodyPost_ret (ret_2 Tryz.results22) rfl HF.out
  have g1 : ¬ ((4096 : Int) < (xs.length : Int)) := by omega
  obtain ⟨A, hA⟩ : ∃ A, askC xs k = A := ⟨_, rfl⟩
  by_cases hA0 : A = 0
  · subst hA0
    rw [hA] at HA
    obtain ⟨hpl, hk0, hk1⟩ := askC_at hA
    obtain ⟨kn, hkn⟩ : ∃ kn : Nat, k = (kn : Int) := ⟨k.toNat, by omega⟩
    subst hkn
    have hk : kn < xs.length := by omega
    have hsz := (plB_at hpl).1
    have hbk := bkB_at ((plB_at hpl).2 kn hk)
    have HI := Lib.hid (fun W' => show Calls Tryz.prog 40 #[.int .i64 now, .int .i64 0, .int .i64 1000000] W' fun e w' => e = .returned (.bool (nwB now)) ∧ W' = w' from in_any now 0 1000000 W')
    by_cases hn : nwB now = true
    · have eC : pfC xs kn now = 0 := by unfold pfC; rw [hA, if_pos rfl, if_pos hn]
      have eR : pfR xs kn now = xs.set kn (failP (xs.getD kn default) now) := by unfold pfR; rw [eC, if_pos rfl]; rfl
      rw [hn] at HI
      have hn2 : 0 ≤ now ∧ now ≤ 1000000 := by unfold nwB at hn; simpa using hn
      have HL := Lib.hid (fun W' h1 h2 => failsS_in B w0 xs _ HH.out (by omega) kn hk ⟨hbk.1, hbk.2.1⟩ now hn2 W' h1 h2)
      rw [eC, eR]
      clear h hb hl HH eC eR hA hbk
      generalize xs.set kn (failP (xs.getD kn default) now) = R at *
      go_enter Tryz.func22, Tryz.ntmps22
      go_wp2_with fail
      refine HA.out.mono ?_
      rintro e w1 ⟨rfl, hb1⟩
      have B1 := Lib.hid hb1
      clear hb1
      go_wp2_with fail
      refine (HI.out _).mono ?_
      rintro e _ ⟨rfl, rfl⟩
      go_wp2_with fail
      refine (HL.out _ (HB.out.trans (B1.out.mono hB)) (Nat.le_trans hB B1.out.size)).mono ?_
      rintro e w2 ⟨v2, rfl, ho2, hb2⟩
      have HF := Lib.hid (show NewL W R 0 (.returned (.tuple #[v2, .int .i64 0])) w2 from ⟨_, rfl, ho2.base B1.out.size, below_chain B1.out hb2⟩)
      obtain ⟨a3, c3, rfl⟩ := ho2.slice
      clear ho2 hb2
      go_wp2
      exact bodyPost_ret (ret_2 Tryz.results22) rfl HF.out
    · have hn' : nwB now = false := by simpa using hn
      have eC : pfC xs kn now = 4 := by unfold pfC; rw [hA, if_pos rfl, if_neg hn]
      have eR : pfR xs kn now = [] := by unfold pfR; rw [eC]; rfl
      rw [hn'] at HI
      have HFN := Lib.hid (fun w (h : Below W.heap.size W w) => newL_mk (W := W) eR eC h)
      clear h hb hl HH eC eR hA hbk
      go_enter Tryz.func22, Tryz.ntmps22
      go_wp2_with fail
      refine HA.out.mono ?_
      rintro e w1 ⟨rfl, hb1⟩
      have HF := Lib.hid (HFN.out w1 hb1)
      clear hb1
      go_wp2_with fail
      refine (HI.out _).mono ?_
      rintro e _ ⟨rfl, rfl⟩
      go_wp2
      exact bodyPost_ret (ret_2 Tryz.results22) rfl HF.out
  · have eC : pfC xs k now = A := by unfold pfC; rw [hA, if_neg hA0]
    have eR : pfR xs k now = [] := by unfold pfR pfC; rw [hA, if_neg hA0, if_neg hA0]
    rw [hA] at HA
    have hA1 : (A != 0) = true := by simpa using hA0
    have HFN := Lib.hid (fun w (h : Below W.heap.size W w) => newL_mk (W := W) eR eC h)
    clear hA h hb hl HH eC eR
    go_enter Tryz.func22, Tryz.ntmps22
    go_wp2_with fail
    refine HA.out.mono ?_
    rintro e w1 ⟨rfl, hb1⟩
    have HF := Lib.hid (HFN.out w1 hb1)
    clear hb1
    go_wp2
    exact bodyPost_ret (ret_2 Tryz.results22) rfl HF.out
set_option maxRecDepth 100000 in
set_option maxHeartbeats 2000000 in
theorem worksS_any (B : Nat) (w0 : World) (xs : List Pr) (v : Value) (h : PrIn (· < B) w0 v xs) (hl : ∀ i, i < xs.length → (xs.getD i default).url.length ≤ 1048576) (k : Int) (W : World) (hb : Below B w0 W) (hB : B ≤ W.heap.size) :
    Calls Tryz.prog 24 #[v, .int .i64 k] W (NewL W (pwR xs k) (askC xs k)) := by
  have HA := Lib.hid (askS_any B w0 xs v h hl k W hb hB)
  have HB := Lib.hid hb
  have HH := Lib.hid h
  obtain ⟨a, c, rfl⟩ := h.slice2
  by_cases h1 : 4096 < xs.length
  · have g1 : (4096 : Int) < (xs.length : Int) := by omega
    have eC : askC xs k = 2 := askC_long h1
    have eR : pwR xs k = [] := by unfold pwR; rw [askC_long h1]; rfl
    have HF := Lib.hid (newL_mk (W := W) eR eC (Below.refl _ _))
    clear h hb hl HH
    go_enter Tryz.func24, Tryz.ntmps24
    go_wp2
    exact bodyPost_ret (ret_2 Tryz.results24) rfl HF.out
  have g1 : ¬ ((4096 : Int) < (xs.length : Int)) := by omega
  obtain ⟨A, hA⟩ : ∃ A, askC xs k = A := ⟨_, rfl⟩
  by_cases hA0 : A = 0
  · subst hA0
    rw [hA] at HA
    obtain ⟨hpl, hk0, hk1⟩ := askC_at hA
    obtain ⟨kn, hkn⟩ : ∃ kn : Nat, k = (kn : Int) := ⟨k.toNat, by omega⟩
    subst hkn
    have hk : kn < xs.length := by omega
    have hsz := (plB_at hpl).1
    have hbk := bkB_at ((plB_at hpl).2 kn hk)
    have eR : pwR xs kn = xs.set kn (workP (xs.getD kn default)) := by unfold pwR; rw [hA, if_pos rfl]; rfl
    have HL := Lib.hid (fun W' h1 h2 => worksS_in B w0 xs _ HH.out (by omega) kn hk W' h1 h2)
    rw [hA, eR]
    clear h hb hl HH eR hA hbk
    generalize xs.set kn (workP (xs.getD kn default)) = R at *
    go_enter Tryz.func24, Tryz.ntmps24
    go_wp2_with fail
    refine HA.out.mono ?_
    rintro e w1 ⟨rfl, hb1⟩
    have B1 := Lib.hid hb1
    clear hb1
    go_wp2_with fail
    refine (HL.out _ (HB.out.trans (B1.out.mono hB)) (Nat.le_trans hB B1.out.size)).mono ?_
    rintro e w2 ⟨v2, rfl, ho2, hb2⟩
    have HF := Lib.hid (show NewL W R 0 (.returned (.tuple #[v2, .int .i64 0])) w2 from ⟨_, rfl, ho2.base B1.out.size, below_chain B1.out hb2⟩)
    obtain ⟨a3, c3, rfl⟩ := ho2.slice
    clear ho2 hb2
    go_wp2
    exact bodyPost_ret (ret_2 Tryz.results24) rfl HF.out
  · have eC : askC xs k = A := hA
    have eR : pwR xs k = [] := by unfold pwR; rw [hA, if_neg hA0]
    rw [hA] at HA
    have hA1 : (A != 0) = true := by simpa using hA0
    have HFN := Lib.hid (fun w (h : Below W.heap.size W w) => newL_mk (W := W) eR eC h)
    clear hA h hb hl HH eC eR
    go_enter Tryz.func24, Tryz.ntmps24
    go_wp2_with fail
    refine HA.out.mono ?_
    rintro e w1 ⟨rfl, hb1⟩
    have HF := Lib.hid (HFN.out w1 hb1)
    clear hb1
    go_wp2
    exact bodyPost_ret (ret_2 Tryz.results24) rfl HF.out
set_option maxRecDepth 100000 in
set_option maxHeartbeats 2000000 in
theorem goneS_any (B : Nat) (w0 : World) (xs : List Pr) (v : Value) (h : PrIn (· < B) w0 v xs) (hl : ∀ i, i < xs.length → (xs.getD i default).url.length ≤ 1048576) (k : Int) (W : World) (hb : Below B w0 W) (hB : B ≤ W.heap.size) :
    Calls Tryz.prog 26 #[v, .int .i64 k] W (NewL W (pgR xs k) (pgC xs k)) := by
  have HA := Lib.hid (askS_any B w0 xs v h hl k W hb hB)
  have HB := Lib.hid hb
  have HH := Lib.hid h
  obtain ⟨a, c, rfl⟩ := h.slice2
  by_cases h1 : 4096 < xs.length
  · have g1 : (4096 : Int) < (xs.length : Int) := by omega
    have eC : pgC xs k = 2 := by unfold pgC; rw [askC_long h1]; rfl
    have eR : pgR xs k = [] := by unfold pgR; rw [askC_long h1]; rfl
    have HF := Lib.hid (newL_mk (W := W) eR eC (Below.refl _ _))
    clear h hb hl HH
    go_enter Tryz.func26, Tryz.ntmps26
    go_wp2
    exact bodyPost_ret (ret_2 Tryz.results26) rfl HF.out
  have g1 : ¬ ((4096 : Int) < (xs.length : Int)) := by omega
  obtain ⟨A, hA⟩ : ∃ A, askC xs k = A := ⟨_, rfl⟩
  by_cases hA0 : A = 0
  · subst hA0
    rw [hA] at HA
    obtain ⟨hpl, hk0, hk1⟩ := askC_at hA
    obtain ⟨kn, hkn⟩ : ∃ kn : Nat, k = (kn : Int) := ⟨k.toNat, by omega⟩
    subst hkn
    have hk : kn < xs.length := by omega
    have hsz := (plB_at hpl).1
    have hbk := bkB_at ((plB_at hpl).2 kn hk)
    by_cases hg : (xs.getD kn default).gone = true
    · have eC : pgC xs kn = 15 := by unfold pgC; rw [hA, if_pos rfl]; show (if (xs.getD kn default).gone = true then (15 : Int) else 0) = 15; rw [if_pos hg]
      have eR : pgR xs kn = xs := by unfold pgR; rw [hA, if_pos rfl]; show (if (xs.getD kn default).gone = true then xs else _) = xs; rw [if_pos hg]
      rw [eC, eR]
      obtain ⟨i0, hi, hz0, hz1', hz2'⟩ := info_parts Tryz.infoPr
      have HN := Lib.hid (fun w1 (h1 : Below W.heap.size W w1) => pr_news ((HH.out.blw HB.out).same (S' := (· < W.heap.size)) (w' := w1.alloc (.cells #[] 57)) fun b hb => ⟨Nat.lt_of_lt_of_le hb hB, (belI_alloc (o := .cells #[] 57) h1).block b (Nat.lt_of_lt_of_le hb hB)⟩))
      have HGO := Lib.hid (fun (w1 : World) (h1 : Below W.heap.size W w1) => show ∃ (b off : Nat), a = some ⟨b, off, none⟩ ∧ w1.cell? ⟨b, off + kn * 6 + 5, none⟩ = some (.bool true) by
        obtain ⟨a', cap, b, off, e, -, -, -, ha, hc⟩ := HH.out.blw (HB.out.trans (h1.mono hB))
        injection e with e1 e2 e3
        obtain ⟨ea, -⟩ := ha (by omega)
        exact ⟨b, off, e1.trans ea, by rw [(hc kn hk).2.2.2.2.2, hg]⟩)
      have hcap : (kn : Int) < (xs.length : Int) := by omega
      clear h hb hl HH eC eR hA hbk hg
      go_enter Tryz.func26, Tryz.ntmps26
      go_wp2_with fail
      refine HA.out.mono ?_
      rintro e w1 ⟨rfl, hb1⟩
      have B1 := Lib.hid hb1
      obtain ⟨b, off, rfl, q5⟩ := HGO.out w1 hb1
      obtain ⟨a', c', e, hn⟩ := HN.out w1 hb1
      injection e with e1 e2 e3
      subst e1
      have HNN := Lib.hid hn
      have O2 := Lib.hid (O6_made w1)
      clear hb1 hn HN HGO e2
      go_wp2_with (at_builtin; (refine Apq.wpList_app_any _ rfl _ _ 26 rfl w1.heap.size 57 i0 _ 6 56 Tryz.underlying26 hi hz0 hz1' hz2' rfl (by omega) _ 0 [] rfl O2.out (some ⟨b, off, none⟩) xs.length _ (prC xs) rfl HNN.out (prC_len xs) (prC_one xs) (by omega) (by omega) (by simp) ?_; intro l' w4 hown' hgrow hplace; rw [Nat.zero_add] at hown'; have HF := Lib.hid (show NewL W xs 15 (.returned (.tuple #[l', .int .i64 15])) w4 from ⟨_, rfl, own_base hown' B1.out.size, below_chain B1.out (((Below.refl w1.heap.size w1).alloc (Nat.le_refl _) _).grown hgrow (by simp) (fun b e => by cases e; exact Nat.le_refl _))⟩); obtain ⟨a7, c7, rfl⟩ := own_slice hown'; clear hown' hgrow hplace))
      exact bodyPost_ret (ret_2 Tryz.results26) rfl HF.out
    · have hg' : (xs.getD kn default).gone = false := by simpa using hg
      have eC : pgC xs kn = 0 := by unfold pgC; rw [hA, if_pos rfl]; show (if (xs.getD kn default).gone = true then (15 : Int) else 0) = 0; rw [if_neg hg]
      have eR : pgR xs kn = xs.set kn (goneP (xs.getD kn default)) := by unfold pgR; rw [hA, if_pos rfl]; show (if (xs.getD kn default).gone = true then xs else _) = _; rw [if_neg hg]; rfl
      rw [eC, eR]
      have HL := Lib.hid (fun W' h1 h2 => leaveS_in B w0 xs _ HH.out (by omega) kn hk W' h1 h2)
      have HGO := Lib.hid (fun (w1 : World) (h1 : Below W.heap.size W w1) => show ∃ (b off : Nat), a = some ⟨b, off, none⟩ ∧ w1.cell? ⟨b, off + kn * 6 + 5, none⟩ = some (.bool false) by
        obtain ⟨a', cap, b, off, e, -, -, -, ha, hc⟩ := HH.out.blw (HB.out.trans (h1.mono hB))
        injection e with e1 e2 e3
        obtain ⟨ea, -⟩ := ha (by omega)
        exact ⟨b, off, e1.trans ea, by rw [(hc kn hk).2.2.2.2.2, hg']⟩)
      have hcap : (kn : Int) < (xs.length : Int) := by omega
      clear h hb hl HH eC eR hA hbk hg hg'
      generalize xs.set kn (goneP (xs.getD kn default)) = R at *
      go_enter Tryz.func26, Tryz.ntmps26
      go_wp2_with fail
      refine HA.out.mono ?_
      rintro e w1 ⟨rfl, hb1⟩
      have B1 := Lib.hid hb1
      obtain ⟨b, off, rfl, q5⟩ := HGO.out w1 hb1
      clear hb1 HGO
      go_wp2_with fail
      refine (HL.out _ (HB.out.trans (B1.out.mono hB)) (Nat.le_trans hB B1.out.size)).mono ?_
      rintro e w2 ⟨v2, rfl, ho2, hb2⟩
      have HF := Lib.hid (show NewL W R 0 (.returned (.tuple #[v2, .int .i64 0])) w2 from ⟨_, rfl, ho2.base B1.out.size, below_chain B1.out hb2⟩)
      obtain ⟨a3, c3, rfl⟩ := ho2.slice
      clear ho2 hb2
      go_wp2
      exact bodyPost_ret (ret_2 Tryz.results26) rfl HF.out
  · have eC : pgC xs k = A := by unfold pgC; rw [hA, if_neg hA0]
    have eR : pgR xs k = [] := by unfold pgR; rw [hA, if_neg hA0]
    rw [hA] at HA
    have hA1 : (A != 0) = true := by simpa using hA0
    have HFN := Lib.hid (fun w (h : Below W.heap.size W w) => newL_mk (W := W) eR eC h)
    clear hA h hb hl HH eC eR
    go_enter Tryz.func26, Tryz.ntmps26
    go_wp2_with fail
    refine HA.out.mono ?_
    rintro e w1 ⟨rfl, hb1⟩
    have HF := Lib.hid (HFN.out w1 hb1)
    clear hb1
    go_wp2
    exact bodyPost_ret (ret_2 Tryz.results26) rfl HF.out
end Go.Proofs.YtakiigddbdapaaaGreatDoor.Pe
