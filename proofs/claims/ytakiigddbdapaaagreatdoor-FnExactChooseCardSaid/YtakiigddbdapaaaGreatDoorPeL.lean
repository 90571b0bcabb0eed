
/-
  PeerFails, PeerWorks, PeerGone of the program, walked.
-/
import Derived.Test.YtakiigddbdapaaaGreatDoorPeK
namespace Go.Proofs.YtakiigddbdapaaaGreatDoor.Pe
open Go.RowKit
open Go.Proofs.YtakiigddbdapaaaGreatDoor.Gr (belI_step belI_alloc ret_b ret_i)
open Go.Proofs.YtakiigddbdapaaaGreatDoor.Ul (Tab MaxL)
open Go.Proofs.YtakiigddbdapaaaGreatDoor.Mk
open Go.Proofs.YtakiigddbdapaaaGreatDoor.Pw (waF waI_any waF_le)
theorem getD_set {xs : List Pr} {k : Nat} (hk : k < xs.length) (y : Pr) : (xs.set k y).getD k default = y := by simp [hk]
section
variable {w : World} {base g cap k : Nat} {xs : List Pr}
theorem O6.two (h : O6 w base (.slice (Option.some ⟨g, 0, none⟩) xs.length cap) xs) (hk : k < xs.length) (f r : Int) : O6 ((w.setCell ⟨g, k * 6 + 3, none⟩ (.int .i64 f)).setCell ⟨g, k * 6 + 4, none⟩ (.int .i64 r)) base (.slice (Option.some ⟨g, 0, none⟩) xs.length cap) (xs.set k { xs.getD k default with fails := f, retry := r }) := by
  have h1 := O6.fails h hk f
  have hk2 : k < (xs.set k { xs.getD k default with fails := f }).length := by simpa using hk
  rw [show xs.length = (xs.set k { xs.getD k default with fails := f }).length by simp] at h1
  have h2 := O6.retry h1 hk2 r
  rw [getD_set hk, List.set_set] at h2
  simpa using h2
end
theorem newL_set {W w : World} {g cap : Nat} {xs R : List Pr} {C D : Int} (hC : C = D) (h : O6 w W.heap.size (.slice (Option.some ⟨g, 0, none⟩) xs.length cap) R) (hb : Below W.heap.size W w) : NewL W R C (.returned (.tuple #[.slice (Option.some ⟨g, 0, none⟩) xs.length cap, .int .i64 D])) w := by
  subst hC; exact ⟨_, rfl, h, hb⟩
set_option maxRecDepth 100000 in
set_option maxHeartbeats 2000000 in
theorem failsI_any (B : Nat) (w0 : World) (xs : List Pr) (v : Value) (h : PrIn (· < B) w0 v xs) (hl : ∀ i, i < xs.length → (xs.getD i default).url.length ≤ 1048576) (k now : Int) (W : World) (hb : Below B w0 W) (hB : B ≤ W.heap.size) (hT : Tab W) (hM : MaxL W) :
    Calls Tryz.prog 23 #[v, .int .i64 k, .int .i64 now] W (NewL W (pfR xs k now) (pfC xs k now)) := by
  have HO := Lib.hid (opnI_any B w0 xs v h hl k W hb hB hT hM)
  obtain ⟨a, c, rfl⟩ := h.slice2
  clear h hl hT hM hb
  obtain ⟨A, hA⟩ : ∃ A, askC xs k = A := ⟨_, rfl⟩
  by_cases hA0 : A = 0
  · subst hA0
    rw [hA] at HO
    obtain ⟨hpl, hk0, hk1⟩ := askC_at hA
    obtain ⟨kn, hkn⟩ : ∃ kn : Nat, k = (kn : Int) := ⟨k.toNat, by omega⟩
    subst hkn
    have hk : kn < xs.length := by omega
    have hsz := (plB_at hpl).1
    have hbk := bkB_at ((plB_at hpl).2 kn hk)
    have HI := Lib.hid (fun W' => nowP_any now W')
    by_cases hn : nwB now = true
    · have eC : pfC xs kn now = 0 := by unfold pfC; rw [hA, if_pos rfl, if_pos hn]
      have eR : pfR xs kn now = xs.set kn (failP (xs.getD kn default) now) := by unfold pfR; rw [eC, if_pos rfl]; rfl
      rw [hn] at HI
      have hn2 : 0 ≤ now ∧ now ≤ 1000000 := by unfold nwB at hn; simpa using hn
      rw [eC, eR]
      have hbf : 0 ≤ (xs.getD kn default).fails ∧ (xs.getD kn default).fails ≤ 1000000 := ⟨hbk.1, hbk.2.1⟩
      clear eC eR hA hbk hpl
      have HTW := Lib.hid (fun (w : World) (g cap : Nat) (f r : Int) (ho : O6 w W.heap.size (.slice (some ⟨g, 0, none⟩) xs.length cap) xs) => O6.two ho hk f r)
      have HEQ := Lib.hid (show failP (xs.getD kn default) now = { xs.getD kn default with fails := min ((xs.getD kn default).fails + 1) 1000000, retry := now + waF (min ((xs.getD kn default).fails + 1) 1000000) } from rfl)
      have hmin : min ((xs.getD kn default).fails + 1) 1000000 ≤ 1000000 ∧ 1 ≤ min ((xs.getD kn default).fails + 1) 1000000 := by omega
      obtain ⟨f2, hf2⟩ : ∃ z, min ((xs.getD kn default).fails + 1) 1000000 = z := ⟨_, rfl⟩
      rw [hf2] at hmin HEQ
      have HW := Lib.hid (fun W' => waI_any f2 hmin.2 (by omega) W')
      have hwl := waF_le f2
      rw [HEQ.out]
      clear HEQ
      generalize waF f2 = wt at *
      have HFN := Lib.hid (fun (w : World) (g cap : Nat) (ho : O6 w W.heap.size (.slice (some ⟨g, 0, none⟩) xs.length cap) xs) (hg : W.heap.size ≤ g) (hb : Below W.heap.size W w) => newL_set (W := W) (C := 0) rfl (HTW.out w g cap f2 (now + wt) ho) ((hb.setCell (p := ⟨g, kn * 6 + 3, none⟩) hg _).setCell (p := ⟨g, kn * 6 + 4, none⟩) hg _))
      clear HTW
      go_enter Tryz.func23, Tryz.ntmps23
      go_wp2_with fail
      refine HO.out.mono ?_
      rintro e w1 ⟨hb1, -, he⟩
      obtain ⟨g, cap, rfl, ho⟩ := he rfl
      have B1 := Lib.hid hb1
      have O1 := Lib.hid ho
      obtain ⟨q0, q1, q2, q3, q4, q5, qf⟩ := O6.at ho hk
      have hgW : W.heap.size ≤ g := (World.ownsRow.lt ho g rfl).1
      clear hb1 ho HO
      have HF := Lib.hid (HFN.out w1 g cap O1.out hgW B1.out)
      clear O1 B1 HFN
      generalize xs.getD kn default = x at *
      go_wp2_with fail
      refine (HI.out _).mono ?_
      rintro e _ ⟨rfl, rfl⟩
      go_wp2_with fail
      refine (HW.out _).mono ?_
      rintro e _ ⟨rfl, rfl⟩
      go_wp2
      exact bodyPost_ret (ret_2 Tryz.results23) rfl HF.out
    · have hn' : nwB now = false := by simpa using hn
      have eC : pfC xs kn now = 4 := by unfold pfC; rw [hA, if_pos rfl, if_neg hn]
      have eR : pfR xs kn now = [] := by unfold pfR; rw [eC]; rfl
      rw [hn'] at HI
      have HFN := Lib.hid (fun w (h : Below W.heap.size W w) => newL_nil (W := W) eR eC h)
      clear eC eR hA hbk
      go_enter Tryz.func23, Tryz.ntmps23
      go_wp2_with fail
      refine HO.out.mono ?_
      rintro e w1 ⟨hb1, -, he⟩
      obtain ⟨g, cap, rfl, ho⟩ := he rfl
      have B1 := Lib.hid hb1
      have O1 := Lib.hid ho
      obtain ⟨q0, q1, q2, q3, q4, q5, qf⟩ := O6.at ho hk
      have hgW : W.heap.size ≤ g := (World.ownsRow.lt ho g rfl).1
      clear hb1 ho HO
      have HF := Lib.hid (HFN.out w1 B1.out)
      clear HFN
      go_wp2_with fail
      refine (HI.out _).mono ?_
      rintro e _ ⟨rfl, rfl⟩
      go_wp2
      exact bodyPost_ret (ret_2 Tryz.results23) rfl HF.out
  · have eC : pfC xs k now = A := by unfold pfC; rw [hA, if_neg hA0]
    have eR : pfR xs k now = [] := by unfold pfR pfC; rw [hA, if_neg hA0, if_neg hA0]
    rw [hA] at HO
    have hA1 : (A != 0) = true := by simpa using hA0
    have HFN := Lib.hid (fun w (h : Below W.heap.size W w) => newL_nil (W := W) eR eC h)
    have HA0 := Lib.hid hA0
    clear hA eC eR hA0
    go_enter Tryz.func23, Tryz.ntmps23
    go_wp2_with fail
    refine HO.out.mono ?_
    rintro e w1 ⟨hb1, he, -⟩
    obtain rfl := he HA0.out
    have HF := Lib.hid (HFN.out w1 hb1)
    clear hb1
    go_wp2
    exact bodyPost_ret (ret_2 Tryz.results23) rfl HF.out
set_option maxRecDepth 100000 in
set_option maxHeartbeats 2000000 in
theorem worksI_any (B : Nat) (w0 : World) (xs : List Pr) (v : Value) (h : PrIn (· < B) w0 v xs) (hl : ∀ i, i < xs.length → (xs.getD i default).url.length ≤ 1048576) (k : Int) (W : World) (hb : Below B w0 W) (hB : B ≤ W.heap.size) (hT : Tab W) (hM : MaxL W) :
    Calls Tryz.prog 25 #[v, .int .i64 k] W (NewL W (pwR xs k) (askC xs k)) := by
  have HO := Lib.hid (opnI_any B w0 xs v h hl k W hb hB hT hM)
  obtain ⟨a, c, rfl⟩ := h.slice2
  clear h hl hT hM hb
  obtain ⟨A, hA⟩ : ∃ A, askC xs k = A := ⟨_, rfl⟩
  by_cases hA0 : A = 0
  · subst hA0
    rw [hA] at HO
    obtain ⟨hpl, hk0, hk1⟩ := askC_at hA
    obtain ⟨kn, hkn⟩ : ∃ kn : Nat, k = (kn : Int) := ⟨k.toNat, by omega⟩
    subst hkn
    have hk : kn < xs.length := by omega
    have hsz := (plB_at hpl).1
    have hbk := bkB_at ((plB_at hpl).2 kn hk)
    have eR : pwR xs kn = xs.set kn (workP (xs.getD kn default)) := by unfold pwR; rw [hA, if_pos rfl]; rfl
    rw [hA, eR]
    have HFN := Lib.hid (fun (w : World) (g cap : Nat) (ho : O6 w W.heap.size (.slice (some ⟨g, 0, none⟩) xs.length cap) xs) (hg : W.heap.size ≤ g) (hb : Below W.heap.size W w) => newL_set (W := W) (R := xs.set kn (workP (xs.getD kn default))) (C := 0) rfl (O6.two ho hk 0 0) ((hb.setCell (p := ⟨g, kn * 6 + 3, none⟩) hg _).setCell (p := ⟨g, kn * 6 + 4, none⟩) hg _))
    clear hA eR hbk
    go_enter Tryz.func25, Tryz.ntmps25
    go_wp2_with fail
    refine HO.out.mono ?_
    rintro e w1 ⟨hb1, -, he⟩
    obtain ⟨g, cap, rfl, ho⟩ := he rfl
    have B1 := Lib.hid hb1
    have O1 := Lib.hid ho
    obtain ⟨q0, q1, q2, q3, q4, q5, qf⟩ := O6.at ho hk
    have hgW : W.heap.size ≤ g := (World.ownsRow.lt ho g rfl).1
    clear hb1 ho HO
    have HF := Lib.hid (HFN.out w1 g cap O1.out hgW B1.out)
    clear O1 B1 HFN
    generalize xs.getD kn default = x at *
    go_wp2
    exact bodyPost_ret (ret_2 Tryz.results25) rfl HF.out
  · have eC : askC xs k = A := hA
    have eR : pwR xs k = [] := by unfold pwR; rw [hA, if_neg hA0]
    rw [hA] at HO
    have hA1 : (A != 0) = true := by simpa using hA0
    have HFN := Lib.hid (fun w (h : Below W.heap.size W w) => newL_nil (W := W) eR eC h)
    have HA0 := Lib.hid hA0
    clear hA eC eR hA0
    go_enter Tryz.func25, Tryz.ntmps25
    go_wp2_with fail
    refine HO.out.mono ?_
    rintro e w1 ⟨hb1, he, -⟩
    obtain rfl := he HA0.out
    have HF := Lib.hid (HFN.out w1 hb1)
    clear hb1
    go_wp2
    exact bodyPost_ret (ret_2 Tryz.results25) rfl HF.out
set_option maxRecDepth 100000 in
set_option maxHeartbeats 2000000 in
theorem goneI_any (B : Nat) (w0 : World) (xs : List Pr) (v : Value) (h : PrIn (· < B) w0 v xs) (hl : ∀ i, i < xs.length → (xs.getD i default).url.length ≤ 1048576) (k : Int) (W : World) (hb : Below B w0 W) (hB : B ≤ W.heap.size) (hT : Tab W) (hM : MaxL W) :
    Calls Tryz.prog 27 #[v, .int .i64 k] W (NewL W (pgR xs k) (pgC xs k)) := by
  have HO := Lib.hid (opnI_any B w0 xs v h hl k W hb hB hT hM)
  obtain ⟨a, c, rfl⟩ := h.slice2
  clear h hl hT hM hb
  obtain ⟨A, hA⟩ : ∃ A, askC xs k = A := ⟨_, rfl⟩
  by_cases hA0 : A = 0
  · subst hA0
    rw [hA] at HO
    obtain ⟨hpl, hk0, hk1⟩ := askC_at hA
    obtain ⟨kn, hkn⟩ : ∃ kn : Nat, k = (kn : Int) := ⟨k.toNat, by omega⟩
    subst hkn
    have hk : kn < xs.length := by omega
    have hsz := (plB_at hpl).1
    have hbk := bkB_at ((plB_at hpl).2 kn hk)
    by_cases hg : (xs.getD kn default).gone = true
    · have eC : pgC xs kn = 15 := by unfold pgC; rw [hA, if_pos rfl]; show (if (xs.getD kn default).gone = true then (15 : Int) else 0) = 15; rw [if_pos hg]
      have eR : pgR xs kn = xs := by unfold pgR; rw [hA, if_pos rfl]; show (if (xs.getD kn default).gone = true then xs else _) = xs; rw [if_pos hg]
      rw [eC, eR]
      clear eC eR hA hbk
      go_enter Tryz.func27, Tryz.ntmps27
      go_wp2_with fail
      refine HO.out.mono ?_
      rintro e w1 ⟨hb1, -, he⟩
      obtain ⟨g, cap, rfl, ho⟩ := he rfl
      have B1 := Lib.hid hb1
      have O1 := Lib.hid ho
      obtain ⟨q0, q1, q2, q3, q4, q5, qf⟩ := O6.at ho hk
      have hgW : W.heap.size ≤ g := (World.ownsRow.lt ho g rfl).1
      clear hb1 ho HO
      rw [hg] at q5
      have HF := Lib.hid (newL_set (C := 15) rfl O1.out B1.out)
      clear O1 B1 hg
      generalize xs.getD kn default = x at *
      go_wp2
      exact bodyPost_ret (ret_2 Tryz.results27) rfl HF.out
    · have hg' : (xs.getD kn default).gone = false := by simpa using hg
      have eC : pgC xs kn = 0 := by unfold pgC; rw [hA, if_pos rfl]; show (if (xs.getD kn default).gone = true then (15 : Int) else 0) = 0; rw [if_neg hg]
      have eR : pgR xs kn = xs.set kn (goneP (xs.getD kn default)) := by unfold pgR; rw [hA, if_pos rfl]; show (if (xs.getD kn default).gone = true then xs else _) = _; rw [if_neg hg]; rfl
      rw [eC, eR]
      have HFN := Lib.hid (fun (w : World) (g cap : Nat) (ho : O6 w W.heap.size (.slice (some ⟨g, 0, none⟩) xs.length cap) xs) (hg : W.heap.size ≤ g) (hb : Below W.heap.size W w) => newL_set (W := W) (R := xs.set kn (goneP (xs.getD kn default))) (C := 0) rfl (O6.gone ho hk true) (hb.setCell (p := ⟨g, kn * 6 + 5, none⟩) hg _))
      clear eC eR hA hbk
      go_enter Tryz.func27, Tryz.ntmps27
      go_wp2_with fail
      refine HO.out.mono ?_
      rintro e w1 ⟨hb1, -, he⟩
      obtain ⟨g, cap, rfl, ho⟩ := he rfl
      have B1 := Lib.hid hb1
      have O1 := Lib.hid ho
      obtain ⟨q0, q1, q2, q3, q4, q5, qf⟩ := O6.at ho hk
      have hgW : W.heap.size ≤ g := (World.ownsRow.lt ho g rfl).1
      clear hb1 ho HO
      rw [hg'] at q5
      have HF := Lib.hid (HFN.out w1 g cap O1.out hgW B1.out)
      clear O1 B1 HFN hg hg'
      generalize xs.getD kn default = x at *
      go_wp2
      exact bodyPost_ret (ret_2 Tryz.results27) rfl HF.out
  · have eC : pgC xs k = A := by unfold pgC; rw [hA, if_neg hA0]
    have eR : pgR xs k = [] := by unfold pgR; rw [hA, if_neg hA0]
    rw [hA] at HO
    have hA1 : (A != 0) = true := by simpa using hA0
    have HFN := Lib.hid (fun w (h : Below W.heap.size W w) => newL_nil (W := W) eR eC h)
    have HA0 := Lib.hid hA0
    clear hA eC eR hA0
    go_enter Tryz.func27, Tryz.ntmps27
    go_wp2_with fail
    refine HO.out.mono ?_
    rintro e w1 ⟨hb1, he, -⟩
    obtain rfl := he HA0.out
    have HF := Lib.hid (HFN.out w1 hb1)
    clear hb1
    go_wp2
    exact bodyPost_ret (ret_2 Tryz.results27) rfl HF.out
end Go.Proofs.YtakiigddbdapaaaGreatDoor.Pe
