
/-
  GroupFor, the model's and the program's, and the law FnExactGroupFor, walked.
-/
import Derived.Test.YtmdplphjbgghoaaGreatDoorPoLaw
namespace Go.Proofs.YtmdplphjbgghoaaGreatDoor.Po
open Go.RowKit
open Go.Proofs.YtmdplphjbgghoaaGreatDoor.Tx
open Go.Proofs.YtmdplphjbgghoaaGreatDoor.Ul hiding ret_bool
def uriL : List UInt8 := [117, 114, 105]
def forT (p : Pl) : List UInt8 := if plB p then (if p.rep == [] then (if p.uris.length = 0 then [] else uriL) else p.rep) else []
def forC (p : Pl) : Int := if plB p then (if p.rep == [] then (if p.uris.length = 0 then 5 else 0) else 0) else 1
set_option maxRecDepth 100000 in
set_option maxHeartbeats 1000000 in
theorem lforS_any (p : Pl) (a : Option Addr) (c : Nat) (rv : Value) (W : World) (hb : plB p = true) (hr : ∃ a l c, rv = .slice a l c) :
    Calls Tryz.prog 52 #[pV p (.slice a p.uris.length c) rv] W fun e w' => e = .returned (.tuple #[.string ⟨(forT p).toArray⟩, .int .i64 (forC p)]) ∧ Below W.heap.size W w' := by
  obtain ⟨a2, l2, c2, rfl⟩ := hr
  obtain ⟨n, us, xs⟩ := p
  have e1 : forT ⟨n, us, xs⟩ = (if n == [] then (if us.length = 0 then [] else uriL) else n) := by simp [forT, hb]
  have e2 : forC ⟨n, us, xs⟩ = (if n == [] then (if us.length = 0 then 5 else 0) else 0) := by simp [forC, hb]
  rw [e1, e2]
  clear e1 e2 hb
  have HB1 := Lib.hid ((Below.refl W.heap.size W).alloc (Nat.le_refl _) (.cells #[.string ⟨n.toArray⟩, .slice a us.length c, .slice a2 l2 c2] 34))
  by_cases h1 : n = []
  · subst h1
    by_cases h2 : us.length = 0
    · have d2 : ((us.length : Int) == 0) = true := by simp [h2]
      simp only [if_true, beq_self_eq_true]
      rw [show (if us.length = 0 then ([] : List UInt8) else uriL) = [] from if_pos h2, show (if us.length = 0 then (5 : Int) else 0) = 5 from if_pos h2]
      clear h2
      go_enter Tryz.func52, Tryz.ntmps52
      go_wp2
      exact bodyPost_ret (v := .tuple #[.string ⟨#[]⟩, .int .i64 5]) (by simp [results, Tryz.results52, go_sem]) rfl ⟨rfl, HB1.out⟩
    · have d2 : ((us.length : Int) == 0) = false := by simp only [beq_eq_false_iff_ne, ne_eq]; omega
      simp only [if_true, beq_self_eq_true]
      rw [show (if us.length = 0 then ([] : List UInt8) else uriL) = uriL from if_neg h2, show (if us.length = 0 then (5 : Int) else 0) = 0 from if_neg h2]
      clear h2
      go_enter Tryz.func52, Tryz.ntmps52
      go_wp2
      exact bodyPost_ret (v := .tuple #[.string ⟨uriL.toArray⟩, .int .i64 0]) (by simp [results, Tryz.results52, go_sem, uriL]) rfl ⟨rfl, HB1.out⟩
  · have d1 : (n == []) = false := by simpa using h1
    have d1' : (n != []) = true := by simpa using h1
    rw [d1, if_neg (by simp), if_neg (by simp)]
    clear h1
    go_enter Tryz.func52, Tryz.ntmps52
    go_wp2
    exact bodyPost_ret (v := .tuple #[.string ⟨n.toArray⟩, .int .i64 0]) (by simp [results, Tryz.results52, go_sem]) rfl ⟨rfl, HB1.out⟩
set_option maxRecDepth 100000 in
set_option maxHeartbeats 1000000 in
theorem forS_any (B : Nat) (w0 : World) (p : Pl) (uv rv : Value) (hu : TxtsIn (· < B) w0 uv p.uris) (hr : RlIn (· < B) w0 rv p.rules) (hs : Small p) (W : World) (hb : Below B w0 W) (hB : B ≤ W.heap.size) :
    Calls Tryz.prog 23 #[pV p uv rv] W fun e w' => e = .returned (.tuple #[.string ⟨(forT p).toArray⟩, .int .i64 (forC p)]) ∧ Below W.heap.size W w' := by
  have HK := Lib.hid (fun W' h1 h2 => okS_any B w0 p uv rv hu hr hs.rules hs.name hs.words W' h1 h2)
  have hrs := hr.slice
  obtain ⟨a1, cu, b1, o1, rfl, -, -, -, -, -⟩ := hu
  have HFF := Lib.hid (fun (hp : plB p = true) (W' : World) => lforS_any p a1 cu rv W' hp hrs)
  obtain ⟨a2, l2, c2, rfl⟩ := hrs
  have HB := Lib.hid hb
  clear hr hs hb
  obtain ⟨r, hrr⟩ : ∃ r, plB p = r := ⟨_, rfl⟩
  rw [hrr] at HK
  obtain ⟨tt, htt⟩ : ∃ t, forT p = t := ⟨_, rfl⟩
  obtain ⟨tc, htc⟩ : ∃ t, forC p = t := ⟨_, rfl⟩
  rw [htt, htc]
  rw [htt, htc] at HFF
  have HTT := Lib.hid htt
  have HTC := Lib.hid htc
  clear htt htc
  have HK5 := heap_alloc_new W (xO p (.slice a1 p.uris.length cu) (.slice a2 l2 c2))
  have HB1 := Lib.hid ((Below.refl W.heap.size W).alloc (Nat.le_refl _) (xO p (.slice a1 p.uris.length cu) (.slice a2 l2 c2)))
  go_enter Tryz.func23, Tryz.ntmps23
  go_wp2_with fail
  refine (HK.out _ (HB.out.alloc hB _) (by simp; omega)).mono ?_
  rintro e w1 ⟨rfl, hb1⟩
  obtain ⟨m0, m1, m2, mf⟩ := three_cells ((hb1.block _ (by simp)).trans HK5)
  have HF := Lib.hid (below_chain HB1.out hb1)
  clear hb1 HK5 HK
  cases r
  · obtain rfl : tt = [] := by rw [← HTT.out]; simp [forT, hrr]
    obtain rfl : tc = 1 := by rw [← HTC.out]; simp [forC, hrr]
    clear HFF
    go_wp2
    exact bodyPost_ret (v := .tuple #[.string ⟨#[]⟩, .int .i64 1]) (by simp [results, Tryz.results23, go_sem]) rfl ⟨rfl, HF.out⟩
  · go_wp2_with fail
    refine (HFF.out hrr _).mono ?_
    rintro e w2 ⟨rfl, hb2⟩
    have HF2 := Lib.hid (below_chain HF.out hb2)
    clear hb2
    go_wp2
    exact bodyPost_ret (v := .tuple #[.string ⟨tt.toArray⟩, .int .i64 tc]) (by simp [results, Tryz.results23, go_sem]) rfl ⟨rfl, HF2.out⟩
set_option maxRecDepth 100000 in
set_option maxHeartbeats 1000000 in
theorem forI_any (B : Nat) (w0 : World) (p : Pl) (uv rv : Value) (hu : TxtsIn (· < B) w0 uv p.uris) (hr : RlIn (· < B) w0 rv p.rules) (hs : Small p) (W : World) (hb : Below B w0 W) (hB : B ≤ W.heap.size) (hT : Tab W) (hM : MaxL W) :
    Calls Tryz.prog 22 #[pV p uv rv] W fun e w' => e = .returned (.tuple #[.string ⟨(forT p).toArray⟩, .int .i64 (forC p)]) ∧ Below W.heap.size W w' := by
  have HK := Lib.hid (fun W' h1 h2 h3 h4 => polI_any B w0 p uv rv hu hr hs W' h1 h2 h3 h4)
  have hsr := hs.rep
  obtain ⟨a1, cu, b1, o1, rfl, -, -, -, -, -⟩ := hu
  obtain ⟨a2, l2, c2, rfl⟩ := hr.slice
  have HB := Lib.hid hb
  have HT := Lib.hid hT
  have HM := Lib.hid hM
  clear hr hs hb hT hM
  obtain ⟨n, us, xs⟩ := p
  simp only at hsr
  obtain ⟨r, hrr⟩ : ∃ r, plB ⟨n, us, xs⟩ = r := ⟨_, rfl⟩
  rw [hrr] at HK
  have e1 : forT ⟨n, us, xs⟩ = if r then (if n == [] then (if us.length = 0 then [] else uriL) else n) else [] := by simp [forT, hrr]
  have e2 : forC ⟨n, us, xs⟩ = if r then (if n == [] then (if us.length = 0 then 5 else 0) else 0) else 1 := by simp [forC, hrr]
  rw [e1, e2]
  clear e1 e2 hrr
  have HK5 := heap_alloc_new W (.cells #[.string ⟨n.toArray⟩, .slice a1 us.length cu, .slice a2 l2 c2] 34)
  have HB1 := Lib.hid ((Below.refl W.heap.size W).alloc (Nat.le_refl _) (.cells #[.string ⟨n.toArray⟩, .slice a1 us.length cu, .slice a2 l2 c2] 34))
  have HCL := Lib.hid (fun (W' : World) => Ul.clone_any n W' (by omega))
  by_cases h1 : n = []
  · have d1 : (n == []) = true := by simpa using h1
    have d1' : (n != []) = false := by simpa using h1
    clear h1
    by_cases h2 : us.length = 0
    · have d2 : decide ((0 : Int) < (us.length : Int)) = false := by simp only [decide_eq_false_iff_not]; omega
      have d2' : decide (0 < us.length) = false := by simp only [decide_eq_false_iff_not]; omega
      simp only [d1, if_true]
      rw [show (if us.length = 0 then ([] : List UInt8) else uriL) = [] from if_pos h2, show (if us.length = 0 then (5 : Int) else 0) = 5 from if_pos h2]
      clear h2
      go_enter Tryz.func22, Tryz.ntmps22
      go_wp2_with fail
      refine (HK.out _ (HB.out.alloc hB _) (by simp; omega) (HT.out.below HB1.out) (HM.out.below HB1.out)).mono ?_
      rintro e w1 ⟨rfl, hb1⟩
      obtain ⟨m0, m1, m2, mf⟩ := three_cells ((hb1.block _ (by simp)).trans HK5)
      have HF := Lib.hid (below_chain HB1.out hb1)
      clear hb1 HK5 HK
      cases r
      · go_wp2
        exact bodyPost_ret (v := .tuple #[.string ⟨#[]⟩, .int .i64 1]) (by simp [results, Tryz.results22, go_sem]) rfl ⟨rfl, HF.out⟩
      · go_wp2
        exact bodyPost_ret (v := .tuple #[.string ⟨#[]⟩, .int .i64 5]) (by simp [results, Tryz.results22, go_sem]) rfl ⟨rfl, HF.out⟩
    · have d2 : decide ((0 : Int) < (us.length : Int)) = true := by simp only [decide_eq_true_eq]; omega
      have d2' : decide (0 < us.length) = true := by simp only [decide_eq_true_eq]; omega
      simp only [d1, if_true]
      rw [show (if us.length = 0 then ([] : List UInt8) else uriL) = uriL from if_neg h2, show (if us.length = 0 then (5 : Int) else 0) = 0 from if_neg h2]
      clear h2
      go_enter Tryz.func22, Tryz.ntmps22
      go_wp2_with fail
      refine (HK.out _ (HB.out.alloc hB _) (by simp; omega) (HT.out.below HB1.out) (HM.out.below HB1.out)).mono ?_
      rintro e w1 ⟨rfl, hb1⟩
      obtain ⟨m0, m1, m2, mf⟩ := three_cells ((hb1.block _ (by simp)).trans HK5)
      have HF := Lib.hid (below_chain HB1.out hb1)
      clear hb1 HK5 HK
      cases r
      · go_wp2
        exact bodyPost_ret (v := .tuple #[.string ⟨#[]⟩, .int .i64 1]) (by simp [results, Tryz.results22, go_sem]) rfl ⟨rfl, HF.out⟩
      · go_wp2
        exact bodyPost_ret (v := .tuple #[.string ⟨uriL.toArray⟩, .int .i64 0]) (by simp [results, Tryz.results22, go_sem, uriL]) rfl ⟨rfl, HF.out⟩
  · have d1 : (n == []) = false := by simpa using h1
    have d1' : (n != []) = true := by simpa using h1
    simp only [d1, if_false, Bool.false_eq_true]
    clear h1
    go_enter Tryz.func22, Tryz.ntmps22
    go_wp2_with fail
    refine (HK.out _ (HB.out.alloc hB _) (by simp; omega) (HT.out.below HB1.out) (HM.out.below HB1.out)).mono ?_
    rintro e w1 ⟨rfl, hb1⟩
    obtain ⟨m0, m1, m2, mf⟩ := three_cells ((hb1.block _ (by simp)).trans HK5)
    have HF := Lib.hid (below_chain HB1.out hb1)
    clear hb1 HK5 HK
    cases r
    · go_wp2
      exact bodyPost_ret (v := .tuple #[.string ⟨#[]⟩, .int .i64 1]) (by simp [results, Tryz.results22, go_sem]) rfl ⟨rfl, HF.out⟩
    · go_wp2_with fail
      refine (HCL.out _).mono ?_
      rintro e w2 ⟨rfl, hb2⟩
      have HF2 := Lib.hid (below_chain HF.out hb2)
      clear hb2
      go_wp2
      exact bodyPost_ret (v := .tuple #[.string ⟨n.toArray⟩, .int .i64 0]) (by simp [results, Tryz.results22, go_sem]) rfl ⟨rfl, HF2.out⟩
end Go.Proofs.YtmdplphjbgghoaaGreatDoor.Po
