
/-
  The program's readNumber and readName, walked.
-/
import Derived.Test.YtjakkmjipglkiaaDoorRdB
import Derived.Test.YtjakkmjipglkiaaDoorRdN
import Derived.Test.YtjakkmjipglkiaaDoorJsVal
namespace Go.Proofs.YtjakkmjipglkiaaDoor.Rd
open Go.RowKit
open Go.Proofs.YtjakkmjipglkiaaDoor.Rm
@[local go_sem] theorem ext_take (l : B) (k : Nat) : (⟨l.toArray⟩ : ByteArray).extract 0 k = ⟨(l.take k).toArray⟩ := by
  apply ByteArray.ext
  simp only [ByteArray.data_extract]
  apply Array.ext'
  simp
theorem trimP_any (bs p : B) (w : World) : Calls Tryd.prog 42 #[.string ⟨bs.toArray⟩, .string ⟨p.toArray⟩] w fun e w' => e = .returned (.string ⟨(Lib.trimPrefix bs p).toArray⟩) ∧ w = w' :=
  (Tryd.strings_TrimPrefix ⟨bs.toArray⟩ ⟨p.toArray⟩ w).mono fun _ _ ⟨h1, h2⟩ => ⟨h1, h2.symm⟩
/-- a number as the program holds it, if there is no code -/
def numVl (c n : Int) : Value := if c = 0 then .iface 54 (.int .i64 n) else .nilIface
set_option maxRecDepth 100000 in
set_option maxHeartbeats 4000000 in
theorem numI_any (R : Nat) (bs : B) (W : World) (h : Hd W R (rdO bs)) (hl : bs.length ≤ 65536) :
    Calls Tryd.prog 25 #[ptI R] W fun e w' => e = .returned (.tuple #[numVl (numR bs).1 (numR bs).2.1, .int .i64 (numR bs).1]) ∧ Hd w' R (rdO (numR bs).2.2) ∧ Ch (· = R) W w' := by
  have HP := Lib.hid (fun w => trimP_any bs [45] w)
  have HT := Lib.hid (fun w => show Calls Tryd.prog 26 #[.string ⟨(Lib.trimPrefix bs [45]).toArray⟩, .string ⟨#[48, 49, 50, 51, 52, 53, 54, 55, 56, 57]⟩] w fun e w' => e = .returned (.string ⟨(behindN bs).toArray⟩) ∧ Below w.heap.size w w' from trimI_any (Lib.trimPrefix bs [45]) digS w (by decide) (by decide))
  have hbl := behindN_len bs
  have HN := Lib.hid (show numR bs = if Ul.numB (numT bs) then (if rangeB (Ul.numV (numT bs)) then (0, Ul.numV (numT bs), behindN bs) else (4, 0, behindN bs)) else (3, 0, behindN bs) from rfl)
  have HTT := Lib.hid (show bs.take (bs.length - (behindN bs).length) = numT bs from rfl)
  have hk1 : IntKind.i64.wrap ((bs.length : Int) - ((behindN bs).length : Int)) = ((bs.length - (behindN bs).length : Nat) : Int) := by rw [IntWalk.i64_in _ ⟨by omega, by omega⟩]; omega
  have hk2 : bs.length - (behindN bs).length ≤ bs.length := by omega
  have HI := Lib.hid (fun w => Ul.readInt_any (numT bs) w (by unfold numT; simp; omega))
  have HNU := Lib.hid (fun w => Js.number_any (Ul.numV (numT bs)) w)
  generalize numR bs = res at *
  generalize behindN bs = be at *
  generalize Lib.trimPrefix bs [45] = ts at *
  generalize bs.length - be.length = k at *
  generalize numT bs = nt at *
  have H := Lib.hid h
  obtain ⟨c0, f0⟩ := h.one
  have hlt := h.lt
  have HRE := Lib.hid (show decide (-999999999 ≤ Ul.numV nt ∧ Ul.numV nt ≤ 999999999) = rangeB (Ul.numV nt) from rfl)
  rw [HRE.out] at HNU
  generalize Ul.numV nt = n at *
  generalize rangeB n = r1 at *
  generalize Ul.numB nt = r2 at *
  have HN2 := Lib.hid HN.out
  clear h HN HRE
  go_enter Tryd.func25, Tryd.ntmps25
  go_wp2_with fail
  refine (HP.out _).mono ?_
  rintro e w1 ⟨rfl, rfl⟩
  go_wp2_with fail
  refine (HT.out _).mono ?_
  rintro e w1 ⟨rfl, hb⟩
  have h1 := H.out.blw hb
  obtain ⟨d0, e0⟩ := h1.one
  have hl1 := h1.lt
  have H1 := Lib.hid h1
  have HC := Lib.hid (Ch.of_below (S := (· = R)) hb)
  clear h1 hb c0 f0
  go_wp2_with fail
  go_quiet (fail)
  rw [HTT.out]
  go_wp2_with fail
  refine (HI.out _).mono ?_
  rintro e w2 ⟨rfl, hb2⟩
  have H2 := Lib.hid ((show Hd ((w1.drewN nq).setCell ⟨R, 0, none⟩ (.string ⟨be.toArray⟩)) R (rdO be) from H1.out.set1 _).blw hb2)
  have HC2 := Lib.hid (((HC.out.drewN nq).set (o := 0) (x := .string ⟨be.toArray⟩) rfl).bel hb2)
  clear hb2
  cases r2 with
  | false =>
    go_wp2
    go_ret2
    rw [HN2.out]
    exact ⟨rfl, H2.out, HC2.out⟩
  | true =>
    go_wp2_with fail
    refine (HNU.out _).mono ?_
    rintro e w3 ⟨rfl, rfl⟩
    cases r1 with
    | false =>
      go_wp2
      go_ret2
      rw [HN2.out]
      exact ⟨rfl, H2.out, HC2.out⟩
    | true =>
      go_wp2
      go_ret2
      rw [HN2.out]
      exact ⟨rfl, H2.out, HC2.out⟩
theorem name_cases (ns : List B) (bs : B) (res : Int × B × B) (h : strR (trim bs).tail [] = res) : nameR ns bs = if Lib.hasPrefix (trim bs) [34] then (if res.1 = 0 then (if ns.contains res.2.1 then (13, [], []) else if Lib.hasPrefix (trim res.2.2) [58] then (0, res.2.1, (trim res.2.2).tail) else (3, [], [])) else (res.1, [], [])) else (3, [], []) := by
  subst h; rfl
theorem trimP_tail {bs : B} {y : UInt8} (h : Lib.hasPrefix bs [y] = true) : Lib.trimPrefix bs [y] = bs.tail := by
  unfold Lib.trimPrefix; rw [if_pos h]; simp
theorem trimP_same {bs p : B} (h : Lib.hasPrefix bs p = false) : Lib.trimPrefix bs p = bs := by
  unfold Lib.trimPrefix; rw [if_neg (by rw [h]; simp)]
/-- what readName says -/
def NameP (R : Nat) (W : World) (res : Int × B × B) (e : Ending) (w' : World) : Prop := ∃ t r, e = .returned (.tuple #[.string ⟨t.toArray⟩, .int .i64 res.1]) ∧ (res.1 = 0 → t = res.2.1 ∧ r = res.2.2) ∧ Hd w' R (rdO r) ∧ Ch (· = R) W w'
set_option maxRecDepth 100000 in
set_option maxHeartbeats 4000000 in
theorem nameI_any (R : Nat) (bs : B) (ns : List B) (nv : Value) (S : Nat → Prop) (W : World) (h : Hd W R (rdO bs)) (hn : Js.TxtsIn S W nv ns) (hS : ∀ b, S b → b < W.heap.size ∧ b ≠ R) (hl : bs.length ≤ 65536) (hs : SynV W) (hR : R ≠ 2) (res : Int × B × B) (hres : nameR ns bs = res) :
    Calls Tryd.prog 41 #[ptI R, nv] W (NameP R W res) := by
  obtain ⟨sr, hsr⟩ : ∃ sr, strR (trim bs).tail [] = sr := ⟨_, rfl⟩
  rw [name_cases ns bs sr hsr] at hres
  have HT := Lib.hid (takeI_any R bs [34] W h)
  have htl := trim_len bs
  have HSN := Lib.hid (fun (w : World) (hc : Ch (· = R) W w) => show Js.TxtsIn S w nv ns from hn.same fun b hb => ⟨hb, hc.block b (hS b hb).1 (hS b hb).2⟩)
  have HSV := Lib.hid (fun (w : World) (hc : Ch (· = R) W w) => show SynV w from hs.ch hc (fun e => hR e.symm))
  have HSR := Lib.hid (fun (w : World) (h : Hd w R (rdO (trim bs).tail)) (hs : SynV w) => strI_any R (trim bs).tail w h (by simp; omega) hs hR sr hsr)
  have HTL := Lib.hid (fun (h : Lib.hasPrefix (trim bs) [34] = true) => trimP_tail h)
  have HST := Lib.hid (fun (h : sr.1 = 0) => show sr.2.2.length ≤ 65536 by
    have h1 := strR_len (trim bs).tail []
    rw [hsr] at h1
    have h2 := tail_len (trim bs)
    omega)
  obtain ⟨av, lv, cv, rfl⟩ : ∃ a l c, nv = .slice a l c := by
    obtain ⟨a, cap, b, off, e, _⟩ := hn
    exact ⟨_, _, _, e⟩
  clear h hsr htl hn
  obtain ⟨r, hr⟩ : ∃ r, Lib.hasPrefix (trim bs) [34] = r := ⟨_, rfl⟩
  rw [hr] at hres HT
  generalize (trim bs).tail = ts at *
  go_enter Tryd.func41, Tryd.ntmps41
  go_wp2_with fail
  refine HT.out.mono ?_
  rintro e w1 ⟨rfl, h1, hc1⟩
  cases r with
  | false =>
    simp only [Bool.false_eq_true, if_false] at hres
    subst hres
    have H1 := Lib.hid h1
    have HC1 := Lib.hid hc1
    clear h1 hc1
    go_wp2
    go_ret2
    exact ⟨[], _, rfl, (fun h => by cases h), H1.out, HC1.out⟩
  | true =>
    rw [HTL.out hr] at h1
    have HX := Lib.hid (HSR.out w1 h1 (HSV.out w1 hc1))
    have HC1 := Lib.hid hc1
    clear h1 hc1
    simp only [if_true] at hres
    go_wp2_with fail
    refine HX.out.mono ?_
    rintro e w2 ⟨t, r2, rfl, ht, h2, hc2⟩
    have HC2 := Lib.hid (HC1.out.trans hc2)
    have H2 := Lib.hid h2
    clear hc2 h2
    by_cases h0 : sr.1 = 0
    · obtain ⟨rfl, rfl⟩ := ht h0
      have hl2 := HST.out h0
      rw [if_pos h0] at hres
      obtain ⟨c, s1, s2⟩ := sr
      simp only at h0 hres hl2 H2
      subst h0
      have HS2 := Lib.hid (fun r (hr : ns.contains s1 = r) => hr ▸ Js.hasI_any S ns s1 _ w2 (HSN.out w2 HC2.out))
      have HT2 := Lib.hid (takeI_any R s2 [58] w2 H2.out)
      obtain ⟨q, hq⟩ : ∃ q, ns.contains s1 = q := ⟨_, rfl⟩
      rw [hq] at hres
      have HS3 := Lib.hid (HS2.out q hq)
      clear HS2 hq
      cases q with
      | true =>
        simp only [if_true] at hres
        subst hres
        go_wp2_with fail
        refine HS3.out.mono ?_
        rintro e w3 ⟨rfl, rfl⟩
        go_wp2
        go_ret2
        exact ⟨[], _, rfl, (fun h => by cases h), H2.out, HC2.out⟩
      | false =>
        simp only [Bool.false_eq_true, if_false] at hres
        obtain ⟨p, hp⟩ : ∃ p, Lib.hasPrefix (trim s2) [58] = p := ⟨_, rfl⟩
        have HPT := Lib.hid (fun (h : p = true) => trimP_tail (hp.trans h))
        rw [hp] at hres HT2
        clear hp
        go_wp2_with fail
        refine HS3.out.mono ?_
        rintro e w3 ⟨rfl, rfl⟩
        go_wp2_with fail
        refine HT2.out.mono ?_
        rintro e w3 ⟨rfl, h3, hc3⟩
        have H3 := Lib.hid h3
        have HC3 := Lib.hid (HC2.out.trans hc3)
        clear h3 hc3
        cases p with
        | false =>
          simp only [Bool.false_eq_true, if_false] at hres
          subst hres
          go_wp2
          go_ret2
          exact ⟨[], _, rfl, (fun h => by cases h), H3.out, HC3.out⟩
        | true =>
          simp only [if_true] at hres
          subst hres
          go_wp2
          go_ret2
          exact ⟨s1, _, rfl, (fun _ => ⟨rfl, rfl⟩), HPT.out trivial ▸ H3.out, HC3.out⟩
    · rw [if_neg h0] at hres
      have g : (sr.1 != 0) = true := by simpa using h0
      have HG := Lib.hid (show ∀ w r, Hd w R (rdO r) → Ch (· = R) W w → NameP R W res (.returned (.tuple #[.string ⟨#[]⟩, .int .i64 sr.1])) w from fun w r h hc => ⟨[], r, by rw [← hres], (fun h => by rw [← hres] at h; exact absurd h h0), h, hc⟩)
      generalize sr.1 = k at *
      clear hres h0 ht
      go_wp2
      go_ret2
      exact HG.out _ _ H2.out HC2.out
end Go.Proofs.YtjakkmjipglkiaaDoor.Rd
