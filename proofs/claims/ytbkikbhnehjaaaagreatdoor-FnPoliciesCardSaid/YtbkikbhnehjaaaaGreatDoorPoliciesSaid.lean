
/-
  PROVED HERE: laws.FnPolicies answers true for every argument that the form lets in, and its arguments read behind the call as they read before. The walk itself is in the texts that this one imports; this is the frame round it.
  Conditions: the row's own, and that the listed package-level variables hold what the text lays (tied by the card).
-/
import Derived.Test.YtbkikbhnehjaaaaGreatDoorRows
import Derived.Test.YtbkikbhnehjaaaaGreatDoorCards
import Derived.Test.YtbkikbhnehjaaaaGreatDoorTie
import Derived.Test.YtbkikbhnehjaaaaGreatDoorPlW
import Derived.Test.YtbkikbhnehjaaaaGreatDoorRpTab
import Derived.Test.YtbkikbhnehjaaaaGreatDoorFrame
import Derived.WalkKit
import Derived.ProofKit
import Derived.OpenShut
import Derived.ShutString
import Derived.LaidMore
import Derived.Deep.DeepHandedRow
import Derived.Deep.DeepWitnessRowRef
import Derived.Stop.Joined
import Derived.SevenTiedAt
namespace Go.Proofs.YtbkikbhnehjaaaaGreatDoor.Pl
open Go.RowKit
open Go.Proofs.YtbkikbhnehjaaaaGreatDoor.Ul (Tab MaxL)
open Go.Proofs.YtbkikbhnehjaaaaGreatDoor.Dr (CodeIn line_any)
set_option maxRecDepth 100000 in
theorem policies_long (a b : Option Addr) (n m cn cm : Nat) (w : World) (y0 : n ≤ maxLen) (y1 : m ≤ maxLen) (h : 1048576 < n ∨ 1048576 < m) :
    Calls Tryz.prog 10 #[.slice a n cn, .slice b m cm] w fun e w' => e = .returned (.bool true) ∧ Below w.heap.size w w' := by
  unfold maxLen at y0 y1
  have e : ((decide ((1048576 : Int) < (n : Int))) || (decide ((1048576 : Int) < (m : Int)))) = true := by simp; omega
  go_enter Tryz.func10, Tryz.ntmps10
  go_wp2
  all_goals (first | (go_ret; exact ⟨rfl, Below.refl _ _⟩) | omega)
theorem policies_walk (a : Option Addr) (code : List UInt8) (cn : Nat) (y0 : code.length ≤ maxLen) (b : Option Addr) (more : List UInt8) (cm : Nat) (y1 : more.length ≤ maxLen) (w : World) (hc : CodeIn w (.slice a code.length cn) code) (hm : CodeIn w (.slice b more.length cm) more) (hcm : more.length ≤ cm) (hT : Tab w) (hM : MaxL w) :
    Calls Tryz.prog 10 #[.slice a code.length cn, .slice b more.length cm] w fun e w' => e = .returned (.bool true) ∧ Below w.heap.size w w' := by
  by_cases h0 : 1048576 < code.length
  · exact policies_long a b _ _ cn cm w y0 y1 (.inl h0)
  by_cases h1 : 1048576 < more.length
  · exact policies_long a b _ _ cn cm w y0 y1 (.inr h1)
  have ht3 : (more.take (min (more.length : Int) 120).toNat).length ≤ 1000 := by simp; omega
  have HD := fun (W : World) (hb : Below w.heap.size w W) => line_any _ code W (hc.below hb) (by omega)
  have HC := fun (W : World) (cap : Nat) (hb : Below w.heap.size w W) => (hm.below hb).text (min (more.length : Int) 120).toNat cap (by omega)
  exact policies_in a b _ _ cn cm [] (more.take (min (more.length : Int) 120).toNat) w hT hM h0 h1 hcm ht3 HD HC
end Go.Proofs.YtbkikbhnehjaaaaGreatDoor.Pl
namespace Go.Proofs.YtbkikbhnehjaaaaGreatDoor.fnPolicies
open Go.ChangeShapes Go.WideShapes Go.ChangeAt Go.RowKit
open Go.ChangeMaps (open_string shut_string)
theorem own : ownKnob Tryz.prog.godebug = none := by kernel_rfl
set_option maxRecDepth 100000 in
theorem contract (H : Type) (enc : TypeId × Value → H) (W : World) (base : Nat) (args : Array Value) (ds gs : List (DataW H)) (before : List MemPlace)
    (hval : ∀ (j : Nat) t v, Tryz.f10.params[j]? = some t → args[j]? = some v → Value.okWide Tryz.prog W .any base t v)
    (hW : DataW.Whole enc Tryz.prog Tryz.f10.params.toList Rows.fnPoliciesSpec.vars false W args.toList ds gs before) (hL : laidMetH Tryz.prog Rows.fnPoliciesRow.laid W)
    (hsh : W.ShapedOpen Tryz.prog)
    : Calls Tryz.prog 10 args W fun e W' => ∃ v, e = .returned v ∧ Rows.fnPoliciesSpec.post enc Tryz.prog Tryz.f10 false true false false W args v W' := by
  have hW' := hW
  obtain ⟨p, q, hA0, hV, rfl, hfz, hnd⟩ := hW
  have hA : DataW.TrodAll enc Tryz.prog W 0 (fun _ => true) true Tryz.f10.params.toList args.toList ds p := hA0
  rw [Tryz.params10] at hA hval
  obtain ⟨v0, vs0, d0, ds0, p0, q0, hargs, rfl, rfl, h0, r0⟩ := trodAll_cons hA
  obtain ⟨v1, vs1, d1, ds1, p1, q1, rfl, rfl, rfl, h1, r1⟩ := trodAll_cons r0
  obtain ⟨rfl, rfl, rfl⟩ := trodAll_nil r1
  obtain rfl : args = #[v0, v1] := by cases args; simp_all
  obtain ⟨rfl, rfl⟩ := trodVars_none hV
  obtain ⟨a0, l0, c0, rfl, y0, k0⟩ := Dr.open_bytes (hval 0 65 v0 rfl rfl) h0
  obtain ⟨a1, l1, c1, rfl, y1, k1, kc1⟩ := Dr.open_bytes2 (hval 1 65 v1 rfl rfl) h1
  clear hA0
  refine (Pl.policies_walk a0 l0 c0 y0 a1 l1 c1 y1 W k0 k1 kc1 (Ul.tab_of5 W hL) (Ul.maxl_of5 W hsh)).mono fun e W' ⟨he, hg⟩ => ?_
  subst he
  exact ⟨_, rfl, Frame.law_post (by kernel_rfl) (by kernel_rfl) (by kernel_rfl) (by kernel_rfl) Tryz.underlying4 hW' hg rfl⟩
theorem laid_met (os : Os) : laidMetH Tryz.prog Rows.fnPoliciesRow.laid ((Frame.laidWorld Tryz.prog os Rows.fnPoliciesRow.laid).forCall (fun _ _ => 0) ⟨#[], #[.slice none 0 0, .slice none 0 0], []⟩).memory :=
  laidMetH_of_parts3 (fuel := 8) (laidMet_of_run' 8 (by kernel_rfl) (by kernel_rfl)) (by kernel_rfl) (by kernel_rfl)
theorem reads (os : Os) {H : Type} (enc : TypeId × Value → H) : ∃ places, DataW.whole enc Tryz.prog ((Frame.laidWorld Tryz.prog os Rows.fnPoliciesRow.laid).forCall (fun _ _ => 0) ⟨#[], #[.slice none 0 0, .slice none 0 0], []⟩).memory Tryz.f10.params.toList Rows.fnPoliciesSpec.vars false (#[.slice none 0 0, .slice none 0 0] : Array Value).toList 8 = some ([.nil, .nil], [], places) :=
  Frame.reads_of (by kernel_rfl)
set_option maxRecDepth 100000 in
theorem lifted (os : Os) (started : os.Started) (H : Type) (enc : TypeId × Value → H) (F : Stop.Interp) :
    ReturnsInHanded {} Tryz.checked os 10 .any ((OpenSpec.ofChange Rows.fnPoliciesSpec).preRow enc Tryz.prog Tryz.f10 Rows.fnPoliciesRow.domain false Rows.fnPoliciesRow.laid) (((OpenSpec.ofChange Rows.fnPoliciesSpec).at F).post enc Tryz.prog Tryz.f10 false true false false) := by
  obtain ⟨places, hx⟩ := reads os enc
  refine returnsInHanded_of_row (C := Tryz.checked) (s := OpenSpec.ofChange Rows.fnPoliciesSpec) own started (by kernel_rfl) Tryz.func10
    (witness_row_atRef (enc := enc) (C := Tryz.checked) false (Frame.laidWorld Tryz.prog os Rows.fnPoliciesRow.laid) #[.slice none 0 0, .slice none 0 0] rfl (by kernel_rfl) (by kernel_rfl) (by kernel_rfl)
      (OpenSpec.preRow_of_cond 8 hx (by kernel_rfl) (fun k hk => by cases hk) (by kernel_rfl) (laid_met os))) ?_
  intro W base args ds gs before hval hW _ _ _ hL hsh _
  exact contract H enc W base args ds gs before hval hW hL hsh
theorem and_t {a b : Bool} (h1 : a = true) (h2 : b = true) : (a && b) = true := by rw [h1, h2]; rfl
set_option maxHeartbeats 4000000 in
set_option maxRecDepth 100000 in
theorem closed : joinedFacts Tryz.pinned.checked.prog 10 Tryz.f10 (OpenSpec.ofChange Rows.fnPoliciesSpec).bare Rows.fnPoliciesRow = true := by
  unfold joinedFacts
  refine and_t (and_t (and_t (and_t (and_t (and_t (and_t (and_t (and_t (and_t (and_t (and_t (and_t (and_t (and_t (and_t (and_t (and_t (and_t (and_t (and_t (and_t (and_t (and_t (and_t (and_t (and_t (and_t (and_t (and_t (and_t ?_ ?_) ?_) ?_) ?_) ?_) ?_) ?_) ?_) ?_) ?_) ?_) ?_) ?_) ?_) ?_) ?_) ?_) ?_) ?_) ?_) ?_) ?_) ?_) ?_) ?_) ?_) ?_) ?_) ?_) ?_) ?_
  all_goals (as_aux_lemma => kernel_rfl)
theorem said : Rows.FnPoliciesSaid :=
  OpenClaim.holds_of_cond 10 Tryz.f10 rfl rfl rfl rfl rfl rfl rfl ⟨rfl, rfl, rfl, rfl, rfl⟩ rfl rfl rfl rfl rfl (by kernel_rfl) Tryz.func10 closed
    (of_decide_eq_true (by kernel_rfl)) (by unfold Func.isWrapper; first | (rw [if_pos (by decide +kernel)]; kernel_rfl) | (rw [if_neg (by decide +kernel)]; exact ⟨rfl, rfl⟩))
    (fun os started H enc _ F => by rw [OpenClaim.pre_eq_preRow]; exact lifted os started H enc F)
end Go.Proofs.YtbkikbhnehjaaaaGreatDoor.fnPolicies
