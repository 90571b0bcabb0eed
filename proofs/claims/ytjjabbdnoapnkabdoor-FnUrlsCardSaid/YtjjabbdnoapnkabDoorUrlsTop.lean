
/-
  The law FnUrls, walked: for every argument.
-/
import Derived.Test.YtjjabbdnoapnkabDoorUrlsWalk
namespace Go.Proofs.YtjjabbdnoapnkabDoor.Ul
open Go.RowKit
open Go.Proofs.YtjjabbdnoapnkabDoor.Dr (CodeIn UrlValue_any UrlDrawn_any AnyUrlDrawn_any urlU urlU_ok urlT urlT_ok S start_fit about)
theorem urlU_sizeU (s : S) (hf : s.fit 0) : sizeU (urlU s) ≤ 140737488351232 ∧ (urlU s).prt ≤ 9223372036854775807 := by
  have ht := (urlT_ok s hf).len
  unfold urlU
  cases parseB (urlT s).t with
  | true =>
    simp only [if_true]
    exact ⟨split_size (urlT s).t (by omega), parseX_port _⟩
  | false =>
    simp only [Bool.false_eq_true, if_false]
    exact ⟨by simp [sizeU, about], by simp [about]⟩
set_option maxRecDepth 100000 in
theorem urls_long (a b : Option Addr) (n m cn cm : Nat) (w : World) (y0 : n ≤ maxLen) (y1 : m ≤ maxLen) (h : 1048576 < n ∨ 1048576 < m) :
    Calls Tryd.prog 3 #[.slice a n cn, .slice b m cm] w fun e w' => e = .returned (.bool true) ∧ Below w.heap.size w w' := by
  unfold maxLen at y0 y1
  have e : ((decide ((1048576 : Int) < (n : Int))) || (decide ((1048576 : Int) < (m : Int)))) = true := by simp; omega
  go_enter Tryd.func3, Tryd.ntmps3
  go_wp2
  all_goals (first | (go_ret; exact ⟨rfl, (by repeat (first | (with_reducible exact Below.refl _ _) | (with_reducible refine belI_set ?_ (by first | exact Nat.le_refl _ | simp)) | (with_reducible refine belI_alloc ?_) | (with_reducible refine Below.drew ?_) | (with_reducible refine belI_drewN ?_ _) | (with_reducible refine belI_step ?_ (by assumption))))⟩) | omega)
theorem urls_walk (a : Option Addr) (code : List UInt8) (cn : Nat) (y0 : code.length ≤ maxLen) (b : Option Addr) (more : List UInt8) (cm : Nat) (y1 : more.length ≤ maxLen) (w : World) (hc : CodeIn w (.slice a code.length cn) code) (hm : CodeIn w (.slice b more.length cm) more) (hcm : more.length ≤ cm) (hT : Tab w) (hM : MaxL w) :
    Calls Tryd.prog 3 #[.slice a code.length cn, .slice b more.length cm] w fun e w' => e = .returned (.bool true) ∧ Below w.heap.size w w' := by
  by_cases h0 : 1048576 < code.length
  · exact urls_long a b _ _ cn cm w y0 y1 (.inl h0)
  by_cases h1 : 1048576 < more.length
  · exact urls_long a b _ _ cn cm w y0 y1 (.inr h1)
  obtain ⟨hl, hp1⟩ := urlU_sizeU (S.start code) (start_fit code)
  have hok := urlU_ok (S.start code)
  have ht : (urlT (S.start more)).t.length ≤ 1000 := by have := (urlT_ok (S.start more) (start_fit more)).len; omega
  have ht3 : (more.take (min (more.length : Int) 60).toNat).length ≤ 1000 := by simp; omega
  have HV := fun (W : World) (hb : Below w.heap.size w W) => UrlValue_any _ code W (hc.below hb) (by omega)
  have HD := fun (W : World) (hb : Below w.heap.size w W) => UrlDrawn_any _ more W (hm.below hb) (by omega)
  have HA := fun (W : World) (hb : Below w.heap.size w W) => AnyUrlDrawn_any _ more W (hm.below hb) (by omega)
  have HC := fun (W : World) (cap : Nat) (hb : Below w.heap.size w W) => (hm.below hb).text (min (more.length : Int) 60).toNat cap (by omega)
  exact urls_in a b _ _ cn cm (urlU (S.start code)) (urlT (S.start more)).t (more.take (min (more.length : Int) 60).toNat) w hT hM h0 h1 hcm hl hp1 ht ht3 hok HV HD HA HC
end Go.Proofs.YtjjabbdnoapnkabDoor.Ul
