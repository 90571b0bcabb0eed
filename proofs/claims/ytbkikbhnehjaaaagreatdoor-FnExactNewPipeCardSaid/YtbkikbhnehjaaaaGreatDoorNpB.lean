
/-
  The law FnExactNewPipe, walked. (Made by npb.py.)
-/
import Derived.Test.YtbkikbhnehjaaaaGreatDoorNpA
namespace Go.Proofs.YtbkikbhnehjaaaaGreatDoor.Np
open Go.RowKit
open Go.Proofs.YtbkikbhnehjaaaaGreatDoor.Po (belI_step belI_alloc)
open Go.Proofs.YtbkikbhnehjaaaaGreatDoor.Pi
open Go.Proofs.YtbkikbhnehjaaaaGreatDoor.Qu (Hd)
open Go.Proofs.YtbkikbhnehjaaaaGreatDoor.Ul (Tab MaxL)
set_option maxRecDepth 100000 in
set_option maxHeartbeats 8000000 in
theorem newPipe_walk (W : World) (hT : Tab W) (hM : MaxL W) : Calls Tryz.prog 3 #[] W fun e w' => e = .returned (.bool true) ∧ Below W.heap.size W w' := by
  have HT := Lib.hid hT
  have HM := Lib.hid hM
  have BA := Lib.hid (Below.refl W.heap.size W)
  have HEQ := Lib.hid (fun (w : World) (u u' : PV) (h : EmP u) (h' : EmP u') => show Calls Tryz.prog 13 #[nV u, nV u'] w (fun e w' => e = .returned (.bool true) ∧ Below w.heap.size w w') from eqPp_self w.heap.size w p0 u u' (h.pipe _ _) (h'.pipe _ _) w (Below.refl _ _) (Nat.le_refl _))
  clear hT hM
  go_enter Tryz.func3, Tryz.ntmps3
  go_wp2_with fail
  refine (newS_any _).mono ?_
  rintro e w1 ⟨⟨v1, v2, v3, v4, v5⟩, rfl, hE, hb⟩
  have BA := Lib.hid (belI_step BA.out hb)
  clear hb
  obtain ⟨⟨aa1, ac1, e1, h1⟩, ⟨aa2, ac2, e2, h2⟩, ⟨aa3, ac3, e3, h3⟩, ⟨aa4, ac4, e4, h4⟩, ⟨aa5, ac5, e5, h5⟩⟩ := hE
  simp only at e1 e2 e3 e4 e5
  subst e1 e2 e3 e4 e5
  have Ea := Lib.hid (show EmP ⟨.slice aa1 0 ac1, .slice aa2 0 ac2, .slice aa3 0 ac3, .slice aa4 0 ac4, .slice aa5 0 ac5⟩ from ⟨⟨aa1, ac1, rfl, h1⟩, ⟨aa2, ac2, rfl, h2⟩, ⟨aa3, ac3, rfl, h3⟩, ⟨aa4, ac4, rfl, h4⟩, ⟨aa5, ac5, rfl, h5⟩⟩)
  clear h1 h2 h3 h4 h5
  have Ka := Lib.hid (Hd.new w1 (.cells #[.slice aa1 0 ac1, .string ⟨#[]⟩, .slice aa2 0 ac2, .slice aa3 0 ac3, .int .i64 0, .int .i64 1, .slice aa4 0 ac4, .slice aa5 0 ac5] 30))
  have BA := Lib.hid (belI_alloc (o := (.cells #[.slice aa1 0 ac1, .string ⟨#[]⟩, .slice aa2 0 ac2, .slice aa3 0 ac3, .int .i64 0, .int .i64 1, .slice aa4 0 ac4, .slice aa5 0 ac5] 30)) BA.out)
  have za : w1.heap.size < (w1.alloc (.cells #[.slice aa1 0 ac1, .string ⟨#[]⟩, .slice aa2 0 ac2, .slice aa3 0 ac3, .int .i64 0, .int .i64 1, .slice aa4 0 ac4, .slice aa5 0 ac5] 30)).heap.size := by simp
  go_wp2_with fail
  refine (newI_any _ (HT.out.below BA.out) (HM.out.below BA.out)).mono ?_
  rintro e w2 ⟨⟨v1, v2, v3, v4, v5⟩, rfl, hE, hb⟩
  have Ka := Lib.hid (Ka.out.blw hb)
  have BA := Lib.hid (belI_step BA.out hb)
  clear hb
  obtain ⟨⟨ba1, bc1, e1, h1⟩, ⟨ba2, bc2, e2, h2⟩, ⟨ba3, bc3, e3, h3⟩, ⟨ba4, bc4, e4, h4⟩, ⟨ba5, bc5, e5, h5⟩⟩ := hE
  simp only at e1 e2 e3 e4 e5
  subst e1 e2 e3 e4 e5
  have Eb := Lib.hid (show EmP ⟨.slice ba1 0 bc1, .slice ba2 0 bc2, .slice ba3 0 bc3, .slice ba4 0 bc4, .slice ba5 0 bc5⟩ from ⟨⟨ba1, bc1, rfl, h1⟩, ⟨ba2, bc2, rfl, h2⟩, ⟨ba3, bc3, rfl, h3⟩, ⟨ba4, bc4, rfl, h4⟩, ⟨ba5, bc5, rfl, h5⟩⟩)
  clear h1 h2 h3 h4 h5
  have Ka := Lib.hid (Ka.out.al (.cells #[.slice ba1 0 bc1, .string ⟨#[]⟩, .slice ba2 0 bc2, .slice ba3 0 bc3, .int .i64 0, .int .i64 1, .slice ba4 0 bc4, .slice ba5 0 bc5] 30))
  have Kb := Lib.hid (Hd.new w2 (.cells #[.slice ba1 0 bc1, .string ⟨#[]⟩, .slice ba2 0 bc2, .slice ba3 0 bc3, .int .i64 0, .int .i64 1, .slice ba4 0 bc4, .slice ba5 0 bc5] 30))
  have BA := Lib.hid (belI_alloc (o := (.cells #[.slice ba1 0 bc1, .string ⟨#[]⟩, .slice ba2 0 bc2, .slice ba3 0 bc3, .int .i64 0, .int .i64 1, .slice ba4 0 bc4, .slice ba5 0 bc5] 30)) BA.out)
  have zb : w2.heap.size < (w2.alloc (.cells #[.slice ba1 0 bc1, .string ⟨#[]⟩, .slice ba2 0 bc2, .slice ba3 0 bc3, .int .i64 0, .int .i64 1, .slice ba4 0 bc4, .slice ba5 0 bc5] 30)).heap.size := by simp
  obtain ⟨x2, hx2⟩ : ∃ x, x = w2.alloc (.cells #[.slice ba1 0 bc1, .string ⟨#[]⟩, .slice ba2 0 bc2, .slice ba3 0 bc3, .int .i64 0, .int .i64 1, .slice ba4 0 bc4, .slice ba5 0 bc5] 30) := ⟨_, rfl⟩
  rw [← hx2] at Ka Kb BA zb
  have kk := Ka.out
  have ma0 := cell_of_row x2 (w1.heap.size) 0 _ _ _ kk
  have ma1 := cell_of_row x2 (w1.heap.size) 1 _ _ _ kk
  have ma2 := cell_of_row x2 (w1.heap.size) 2 _ _ _ kk
  have ma3 := cell_of_row x2 (w1.heap.size) 3 _ _ _ kk
  have ma4 := cell_of_row x2 (w1.heap.size) 4 _ _ _ kk
  have ma5 := cell_of_row x2 (w1.heap.size) 5 _ _ _ kk
  have ma6 := cell_of_row x2 (w1.heap.size) 6 _ _ _ kk
  have ma7 := cell_of_row x2 (w1.heap.size) 7 _ _ _ kk
  clear kk
  have kk := Kb.out
  have mb0 := cell_of_row x2 (w2.heap.size) 0 _ _ _ kk
  have mb1 := cell_of_row x2 (w2.heap.size) 1 _ _ _ kk
  have mb2 := cell_of_row x2 (w2.heap.size) 2 _ _ _ kk
  have mb3 := cell_of_row x2 (w2.heap.size) 3 _ _ _ kk
  have mb4 := cell_of_row x2 (w2.heap.size) 4 _ _ _ kk
  have mb5 := cell_of_row x2 (w2.heap.size) 5 _ _ _ kk
  have mb6 := cell_of_row x2 (w2.heap.size) 6 _ _ _ kk
  have mb7 := cell_of_row x2 (w2.heap.size) 7 _ _ _ kk
  clear kk
  rw [hx2] at ma0 ma1 ma2 ma3 ma4 ma5 ma6 ma7 mb0 mb1 mb2 mb3 mb4 mb5 mb6 mb7
  go_wp2_with fail
  rw [← hx2]
  refine (HEQ.out _ _ _ Eb.out Ea.out).mono ?_
  rintro e w3 ⟨rfl, hb⟩
  clear ma0 ma1 ma2 ma3 ma4 ma5 ma6 ma7 mb0 mb1 mb2 mb3 mb4 mb5 mb6 mb7
  clear hx2
  have Ka := Lib.hid (Ka.out.blw hb)
  have Kb := Lib.hid (Kb.out.blw hb)
  have BA := Lib.hid (belI_step BA.out hb)
  clear hb
  have kk := Kb.out
  have mb0 := cell_of_row w3 (w2.heap.size) 0 _ _ _ kk
  have mb1 := cell_of_row w3 (w2.heap.size) 1 _ _ _ kk
  have mb2 := cell_of_row w3 (w2.heap.size) 2 _ _ _ kk
  have mb3 := cell_of_row w3 (w2.heap.size) 3 _ _ _ kk
  have mb4 := cell_of_row w3 (w2.heap.size) 4 _ _ _ kk
  have mb5 := cell_of_row w3 (w2.heap.size) 5 _ _ _ kk
  have mb6 := cell_of_row w3 (w2.heap.size) 6 _ _ _ kk
  have mb7 := cell_of_row w3 (w2.heap.size) 7 _ _ _ kk
  clear kk
  go_wp2_with fail
  refine (markPipe_nil _ _ _ _ _ _ _ _ _ _ _).mono ?_
  rintro e w4 ⟨rfl, hb⟩
  clear mb0 mb1 mb2 mb3 mb4 mb5 mb6 mb7
  have Ka := Lib.hid (Ka.out.blw hb)
  have Kb := Lib.hid (Kb.out.blw hb)
  have BA := Lib.hid (belI_step BA.out hb)
  clear hb
  have kk := Kb.out
  have mb0 := cell_of_row w4 (w2.heap.size) 0 _ _ _ kk
  have mb1 := cell_of_row w4 (w2.heap.size) 1 _ _ _ kk
  have mb2 := cell_of_row w4 (w2.heap.size) 2 _ _ _ kk
  have mb3 := cell_of_row w4 (w2.heap.size) 3 _ _ _ kk
  have mb4 := cell_of_row w4 (w2.heap.size) 4 _ _ _ kk
  have mb5 := cell_of_row w4 (w2.heap.size) 5 _ _ _ kk
  have mb6 := cell_of_row w4 (w2.heap.size) 6 _ _ _ kk
  have mb7 := cell_of_row w4 (w2.heap.size) 7 _ _ _ kk
  clear kk
  go_wp2_with fail
  refine (heldPipe_nil _ _ _ _ _ _ _ _ _ _ _).mono ?_
  rintro e w5 ⟨rfl, hb⟩
  clear mb0 mb1 mb2 mb3 mb4 mb5 mb6 mb7
  have Ka := Lib.hid (Ka.out.blw hb)
  have Kb := Lib.hid (Kb.out.blw hb)
  have BA := Lib.hid (belI_step BA.out hb)
  clear hb
  go_wp2_with fail
  refine (newI_any _ (HT.out.below BA.out) (HM.out.below BA.out)).mono ?_
  rintro e w6 ⟨⟨v1, v2, v3, v4, v5⟩, rfl, hE, hb⟩
  have Ka := Lib.hid (Ka.out.blw hb)
  have Kb := Lib.hid (Kb.out.blw hb)
  have BA := Lib.hid (belI_step BA.out hb)
  clear hb
  obtain ⟨⟨da1, dc1, e1, h1⟩, ⟨da2, dc2, e2, h2⟩, ⟨da3, dc3, e3, h3⟩, ⟨da4, dc4, e4, h4⟩, ⟨da5, dc5, e5, h5⟩⟩ := hE
  simp only at e1 e2 e3 e4 e5
  subst e1 e2 e3 e4 e5
  have Ed := Lib.hid (show EmP ⟨.slice da1 0 dc1, .slice da2 0 dc2, .slice da3 0 dc3, .slice da4 0 dc4, .slice da5 0 dc5⟩ from ⟨⟨da1, dc1, rfl, h1⟩, ⟨da2, dc2, rfl, h2⟩, ⟨da3, dc3, rfl, h3⟩, ⟨da4, dc4, rfl, h4⟩, ⟨da5, dc5, rfl, h5⟩⟩)
  clear h1 h2 h3 h4 h5
  have Ka := Lib.hid (Ka.out.al (.cells #[.slice da1 0 dc1, .string ⟨#[]⟩, .slice da2 0 dc2, .slice da3 0 dc3, .int .i64 0, .int .i64 1, .slice da4 0 dc4, .slice da5 0 dc5] 30))
  have Kb := Lib.hid (Kb.out.al (.cells #[.slice da1 0 dc1, .string ⟨#[]⟩, .slice da2 0 dc2, .slice da3 0 dc3, .int .i64 0, .int .i64 1, .slice da4 0 dc4, .slice da5 0 dc5] 30))
  have Kd := Lib.hid (Hd.new w6 (.cells #[.slice da1 0 dc1, .string ⟨#[]⟩, .slice da2 0 dc2, .slice da3 0 dc3, .int .i64 0, .int .i64 1, .slice da4 0 dc4, .slice da5 0 dc5] 30))
  have BA := Lib.hid (belI_alloc (o := (.cells #[.slice da1 0 dc1, .string ⟨#[]⟩, .slice da2 0 dc2, .slice da3 0 dc3, .int .i64 0, .int .i64 1, .slice da4 0 dc4, .slice da5 0 dc5] 30)) BA.out)
  have zd : w6.heap.size < (w6.alloc (.cells #[.slice da1 0 dc1, .string ⟨#[]⟩, .slice da2 0 dc2, .slice da3 0 dc3, .int .i64 0, .int .i64 1, .slice da4 0 dc4, .slice da5 0 dc5] 30)).heap.size := by simp
  obtain ⟨x6, hx6⟩ : ∃ x, x = w6.alloc (.cells #[.slice da1 0 dc1, .string ⟨#[]⟩, .slice da2 0 dc2, .slice da3 0 dc3, .int .i64 0, .int .i64 1, .slice da4 0 dc4, .slice da5 0 dc5] 30) := ⟨_, rfl⟩
  rw [← hx6] at Ka Kb Kd BA zd
  have kk := Ka.out
  have ma0 := cell_of_row x6 (w1.heap.size) 0 _ _ _ kk
  have ma1 := cell_of_row x6 (w1.heap.size) 1 _ _ _ kk
  have ma2 := cell_of_row x6 (w1.heap.size) 2 _ _ _ kk
  have ma3 := cell_of_row x6 (w1.heap.size) 3 _ _ _ kk
  have ma4 := cell_of_row x6 (w1.heap.size) 4 _ _ _ kk
  have ma5 := cell_of_row x6 (w1.heap.size) 5 _ _ _ kk
  have ma6 := cell_of_row x6 (w1.heap.size) 6 _ _ _ kk
  have ma7 := cell_of_row x6 (w1.heap.size) 7 _ _ _ kk
  clear kk
  have kk := Kd.out
  have md0 := cell_of_row x6 (w6.heap.size) 0 _ _ _ kk
  have md1 := cell_of_row x6 (w6.heap.size) 1 _ _ _ kk
  have md2 := cell_of_row x6 (w6.heap.size) 2 _ _ _ kk
  have md3 := cell_of_row x6 (w6.heap.size) 3 _ _ _ kk
  have md4 := cell_of_row x6 (w6.heap.size) 4 _ _ _ kk
  have md5 := cell_of_row x6 (w6.heap.size) 5 _ _ _ kk
  have md6 := cell_of_row x6 (w6.heap.size) 6 _ _ _ kk
  have md7 := cell_of_row x6 (w6.heap.size) 7 _ _ _ kk
  clear kk
  rw [hx6] at ma0 ma1 ma2 ma3 ma4 ma5 ma6 ma7 md0 md1 md2 md3 md4 md5 md6 md7
  go_wp2_with fail
  rw [← hx6]
  refine (HEQ.out _ _ _ Ed.out Ea.out).mono ?_
  rintro e w7 ⟨rfl, hb⟩
  clear ma0 ma1 ma2 ma3 ma4 ma5 ma6 ma7 md0 md1 md2 md3 md4 md5 md6 md7
  clear hx6
  have Ka := Lib.hid (Ka.out.blw hb)
  have Kb := Lib.hid (Kb.out.blw hb)
  have Kd := Lib.hid (Kd.out.blw hb)
  have BA := Lib.hid (belI_step BA.out hb)
  clear hb
  have kk := Kb.out
  have mb0 := cell_of_row w7 (w2.heap.size) 0 _ _ _ kk
  have mb1 := cell_of_row w7 (w2.heap.size) 1 _ _ _ kk
  have mb2 := cell_of_row w7 (w2.heap.size) 2 _ _ _ kk
  have mb3 := cell_of_row w7 (w2.heap.size) 3 _ _ _ kk
  have mb4 := cell_of_row w7 (w2.heap.size) 4 _ _ _ kk
  have mb5 := cell_of_row w7 (w2.heap.size) 5 _ _ _ kk
  have mb6 := cell_of_row w7 (w2.heap.size) 6 _ _ _ kk
  have mb7 := cell_of_row w7 (w2.heap.size) 7 _ _ _ kk
  clear kk
  go_wp2_with fail
  refine (heldPipe_nil _ _ _ _ _ _ _ _ _ _ _).mono ?_
  rintro e w8 ⟨rfl, hb⟩
  clear mb0 mb1 mb2 mb3 mb4 mb5 mb6 mb7
  have Ka := Lib.hid (Ka.out.blw hb)
  have Kb := Lib.hid (Kb.out.blw hb)
  have Kd := Lib.hid (Kd.out.blw hb)
  have BA := Lib.hid (belI_step BA.out hb)
  clear hb
  go_wp2
  go_ret
  exact ⟨rfl, BA.out⟩
end Go.Proofs.YtbkikbhnehjaaaaGreatDoor.Np
