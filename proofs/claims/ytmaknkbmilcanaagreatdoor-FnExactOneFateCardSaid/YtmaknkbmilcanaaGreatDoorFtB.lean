
/-
  The program's records of fates, walked. (Made by fta.py.)
-/
import Derived.Test.YtmaknkbmilcanaaGreatDoorFtA
import Derived.Deep.RegionHeld3
namespace Go.Proofs.YtmaknkbmilcanaaGreatDoor.Ft
open Go.RowKit
open Go.Proofs.YtmaknkbmilcanaaGreatDoor.Tx (TxtsIn ret_b)
open Go.Proofs.YtmaknkbmilcanaaGreatDoor.Gr (Tg Gp TgIn ret_i)
open Go.Proofs.YtmaknkbmilcanaaGreatDoor.Pe (Pr PrIn)
open Go.Proofs.YtmaknkbmilcanaaGreatDoor.Qu (Rep Q RpIn IntsIn OI Hd intV)
open Go.Proofs.YtmaknkbmilcanaaGreatDoor.Po (Pl RlIn)
open Go.Proofs.YtmaknkbmilcanaaGreatDoor.Gr (belI_step belI_alloc)
open Go.Proofs.YtmaknkbmilcanaaGreatDoor.Pi (Cn En Wi Pp EnIn WiIn CnIn PpN PV pV8 ppV eV)

open Go.Proofs.YtmaknkbmilcanaaGreatDoor.Mk (below_grownBy own_slice own_base)
/-- what lies at place j of the records behind k entries -/
def RF (xs : List En) (k j : Nat) : Value := if j % 9 = 0 then .int .i64 (fateB xs ((j / 9 : Nat) : Int) k) else .int .i64 (cntB xs ((j / 9 : Nat) : Int) (((j % 9 - 1 : Nat)) : Int) k)
theorem cntB_le (xs : List En) (id kd : Int) : ∀ k : Nat, 0 ≤ cntB xs id kd k ∧ cntB xs id kd k ≤ k
  | 0 => ⟨Int.le_refl _, Int.le_refl _⟩
  | k + 1 => by unfold cntB; have := cntB_le xs id kd k; split <;> omega
theorem fateB_succ (xs : List En) (id : Int) (k : Nat) : fateB xs id (k + 1) = if (xs.getD k default).id = id then (xs.getD k default).kind else fateB xs id k := rfl
theorem cntB_succ (xs : List En) (id kd : Int) (k : Nat) : cntB xs id kd (k + 1) = if (xs.getD k default).id = id ∧ (xs.getD k default).kind = kd then cntB xs id kd k + 1 else cntB xs id kd k := rfl
theorem RF_step (xs : List En) (k i m : Nat) (hm : m < 8) (hi : (xs.getD k default).id = (i : Int)) (hk : (xs.getD k default).kind = (m : Int)) (j : Nat) :
    (if j = i * 9 + 1 + m then Value.int .i64 (cntB xs (i : Int) (m : Int) k + 1) else if j = i * 9 then .int .i64 (m : Int) else RF xs k j) = RF xs (k + 1) j := by
  have hj : j = 9 * (j / 9) + j % 9 := by omega
  have hr : j % 9 < 9 := by omega
  unfold RF
  rw [fateB_succ, cntB_succ, hi, hk]
  generalize j / 9 = a at *
  generalize j % 9 = r at *
  subst hj
  by_cases ea : a = i
  · subst ea
    by_cases er : r = 0
    · subst er
      rw [if_neg (by omega), if_pos (by omega), if_pos rfl, if_pos rfl]
    · by_cases em : r = m + 1
      · subst em
        rw [if_pos (by omega), if_neg (by omega)]
        have e1 : ((m + 1 - 1 : Nat) : Int) = (m : Int) := by omega
        rw [e1, if_pos ⟨rfl, rfl⟩]
      · rw [if_neg (by omega), if_neg (by omega), if_neg er, if_neg er, if_neg (by omega)]
  · rw [if_neg (by omega), if_neg (by omega)]
    by_cases er : r = 0
    · rw [if_pos er, if_pos er, if_neg (by omega)]
    · rw [if_neg er, if_neg er, if_neg (by omega)]
theorem Tryz.infoRec : (Tryz.prog.info? 126).map (fun i => (i.zero, i.size, i.bytes)) = some (some (.agg #[.int .i64 0, .int .i64 0, .int .i64 0, .int .i64 0, .int .i64 0, .int .i64 0, .int .i64 0, .int .i64 0, .int .i64 0]), 9, 72) := by kernel_rfl

theorem run_makeRec (n : Nat) (hn : n ≤ 1048576) (w : World) : (Instr.makeSlice 121 (.int .i64 (n : Int)) (.int .i64 (n : Int))).run Tryz.prog w = .ok (.slice (some ⟨w.heap.size, 0, none⟩) n n) (w.alloc (.cells (madeCells #[.int .i64 0, .int .i64 0, .int .i64 0, .int .i64 0, .int .i64 0, .int .i64 0, .int .i64 0, .int .i64 0, .int .i64 0] (n * 9)) 126)) := by
  obtain ⟨i0, hi, hz0, hz1, hz2⟩ := info_parts Tryz.infoRec
  have h := run_make (P := Tryz.prog) w 121 126 i0 _ Tryz.underlying121 hi hz0 .i64 .i64 n n (by omega) (by omega) (by rw [hz2]; omega) (by omega)
  rw [hz1] at h
  simpa [Value.cells] using h
theorem rec_start (W : World) (xs : List En) (n : Nat) : (W.alloc (.cells (madeCells #[.int .i64 0, .int .i64 0, .int .i64 0, .int .i64 0, .int .i64 0, .int .i64 0, .int .i64 0, .int .i64 0, .int .i64 0] (n * 9)) 126)).rowIs W.heap.size 126 (n * 9) (RF xs 0) := by
  refine ⟨_, heap_alloc_new _ _, size_madeCells _ _, fun i hi => ?_⟩
  have h9 : i % 9 < 9 := Nat.mod_lt _ (by omega)
  have e1 : RF xs 0 i = .int .i64 0 := by unfold RF fateB cntB; split <;> rfl
  rw [e1]
  simp only [madeCells]
  rcases (show i % 9 = 0 ∨ i % 9 = 1 ∨ i % 9 = 2 ∨ i % 9 = 3 ∨ i % 9 = 4 ∨ i % 9 = 5 ∨ i % 9 = 6 ∨ i % 9 = 7 ∨ i % 9 = 8 by omega) with e | e | e | e | e | e | e | e | e <;> simp [hi, e]
set_option maxRecDepth 100000 in
set_option maxHeartbeats 4000000 in
theorem recs_any (B : Nat) (w0 : World) (xs : List En) (u : Value) (h : EnIn (· < B) w0 u xs) (hsz : xs.length ≤ 1048576) (cv : Value) (rp : List UInt8) (uv rv : Value) (now : Int) (n : Nat) (hn : n ≤ 4096) (wv : Value)
    (hx : ∀ x ∈ xs, (1 ≤ x.kind ∧ x.kind ≤ 7) ∧ (1 ≤ x.id ∧ x.id ≤ (n : Int) - 1)) (W : World) (hb : Below B w0 W) (hB : B ≤ W.heap.size) :
    Calls Tryz.prog 83 #[rawP cv rp uv rv now (n : Int) u wv] W fun e w' => ∃ g, W.heap.size ≤ g ∧ e = .returned (.slice (some ⟨g, 0, none⟩) n n) ∧ w'.rowIs g 126 (n * 9) (RF xs xs.length) ∧ Below W.heap.size W w' := by
  obtain ⟨a, cap, b, off, rfl, hcap, hm, -, ha, hc⟩ := h
  have HC := Lib.hid hc
  have HA := Lib.hid ha
  have HB := Lib.hid hb
  have HX := Lib.hid hx
  have hxn : (xs.length : Int) ≤ 9223372036854775807 := by omega
  clear hc ha hb hcap hm hx
  have hmk := fun w => run_makeRec n (by omega) w
  obtain ⟨W1, hW1⟩ : ∃ W1, W1 = W.alloc (.cells #[cv, .string ⟨rp.toArray⟩, uv, rv, .int .i64 now, .int .i64 (n : Int), .slice a xs.length cap, wv] 41) := ⟨_, rfl⟩
  have B1 := Lib.hid (show Below W.heap.size W W1 by rw [hW1]; exact (Below.refl W.heap.size W).alloc (Nat.le_refl _) _)
  have K1 := Lib.hid (show Hd W1 W.heap.size (.cells #[cv, .string ⟨rp.toArray⟩, uv, rv, .int .i64 now, .int .i64 (n : Int), .slice a xs.length cap, wv] 41) by rw [hW1]; exact Hd.new W _)
  have z1 := K1.out.lt
  have B2 := Lib.hid (belI_alloc (o := .cells (madeCells #[.int .i64 0, .int .i64 0, .int .i64 0, .int .i64 0, .int .i64 0, .int .i64 0, .int .i64 0, .int .i64 0, .int .i64 0] (n * 9)) 126) B1.out)
  have K2 := Lib.hid (K1.out.al (.cells (madeCells #[.int .i64 0, .int .i64 0, .int .i64 0, .int .i64 0, .int .i64 0, .int .i64 0, .int .i64 0, .int .i64 0, .int .i64 0] (n * 9)) 126))
  have R2 := Lib.hid (rec_start W1 xs n)
  have m5 := cell_of_row W1 W.heap.size 5 _ _ _ K1.out
  have l6 := cell_of_row _ W.heap.size 6 _ _ _ K2.out
  go_enter Tryz.func83, Tryz.ntmps83
  go_upto_region 1 with fail
  rw [← hW1]
  clear hW1
  go_wp2
  go_loopw [13] (fun i wr => ∃ k : Nat, k ≤ xs.length ∧ i = .int .i64 k ∧ wr.rowIs W1.heap.size 126 (n * 9) (RF xs k) ∧ Below W.heap.size W wr) (fun i _ => xs.length - (intOf i).toNat)
  case atStart => exact ⟨0, by omega, rfl, R2.out, B2.out⟩
  case round =>
    obtain ⟨k, hk, rfl, hO, hR⟩ := hrel
    have HR := Lib.hid hR
    have HO := Lib.hid hO
    clear hR hO
    by_cases hlt : k < xs.length
    · obtain ⟨ea, hlb⟩ := HA.out (by omega)
      subst ea
      obtain ⟨c0, c1, c2⟩ := HC.out k hlt
      have hW := HB.out.trans (HR.out.mono hB)
      have q0 := (hW.cell (p := ⟨b, off + k * 3, none⟩) hlb).trans c0
      have q1 := (hW.cell (p := ⟨b, off + k * 3 + 1, none⟩) hlb).trans c1
      have q2 := (hW.cell (p := ⟨b, off + k * 3 + 2, none⟩) hlb).trans c2
      have hxk := HX.out (xs.getD k default) (by rw [List.getD_eq_getElem?_getD, List.getElem?_eq_getElem hlt]; exact List.getElem_mem hlt)
      obtain ⟨m, hmk⟩ : ∃ m : Nat, (xs.getD k default).kind = (m : Int) := ⟨(xs.getD k default).kind.toNat, by omega⟩
      obtain ⟨i, hik⟩ : ∃ i : Nat, (xs.getD k default).id = (i : Int) := ⟨(xs.getD k default).id.toNat, by omega⟩
      have hm8 : m < 8 := by omega
      have hin : i < n := by omega
      have ST := Lib.hid (RF_step xs k i m hm8 hik hmk)
      have hce := cntB_le xs (i : Int) (m : Int) k
      rw [hmk] at q0
      rw [hik] at q1
      clear c0 c1 c2 hW hxk hmk hik
      generalize (xs.getD k default).tm = tm at *
      have eC := show RF xs k (i * 9 + 1 + m) = .int .i64 (cntB xs (i : Int) (m : Int) k) by
        unfold RF
        rw [if_neg (by omega), show (i * 9 + 1 + m) / 9 = i by omega, show (i * 9 + 1 + m) % 9 - 1 = m by omega]
      generalize cntB xs (i : Int) (m : Int) k = cn at *
      obtain ⟨wa, hwa⟩ : ∃ wa, wa = wr.alloc (.cells #[.int .i64 (m : Int), .int .i64 (i : Int), .int .i64 tm] 107) := ⟨_, rfl⟩
      have KX := Lib.hid (show Hd wa wr.heap.size (.cells #[.int .i64 (m : Int), .int .i64 (i : Int), .int .i64 tm] 107) by rw [hwa]; exact Hd.new wr _)
      have OA := Lib.hid (show wa.rowIs W1.heap.size 126 (n * 9) (RF xs k) by rw [hwa]; exact HO.out.of_block (heap_alloc_old _ _ HO.out.lt))
      have BA := Lib.hid (show Below W.heap.size W wa by rw [hwa]; exact belI_alloc HR.out)
      have z3 : W1.heap.size < wr.heap.size := HO.out.lt
      have z4 : wr.heap.size ≠ W1.heap.size := by omega
      have x0 := cell_of_row wa wr.heap.size 0 _ _ _ KX.out
      have x1 := cell_of_row wa wr.heap.size 1 _ _ _ KX.out
      have x2 := cell_of_row wa wr.heap.size 2 _ _ _ KX.out
      have p0 := OA.out.cell (i := i * 9) (by omega)
      have p1 := OA.out.cell (i := i * 9 + 1 + m) (by omega)
      rw [eC] at p1
      have pf := OA.out.frozen
      have HN := Lib.hid ((((OA.out.set (i * 9) (.int .i64 (m : Int))).set (i * 9 + 1 + m) (.int .i64 (cn + 1))).congr (g := RF xs (k + 1)) (fun j _ => ST.out j)))
      have BN := Lib.hid ((BA.out.setCell (p := ⟨W1.heap.size, i * 9, none⟩) (by simp; omega) (.int .i64 (m : Int))).setCell (p := ⟨W1.heap.size, i * 9 + 1 + m, none⟩) (by simp; omega) (.int .i64 (cn + 1)))
      clear ST eC
      generalize RF xs k (i * 9) = zz at *
      go_upto_region 5 with fail
      rw [← hwa]
      clear hwa
      go_upto_region 7 with fail
      go_region
      go_wp2
      go_roundw
      case rel => exact ⟨k + 1, by omega, by go_num, HN.out, Below.drew BN.out⟩
      case measure => simp [intOf]; omega
    · obtain rfl : k = xs.length := by omega
      have HF := Lib.hid (show W.heap.size ≤ W1.heap.size by omega)
      go_wp2
      go_ret
      exact ⟨_, HF.out, rfl, HO.out, HR.out⟩
/-! ### which Ids have a fate -/
def idsZ (xs : List En) (kd : Int) (n : Nat) : List Int := ((List.range n).filter (fun i : Nat => decide (fateB xs (i : Int) xs.length = kd))).map (fun i : Nat => (i : Int))
theorem idsZ_step (xs : List En) (kd : Int) (n : Nat) : idsZ xs kd (n + 1) = idsZ xs kd n ++ (if fateB xs (n : Int) xs.length = kd then [(n : Int)] else []) := by
  unfold idsZ
  rw [List.range_succ, List.filter_append, List.map_append]
  by_cases e : fateB xs (n : Int) xs.length = kd <;> simp [e]
theorem idsZ_len (xs : List En) (kd : Int) (n : Nat) : (idsZ xs kd n).length ≤ n := by
  unfold idsZ
  rw [List.length_map]
  have := List.length_filter_le (fun i : Nat => decide (fateB xs (i : Int) xs.length = kd)) (List.range n)
  rw [List.length_range] at this
  exact this
theorem RF_0 (xs : List En) (k i : Nat) : RF xs k (i * 9) = .int .i64 (fateB xs (i : Int) k) := by
  unfold RF
  rw [if_pos (by omega), show i * 9 / 9 = i by omega]
theorem RF_k (xs : List En) (k i j : Nat) (hj : j < 8) : RF xs k (i * 9 + (j + 1)) = .int .i64 (cntB xs (i : Int) (j : Int) k) := by
  unfold RF
  rw [if_neg (by omega), show (i * 9 + (j + 1)) / 9 = i by omega, show (i * 9 + (j + 1)) % 9 - 1 = j by omega]
/-- the nine cells of a record -/
theorem rec_cells {w : World} {g n i : Nat} {xs : List En} {k : Nat} (h : w.rowIs g 126 (n * 9) (RF xs k)) (hi : i < n) :
    w.cell? ⟨g, i * 9, none⟩ = some (.int .i64 (fateB xs (i : Int) k)) ∧ w.cell? ⟨g, i * 9 + 1, none⟩ = some (.int .i64 (cntB xs (i : Int) 0 k)) ∧ w.cell? ⟨g, i * 9 + 2, none⟩ = some (.int .i64 (cntB xs (i : Int) 1 k)) ∧
    w.cell? ⟨g, i * 9 + 3, none⟩ = some (.int .i64 (cntB xs (i : Int) 2 k)) ∧ w.cell? ⟨g, i * 9 + 4, none⟩ = some (.int .i64 (cntB xs (i : Int) 3 k)) ∧ w.cell? ⟨g, i * 9 + 5, none⟩ = some (.int .i64 (cntB xs (i : Int) 4 k)) ∧
    w.cell? ⟨g, i * 9 + 6, none⟩ = some (.int .i64 (cntB xs (i : Int) 5 k)) ∧ w.cell? ⟨g, i * 9 + 7, none⟩ = some (.int .i64 (cntB xs (i : Int) 6 k)) ∧ w.cell? ⟨g, i * 9 + 8, none⟩ = some (.int .i64 (cntB xs (i : Int) 7 k)) := by
  refine ⟨?_, ?_, ?_, ?_, ?_, ?_, ?_, ?_, ?_⟩
  · rw [h.cell (by omega), RF_0]
  · rw [h.cell (by omega)]; exact congrArg some (RF_k xs k i 0 (by omega))
  · rw [h.cell (by omega)]; exact congrArg some (RF_k xs k i 1 (by omega))
  · rw [h.cell (by omega)]; exact congrArg some (RF_k xs k i 2 (by omega))
  · rw [h.cell (by omega)]; exact congrArg some (RF_k xs k i 3 (by omega))
  · rw [h.cell (by omega)]; exact congrArg some (RF_k xs k i 4 (by omega))
  · rw [h.cell (by omega)]; exact congrArg some (RF_k xs k i 5 (by omega))
  · rw [h.cell (by omega)]; exact congrArg some (RF_k xs k i 6 (by omega))
  · rw [h.cell (by omega)]; exact congrArg some (RF_k xs k i 7 (by omega))
set_option maxRecDepth 100000 in
set_option maxHeartbeats 4000000 in
theorem idsI_any (xs : List En) (g n : Nat) (hn : n ≤ 4096) (kd : Int) (W : World) (h : W.rowIs g 126 (n * 9) (RF xs xs.length)) :
    Calls Tryz.prog 82 #[.slice (some ⟨g, 0, none⟩) n n, .int .i64 kd] W (NewI W (idsZ xs kd n)) := by
  obtain ⟨i0, hi0, hz0, hz1, hz2⟩ := info_parts Pi.Tryz.infoInt
  have HH := Lib.hid h
  have hg : g < W.heap.size := h.lt
  have O0 := Lib.hid (show OI W W.heap.size (.slice none 0 0) (idsZ xs kd 0) from OI.nil W _)
  clear h
  go_enter Tryz.func82, Tryz.ntmps82
  go_wp2
  go_loopw [5, 10] (fun v i wr => ∃ k : Nat, k ≤ n ∧ i = .int .i64 k ∧ OI wr W.heap.size v (idsZ xs kd k) ∧ Below W.heap.size W wr) (fun _ i _ => n - (intOf i).toNat)
  case atStart => exact ⟨0, by omega, rfl, O0.out, Below.refl _ _⟩
  case round =>
    obtain ⟨k, hk, rfl, hO, hR⟩ := hrel
    have HR := Lib.hid hR
    have HO := Lib.hid hO
    have hr := HH.out.of_block (hR.block g hg)
    clear hR hO
    by_cases hlt : k < n
    · obtain ⟨q0, q1, q2, q3, q4, q5, q6, q7, q8⟩ := rec_cells hr hlt
      have D := Lib.hid (idsZ_step xs kd k)
      have hln := idsZ_len xs kd k
      clear hr
      generalize idsZ xs kd k = ds at *
      generalize fateB xs (k : Int) xs.length = f at *
      generalize cntB xs (k : Int) 0 xs.length = y0 at *
      generalize cntB xs (k : Int) 1 xs.length = y1 at *
      generalize cntB xs (k : Int) 2 xs.length = y2 at *
      generalize cntB xs (k : Int) 3 xs.length = y3 at *
      generalize cntB xs (k : Int) 4 xs.length = y4 at *
      generalize cntB xs (k : Int) 5 xs.length = y5 at *
      generalize cntB xs (k : Int) 6 xs.length = y6 at *
      generalize cntB xs (k : Int) 7 xs.length = y7 at *
      obtain ⟨a5, c5, rfl⟩ := OI.slice HO.out
      obtain ⟨wa, hwa⟩ : ∃ wa, wa = wr.alloc (.cells #[.int .i64 f, .int .i64 y0, .int .i64 y1, .int .i64 y2, .int .i64 y3, .int .i64 y4, .int .i64 y5, .int .i64 y6, .int .i64 y7] 126) := ⟨_, rfl⟩
      have BA := Lib.hid (show Below W.heap.size W wa by rw [hwa]; exact belI_alloc HR.out)
      have OA := Lib.hid (show OI wa W.heap.size (.slice a5 ds.length c5) ds by rw [hwa]; exact own_al HO.out _)
      have x0 := cell_of_row wa wr.heap.size 0 _ _ _ (show Hd wa wr.heap.size _ by rw [hwa]; exact Hd.new wr _)
      by_cases he : f = kd
      · subst he
        have he1 : (f == f) = true := by simp
        have F := Lib.hid (show idsZ xs f (k + 1) = ds ++ [(k : Int)] by rw [D.out, if_pos rfl])
        have OB := Lib.hid (own_al OA.out (.cells #[.int .i64 (k : Int)] 3))
        have BB := Lib.hid (belI_alloc (o := .cells #[.int .i64 (k : Int)] 3) BA.out)
        have z2 := BA.out.size
        clear D
        go_upto_region 5 with fail
        rw [← hwa]
        clear hwa
        go_wp2_with (at_builtin; refine wpList_append_own _ rfl _ _ 50 rfl W.heap.size 3 i0 (.int .i64 0) 1 8 Tryz.underlying50 hi0 hz0 hz1 hz2 rfl (by decide) _ _ _ rfl OB.out ⟨wa.heap.size, 0, none⟩ 1 1 [.int .i64 (k : Int)] rfl rfl (cell_one_new _ _ _) (one_int _) (by unfold maxLen; omega) (by omega) (by simp; omega) ?_; intro v' w4 hown' hgrow hplace; have HN := Lib.hid (F.out ▸ oi_snoc hown'); have HB4 := Lib.hid (BB.out.grown hgrow (by simp; omega) (fun g e => (World.ownsRow.lt OB.out g e).1)); obtain ⟨a7, c7, rfl⟩ := own_slice hown'; clear hown' hgrow hplace)
        go_roundw
        case rel => exact ⟨k + 1, by omega, by go_num, HN.out, HB4.out⟩
        case measure => simp [intOf]; omega
      · have he1 : (f == kd) = false := by simp [he]
        have F := Lib.hid (show idsZ xs kd (k + 1) = ds by rw [D.out, if_neg he, List.append_nil])
        clear D
        go_upto_region 5 with fail
        rw [← hwa]
        clear hwa
        go_wp2
        go_roundw
        case rel => exact ⟨k + 1, by omega, by go_num, by rw [F.out]; exact OA.out, BA.out⟩
        case measure => simp [intOf]; omega
    · obtain rfl : k = n := by omega
      have HF := Lib.hid (show NewI W (idsZ xs kd k) (.returned u5) wr from ⟨_, rfl, HO.out, HR.out⟩)
      obtain ⟨a5, c5, rfl⟩ := OI.slice HO.out
      clear HO
      go_wp2
      go_ret
      exact HF.out
/-! ### entriesFor -/
def efV (f : Int) : Value := .agg #[.int .i64 (efK f 0), .int .i64 (efK f 1), .int .i64 (efK f 2), .int .i64 (efK f 3), .int .i64 (efK f 4), .int .i64 (efK f 5), .int .i64 (efK f 6), .int .i64 (efK f 7)]
theorem ret_Ta {fn : Func} {a B : Nat} {tmps : Array Value} {X : World} {c0 c1 c2 c3 c4 c5 c6 c7 : Value} {T : TypeId} (hres : fn.results = #[.cell a 124]) (ha : tmps[a]?.getD undef = .pointer (some ⟨B, 0, none⟩)) (h : Hd X B (.cells #[c0, c1, c2, c3, c4, c5, c6, c7] T)) :
    (results fn tmps).run Tryz.prog X = .ok (.agg #[c0, c1, c2, c3, c4, c5, c6, c7]) X := by
  have k0 := cell_of_row X B 0 _ _ _ h
  have k1 := cell_of_row X B 1 _ _ _ h
  have k2 := cell_of_row X B 2 _ _ _ h
  have k3 := cell_of_row X B 3 _ _ _ h
  have k4 := cell_of_row X B 4 _ _ _ h
  have k5 := cell_of_row X B 5 _ _ _ h
  have k6 := cell_of_row X B 6 _ _ _ h
  have k7 := cell_of_row X B 7 _ _ _ h
  simp [results, hres, ha, go_sem, k0, k1, k2, k3, k4, k5, k6, k7]
set_option maxRecDepth 100000 in
set_option maxHeartbeats 4000000 in
theorem efI_any (f : Int) (hf : 0 ≤ f ∧ f ≤ 7) (W : World) : Calls Tryz.prog 88 #[.int .i64 f] W fun e w' => e = .returned (efV f) ∧ Below W.heap.size W w' := by
  rcases (show f = 0 ∨ f = 1 ∨ f = 2 ∨ f = 3 ∨ f = 4 ∨ f = 5 ∨ f = 6 ∨ f = 7 by omega) with rfl | rfl | rfl | rfl | rfl | rfl | rfl | rfl
  all_goals
    go_enter Tryz.func88, Tryz.ntmps88
    go_wp2
    exact bodyPost_ret (ret_Ta Tryz.results88 rfl ((Hd.new W _).al _)) rfl ⟨by simp [efV, efK], ((Below.refl _ _).alloc (Nat.le_refl _) _).alloc (by simp) _⟩
end Go.Proofs.YtmaknkbmilcanaaGreatDoor.Ft
