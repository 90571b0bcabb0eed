
/-
  Rows appended onto own ones (append of whatever row, empty or not); strings.Clone, slices.Clone of reports, ownReports; Batch, the model's and the program's, walked.
-/
import Derived.Test.YtakiigddbdapaaaQuM
import Derived.Test.YtakiigddbdapaaaQuL
import Derived.Test.YtakiigddbdapaaaShelf
import Derived.Test.YtakiigddbdapaaaApp
import Derived.Deep.Upon
import Derived.Deep.RegionHeld3
namespace Go.Proofs.Ytakiigddbdapaaa.App
open Go.RowKit
section
variable {P : Program} (w : World)
/-- append of a row, which may be empty -/
theorem wpList_app_any {ops : Array Oper} {rest : List Oper} {o : Oper} {a : Act} {Q : Exit → Act → World → Prop} (hgd : o.guard = none) (s x : Operand) (t : TypeId)
    (ho : o.op = .call { callee := .builtin .append, args := #[s, x], argTypes := #[t, t] })
    (base : Nat) (e : TypeId) (i : TypeInfo) (z : Value) (size bytes : Nat) (ht : P.underlying t = some (.slice e)) (hi : P.info? e = some i) (hz : i.zero = some z)
    (hsize : i.size = size) (hby : i.bytes = bytes) (hzs : z.cells.size = size) (hsz : 0 < size)
    (v : Value) (n : Nat) (xs : List Value) (hs : a.eval s = v) (hown : w.ownsRow base e size v n xs)
    (xo : Option Addr) (m c : Nat) (news : List Value) (hx : a.eval x = .slice xo m c) (hm : 0 < m → ∃ ad, xo = some ad ∧ ∀ j u, news[j]? = some u → w.cell? (ad.add j) = some u) (hl : news.length = m * size) (h1 : ∀ u ∈ news, u.oneCell' = true)
    (h63 : n + m ≤ 9223372036854775807) (hbytes : (n + m) * bytes ≤ 140737488355328) (hbase : base ≤ w.heap.size)
    (h : ∀ v' w', w'.ownsRow base e size v' (n + m) (xs ++ news) → w.grownBy w' v.ownBlock → (v'.ownBlock = v.ownBlock ∨ v'.ownBlock = some w.heap.size) → wpList P ops Q rest (a.put o.dst v') w') : wpList P ops Q (o :: rest) a w := by
  by_cases hm0 : m = 0
  · subst hm0
    have hn0 : news = [] := List.eq_nil_of_length_eq_zero (by rw [hl]; omega)
    subst hn0
    have hsrc : Src P i.size t (.slice xo 0 c) 0 [] w := by
      cases xo with
      | none => exact Src.ofNil w ht c
      | some ad => exact Src.ofSlice w ht ad 0 c [] (by simp) (fun j u h => by simp at h) (fun u h => by cases h)
    have hr : (Builtin.append_ #[t, t] o.type #[v, .slice xo 0 c]).run P w = .ok v w := by
      rcases hown.2 with ⟨rfl, rfl⟩ | ⟨g, cap, cur, rfl, _, _, hnc, _⟩
      · exact run_append_nothing w t t o.type e i ht hi none 0 0 (Nat.le_refl _) _ hsrc
      · exact run_append_nothing w t t o.type e i ht hi _ n cap hnc _ hsrc
    refine wpList_plain hgd fun K hK => ?_
    unfold Oper.wp execOp
    simp only [ho, resolve, invoke, builtin, Sem.run_bind, Sem.run_pure, Result.andThen_ok, List.map_toArray, List.map_cons, List.map_nil, hs, hx, hr]
    exact hK _ _ (h v w (by simpa using hown) ⟨rfl, rfl, rfl, Nat.le_refl _, fun _ _ _ => rfl⟩ (.inl rfl))
  · obtain ⟨ad, rfl, hc⟩ := hm (by omega)
    exact wpList_app w hgd s x t ho base e i z size bytes ht hi hz hsize hby hzs hsz v n xs hs hown ad m c news hx (by omega) hl hc h1 h63 hbytes hbase h
end
end Go.Proofs.Ytakiigddbdapaaa.App
namespace Go.Proofs.Ytakiigddbdapaaa.Qu
open Go.RowKit
open Go.Proofs.Ytakiigddbdapaaa.Tx
theorem add_at (b off j : Nat) : (({ block := b, off := off } : Addr).add j) = ⟨b, off + j, none⟩ := by unfold Addr.add; split <;> simp_all
theorem rp_news {S : Nat → Prop} {w : World} {v : Value} {xs : List Rep} (h : RpIn S w v xs) : ∃ a c, v = .slice a xs.length c ∧ (0 < xs.length → ∃ ad, a = some ad ∧ ∀ j u, (rpC xs)[j]? = some u → w.cell? (ad.add j) = some u) := by
  obtain ⟨a, cap, b, off, rfl, h1, h2, h3, h4, h5⟩ := h
  refine ⟨a, cap, rfl, fun hp => ⟨_, (h4 hp).1, fun j u hj => ?_⟩⟩
  have hlt : j < xs.length * 4 := by
    have := (List.getElem?_eq_some_iff.1 hj).1
    rwa [rpC_len] at this
  obtain ⟨g0, g1, g2, g3⟩ := rpC_get xs (j / 4) (by omega)
  obtain ⟨c0, c1, c2, c3⟩ := h5 (j / 4) (by omega)
  rw [add_at]
  rcases (show j % 4 = 0 ∨ j % 4 = 1 ∨ j % 4 = 2 ∨ j % 4 = 3 by omega) with e | e | e | e
  · have ej : j = j / 4 * 4 := by omega
    rw [← ej] at g0 c0
    rw [g0] at hj
    rw [c0, hj]
  · have ej : j = j / 4 * 4 + 1 := by omega
    rw [← ej] at g1
    rw [Nat.add_assoc, ← ej] at c1
    rw [g1] at hj
    rw [c1, hj]
  · have ej : j = j / 4 * 4 + 2 := by omega
    rw [← ej] at g2
    rw [Nat.add_assoc, ← ej] at c2
    rw [g2] at hj
    rw [c2, hj]
  · have ej : j = j / 4 * 4 + 3 := by omega
    rw [← ej] at g3
    rw [Nat.add_assoc, ← ej] at c3
    rw [g3] at hj
    rw [c3, hj]
theorem rpC_one : ∀ xs : List Rep, ∀ u ∈ rpC xs, u.oneCell' = true
  | [], u, h => by cases h
  | t :: r, u, h => by
    simp only [rpC, List.mem_cons] at h
    rcases h with rfl | rfl | rfl | rfl | h
    · rfl
    · rfl
    · rfl
    · rfl
    · exact rpC_one r u h
theorem tx_news {S : Nat → Prop} {w : World} {v : Value} {ns : List (List UInt8)} (h : TxtsIn S w v ns) : ∃ a c, v = .slice a ns.length c ∧ (0 < ns.length → ∃ ad, a = some ad ∧ ∀ j u, (strV ns)[j]? = some u → w.cell? (ad.add j) = some u) := by
  obtain ⟨a, cap, b, off, rfl, h1, h2, h3, h4, h5⟩ := h
  refine ⟨a, cap, rfl, fun hp => ⟨_, (h4 hp).1, fun j u hj => ?_⟩⟩
  have hlt : j < ns.length := by
    have := (List.getElem?_eq_some_iff.1 hj).1
    simpa [strV] using this
  have e := h5 j hlt
  simp only [strV, List.getElem?_map] at hj
  rw [List.getElem?_eq_getElem hlt] at hj
  simp only [Option.map_some, Option.some.injEq] at hj
  rw [← hj, add_at, e]
  simp [hlt]
theorem strV_one (ns : List (List UInt8)) : ∀ u ∈ strV ns, u.oneCell' = true := by
  intro u hu
  obtain ⟨t, _, rfl⟩ := List.mem_map.1 hu
  rfl
theorem cloneS_any (t : List UInt8) (w : World) (hm : t.length ≤ 1048576) : Calls Try.prog 51 #[.string ⟨t.toArray⟩] w fun e w' => e = .returned (.string ⟨t.toArray⟩) ∧ Below w.heap.size w w' := by
  go_enter Try.func51, Try.ntmps51
  go_wp2_with fail
  refine (Try.stringslite_Clone ⟨t.toArray⟩ _ (by show t.toArray.size ≤ _; simp; omega)).mono ?_
  rintro e w1 ⟨rfl, hb⟩
  have HB := Lib.hid hb
  clear hb
  go_wp2
  go_ret
  exact ⟨rfl, HB.out⟩
theorem O4_made (W : World) : O4 (W.alloc (.cells #[] 38)) W.heap.size (.slice (some ⟨W.heap.size, 0, none⟩) 0 0) [] := World.ownsRow_made W #[] 0 (Nat.le_refl _) (by decide) rfl
theorem O1_made (W : World) : O1 (W.alloc (.cells #[] 9)) W.heap.size (.slice (some ⟨W.heap.size, 0, none⟩) 0 0) [] := World.ownsRow_made W #[] 0 (Nat.le_refl _) (by decide) rfl
theorem OI_made (W : World) : OI (W.alloc (.cells #[] 3)) W.heap.size (.slice (some ⟨W.heap.size, 0, none⟩) 0 0) [] := World.ownsRow_made W #[] 0 (Nat.le_refl _) (by decide) rfl
set_option maxRecDepth 100000 in
set_option maxHeartbeats 2000000 in
theorem ownR_any (base : Nat) (v : Value) (xs : List Rep) (w : World) (h : O4 w base v xs) (hl : ∀ i, i < xs.length → (xs.getD i default).body.length ≤ 1048576) (hn : xs.length ≤ 1048576) :
    Calls Try.prog 48 #[v] w fun e w' => e = .returned v ∧ O4 w' base v xs ∧ w.grownBy w' v.ownBlock := by
  obtain ⟨hlen, h⟩ := h
  rcases h with ⟨rfl, h0⟩ | ⟨g, cap, cur, rfl, hbg, hg, hnc, hcm, hs, ht⟩
  · obtain rfl : xs = [] := List.eq_nil_of_length_eq_zero h0
    go_enter Try.func48, Try.ntmps48
    go_wp2
    go_loopw [7] (fun iv wr => iv = .int .i64 0 ∧ wr = w) (fun _ _ => 0)
    case atStart => exact ⟨rfl, rfl⟩
    case round =>
      obtain ⟨rfl, rfl⟩ := hrel
      go_wp2
      go_ret
      exact ⟨rfl, ⟨rfl, .inl ⟨rfl, rfl⟩⟩, ⟨rfl, rfl, rfl, Nat.le_refl _, fun _ _ _ => rfl⟩⟩
  · have hlt : g < w.heap.size := (Array.getElem?_eq_some_iff.1 hg).1
    obtain ⟨F, hrow, hF⟩ : ∃ F : Nat → Value, w.rowIs g 38 (cap * 4) F ∧ ∀ i, i < xs.length → F (i * 4) = .int .i64 (xs.getD i default).id ∧ F (i * 4 + 1) = .int .i64 (xs.getD i default).born ∧ F (i * 4 + 2) = .int .i64 (xs.getD i default).tries ∧ F (i * 4 + 3) = .string ⟨(xs.getD i default).body.toArray⟩ :=
      ⟨fun i => cur[i]?.getD undef, ⟨cur, hg, hs, fun i hi => by
        have : i < cur.size := by omega
        simp [this]⟩, fun i hi => by
        obtain ⟨e0, e1, e2, e3⟩ := rpC_get xs i hi
        rw [← ht, List.getElem?_take_of_lt (by omega)] at e0 e1 e2 e3
        simp only [Array.getElem?_toList] at e0 e1 e2 e3
        exact ⟨by simp [e0], by simp [e1], by simp [e2], by simp [e3]⟩⟩
    have HROW := Lib.hid hrow
    have HF := Lib.hid hF
    have HL := Lib.hid hl
    clear ht hs hg hrow hlen hF hl
    go_enter Try.func48, Try.ntmps48
    go_wp2
    go_loopw [7] (fun iv wr => ∃ i : Nat, i ≤ xs.length ∧ iv = .int .i64 i ∧ wr.rowIs g 38 (cap * 4) F ∧ w.grownBy wr (some g)) (fun iv _ => xs.length - (intOf iv).toNat)
    case atStart => exact ⟨0, by omega, rfl, HROW.out, ⟨rfl, rfl, rfl, Nat.le_refl _, fun _ _ _ => rfl⟩⟩
    case round =>
      obtain ⟨i, hi, rfl, hr, hG⟩ := hrel
      have HR := Lib.hid hr
      have HG := Lib.hid hG
      by_cases hlt2 : i < xs.length
      · obtain ⟨f0, f1, f2, f3⟩ := HF.out i hlt2
        have q0 := (hr.cell (i := i * 4) (by omega)).trans (congrArg some f0)
        have q1 := (hr.cell (i := i * 4 + 1) (by omega)).trans (congrArg some f1)
        have q2 := (hr.cell (i := i * 4 + 2) (by omega)).trans (congrArg some f2)
        have q3 := (hr.cell (i := i * 4 + 3) (by omega)).trans (congrArg some f3)
        have F3 := Lib.hid f3
        have HCL := Lib.hid (fun W => cloneS_any (xs.getD i default).body W (HL.out i hlt2))
        have hgl := HR.out.lt
        clear hr hG f0 f1 f2 f3
        generalize xs.getD i default = x at *
        go_wp2_with fail
        refine (HCL.out _).mono ?_
        rintro e w1 ⟨rfl, hb1⟩
        have hal := (Below.refl wr.heap.size wr).alloc (Nat.le_refl _) (.cells (rC x) 38)
        have hb2 : Below wr.heap.size wr w1 := hal.trans (hb1.mono (by simp))
        have hr1 := HR.out.of_block (hb2.block _ hgl)
        have p3 := hr1.cell (i := i * 4 + 3) (by omega)
        have pf := hr1.frozen
        have HR2 := Lib.hid ((hr1.set (i * 4 + 3) (.string ⟨x.body.toArray⟩)).congr (g := F) (fun j _ => by
          by_cases e : j = i * 4 + 3
          · rw [if_pos e, e, F3.out]
          · rw [if_neg e]))
        have HG2 := Lib.hid (show w.grownBy (w1.setCell ⟨g, i * 4 + 3, none⟩ (.string ⟨x.body.toArray⟩)) (some g) from
          ⟨hb2.os.trans HG.out.os, hb2.tape.trans HG.out.tape, hb2.output.trans HG.out.output, by have := HG.out.size; have := hb2.size; simp; omega, fun b hb hne => by
            have hne2 : b ≠ g := fun e => hne (by rw [e])
            exact (heap_setCell_other _ ⟨g, i * 4 + 3, none⟩ b _ hne2).trans ((hb2.block b (Nat.lt_of_lt_of_le hb HG.out.size)).trans (HG.out.block b hb hne))⟩)
        clear hb1 hr1 hal hb2 q0 q1 q2 q3
        go_wp2
        go_roundw
        case rel => exact ⟨i + 1, by omega, by go_num, HR2.out, HG2.out⟩
        case measure => simp [intOf]; omega
      · obtain rfl : i = xs.length := by omega
        have HO := Lib.hid (O4_of_row (base := base) HR.out hnc hcm hbg HF.out)
        clear hr hG
        go_wp2
        go_ret
        exact ⟨rfl, HO.out, HG.out⟩
/-! ### Batch -/
def batR (q : Q) : List Rep := if quB q then q.items.take 3 else []
def batC (q : Q) : Int := if quB q then 0 else 1
def NewB (W : World) (q : Q) (e : Ending) (w' : World) : Prop := ∃ v, e = .returned (.tuple #[v, .int .i64 (batC q)]) ∧ O4 w' W.heap.size v (batR q) ∧ Below W.heap.size W w'
theorem take_min (xs : List Rep) : xs.take (min xs.length 3) = xs.take 3 := by
  rw [List.take_eq_take_iff]; omega
end Go.Proofs.Ytakiigddbdapaaa.Qu
