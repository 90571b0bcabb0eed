import Derived.Below
import Derived.Lib.Builder
import Derived.Test.YtmaknkbmilcanaaGreatDoorChecked
import Derived.WalkKit
import Derived.WalkSpells
import Derived.WalkLawsBesides
import Derived.Lib.Hide
import Derived.RegionTactic
import Derived.BigRegion
import Derived.Deep.QuietTactic
import Derived.BigQuiet
import Derived.IntWalk
import Derived.Outline
import Derived.Test.YtmaknkbmilcanaaGreatDoorUrlSpecE
import Derived.Test.YtmaknkbmilcanaaGreatDoorTx
import Derived.ProofKit
import Derived.OpenShut
import Derived.ChangeSlices
import Derived.Test.YtmaknkbmilcanaaGreatDoorRqC
import Derived.Test.YtmaknkbmilcanaaGreatDoorPgA
namespace Go.Proofs.YtmaknkbmilcanaaGreatDoor.Dr
open Go.RowKit
structure S where
  code : List UInt8
  pos : Nat
  seed : Nat
def S.start (code : List UInt8) : S := ⟨code, 0, code.length % 1000⟩
def codeAt (s : S) : Nat := (s.code.getD s.pos 0).toNat
def byteS (s : S) : S :=
  if s.pos + 1 ≤ s.code.length then ⟨s.code, s.pos + 1, (s.seed * 31 + codeAt s + 7) % 2147483648⟩
  else if 3000 < s.pos + 1 then ⟨s.code, s.pos + 1, s.seed⟩ else ⟨s.code, s.pos + 1, (s.seed * 1103515245 + 12345) % 2147483648⟩
def nextS (s : S) (n : Nat) : S := if n ≤ 1 then s else byteS s
structure S.fit (s : S) (N : Nat) : Prop where
  pos : s.pos ≤ N
  seed : s.seed < 2147483648
theorem byteS_pos (s : S) : (byteS s).pos = s.pos + 1 := by unfold byteS; split; rfl; split <;> rfl
theorem S.fit.byte {s : S} {N : Nat} (h : s.fit N) : (byteS s).fit (N + 1) := by
  refine ⟨by rw [byteS_pos]; have := h.pos; omega, ?_⟩
  have := h.seed
  unfold byteS
  split
  · exact Nat.mod_lt _ (by omega)
  · split
    · exact h.seed
    · exact Nat.mod_lt _ (by omega)
theorem S.fit.next {s : S} {N : Nat} (h : s.fit N) (n : Nat) : (nextS s n).fit (N + 1) := by
  unfold nextS
  split
  · exact ⟨by have := h.pos; omega, h.seed⟩
  · exact h.byte
structure Fr (b : Nat) (w w' : World) : Prop where
  os : w'.os = w.os
  tape : w'.tape = w.tape
  output : w'.output = w.output
  size : w.heap.size ≤ w'.heap.size
  block : ∀ k, k < w.heap.size → k ≠ b → w'.heap[k]? = w.heap[k]?
theorem Fr.refl (b : Nat) (w : World) : Fr b w w := ⟨rfl, rfl, rfl, Nat.le_refl _, fun _ _ _ => rfl⟩
theorem Fr.trans {b : Nat} {w w1 w2 : World} (h : Fr b w w1) (h2 : Fr b w1 w2) : Fr b w w2 :=
  ⟨h2.os.trans h.os, h2.tape.trans h.tape, h2.output.trans h.output, Nat.le_trans h.size h2.size, fun k hk hb => (h2.block k (by have := h.size; omega) hb).trans (h.block k hk hb)⟩
theorem Fr.alloc {b : Nat} {w w1 : World} (h : Fr b w w1) (o : Obj) : Fr b w (w1.alloc o) :=
  h.trans ⟨rfl, rfl, rfl, by simp, fun k hk _ => Lib.alloc_old w1 _ k hk⟩
theorem Fr.drew {b : Nat} {w w1 : World} (h : Fr b w w1) : Fr b w w1.drew := ⟨h.os, h.tape, h.output, h.size, h.block⟩
theorem Fr.set {b : Nat} {w w1 : World} (h : Fr b w w1) (o : Nat) (v : Value) : Fr b w (w1.setCell ⟨b, o, none⟩ v) :=
  h.trans ⟨rfl, rfl, rfl, by simp [World.setCell], fun k _ hb => Below.heap_setCell _ _ _ _ (fun e => hb (by simpa using e))⟩
theorem Fr.below {b B : Nat} {w w' : World} (h : Fr b w w') (hB : B ≤ b) (hw : B ≤ w.heap.size) : Below B w w' :=
  ⟨h.os, h.tape, h.output, h.size, fun k hk => h.block k (by omega) (by omega)⟩
end Go.Proofs.YtmaknkbmilcanaaGreatDoor.Dr
namespace Go.Proofs.YtmaknkbmilcanaaGreatDoor.Dr
open Go.RowKit
def CodeIs (w : World) (b : Nat) (c : Value) (code : List UInt8) : Prop :=
  ∃ (a : Option Addr) (cap : Nat), c = .slice a code.length cap ∧ (code.length = 0 ∨ ∃ g off, a = some ⟨g, off, none⟩ ∧ g ≠ b ∧ g < w.heap.size ∧ ∀ j, j < code.length → w.cell? ⟨g, off + j, none⟩ = some (.int .u8 (code.getD j 0).toNat))
structure SrcAt (w : World) (b : Nat) (c : Value) (s : S) : Prop where
  blk : w.heap[b]? = some (.cells #[c, .int .i64 s.pos, .int .i64 s.seed] 222 (0, 0))
  code : CodeIs w b c s.code
theorem SrcAt.lt {w : World} {b : Nat} {c : Value} {s : S} (h : SrcAt w b c s) : b < w.heap.size := by
  rcases Nat.lt_or_ge b w.heap.size with h' | h'
  · exact h'
  · have := h.blk; simp [Array.getElem?_eq_none h'] at this
theorem CodeIs.fr {w w' : World} {b : Nat} {c : Value} {code : List UInt8} (h : CodeIs w b c code) (hf : Fr b w w') : CodeIs w' b c code := by
  obtain ⟨a, cap, rfl, h⟩ := h
  refine ⟨a, cap, rfl, ?_⟩
  rcases h with h | ⟨g, off, rfl, hg, hlt, hc⟩
  · exact .inl h
  · refine .inr ⟨g, off, rfl, hg, by have := hf.size; omega, fun j hj => ?_⟩
    rw [World.cell?_of_block (w := w) (a := ⟨g, off + j, none⟩) (hf.block g hlt hg)]
    exact hc j hj
theorem SrcAt.alloc {w : World} {b : Nat} {c : Value} {s : S} (h : SrcAt w b c s) (o : Obj) : SrcAt (w.alloc o) b c s :=
  ⟨by rw [Lib.alloc_old w o b h.lt]; exact h.blk, h.code.fr ((Fr.refl b w).alloc o)⟩
theorem SrcAt.drew {w : World} {b : Nat} {c : Value} {s : S} (h : SrcAt w b c s) : SrcAt w.drew b c s := ⟨h.blk, h.code.fr ((Fr.refl b w).drew)⟩
theorem SrcAt.drewN {w : World} {b : Nat} {c : Value} {s : S} (h : SrcAt w b c s) (n : Nat) : SrcAt (w.drewN n) b c s := ⟨h.blk, h.code.fr ⟨rfl, rfl, rfl, Nat.le_refl _, fun _ _ _ => rfl⟩⟩
def TextsAt (w : World) (g : Nat) (ts : List (List UInt8)) : Prop := ∀ j, j < ts.length → w.cell? ⟨g, j, none⟩ = some (.string ⟨(ts.getD j []).toArray⟩)
end Go.Proofs.YtmaknkbmilcanaaGreatDoor.Dr
namespace Go.Proofs.YtmaknkbmilcanaaGreatDoor.Dr
open Go.RowKit
open Go.ChangeShapes Go.WideShapes Go.ChangeAt
def CodeIn (w : World) (c : Value) (code : List UInt8) : Prop :=
  ∃ (a : Option Addr) (cap : Nat), c = .slice a code.length cap ∧ (code.length = 0 ∨ ∃ g off, a = some ⟨g, off, none⟩ ∧ g < w.heap.size ∧ ∀ j, j < code.length → w.cell? ⟨g, off + j, none⟩ = some (.int .u8 (code.getD j 0).toNat))
theorem CodeIn.below {w w' : World} {c : Value} {code : List UInt8} (h : CodeIn w c code) (hb : Below w.heap.size w w') : CodeIn w' c code := by
  obtain ⟨a, cap, rfl, h⟩ := h
  refine ⟨a, cap, rfl, ?_⟩
  rcases h with h | ⟨g, off, rfl, hlt, hc⟩
  · exact .inl h
  · exact .inr ⟨g, off, rfl, by have := hb.size; omega, fun j hj => (hb.cell (p := ⟨g, off + j, none⟩) hlt).trans (hc j hj)⟩
@[local go_sem] theorem bappL (a b : List UInt8) : (⟨a.toArray⟩ : ByteArray) ++ ⟨b.toArray⟩ = ⟨(a ++ b).toArray⟩ := by
  apply ByteArray.ext; simp
theorem CodeIn.text {w : World} {a : Option Addr} {n cap : Nat} {code : List UInt8} (h : CodeIn w (.slice a n cap) code) (k cap' : Nat) (hk : k ≤ code.length) :
    (convert 77 9 (.slice a k cap')).run Tryz.prog w = .ok (.string ⟨(code.take k).toArray⟩) w := by
  obtain ⟨a', cap2, e, h⟩ := h
  obtain ⟨rfl, _, _⟩ := by simpa using e
  have hlen : (code.take k).length = k := by simp; omega
  rcases h with h | ⟨g, off, rfl, hlt, hc⟩
  · obtain rfl : k = 0 := by omega
    cases a with
    | none => exact run_convert_bytes_nil (P := Tryz.prog) w 77 5 Tryz.underlying77 Tryz.underlying5 0 cap' 9 Tryz.underlying9
    | some a => exact run_convert_bytes_back (P := Tryz.prog) w 77 9 5 a cap' [] Tryz.underlying77 Tryz.underlying5 Tryz.underlying9 (fun j hj => by simp at hj)
  · have := run_convert_bytes_back (P := Tryz.prog) w 77 9 5 ⟨g, off, none⟩ cap' (code.take k) Tryz.underlying77 Tryz.underlying5 Tryz.underlying9 (fun j hj => by
      have hj2 : j < code.length := by simp at hj; omega
      have e : (⟨g, off, none⟩ : Addr).add j = ⟨g, off + j, none⟩ := by unfold Addr.add; split <;> simp_all
      rw [e, hc j hj2]
      simp [List.getD, hj2])
    rwa [hlen] at this
theorem TextsAt.below {w w' : World} {g : Nat} {ts : List (List UInt8)} (h : TextsAt w g ts) (hb : Below w.heap.size w w') (hlt : g < w.heap.size) : TextsAt w' g ts := fun j hj => (hb.cell (p := ⟨g, j, none⟩) hlt).trans (h j hj)
theorem TextsAt.alloc {w : World} {g : Nat} {ts : List (List UInt8)} (h : TextsAt w g ts) (o : Obj) (hlt : g < w.heap.size) : TextsAt (w.alloc o) g ts := fun j hj => (World.cell?_alloc_past _ _ _ hlt).trans (h j hj)
end Go.Proofs.YtmaknkbmilcanaaGreatDoor.Dr
namespace Go.Proofs.YtmaknkbmilcanaaGreatDoor.Tx
open Go.RowKit
end Go.Proofs.YtmaknkbmilcanaaGreatDoor.Tx
namespace Go.Proofs.YtmaknkbmilcanaaGreatDoor.Pl
open Go.RowKit
open Go.Proofs.YtmaknkbmilcanaaGreatDoor.Po
open Go.Proofs.YtmaknkbmilcanaaGreatDoor.Rp
open Go.Proofs.YtmaknkbmilcanaaGreatDoor.Cl (cleanC cleanL nofrag nofrag_ok PC_okG)
open Go.Proofs.YtmaknkbmilcanaaGreatDoor.Ul (lowL lowC upB PU PC textL okB webB PU_back)
open Go.Proofs.YtmaknkbmilcanaaGreatDoor.Aw (nowB wordB)
open Go.Proofs.YtmaknkbmilcanaaGreatDoor.Ug (Tg Gp tsK)
open Go.Proofs.YtmaknkbmilcanaaGreatDoor.Ow (LimR getD_mem getT_mem)
def wF : List (List UInt8) → List UInt8
  | [] => []
  | w :: t => 32 :: (w ++ wF t)
theorem wF_snoc : ∀ (a : List (List UInt8)) (w : List UInt8), wF (a ++ [w]) = wF a ++ 32 :: w
  | [], w => by simp [wF]
  | x :: t, w => by simp [wF, wF_snoc t w]
theorem wK_as (ws : List (List UInt8)) : ∀ j, j ≤ ws.length → wK ws j = wF (ws.take j)
  | 0, _ => rfl
  | j + 1, h => by
    have hj : j < ws.length := h
    have e : ws.take (j + 1) = ws.take j ++ [ws.getD j []] := by rw [List.take_add_one]; simp [hj]
    rw [e, wF_snoc, wK, wK_as ws j (by omega)]
def ruT (r : Rl) : List UInt8 := r.name ++ wF r.words
def tG : List Rl → List UInt8
  | [] => []
  | r :: t => ruT r ++ t.flatMap fun r => 59 :: 32 :: ruT r
theorem tG_snoc (a : List Rl) (x : Rl) : tG (a ++ [x]) = if a.isEmpty then ruT x else tG a ++ 59 :: 32 :: ruT x := by
  cases a with
  | nil => simp [tG]
  | cons r t => simp [tG]
theorem tK_as (xs : List Rl) : ∀ k, k ≤ xs.length → tK xs k = tG (xs.take k)
  | 0, _ => rfl
  | k + 1, h => by
    have hk : k < xs.length := h
    have e : xs.take (k + 1) = xs.take k ++ [xs.getD k default] := by rw [List.take_add_one]; simp [hk]
    have hw := wK_as (xs.getD k default).words _ (Nat.le_refl _)
    rw [List.take_length] at hw
    rw [e, tG_snoc, tK, tK_as xs k (by omega), hw]
    cases k with
    | zero => simp [sepK, ruT, tG]
    | succ k =>
      have hne : (xs.take (k + 1)).isEmpty = false := by
        cases xs with
        | nil => simp at h
        | cons _ _ => rfl
      rw [hne]
      simp [sepK, ruT]
theorem cut_pass (c : UInt8) : ∀ (m cur s : List UInt8), (∀ b ∈ m, b ≠ c) → cutA c cur (m ++ s) = cutA c (cur ++ m) s
  | [], cur, s, _ => by simp
  | b :: m, cur, s, h => by
    have h0 := h b (by simp)
    have ih := cut_pass c m (cur ++ [b]) s (fun x hx => h x (by simp [hx]))
    simp only [List.cons_append, cutA, if_neg h0, ih]
    simp
theorem cut_at (c : UInt8) (cur s : List UInt8) : cutA c cur (c :: s) = cur :: cutA c [] s := by simp [cutA]
def noEnd (r : Rl) : Prop := ∀ b ∈ ruT r, b ≠ 59
theorem cut_rules : ∀ (t : List Rl) (cur : List UInt8), (∀ r ∈ t, noEnd r) → cutA 59 cur (t.flatMap fun r => 59 :: 32 :: ruT r) = cur :: t.map fun r => 32 :: ruT r
  | [], cur, _ => by simp [cutA]
  | r :: t, cur, h => by
    have ih := cut_rules t (32 :: ruT r) (fun x hx => h x (by simp [hx]))
    have hp := cut_pass 59 (32 :: ruT r) [] (t.flatMap fun r => 59 :: 32 :: ruT r) (fun b hb => by
      rcases List.mem_cons.1 hb with rfl | hb
      · decide
      · exact h r (by simp) b hb)
    have e : (r :: t).flatMap (fun r => 59 :: 32 :: ruT r) = 59 :: ((32 :: ruT r) ++ t.flatMap fun r => 59 :: 32 :: ruT r) := by simp
    rw [e, cut_at, hp, List.nil_append, ih]
    rfl
theorem cut_tG (r : Rl) (t : List Rl) (h : ∀ x ∈ r :: t, noEnd x) : cutA 59 [] (tG (r :: t)) = ruT r :: t.map fun r => 32 :: ruT r := by
  have hp := cut_pass 59 (ruT r) [] (t.flatMap fun r => 59 :: 32 :: ruT r) (h r (by simp))
  show cutA 59 [] (ruT r ++ _) = _
  rw [hp, List.nil_append, cut_rules t _ (fun x hx => h x (by simp [hx]))]
def plainN (b : UInt8) : Prop := lowC b = b ∧ blkB b = false ∧ b ≠ 59
theorem low_plain (b : UInt8) (h : lowB b = true ∨ b = 45) : plainN b := by
  rcases h with h | rfl
  · simp only [lowB, Bool.and_eq_true, decide_eq_true_eq] at h
    refine ⟨?_, ?_, ?_⟩
    · unfold lowC
      have : upB b = false := by simp [upB]; omega
      rw [this]; rfl
    · rw [← blk_byte]; simp [blkP]; omega
    · rintro rfl; revert h; decide
  · exact ⟨by decide, by decide, by decide⟩
theorem rnB_mem : ∀ (t : List UInt8) (k : Nat), rnB k t = true → ∀ b ∈ t, plainN b
  | [], _, _, b, hb => by simp at hb
  | x :: r, k, h, b, hb => by
    simp only [rnB, Bool.and_eq_true, Bool.or_eq_true, beq_iff_eq] at h
    rcases List.mem_cons.1 hb with rfl | hb
    · exact low_plain b (h.1.imp id And.left)
    · exact rnB_mem r (k + 1) h.2 b hb
theorem name_plain {t : List UInt8} (h : rnameB t = true) : t ≠ [] ∧ ∀ b ∈ t, plainN b := by
  simp only [rnameB, Bool.and_eq_true, decide_eq_true_eq] at h
  exact ⟨by rintro rfl; simp at h, rnB_mem t 0 h.2⟩
theorem word_plain {t : List UInt8} (h : wordB t = true) : t ≠ [] ∧ ∀ b ∈ t, blkB b = false ∧ b ≠ 59 := by
  simp only [wordB, Bool.and_eq_true, Bool.not_eq_true', List.any_eq_false] at h
  refine ⟨by rintro rfl; simp at h, fun b hb => ?_⟩
  have := h.1 b hb
  simp only [nowB, Bool.or_eq_true, beq_iff_eq, not_or] at this
  exact ⟨by simp [blkB, this.1.1, this.1.2], this.2⟩
theorem words_flat : ∀ (ws : List (List UInt8)) (cur : List UInt8), cur ≠ [] → (∀ w ∈ ws, wordB w = true) → wordsA cur (wF ws) = cur :: ws
  | [], cur, hc, _ => by
    have : cur.isEmpty = false := by cases cur <;> simp_all
    simp [wF, wordsA, this]
  | w :: t, cur, hc, h => by
    have he : cur.isEmpty = false := by cases cur <;> simp_all
    obtain ⟨hw, hb⟩ := word_plain (h w (by simp))
    have ih := words_flat t w hw (fun x hx => h x (by simp [hx]))
    have h32 : blkB 32 = true := by decide
    simp only [wF, wordsA, h32, if_true, he, Bool.false_eq_true, if_false]
    rw [wordsA_run w [] _ (fun b hx => (hb b hx).1), List.nil_append, ih]
theorem rule_words (r : Rl) (h : rlB r = true) : wordsA [] (ruT r) = r.name :: r.words := by
  simp only [rlB, Bool.and_eq_true, List.all_eq_true] at h
  obtain ⟨hn, hb⟩ := name_plain h.1.1
  unfold ruT
  rw [wordsA_run r.name [] _ (fun b hx => (hb b hx).2.1), List.nil_append, words_flat _ _ hn h.2]
theorem low_same (t : List UInt8) (h : ∀ b ∈ t, lowC b = b) : lowL t = t := by
  unfold lowL
  induction t with
  | nil => rfl
  | cons b r ih => rw [List.map_cons, h b (by simp), ih (fun x hx => h x (by simp [hx]))]
theorem rule_of (r : Rl) (h : rlB r = true) (s : List UInt8) (hs : s = ruT r ∨ s = 32 :: ruT r) : ruleOf s = some r := by
  have hw := rule_words r h
  simp only [rlB, Bool.and_eq_true] at h
  have hl := low_same r.name (fun b hb => ((name_plain h.1.1).2 b hb).1)
  have e : wordsA [] s = r.name :: r.words := by
    rcases hs with rfl | rfl
    · exact hw
    · have h32 : blkB 32 = true := by decide
      simp only [wordsA, h32, if_true, List.isEmpty_nil]
      exact hw
  unfold ruleOf
  rw [e]
  simp only [hl, h.1.1, if_true]
theorem no_end (r : Rl) (h : rlB r = true) : noEnd r := by
  simp only [rlB, Bool.and_eq_true, List.all_eq_true] at h
  obtain ⟨-, hb⟩ := name_plain h.1.1
  have hw : ∀ ws : List (List UInt8), (∀ w ∈ ws, wordB w = true) → ∀ b ∈ wF ws, b ≠ 59 := by
    intro ws
    induction ws with
    | nil => intro _ b hb; simp [wF] at hb
    | cons w t ih =>
      intro hh b hb
      simp only [wF, List.mem_cons, List.mem_append] at hb
      rcases hb with rfl | hb | hb
      · decide
      · exact ((word_plain (hh w (by simp))).2 b hb).2
      · exact ih (fun x hx => hh x (by simp [hx])) b hb
  intro b hx
  unfold ruT at hx
  rcases List.mem_append.1 hx with hx | hx
  · exact (hb b hx).2.2
  · exact hw _ h.2 b hx
theorem rls_all : ∀ (xs pre : List Rl), rlsB pre xs = true → ∀ r ∈ xs, rlB r = true
  | [], _, _, r, hr => by simp at hr
  | x :: t, pre, h, r, hr => by
    simp only [rlsB, Bool.and_eq_true] at h
    rcases List.mem_cons.1 hr with rfl | hr
    · exact h.1.1
    · exact rls_all t _ h.2 r hr
theorem fold_rules : ∀ (xs : List Rl) (ps : List (List UInt8)) (pre : List Rl), rlsB pre xs = true → ps.length = xs.length → (∀ i, i < xs.length → ruleOf (ps.getD i []) = some (xs.getD i default)) → ps.foldl addR pre = pre ++ xs
  | [], [], pre, _, _, _ => by simp
  | [], _ :: _, _, _, h, _ => by simp at h
  | _ :: _, [], _, _, h, _ => by simp at h
  | x :: t, p :: ps, pre, h, hl, hr => by
    have h0 := hr 0 (by simp)
    simp only [List.getD_cons_zero] at h0
    simp only [rlsB, Bool.and_eq_true, Bool.not_eq_true'] at h
    have ih := fold_rules t ps (pre ++ [x]) h.2 (by simpa using hl) (fun i hi => by have := hr (i + 1) (by simpa using hi); simpa using this)
    rw [List.foldl_cons, addR_new h0 pre h.1.2, ih]
    simp
theorem read_tG (xs : List Rl) (h : rlsB [] xs = true) : readRs (tG xs) = xs := by
  have hall := rls_all xs [] h
  unfold readRs
  cases xs with
  | nil => decide
  | cons r t =>
    rw [cut_tG r t (fun x hx => no_end x (hall x hx))]
    have := fold_rules (r :: t) (ruT r :: t.map fun r => 32 :: ruT r) [] h (by simp) (fun i hi => by
      cases i with
      | zero => exact rule_of r (hall r (by simp)) _ (.inl rfl)
      | succ i =>
        have hi2 : i < t.length := by simpa using hi
        have e1 : ((ruT r :: t.map fun r => 32 :: ruT r).getD (i + 1) []) = 32 :: ruT (t.getD i default) := by simp [hi2]
        have e2 : (r :: t).getD (i + 1) default = t.getD i default := by simp
        rw [e1, e2]
        exact rule_of _ (hall _ (List.mem_cons_of_mem _ (getD_mem t i hi2))) _ (.inr rfl))
    rw [this]; rfl
structure Facts (t : List UInt8) (p : Pl) : Prop where
  ok : plB p = true
  small : Small p
  sm : Sm p
  text : ptT p = tK p.rules p.rules.length
  back : rpP (ptT p) = p
  code : rpC (ptT p) = 0
  fit : (ptT p).length ≤ 65536
  grp : ¬ p.uris.length = 0 → Sg.gpB ⟨uriL, 100, tsK p.uris p.uris.length⟩ = true
end Go.Proofs.YtmaknkbmilcanaaGreatDoor.Pl
