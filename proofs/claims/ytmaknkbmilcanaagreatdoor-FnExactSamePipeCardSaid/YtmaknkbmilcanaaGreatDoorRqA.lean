import Derived.Test.YtmaknkbmilcanaaGreatDoorPoPlain
import Derived.Lib.FieldsP
import Derived.Lib.SplitLaws
import Derived.Test.YtmaknkbmilcanaaGreatDoorAnyW
import Derived.Test.YtmaknkbmilcanaaGreatDoorPoW
import Derived.Laws.AppendOwn
import Derived.Laws.OwnMore
import Derived.BigQuiet
import Derived.Deep.AppendLies
import Derived.Deep.RegionLaw
namespace Go.Proofs.YtmaknkbmilcanaaGreatDoor.Pm
open Go.RowKit
theorem Marked.text {S : Nat → Prop} {w : World} {g n k : Nat} (h : SRow w g n) (hS : S g) (v : Value) : Marked S w (w.setCell ⟨g, k, none⟩ v) := by
  obtain ⟨f, hf⟩ := h
  refine ⟨rfl, rfl, rfl, by simp [World.setCell], fun i hi hs => Below.heap_setCell _ _ _ _ (by intro e; subst e; exact hs hS), fun g' m ⟨f', hf'⟩ => ?_, fun g' m vs ⟨F, hF, hv⟩ => ?_⟩
  · by_cases e : g' = g
    · subst e; exact ⟨_, hf'.set k v⟩
    · exact ⟨f', rowIs_at hf' (Below.heap_setCell _ _ _ _ e)⟩
  · by_cases e : g' = g
    · subst e; exact absurd (rowIs_type hf hF) (by decide)
    · exact ⟨F, rowIs_at hF (Below.heap_setCell _ _ _ _ e), hv⟩
theorem OwnS.marked {S : Nat → Prop} {w w' : World} {v : Value} {n : Nat} (h : OwnS S w v n) (hm : Marked S w w') : OwnS S w' v n := by
  obtain ⟨g, e, hg, hr⟩ := h
  exact ⟨g, e, hg, hm.srow g n hr⟩
end Go.Proofs.YtmaknkbmilcanaaGreatDoor.Pm
namespace Go.Proofs.YtmaknkbmilcanaaGreatDoor.Rp
open Go.RowKit
open Go.Proofs.YtmaknkbmilcanaaGreatDoor.Po
open Go.Proofs.YtmaknkbmilcanaaGreatDoor.Ul (lowL low_len)
open Go.Proofs.YtmaknkbmilcanaaGreatDoor.Aw (nowB wordB)
def cutA (c : UInt8) : List UInt8 → List UInt8 → List (List UInt8)
  | cur, [] => [cur]
  | cur, b :: r => if b = c then cur :: cutA c [] r else cutA c (cur ++ [b]) r
def blkB (b : UInt8) : Bool := b == 32 || b == 9
def blkP (n : Nat) : Bool := n == 32 || n == 9
def wordsA : List UInt8 → List UInt8 → List (List UInt8)
  | cur, [] => if cur.isEmpty then [] else [cur]
  | cur, b :: r => if blkB b then (if cur.isEmpty then wordsA [] r else cur :: wordsA [] r) else wordsA (cur ++ [b]) r
theorem wordsA_run : ∀ (m cur r : List UInt8), (∀ b ∈ m, blkB b = false) → wordsA cur (m ++ r) = wordsA (cur ++ m) r
  | [], cur, r, _ => by simp
  | b :: m, cur, r, h => by
    have h0 := h b (by simp)
    have ih := wordsA_run m (cur ++ [b]) r (fun x hx => h x (by simp [hx]))
    simp only [List.cons_append, wordsA, h0, Bool.false_eq_true, if_false, ih]
    simp
theorem blk_byte (b : UInt8) : blkP b.toNat = blkB b := by
  have h : ∀ n : UInt8, (b.toNat == n.toNat) = (b == n) := fun n => by
    by_cases e : b = n
    · subst e; simp
    · have : b.toNat ≠ n.toNat := fun h => e (UInt8.toNat_inj.1 h)
      rw [beq_eq_false_iff_ne.2 this, beq_eq_false_iff_ne.2 e]
  exact congr (congrArg or (h 32)) (h 9)
def sl (l : List UInt8) (a b : Nat) : List UInt8 := (l.drop a).take (b - a)
def ruleOf (t : List UInt8) : Option Rl := match wordsA [] t with
  | [] => none
  | w :: ws => if rnameB (lowL w) then some ⟨lowL w, ws⟩ else none
def addR (rs : List Rl) (t : List UInt8) : List Rl := match ruleOf t with
  | none => rs
  | some r => if hasN rs r.name then rs else rs ++ [r]
def readRs (t : List UInt8) : List Rl := (cutA 59 [] t).foldl addR []
def shortB (r : Rl) : Bool := decide (r.words.length ≤ 8)
def fewB (rs : List Rl) : Bool := decide (rs.length ≤ 8) && rs.all shortB
def rpC (t : List UInt8) : Int := if 65536 < t.length then 2 else if fewB (readRs t) then 0 else 6
def rpP (t : List UInt8) : Pl := if 65536 < t.length then ⟨[], [], []⟩ else if fewB (readRs t) then makeP (readRs t) else ⟨[], [], []⟩
end Go.Proofs.YtmaknkbmilcanaaGreatDoor.Rp
namespace Go.Proofs.YtmaknkbmilcanaaGreatDoor.Bk
open Go.RowKit
open Go.Proofs.YtmaknkbmilcanaaGreatDoor.Aw (encode_high idx_none belDrew quiet_same2 ret_b)
open Go.Proofs.YtmaknkbmilcanaaGreatDoor.Rp (blkP)
end Go.Proofs.YtmaknkbmilcanaaGreatDoor.Bk
namespace Go.Proofs.YtmaknkbmilcanaaGreatDoor.Ow
open Go.RowKit
open Go.Proofs.YtmaknkbmilcanaaGreatDoor.Po
open Go.Proofs.YtmaknkbmilcanaaGreatDoor.Tx hiding ret_b ret_i
open Go.Proofs.YtmaknkbmilcanaaGreatDoor.Pm
open Go.Proofs.YtmaknkbmilcanaaGreatDoor.Ext (up up_below up_mk wp_region_ext call_ext call_ext_same)
@[local go_sem] theorem up_cellO (w : World) (y : Ext.Ext w) (b o : Nat) (h : b < w.heap.size) : (up w y).cell? ⟨b, o, none⟩ = w.cell? ⟨b, o, none⟩ := Ext.up_cell w y b o h
def Hd (w : World) (b : Nat) (o : Obj) : Prop := w.heap[b]? = some o
theorem Hd.lt {w : World} {b : Nat} {o : Obj} (h : Hd w b o) : b < w.heap.size := (Array.getElem?_eq_some_iff.1 h).1
theorem Hd.blw {w w' : World} {b : Nat} {o : Obj} (h : Hd w b o) (hb : Below w.heap.size w w') : Hd w' b o := (hb.block b h.lt).trans h
theorem Hd.al {w : World} {b : Nat} {o : Obj} (h : Hd w b o) (x : Obj) : Hd (w.alloc x) b o := (heap_alloc_old _ _ h.lt).trans h
theorem Hd.new (w : World) (o : Obj) : Hd (w.alloc o) w.heap.size o := heap_alloc_new _ _
theorem Hd.grown {w w' : World} {row : Option Nat} {b : Nat} {o : Obj} (h : Hd w b o) (hg : w.grownBy w' row) (hne : some b ≠ row) : Hd w' b o := (hg.block b h.lt hne).trans h
theorem Hd.cells {w : World} {g : Nat} {a b c : Value} {T : TypeId} (h : Hd w g (.cells #[a, b, c] T)) :
    w.cell? ⟨g, 0, none⟩ = some a ∧ w.cell? ⟨g, 1, none⟩ = some b ∧ w.cell? ⟨g, 2, none⟩ = some c ∧ ∀ o, w.frozen? ⟨g, o, none⟩ = false := three_cells h
def O1 (w : World) (base : Nat) (v : Value) (ns : List (List UInt8)) : Prop := w.ownsRow base 9 1 v ns.length (strV ns)
theorem O1.slice {w : World} {base : Nat} {v : Value} {ns : List (List UInt8)} (h : O1 w base v ns) : ∃ a c, v = .slice a ns.length c := own_slice h
theorem O1.kept {w w' : World} {base : Nat} {v : Value} {ns : List (List UInt8)} {row : Option Nat} (h : O1 w base v ns) (hg : w.grownBy w' row) (hne : v.ownBlock = none ∨ v.ownBlock ≠ row) : O1 w' base v ns := World.ownsRow.kept h hg hne
theorem O1.below {w w' : World} {base : Nat} {v : Value} {ns : List (List UInt8)} (h : O1 w base v ns) (hb : Below w.heap.size w w') : O1 w' base v ns :=
  h.kept (below_grownBy hb none) (by cases v.ownBlock <;> simp)
theorem O1.base {w : World} {a b : Nat} {v : Value} {ns : List (List UInt8)} (h : O1 w a v ns) (hab : b ≤ a) : O1 w b v ns := own_base h hab
theorem O1.nil (w : World) (a : Nat) : O1 w a (.slice none 0 0) [] := World.ownsRow_nil _ _ _ _
def tot : List Rl → Nat
  | [] => 0
  | r :: t => 1 + r.words.length + tot t
def ruC : List Rl → List Value → List Value
  | r :: t, v :: vs => .string ⟨r.name.toArray⟩ :: v :: ruC t vs
  | _, _ => []
theorem ruC_set (t : List UInt8) (x y : Rl) (hy : y.name = t) : ∀ (A B : List Rl) (vs : List Value), (A ++ x :: B).length = vs.length → (ruC (A ++ x :: B) vs).set (A.length * 2) (.string ⟨t.toArray⟩) = ruC (A ++ y :: B) vs
  | A, B, [], h => by simp at h
  | [], B, v :: vs, _ => by simp [ruC, hy]
  | a :: A, B, v :: vs, h => by
    have ih := ruC_set t x y hy A B vs (by simpa using h)
    have e : (a :: A).length * 2 = A.length * 2 + 1 + 1 := by simp; omega
    rw [e]
    simp [ruC, ih]
theorem ruC_same (x y : Rl) (hy : y.name = x.name) : ∀ (A B : List Rl) (vs : List Value), (A ++ x :: B).length = vs.length → ruC (A ++ x :: B) vs = ruC (A ++ y :: B) vs
  | A, B, [], h => by simp at h
  | [], B, v :: vs, _ => by simp [ruC, hy]
  | a :: A, B, v :: vs, h => by simp [ruC, ruC_same x y hy A B vs (by simpa using h)]
theorem mid_get {α : Type} (A B : List α) (x y : α) (j : Nat) : (A ++ y :: B)[j]? = if j = A.length then some y else (A ++ x :: B)[j]? := by
  by_cases h : j = A.length
  · subst h; simp
  · rw [if_neg h]
    by_cases h2 : j < A.length
    · rw [List.getElem?_append_left h2, List.getElem?_append_left h2]
    · rw [List.getElem?_append_right (by omega), List.getElem?_append_right (by omega)]
      obtain ⟨m, hm⟩ : ∃ m, j - A.length = m + 1 := ⟨j - A.length - 1, by omega⟩
      rw [hm]; rfl
theorem own_apart {w : World} {b b' s s' n n' : Nat} {T T' : TypeId} {v v' : Value} {xs xs' : List Value} (h : w.ownsRow b T s v n xs) (h' : w.ownsRow b' T' s' v' n' xs') (hT : T ≠ T') : v.ownBlock = none ∨ v.ownBlock ≠ v'.ownBlock := by
  rcases h.2 with ⟨rfl, _⟩ | ⟨g, cap, cur, rfl, _, hg, _⟩
  · exact .inl rfl
  · rcases h'.2 with ⟨rfl, _⟩ | ⟨g', cap', cur', rfl, _, hg', _⟩
    · exact .inr (by simp [Value.ownBlock])
    · refine .inr (fun e => ?_)
      simp only [Value.ownBlock, Option.some.injEq] at e
      subst e
      rw [hg] at hg'
      simp only [Option.some.injEq, Obj.cells.injEq] at hg'
      exact hT hg'.2.1
theorem own_set {w : World} {base s n g j : Nat} {T : TypeId} {v u : Value} {xs : List Value} (h : w.ownsRow base T s v n xs) (hg : v.ownBlock = some g) : (w.setCell ⟨g, j, none⟩ u).ownsRow base T s v n (xs.set j u) := by
  refine ⟨by simp [h.1], ?_⟩
  rcases h.2 with ⟨rfl, _⟩ | ⟨g', cap, cur, rfl, hb, hgg, hn, hm, hs, ht⟩
  · simp [Value.ownBlock] at hg
  · simp only [Value.ownBlock, Option.some.injEq] at hg
    subst hg
    exact .inr ⟨g', cap, cur.setIfInBounds j u, rfl, hb, heap_set hgg j u, hn, hm, by simp [hs], by simp [List.take_set, ht]⟩
structure ORs (w : World) (base : Nat) (v : Value) (xs : List Rl) (vs : List Value) : Prop where
  len : xs.length = vs.length
  row : w.ownsRow base 205 2 v xs.length (ruC xs vs)
  wds : ∀ (i : Nat) (x : Rl) (u : Value), xs[i]? = some x → vs[i]? = some u → O1 w base u x.words
  apart : ∀ (i j : Nat) (u u' : Value), i < j → vs[i]? = some u → vs[j]? = some u' → u.ownBlock = none ∨ u.ownBlock ≠ u'.ownBlock
theorem ORs.ne {w : World} {base : Nat} {v : Value} {xs : List Rl} {vs : List Value} (h : ORs w base v xs vs) {i j : Nat} {u u' : Value} (hij : i ≠ j) (hi : vs[i]? = some u) (hj : vs[j]? = some u') : u'.ownBlock = none ∨ u'.ownBlock ≠ u.ownBlock := by
  rcases Nat.lt_or_gt_of_ne hij with hl | hl
  · rcases h.apart i j u u' hl hi hj with e | e
    · rw [e]; cases u'.ownBlock <;> simp
    · exact .inr (fun e2 => e e2.symm)
  · exact h.apart j i u' u hl hj hi
theorem ORs.nil (w : World) (base : Nat) : ORs w base (.slice none 0 0) [] [] := ⟨rfl, World.ownsRow_nil _ _ _ _, fun _ _ _ h => by simp at h, fun _ _ _ _ _ h => by simp at h⟩
theorem ORs.slice {w : World} {base : Nat} {v : Value} {xs : List Rl} {vs : List Value} (h : ORs w base v xs vs) : ∃ a c, v = .slice a xs.length c := by
  obtain ⟨-, h⟩ := h.row
  rcases h with ⟨rfl, h0⟩ | ⟨g, cap, cur, rfl, _⟩
  · exact ⟨none, 0, by rw [h0]⟩
  · exact ⟨_, _, rfl⟩
theorem far_grown (w : World) (g o : Nat) (v : Value) : w.grownBy (w.setCell ⟨g, o, none⟩ v) (some g) :=
  ⟨rfl, rfl, rfl, by simp, fun b _ hb2 => heap_setCell_other _ ⟨g, o, none⟩ b _ (fun e => hb2 (congrArg some e))⟩
theorem ORs.name {w : World} {base g : Nat} {v : Value} {A B : List Rl} {x : Rl} {vs : List Value} (h : ORs w base v (A ++ x :: B) vs) (hg : v.ownBlock = some g) (t : List UInt8) :
    ORs (w.setCell ⟨g, A.length * 2, none⟩ (.string ⟨t.toArray⟩)) base v (A ++ ⟨t, x.words⟩ :: B) vs := by
  refine ⟨by have := h.len; simpa using this, ?_, fun i y u hy hu => ?_, h.apart⟩
  · have h1 := own_set (j := A.length * 2) (u := .string ⟨t.toArray⟩) h.row hg
    rw [ruC_set t x ⟨t, x.words⟩ rfl A B vs h.len] at h1
    have e : (A ++ x :: B).length = (A ++ (⟨t, x.words⟩ : Rl) :: B).length := by simp
    rw [e] at h1
    exact h1
  · have hw : O1 w base u y.words := by
      rw [mid_get A B x] at hy
      split at hy
      · rename_i e
        cases hy
        exact h.wds i x u (by rw [mid_get A B x, if_pos e]) hu
      · exact h.wds i y u hy hu
    refine hw.kept (far_grown w g _ _) ?_
    have := own_apart hw h.row (by decide)
    rw [hg] at this
    exact this
theorem ORs.words {w w' : World} {base : Nat} {v u : Value} {A B : List Rl} {x : Rl} {vs : List Value} {ns : List (List UInt8)} (h : ORs w base v (A ++ x :: B) vs) (hu : vs[A.length]? = some u) (hg : w.grownBy w' u.ownBlock) (ho : O1 w' base u ns) :
    ORs w' base v (A ++ ⟨x.name, ns⟩ :: B) vs := by
  have hx : O1 w base u x.words := h.wds A.length x u (by simp) hu
  refine ⟨by have := h.len; simpa using this, ?_, fun i y u' hy hu' => ?_, h.apart⟩
  · have h1 := h.row
    rw [ruC_same x ⟨x.name, ns⟩ rfl A B vs h.len] at h1
    have e : (A ++ x :: B).length = (A ++ (⟨x.name, ns⟩ : Rl) :: B).length := by simp
    rw [e] at h1
    refine h1.kept hg ?_
    exact own_apart h1 hx (by decide)
  · rw [mid_get A B x] at hy
    split at hy
    · rename_i e
      cases hy
      subst e
      rw [hu] at hu'
      cases hu'
      exact ho
    · rename_i e
      exact (h.wds i y u' hy hu').kept hg (h.ne (fun e2 => e e2.symm) hu hu')
theorem ORs.below {w w' : World} {base : Nat} {v : Value} {xs : List Rl} {vs : List Value} (h : ORs w base v xs vs) (hb : Below w.heap.size w w') : ORs w' base v xs vs :=
  ⟨h.len, h.row.kept (below_grownBy hb none) (by cases v.ownBlock <;> simp), fun i x u hx hu => (h.wds i x u hx hu).below hb, h.apart⟩
def UnderL (L : Nat) (v : Value) (vs : List Value) : Prop := (∀ g, v.ownBlock = some g → g < L) ∧ ∀ u ∈ vs, ∀ g, u.ownBlock = some g → g < L
theorem ORs.under {w : World} {base : Nat} {v : Value} {xs : List Rl} {vs : List Value} (h : ORs w base v xs vs) : UnderL w.heap.size v vs := by
  refine ⟨fun g hg => (h.row.lt g hg).2, fun u hu g hg => ?_⟩
  obtain ⟨i, hi, e⟩ := List.mem_iff_getElem.1 hu
  have h1 : vs[i]? = some u := by simp [hi, e]
  have hi2 : i < xs.length := by have := h.len; omega
  exact (World.ownsRow.lt (h.wds i xs[i] u (by simp [hi2]) h1) g hg).2
theorem UnderL.mono {L M : Nat} {v : Value} {vs : List Value} (h : UnderL L v vs) (hl : L ≤ M) : UnderL M v vs := ⟨fun g hg => Nat.lt_of_lt_of_le (h.1 g hg) hl, fun u hu g hg => Nat.lt_of_lt_of_le (h.2 u hu g hg) hl⟩
theorem ORs.off {w w' : World} {base L : Nat} {v : Value} {xs : List Rl} {vs : List Value} {row : Option Nat} (h : ORs w base v xs vs) (hu : UnderL L v vs) (hg : w.grownBy w' row) (hr : ∀ g, row = some g → L ≤ g) : ORs w' base v xs vs := by
  have hne : ∀ u : Value, (∀ g, u.ownBlock = some g → g < L) → u.ownBlock = none ∨ u.ownBlock ≠ row := fun u h1 => by
    cases e : u.ownBlock with
    | none => exact .inl rfl
    | some k => exact .inr (fun e2 => by have := h1 k e; have := hr k e2.symm; omega)
  exact ⟨h.len, h.row.kept hg (hne v hu.1), fun i x u hx hv => (h.wds i x u hx hv).kept hg (hne u (hu.2 u (List.mem_of_getElem? hv))), h.apart⟩
def LimR (M : Nat) (xs : List Rl) : Prop := ∀ x ∈ xs, x.name.length ≤ M ∧ x.words.length ≤ M ∧ ∀ t ∈ x.words, t.length ≤ M
theorem getD_mem {α : Type} [Inhabited α] (xs : List α) (i : Nat) (h : i < xs.length) : xs.getD i default ∈ xs := by
  have h2 : xs.getD i default = xs[i] := by simp [h]
  rw [h2]; exact List.getElem_mem h
theorem getT_mem (xs : List (List UInt8)) (i : Nat) (h : i < xs.length) : xs.getD i [] ∈ xs := by
  have h2 : xs.getD i [] = xs[i] := by simp [h]
  rw [h2]; exact List.getElem_mem h
theorem O1.txts {w : World} {base : Nat} {v : Value} {ns : List (List UInt8)} (h : O1 w base v ns) (hl : ∀ t ∈ ns, t.length ≤ 9223372036854775807) (hn : ns.length ≤ 9223372036854775807) : TxtsIn (fun b => base ≤ b ∧ b < w.heap.size) w v ns :=
  own_txts h hn (fun i hi => hl _ (getT_mem ns i hi))
end Go.Proofs.YtmaknkbmilcanaaGreatDoor.Ow
namespace Go.Proofs.YtmaknkbmilcanaaGreatDoor.Rp
open Go.RowKit
open Go.Proofs.YtmaknkbmilcanaaGreatDoor.Po
open Go.Proofs.YtmaknkbmilcanaaGreatDoor.Tx hiding ret_b ret_i
open Go.Proofs.YtmaknkbmilcanaaGreatDoor.Ow
open Go.Proofs.YtmaknkbmilcanaaGreatDoor.Ul (lowL low_len)
@[local go_sem] theorem ext_sl (l : List UInt8) (i j : Nat) : (⟨l.toArray⟩ : ByteArray).extract i j = ⟨(sl l i j).toArray⟩ := by
  apply ByteArray.ext; simp [sl, List.extract_toArray, List.extract]
end Go.Proofs.YtmaknkbmilcanaaGreatDoor.Rp
namespace Go.Proofs.YtmaknkbmilcanaaGreatDoor.Rp
open Go.RowKit
open Go.Proofs.YtmaknkbmilcanaaGreatDoor.Po
open Go.Proofs.YtmaknkbmilcanaaGreatDoor.Tx hiding ret_b ret_i
open Go.Proofs.YtmaknkbmilcanaaGreatDoor.Ow
open Go.Proofs.YtmaknkbmilcanaaGreatDoor.Ul (lowL low_len)
end Go.Proofs.YtmaknkbmilcanaaGreatDoor.Rp
