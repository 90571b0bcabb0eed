import Derived.Test.YtmaknkbmilcanaaGreatDoorRqA
import Derived.Test.YtmaknkbmilcanaaGreatDoorShelf
import Derived.Test.YtmaknkbmilcanaaGreatDoorUrlImplA
import Derived.Deep.AppendLies
import Derived.Deep.RegionLaw
namespace Go.Proofs.YtmaknkbmilcanaaGreatDoor.Rp
open Go.RowKit
open Go.Proofs.YtmaknkbmilcanaaGreatDoor.Po
open Go.Proofs.YtmaknkbmilcanaaGreatDoor.Tx hiding ret_b ret_i
open Go.Proofs.YtmaknkbmilcanaaGreatDoor.Ow
open Go.Proofs.YtmaknkbmilcanaaGreatDoor.Ul (lowL low_len Tab MaxL)
theorem O1.far {w : World} {a g o : Nat} {v x : Value} {ns : List (List UInt8)} (h : O1 w a v ns) (hne : v.ownBlock ≠ some g) : O1 (w.setCell ⟨g, o, none⟩ x) a v ns :=
  h.kept (row := some g) (far_grown w g o x) (.inr hne)
end Go.Proofs.YtmaknkbmilcanaaGreatDoor.Rp
namespace Go.Proofs.YtmaknkbmilcanaaGreatDoor.Rp
open Go.RowKit
open Go.Proofs.YtmaknkbmilcanaaGreatDoor.Po
open Go.Proofs.YtmaknkbmilcanaaGreatDoor.Tx hiding ret_b ret_i
open Go.Proofs.YtmaknkbmilcanaaGreatDoor.Ow
open Go.Proofs.YtmaknkbmilcanaaGreatDoor.Ul (lowL low_len Tab MaxL)
theorem addR_new {p : List UInt8} {r : Rl} (h : ruleOf p = some r) (rs : List Rl) (hn : hasN rs r.name = false) : addR rs p = rs ++ [r] := by simp [addR, h, hn]
theorem Seen.alloc {w : World} {g b n : Nat} {f : List UInt8 → Bool} (h : Seen w g b n f) (o : Obj) : Seen (w.alloc o) g b n f := h.later ((Below.refl _ _).alloc (Nat.le_refl _) o)
theorem ORs.base {w : World} {B C : Nat} {v : Value} {xs : List Rl} {vs : List Value} (h : ORs w B v xs vs) (hBC : C ≤ B) : ORs w C v xs vs :=
  ⟨h.len, own_base h.row hBC, fun i x u hx hu => (h.wds i x u hx hu).base hBC, h.apart⟩
end Go.Proofs.YtmaknkbmilcanaaGreatDoor.Rp
namespace Go.Proofs.YtmaknkbmilcanaaGreatDoor.Rp
open Go.RowKit
open Go.Proofs.YtmaknkbmilcanaaGreatDoor.Po
open Go.Proofs.YtmaknkbmilcanaaGreatDoor.Tx hiding ret_b ret_i
open Go.Proofs.YtmaknkbmilcanaaGreatDoor.Ow
open Go.Proofs.YtmaknkbmilcanaaGreatDoor.Pm
open Go.Proofs.YtmaknkbmilcanaaGreatDoor.Ul (lowL low_len Tab MaxL)
structure Sm (p : Pl) : Prop where
  uris : p.uris.length ≤ 4
  uri : ∀ u ∈ p.uris, u.length ≤ 100
  rules : p.rules.length ≤ 8
  lim : LimR 65537 p.rules
  tot : tot p.rules ≤ 72
end Go.Proofs.YtmaknkbmilcanaaGreatDoor.Rp
