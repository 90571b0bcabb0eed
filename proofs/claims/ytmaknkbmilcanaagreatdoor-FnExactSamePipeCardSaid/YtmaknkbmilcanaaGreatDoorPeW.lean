
/-
  Wait: how long a peer waits behind so many failures; the model's and the program's, walked.
-/
import Derived.Test.YtmaknkbmilcanaaGreatDoorChecked
import Derived.WalkKit
import Derived.Carry
import Derived.ProofKit
import Derived.WalkSpells
import Derived.WalkLawsBesides
import Derived.Lib.Hide
import Derived.IntWalk
import Derived.Outline
namespace Go.Proofs.YtmaknkbmilcanaaGreatDoor.Pw
open Go.RowKit
end Go.Proofs.YtmaknkbmilcanaaGreatDoor.Pw
