
/-
  The walks of the laws on URLs that take a value: the size, the copy, and the law on UrlOK.
-/
import Derived.Test.YtmdplphjbgghoaaGreatDoorUrlImplE
import Derived.Test.YtmdplphjbgghoaaGreatDoorUrlSpecD
namespace Go.Proofs.YtmdplphjbgghoaaGreatDoor.Ul
open Go.RowKit
end Go.Proofs.YtmdplphjbgghoaaGreatDoor.Ul
