
/-
  The walks of the laws on URLs that take a value: the size, the copy, and the law on UrlOK.
-/
import Derived.Test.YtjnlnndeadihoaaGreatDoorUrlImplE
import Derived.Test.YtjnlnndeadihoaaGreatDoorUrlSpecD
namespace Go.Proofs.YtjnlnndeadihoaaGreatDoor.Ul
open Go.RowKit
end Go.Proofs.YtjnlnndeadihoaaGreatDoor.Ul
