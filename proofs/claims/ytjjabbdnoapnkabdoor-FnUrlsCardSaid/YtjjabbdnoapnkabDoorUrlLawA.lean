
/-
  The walks of the laws on URLs that take a value: the size, the copy, and the law on UrlOK.
-/
import Derived.Test.YtjjabbdnoapnkabDoorUrlImplE
import Derived.Test.YtjjabbdnoapnkabDoorUrlSpecD
namespace Go.Proofs.YtjjabbdnoapnkabDoor.Ul
open Go.RowKit
end Go.Proofs.YtjjabbdnoapnkabDoor.Ul
