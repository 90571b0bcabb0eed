
/-
  The walks of the laws on URLs that take a value: the size, the copy, and the law on UrlOK.
-/
import Derived.Test.YtjjabbdnoapnkaaDoorUrlImplE
import Derived.Test.YtjjabbdnoapnkaaDoorUrlSpecD
namespace Go.Proofs.YtjjabbdnoapnkaaDoor.Ul
open Go.RowKit
end Go.Proofs.YtjjabbdnoapnkaaDoor.Ul
