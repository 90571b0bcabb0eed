
/-
  The walks of the laws on URLs that take a value: the size, the copy, and the law on UrlOK.
-/
import Derived.Test.YtniflfgnelfpbaaDoorUrlImplE
import Derived.Test.YtniflfgnelfpbaaDoorUrlSpecD
namespace Go.Proofs.YtniflfgnelfpbaaDoor.Ul
open Go.RowKit
end Go.Proofs.YtniflfgnelfpbaaDoor.Ul
