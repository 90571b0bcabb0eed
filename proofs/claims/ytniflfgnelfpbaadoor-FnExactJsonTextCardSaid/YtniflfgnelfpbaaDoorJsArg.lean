/-
  The opening of an argument of type laws.Json stands in the text that this one imports.
-/
import Derived.Test.YtniflfgnelfpbaaDoorJsAt
