/-
  NARROWER THAN 'FOR EVERY INPUT', by the rows' own cells (each row's printed sentence says how): FnUrls: laid · FnStrip: laid · FnExactCodeWord: laid · FnExactCodeOf: laid · FnExactParseUrl: laid · FnExactUrlOK: laid · FnExactUrlText: laid · FnExactOriginOf: laid · FnExactSameOrigin: laid · FnExactStripUrl: laid · FnExactStripText: laid.
  DERIVED. THE GIVEN ROWS OF THIS SEAT. 11 by the template 'for every input the law returns true; each argument reads behind the call as it read before'; 0 by the template 'total and deterministic' (their statements: YtieclljkfdghaaaDoorTotals.lean).
  GIVEN WITH THE SEED: the statements are not yours to turn. If you find one false, say at which input.
  Laid BY PROGRAM, IN A SANDBOX (cutbox-rows.mjs): the forced cells as the released guide's own fill.sh prints them over the translation 739ab927bb7ef468… (all of the seat's roots in one cut). By AI agents, Wed Nov 11 2026. No macro, syntax, notation, axiom, sorry.
-/
import Derived.Test.YtieclljkfdghaaaDoorChecked
import GoSem.Claim
import GoSem.ClaimJoined
import GoSem.ClaimMapViews
import Derived.JoinedTies
import Derived.KernelRfl
namespace Go.Proofs.YtieclljkfdghaaaDoor
/- THE CELL 'sum', in the pinned program and in every row, IS THE sha256 OF THE DUMP (.gsa) THAT YtieclljkfdghaaaDoorProg.lean LOADS. Nothing in Lean hashes anything: it is a label: what it is worth is what the hold of that sum in a sandbox is worth. -/
noncomputable def Tryd.pinned : Pinned := { name := "ytieclljkfdghaaadoor", sum := "739ab927bb7ef4681407dc99b9bc872b0f794eb430d04a1454fa44b8f8a02a8f", checked := Tryd.checked }
namespace Rows
def none {H : Type} : Left H := { results := [], args := [] }

/- WHAT THE LISTED PACKAGE-LEVEL VARIABLES READ AS WHEN THE CALL BEGINS. Each datum BY PROGRAM (the guide's laid-datum.mjs) off the statement by which the dump's own 'gosem.cut.vars' lays the variable. In a bare row this is a premise. The card (YtieclljkfdghaaaDoorCards.lean) ties it to the program's text. -/
def laid_math_bits_deBruijn32tab {H : Type} : DataW H := .agg [.lit (.int .u8 0), .lit (.int .u8 1), .lit (.int .u8 28), .lit (.int .u8 2), .lit (.int .u8 29), .lit (.int .u8 14), .lit (.int .u8 24), .lit (.int .u8 3), .lit (.int .u8 30), .lit (.int .u8 22), .lit (.int .u8 20), .lit (.int .u8 15), .lit (.int .u8 25), .lit (.int .u8 17), .lit (.int .u8 4), .lit (.int .u8 8), .lit (.int .u8 31), .lit (.int .u8 27), .lit (.int .u8 13), .lit (.int .u8 23), .lit (.int .u8 21), .lit (.int .u8 19), .lit (.int .u8 16), .lit (.int .u8 7), .lit (.int .u8 26), .lit (.int .u8 12), .lit (.int .u8 18), .lit (.int .u8 6), .lit (.int .u8 11), .lit (.int .u8 5), .lit (.int .u8 10), .lit (.int .u8 9)]
def laid_math_bits_deBruijn64tab {H : Type} : DataW H := .agg [.lit (.int .u8 0), .lit (.int .u8 1), .lit (.int .u8 56), .lit (.int .u8 2), .lit (.int .u8 57), .lit (.int .u8 49), .lit (.int .u8 28), .lit (.int .u8 3), .lit (.int .u8 61), .lit (.int .u8 58), .lit (.int .u8 42), .lit (.int .u8 50), .lit (.int .u8 38), .lit (.int .u8 29), .lit (.int .u8 17), .lit (.int .u8 4), .lit (.int .u8 62), .lit (.int .u8 47), .lit (.int .u8 59), .lit (.int .u8 36), .lit (.int .u8 45), .lit (.int .u8 43), .lit (.int .u8 51), .lit (.int .u8 22), .lit (.int .u8 53), .lit (.int .u8 39), .lit (.int .u8 33), .lit (.int .u8 30), .lit (.int .u8 24), .lit (.int .u8 18), .lit (.int .u8 12), .lit (.int .u8 5), .lit (.int .u8 63), .lit (.int .u8 55), .lit (.int .u8 48), .lit (.int .u8 27), .lit (.int .u8 60), .lit (.int .u8 41), .lit (.int .u8 37), .lit (.int .u8 16), .lit (.int .u8 46), .lit (.int .u8 35), .lit (.int .u8 44), .lit (.int .u8 21), .lit (.int .u8 52), .lit (.int .u8 32), .lit (.int .u8 23), .lit (.int .u8 11), .lit (.int .u8 54), .lit (.int .u8 26), .lit (.int .u8 40), .lit (.int .u8 15), .lit (.int .u8 34), .lit (.int .u8 20), .lit (.int .u8 31), .lit (.int .u8 10), .lit (.int .u8 25), .lit (.int .u8 14), .lit (.int .u8 19), .lit (.int .u8 9), .lit (.int .u8 13), .lit (.int .u8 8), .lit (.int .u8 7), .lit (.int .u8 6)]
def laid_internal_strconv_uint64pow10 {H : Type} : DataW H := .agg [.lit (.int .u64 1), .lit (.int .u64 10), .lit (.int .u64 100), .lit (.int .u64 1000), .lit (.int .u64 10000), .lit (.int .u64 100000), .lit (.int .u64 1000000), .lit (.int .u64 10000000), .lit (.int .u64 100000000), .lit (.int .u64 1000000000), .lit (.int .u64 10000000000), .lit (.int .u64 100000000000), .lit (.int .u64 1000000000000), .lit (.int .u64 10000000000000), .lit (.int .u64 100000000000000), .lit (.int .u64 1000000000000000), .lit (.int .u64 10000000000000000), .lit (.int .u64 100000000000000000), .lit (.int .u64 1000000000000000000), .lit (.int .u64 10000000000000000000)]
def laid_loop_example_g00779_impl_codeWords {H : Type} : DataW H := .agg [.lit (.string [111, 107]), .lit (.string [98, 97, 100]), .lit (.string [108, 111, 110, 103]), .lit (.string [102, 111, 114, 109]), .lit (.string [114, 97, 110, 103, 101]), .lit (.string [110, 111, 110, 101]), .lit (.string [109, 97, 110, 121]), .lit (.string [102, 117, 108, 108]), .lit (.string [115, 105, 122, 101]), .lit (.string [107, 105, 110, 100]), .lit (.string [110, 97, 109, 101]), .lit (.string [115, 99, 104, 101, 109, 101]), .lit (.string [100, 101, 101, 112]), .lit (.string [97, 103, 97, 105, 110]), .lit (.string [108, 97, 116, 101, 114]), .lit (.string [103, 111, 110, 101]), .lit (.string [111, 114, 100, 101, 114]), .lit (.string [115, 116, 97, 116, 101]), .lit (.string [115, 97, 109, 101])]

/-- 'laws.FnUrls': WHATEVER THE INPUT: true; the input reads as it did. -/
def fnUrlsSpec : ChangeSpec := { name := "fnUrls", fn := fun _ => fun
  | [d1, d2] => { results := [.lit (.bool true)], args := [d1, d2] }
  | _ => none }
def fnUrlsRow : OpenClaim := { program := "ytieclljkfdghaaadoor", sum := "739ab927bb7ef4681407dc99b9bc872b0f794eb430d04a1454fa44b8f8a02a8f", func := "loop.example/g00779/laws.FnUrls", spec := "fnUrls", inPlace := ["internal/bytealg.IndexByteString", "internal/bytealg.IndexString"], recurses := true, named := ["internal/strconv.uint64pow10", "math/bits.deBruijn32tab", "math/bits.deBruijn64tab", "internal/bytealg.MaxLen"], apart := false, laid := [("math/bits.deBruijn32tab", laid_math_bits_deBruijn32tab), ("math/bits.deBruijn64tab", laid_math_bits_deBruijn64tab), ("internal/strconv.uint64pow10", laid_internal_strconv_uint64pow10)] }
def FnUrlsSaid : Prop := fnUrlsRow.holds Tryd.pinned (OpenSpec.ofChange fnUrlsSpec)

/-- ITS FALSE NEIGHBOUR: 'it returns false'. Refute it at one input. -/
def fnUrlsWrong : ChangeSpec := { name := "fnUrls", fn := fun _ => fun
  | [d1, d2] => { results := [.lit (.bool false)], args := [d1, d2] }
  | _ => none }
def FnUrlsWrongFalsely : Prop := fnUrlsRow.holds Tryd.pinned (OpenSpec.ofChange fnUrlsWrong)

/-- 'laws.FnStrip': WHATEVER THE INPUT: true; the input reads as it did. -/
def fnStripSpec : ChangeSpec := { name := "fnStrip", fn := fun _ => fun
  | [d1, d2] => { results := [.lit (.bool true)], args := [d1, d2] }
  | _ => none }
def fnStripRow : OpenClaim := { program := "ytieclljkfdghaaadoor", sum := "739ab927bb7ef4681407dc99b9bc872b0f794eb430d04a1454fa44b8f8a02a8f", func := "loop.example/g00779/laws.FnStrip", spec := "fnStrip", inPlace := ["internal/bytealg.IndexByteString", "internal/bytealg.IndexString"], recurses := true, named := ["internal/strconv.uint64pow10", "math/bits.deBruijn32tab", "math/bits.deBruijn64tab", "internal/bytealg.MaxLen"], apart := false, laid := [("math/bits.deBruijn32tab", laid_math_bits_deBruijn32tab), ("math/bits.deBruijn64tab", laid_math_bits_deBruijn64tab), ("internal/strconv.uint64pow10", laid_internal_strconv_uint64pow10)] }
def FnStripSaid : Prop := fnStripRow.holds Tryd.pinned (OpenSpec.ofChange fnStripSpec)

/-- ITS FALSE NEIGHBOUR: 'it returns false'. Refute it at one input. -/
def fnStripWrong : ChangeSpec := { name := "fnStrip", fn := fun _ => fun
  | [d1, d2] => { results := [.lit (.bool false)], args := [d1, d2] }
  | _ => none }
def FnStripWrongFalsely : Prop := fnStripRow.holds Tryd.pinned (OpenSpec.ofChange fnStripWrong)

/-- 'laws.FnExactCodeWord': WHATEVER THE INPUT: true; the input reads as it did. -/
def fnExactCodeWordSpec : ChangeSpec := { name := "fnExactCodeWord", vars := ["loop.example/g00779/impl.codeWords"], fn := fun _ => fun
  | [d, g1] => { results := [.lit (.bool true)], args := [d], vars := [g1] }
  | _ => none }
def fnExactCodeWordRow : OpenClaim := { program := "ytieclljkfdghaaadoor", sum := "739ab927bb7ef4681407dc99b9bc872b0f794eb430d04a1454fa44b8f8a02a8f", func := "loop.example/g00779/laws.FnExactCodeWord", spec := "fnExactCodeWord", named := ["loop.example/g00779/impl.codeWords"], apart := false, laid := [("loop.example/g00779/impl.codeWords", laid_loop_example_g00779_impl_codeWords)] }
def FnExactCodeWordSaid : Prop := fnExactCodeWordRow.holds Tryd.pinned (OpenSpec.ofChange fnExactCodeWordSpec)

/-- ITS FALSE NEIGHBOUR: 'it returns false'. Refute it at one input. -/
def fnExactCodeWordWrong : ChangeSpec := { name := "fnExactCodeWord", vars := ["loop.example/g00779/impl.codeWords"], fn := fun _ => fun
  | [d, g1] => { results := [.lit (.bool false)], args := [d], vars := [g1] }
  | _ => none }
def FnExactCodeWordWrongFalsely : Prop := fnExactCodeWordRow.holds Tryd.pinned (OpenSpec.ofChange fnExactCodeWordWrong)

/-- 'laws.FnExactCodeOf': WHATEVER THE INPUT: true; the input reads as it did. -/
def fnExactCodeOfSpec : ChangeSpec := { name := "fnExactCodeOf", vars := ["loop.example/g00779/impl.codeWords"], fn := fun _ => fun
  | [d, g1] => { results := [.lit (.bool true)], args := [d], vars := [g1] }
  | _ => none }
def fnExactCodeOfRow : OpenClaim := { program := "ytieclljkfdghaaadoor", sum := "739ab927bb7ef4681407dc99b9bc872b0f794eb430d04a1454fa44b8f8a02a8f", func := "loop.example/g00779/laws.FnExactCodeOf", spec := "fnExactCodeOf", named := ["loop.example/g00779/impl.codeWords"], apart := false, laid := [("loop.example/g00779/impl.codeWords", laid_loop_example_g00779_impl_codeWords)] }
def FnExactCodeOfSaid : Prop := fnExactCodeOfRow.holds Tryd.pinned (OpenSpec.ofChange fnExactCodeOfSpec)

/-- ITS FALSE NEIGHBOUR: 'it returns false'. Refute it at one input. -/
def fnExactCodeOfWrong : ChangeSpec := { name := "fnExactCodeOf", vars := ["loop.example/g00779/impl.codeWords"], fn := fun _ => fun
  | [d, g1] => { results := [.lit (.bool false)], args := [d], vars := [g1] }
  | _ => none }
def FnExactCodeOfWrongFalsely : Prop := fnExactCodeOfRow.holds Tryd.pinned (OpenSpec.ofChange fnExactCodeOfWrong)

/-- 'laws.FnExactParseUrl': WHATEVER THE INPUT: true; the input reads as it did. -/
def fnExactParseUrlSpec : ChangeSpec := { name := "fnExactParseUrl", fn := fun _ => fun
  | [d] => { results := [.lit (.bool true)], args := [d] }
  | _ => none }
def fnExactParseUrlRow : OpenClaim := { program := "ytieclljkfdghaaadoor", sum := "739ab927bb7ef4681407dc99b9bc872b0f794eb430d04a1454fa44b8f8a02a8f", func := "loop.example/g00779/laws.FnExactParseUrl", spec := "fnExactParseUrl", inPlace := ["internal/bytealg.IndexByteString", "internal/bytealg.IndexString"], recurses := true, named := ["internal/bytealg.MaxLen", "internal/strconv.uint64pow10", "math/bits.deBruijn32tab", "math/bits.deBruijn64tab"], apart := false, laid := [("math/bits.deBruijn32tab", laid_math_bits_deBruijn32tab), ("math/bits.deBruijn64tab", laid_math_bits_deBruijn64tab), ("internal/strconv.uint64pow10", laid_internal_strconv_uint64pow10)] }
def FnExactParseUrlSaid : Prop := fnExactParseUrlRow.holds Tryd.pinned (OpenSpec.ofChange fnExactParseUrlSpec)

/-- ITS FALSE NEIGHBOUR: 'it returns false'. Refute it at one input. -/
def fnExactParseUrlWrong : ChangeSpec := { name := "fnExactParseUrl", fn := fun _ => fun
  | [d] => { results := [.lit (.bool false)], args := [d] }
  | _ => none }
def FnExactParseUrlWrongFalsely : Prop := fnExactParseUrlRow.holds Tryd.pinned (OpenSpec.ofChange fnExactParseUrlWrong)

/-- 'laws.FnExactUrlOK': WHATEVER THE INPUT: true; the input reads as it did. -/
def fnExactUrlOKSpec : ChangeSpec := { name := "fnExactUrlOK", fn := fun _ => fun
  | [d] => { results := [.lit (.bool true)], args := [d] }
  | _ => none }
def fnExactUrlOKRow : OpenClaim := { program := "ytieclljkfdghaaadoor", sum := "739ab927bb7ef4681407dc99b9bc872b0f794eb430d04a1454fa44b8f8a02a8f", func := "loop.example/g00779/laws.FnExactUrlOK", spec := "fnExactUrlOK", inPlace := ["internal/bytealg.IndexByteString", "internal/bytealg.IndexString"], recurses := true, named := ["internal/strconv.uint64pow10", "math/bits.deBruijn32tab", "math/bits.deBruijn64tab", "internal/bytealg.MaxLen"], apart := false, laid := [("math/bits.deBruijn32tab", laid_math_bits_deBruijn32tab), ("math/bits.deBruijn64tab", laid_math_bits_deBruijn64tab), ("internal/strconv.uint64pow10", laid_internal_strconv_uint64pow10)] }
def FnExactUrlOKSaid : Prop := fnExactUrlOKRow.holds Tryd.pinned (OpenSpec.ofChange fnExactUrlOKSpec)

/-- ITS FALSE NEIGHBOUR: 'it returns false'. Refute it at one input. -/
def fnExactUrlOKWrong : ChangeSpec := { name := "fnExactUrlOK", fn := fun _ => fun
  | [d] => { results := [.lit (.bool false)], args := [d] }
  | _ => none }
def FnExactUrlOKWrongFalsely : Prop := fnExactUrlOKRow.holds Tryd.pinned (OpenSpec.ofChange fnExactUrlOKWrong)

/-- 'laws.FnExactUrlText': WHATEVER THE INPUT: true; the input reads as it did. -/
def fnExactUrlTextSpec : ChangeSpec := { name := "fnExactUrlText", fn := fun _ => fun
  | [d] => { results := [.lit (.bool true)], args := [d] }
  | _ => none }
def fnExactUrlTextRow : OpenClaim := { program := "ytieclljkfdghaaadoor", sum := "739ab927bb7ef4681407dc99b9bc872b0f794eb430d04a1454fa44b8f8a02a8f", func := "loop.example/g00779/laws.FnExactUrlText", spec := "fnExactUrlText", inPlace := ["internal/bytealg.IndexByteString", "internal/bytealg.IndexString"], recurses := true, named := ["internal/strconv.uint64pow10", "math/bits.deBruijn32tab", "math/bits.deBruijn64tab", "internal/bytealg.MaxLen"], apart := false, laid := [("math/bits.deBruijn32tab", laid_math_bits_deBruijn32tab), ("math/bits.deBruijn64tab", laid_math_bits_deBruijn64tab), ("internal/strconv.uint64pow10", laid_internal_strconv_uint64pow10)] }
def FnExactUrlTextSaid : Prop := fnExactUrlTextRow.holds Tryd.pinned (OpenSpec.ofChange fnExactUrlTextSpec)

/-- ITS FALSE NEIGHBOUR: 'it returns false'. Refute it at one input. -/
def fnExactUrlTextWrong : ChangeSpec := { name := "fnExactUrlText", fn := fun _ => fun
  | [d] => { results := [.lit (.bool false)], args := [d] }
  | _ => none }
def FnExactUrlTextWrongFalsely : Prop := fnExactUrlTextRow.holds Tryd.pinned (OpenSpec.ofChange fnExactUrlTextWrong)

/-- 'laws.FnExactOriginOf': WHATEVER THE INPUT: true; the input reads as it did. -/
def fnExactOriginOfSpec : ChangeSpec := { name := "fnExactOriginOf", fn := fun _ => fun
  | [d] => { results := [.lit (.bool true)], args := [d] }
  | _ => none }
def fnExactOriginOfRow : OpenClaim := { program := "ytieclljkfdghaaadoor", sum := "739ab927bb7ef4681407dc99b9bc872b0f794eb430d04a1454fa44b8f8a02a8f", func := "loop.example/g00779/laws.FnExactOriginOf", spec := "fnExactOriginOf", inPlace := ["internal/bytealg.IndexByteString", "internal/bytealg.IndexString"], recurses := true, named := ["internal/strconv.uint64pow10", "math/bits.deBruijn32tab", "math/bits.deBruijn64tab", "internal/bytealg.MaxLen"], apart := false, laid := [("math/bits.deBruijn32tab", laid_math_bits_deBruijn32tab), ("math/bits.deBruijn64tab", laid_math_bits_deBruijn64tab), ("internal/strconv.uint64pow10", laid_internal_strconv_uint64pow10)] }
def FnExactOriginOfSaid : Prop := fnExactOriginOfRow.holds Tryd.pinned (OpenSpec.ofChange fnExactOriginOfSpec)

/-- ITS FALSE NEIGHBOUR: 'it returns false'. Refute it at one input. -/
def fnExactOriginOfWrong : ChangeSpec := { name := "fnExactOriginOf", fn := fun _ => fun
  | [d] => { results := [.lit (.bool false)], args := [d] }
  | _ => none }
def FnExactOriginOfWrongFalsely : Prop := fnExactOriginOfRow.holds Tryd.pinned (OpenSpec.ofChange fnExactOriginOfWrong)

/-- 'laws.FnExactSameOrigin': WHATEVER THE INPUT: true; the input reads as it did. -/
def fnExactSameOriginSpec : ChangeSpec := { name := "fnExactSameOrigin", fn := fun _ => fun
  | [d1, d2] => { results := [.lit (.bool true)], args := [d1, d2] }
  | _ => none }
def fnExactSameOriginRow : OpenClaim := { program := "ytieclljkfdghaaadoor", sum := "739ab927bb7ef4681407dc99b9bc872b0f794eb430d04a1454fa44b8f8a02a8f", func := "loop.example/g00779/laws.FnExactSameOrigin", spec := "fnExactSameOrigin", inPlace := ["internal/bytealg.IndexByteString", "internal/bytealg.IndexString"], recurses := true, named := ["internal/strconv.uint64pow10", "math/bits.deBruijn32tab", "math/bits.deBruijn64tab", "internal/bytealg.MaxLen"], apart := false, laid := [("math/bits.deBruijn32tab", laid_math_bits_deBruijn32tab), ("math/bits.deBruijn64tab", laid_math_bits_deBruijn64tab), ("internal/strconv.uint64pow10", laid_internal_strconv_uint64pow10)] }
def FnExactSameOriginSaid : Prop := fnExactSameOriginRow.holds Tryd.pinned (OpenSpec.ofChange fnExactSameOriginSpec)

/-- ITS FALSE NEIGHBOUR: 'it returns false'. Refute it at one input. -/
def fnExactSameOriginWrong : ChangeSpec := { name := "fnExactSameOrigin", fn := fun _ => fun
  | [d1, d2] => { results := [.lit (.bool false)], args := [d1, d2] }
  | _ => none }
def FnExactSameOriginWrongFalsely : Prop := fnExactSameOriginRow.holds Tryd.pinned (OpenSpec.ofChange fnExactSameOriginWrong)

/-- 'laws.FnExactStripUrl': WHATEVER THE INPUT: true; the input reads as it did. -/
def fnExactStripUrlSpec : ChangeSpec := { name := "fnExactStripUrl", fn := fun _ => fun
  | [d] => { results := [.lit (.bool true)], args := [d] }
  | _ => none }
def fnExactStripUrlRow : OpenClaim := { program := "ytieclljkfdghaaadoor", sum := "739ab927bb7ef4681407dc99b9bc872b0f794eb430d04a1454fa44b8f8a02a8f", func := "loop.example/g00779/laws.FnExactStripUrl", spec := "fnExactStripUrl", inPlace := ["internal/bytealg.IndexByteString", "internal/bytealg.IndexString"], recurses := true, named := ["internal/strconv.uint64pow10", "math/bits.deBruijn32tab", "math/bits.deBruijn64tab", "internal/bytealg.MaxLen"], apart := false, laid := [("math/bits.deBruijn32tab", laid_math_bits_deBruijn32tab), ("math/bits.deBruijn64tab", laid_math_bits_deBruijn64tab), ("internal/strconv.uint64pow10", laid_internal_strconv_uint64pow10)] }
def FnExactStripUrlSaid : Prop := fnExactStripUrlRow.holds Tryd.pinned (OpenSpec.ofChange fnExactStripUrlSpec)

/-- ITS FALSE NEIGHBOUR: 'it returns false'. Refute it at one input. -/
def fnExactStripUrlWrong : ChangeSpec := { name := "fnExactStripUrl", fn := fun _ => fun
  | [d] => { results := [.lit (.bool false)], args := [d] }
  | _ => none }
def FnExactStripUrlWrongFalsely : Prop := fnExactStripUrlRow.holds Tryd.pinned (OpenSpec.ofChange fnExactStripUrlWrong)

/-- 'laws.FnExactStripText': WHATEVER THE INPUT: true; the input reads as it did. -/
def fnExactStripTextSpec : ChangeSpec := { name := "fnExactStripText", fn := fun _ => fun
  | [d] => { results := [.lit (.bool true)], args := [d] }
  | _ => none }
def fnExactStripTextRow : OpenClaim := { program := "ytieclljkfdghaaadoor", sum := "739ab927bb7ef4681407dc99b9bc872b0f794eb430d04a1454fa44b8f8a02a8f", func := "loop.example/g00779/laws.FnExactStripText", spec := "fnExactStripText", inPlace := ["internal/bytealg.IndexByteString", "internal/bytealg.IndexString"], recurses := true, named := ["internal/bytealg.MaxLen", "internal/strconv.uint64pow10", "math/bits.deBruijn32tab", "math/bits.deBruijn64tab"], apart := false, laid := [("math/bits.deBruijn32tab", laid_math_bits_deBruijn32tab), ("math/bits.deBruijn64tab", laid_math_bits_deBruijn64tab), ("internal/strconv.uint64pow10", laid_internal_strconv_uint64pow10)] }
def FnExactStripTextSaid : Prop := fnExactStripTextRow.holds Tryd.pinned (OpenSpec.ofChange fnExactStripTextSpec)

/-- ITS FALSE NEIGHBOUR: 'it returns false'. Refute it at one input. -/
def fnExactStripTextWrong : ChangeSpec := { name := "fnExactStripText", fn := fun _ => fun
  | [d] => { results := [.lit (.bool false)], args := [d] }
  | _ => none }
def FnExactStripTextWrongFalsely : Prop := fnExactStripTextRow.holds Tryd.pinned (OpenSpec.ofChange fnExactStripTextWrong)

/- THE SECOND FORM. 'bulk': how many values and letters a reading holds, each counted each time it is reached (what is shared counts as often as it is met; a slice's spare places count too). A statement '..UptoSaid' is the law's where the arguments, and the package variables that the reading takes, are together of bulk at most 1048576: NARROWER than '..Said'. Prove '..Said' where nothing that the law and all that it calls make is longer than what came in: it says more and counts as full. Else prove '..UptoSaid'. A law counts once. -/
mutual
def uptoBulk {H : Type} : DataW H → Nat
  | .lit (.string bytes) => bytes.length + 1
  | .lit _ => 1
  | .nil => 1
  | .ptr d => uptoBulk d + 1
  | .slice elems spare => uptoBulkAll elems + uptoBulkAll spare + 1
  | .agg parts => uptoBulkAll parts + 1
  | .iface _ d => uptoBulk d + 1
  | .map entries => uptoBulkEntries entries + 1
  | .held _ => 1
def uptoBulkAll {H : Type} : List (DataW H) → Nat
  | [] => 0
  | d :: r => uptoBulk d + uptoBulkAll r
def uptoBulkEntries {H : Type} : List (Lit × DataW H) → Nat
  | [] => 0
  | x :: r => uptoBulkEntry x + uptoBulkEntries r
def uptoBulkEntry {H : Type} : Lit × DataW H → Nat
  | (.string bytes, d) => bytes.length + uptoBulk d + 1
  | (_, d) => uptoBulk d + 1
 end
def uptoSmall : (H : Type) → List (DataW H) → Bool := fun _ ds => decide (uptoBulkAll ds ≤ 1048576)
def OpenSpec.upto (s : _root_.Go.ChangeSpec) : _root_.Go.OpenSpec := { _root_.Go.OpenSpec.ofChange s with cond := some uptoSmall }

/-- 'laws.FnUrls', WHERE WHAT IT READS IS OF BULK AT MOST 1048576: true; the input reads as it did. -/
def fnUrlsUptoRow : OpenClaim := { program := "ytieclljkfdghaaadoor", sum := "739ab927bb7ef4681407dc99b9bc872b0f794eb430d04a1454fa44b8f8a02a8f", func := "loop.example/g00779/laws.FnUrls", spec := "fnUrls", inPlace := ["internal/bytealg.IndexByteString", "internal/bytealg.IndexString"], recurses := true, named := ["internal/strconv.uint64pow10", "math/bits.deBruijn32tab", "math/bits.deBruijn64tab", "internal/bytealg.MaxLen"], apart := false, laid := [("math/bits.deBruijn32tab", laid_math_bits_deBruijn32tab), ("math/bits.deBruijn64tab", laid_math_bits_deBruijn64tab), ("internal/strconv.uint64pow10", laid_internal_strconv_uint64pow10)], narrowed := true }
def FnUrlsUptoSaid : Prop := fnUrlsUptoRow.holds Tryd.pinned (OpenSpec.upto fnUrlsSpec)

/-- 'laws.FnStrip', WHERE WHAT IT READS IS OF BULK AT MOST 1048576: true; the input reads as it did. -/
def fnStripUptoRow : OpenClaim := { program := "ytieclljkfdghaaadoor", sum := "739ab927bb7ef4681407dc99b9bc872b0f794eb430d04a1454fa44b8f8a02a8f", func := "loop.example/g00779/laws.FnStrip", spec := "fnStrip", inPlace := ["internal/bytealg.IndexByteString", "internal/bytealg.IndexString"], recurses := true, named := ["internal/strconv.uint64pow10", "math/bits.deBruijn32tab", "math/bits.deBruijn64tab", "internal/bytealg.MaxLen"], apart := false, laid := [("math/bits.deBruijn32tab", laid_math_bits_deBruijn32tab), ("math/bits.deBruijn64tab", laid_math_bits_deBruijn64tab), ("internal/strconv.uint64pow10", laid_internal_strconv_uint64pow10)], narrowed := true }
def FnStripUptoSaid : Prop := fnStripUptoRow.holds Tryd.pinned (OpenSpec.upto fnStripSpec)

/-- 'laws.FnExactCodeWord', WHERE WHAT IT READS IS OF BULK AT MOST 1048576: true; the input reads as it did. -/
def fnExactCodeWordUptoRow : OpenClaim := { program := "ytieclljkfdghaaadoor", sum := "739ab927bb7ef4681407dc99b9bc872b0f794eb430d04a1454fa44b8f8a02a8f", func := "loop.example/g00779/laws.FnExactCodeWord", spec := "fnExactCodeWord", named := ["loop.example/g00779/impl.codeWords"], apart := false, laid := [("loop.example/g00779/impl.codeWords", laid_loop_example_g00779_impl_codeWords)], narrowed := true }
def FnExactCodeWordUptoSaid : Prop := fnExactCodeWordUptoRow.holds Tryd.pinned (OpenSpec.upto fnExactCodeWordSpec)

/-- 'laws.FnExactCodeOf', WHERE WHAT IT READS IS OF BULK AT MOST 1048576: true; the input reads as it did. -/
def fnExactCodeOfUptoRow : OpenClaim := { program := "ytieclljkfdghaaadoor", sum := "739ab927bb7ef4681407dc99b9bc872b0f794eb430d04a1454fa44b8f8a02a8f", func := "loop.example/g00779/laws.FnExactCodeOf", spec := "fnExactCodeOf", named := ["loop.example/g00779/impl.codeWords"], apart := false, laid := [("loop.example/g00779/impl.codeWords", laid_loop_example_g00779_impl_codeWords)], narrowed := true }
def FnExactCodeOfUptoSaid : Prop := fnExactCodeOfUptoRow.holds Tryd.pinned (OpenSpec.upto fnExactCodeOfSpec)

/-- 'laws.FnExactParseUrl', WHERE WHAT IT READS IS OF BULK AT MOST 1048576: true; the input reads as it did. -/
def fnExactParseUrlUptoRow : OpenClaim := { program := "ytieclljkfdghaaadoor", sum := "739ab927bb7ef4681407dc99b9bc872b0f794eb430d04a1454fa44b8f8a02a8f", func := "loop.example/g00779/laws.FnExactParseUrl", spec := "fnExactParseUrl", inPlace := ["internal/bytealg.IndexByteString", "internal/bytealg.IndexString"], recurses := true, named := ["internal/bytealg.MaxLen", "internal/strconv.uint64pow10", "math/bits.deBruijn32tab", "math/bits.deBruijn64tab"], apart := false, laid := [("math/bits.deBruijn32tab", laid_math_bits_deBruijn32tab), ("math/bits.deBruijn64tab", laid_math_bits_deBruijn64tab), ("internal/strconv.uint64pow10", laid_internal_strconv_uint64pow10)], narrowed := true }
def FnExactParseUrlUptoSaid : Prop := fnExactParseUrlUptoRow.holds Tryd.pinned (OpenSpec.upto fnExactParseUrlSpec)

/-- 'laws.FnExactUrlOK', WHERE WHAT IT READS IS OF BULK AT MOST 1048576: true; the input reads as it did. -/
def fnExactUrlOKUptoRow : OpenClaim := { program := "ytieclljkfdghaaadoor", sum := "739ab927bb7ef4681407dc99b9bc872b0f794eb430d04a1454fa44b8f8a02a8f", func := "loop.example/g00779/laws.FnExactUrlOK", spec := "fnExactUrlOK", inPlace := ["internal/bytealg.IndexByteString", "internal/bytealg.IndexString"], recurses := true, named := ["internal/strconv.uint64pow10", "math/bits.deBruijn32tab", "math/bits.deBruijn64tab", "internal/bytealg.MaxLen"], apart := false, laid := [("math/bits.deBruijn32tab", laid_math_bits_deBruijn32tab), ("math/bits.deBruijn64tab", laid_math_bits_deBruijn64tab), ("internal/strconv.uint64pow10", laid_internal_strconv_uint64pow10)], narrowed := true }
def FnExactUrlOKUptoSaid : Prop := fnExactUrlOKUptoRow.holds Tryd.pinned (OpenSpec.upto fnExactUrlOKSpec)

/-- 'laws.FnExactUrlText', WHERE WHAT IT READS IS OF BULK AT MOST 1048576: true; the input reads as it did. -/
def fnExactUrlTextUptoRow : OpenClaim := { program := "ytieclljkfdghaaadoor", sum := "739ab927bb7ef4681407dc99b9bc872b0f794eb430d04a1454fa44b8f8a02a8f", func := "loop.example/g00779/laws.FnExactUrlText", spec := "fnExactUrlText", inPlace := ["internal/bytealg.IndexByteString", "internal/bytealg.IndexString"], recurses := true, named := ["internal/strconv.uint64pow10", "math/bits.deBruijn32tab", "math/bits.deBruijn64tab", "internal/bytealg.MaxLen"], apart := false, laid := [("math/bits.deBruijn32tab", laid_math_bits_deBruijn32tab), ("math/bits.deBruijn64tab", laid_math_bits_deBruijn64tab), ("internal/strconv.uint64pow10", laid_internal_strconv_uint64pow10)], narrowed := true }
def FnExactUrlTextUptoSaid : Prop := fnExactUrlTextUptoRow.holds Tryd.pinned (OpenSpec.upto fnExactUrlTextSpec)

/-- 'laws.FnExactOriginOf', WHERE WHAT IT READS IS OF BULK AT MOST 1048576: true; the input reads as it did. -/
def fnExactOriginOfUptoRow : OpenClaim := { program := "ytieclljkfdghaaadoor", sum := "739ab927bb7ef4681407dc99b9bc872b0f794eb430d04a1454fa44b8f8a02a8f", func := "loop.example/g00779/laws.FnExactOriginOf", spec := "fnExactOriginOf", inPlace := ["internal/bytealg.IndexByteString", "internal/bytealg.IndexString"], recurses := true, named := ["internal/strconv.uint64pow10", "math/bits.deBruijn32tab", "math/bits.deBruijn64tab", "internal/bytealg.MaxLen"], apart := false, laid := [("math/bits.deBruijn32tab", laid_math_bits_deBruijn32tab), ("math/bits.deBruijn64tab", laid_math_bits_deBruijn64tab), ("internal/strconv.uint64pow10", laid_internal_strconv_uint64pow10)], narrowed := true }
def FnExactOriginOfUptoSaid : Prop := fnExactOriginOfUptoRow.holds Tryd.pinned (OpenSpec.upto fnExactOriginOfSpec)

/-- 'laws.FnExactSameOrigin', WHERE WHAT IT READS IS OF BULK AT MOST 1048576: true; the input reads as it did. -/
def fnExactSameOriginUptoRow : OpenClaim := { program := "ytieclljkfdghaaadoor", sum := "739ab927bb7ef4681407dc99b9bc872b0f794eb430d04a1454fa44b8f8a02a8f", func := "loop.example/g00779/laws.FnExactSameOrigin", spec := "fnExactSameOrigin", inPlace := ["internal/bytealg.IndexByteString", "internal/bytealg.IndexString"], recurses := true, named := ["internal/strconv.uint64pow10", "math/bits.deBruijn32tab", "math/bits.deBruijn64tab", "internal/bytealg.MaxLen"], apart := false, laid := [("math/bits.deBruijn32tab", laid_math_bits_deBruijn32tab), ("math/bits.deBruijn64tab", laid_math_bits_deBruijn64tab), ("internal/strconv.uint64pow10", laid_internal_strconv_uint64pow10)], narrowed := true }
def FnExactSameOriginUptoSaid : Prop := fnExactSameOriginUptoRow.holds Tryd.pinned (OpenSpec.upto fnExactSameOriginSpec)

/-- 'laws.FnExactStripUrl', WHERE WHAT IT READS IS OF BULK AT MOST 1048576: true; the input reads as it did. -/
def fnExactStripUrlUptoRow : OpenClaim := { program := "ytieclljkfdghaaadoor", sum := "739ab927bb7ef4681407dc99b9bc872b0f794eb430d04a1454fa44b8f8a02a8f", func := "loop.example/g00779/laws.FnExactStripUrl", spec := "fnExactStripUrl", inPlace := ["internal/bytealg.IndexByteString", "internal/bytealg.IndexString"], recurses := true, named := ["internal/strconv.uint64pow10", "math/bits.deBruijn32tab", "math/bits.deBruijn64tab", "internal/bytealg.MaxLen"], apart := false, laid := [("math/bits.deBruijn32tab", laid_math_bits_deBruijn32tab), ("math/bits.deBruijn64tab", laid_math_bits_deBruijn64tab), ("internal/strconv.uint64pow10", laid_internal_strconv_uint64pow10)], narrowed := true }
def FnExactStripUrlUptoSaid : Prop := fnExactStripUrlUptoRow.holds Tryd.pinned (OpenSpec.upto fnExactStripUrlSpec)

/-- 'laws.FnExactStripText', WHERE WHAT IT READS IS OF BULK AT MOST 1048576: true; the input reads as it did. -/
def fnExactStripTextUptoRow : OpenClaim := { program := "ytieclljkfdghaaadoor", sum := "739ab927bb7ef4681407dc99b9bc872b0f794eb430d04a1454fa44b8f8a02a8f", func := "loop.example/g00779/laws.FnExactStripText", spec := "fnExactStripText", inPlace := ["internal/bytealg.IndexByteString", "internal/bytealg.IndexString"], recurses := true, named := ["internal/bytealg.MaxLen", "internal/strconv.uint64pow10", "math/bits.deBruijn32tab", "math/bits.deBruijn64tab"], apart := false, laid := [("math/bits.deBruijn32tab", laid_math_bits_deBruijn32tab), ("math/bits.deBruijn64tab", laid_math_bits_deBruijn64tab), ("internal/strconv.uint64pow10", laid_internal_strconv_uint64pow10)], narrowed := true }
def FnExactStripTextUptoSaid : Prop := fnExactStripTextUptoRow.holds Tryd.pinned (OpenSpec.upto fnExactStripTextSpec)

end Rows
end Go.Proofs.YtieclljkfdghaaaDoor
