/-
  NARROWER THAN 'FOR EVERY INPUT', by the rows' own cells (each row's printed sentence says how): FnFormat: laid · FnAge: laid · FnExactRender: laid · FnExactReadDate: laid · FnExactAgeOf: laid · FnExactAgeText: laid.
  DERIVED. THE GIVEN ROWS OF THIS SEAT. 6 by the template 'for every input the law returns true; each argument reads behind the call as it read before'; 0 by the template 'total and deterministic' (their statements: YtbikcldkaogfmaaDoorTotals.lean).
  GIVEN WITH THE SEED: the statements are not yours to turn. If you find one false, say at which input.
  Laid BY PROGRAM, IN A SANDBOX (cutbox-rows.mjs): the forced cells as the released guide's own fill.sh prints them over the translation 39d01952893c76e5… (all of the seat's roots in one cut). By AI agents, Wed Nov 11 2026. No macro, syntax, notation, axiom, sorry.
-/
import Derived.Test.YtbikcldkaogfmaaDoorChecked
import GoSem.Claim
import GoSem.ClaimJoined
import GoSem.ClaimMapViews
import Derived.JoinedTies
import Derived.KernelRfl
namespace Go.Proofs.YtbikcldkaogfmaaDoor
/- THE CELL 'sum', in the pinned program and in every row, IS THE sha256 OF THE DUMP (.gsa) THAT YtbikcldkaogfmaaDoorProg.lean LOADS. Nothing in Lean hashes anything: it is a label: what it is worth is what the hold of that sum in a sandbox is worth. -/
noncomputable def Tryd.pinned : Pinned := { name := "ytbikcldkaogfmaadoor", sum := "39d01952893c76e56e3f6cbf47b67a2d4e7853e0277499e81ee17104679d52a9", checked := Tryd.checked }
namespace Rows
def none {H : Type} : Left H := { results := [], args := [] }

/- WHAT THE LISTED PACKAGE-LEVEL VARIABLES READ AS WHEN THE CALL BEGINS. Each datum BY PROGRAM (the guide's laid-datum.mjs) off the statement by which the dump's own 'gosem.cut.vars' lays the variable. In a bare row this is a premise. The card (YtbikcldkaogfmaaDoorCards.lean) ties it to the program's text. -/
def laid_math_bits_deBruijn32tab {H : Type} : DataW H := .agg [.lit (.int .u8 0), .lit (.int .u8 1), .lit (.int .u8 28), .lit (.int .u8 2), .lit (.int .u8 29), .lit (.int .u8 14), .lit (.int .u8 24), .lit (.int .u8 3), .lit (.int .u8 30), .lit (.int .u8 22), .lit (.int .u8 20), .lit (.int .u8 15), .lit (.int .u8 25), .lit (.int .u8 17), .lit (.int .u8 4), .lit (.int .u8 8), .lit (.int .u8 31), .lit (.int .u8 27), .lit (.int .u8 13), .lit (.int .u8 23), .lit (.int .u8 21), .lit (.int .u8 19), .lit (.int .u8 16), .lit (.int .u8 7), .lit (.int .u8 26), .lit (.int .u8 12), .lit (.int .u8 18), .lit (.int .u8 6), .lit (.int .u8 11), .lit (.int .u8 5), .lit (.int .u8 10), .lit (.int .u8 9)]
def laid_math_bits_deBruijn64tab {H : Type} : DataW H := .agg [.lit (.int .u8 0), .lit (.int .u8 1), .lit (.int .u8 56), .lit (.int .u8 2), .lit (.int .u8 57), .lit (.int .u8 49), .lit (.int .u8 28), .lit (.int .u8 3), .lit (.int .u8 61), .lit (.int .u8 58), .lit (.int .u8 42), .lit (.int .u8 50), .lit (.int .u8 38), .lit (.int .u8 29), .lit (.int .u8 17), .lit (.int .u8 4), .lit (.int .u8 62), .lit (.int .u8 47), .lit (.int .u8 59), .lit (.int .u8 36), .lit (.int .u8 45), .lit (.int .u8 43), .lit (.int .u8 51), .lit (.int .u8 22), .lit (.int .u8 53), .lit (.int .u8 39), .lit (.int .u8 33), .lit (.int .u8 30), .lit (.int .u8 24), .lit (.int .u8 18), .lit (.int .u8 12), .lit (.int .u8 5), .lit (.int .u8 63), .lit (.int .u8 55), .lit (.int .u8 48), .lit (.int .u8 27), .lit (.int .u8 60), .lit (.int .u8 41), .lit (.int .u8 37), .lit (.int .u8 16), .lit (.int .u8 46), .lit (.int .u8 35), .lit (.int .u8 44), .lit (.int .u8 21), .lit (.int .u8 52), .lit (.int .u8 32), .lit (.int .u8 23), .lit (.int .u8 11), .lit (.int .u8 54), .lit (.int .u8 26), .lit (.int .u8 40), .lit (.int .u8 15), .lit (.int .u8 34), .lit (.int .u8 20), .lit (.int .u8 31), .lit (.int .u8 10), .lit (.int .u8 25), .lit (.int .u8 14), .lit (.int .u8 19), .lit (.int .u8 9), .lit (.int .u8 13), .lit (.int .u8 8), .lit (.int .u8 7), .lit (.int .u8 6)]
def laid_internal_strconv_uint64pow10 {H : Type} : DataW H := .agg [.lit (.int .u64 1), .lit (.int .u64 10), .lit (.int .u64 100), .lit (.int .u64 1000), .lit (.int .u64 10000), .lit (.int .u64 100000), .lit (.int .u64 1000000), .lit (.int .u64 10000000), .lit (.int .u64 100000000), .lit (.int .u64 1000000000), .lit (.int .u64 10000000000), .lit (.int .u64 100000000000), .lit (.int .u64 1000000000000), .lit (.int .u64 10000000000000), .lit (.int .u64 100000000000000), .lit (.int .u64 1000000000000000), .lit (.int .u64 10000000000000000), .lit (.int .u64 100000000000000000), .lit (.int .u64 1000000000000000000), .lit (.int .u64 10000000000000000000)]
def laid_loop_example_g00704_impl_monthLengths {H : Type} : DataW H := .agg [.lit (.int .i64 31), .lit (.int .i64 28), .lit (.int .i64 31), .lit (.int .i64 30), .lit (.int .i64 31), .lit (.int .i64 30), .lit (.int .i64 31), .lit (.int .i64 31), .lit (.int .i64 30), .lit (.int .i64 31), .lit (.int .i64 30), .lit (.int .i64 31)]
def laid_loop_example_g00704_impl_ageUnits {H : Type} : DataW H := .agg [.agg [.lit (.string [119]), .lit (.int .i64 604800)], .agg [.lit (.string [100]), .lit (.int .i64 86400)], .agg [.lit (.string [104]), .lit (.int .i64 3600)], .agg [.lit (.string [109]), .lit (.int .i64 60)], .agg [.lit (.string [115]), .lit (.int .i64 1)]]

/-- 'laws.FnFormat': WHATEVER THE INPUT: true; the input reads as it did. -/
def fnFormatSpec : ChangeSpec := { name := "fnFormat", vars := ["loop.example/g00704/impl.monthLengths"], fn := fun _ => fun
  | [d, g1] => { results := [.lit (.bool true)], args := [d], vars := [g1] }
  | _ => none }
def fnFormatRow : OpenClaim := { program := "ytbikcldkaogfmaadoor", sum := "39d01952893c76e56e3f6cbf47b67a2d4e7853e0277499e81ee17104679d52a9", func := "loop.example/g00704/laws.FnFormat", spec := "fnFormat", inPlace := ["internal/abi.NoEscape", "internal/bytealg.MakeNoZero"], unfollowed := true, recurses := true, named := ["loop.example/g00704/impl.monthLengths", "internal/strconv.uint64pow10", "math/bits.deBruijn32tab", "math/bits.deBruijn64tab"], apart := false, laid := [("math/bits.deBruijn32tab", laid_math_bits_deBruijn32tab), ("math/bits.deBruijn64tab", laid_math_bits_deBruijn64tab), ("internal/strconv.uint64pow10", laid_internal_strconv_uint64pow10), ("loop.example/g00704/impl.monthLengths", laid_loop_example_g00704_impl_monthLengths)] }
def FnFormatSaid : Prop := fnFormatRow.holds Tryd.pinned (OpenSpec.ofChange fnFormatSpec)

/-- ITS FALSE NEIGHBOUR: 'it returns false'. Refute it at one input. -/
def fnFormatWrong : ChangeSpec := { name := "fnFormat", vars := ["loop.example/g00704/impl.monthLengths"], fn := fun _ => fun
  | [d, g1] => { results := [.lit (.bool false)], args := [d], vars := [g1] }
  | _ => none }
def FnFormatWrongFalsely : Prop := fnFormatRow.holds Tryd.pinned (OpenSpec.ofChange fnFormatWrong)

/-- 'laws.FnAge': WHATEVER THE INPUT: true; the input reads as it did. -/
def fnAgeSpec : ChangeSpec := { name := "fnAge", vars := ["loop.example/g00704/impl.ageUnits"], fn := fun _ => fun
  | [d, g1] => { results := [.lit (.bool true)], args := [d], vars := [g1] }
  | _ => none }
def fnAgeRow : OpenClaim := { program := "ytbikcldkaogfmaadoor", sum := "39d01952893c76e56e3f6cbf47b67a2d4e7853e0277499e81ee17104679d52a9", func := "loop.example/g00704/laws.FnAge", spec := "fnAge", named := ["loop.example/g00704/impl.ageUnits", "internal/strconv.uint64pow10", "math/bits.deBruijn32tab", "math/bits.deBruijn64tab"], apart := false, laid := [("math/bits.deBruijn32tab", laid_math_bits_deBruijn32tab), ("math/bits.deBruijn64tab", laid_math_bits_deBruijn64tab), ("internal/strconv.uint64pow10", laid_internal_strconv_uint64pow10), ("loop.example/g00704/impl.ageUnits", laid_loop_example_g00704_impl_ageUnits)] }
def FnAgeSaid : Prop := fnAgeRow.holds Tryd.pinned (OpenSpec.ofChange fnAgeSpec)

/-- ITS FALSE NEIGHBOUR: 'it returns false'. Refute it at one input. -/
def fnAgeWrong : ChangeSpec := { name := "fnAge", vars := ["loop.example/g00704/impl.ageUnits"], fn := fun _ => fun
  | [d, g1] => { results := [.lit (.bool false)], args := [d], vars := [g1] }
  | _ => none }
def FnAgeWrongFalsely : Prop := fnAgeRow.holds Tryd.pinned (OpenSpec.ofChange fnAgeWrong)

/-- 'laws.FnExactRender': WHATEVER THE INPUT: true; the input reads as it did. -/
def fnExactRenderSpec : ChangeSpec := { name := "fnExactRender", vars := ["loop.example/g00704/impl.monthLengths"], fn := fun _ => fun
  | [d1, d2, g1] => { results := [.lit (.bool true)], args := [d1, d2], vars := [g1] }
  | _ => none }
def fnExactRenderRow : OpenClaim := { program := "ytbikcldkaogfmaadoor", sum := "39d01952893c76e56e3f6cbf47b67a2d4e7853e0277499e81ee17104679d52a9", func := "loop.example/g00704/laws.FnExactRender", spec := "fnExactRender", inPlace := ["internal/abi.NoEscape", "internal/bytealg.MakeNoZero"], unfollowed := true, recurses := true, named := ["loop.example/g00704/impl.monthLengths", "internal/strconv.uint64pow10", "math/bits.deBruijn32tab", "math/bits.deBruijn64tab"], apart := false, laid := [("math/bits.deBruijn32tab", laid_math_bits_deBruijn32tab), ("math/bits.deBruijn64tab", laid_math_bits_deBruijn64tab), ("internal/strconv.uint64pow10", laid_internal_strconv_uint64pow10), ("loop.example/g00704/impl.monthLengths", laid_loop_example_g00704_impl_monthLengths)] }
def FnExactRenderSaid : Prop := fnExactRenderRow.holds Tryd.pinned (OpenSpec.ofChange fnExactRenderSpec)

/-- ITS FALSE NEIGHBOUR: 'it returns false'. Refute it at one input. -/
def fnExactRenderWrong : ChangeSpec := { name := "fnExactRender", vars := ["loop.example/g00704/impl.monthLengths"], fn := fun _ => fun
  | [d1, d2, g1] => { results := [.lit (.bool false)], args := [d1, d2], vars := [g1] }
  | _ => none }
def FnExactRenderWrongFalsely : Prop := fnExactRenderRow.holds Tryd.pinned (OpenSpec.ofChange fnExactRenderWrong)

/-- 'laws.FnExactReadDate': WHATEVER THE INPUT: true; the input reads as it did. -/
def fnExactReadDateSpec : ChangeSpec := { name := "fnExactReadDate", vars := ["loop.example/g00704/impl.monthLengths"], fn := fun _ => fun
  | [d1, d2, g1] => { results := [.lit (.bool true)], args := [d1, d2], vars := [g1] }
  | _ => none }
def fnExactReadDateRow : OpenClaim := { program := "ytbikcldkaogfmaadoor", sum := "39d01952893c76e56e3f6cbf47b67a2d4e7853e0277499e81ee17104679d52a9", func := "loop.example/g00704/laws.FnExactReadDate", spec := "fnExactReadDate", inPlace := ["internal/abi.NoEscape", "internal/bytealg.MakeNoZero"], unfollowed := true, recurses := true, named := ["loop.example/g00704/impl.monthLengths", "internal/strconv.uint64pow10", "math/bits.deBruijn32tab", "math/bits.deBruijn64tab"], apart := false, laid := [("math/bits.deBruijn32tab", laid_math_bits_deBruijn32tab), ("math/bits.deBruijn64tab", laid_math_bits_deBruijn64tab), ("internal/strconv.uint64pow10", laid_internal_strconv_uint64pow10), ("loop.example/g00704/impl.monthLengths", laid_loop_example_g00704_impl_monthLengths)] }
def FnExactReadDateSaid : Prop := fnExactReadDateRow.holds Tryd.pinned (OpenSpec.ofChange fnExactReadDateSpec)

/-- ITS FALSE NEIGHBOUR: 'it returns false'. Refute it at one input. -/
def fnExactReadDateWrong : ChangeSpec := { name := "fnExactReadDate", vars := ["loop.example/g00704/impl.monthLengths"], fn := fun _ => fun
  | [d1, d2, g1] => { results := [.lit (.bool false)], args := [d1, d2], vars := [g1] }
  | _ => none }
def FnExactReadDateWrongFalsely : Prop := fnExactReadDateRow.holds Tryd.pinned (OpenSpec.ofChange fnExactReadDateWrong)

/-- 'laws.FnExactAgeOf': WHATEVER THE INPUT: true; the input reads as it did. -/
def fnExactAgeOfSpec : ChangeSpec := { name := "fnExactAgeOf", vars := ["loop.example/g00704/impl.ageUnits"], fn := fun _ => fun
  | [d, g1] => { results := [.lit (.bool true)], args := [d], vars := [g1] }
  | _ => none }
def fnExactAgeOfRow : OpenClaim := { program := "ytbikcldkaogfmaadoor", sum := "39d01952893c76e56e3f6cbf47b67a2d4e7853e0277499e81ee17104679d52a9", func := "loop.example/g00704/laws.FnExactAgeOf", spec := "fnExactAgeOf", named := ["loop.example/g00704/impl.ageUnits"], apart := false, laid := [("loop.example/g00704/impl.ageUnits", laid_loop_example_g00704_impl_ageUnits)] }
def FnExactAgeOfSaid : Prop := fnExactAgeOfRow.holds Tryd.pinned (OpenSpec.ofChange fnExactAgeOfSpec)

/-- ITS FALSE NEIGHBOUR: 'it returns false'. Refute it at one input. -/
def fnExactAgeOfWrong : ChangeSpec := { name := "fnExactAgeOf", vars := ["loop.example/g00704/impl.ageUnits"], fn := fun _ => fun
  | [d, g1] => { results := [.lit (.bool false)], args := [d], vars := [g1] }
  | _ => none }
def FnExactAgeOfWrongFalsely : Prop := fnExactAgeOfRow.holds Tryd.pinned (OpenSpec.ofChange fnExactAgeOfWrong)

/-- 'laws.FnExactAgeText': WHATEVER THE INPUT: true; the input reads as it did. -/
def fnExactAgeTextSpec : ChangeSpec := { name := "fnExactAgeText", vars := ["loop.example/g00704/impl.ageUnits"], fn := fun _ => fun
  | [d, g1] => { results := [.lit (.bool true)], args := [d], vars := [g1] }
  | _ => none }
def fnExactAgeTextRow : OpenClaim := { program := "ytbikcldkaogfmaadoor", sum := "39d01952893c76e56e3f6cbf47b67a2d4e7853e0277499e81ee17104679d52a9", func := "loop.example/g00704/laws.FnExactAgeText", spec := "fnExactAgeText", named := ["loop.example/g00704/impl.ageUnits", "internal/strconv.uint64pow10", "math/bits.deBruijn32tab", "math/bits.deBruijn64tab"], apart := false, laid := [("math/bits.deBruijn32tab", laid_math_bits_deBruijn32tab), ("math/bits.deBruijn64tab", laid_math_bits_deBruijn64tab), ("internal/strconv.uint64pow10", laid_internal_strconv_uint64pow10), ("loop.example/g00704/impl.ageUnits", laid_loop_example_g00704_impl_ageUnits)] }
def FnExactAgeTextSaid : Prop := fnExactAgeTextRow.holds Tryd.pinned (OpenSpec.ofChange fnExactAgeTextSpec)

/-- ITS FALSE NEIGHBOUR: 'it returns false'. Refute it at one input. -/
def fnExactAgeTextWrong : ChangeSpec := { name := "fnExactAgeText", vars := ["loop.example/g00704/impl.ageUnits"], fn := fun _ => fun
  | [d, g1] => { results := [.lit (.bool false)], args := [d], vars := [g1] }
  | _ => none }
def FnExactAgeTextWrongFalsely : Prop := fnExactAgeTextRow.holds Tryd.pinned (OpenSpec.ofChange fnExactAgeTextWrong)

/- THE SECOND FORM. 'bulk': how many values and letters a reading holds, each counted each time it is reached (what is shared counts as often as it is met; a slice's spare places count too). A statement '..UptoSaid' is the law's where the arguments, and the package variables that the reading takes, are together of bulk at most 1048576: NARROWER than '..Said'. Prove '..Said' where nothing that the law and all that it calls make is longer than what came in: it says more and counts as full. Else prove '..UptoSaid'. A law counts once. -/
mutual
def uptoBulk {H : Type} : DataW H → Nat
  | .lit (.string bytes) => bytes.length + 1
  | .lit _ => 1
  | .nil => 1
  | .ptr d => uptoBulk d + 1
  | .slice elems spare => uptoBulkAll elems + uptoBulkAll spare + 1
  | .agg parts => uptoBulkAll parts + 1
  | .iface _ d => uptoBulk d + 1
  | .map entries => uptoBulkEntries entries + 1
  | .held _ => 1
def uptoBulkAll {H : Type} : List (DataW H) → Nat
  | [] => 0
  | d :: r => uptoBulk d + uptoBulkAll r
def uptoBulkEntries {H : Type} : List (Lit × DataW H) → Nat
  | [] => 0
  | x :: r => uptoBulkEntry x + uptoBulkEntries r
def uptoBulkEntry {H : Type} : Lit × DataW H → Nat
  | (.string bytes, d) => bytes.length + uptoBulk d + 1
  | (_, d) => uptoBulk d + 1
 end
def uptoSmall : (H : Type) → List (DataW H) → Bool := fun _ ds => decide (uptoBulkAll ds ≤ 1048576)
def OpenSpec.upto (s : _root_.Go.ChangeSpec) : _root_.Go.OpenSpec := { _root_.Go.OpenSpec.ofChange s with cond := some uptoSmall }

/-- 'laws.FnFormat', WHERE WHAT IT READS IS OF BULK AT MOST 1048576: true; the input reads as it did. -/
def fnFormatUptoRow : OpenClaim := { program := "ytbikcldkaogfmaadoor", sum := "39d01952893c76e56e3f6cbf47b67a2d4e7853e0277499e81ee17104679d52a9", func := "loop.example/g00704/laws.FnFormat", spec := "fnFormat", inPlace := ["internal/abi.NoEscape", "internal/bytealg.MakeNoZero"], unfollowed := true, recurses := true, named := ["loop.example/g00704/impl.monthLengths", "internal/strconv.uint64pow10", "math/bits.deBruijn32tab", "math/bits.deBruijn64tab"], apart := false, laid := [("math/bits.deBruijn32tab", laid_math_bits_deBruijn32tab), ("math/bits.deBruijn64tab", laid_math_bits_deBruijn64tab), ("internal/strconv.uint64pow10", laid_internal_strconv_uint64pow10), ("loop.example/g00704/impl.monthLengths", laid_loop_example_g00704_impl_monthLengths)], narrowed := true }
def FnFormatUptoSaid : Prop := fnFormatUptoRow.holds Tryd.pinned (OpenSpec.upto fnFormatSpec)

/-- 'laws.FnAge', WHERE WHAT IT READS IS OF BULK AT MOST 1048576: true; the input reads as it did. -/
def fnAgeUptoRow : OpenClaim := { program := "ytbikcldkaogfmaadoor", sum := "39d01952893c76e56e3f6cbf47b67a2d4e7853e0277499e81ee17104679d52a9", func := "loop.example/g00704/laws.FnAge", spec := "fnAge", named := ["loop.example/g00704/impl.ageUnits", "internal/strconv.uint64pow10", "math/bits.deBruijn32tab", "math/bits.deBruijn64tab"], apart := false, laid := [("math/bits.deBruijn32tab", laid_math_bits_deBruijn32tab), ("math/bits.deBruijn64tab", laid_math_bits_deBruijn64tab), ("internal/strconv.uint64pow10", laid_internal_strconv_uint64pow10), ("loop.example/g00704/impl.ageUnits", laid_loop_example_g00704_impl_ageUnits)], narrowed := true }
def FnAgeUptoSaid : Prop := fnAgeUptoRow.holds Tryd.pinned (OpenSpec.upto fnAgeSpec)

/-- 'laws.FnExactRender', WHERE WHAT IT READS IS OF BULK AT MOST 1048576: true; the input reads as it did. -/
def fnExactRenderUptoRow : OpenClaim := { program := "ytbikcldkaogfmaadoor", sum := "39d01952893c76e56e3f6cbf47b67a2d4e7853e0277499e81ee17104679d52a9", func := "loop.example/g00704/laws.FnExactRender", spec := "fnExactRender", inPlace := ["internal/abi.NoEscape", "internal/bytealg.MakeNoZero"], unfollowed := true, recurses := true, named := ["loop.example/g00704/impl.monthLengths", "internal/strconv.uint64pow10", "math/bits.deBruijn32tab", "math/bits.deBruijn64tab"], apart := false, laid := [("math/bits.deBruijn32tab", laid_math_bits_deBruijn32tab), ("math/bits.deBruijn64tab", laid_math_bits_deBruijn64tab), ("internal/strconv.uint64pow10", laid_internal_strconv_uint64pow10), ("loop.example/g00704/impl.monthLengths", laid_loop_example_g00704_impl_monthLengths)], narrowed := true }
def FnExactRenderUptoSaid : Prop := fnExactRenderUptoRow.holds Tryd.pinned (OpenSpec.upto fnExactRenderSpec)

/-- 'laws.FnExactReadDate', WHERE WHAT IT READS IS OF BULK AT MOST 1048576: true; the input reads as it did. -/
def fnExactReadDateUptoRow : OpenClaim := { program := "ytbikcldkaogfmaadoor", sum := "39d01952893c76e56e3f6cbf47b67a2d4e7853e0277499e81ee17104679d52a9", func := "loop.example/g00704/laws.FnExactReadDate", spec := "fnExactReadDate", inPlace := ["internal/abi.NoEscape", "internal/bytealg.MakeNoZero"], unfollowed := true, recurses := true, named := ["loop.example/g00704/impl.monthLengths", "internal/strconv.uint64pow10", "math/bits.deBruijn32tab", "math/bits.deBruijn64tab"], apart := false, laid := [("math/bits.deBruijn32tab", laid_math_bits_deBruijn32tab), ("math/bits.deBruijn64tab", laid_math_bits_deBruijn64tab), ("internal/strconv.uint64pow10", laid_internal_strconv_uint64pow10), ("loop.example/g00704/impl.monthLengths", laid_loop_example_g00704_impl_monthLengths)], narrowed := true }
def FnExactReadDateUptoSaid : Prop := fnExactReadDateUptoRow.holds Tryd.pinned (OpenSpec.upto fnExactReadDateSpec)

/-- 'laws.FnExactAgeOf', WHERE WHAT IT READS IS OF BULK AT MOST 1048576: true; the input reads as it did. -/
def fnExactAgeOfUptoRow : OpenClaim := { program := "ytbikcldkaogfmaadoor", sum := "39d01952893c76e56e3f6cbf47b67a2d4e7853e0277499e81ee17104679d52a9", func := "loop.example/g00704/laws.FnExactAgeOf", spec := "fnExactAgeOf", named := ["loop.example/g00704/impl.ageUnits"], apart := false, laid := [("loop.example/g00704/impl.ageUnits", laid_loop_example_g00704_impl_ageUnits)], narrowed := true }
def FnExactAgeOfUptoSaid : Prop := fnExactAgeOfUptoRow.holds Tryd.pinned (OpenSpec.upto fnExactAgeOfSpec)

/-- 'laws.FnExactAgeText', WHERE WHAT IT READS IS OF BULK AT MOST 1048576: true; the input reads as it did. -/
def fnExactAgeTextUptoRow : OpenClaim := { program := "ytbikcldkaogfmaadoor", sum := "39d01952893c76e56e3f6cbf47b67a2d4e7853e0277499e81ee17104679d52a9", func := "loop.example/g00704/laws.FnExactAgeText", spec := "fnExactAgeText", named := ["loop.example/g00704/impl.ageUnits", "internal/strconv.uint64pow10", "math/bits.deBruijn32tab", "math/bits.deBruijn64tab"], apart := false, laid := [("math/bits.deBruijn32tab", laid_math_bits_deBruijn32tab), ("math/bits.deBruijn64tab", laid_math_bits_deBruijn64tab), ("internal/strconv.uint64pow10", laid_internal_strconv_uint64pow10), ("loop.example/g00704/impl.ageUnits", laid_loop_example_g00704_impl_ageUnits)], narrowed := true }
def FnExactAgeTextUptoSaid : Prop := fnExactAgeTextUptoRow.holds Tryd.pinned (OpenSpec.upto fnExactAgeTextSpec)

end Rows
end Go.Proofs.YtbikcldkaogfmaaDoor
