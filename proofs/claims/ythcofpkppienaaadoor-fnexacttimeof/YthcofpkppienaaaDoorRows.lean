/-
  NARROWER THAN 'FOR EVERY INPUT', by the rows' own cells (each row's printed sentence says how): FnDate: laid · FnPeriod: laid · FnMonths: laid · FnExactMonthDays: laid · FnExactDateOk: laid · FnExactDateOf: laid · FnExactTimeOf: laid · FnExactPeriodOf: laid · FnExactPeriodStart: laid.
  DERIVED. THE GIVEN ROWS OF THIS SEAT. 9 by the template 'for every input the law returns true; each argument reads behind the call as it read before'; 0 by the template 'total and deterministic' (their statements: YthcofpkppienaaaDoorTotals.lean).
  GIVEN WITH THE SEED: the statements are not yours to turn. If you find one false, say at which input.
  Laid BY PROGRAM, IN A SANDBOX (cutbox-rows.mjs): the forced cells as the released guide's own fill.sh prints them over the translation b3d3733e45591538… (all of the seat's roots in one cut). By AI agents, Wed Nov 11 2026. No macro, syntax, notation, axiom, sorry.
-/
import Derived.Test.YthcofpkppienaaaDoorChecked
import GoSem.Claim
import GoSem.ClaimJoined
import GoSem.ClaimMapViews
import Derived.JoinedTies
import Derived.KernelRfl
namespace Go.Proofs.YthcofpkppienaaaDoor
/- THE CELL 'sum', in the pinned program and in every row, IS THE sha256 OF THE DUMP (.gsa) THAT YthcofpkppienaaaDoorProg.lean LOADS. Nothing in Lean hashes anything: it is a label: what it is worth is what the hold of that sum in a sandbox is worth. -/
noncomputable def Tryd.pinned : Pinned := { name := "ythcofpkppienaaadoor", sum := "b3d3733e45591538815e5cb45ca4fdee3c27aa03588b3140a798e90b536f6639", checked := Tryd.checked }
namespace Rows
def none {H : Type} : Left H := { results := [], args := [] }

/- WHAT THE LISTED PACKAGE-LEVEL VARIABLES READ AS WHEN THE CALL BEGINS. Each datum BY PROGRAM (the guide's laid-datum.mjs) off the statement by which the dump's own 'gosem.cut.vars' lays the variable. In a bare row this is a premise. The card (YthcofpkppienaaaDoorCards.lean) ties it to the program's text. -/
def laid_loop_example_g00704_impl_monthLengths {H : Type} : DataW H := .agg [.lit (.int .i64 31), .lit (.int .i64 28), .lit (.int .i64 31), .lit (.int .i64 30), .lit (.int .i64 31), .lit (.int .i64 30), .lit (.int .i64 31), .lit (.int .i64 31), .lit (.int .i64 30), .lit (.int .i64 31), .lit (.int .i64 30), .lit (.int .i64 31)]

/-- 'laws.FnDate': WHATEVER THE INPUT: true; the input reads as it did. -/
def fnDateSpec : ChangeSpec := { name := "fnDate", vars := ["loop.example/g00704/impl.monthLengths"], fn := fun _ => fun
  | [d, g1] => { results := [.lit (.bool true)], args := [d], vars := [g1] }
  | _ => none }
def fnDateRow : OpenClaim := { program := "ythcofpkppienaaadoor", sum := "b3d3733e45591538815e5cb45ca4fdee3c27aa03588b3140a798e90b536f6639", func := "loop.example/g00704/laws.FnDate", spec := "fnDate", named := ["loop.example/g00704/impl.monthLengths"], apart := false, laid := [("loop.example/g00704/impl.monthLengths", laid_loop_example_g00704_impl_monthLengths)] }
def FnDateSaid : Prop := fnDateRow.holds Tryd.pinned (OpenSpec.ofChange fnDateSpec)

/-- ITS FALSE NEIGHBOUR: 'it returns false'. Refute it at one input. -/
def fnDateWrong : ChangeSpec := { name := "fnDate", vars := ["loop.example/g00704/impl.monthLengths"], fn := fun _ => fun
  | [d, g1] => { results := [.lit (.bool false)], args := [d], vars := [g1] }
  | _ => none }
def FnDateWrongFalsely : Prop := fnDateRow.holds Tryd.pinned (OpenSpec.ofChange fnDateWrong)

/-- 'laws.FnPeriod': WHATEVER THE INPUT: true; the input reads as it did. -/
def fnPeriodSpec : ChangeSpec := { name := "fnPeriod", vars := ["loop.example/g00704/impl.monthLengths"], fn := fun _ => fun
  | [d, g1] => { results := [.lit (.bool true)], args := [d], vars := [g1] }
  | _ => none }
def fnPeriodRow : OpenClaim := { program := "ythcofpkppienaaadoor", sum := "b3d3733e45591538815e5cb45ca4fdee3c27aa03588b3140a798e90b536f6639", func := "loop.example/g00704/laws.FnPeriod", spec := "fnPeriod", named := ["loop.example/g00704/impl.monthLengths"], apart := false, laid := [("loop.example/g00704/impl.monthLengths", laid_loop_example_g00704_impl_monthLengths)] }
def FnPeriodSaid : Prop := fnPeriodRow.holds Tryd.pinned (OpenSpec.ofChange fnPeriodSpec)

/-- ITS FALSE NEIGHBOUR: 'it returns false'. Refute it at one input. -/
def fnPeriodWrong : ChangeSpec := { name := "fnPeriod", vars := ["loop.example/g00704/impl.monthLengths"], fn := fun _ => fun
  | [d, g1] => { results := [.lit (.bool false)], args := [d], vars := [g1] }
  | _ => none }
def FnPeriodWrongFalsely : Prop := fnPeriodRow.holds Tryd.pinned (OpenSpec.ofChange fnPeriodWrong)

/-- 'laws.FnMonths': WHATEVER THE INPUT: true; the input reads as it did. -/
def fnMonthsSpec : ChangeSpec := { name := "fnMonths", vars := ["loop.example/g00704/impl.monthLengths"], fn := fun _ => fun
  | [d, g1] => { results := [.lit (.bool true)], args := [d], vars := [g1] }
  | _ => none }
def fnMonthsRow : OpenClaim := { program := "ythcofpkppienaaadoor", sum := "b3d3733e45591538815e5cb45ca4fdee3c27aa03588b3140a798e90b536f6639", func := "loop.example/g00704/laws.FnMonths", spec := "fnMonths", named := ["loop.example/g00704/impl.monthLengths"], apart := false, laid := [("loop.example/g00704/impl.monthLengths", laid_loop_example_g00704_impl_monthLengths)] }
def FnMonthsSaid : Prop := fnMonthsRow.holds Tryd.pinned (OpenSpec.ofChange fnMonthsSpec)

/-- ITS FALSE NEIGHBOUR: 'it returns false'. Refute it at one input. -/
def fnMonthsWrong : ChangeSpec := { name := "fnMonths", vars := ["loop.example/g00704/impl.monthLengths"], fn := fun _ => fun
  | [d, g1] => { results := [.lit (.bool false)], args := [d], vars := [g1] }
  | _ => none }
def FnMonthsWrongFalsely : Prop := fnMonthsRow.holds Tryd.pinned (OpenSpec.ofChange fnMonthsWrong)

/-- 'laws.FnExactMonthDays': WHATEVER THE INPUT: true; the input reads as it did. -/
def fnExactMonthDaysSpec : ChangeSpec := { name := "fnExactMonthDays", vars := ["loop.example/g00704/impl.monthLengths"], fn := fun _ => fun
  | [d1, d2, g1] => { results := [.lit (.bool true)], args := [d1, d2], vars := [g1] }
  | _ => none }
def fnExactMonthDaysRow : OpenClaim := { program := "ythcofpkppienaaadoor", sum := "b3d3733e45591538815e5cb45ca4fdee3c27aa03588b3140a798e90b536f6639", func := "loop.example/g00704/laws.FnExactMonthDays", spec := "fnExactMonthDays", named := ["loop.example/g00704/impl.monthLengths"], apart := false, laid := [("loop.example/g00704/impl.monthLengths", laid_loop_example_g00704_impl_monthLengths)] }
def FnExactMonthDaysSaid : Prop := fnExactMonthDaysRow.holds Tryd.pinned (OpenSpec.ofChange fnExactMonthDaysSpec)

/-- ITS FALSE NEIGHBOUR: 'it returns false'. Refute it at one input. -/
def fnExactMonthDaysWrong : ChangeSpec := { name := "fnExactMonthDays", vars := ["loop.example/g00704/impl.monthLengths"], fn := fun _ => fun
  | [d1, d2, g1] => { results := [.lit (.bool false)], args := [d1, d2], vars := [g1] }
  | _ => none }
def FnExactMonthDaysWrongFalsely : Prop := fnExactMonthDaysRow.holds Tryd.pinned (OpenSpec.ofChange fnExactMonthDaysWrong)

/-- 'laws.FnExactDateOk': WHATEVER THE INPUT: true; the input reads as it did. -/
def fnExactDateOkSpec : ChangeSpec := { name := "fnExactDateOk", vars := ["loop.example/g00704/impl.monthLengths"], fn := fun _ => fun
  | [d, g1] => { results := [.lit (.bool true)], args := [d], vars := [g1] }
  | _ => none }
def fnExactDateOkRow : OpenClaim := { program := "ythcofpkppienaaadoor", sum := "b3d3733e45591538815e5cb45ca4fdee3c27aa03588b3140a798e90b536f6639", func := "loop.example/g00704/laws.FnExactDateOk", spec := "fnExactDateOk", named := ["loop.example/g00704/impl.monthLengths"], apart := false, laid := [("loop.example/g00704/impl.monthLengths", laid_loop_example_g00704_impl_monthLengths)] }
def FnExactDateOkSaid : Prop := fnExactDateOkRow.holds Tryd.pinned (OpenSpec.ofChange fnExactDateOkSpec)

/-- ITS FALSE NEIGHBOUR: 'it returns false'. Refute it at one input. -/
def fnExactDateOkWrong : ChangeSpec := { name := "fnExactDateOk", vars := ["loop.example/g00704/impl.monthLengths"], fn := fun _ => fun
  | [d, g1] => { results := [.lit (.bool false)], args := [d], vars := [g1] }
  | _ => none }
def FnExactDateOkWrongFalsely : Prop := fnExactDateOkRow.holds Tryd.pinned (OpenSpec.ofChange fnExactDateOkWrong)

/-- 'laws.FnExactDateOf': WHATEVER THE INPUT: true; the input reads as it did. -/
def fnExactDateOfSpec : ChangeSpec := { name := "fnExactDateOf", vars := ["loop.example/g00704/impl.monthLengths"], fn := fun _ => fun
  | [d, g1] => { results := [.lit (.bool true)], args := [d], vars := [g1] }
  | _ => none }
def fnExactDateOfRow : OpenClaim := { program := "ythcofpkppienaaadoor", sum := "b3d3733e45591538815e5cb45ca4fdee3c27aa03588b3140a798e90b536f6639", func := "loop.example/g00704/laws.FnExactDateOf", spec := "fnExactDateOf", named := ["loop.example/g00704/impl.monthLengths"], apart := false, laid := [("loop.example/g00704/impl.monthLengths", laid_loop_example_g00704_impl_monthLengths)] }
def FnExactDateOfSaid : Prop := fnExactDateOfRow.holds Tryd.pinned (OpenSpec.ofChange fnExactDateOfSpec)

/-- ITS FALSE NEIGHBOUR: 'it returns false'. Refute it at one input. -/
def fnExactDateOfWrong : ChangeSpec := { name := "fnExactDateOf", vars := ["loop.example/g00704/impl.monthLengths"], fn := fun _ => fun
  | [d, g1] => { results := [.lit (.bool false)], args := [d], vars := [g1] }
  | _ => none }
def FnExactDateOfWrongFalsely : Prop := fnExactDateOfRow.holds Tryd.pinned (OpenSpec.ofChange fnExactDateOfWrong)

/-- 'laws.FnExactTimeOf': WHATEVER THE INPUT: true; the input reads as it did. -/
def fnExactTimeOfSpec : ChangeSpec := { name := "fnExactTimeOf", vars := ["loop.example/g00704/impl.monthLengths"], fn := fun _ => fun
  | [d, g1] => { results := [.lit (.bool true)], args := [d], vars := [g1] }
  | _ => none }
def fnExactTimeOfRow : OpenClaim := { program := "ythcofpkppienaaadoor", sum := "b3d3733e45591538815e5cb45ca4fdee3c27aa03588b3140a798e90b536f6639", func := "loop.example/g00704/laws.FnExactTimeOf", spec := "fnExactTimeOf", named := ["loop.example/g00704/impl.monthLengths"], apart := false, laid := [("loop.example/g00704/impl.monthLengths", laid_loop_example_g00704_impl_monthLengths)] }
def FnExactTimeOfSaid : Prop := fnExactTimeOfRow.holds Tryd.pinned (OpenSpec.ofChange fnExactTimeOfSpec)

/-- ITS FALSE NEIGHBOUR: 'it returns false'. Refute it at one input. -/
def fnExactTimeOfWrong : ChangeSpec := { name := "fnExactTimeOf", vars := ["loop.example/g00704/impl.monthLengths"], fn := fun _ => fun
  | [d, g1] => { results := [.lit (.bool false)], args := [d], vars := [g1] }
  | _ => none }
def FnExactTimeOfWrongFalsely : Prop := fnExactTimeOfRow.holds Tryd.pinned (OpenSpec.ofChange fnExactTimeOfWrong)

/-- 'laws.FnExactPeriodOf': WHATEVER THE INPUT: true; the input reads as it did. -/
def fnExactPeriodOfSpec : ChangeSpec := { name := "fnExactPeriodOf", vars := ["loop.example/g00704/impl.monthLengths"], fn := fun _ => fun
  | [d1, d2, g1] => { results := [.lit (.bool true)], args := [d1, d2], vars := [g1] }
  | _ => none }
def fnExactPeriodOfRow : OpenClaim := { program := "ythcofpkppienaaadoor", sum := "b3d3733e45591538815e5cb45ca4fdee3c27aa03588b3140a798e90b536f6639", func := "loop.example/g00704/laws.FnExactPeriodOf", spec := "fnExactPeriodOf", named := ["loop.example/g00704/impl.monthLengths"], apart := false, laid := [("loop.example/g00704/impl.monthLengths", laid_loop_example_g00704_impl_monthLengths)] }
def FnExactPeriodOfSaid : Prop := fnExactPeriodOfRow.holds Tryd.pinned (OpenSpec.ofChange fnExactPeriodOfSpec)

/-- ITS FALSE NEIGHBOUR: 'it returns false'. Refute it at one input. -/
def fnExactPeriodOfWrong : ChangeSpec := { name := "fnExactPeriodOf", vars := ["loop.example/g00704/impl.monthLengths"], fn := fun _ => fun
  | [d1, d2, g1] => { results := [.lit (.bool false)], args := [d1, d2], vars := [g1] }
  | _ => none }
def FnExactPeriodOfWrongFalsely : Prop := fnExactPeriodOfRow.holds Tryd.pinned (OpenSpec.ofChange fnExactPeriodOfWrong)

/-- 'laws.FnExactPeriodStart': WHATEVER THE INPUT: true; the input reads as it did. -/
def fnExactPeriodStartSpec : ChangeSpec := { name := "fnExactPeriodStart", vars := ["loop.example/g00704/impl.monthLengths"], fn := fun _ => fun
  | [d1, d2, g1] => { results := [.lit (.bool true)], args := [d1, d2], vars := [g1] }
  | _ => none }
def fnExactPeriodStartRow : OpenClaim := { program := "ythcofpkppienaaadoor", sum := "b3d3733e45591538815e5cb45ca4fdee3c27aa03588b3140a798e90b536f6639", func := "loop.example/g00704/laws.FnExactPeriodStart", spec := "fnExactPeriodStart", named := ["loop.example/g00704/impl.monthLengths"], apart := false, laid := [("loop.example/g00704/impl.monthLengths", laid_loop_example_g00704_impl_monthLengths)] }
def FnExactPeriodStartSaid : Prop := fnExactPeriodStartRow.holds Tryd.pinned (OpenSpec.ofChange fnExactPeriodStartSpec)

/-- ITS FALSE NEIGHBOUR: 'it returns false'. Refute it at one input. -/
def fnExactPeriodStartWrong : ChangeSpec := { name := "fnExactPeriodStart", vars := ["loop.example/g00704/impl.monthLengths"], fn := fun _ => fun
  | [d1, d2, g1] => { results := [.lit (.bool false)], args := [d1, d2], vars := [g1] }
  | _ => none }
def FnExactPeriodStartWrongFalsely : Prop := fnExactPeriodStartRow.holds Tryd.pinned (OpenSpec.ofChange fnExactPeriodStartWrong)

/- THE SECOND FORM. 'bulk': how many values and letters a reading holds, each counted each time it is reached (what is shared counts as often as it is met; a slice's spare places count too). A statement '..UptoSaid' is the law's where the arguments, and the package variables that the reading takes, are together of bulk at most 1048576: NARROWER than '..Said'. Prove '..Said' where nothing that the law and all that it calls make is longer than what came in: it says more and counts as full. Else prove '..UptoSaid'. A law counts once. -/
mutual
def uptoBulk {H : Type} : DataW H → Nat
  | .lit (.string bytes) => bytes.length + 1
  | .lit _ => 1
  | .nil => 1
  | .ptr d => uptoBulk d + 1
  | .slice elems spare => uptoBulkAll elems + uptoBulkAll spare + 1
  | .agg parts => uptoBulkAll parts + 1
  | .iface _ d => uptoBulk d + 1
  | .map entries => uptoBulkEntries entries + 1
  | .held _ => 1
def uptoBulkAll {H : Type} : List (DataW H) → Nat
  | [] => 0
  | d :: r => uptoBulk d + uptoBulkAll r
def uptoBulkEntries {H : Type} : List (Lit × DataW H) → Nat
  | [] => 0
  | x :: r => uptoBulkEntry x + uptoBulkEntries r
def uptoBulkEntry {H : Type} : Lit × DataW H → Nat
  | (.string bytes, d) => bytes.length + uptoBulk d + 1
  | (_, d) => uptoBulk d + 1
 end
def uptoSmall : (H : Type) → List (DataW H) → Bool := fun _ ds => decide (uptoBulkAll ds ≤ 1048576)
def OpenSpec.upto (s : _root_.Go.ChangeSpec) : _root_.Go.OpenSpec := { _root_.Go.OpenSpec.ofChange s with cond := some uptoSmall }

/-- 'laws.FnDate', WHERE WHAT IT READS IS OF BULK AT MOST 1048576: true; the input reads as it did. -/
def fnDateUptoRow : OpenClaim := { program := "ythcofpkppienaaadoor", sum := "b3d3733e45591538815e5cb45ca4fdee3c27aa03588b3140a798e90b536f6639", func := "loop.example/g00704/laws.FnDate", spec := "fnDate", named := ["loop.example/g00704/impl.monthLengths"], apart := false, laid := [("loop.example/g00704/impl.monthLengths", laid_loop_example_g00704_impl_monthLengths)], narrowed := true }
def FnDateUptoSaid : Prop := fnDateUptoRow.holds Tryd.pinned (OpenSpec.upto fnDateSpec)

/-- 'laws.FnPeriod', WHERE WHAT IT READS IS OF BULK AT MOST 1048576: true; the input reads as it did. -/
def fnPeriodUptoRow : OpenClaim := { program := "ythcofpkppienaaadoor", sum := "b3d3733e45591538815e5cb45ca4fdee3c27aa03588b3140a798e90b536f6639", func := "loop.example/g00704/laws.FnPeriod", spec := "fnPeriod", named := ["loop.example/g00704/impl.monthLengths"], apart := false, laid := [("loop.example/g00704/impl.monthLengths", laid_loop_example_g00704_impl_monthLengths)], narrowed := true }
def FnPeriodUptoSaid : Prop := fnPeriodUptoRow.holds Tryd.pinned (OpenSpec.upto fnPeriodSpec)

/-- 'laws.FnMonths', WHERE WHAT IT READS IS OF BULK AT MOST 1048576: true; the input reads as it did. -/
def fnMonthsUptoRow : OpenClaim := { program := "ythcofpkppienaaadoor", sum := "b3d3733e45591538815e5cb45ca4fdee3c27aa03588b3140a798e90b536f6639", func := "loop.example/g00704/laws.FnMonths", spec := "fnMonths", named := ["loop.example/g00704/impl.monthLengths"], apart := false, laid := [("loop.example/g00704/impl.monthLengths", laid_loop_example_g00704_impl_monthLengths)], narrowed := true }
def FnMonthsUptoSaid : Prop := fnMonthsUptoRow.holds Tryd.pinned (OpenSpec.upto fnMonthsSpec)

/-- 'laws.FnExactMonthDays', WHERE WHAT IT READS IS OF BULK AT MOST 1048576: true; the input reads as it did. -/
def fnExactMonthDaysUptoRow : OpenClaim := { program := "ythcofpkppienaaadoor", sum := "b3d3733e45591538815e5cb45ca4fdee3c27aa03588b3140a798e90b536f6639", func := "loop.example/g00704/laws.FnExactMonthDays", spec := "fnExactMonthDays", named := ["loop.example/g00704/impl.monthLengths"], apart := false, laid := [("loop.example/g00704/impl.monthLengths", laid_loop_example_g00704_impl_monthLengths)], narrowed := true }
def FnExactMonthDaysUptoSaid : Prop := fnExactMonthDaysUptoRow.holds Tryd.pinned (OpenSpec.upto fnExactMonthDaysSpec)

/-- 'laws.FnExactDateOk', WHERE WHAT IT READS IS OF BULK AT MOST 1048576: true; the input reads as it did. -/
def fnExactDateOkUptoRow : OpenClaim := { program := "ythcofpkppienaaadoor", sum := "b3d3733e45591538815e5cb45ca4fdee3c27aa03588b3140a798e90b536f6639", func := "loop.example/g00704/laws.FnExactDateOk", spec := "fnExactDateOk", named := ["loop.example/g00704/impl.monthLengths"], apart := false, laid := [("loop.example/g00704/impl.monthLengths", laid_loop_example_g00704_impl_monthLengths)], narrowed := true }
def FnExactDateOkUptoSaid : Prop := fnExactDateOkUptoRow.holds Tryd.pinned (OpenSpec.upto fnExactDateOkSpec)

/-- 'laws.FnExactDateOf', WHERE WHAT IT READS IS OF BULK AT MOST 1048576: true; the input reads as it did. -/
def fnExactDateOfUptoRow : OpenClaim := { program := "ythcofpkppienaaadoor", sum := "b3d3733e45591538815e5cb45ca4fdee3c27aa03588b3140a798e90b536f6639", func := "loop.example/g00704/laws.FnExactDateOf", spec := "fnExactDateOf", named := ["loop.example/g00704/impl.monthLengths"], apart := false, laid := [("loop.example/g00704/impl.monthLengths", laid_loop_example_g00704_impl_monthLengths)], narrowed := true }
def FnExactDateOfUptoSaid : Prop := fnExactDateOfUptoRow.holds Tryd.pinned (OpenSpec.upto fnExactDateOfSpec)

/-- 'laws.FnExactTimeOf', WHERE WHAT IT READS IS OF BULK AT MOST 1048576: true; the input reads as it did. -/
def fnExactTimeOfUptoRow : OpenClaim := { program := "ythcofpkppienaaadoor", sum := "b3d3733e45591538815e5cb45ca4fdee3c27aa03588b3140a798e90b536f6639", func := "loop.example/g00704/laws.FnExactTimeOf", spec := "fnExactTimeOf", named := ["loop.example/g00704/impl.monthLengths"], apart := false, laid := [("loop.example/g00704/impl.monthLengths", laid_loop_example_g00704_impl_monthLengths)], narrowed := true }
def FnExactTimeOfUptoSaid : Prop := fnExactTimeOfUptoRow.holds Tryd.pinned (OpenSpec.upto fnExactTimeOfSpec)

/-- 'laws.FnExactPeriodOf', WHERE WHAT IT READS IS OF BULK AT MOST 1048576: true; the input reads as it did. -/
def fnExactPeriodOfUptoRow : OpenClaim := { program := "ythcofpkppienaaadoor", sum := "b3d3733e45591538815e5cb45ca4fdee3c27aa03588b3140a798e90b536f6639", func := "loop.example/g00704/laws.FnExactPeriodOf", spec := "fnExactPeriodOf", named := ["loop.example/g00704/impl.monthLengths"], apart := false, laid := [("loop.example/g00704/impl.monthLengths", laid_loop_example_g00704_impl_monthLengths)], narrowed := true }
def FnExactPeriodOfUptoSaid : Prop := fnExactPeriodOfUptoRow.holds Tryd.pinned (OpenSpec.upto fnExactPeriodOfSpec)

/-- 'laws.FnExactPeriodStart', WHERE WHAT IT READS IS OF BULK AT MOST 1048576: true; the input reads as it did. -/
def fnExactPeriodStartUptoRow : OpenClaim := { program := "ythcofpkppienaaadoor", sum := "b3d3733e45591538815e5cb45ca4fdee3c27aa03588b3140a798e90b536f6639", func := "loop.example/g00704/laws.FnExactPeriodStart", spec := "fnExactPeriodStart", named := ["loop.example/g00704/impl.monthLengths"], apart := false, laid := [("loop.example/g00704/impl.monthLengths", laid_loop_example_g00704_impl_monthLengths)], narrowed := true }
def FnExactPeriodStartUptoSaid : Prop := fnExactPeriodStartUptoRow.holds Tryd.pinned (OpenSpec.upto fnExactPeriodStartSpec)

end Rows
end Go.Proofs.YthcofpkppienaaaDoor
