/-
  NARROWER THAN 'FOR EVERY INPUT', by the rows' own cells (each row's printed sentence says how): VmRuns: laid · VmChecks: laid · VmLater: laid · VmSums: laid · VmEnds: laid · VmStays: laid · VmTells: laid · VmSendsOne: laid.
  DERIVED. THE GIVEN ROWS OF THIS SEAT. 8 by the template 'for every input the law returns true; each argument reads behind the call as it read before'; 0 by the template 'total and deterministic' (their statements: YtghbdpjegmdhbaaDoorTotals.lean).
  GIVEN WITH THE SEED: the statements are not yours to turn. If you find one false, say at which input.
  Laid BY PROGRAM, IN A SANDBOX (cutbox-rows.mjs): the forced cells as the released guide's own fill.sh prints them over the translation 29da5fe086f4cc23… (all of the seat's roots in one cut). By AI agents, Wed Nov 11 2026. No macro, syntax, notation, axiom, sorry.
-/
import Derived.Test.YtghbdpjegmdhbaaDoorChecked
import GoSem.Claim
import GoSem.ClaimJoined
import GoSem.ClaimMapViews
import Derived.JoinedTies
import Derived.KernelRfl
namespace Go.Proofs.YtghbdpjegmdhbaaDoor
/- THE CELL 'sum', in the pinned program and in every row, IS THE sha256 OF THE DUMP (.gsa) THAT YtghbdpjegmdhbaaDoorProg.lean LOADS. Nothing in Lean hashes anything: it is a label: what it is worth is what the hold of that sum in a sandbox is worth. -/
noncomputable def Tryd.pinned : Pinned := { name := "ytghbdpjegmdhbaadoor", sum := "29da5fe086f4cc23a158ccad8910da63f64dc0369c57e0885d5ad1d688f30dcc", checked := Tryd.checked }
namespace Rows
def none {H : Type} : Left H := { results := [], args := [] }

/- WHAT THE LISTED PACKAGE-LEVEL VARIABLES READ AS WHEN THE CALL BEGINS. Each datum BY PROGRAM (the guide's laid-datum.mjs) off the statement by which the dump's own 'gosem.cut.vars' lays the variable. In a bare row this is a premise. The card (YtghbdpjegmdhbaaDoorCards.lean) ties it to the program's text. -/
def laid_errors_errorType {H : Type} : DataW H := .iface "internal/reflectlite.rtype" (.agg [.ptr (.lit (.string [101, 114, 114, 111, 114]))])
def laid_isochron_code_errCannotBe {H : Type} : DataW H := .iface "*errors.errorString" (.ptr (.agg [.lit (.string [97, 110, 32, 105, 110, 115, 116, 114, 117, 99, 116, 105, 111, 110, 32, 116, 104, 97, 116, 32, 99, 97, 110, 39, 116, 32, 98, 101])]))

/-- 'isochronlaw05.VmRuns': WHATEVER THE INPUT: true; the input reads as it did. -/
def vmRunsSpec : ChangeSpec := { name := "vmRuns", fn := fun _ => fun
  | [d1, d2, d3] => { results := [.lit (.bool true)], args := [d1, d2, d3] }
  | _ => none }
def vmRunsRow : OpenClaim := { program := "ytghbdpjegmdhbaadoor", sum := "29da5fe086f4cc23a158ccad8910da63f64dc0369c57e0885d5ad1d688f30dcc", func := "isochron/isochronlaw05.VmRuns", spec := "vmRuns", inPlace := ["internal/reflectlite.TypeOf", "internal/reflectlite.ValueOf", "(internal/reflectlite.Value).Type", "(internal/reflectlite.Value).IsNil", "(internal/reflectlite.Value).Elem", "(internal/reflectlite.Value).Set"], unfollowed := true, recurses := true, named := ["isochron/code.errCannotBe", "errors.errorType"], apart := false, laid := [("errors.errorType", laid_errors_errorType), ("isochron/code.errCannotBe", laid_isochron_code_errCannotBe)] }
def VmRunsSaid : Prop := vmRunsRow.holds Tryd.pinned (OpenSpec.ofChange vmRunsSpec)

/-- ITS FALSE NEIGHBOUR: 'it returns false'. Refute it at one input. -/
def vmRunsWrong : ChangeSpec := { name := "vmRuns", fn := fun _ => fun
  | [d1, d2, d3] => { results := [.lit (.bool false)], args := [d1, d2, d3] }
  | _ => none }
def VmRunsWrongFalsely : Prop := vmRunsRow.holds Tryd.pinned (OpenSpec.ofChange vmRunsWrong)

/-- 'isochronlaw05.VmChecks': WHATEVER THE INPUT: true; the input reads as it did. -/
def vmChecksSpec : ChangeSpec := { name := "vmChecks", fn := fun _ => fun
  | [d] => { results := [.lit (.bool true)], args := [d] }
  | _ => none }
def vmChecksRow : OpenClaim := { program := "ytghbdpjegmdhbaadoor", sum := "29da5fe086f4cc23a158ccad8910da63f64dc0369c57e0885d5ad1d688f30dcc", func := "isochron/isochronlaw05.VmChecks", spec := "vmChecks", inPlace := ["internal/reflectlite.TypeOf", "internal/reflectlite.ValueOf", "(internal/reflectlite.Value).Type", "(internal/reflectlite.Value).IsNil", "(internal/reflectlite.Value).Elem", "(internal/reflectlite.Value).Set"], unfollowed := true, recurses := true, named := ["isochron/code.errCannotBe", "errors.errorType"], apart := false, laid := [("errors.errorType", laid_errors_errorType), ("isochron/code.errCannotBe", laid_isochron_code_errCannotBe)] }
def VmChecksSaid : Prop := vmChecksRow.holds Tryd.pinned (OpenSpec.ofChange vmChecksSpec)

/-- ITS FALSE NEIGHBOUR: 'it returns false'. Refute it at one input. -/
def vmChecksWrong : ChangeSpec := { name := "vmChecks", fn := fun _ => fun
  | [d] => { results := [.lit (.bool false)], args := [d] }
  | _ => none }
def VmChecksWrongFalsely : Prop := vmChecksRow.holds Tryd.pinned (OpenSpec.ofChange vmChecksWrong)

/-- 'isochronlaw05.VmLater': WHATEVER THE INPUT: true; the input reads as it did. -/
def vmLaterSpec : ChangeSpec := { name := "vmLater", fn := fun _ => fun
  | [d1, d2, d3] => { results := [.lit (.bool true)], args := [d1, d2, d3] }
  | _ => none }
def vmLaterRow : OpenClaim := { program := "ytghbdpjegmdhbaadoor", sum := "29da5fe086f4cc23a158ccad8910da63f64dc0369c57e0885d5ad1d688f30dcc", func := "isochron/isochronlaw05.VmLater", spec := "vmLater", inPlace := ["internal/reflectlite.TypeOf", "internal/reflectlite.ValueOf", "(internal/reflectlite.Value).Type", "(internal/reflectlite.Value).IsNil", "(internal/reflectlite.Value).Elem", "(internal/reflectlite.Value).Set"], unfollowed := true, recurses := true, named := ["isochron/code.errCannotBe", "errors.errorType"], apart := false, laid := [("errors.errorType", laid_errors_errorType), ("isochron/code.errCannotBe", laid_isochron_code_errCannotBe)] }
def VmLaterSaid : Prop := vmLaterRow.holds Tryd.pinned (OpenSpec.ofChange vmLaterSpec)

/-- ITS FALSE NEIGHBOUR: 'it returns false'. Refute it at one input. -/
def vmLaterWrong : ChangeSpec := { name := "vmLater", fn := fun _ => fun
  | [d1, d2, d3] => { results := [.lit (.bool false)], args := [d1, d2, d3] }
  | _ => none }
def VmLaterWrongFalsely : Prop := vmLaterRow.holds Tryd.pinned (OpenSpec.ofChange vmLaterWrong)

/-- 'isochronlaw05.VmSums': WHATEVER THE INPUT: true; the input reads as it did. -/
def vmSumsSpec : ChangeSpec := { name := "vmSums", fn := fun _ => fun
  | [d1, d2, d3] => { results := [.lit (.bool true)], args := [d1, d2, d3] }
  | _ => none }
def vmSumsRow : OpenClaim := { program := "ytghbdpjegmdhbaadoor", sum := "29da5fe086f4cc23a158ccad8910da63f64dc0369c57e0885d5ad1d688f30dcc", func := "isochron/isochronlaw05.VmSums", spec := "vmSums", inPlace := ["internal/reflectlite.TypeOf", "internal/reflectlite.ValueOf", "(internal/reflectlite.Value).Type", "(internal/reflectlite.Value).IsNil", "(internal/reflectlite.Value).Elem", "(internal/reflectlite.Value).Set"], unfollowed := true, recurses := true, named := ["isochron/code.errCannotBe", "errors.errorType"], apart := false, laid := [("errors.errorType", laid_errors_errorType), ("isochron/code.errCannotBe", laid_isochron_code_errCannotBe)] }
def VmSumsSaid : Prop := vmSumsRow.holds Tryd.pinned (OpenSpec.ofChange vmSumsSpec)

/-- ITS FALSE NEIGHBOUR: 'it returns false'. Refute it at one input. -/
def vmSumsWrong : ChangeSpec := { name := "vmSums", fn := fun _ => fun
  | [d1, d2, d3] => { results := [.lit (.bool false)], args := [d1, d2, d3] }
  | _ => none }
def VmSumsWrongFalsely : Prop := vmSumsRow.holds Tryd.pinned (OpenSpec.ofChange vmSumsWrong)

/-- 'isochronlaw05.VmEnds': WHATEVER THE INPUT: true; the input reads as it did. -/
def vmEndsSpec : ChangeSpec := { name := "vmEnds", fn := fun _ => fun
  | [d] => { results := [.lit (.bool true)], args := [d] }
  | _ => none }
def vmEndsRow : OpenClaim := { program := "ytghbdpjegmdhbaadoor", sum := "29da5fe086f4cc23a158ccad8910da63f64dc0369c57e0885d5ad1d688f30dcc", func := "isochron/isochronlaw05.VmEnds", spec := "vmEnds", inPlace := ["internal/reflectlite.TypeOf", "internal/reflectlite.ValueOf", "(internal/reflectlite.Value).Type", "(internal/reflectlite.Value).IsNil", "(internal/reflectlite.Value).Elem", "(internal/reflectlite.Value).Set"], unfollowed := true, recurses := true, named := ["isochron/code.errCannotBe", "errors.errorType"], apart := false, laid := [("errors.errorType", laid_errors_errorType), ("isochron/code.errCannotBe", laid_isochron_code_errCannotBe)] }
def VmEndsSaid : Prop := vmEndsRow.holds Tryd.pinned (OpenSpec.ofChange vmEndsSpec)

/-- ITS FALSE NEIGHBOUR: 'it returns false'. Refute it at one input. -/
def vmEndsWrong : ChangeSpec := { name := "vmEnds", fn := fun _ => fun
  | [d] => { results := [.lit (.bool false)], args := [d] }
  | _ => none }
def VmEndsWrongFalsely : Prop := vmEndsRow.holds Tryd.pinned (OpenSpec.ofChange vmEndsWrong)

/-- 'isochronlaw05.VmStays': WHATEVER THE INPUT: true; the input reads as it did. -/
def vmStaysSpec : ChangeSpec := { name := "vmStays", fn := fun _ => fun
  | [d1, d2, d3, d4] => { results := [.lit (.bool true)], args := [d1, d2, d3, d4] }
  | _ => none }
def vmStaysRow : OpenClaim := { program := "ytghbdpjegmdhbaadoor", sum := "29da5fe086f4cc23a158ccad8910da63f64dc0369c57e0885d5ad1d688f30dcc", func := "isochron/isochronlaw05.VmStays", spec := "vmStays", inPlace := ["internal/reflectlite.TypeOf", "internal/reflectlite.ValueOf", "(internal/reflectlite.Value).Type", "(internal/reflectlite.Value).IsNil", "(internal/reflectlite.Value).Elem", "(internal/reflectlite.Value).Set"], unfollowed := true, recurses := true, named := ["isochron/code.errCannotBe", "errors.errorType"], apart := false, laid := [("errors.errorType", laid_errors_errorType), ("isochron/code.errCannotBe", laid_isochron_code_errCannotBe)] }
def VmStaysSaid : Prop := vmStaysRow.holds Tryd.pinned (OpenSpec.ofChange vmStaysSpec)

/-- ITS FALSE NEIGHBOUR: 'it returns false'. Refute it at one input. -/
def vmStaysWrong : ChangeSpec := { name := "vmStays", fn := fun _ => fun
  | [d1, d2, d3, d4] => { results := [.lit (.bool false)], args := [d1, d2, d3, d4] }
  | _ => none }
def VmStaysWrongFalsely : Prop := vmStaysRow.holds Tryd.pinned (OpenSpec.ofChange vmStaysWrong)

/-- 'isochronlaw05.VmTells': WHATEVER THE INPUT: true; the input reads as it did. -/
def vmTellsSpec : ChangeSpec := { name := "vmTells", fn := fun _ => fun
  | [d1, d2] => { results := [.lit (.bool true)], args := [d1, d2] }
  | _ => none }
def vmTellsRow : OpenClaim := { program := "ytghbdpjegmdhbaadoor", sum := "29da5fe086f4cc23a158ccad8910da63f64dc0369c57e0885d5ad1d688f30dcc", func := "isochron/isochronlaw05.VmTells", spec := "vmTells", inPlace := ["internal/reflectlite.TypeOf", "internal/reflectlite.ValueOf", "(internal/reflectlite.Value).Type", "(internal/reflectlite.Value).IsNil", "(internal/reflectlite.Value).Elem", "(internal/reflectlite.Value).Set"], unfollowed := true, recurses := true, named := ["isochron/code.errCannotBe", "errors.errorType"], apart := false, laid := [("errors.errorType", laid_errors_errorType), ("isochron/code.errCannotBe", laid_isochron_code_errCannotBe)] }
def VmTellsSaid : Prop := vmTellsRow.holds Tryd.pinned (OpenSpec.ofChange vmTellsSpec)

/-- ITS FALSE NEIGHBOUR: 'it returns false'. Refute it at one input. -/
def vmTellsWrong : ChangeSpec := { name := "vmTells", fn := fun _ => fun
  | [d1, d2] => { results := [.lit (.bool false)], args := [d1, d2] }
  | _ => none }
def VmTellsWrongFalsely : Prop := vmTellsRow.holds Tryd.pinned (OpenSpec.ofChange vmTellsWrong)

/-- 'isochronlaw05.VmSendsOne': WHATEVER THE INPUT: true; the input reads as it did. -/
def vmSendsOneSpec : ChangeSpec := { name := "vmSendsOne", fn := fun _ => fun
  | [d1, d2, d3, d4, d5] => { results := [.lit (.bool true)], args := [d1, d2, d3, d4, d5] }
  | _ => none }
def vmSendsOneRow : OpenClaim := { program := "ytghbdpjegmdhbaadoor", sum := "29da5fe086f4cc23a158ccad8910da63f64dc0369c57e0885d5ad1d688f30dcc", func := "isochron/isochronlaw05.VmSendsOne", spec := "vmSendsOne", inPlace := ["internal/reflectlite.TypeOf", "internal/reflectlite.ValueOf", "(internal/reflectlite.Value).Type", "(internal/reflectlite.Value).IsNil", "(internal/reflectlite.Value).Elem", "(internal/reflectlite.Value).Set"], unfollowed := true, recurses := true, named := ["isochron/code.errCannotBe", "errors.errorType"], apart := false, laid := [("errors.errorType", laid_errors_errorType), ("isochron/code.errCannotBe", laid_isochron_code_errCannotBe)] }
def VmSendsOneSaid : Prop := vmSendsOneRow.holds Tryd.pinned (OpenSpec.ofChange vmSendsOneSpec)

/-- ITS FALSE NEIGHBOUR: 'it returns false'. Refute it at one input. -/
def vmSendsOneWrong : ChangeSpec := { name := "vmSendsOne", fn := fun _ => fun
  | [d1, d2, d3, d4, d5] => { results := [.lit (.bool false)], args := [d1, d2, d3, d4, d5] }
  | _ => none }
def VmSendsOneWrongFalsely : Prop := vmSendsOneRow.holds Tryd.pinned (OpenSpec.ofChange vmSendsOneWrong)

/- THE SECOND FORM. 'bulk': how many values and letters a reading holds, each counted each time it is reached (what is shared counts as often as it is met; a slice's spare places count too). A statement '..UptoSaid' is the law's where the arguments, and the package variables that the reading takes, are together of bulk at most 1048576: NARROWER than '..Said'. Prove '..Said' where nothing that the law and all that it calls make is longer than what came in: it says more and counts as full. Else prove '..UptoSaid'. A law counts once. -/
mutual
def uptoBulk {H : Type} : DataW H → Nat
  | .lit (.string bytes) => bytes.length + 1
  | .lit _ => 1
  | .nil => 1
  | .ptr d => uptoBulk d + 1
  | .slice elems spare => uptoBulkAll elems + uptoBulkAll spare + 1
  | .agg parts => uptoBulkAll parts + 1
  | .iface _ d => uptoBulk d + 1
  | .map entries => uptoBulkEntries entries + 1
  | .held _ => 1
def uptoBulkAll {H : Type} : List (DataW H) → Nat
  | [] => 0
  | d :: r => uptoBulk d + uptoBulkAll r
def uptoBulkEntries {H : Type} : List (Lit × DataW H) → Nat
  | [] => 0
  | x :: r => uptoBulkEntry x + uptoBulkEntries r
def uptoBulkEntry {H : Type} : Lit × DataW H → Nat
  | (.string bytes, d) => bytes.length + uptoBulk d + 1
  | (_, d) => uptoBulk d + 1
 end
def uptoSmall : (H : Type) → List (DataW H) → Bool := fun _ ds => decide (uptoBulkAll ds ≤ 1048576)
def OpenSpec.upto (s : _root_.Go.ChangeSpec) : _root_.Go.OpenSpec := { _root_.Go.OpenSpec.ofChange s with cond := some uptoSmall }

/-- 'isochronlaw05.VmRuns', WHERE WHAT IT READS IS OF BULK AT MOST 1048576: true; the input reads as it did. -/
def vmRunsUptoRow : OpenClaim := { program := "ytghbdpjegmdhbaadoor", sum := "29da5fe086f4cc23a158ccad8910da63f64dc0369c57e0885d5ad1d688f30dcc", func := "isochron/isochronlaw05.VmRuns", spec := "vmRuns", inPlace := ["internal/reflectlite.TypeOf", "internal/reflectlite.ValueOf", "(internal/reflectlite.Value).Type", "(internal/reflectlite.Value).IsNil", "(internal/reflectlite.Value).Elem", "(internal/reflectlite.Value).Set"], unfollowed := true, recurses := true, named := ["isochron/code.errCannotBe", "errors.errorType"], apart := false, laid := [("errors.errorType", laid_errors_errorType), ("isochron/code.errCannotBe", laid_isochron_code_errCannotBe)], narrowed := true }
def VmRunsUptoSaid : Prop := vmRunsUptoRow.holds Tryd.pinned (OpenSpec.upto vmRunsSpec)

/-- 'isochronlaw05.VmChecks', WHERE WHAT IT READS IS OF BULK AT MOST 1048576: true; the input reads as it did. -/
def vmChecksUptoRow : OpenClaim := { program := "ytghbdpjegmdhbaadoor", sum := "29da5fe086f4cc23a158ccad8910da63f64dc0369c57e0885d5ad1d688f30dcc", func := "isochron/isochronlaw05.VmChecks", spec := "vmChecks", inPlace := ["internal/reflectlite.TypeOf", "internal/reflectlite.ValueOf", "(internal/reflectlite.Value).Type", "(internal/reflectlite.Value).IsNil", "(internal/reflectlite.Value).Elem", "(internal/reflectlite.Value).Set"], unfollowed := true, recurses := true, named := ["isochron/code.errCannotBe", "errors.errorType"], apart := false, laid := [("errors.errorType", laid_errors_errorType), ("isochron/code.errCannotBe", laid_isochron_code_errCannotBe)], narrowed := true }
def VmChecksUptoSaid : Prop := vmChecksUptoRow.holds Tryd.pinned (OpenSpec.upto vmChecksSpec)

/-- 'isochronlaw05.VmLater', WHERE WHAT IT READS IS OF BULK AT MOST 1048576: true; the input reads as it did. -/
def vmLaterUptoRow : OpenClaim := { program := "ytghbdpjegmdhbaadoor", sum := "29da5fe086f4cc23a158ccad8910da63f64dc0369c57e0885d5ad1d688f30dcc", func := "isochron/isochronlaw05.VmLater", spec := "vmLater", inPlace := ["internal/reflectlite.TypeOf", "internal/reflectlite.ValueOf", "(internal/reflectlite.Value).Type", "(internal/reflectlite.Value).IsNil", "(internal/reflectlite.Value).Elem", "(internal/reflectlite.Value).Set"], unfollowed := true, recurses := true, named := ["isochron/code.errCannotBe", "errors.errorType"], apart := false, laid := [("errors.errorType", laid_errors_errorType), ("isochron/code.errCannotBe", laid_isochron_code_errCannotBe)], narrowed := true }
def VmLaterUptoSaid : Prop := vmLaterUptoRow.holds Tryd.pinned (OpenSpec.upto vmLaterSpec)

/-- 'isochronlaw05.VmSums', WHERE WHAT IT READS IS OF BULK AT MOST 1048576: true; the input reads as it did. -/
def vmSumsUptoRow : OpenClaim := { program := "ytghbdpjegmdhbaadoor", sum := "29da5fe086f4cc23a158ccad8910da63f64dc0369c57e0885d5ad1d688f30dcc", func := "isochron/isochronlaw05.VmSums", spec := "vmSums", inPlace := ["internal/reflectlite.TypeOf", "internal/reflectlite.ValueOf", "(internal/reflectlite.Value).Type", "(internal/reflectlite.Value).IsNil", "(internal/reflectlite.Value).Elem", "(internal/reflectlite.Value).Set"], unfollowed := true, recurses := true, named := ["isochron/code.errCannotBe", "errors.errorType"], apart := false, laid := [("errors.errorType", laid_errors_errorType), ("isochron/code.errCannotBe", laid_isochron_code_errCannotBe)], narrowed := true }
def VmSumsUptoSaid : Prop := vmSumsUptoRow.holds Tryd.pinned (OpenSpec.upto vmSumsSpec)

/-- 'isochronlaw05.VmEnds', WHERE WHAT IT READS IS OF BULK AT MOST 1048576: true; the input reads as it did. -/
def vmEndsUptoRow : OpenClaim := { program := "ytghbdpjegmdhbaadoor", sum := "29da5fe086f4cc23a158ccad8910da63f64dc0369c57e0885d5ad1d688f30dcc", func := "isochron/isochronlaw05.VmEnds", spec := "vmEnds", inPlace := ["internal/reflectlite.TypeOf", "internal/reflectlite.ValueOf", "(internal/reflectlite.Value).Type", "(internal/reflectlite.Value).IsNil", "(internal/reflectlite.Value).Elem", "(internal/reflectlite.Value).Set"], unfollowed := true, recurses := true, named := ["isochron/code.errCannotBe", "errors.errorType"], apart := false, laid := [("errors.errorType", laid_errors_errorType), ("isochron/code.errCannotBe", laid_isochron_code_errCannotBe)], narrowed := true }
def VmEndsUptoSaid : Prop := vmEndsUptoRow.holds Tryd.pinned (OpenSpec.upto vmEndsSpec)

/-- 'isochronlaw05.VmStays', WHERE WHAT IT READS IS OF BULK AT MOST 1048576: true; the input reads as it did. -/
def vmStaysUptoRow : OpenClaim := { program := "ytghbdpjegmdhbaadoor", sum := "29da5fe086f4cc23a158ccad8910da63f64dc0369c57e0885d5ad1d688f30dcc", func := "isochron/isochronlaw05.VmStays", spec := "vmStays", inPlace := ["internal/reflectlite.TypeOf", "internal/reflectlite.ValueOf", "(internal/reflectlite.Value).Type", "(internal/reflectlite.Value).IsNil", "(internal/reflectlite.Value).Elem", "(internal/reflectlite.Value).Set"], unfollowed := true, recurses := true, named := ["isochron/code.errCannotBe", "errors.errorType"], apart := false, laid := [("errors.errorType", laid_errors_errorType), ("isochron/code.errCannotBe", laid_isochron_code_errCannotBe)], narrowed := true }
def VmStaysUptoSaid : Prop := vmStaysUptoRow.holds Tryd.pinned (OpenSpec.upto vmStaysSpec)

/-- 'isochronlaw05.VmTells', WHERE WHAT IT READS IS OF BULK AT MOST 1048576: true; the input reads as it did. -/
def vmTellsUptoRow : OpenClaim := { program := "ytghbdpjegmdhbaadoor", sum := "29da5fe086f4cc23a158ccad8910da63f64dc0369c57e0885d5ad1d688f30dcc", func := "isochron/isochronlaw05.VmTells", spec := "vmTells", inPlace := ["internal/reflectlite.TypeOf", "internal/reflectlite.ValueOf", "(internal/reflectlite.Value).Type", "(internal/reflectlite.Value).IsNil", "(internal/reflectlite.Value).Elem", "(internal/reflectlite.Value).Set"], unfollowed := true, recurses := true, named := ["isochron/code.errCannotBe", "errors.errorType"], apart := false, laid := [("errors.errorType", laid_errors_errorType), ("isochron/code.errCannotBe", laid_isochron_code_errCannotBe)], narrowed := true }
def VmTellsUptoSaid : Prop := vmTellsUptoRow.holds Tryd.pinned (OpenSpec.upto vmTellsSpec)

/-- 'isochronlaw05.VmSendsOne', WHERE WHAT IT READS IS OF BULK AT MOST 1048576: true; the input reads as it did. -/
def vmSendsOneUptoRow : OpenClaim := { program := "ytghbdpjegmdhbaadoor", sum := "29da5fe086f4cc23a158ccad8910da63f64dc0369c57e0885d5ad1d688f30dcc", func := "isochron/isochronlaw05.VmSendsOne", spec := "vmSendsOne", inPlace := ["internal/reflectlite.TypeOf", "internal/reflectlite.ValueOf", "(internal/reflectlite.Value).Type", "(internal/reflectlite.Value).IsNil", "(internal/reflectlite.Value).Elem", "(internal/reflectlite.Value).Set"], unfollowed := true, recurses := true, named := ["isochron/code.errCannotBe", "errors.errorType"], apart := false, laid := [("errors.errorType", laid_errors_errorType), ("isochron/code.errCannotBe", laid_isochron_code_errCannotBe)], narrowed := true }
def VmSendsOneUptoSaid : Prop := vmSendsOneUptoRow.holds Tryd.pinned (OpenSpec.upto vmSendsOneSpec)

end Rows
end Go.Proofs.YtghbdpjegmdhbaaDoor
