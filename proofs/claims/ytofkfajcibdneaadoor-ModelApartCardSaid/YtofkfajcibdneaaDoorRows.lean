/-
  NARROWER THAN 'FOR EVERY INPUT', by the rows' own cells (each row's printed sentence says how): ModelChecks: laid · ModelWorlds: laid · ModelStarts: laid · ModelWhole: laid · ModelFaults: laid · ModelApart: laid.
  DERIVED. THE GIVEN ROWS OF THIS SEAT. 6 by the template 'for every input the law returns true; each argument reads behind the call as it read before'; 0 by the template 'total and deterministic' (their statements: YtofkfajcibdneaaDoorTotals.lean).
  GIVEN WITH THE SEED: the statements are not yours to turn. If you find one false, say at which input.
  Laid BY PROGRAM, IN A SANDBOX (cutbox-rows.mjs): the forced cells as the released guide's own fill.sh prints them over the translation 9b1bd6cec5632c7e… (all of the seat's roots in one cut). By AI agents, Wed Nov 11 2026. No macro, syntax, notation, axiom, sorry.
-/
import Derived.Test.YtofkfajcibdneaaDoorChecked
import GoSem.Claim
import GoSem.ClaimJoined
import GoSem.ClaimMapViews
import Derived.JoinedTies
import Derived.KernelRfl
namespace Go.Proofs.YtofkfajcibdneaaDoor
/- THE CELL 'sum', in the pinned program and in every row, IS THE sha256 OF THE DUMP (.gsa) THAT YtofkfajcibdneaaDoorProg.lean LOADS. Nothing in Lean hashes anything: it is a label: what it is worth is what the hold of that sum in a sandbox is worth. -/
noncomputable def Tryd.pinned : Pinned := { name := "ytofkfajcibdneaadoor", sum := "9b1bd6cec5632c7e3786c13e1cb6011c34642034e69c0e021671c5f5a9ee881c", checked := Tryd.checked }
namespace Rows
def none {H : Type} : Left H := { results := [], args := [] }

/- WHAT THE LISTED PACKAGE-LEVEL VARIABLES READ AS WHEN THE CALL BEGINS. Each datum BY PROGRAM (the guide's laid-datum.mjs) off the statement by which the dump's own 'gosem.cut.vars' lays the variable. In a bare row this is a premise. The card (YtofkfajcibdneaaDoorCards.lean) ties it to the program's text. -/
def laid_errors_errorType {H : Type} : DataW H := .iface "internal/reflectlite.rtype" (.agg [.ptr (.lit (.string [101, 114, 114, 111, 114]))])
def laid_isochron_code_errCannotBe {H : Type} : DataW H := .iface "*errors.errorString" (.ptr (.agg [.lit (.string [97, 110, 32, 105, 110, 115, 116, 114, 117, 99, 116, 105, 111, 110, 32, 116, 104, 97, 116, 32, 99, 97, 110, 39, 116, 32, 98, 101])]))
def laid_isochron_model_errCount {H : Type} : DataW H := .iface "*errors.errorString" (.ptr (.agg [.lit (.string [116, 111, 111, 32, 102, 101, 119, 32, 111, 114, 32, 116, 111, 111, 32, 109, 97, 110, 121])]))
def laid_isochron_model_errTime {H : Type} : DataW H := .iface "*errors.errorString" (.ptr (.agg [.lit (.string [110, 111, 32, 116, 105, 109, 101, 32, 116, 104, 97, 116, 32, 109, 97, 121, 32, 115, 116, 97, 110, 100, 32, 116, 104, 101, 114, 101])]))
def laid_isochron_model_errProcess {H : Type} : DataW H := .iface "*errors.errorString" (.ptr (.agg [.lit (.string [110, 111, 32, 115, 117, 99, 104, 32, 112, 114, 111, 99, 101, 115, 115])]))
def laid_isochron_model_errTwice {H : Type} : DataW H := .iface "*errors.errorString" (.ptr (.agg [.lit (.string [97, 32, 108, 105, 110, 107, 32, 97, 104, 101, 97, 100, 32, 111, 102, 32, 105, 116, 32, 105, 115, 32, 98, 101, 116, 119, 101, 101, 110, 32, 116, 104, 101, 32, 115, 97, 109, 101, 32, 116, 119, 111])]))

/-- 'isochronlaw13.ModelChecks': WHATEVER THE INPUT: true; the input reads as it did. -/
def modelChecksSpec : ChangeSpec := { name := "modelChecks", fn := fun _ => fun
  | [d] => { results := [.lit (.bool true)], args := [d] }
  | _ => none }
def modelChecksRow : OpenClaim := { program := "ytofkfajcibdneaadoor", sum := "9b1bd6cec5632c7e3786c13e1cb6011c34642034e69c0e021671c5f5a9ee881c", func := "isochron/isochronlaw13.ModelChecks", spec := "modelChecks", inPlace := ["internal/reflectlite.TypeOf", "internal/reflectlite.ValueOf", "(internal/reflectlite.Value).Type", "(internal/reflectlite.Value).IsNil", "(internal/reflectlite.Value).Elem", "(internal/reflectlite.Value).Set"], unfollowed := true, recurses := true, named := ["isochron/model.errCount", "isochron/model.errTime", "isochron/code.errCannotBe", "isochron/model.errProcess", "isochron/model.errTwice", "errors.errorType"], apart := false, laid := [("errors.errorType", laid_errors_errorType), ("isochron/code.errCannotBe", laid_isochron_code_errCannotBe), ("isochron/model.errCount", laid_isochron_model_errCount), ("isochron/model.errTime", laid_isochron_model_errTime), ("isochron/model.errProcess", laid_isochron_model_errProcess), ("isochron/model.errTwice", laid_isochron_model_errTwice)] }
def ModelChecksSaid : Prop := modelChecksRow.holds Tryd.pinned (OpenSpec.ofChange modelChecksSpec)

/-- ITS FALSE NEIGHBOUR: 'it returns false'. Refute it at one input. -/
def modelChecksWrong : ChangeSpec := { name := "modelChecks", fn := fun _ => fun
  | [d] => { results := [.lit (.bool false)], args := [d] }
  | _ => none }
def ModelChecksWrongFalsely : Prop := modelChecksRow.holds Tryd.pinned (OpenSpec.ofChange modelChecksWrong)

/-- 'isochronlaw13.ModelWorlds': WHATEVER THE INPUT: true; the input reads as it did. -/
def modelWorldsSpec : ChangeSpec := { name := "modelWorlds", fn := fun _ => fun
  | [d1, d2] => { results := [.lit (.bool true)], args := [d1, d2] }
  | _ => none }
def modelWorldsRow : OpenClaim := { program := "ytofkfajcibdneaadoor", sum := "9b1bd6cec5632c7e3786c13e1cb6011c34642034e69c0e021671c5f5a9ee881c", func := "isochron/isochronlaw13.ModelWorlds", spec := "modelWorlds", inPlace := ["internal/reflectlite.TypeOf", "internal/reflectlite.ValueOf", "(internal/reflectlite.Value).Type", "(internal/reflectlite.Value).IsNil", "(internal/reflectlite.Value).Elem", "(internal/reflectlite.Value).Set"], unfollowed := true, recurses := true, named := ["isochron/model.errProcess", "isochron/model.errCount", "isochron/model.errTime", "isochron/code.errCannotBe", "isochron/model.errTwice", "errors.errorType"], apart := false, laid := [("errors.errorType", laid_errors_errorType), ("isochron/code.errCannotBe", laid_isochron_code_errCannotBe), ("isochron/model.errCount", laid_isochron_model_errCount), ("isochron/model.errTime", laid_isochron_model_errTime), ("isochron/model.errProcess", laid_isochron_model_errProcess), ("isochron/model.errTwice", laid_isochron_model_errTwice)] }
def ModelWorldsSaid : Prop := modelWorldsRow.holds Tryd.pinned (OpenSpec.ofChange modelWorldsSpec)

/-- ITS FALSE NEIGHBOUR: 'it returns false'. Refute it at one input. -/
def modelWorldsWrong : ChangeSpec := { name := "modelWorlds", fn := fun _ => fun
  | [d1, d2] => { results := [.lit (.bool false)], args := [d1, d2] }
  | _ => none }
def ModelWorldsWrongFalsely : Prop := modelWorldsRow.holds Tryd.pinned (OpenSpec.ofChange modelWorldsWrong)

/-- 'isochronlaw13.ModelStarts': WHATEVER THE INPUT: true; the input reads as it did. -/
def modelStartsSpec : ChangeSpec := { name := "modelStarts", fn := fun _ => fun
  | [d] => { results := [.lit (.bool true)], args := [d] }
  | _ => none }
def modelStartsRow : OpenClaim := { program := "ytofkfajcibdneaadoor", sum := "9b1bd6cec5632c7e3786c13e1cb6011c34642034e69c0e021671c5f5a9ee881c", func := "isochron/isochronlaw13.ModelStarts", spec := "modelStarts", inPlace := ["internal/reflectlite.TypeOf", "internal/reflectlite.ValueOf", "(internal/reflectlite.Value).Type", "(internal/reflectlite.Value).IsNil", "(internal/reflectlite.Value).Elem", "(internal/reflectlite.Value).Set"], unfollowed := true, recurses := true, named := ["isochron/model.errCount", "isochron/model.errTime", "isochron/code.errCannotBe", "isochron/model.errProcess", "isochron/model.errTwice", "errors.errorType"], apart := false, laid := [("errors.errorType", laid_errors_errorType), ("isochron/code.errCannotBe", laid_isochron_code_errCannotBe), ("isochron/model.errCount", laid_isochron_model_errCount), ("isochron/model.errTime", laid_isochron_model_errTime), ("isochron/model.errProcess", laid_isochron_model_errProcess), ("isochron/model.errTwice", laid_isochron_model_errTwice)] }
def ModelStartsSaid : Prop := modelStartsRow.holds Tryd.pinned (OpenSpec.ofChange modelStartsSpec)

/-- ITS FALSE NEIGHBOUR: 'it returns false'. Refute it at one input. -/
def modelStartsWrong : ChangeSpec := { name := "modelStarts", fn := fun _ => fun
  | [d] => { results := [.lit (.bool false)], args := [d] }
  | _ => none }
def ModelStartsWrongFalsely : Prop := modelStartsRow.holds Tryd.pinned (OpenSpec.ofChange modelStartsWrong)

/-- 'isochronlaw13.ModelWhole': WHATEVER THE INPUT: true; the input reads as it did. -/
def modelWholeSpec : ChangeSpec := { name := "modelWhole", fn := fun _ => fun
  | [d] => { results := [.lit (.bool true)], args := [d] }
  | _ => none }
def modelWholeRow : OpenClaim := { program := "ytofkfajcibdneaadoor", sum := "9b1bd6cec5632c7e3786c13e1cb6011c34642034e69c0e021671c5f5a9ee881c", func := "isochron/isochronlaw13.ModelWhole", spec := "modelWhole", inPlace := ["internal/reflectlite.TypeOf", "internal/reflectlite.ValueOf", "(internal/reflectlite.Value).Type", "(internal/reflectlite.Value).IsNil", "(internal/reflectlite.Value).Elem", "(internal/reflectlite.Value).Set"], unfollowed := true, recurses := true, named := ["isochron/model.errCount", "isochron/model.errTime", "isochron/code.errCannotBe", "isochron/model.errProcess", "isochron/model.errTwice", "errors.errorType"], apart := false, laid := [("errors.errorType", laid_errors_errorType), ("isochron/code.errCannotBe", laid_isochron_code_errCannotBe), ("isochron/model.errCount", laid_isochron_model_errCount), ("isochron/model.errTime", laid_isochron_model_errTime), ("isochron/model.errProcess", laid_isochron_model_errProcess), ("isochron/model.errTwice", laid_isochron_model_errTwice)] }
def ModelWholeSaid : Prop := modelWholeRow.holds Tryd.pinned (OpenSpec.ofChange modelWholeSpec)

/-- ITS FALSE NEIGHBOUR: 'it returns false'. Refute it at one input. -/
def modelWholeWrong : ChangeSpec := { name := "modelWhole", fn := fun _ => fun
  | [d] => { results := [.lit (.bool false)], args := [d] }
  | _ => none }
def ModelWholeWrongFalsely : Prop := modelWholeRow.holds Tryd.pinned (OpenSpec.ofChange modelWholeWrong)

/-- 'isochronlaw13.ModelFaults': WHATEVER THE INPUT: true; the input reads as it did. -/
def modelFaultsSpec : ChangeSpec := { name := "modelFaults", fn := fun _ => fun
  | [d1, d2] => { results := [.lit (.bool true)], args := [d1, d2] }
  | _ => none }
def modelFaultsRow : OpenClaim := { program := "ytofkfajcibdneaadoor", sum := "9b1bd6cec5632c7e3786c13e1cb6011c34642034e69c0e021671c5f5a9ee881c", func := "isochron/isochronlaw13.ModelFaults", spec := "modelFaults", inPlace := ["internal/reflectlite.TypeOf", "internal/reflectlite.ValueOf", "(internal/reflectlite.Value).Type", "(internal/reflectlite.Value).IsNil", "(internal/reflectlite.Value).Elem", "(internal/reflectlite.Value).Set"], unfollowed := true, recurses := true, named := ["isochron/model.errCount", "isochron/model.errTime", "isochron/code.errCannotBe", "isochron/model.errProcess", "isochron/model.errTwice", "errors.errorType"], apart := false, laid := [("errors.errorType", laid_errors_errorType), ("isochron/code.errCannotBe", laid_isochron_code_errCannotBe), ("isochron/model.errCount", laid_isochron_model_errCount), ("isochron/model.errTime", laid_isochron_model_errTime), ("isochron/model.errProcess", laid_isochron_model_errProcess), ("isochron/model.errTwice", laid_isochron_model_errTwice)] }
def ModelFaultsSaid : Prop := modelFaultsRow.holds Tryd.pinned (OpenSpec.ofChange modelFaultsSpec)

/-- ITS FALSE NEIGHBOUR: 'it returns false'. Refute it at one input. -/
def modelFaultsWrong : ChangeSpec := { name := "modelFaults", fn := fun _ => fun
  | [d1, d2] => { results := [.lit (.bool false)], args := [d1, d2] }
  | _ => none }
def ModelFaultsWrongFalsely : Prop := modelFaultsRow.holds Tryd.pinned (OpenSpec.ofChange modelFaultsWrong)

/-- 'isochronlaw13.ModelApart': WHATEVER THE INPUT: true; the input reads as it did. -/
def modelApartSpec : ChangeSpec := { name := "modelApart", fn := fun _ => fun
  | [d1, d2] => { results := [.lit (.bool true)], args := [d1, d2] }
  | _ => none }
def modelApartRow : OpenClaim := { program := "ytofkfajcibdneaadoor", sum := "9b1bd6cec5632c7e3786c13e1cb6011c34642034e69c0e021671c5f5a9ee881c", func := "isochron/isochronlaw13.ModelApart", spec := "modelApart", inPlace := ["internal/reflectlite.TypeOf", "internal/reflectlite.ValueOf", "(internal/reflectlite.Value).Type", "(internal/reflectlite.Value).IsNil", "(internal/reflectlite.Value).Elem", "(internal/reflectlite.Value).Set"], unfollowed := true, recurses := true, named := ["isochron/model.errCount", "isochron/model.errTime", "isochron/code.errCannotBe", "isochron/model.errProcess", "isochron/model.errTwice", "errors.errorType"], apart := false, laid := [("errors.errorType", laid_errors_errorType), ("isochron/code.errCannotBe", laid_isochron_code_errCannotBe), ("isochron/model.errCount", laid_isochron_model_errCount), ("isochron/model.errTime", laid_isochron_model_errTime), ("isochron/model.errProcess", laid_isochron_model_errProcess), ("isochron/model.errTwice", laid_isochron_model_errTwice)] }
def ModelApartSaid : Prop := modelApartRow.holds Tryd.pinned (OpenSpec.ofChange modelApartSpec)

/-- ITS FALSE NEIGHBOUR: 'it returns false'. Refute it at one input. -/
def modelApartWrong : ChangeSpec := { name := "modelApart", fn := fun _ => fun
  | [d1, d2] => { results := [.lit (.bool false)], args := [d1, d2] }
  | _ => none }
def ModelApartWrongFalsely : Prop := modelApartRow.holds Tryd.pinned (OpenSpec.ofChange modelApartWrong)

/- THE SECOND FORM. 'bulk': how many values and letters a reading holds, each counted each time it is reached (what is shared counts as often as it is met; a slice's spare places count too). A statement '..UptoSaid' is the law's where the arguments, and the package variables that the reading takes, are together of bulk at most 1048576: NARROWER than '..Said'. Prove '..Said' where nothing that the law and all that it calls make is longer than what came in: it says more and counts as full. Else prove '..UptoSaid'. A law counts once. -/
mutual
def uptoBulk {H : Type} : DataW H → Nat
  | .lit (.string bytes) => bytes.length + 1
  | .lit _ => 1
  | .nil => 1
  | .ptr d => uptoBulk d + 1
  | .slice elems spare => uptoBulkAll elems + uptoBulkAll spare + 1
  | .agg parts => uptoBulkAll parts + 1
  | .iface _ d => uptoBulk d + 1
  | .map entries => uptoBulkEntries entries + 1
  | .held _ => 1
def uptoBulkAll {H : Type} : List (DataW H) → Nat
  | [] => 0
  | d :: r => uptoBulk d + uptoBulkAll r
def uptoBulkEntries {H : Type} : List (Lit × DataW H) → Nat
  | [] => 0
  | x :: r => uptoBulkEntry x + uptoBulkEntries r
def uptoBulkEntry {H : Type} : Lit × DataW H → Nat
  | (.string bytes, d) => bytes.length + uptoBulk d + 1
  | (_, d) => uptoBulk d + 1
 end
def uptoSmall : (H : Type) → List (DataW H) → Bool := fun _ ds => decide (uptoBulkAll ds ≤ 1048576)
def OpenSpec.upto (s : _root_.Go.ChangeSpec) : _root_.Go.OpenSpec := { _root_.Go.OpenSpec.ofChange s with cond := some uptoSmall }

/-- 'isochronlaw13.ModelChecks', WHERE WHAT IT READS IS OF BULK AT MOST 1048576: true; the input reads as it did. -/
def modelChecksUptoRow : OpenClaim := { program := "ytofkfajcibdneaadoor", sum := "9b1bd6cec5632c7e3786c13e1cb6011c34642034e69c0e021671c5f5a9ee881c", func := "isochron/isochronlaw13.ModelChecks", spec := "modelChecks", inPlace := ["internal/reflectlite.TypeOf", "internal/reflectlite.ValueOf", "(internal/reflectlite.Value).Type", "(internal/reflectlite.Value).IsNil", "(internal/reflectlite.Value).Elem", "(internal/reflectlite.Value).Set"], unfollowed := true, recurses := true, named := ["isochron/model.errCount", "isochron/model.errTime", "isochron/code.errCannotBe", "isochron/model.errProcess", "isochron/model.errTwice", "errors.errorType"], apart := false, laid := [("errors.errorType", laid_errors_errorType), ("isochron/code.errCannotBe", laid_isochron_code_errCannotBe), ("isochron/model.errCount", laid_isochron_model_errCount), ("isochron/model.errTime", laid_isochron_model_errTime), ("isochron/model.errProcess", laid_isochron_model_errProcess), ("isochron/model.errTwice", laid_isochron_model_errTwice)], narrowed := true }
def ModelChecksUptoSaid : Prop := modelChecksUptoRow.holds Tryd.pinned (OpenSpec.upto modelChecksSpec)

/-- 'isochronlaw13.ModelWorlds', WHERE WHAT IT READS IS OF BULK AT MOST 1048576: true; the input reads as it did. -/
def modelWorldsUptoRow : OpenClaim := { program := "ytofkfajcibdneaadoor", sum := "9b1bd6cec5632c7e3786c13e1cb6011c34642034e69c0e021671c5f5a9ee881c", func := "isochron/isochronlaw13.ModelWorlds", spec := "modelWorlds", inPlace := ["internal/reflectlite.TypeOf", "internal/reflectlite.ValueOf", "(internal/reflectlite.Value).Type", "(internal/reflectlite.Value).IsNil", "(internal/reflectlite.Value).Elem", "(internal/reflectlite.Value).Set"], unfollowed := true, recurses := true, named := ["isochron/model.errProcess", "isochron/model.errCount", "isochron/model.errTime", "isochron/code.errCannotBe", "isochron/model.errTwice", "errors.errorType"], apart := false, laid := [("errors.errorType", laid_errors_errorType), ("isochron/code.errCannotBe", laid_isochron_code_errCannotBe), ("isochron/model.errCount", laid_isochron_model_errCount), ("isochron/model.errTime", laid_isochron_model_errTime), ("isochron/model.errProcess", laid_isochron_model_errProcess), ("isochron/model.errTwice", laid_isochron_model_errTwice)], narrowed := true }
def ModelWorldsUptoSaid : Prop := modelWorldsUptoRow.holds Tryd.pinned (OpenSpec.upto modelWorldsSpec)

/-- 'isochronlaw13.ModelStarts', WHERE WHAT IT READS IS OF BULK AT MOST 1048576: true; the input reads as it did. -/
def modelStartsUptoRow : OpenClaim := { program := "ytofkfajcibdneaadoor", sum := "9b1bd6cec5632c7e3786c13e1cb6011c34642034e69c0e021671c5f5a9ee881c", func := "isochron/isochronlaw13.ModelStarts", spec := "modelStarts", inPlace := ["internal/reflectlite.TypeOf", "internal/reflectlite.ValueOf", "(internal/reflectlite.Value).Type", "(internal/reflectlite.Value).IsNil", "(internal/reflectlite.Value).Elem", "(internal/reflectlite.Value).Set"], unfollowed := true, recurses := true, named := ["isochron/model.errCount", "isochron/model.errTime", "isochron/code.errCannotBe", "isochron/model.errProcess", "isochron/model.errTwice", "errors.errorType"], apart := false, laid := [("errors.errorType", laid_errors_errorType), ("isochron/code.errCannotBe", laid_isochron_code_errCannotBe), ("isochron/model.errCount", laid_isochron_model_errCount), ("isochron/model.errTime", laid_isochron_model_errTime), ("isochron/model.errProcess", laid_isochron_model_errProcess), ("isochron/model.errTwice", laid_isochron_model_errTwice)], narrowed := true }
def ModelStartsUptoSaid : Prop := modelStartsUptoRow.holds Tryd.pinned (OpenSpec.upto modelStartsSpec)

/-- 'isochronlaw13.ModelWhole', WHERE WHAT IT READS IS OF BULK AT MOST 1048576: true; the input reads as it did. -/
def modelWholeUptoRow : OpenClaim := { program := "ytofkfajcibdneaadoor", sum := "9b1bd6cec5632c7e3786c13e1cb6011c34642034e69c0e021671c5f5a9ee881c", func := "isochron/isochronlaw13.ModelWhole", spec := "modelWhole", inPlace := ["internal/reflectlite.TypeOf", "internal/reflectlite.ValueOf", "(internal/reflectlite.Value).Type", "(internal/reflectlite.Value).IsNil", "(internal/reflectlite.Value).Elem", "(internal/reflectlite.Value).Set"], unfollowed := true, recurses := true, named := ["isochron/model.errCount", "isochron/model.errTime", "isochron/code.errCannotBe", "isochron/model.errProcess", "isochron/model.errTwice", "errors.errorType"], apart := false, laid := [("errors.errorType", laid_errors_errorType), ("isochron/code.errCannotBe", laid_isochron_code_errCannotBe), ("isochron/model.errCount", laid_isochron_model_errCount), ("isochron/model.errTime", laid_isochron_model_errTime), ("isochron/model.errProcess", laid_isochron_model_errProcess), ("isochron/model.errTwice", laid_isochron_model_errTwice)], narrowed := true }
def ModelWholeUptoSaid : Prop := modelWholeUptoRow.holds Tryd.pinned (OpenSpec.upto modelWholeSpec)

/-- 'isochronlaw13.ModelFaults', WHERE WHAT IT READS IS OF BULK AT MOST 1048576: true; the input reads as it did. -/
def modelFaultsUptoRow : OpenClaim := { program := "ytofkfajcibdneaadoor", sum := "9b1bd6cec5632c7e3786c13e1cb6011c34642034e69c0e021671c5f5a9ee881c", func := "isochron/isochronlaw13.ModelFaults", spec := "modelFaults", inPlace := ["internal/reflectlite.TypeOf", "internal/reflectlite.ValueOf", "(internal/reflectlite.Value).Type", "(internal/reflectlite.Value).IsNil", "(internal/reflectlite.Value).Elem", "(internal/reflectlite.Value).Set"], unfollowed := true, recurses := true, named := ["isochron/model.errCount", "isochron/model.errTime", "isochron/code.errCannotBe", "isochron/model.errProcess", "isochron/model.errTwice", "errors.errorType"], apart := false, laid := [("errors.errorType", laid_errors_errorType), ("isochron/code.errCannotBe", laid_isochron_code_errCannotBe), ("isochron/model.errCount", laid_isochron_model_errCount), ("isochron/model.errTime", laid_isochron_model_errTime), ("isochron/model.errProcess", laid_isochron_model_errProcess), ("isochron/model.errTwice", laid_isochron_model_errTwice)], narrowed := true }
def ModelFaultsUptoSaid : Prop := modelFaultsUptoRow.holds Tryd.pinned (OpenSpec.upto modelFaultsSpec)

/-- 'isochronlaw13.ModelApart', WHERE WHAT IT READS IS OF BULK AT MOST 1048576: true; the input reads as it did. -/
def modelApartUptoRow : OpenClaim := { program := "ytofkfajcibdneaadoor", sum := "9b1bd6cec5632c7e3786c13e1cb6011c34642034e69c0e021671c5f5a9ee881c", func := "isochron/isochronlaw13.ModelApart", spec := "modelApart", inPlace := ["internal/reflectlite.TypeOf", "internal/reflectlite.ValueOf", "(internal/reflectlite.Value).Type", "(internal/reflectlite.Value).IsNil", "(internal/reflectlite.Value).Elem", "(internal/reflectlite.Value).Set"], unfollowed := true, recurses := true, named := ["isochron/model.errCount", "isochron/model.errTime", "isochron/code.errCannotBe", "isochron/model.errProcess", "isochron/model.errTwice", "errors.errorType"], apart := false, laid := [("errors.errorType", laid_errors_errorType), ("isochron/code.errCannotBe", laid_isochron_code_errCannotBe), ("isochron/model.errCount", laid_isochron_model_errCount), ("isochron/model.errTime", laid_isochron_model_errTime), ("isochron/model.errProcess", laid_isochron_model_errProcess), ("isochron/model.errTwice", laid_isochron_model_errTwice)], narrowed := true }
def ModelApartUptoSaid : Prop := modelApartUptoRow.holds Tryd.pinned (OpenSpec.upto modelApartSpec)

end Rows
end Go.Proofs.YtofkfajcibdneaaDoor
