/-
  NARROWER THAN 'FOR EVERY INPUT', by the rows' own cells (each row's printed sentence says how): LogAgain: laid · LogKeeps: laid · LogNames: laid · LogDrops: laid.
  DERIVED. THE GIVEN ROWS OF THIS SEAT. 4 by the template 'for every input the law returns true; each argument reads behind the call as it read before'; 0 by the template 'total and deterministic' (their statements: YtminfmjgmmkaoaaGreatDoorTotals.lean).
  GIVEN WITH THE SEED: the statements are not yours to turn. If you find one false, say at which input.
  Laid BY PROGRAM, IN A SANDBOX (cutbox-rows.mjs): the forced cells as the released guide's own fill.sh prints them over the translation e0ece0890456a052… (all of the seat's roots in one cut). By AI agents, Wed Nov 11 2026. No macro, syntax, notation, axiom, sorry.
-/
import Derived.Test.YtminfmjgmmkaoaaGreatDoorChecked
import GoSem.Claim
import GoSem.ClaimJoined
import GoSem.ClaimMapViews
import Derived.JoinedTies
import Derived.KernelRfl
namespace Go.Proofs.YtminfmjgmmkaoaaGreatDoor
/- THE CELL 'sum', in the pinned program and in every row, IS THE sha256 OF THE DUMP (.gsa) THAT YtminfmjgmmkaoaaGreatDoorProg.lean LOADS. Nothing in Lean hashes anything: it is a label: what it is worth is what the hold of that sum in a sandbox is worth. -/
noncomputable def Tryz.pinned : Pinned := { name := "ytminfmjgmmkaoaagreatdoor", sum := "e0ece0890456a05282bce7b985276de00c56fa68b5d17f46f0e87955b9bc56b3", checked := Tryz.checked }
namespace Rows
def none {H : Type} : Left H := { results := [], args := [] }

/- WHAT THE LISTED PACKAGE-LEVEL VARIABLES READ AS WHEN THE CALL BEGINS. Each datum BY PROGRAM (the guide's laid-datum.mjs) off the statement by which the dump's own 'gosem.cut.vars' lays the variable. In a bare row this is a premise. The card (YtminfmjgmmkaoaaGreatDoorCards.lean) ties it to the program's text. -/
def laid_errors_errorType {H : Type} : DataW H := .iface "internal/reflectlite.rtype" (.agg [.ptr (.lit (.string [101, 114, 114, 111, 114]))])
def laid_isochron_code_errCannotBe {H : Type} : DataW H := .iface "*errors.errorString" (.ptr (.agg [.lit (.string [97, 110, 32, 105, 110, 115, 116, 114, 117, 99, 116, 105, 111, 110, 32, 116, 104, 97, 116, 32, 99, 97, 110, 39, 116, 32, 98, 101])]))

/-- 'isochronlaw10.LogAgain': WHATEVER THE INPUT: true; the input reads as it did. -/
def logAgainSpec : ChangeSpec := { name := "logAgain", fn := fun _ => fun
  | [d1, d2, d3, d4] => { results := [.lit (.bool true)], args := [d1, d2, d3, d4] }
  | _ => none }
def logAgainRow : OpenClaim := { program := "ytminfmjgmmkaoaagreatdoor", sum := "e0ece0890456a05282bce7b985276de00c56fa68b5d17f46f0e87955b9bc56b3", func := "isochron/isochronlaw10.LogAgain", spec := "logAgain", inPlace := ["internal/reflectlite.TypeOf", "internal/reflectlite.ValueOf", "(internal/reflectlite.Value).Type", "(internal/reflectlite.Value).IsNil", "(internal/reflectlite.Value).Elem", "(internal/reflectlite.Value).Set"], unfollowed := true, recurses := true, named := ["isochron/code.errCannotBe", "errors.errorType"], apart := false, laid := [("errors.errorType", laid_errors_errorType), ("isochron/code.errCannotBe", laid_isochron_code_errCannotBe)] }
def LogAgainSaid : Prop := logAgainRow.holds Tryz.pinned (OpenSpec.ofChange logAgainSpec)

/-- ITS FALSE NEIGHBOUR: 'it returns false'. Refute it at one input. -/
def logAgainWrong : ChangeSpec := { name := "logAgain", fn := fun _ => fun
  | [d1, d2, d3, d4] => { results := [.lit (.bool false)], args := [d1, d2, d3, d4] }
  | _ => none }
def LogAgainWrongFalsely : Prop := logAgainRow.holds Tryz.pinned (OpenSpec.ofChange logAgainWrong)

/-- 'isochronlaw10.LogKeeps': WHATEVER THE INPUT: true; the input reads as it did. -/
def logKeepsSpec : ChangeSpec := { name := "logKeeps", fn := fun _ => fun
  | [d1, d2, d3, d4, d5, d6] => { results := [.lit (.bool true)], args := [d1, d2, d3, d4, d5, d6] }
  | _ => none }
def logKeepsRow : OpenClaim := { program := "ytminfmjgmmkaoaagreatdoor", sum := "e0ece0890456a05282bce7b985276de00c56fa68b5d17f46f0e87955b9bc56b3", func := "isochron/isochronlaw10.LogKeeps", spec := "logKeeps", inPlace := ["internal/reflectlite.TypeOf", "internal/reflectlite.ValueOf", "(internal/reflectlite.Value).Type", "(internal/reflectlite.Value).IsNil", "(internal/reflectlite.Value).Elem", "(internal/reflectlite.Value).Set"], unfollowed := true, recurses := true, named := ["isochron/code.errCannotBe", "errors.errorType"], apart := false, laid := [("errors.errorType", laid_errors_errorType), ("isochron/code.errCannotBe", laid_isochron_code_errCannotBe)] }
def LogKeepsSaid : Prop := logKeepsRow.holds Tryz.pinned (OpenSpec.ofChange logKeepsSpec)

/-- ITS FALSE NEIGHBOUR: 'it returns false'. Refute it at one input. -/
def logKeepsWrong : ChangeSpec := { name := "logKeeps", fn := fun _ => fun
  | [d1, d2, d3, d4, d5, d6] => { results := [.lit (.bool false)], args := [d1, d2, d3, d4, d5, d6] }
  | _ => none }
def LogKeepsWrongFalsely : Prop := logKeepsRow.holds Tryz.pinned (OpenSpec.ofChange logKeepsWrong)

/-- 'isochronlaw10.LogNames': WHATEVER THE INPUT: true; the input reads as it did. -/
def logNamesSpec : ChangeSpec := { name := "logNames", fn := fun _ => fun
  | [d1, d2, d3] => { results := [.lit (.bool true)], args := [d1, d2, d3] }
  | _ => none }
def logNamesRow : OpenClaim := { program := "ytminfmjgmmkaoaagreatdoor", sum := "e0ece0890456a05282bce7b985276de00c56fa68b5d17f46f0e87955b9bc56b3", func := "isochron/isochronlaw10.LogNames", spec := "logNames", inPlace := ["internal/reflectlite.TypeOf", "internal/reflectlite.ValueOf", "(internal/reflectlite.Value).Type", "(internal/reflectlite.Value).IsNil", "(internal/reflectlite.Value).Elem", "(internal/reflectlite.Value).Set"], unfollowed := true, recurses := true, named := ["isochron/code.errCannotBe", "errors.errorType"], apart := false, laid := [("errors.errorType", laid_errors_errorType), ("isochron/code.errCannotBe", laid_isochron_code_errCannotBe)] }
def LogNamesSaid : Prop := logNamesRow.holds Tryz.pinned (OpenSpec.ofChange logNamesSpec)

/-- ITS FALSE NEIGHBOUR: 'it returns false'. Refute it at one input. -/
def logNamesWrong : ChangeSpec := { name := "logNames", fn := fun _ => fun
  | [d1, d2, d3] => { results := [.lit (.bool false)], args := [d1, d2, d3] }
  | _ => none }
def LogNamesWrongFalsely : Prop := logNamesRow.holds Tryz.pinned (OpenSpec.ofChange logNamesWrong)

/-- 'isochronlaw10.LogDrops': WHATEVER THE INPUT: true; the input reads as it did. -/
def logDropsSpec : ChangeSpec := { name := "logDrops", fn := fun _ => fun
  | [d1, d2, d3, d4] => { results := [.lit (.bool true)], args := [d1, d2, d3, d4] }
  | _ => none }
def logDropsRow : OpenClaim := { program := "ytminfmjgmmkaoaagreatdoor", sum := "e0ece0890456a05282bce7b985276de00c56fa68b5d17f46f0e87955b9bc56b3", func := "isochron/isochronlaw10.LogDrops", spec := "logDrops", inPlace := ["internal/reflectlite.TypeOf", "internal/reflectlite.ValueOf", "(internal/reflectlite.Value).Type", "(internal/reflectlite.Value).IsNil", "(internal/reflectlite.Value).Elem", "(internal/reflectlite.Value).Set"], unfollowed := true, recurses := true, named := ["isochron/code.errCannotBe", "errors.errorType"], apart := false, laid := [("errors.errorType", laid_errors_errorType), ("isochron/code.errCannotBe", laid_isochron_code_errCannotBe)] }
def LogDropsSaid : Prop := logDropsRow.holds Tryz.pinned (OpenSpec.ofChange logDropsSpec)

/-- ITS FALSE NEIGHBOUR: 'it returns false'. Refute it at one input. -/
def logDropsWrong : ChangeSpec := { name := "logDrops", fn := fun _ => fun
  | [d1, d2, d3, d4] => { results := [.lit (.bool false)], args := [d1, d2, d3, d4] }
  | _ => none }
def LogDropsWrongFalsely : Prop := logDropsRow.holds Tryz.pinned (OpenSpec.ofChange logDropsWrong)

/- THE SECOND FORM. 'bulk': how many values and letters a reading holds, each counted each time it is reached (what is shared counts as often as it is met; a slice's spare places count too). A statement '..UptoSaid' is the law's where the arguments, and the package variables that the reading takes, are together of bulk at most 1048576: NARROWER than '..Said'. Prove '..Said' where nothing that the law and all that it calls make is longer than what came in: it says more and counts as full. Else prove '..UptoSaid'. A law counts once. -/
mutual
def uptoBulk {H : Type} : DataW H → Nat
  | .lit (.string bytes) => bytes.length + 1
  | .lit _ => 1
  | .nil => 1
  | .ptr d => uptoBulk d + 1
  | .slice elems spare => uptoBulkAll elems + uptoBulkAll spare + 1
  | .agg parts => uptoBulkAll parts + 1
  | .iface _ d => uptoBulk d + 1
  | .map entries => uptoBulkEntries entries + 1
  | .held _ => 1
def uptoBulkAll {H : Type} : List (DataW H) → Nat
  | [] => 0
  | d :: r => uptoBulk d + uptoBulkAll r
def uptoBulkEntries {H : Type} : List (Lit × DataW H) → Nat
  | [] => 0
  | x :: r => uptoBulkEntry x + uptoBulkEntries r
def uptoBulkEntry {H : Type} : Lit × DataW H → Nat
  | (.string bytes, d) => bytes.length + uptoBulk d + 1
  | (_, d) => uptoBulk d + 1
 end
def uptoSmall : (H : Type) → List (DataW H) → Bool := fun _ ds => decide (uptoBulkAll ds ≤ 1048576)
def OpenSpec.upto (s : _root_.Go.ChangeSpec) : _root_.Go.OpenSpec := { _root_.Go.OpenSpec.ofChange s with cond := some uptoSmall }

/-- 'isochronlaw10.LogAgain', WHERE WHAT IT READS IS OF BULK AT MOST 1048576: true; the input reads as it did. -/
def logAgainUptoRow : OpenClaim := { program := "ytminfmjgmmkaoaagreatdoor", sum := "e0ece0890456a05282bce7b985276de00c56fa68b5d17f46f0e87955b9bc56b3", func := "isochron/isochronlaw10.LogAgain", spec := "logAgain", inPlace := ["internal/reflectlite.TypeOf", "internal/reflectlite.ValueOf", "(internal/reflectlite.Value).Type", "(internal/reflectlite.Value).IsNil", "(internal/reflectlite.Value).Elem", "(internal/reflectlite.Value).Set"], unfollowed := true, recurses := true, named := ["isochron/code.errCannotBe", "errors.errorType"], apart := false, laid := [("errors.errorType", laid_errors_errorType), ("isochron/code.errCannotBe", laid_isochron_code_errCannotBe)], narrowed := true }
def LogAgainUptoSaid : Prop := logAgainUptoRow.holds Tryz.pinned (OpenSpec.upto logAgainSpec)

/-- 'isochronlaw10.LogKeeps', WHERE WHAT IT READS IS OF BULK AT MOST 1048576: true; the input reads as it did. -/
def logKeepsUptoRow : OpenClaim := { program := "ytminfmjgmmkaoaagreatdoor", sum := "e0ece0890456a05282bce7b985276de00c56fa68b5d17f46f0e87955b9bc56b3", func := "isochron/isochronlaw10.LogKeeps", spec := "logKeeps", inPlace := ["internal/reflectlite.TypeOf", "internal/reflectlite.ValueOf", "(internal/reflectlite.Value).Type", "(internal/reflectlite.Value).IsNil", "(internal/reflectlite.Value).Elem", "(internal/reflectlite.Value).Set"], unfollowed := true, recurses := true, named := ["isochron/code.errCannotBe", "errors.errorType"], apart := false, laid := [("errors.errorType", laid_errors_errorType), ("isochron/code.errCannotBe", laid_isochron_code_errCannotBe)], narrowed := true }
def LogKeepsUptoSaid : Prop := logKeepsUptoRow.holds Tryz.pinned (OpenSpec.upto logKeepsSpec)

/-- 'isochronlaw10.LogNames', WHERE WHAT IT READS IS OF BULK AT MOST 1048576: true; the input reads as it did. -/
def logNamesUptoRow : OpenClaim := { program := "ytminfmjgmmkaoaagreatdoor", sum := "e0ece0890456a05282bce7b985276de00c56fa68b5d17f46f0e87955b9bc56b3", func := "isochron/isochronlaw10.LogNames", spec := "logNames", inPlace := ["internal/reflectlite.TypeOf", "internal/reflectlite.ValueOf", "(internal/reflectlite.Value).Type", "(internal/reflectlite.Value).IsNil", "(internal/reflectlite.Value).Elem", "(internal/reflectlite.Value).Set"], unfollowed := true, recurses := true, named := ["isochron/code.errCannotBe", "errors.errorType"], apart := false, laid := [("errors.errorType", laid_errors_errorType), ("isochron/code.errCannotBe", laid_isochron_code_errCannotBe)], narrowed := true }
def LogNamesUptoSaid : Prop := logNamesUptoRow.holds Tryz.pinned (OpenSpec.upto logNamesSpec)

/-- 'isochronlaw10.LogDrops', WHERE WHAT IT READS IS OF BULK AT MOST 1048576: true; the input reads as it did. -/
def logDropsUptoRow : OpenClaim := { program := "ytminfmjgmmkaoaagreatdoor", sum := "e0ece0890456a05282bce7b985276de00c56fa68b5d17f46f0e87955b9bc56b3", func := "isochron/isochronlaw10.LogDrops", spec := "logDrops", inPlace := ["internal/reflectlite.TypeOf", "internal/reflectlite.ValueOf", "(internal/reflectlite.Value).Type", "(internal/reflectlite.Value).IsNil", "(internal/reflectlite.Value).Elem", "(internal/reflectlite.Value).Set"], unfollowed := true, recurses := true, named := ["isochron/code.errCannotBe", "errors.errorType"], apart := false, laid := [("errors.errorType", laid_errors_errorType), ("isochron/code.errCannotBe", laid_isochron_code_errCannotBe)], narrowed := true }
def LogDropsUptoSaid : Prop := logDropsUptoRow.holds Tryz.pinned (OpenSpec.upto logDropsSpec)

end Rows
end Go.Proofs.YtminfmjgmmkaoaaGreatDoor
