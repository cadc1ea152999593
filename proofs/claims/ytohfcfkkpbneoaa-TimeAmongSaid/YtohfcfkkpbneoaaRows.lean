/-
  No cell of these rows narrows 'for every input' (looked for: loops, veiled, ifaces, maps, wideKeys, modest, calm, conditions, laid).
  DERIVED. THE GIVEN ROWS OF THIS SEAT. 9 by the template 'for every input the law returns true; each argument reads behind the call as it read before'; 0 by the template 'total and deterministic' (their statements: YtohfcfkkpbneoaaTotals.lean).
  GIVEN WITH THE SEED: the statements are not yours to turn. If you find one false, say at which input.
  Laid BY PROGRAM, IN A SANDBOX (cutbox-rows.mjs): the forced cells as the released guide's own fill.sh prints them over the translation 6704df3745da2c2f… (all of the seat's roots in one cut). By AI agents, Wed Nov 11 2026. No macro, syntax, notation, axiom, sorry.
-/
import Derived.Test.YtohfcfkkpbneoaaChecked
import GoSem.Claim
import GoSem.ClaimJoined
import GoSem.ClaimMapViews
import Derived.JoinedTies
import Derived.KernelRfl
namespace Go.Proofs.Ytohfcfkkpbneoaa
/- THE CELL 'sum', in the pinned program and in every row, IS THE sha256 OF THE DUMP (.gsa) THAT YtohfcfkkpbneoaaProg.lean LOADS. Nothing in Lean hashes anything: it is a label: what it is worth is what the hold of that sum in a sandbox is worth. -/
noncomputable def Try.pinned : Pinned := { name := "ytohfcfkkpbneoaa", sum := "6704df3745da2c2f75b23a5bc74c9cc54f1496808b853a6055fccffafe410622", checked := Try.checked }
namespace Rows
def none {H : Type} : Left H := { results := [], args := [] }

/-- 'isochronlaw01.TimeAdds': WHATEVER THE INPUT: true; the input reads as it did. -/
def timeAddsSpec : ChangeSpec := { name := "timeAdds", fn := fun _ => fun
  | [d1, d2] => { results := [.lit (.bool true)], args := [d1, d2] }
  | _ => none }
def timeAddsRow : OpenClaim := { program := "ytohfcfkkpbneoaa", sum := "6704df3745da2c2f75b23a5bc74c9cc54f1496808b853a6055fccffafe410622", func := "isochron/isochronlaw01.TimeAdds", spec := "timeAdds", apart := false }
def TimeAddsSaid : Prop := timeAddsRow.holds Try.pinned (OpenSpec.ofChange timeAddsSpec)

/-- ITS FALSE NEIGHBOUR: 'it returns false'. Refute it at one input. -/
def timeAddsWrong : ChangeSpec := { name := "timeAdds", fn := fun _ => fun
  | [d1, d2] => { results := [.lit (.bool false)], args := [d1, d2] }
  | _ => none }
def TimeAddsWrongFalsely : Prop := timeAddsRow.holds Try.pinned (OpenSpec.ofChange timeAddsWrong)

/-- 'isochronlaw01.TimeReaches': WHATEVER THE INPUT: true; the input reads as it did. -/
def timeReachesSpec : ChangeSpec := { name := "timeReaches", fn := fun _ => fun
  | [d1, d2] => { results := [.lit (.bool true)], args := [d1, d2] }
  | _ => none }
def timeReachesRow : OpenClaim := { program := "ytohfcfkkpbneoaa", sum := "6704df3745da2c2f75b23a5bc74c9cc54f1496808b853a6055fccffafe410622", func := "isochron/isochronlaw01.TimeReaches", spec := "timeReaches", apart := false }
def TimeReachesSaid : Prop := timeReachesRow.holds Try.pinned (OpenSpec.ofChange timeReachesSpec)

/-- ITS FALSE NEIGHBOUR: 'it returns false'. Refute it at one input. -/
def timeReachesWrong : ChangeSpec := { name := "timeReaches", fn := fun _ => fun
  | [d1, d2] => { results := [.lit (.bool false)], args := [d1, d2] }
  | _ => none }
def TimeReachesWrongFalsely : Prop := timeReachesRow.holds Try.pinned (OpenSpec.ofChange timeReachesWrong)

/-- 'isochronlaw01.TimeLeast': WHATEVER THE INPUT: true; the input reads as it did. -/
def timeLeastSpec : ChangeSpec := { name := "timeLeast", fn := fun _ => fun
  | [d] => { results := [.lit (.bool true)], args := [d] }
  | _ => none }
def timeLeastRow : OpenClaim := { program := "ytohfcfkkpbneoaa", sum := "6704df3745da2c2f75b23a5bc74c9cc54f1496808b853a6055fccffafe410622", func := "isochron/isochronlaw01.TimeLeast", spec := "timeLeast", apart := false }
def TimeLeastSaid : Prop := timeLeastRow.holds Try.pinned (OpenSpec.ofChange timeLeastSpec)

/-- ITS FALSE NEIGHBOUR: 'it returns false'. Refute it at one input. -/
def timeLeastWrong : ChangeSpec := { name := "timeLeast", fn := fun _ => fun
  | [d] => { results := [.lit (.bool false)], args := [d] }
  | _ => none }
def TimeLeastWrongFalsely : Prop := timeLeastRow.holds Try.pinned (OpenSpec.ofChange timeLeastWrong)

/-- 'isochronlaw01.TimeSteps': WHATEVER THE INPUT: true; the input reads as it did. -/
def timeStepsSpec : ChangeSpec := { name := "timeSteps", fn := fun _ => fun
  | [d1, d2, d3] => { results := [.lit (.bool true)], args := [d1, d2, d3] }
  | _ => none }
def timeStepsRow : OpenClaim := { program := "ytohfcfkkpbneoaa", sum := "6704df3745da2c2f75b23a5bc74c9cc54f1496808b853a6055fccffafe410622", func := "isochron/isochronlaw01.TimeSteps", spec := "timeSteps", apart := false }
def TimeStepsSaid : Prop := timeStepsRow.holds Try.pinned (OpenSpec.ofChange timeStepsSpec)

/-- ITS FALSE NEIGHBOUR: 'it returns false'. Refute it at one input. -/
def timeStepsWrong : ChangeSpec := { name := "timeSteps", fn := fun _ => fun
  | [d1, d2, d3] => { results := [.lit (.bool false)], args := [d1, d2, d3] }
  | _ => none }
def TimeStepsWrongFalsely : Prop := timeStepsRow.holds Try.pinned (OpenSpec.ofChange timeStepsWrong)

/-- 'isochronlaw01.TimeBack': WHATEVER THE INPUT: true; the input reads as it did. -/
def timeBackSpec : ChangeSpec := { name := "timeBack", fn := fun _ => fun
  | [d1, d2] => { results := [.lit (.bool true)], args := [d1, d2] }
  | _ => none }
def timeBackRow : OpenClaim := { program := "ytohfcfkkpbneoaa", sum := "6704df3745da2c2f75b23a5bc74c9cc54f1496808b853a6055fccffafe410622", func := "isochron/isochronlaw01.TimeBack", spec := "timeBack", apart := false }
def TimeBackSaid : Prop := timeBackRow.holds Try.pinned (OpenSpec.ofChange timeBackSpec)

/-- ITS FALSE NEIGHBOUR: 'it returns false'. Refute it at one input. -/
def timeBackWrong : ChangeSpec := { name := "timeBack", fn := fun _ => fun
  | [d1, d2] => { results := [.lit (.bool false)], args := [d1, d2] }
  | _ => none }
def TimeBackWrongFalsely : Prop := timeBackRow.holds Try.pinned (OpenSpec.ofChange timeBackWrong)

/-- 'isochronlaw01.TimeRises': WHATEVER THE INPUT: true; the input reads as it did. -/
def timeRisesSpec : ChangeSpec := { name := "timeRises", fn := fun _ => fun
  | [d1, d2, d3, d4] => { results := [.lit (.bool true)], args := [d1, d2, d3, d4] }
  | _ => none }
def timeRisesRow : OpenClaim := { program := "ytohfcfkkpbneoaa", sum := "6704df3745da2c2f75b23a5bc74c9cc54f1496808b853a6055fccffafe410622", func := "isochron/isochronlaw01.TimeRises", spec := "timeRises", apart := false }
def TimeRisesSaid : Prop := timeRisesRow.holds Try.pinned (OpenSpec.ofChange timeRisesSpec)

/-- ITS FALSE NEIGHBOUR: 'it returns false'. Refute it at one input. -/
def timeRisesWrong : ChangeSpec := { name := "timeRises", fn := fun _ => fun
  | [d1, d2, d3, d4] => { results := [.lit (.bool false)], args := [d1, d2, d3, d4] }
  | _ => none }
def TimeRisesWrongFalsely : Prop := timeRisesRow.holds Try.pinned (OpenSpec.ofChange timeRisesWrong)

/-- 'isochronlaw01.TimeAmong': WHATEVER THE INPUT: true; the input reads as it did. -/
def timeAmongSpec : ChangeSpec := { name := "timeAmong", fn := fun _ => fun
  | [d] => { results := [.lit (.bool true)], args := [d] }
  | _ => none }
def timeAmongRow : OpenClaim := { program := "ytohfcfkkpbneoaa", sum := "6704df3745da2c2f75b23a5bc74c9cc54f1496808b853a6055fccffafe410622", func := "isochron/isochronlaw01.TimeAmong", spec := "timeAmong", apart := false }
def TimeAmongSaid : Prop := timeAmongRow.holds Try.pinned (OpenSpec.ofChange timeAmongSpec)

/-- ITS FALSE NEIGHBOUR: 'it returns false'. Refute it at one input. -/
def timeAmongWrong : ChangeSpec := { name := "timeAmong", fn := fun _ => fun
  | [d] => { results := [.lit (.bool false)], args := [d] }
  | _ => none }
def TimeAmongWrongFalsely : Prop := timeAmongRow.holds Try.pinned (OpenSpec.ofChange timeAmongWrong)

/-- 'isochronlaw01.TimeTwice': WHATEVER THE INPUT: true; the input reads as it did. -/
def timeTwiceSpec : ChangeSpec := { name := "timeTwice", fn := fun _ => fun
  | [d1, d2, d3] => { results := [.lit (.bool true)], args := [d1, d2, d3] }
  | _ => none }
def timeTwiceRow : OpenClaim := { program := "ytohfcfkkpbneoaa", sum := "6704df3745da2c2f75b23a5bc74c9cc54f1496808b853a6055fccffafe410622", func := "isochron/isochronlaw01.TimeTwice", spec := "timeTwice", apart := false }
def TimeTwiceSaid : Prop := timeTwiceRow.holds Try.pinned (OpenSpec.ofChange timeTwiceSpec)

/-- ITS FALSE NEIGHBOUR: 'it returns false'. Refute it at one input. -/
def timeTwiceWrong : ChangeSpec := { name := "timeTwice", fn := fun _ => fun
  | [d1, d2, d3] => { results := [.lit (.bool false)], args := [d1, d2, d3] }
  | _ => none }
def TimeTwiceWrongFalsely : Prop := timeTwiceRow.holds Try.pinned (OpenSpec.ofChange timeTwiceWrong)

/-- 'isochronlaw01.TimeWidths': WHATEVER THE INPUT: true; the input reads as it did. -/
def timeWidthsSpec : ChangeSpec := { name := "timeWidths", fn := fun _ => fun
  | [d1, d2, d3] => { results := [.lit (.bool true)], args := [d1, d2, d3] }
  | _ => none }
def timeWidthsRow : OpenClaim := { program := "ytohfcfkkpbneoaa", sum := "6704df3745da2c2f75b23a5bc74c9cc54f1496808b853a6055fccffafe410622", func := "isochron/isochronlaw01.TimeWidths", spec := "timeWidths", apart := false }
def TimeWidthsSaid : Prop := timeWidthsRow.holds Try.pinned (OpenSpec.ofChange timeWidthsSpec)

/-- ITS FALSE NEIGHBOUR: 'it returns false'. Refute it at one input. -/
def timeWidthsWrong : ChangeSpec := { name := "timeWidths", fn := fun _ => fun
  | [d1, d2, d3] => { results := [.lit (.bool false)], args := [d1, d2, d3] }
  | _ => none }
def TimeWidthsWrongFalsely : Prop := timeWidthsRow.holds Try.pinned (OpenSpec.ofChange timeWidthsWrong)

/- THE SECOND FORM. 'bulk': how many values and letters a reading holds, each counted each time it is reached (what is shared counts as often as it is met; a slice's spare places count too). A statement '..UptoSaid' is the law's where the arguments, and the package variables that the reading takes, are together of bulk at most 1048576: NARROWER than '..Said'. Prove '..Said' where nothing that the law and all that it calls make is longer than what came in: it says more and counts as full. Else prove '..UptoSaid'. A law counts once. -/
mutual
def uptoBulk {H : Type} : DataW H → Nat
  | .lit (.string bytes) => bytes.length + 1
  | .lit _ => 1
  | .nil => 1
  | .ptr d => uptoBulk d + 1
  | .slice elems spare => uptoBulkAll elems + uptoBulkAll spare + 1
  | .agg parts => uptoBulkAll parts + 1
  | .iface _ d => uptoBulk d + 1
  | .map entries => uptoBulkEntries entries + 1
  | .held _ => 1
def uptoBulkAll {H : Type} : List (DataW H) → Nat
  | [] => 0
  | d :: r => uptoBulk d + uptoBulkAll r
def uptoBulkEntries {H : Type} : List (Lit × DataW H) → Nat
  | [] => 0
  | x :: r => uptoBulkEntry x + uptoBulkEntries r
def uptoBulkEntry {H : Type} : Lit × DataW H → Nat
  | (.string bytes, d) => bytes.length + uptoBulk d + 1
  | (_, d) => uptoBulk d + 1
 end
def uptoSmall : (H : Type) → List (DataW H) → Bool := fun _ ds => decide (uptoBulkAll ds ≤ 1048576)
def OpenSpec.upto (s : _root_.Go.ChangeSpec) : _root_.Go.OpenSpec := { _root_.Go.OpenSpec.ofChange s with cond := some uptoSmall }

/-- 'isochronlaw01.TimeAdds', WHERE WHAT IT READS IS OF BULK AT MOST 1048576: true; the input reads as it did. -/
def timeAddsUptoRow : OpenClaim := { program := "ytohfcfkkpbneoaa", sum := "6704df3745da2c2f75b23a5bc74c9cc54f1496808b853a6055fccffafe410622", func := "isochron/isochronlaw01.TimeAdds", spec := "timeAdds", apart := false, narrowed := true }
def TimeAddsUptoSaid : Prop := timeAddsUptoRow.holds Try.pinned (OpenSpec.upto timeAddsSpec)

/-- 'isochronlaw01.TimeReaches', WHERE WHAT IT READS IS OF BULK AT MOST 1048576: true; the input reads as it did. -/
def timeReachesUptoRow : OpenClaim := { program := "ytohfcfkkpbneoaa", sum := "6704df3745da2c2f75b23a5bc74c9cc54f1496808b853a6055fccffafe410622", func := "isochron/isochronlaw01.TimeReaches", spec := "timeReaches", apart := false, narrowed := true }
def TimeReachesUptoSaid : Prop := timeReachesUptoRow.holds Try.pinned (OpenSpec.upto timeReachesSpec)

/-- 'isochronlaw01.TimeLeast', WHERE WHAT IT READS IS OF BULK AT MOST 1048576: true; the input reads as it did. -/
def timeLeastUptoRow : OpenClaim := { program := "ytohfcfkkpbneoaa", sum := "6704df3745da2c2f75b23a5bc74c9cc54f1496808b853a6055fccffafe410622", func := "isochron/isochronlaw01.TimeLeast", spec := "timeLeast", apart := false, narrowed := true }
def TimeLeastUptoSaid : Prop := timeLeastUptoRow.holds Try.pinned (OpenSpec.upto timeLeastSpec)

/-- 'isochronlaw01.TimeSteps', WHERE WHAT IT READS IS OF BULK AT MOST 1048576: true; the input reads as it did. -/
def timeStepsUptoRow : OpenClaim := { program := "ytohfcfkkpbneoaa", sum := "6704df3745da2c2f75b23a5bc74c9cc54f1496808b853a6055fccffafe410622", func := "isochron/isochronlaw01.TimeSteps", spec := "timeSteps", apart := false, narrowed := true }
def TimeStepsUptoSaid : Prop := timeStepsUptoRow.holds Try.pinned (OpenSpec.upto timeStepsSpec)

/-- 'isochronlaw01.TimeBack', WHERE WHAT IT READS IS OF BULK AT MOST 1048576: true; the input reads as it did. -/
def timeBackUptoRow : OpenClaim := { program := "ytohfcfkkpbneoaa", sum := "6704df3745da2c2f75b23a5bc74c9cc54f1496808b853a6055fccffafe410622", func := "isochron/isochronlaw01.TimeBack", spec := "timeBack", apart := false, narrowed := true }
def TimeBackUptoSaid : Prop := timeBackUptoRow.holds Try.pinned (OpenSpec.upto timeBackSpec)

/-- 'isochronlaw01.TimeRises', WHERE WHAT IT READS IS OF BULK AT MOST 1048576: true; the input reads as it did. -/
def timeRisesUptoRow : OpenClaim := { program := "ytohfcfkkpbneoaa", sum := "6704df3745da2c2f75b23a5bc74c9cc54f1496808b853a6055fccffafe410622", func := "isochron/isochronlaw01.TimeRises", spec := "timeRises", apart := false, narrowed := true }
def TimeRisesUptoSaid : Prop := timeRisesUptoRow.holds Try.pinned (OpenSpec.upto timeRisesSpec)

/-- 'isochronlaw01.TimeAmong', WHERE WHAT IT READS IS OF BULK AT MOST 1048576: true; the input reads as it did. -/
def timeAmongUptoRow : OpenClaim := { program := "ytohfcfkkpbneoaa", sum := "6704df3745da2c2f75b23a5bc74c9cc54f1496808b853a6055fccffafe410622", func := "isochron/isochronlaw01.TimeAmong", spec := "timeAmong", apart := false, narrowed := true }
def TimeAmongUptoSaid : Prop := timeAmongUptoRow.holds Try.pinned (OpenSpec.upto timeAmongSpec)

/-- 'isochronlaw01.TimeTwice', WHERE WHAT IT READS IS OF BULK AT MOST 1048576: true; the input reads as it did. -/
def timeTwiceUptoRow : OpenClaim := { program := "ytohfcfkkpbneoaa", sum := "6704df3745da2c2f75b23a5bc74c9cc54f1496808b853a6055fccffafe410622", func := "isochron/isochronlaw01.TimeTwice", spec := "timeTwice", apart := false, narrowed := true }
def TimeTwiceUptoSaid : Prop := timeTwiceUptoRow.holds Try.pinned (OpenSpec.upto timeTwiceSpec)

/-- 'isochronlaw01.TimeWidths', WHERE WHAT IT READS IS OF BULK AT MOST 1048576: true; the input reads as it did. -/
def timeWidthsUptoRow : OpenClaim := { program := "ytohfcfkkpbneoaa", sum := "6704df3745da2c2f75b23a5bc74c9cc54f1496808b853a6055fccffafe410622", func := "isochron/isochronlaw01.TimeWidths", spec := "timeWidths", apart := false, narrowed := true }
def TimeWidthsUptoSaid : Prop := timeWidthsUptoRow.holds Try.pinned (OpenSpec.upto timeWidthsSpec)

end Rows
end Go.Proofs.Ytohfcfkkpbneoaa
