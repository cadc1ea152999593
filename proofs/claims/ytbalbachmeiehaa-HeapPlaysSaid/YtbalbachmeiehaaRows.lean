/-
  No cell of these rows narrows 'for every input' (looked for: loops, veiled, ifaces, maps, wideKeys, modest, calm, conditions, laid).
  DERIVED. THE GIVEN ROWS OF THIS SEAT. 5 by the template 'for every input the law returns true; each argument reads behind the call as it read before'; 0 by the template 'total and deterministic' (their statements: YtbalbachmeiehaaTotals.lean).
  GIVEN WITH THE SEED: the statements are not yours to turn. If you find one false, say at which input.
  Laid BY PROGRAM, IN A SANDBOX (cutbox-rows.mjs): the forced cells as the released guide's own fill.sh prints them over the translation c8254cd8938f97dd… (all of the seat's roots in one cut). By AI agents, Wed Nov 11 2026. No macro, syntax, notation, axiom, sorry.
-/
import Derived.Test.YtbalbachmeiehaaChecked
import GoSem.Claim
import GoSem.ClaimJoined
import GoSem.ClaimMapViews
import Derived.JoinedTies
import Derived.KernelRfl
namespace Go.Proofs.Ytbalbachmeiehaa
/- THE CELL 'sum', in the pinned program and in every row, IS THE sha256 OF THE DUMP (.gsa) THAT YtbalbachmeiehaaProg.lean LOADS. Nothing in Lean hashes anything: it is a label: what it is worth is what the hold of that sum in a sandbox is worth. -/
noncomputable def Try.pinned : Pinned := { name := "ytbalbachmeiehaa", sum := "c8254cd8938f97ddd3acd1ac10f1259fda3417e5a04309a3e75c0e19f3400cee", checked := Try.checked }
namespace Rows
def none {H : Type} : Left H := { results := [], args := [] }

/-- 'isochronlaw06.HeapPlays': WHATEVER THE INPUT: true; the input reads as it did. -/
def heapPlaysSpec : ChangeSpec := { name := "heapPlays", fn := fun _ => fun
  | [d] => { results := [.lit (.bool true)], args := [d] }
  | _ => none }
def heapPlaysRow : OpenClaim := { program := "ytbalbachmeiehaa", sum := "c8254cd8938f97ddd3acd1ac10f1259fda3417e5a04309a3e75c0e19f3400cee", func := "isochron/isochronlaw06.HeapPlays", spec := "heapPlays", unfollowed := true, recurses := true, plainKeys := false, apart := false }
def HeapPlaysSaid : Prop := heapPlaysRow.holds Try.pinned (OpenSpec.ofChange heapPlaysSpec)

/-- ITS FALSE NEIGHBOUR: 'it returns false'. Refute it at one input. -/
def heapPlaysWrong : ChangeSpec := { name := "heapPlays", fn := fun _ => fun
  | [d] => { results := [.lit (.bool false)], args := [d] }
  | _ => none }
def HeapPlaysWrongFalsely : Prop := heapPlaysRow.holds Try.pinned (OpenSpec.ofChange heapPlaysWrong)

/-- 'isochronlaw06.HeapOrder': WHATEVER THE INPUT: true; the input reads as it did. -/
def heapOrderSpec : ChangeSpec := { name := "heapOrder", fn := fun _ => fun
  | [d] => { results := [.lit (.bool true)], args := [d] }
  | _ => none }
def heapOrderRow : OpenClaim := { program := "ytbalbachmeiehaa", sum := "c8254cd8938f97ddd3acd1ac10f1259fda3417e5a04309a3e75c0e19f3400cee", func := "isochron/isochronlaw06.HeapOrder", spec := "heapOrder", unfollowed := true, recurses := true, plainKeys := false, apart := false }
def HeapOrderSaid : Prop := heapOrderRow.holds Try.pinned (OpenSpec.ofChange heapOrderSpec)

/-- ITS FALSE NEIGHBOUR: 'it returns false'. Refute it at one input. -/
def heapOrderWrong : ChangeSpec := { name := "heapOrder", fn := fun _ => fun
  | [d] => { results := [.lit (.bool false)], args := [d] }
  | _ => none }
def HeapOrderWrongFalsely : Prop := heapOrderRow.holds Try.pinned (OpenSpec.ofChange heapOrderWrong)

/-- 'isochronlaw06.HeapCuts': WHATEVER THE INPUT: true; the input reads as it did. -/
def heapCutsSpec : ChangeSpec := { name := "heapCuts", fn := fun _ => fun
  | [d1, d2] => { results := [.lit (.bool true)], args := [d1, d2] }
  | _ => none }
def heapCutsRow : OpenClaim := { program := "ytbalbachmeiehaa", sum := "c8254cd8938f97ddd3acd1ac10f1259fda3417e5a04309a3e75c0e19f3400cee", func := "isochron/isochronlaw06.HeapCuts", spec := "heapCuts", unfollowed := true, recurses := true, plainKeys := false, apart := false }
def HeapCutsSaid : Prop := heapCutsRow.holds Try.pinned (OpenSpec.ofChange heapCutsSpec)

/-- ITS FALSE NEIGHBOUR: 'it returns false'. Refute it at one input. -/
def heapCutsWrong : ChangeSpec := { name := "heapCuts", fn := fun _ => fun
  | [d1, d2] => { results := [.lit (.bool false)], args := [d1, d2] }
  | _ => none }
def HeapCutsWrongFalsely : Prop := heapCutsRow.holds Try.pinned (OpenSpec.ofChange heapCutsWrong)

/-- 'isochronlaw06.HeapZero': WHATEVER THE INPUT: true; the input reads as it did. -/
def heapZeroSpec : ChangeSpec := { name := "heapZero", fn := fun _ => fun
  | [d] => { results := [.lit (.bool true)], args := [d] }
  | _ => none }
def heapZeroRow : OpenClaim := { program := "ytbalbachmeiehaa", sum := "c8254cd8938f97ddd3acd1ac10f1259fda3417e5a04309a3e75c0e19f3400cee", func := "isochron/isochronlaw06.HeapZero", spec := "heapZero", unfollowed := true, recurses := true, plainKeys := false, apart := false }
def HeapZeroSaid : Prop := heapZeroRow.holds Try.pinned (OpenSpec.ofChange heapZeroSpec)

/-- ITS FALSE NEIGHBOUR: 'it returns false'. Refute it at one input. -/
def heapZeroWrong : ChangeSpec := { name := "heapZero", fn := fun _ => fun
  | [d] => { results := [.lit (.bool false)], args := [d] }
  | _ => none }
def HeapZeroWrongFalsely : Prop := heapZeroRow.holds Try.pinned (OpenSpec.ofChange heapZeroWrong)

/-- 'isochronlaw06.HeapTwice': WHATEVER THE INPUT: true; the input reads as it did. -/
def heapTwiceSpec : ChangeSpec := { name := "heapTwice", fn := fun _ => fun
  | [d1, d2, d3] => { results := [.lit (.bool true)], args := [d1, d2, d3] }
  | _ => none }
def heapTwiceRow : OpenClaim := { program := "ytbalbachmeiehaa", sum := "c8254cd8938f97ddd3acd1ac10f1259fda3417e5a04309a3e75c0e19f3400cee", func := "isochron/isochronlaw06.HeapTwice", spec := "heapTwice", unfollowed := true, recurses := true, plainKeys := false, apart := false }
def HeapTwiceSaid : Prop := heapTwiceRow.holds Try.pinned (OpenSpec.ofChange heapTwiceSpec)

/-- ITS FALSE NEIGHBOUR: 'it returns false'. Refute it at one input. -/
def heapTwiceWrong : ChangeSpec := { name := "heapTwice", fn := fun _ => fun
  | [d1, d2, d3] => { results := [.lit (.bool false)], args := [d1, d2, d3] }
  | _ => none }
def HeapTwiceWrongFalsely : Prop := heapTwiceRow.holds Try.pinned (OpenSpec.ofChange heapTwiceWrong)

/- THE SECOND FORM. 'bulk': how many values and letters a reading holds, each counted each time it is reached (what is shared counts as often as it is met; a slice's spare places count too). A statement '..UptoSaid' is the law's where the arguments, and the package variables that the reading takes, are together of bulk at most 1048576: NARROWER than '..Said'. Prove '..Said' where nothing that the law and all that it calls make is longer than what came in: it says more and counts as full. Else prove '..UptoSaid'. A law counts once. -/
mutual
def uptoBulk {H : Type} : DataW H → Nat
  | .lit (.string bytes) => bytes.length + 1
  | .lit _ => 1
  | .nil => 1
  | .ptr d => uptoBulk d + 1
  | .slice elems spare => uptoBulkAll elems + uptoBulkAll spare + 1
  | .agg parts => uptoBulkAll parts + 1
  | .iface _ d => uptoBulk d + 1
  | .map entries => uptoBulkEntries entries + 1
  | .held _ => 1
def uptoBulkAll {H : Type} : List (DataW H) → Nat
  | [] => 0
  | d :: r => uptoBulk d + uptoBulkAll r
def uptoBulkEntries {H : Type} : List (Lit × DataW H) → Nat
  | [] => 0
  | x :: r => uptoBulkEntry x + uptoBulkEntries r
def uptoBulkEntry {H : Type} : Lit × DataW H → Nat
  | (.string bytes, d) => bytes.length + uptoBulk d + 1
  | (_, d) => uptoBulk d + 1
 end
def uptoSmall : (H : Type) → List (DataW H) → Bool := fun _ ds => decide (uptoBulkAll ds ≤ 1048576)
def OpenSpec.upto (s : _root_.Go.ChangeSpec) : _root_.Go.OpenSpec := { _root_.Go.OpenSpec.ofChange s with cond := some uptoSmall }

/-- 'isochronlaw06.HeapPlays', WHERE WHAT IT READS IS OF BULK AT MOST 1048576: true; the input reads as it did. -/
def heapPlaysUptoRow : OpenClaim := { program := "ytbalbachmeiehaa", sum := "c8254cd8938f97ddd3acd1ac10f1259fda3417e5a04309a3e75c0e19f3400cee", func := "isochron/isochronlaw06.HeapPlays", spec := "heapPlays", unfollowed := true, recurses := true, plainKeys := false, apart := false, narrowed := true }
def HeapPlaysUptoSaid : Prop := heapPlaysUptoRow.holds Try.pinned (OpenSpec.upto heapPlaysSpec)

/-- 'isochronlaw06.HeapOrder', WHERE WHAT IT READS IS OF BULK AT MOST 1048576: true; the input reads as it did. -/
def heapOrderUptoRow : OpenClaim := { program := "ytbalbachmeiehaa", sum := "c8254cd8938f97ddd3acd1ac10f1259fda3417e5a04309a3e75c0e19f3400cee", func := "isochron/isochronlaw06.HeapOrder", spec := "heapOrder", unfollowed := true, recurses := true, plainKeys := false, apart := false, narrowed := true }
def HeapOrderUptoSaid : Prop := heapOrderUptoRow.holds Try.pinned (OpenSpec.upto heapOrderSpec)

/-- 'isochronlaw06.HeapCuts', WHERE WHAT IT READS IS OF BULK AT MOST 1048576: true; the input reads as it did. -/
def heapCutsUptoRow : OpenClaim := { program := "ytbalbachmeiehaa", sum := "c8254cd8938f97ddd3acd1ac10f1259fda3417e5a04309a3e75c0e19f3400cee", func := "isochron/isochronlaw06.HeapCuts", spec := "heapCuts", unfollowed := true, recurses := true, plainKeys := false, apart := false, narrowed := true }
def HeapCutsUptoSaid : Prop := heapCutsUptoRow.holds Try.pinned (OpenSpec.upto heapCutsSpec)

/-- 'isochronlaw06.HeapZero', WHERE WHAT IT READS IS OF BULK AT MOST 1048576: true; the input reads as it did. -/
def heapZeroUptoRow : OpenClaim := { program := "ytbalbachmeiehaa", sum := "c8254cd8938f97ddd3acd1ac10f1259fda3417e5a04309a3e75c0e19f3400cee", func := "isochron/isochronlaw06.HeapZero", spec := "heapZero", unfollowed := true, recurses := true, plainKeys := false, apart := false, narrowed := true }
def HeapZeroUptoSaid : Prop := heapZeroUptoRow.holds Try.pinned (OpenSpec.upto heapZeroSpec)

/-- 'isochronlaw06.HeapTwice', WHERE WHAT IT READS IS OF BULK AT MOST 1048576: true; the input reads as it did. -/
def heapTwiceUptoRow : OpenClaim := { program := "ytbalbachmeiehaa", sum := "c8254cd8938f97ddd3acd1ac10f1259fda3417e5a04309a3e75c0e19f3400cee", func := "isochron/isochronlaw06.HeapTwice", spec := "heapTwice", unfollowed := true, recurses := true, plainKeys := false, apart := false, narrowed := true }
def HeapTwiceUptoSaid : Prop := heapTwiceUptoRow.holds Try.pinned (OpenSpec.upto heapTwiceSpec)

end Rows
end Go.Proofs.Ytbalbachmeiehaa
