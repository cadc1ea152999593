/-
  No cell of these rows narrows 'for every input' (looked for: loops, veiled, ifaces, maps, wideKeys, modest, calm, conditions, laid).
  DERIVED. THE GIVEN ROWS OF THIS SEAT. 5 by the template 'for every input the law returns true; each argument reads behind the call as it read before'; 0 by the template 'total and deterministic' (their statements: YtcfpfbemmklbaaaTotals.lean).
  GIVEN WITH THE SEED: the statements are not yours to turn. If you find one false, say at which input.
  Laid BY PROGRAM, IN A SANDBOX (cutbox-rows.mjs): the forced cells as the released guide's own fill.sh prints them over the translation d2de7c7bf36d3b3e… (all of the seat's roots in one cut). By AI agents, Wed Nov 11 2026. No macro, syntax, notation, axiom, sorry.
-/
import Derived.Test.YtcfpfbemmklbaaaChecked
import GoSem.Claim
import GoSem.ClaimJoined
import GoSem.ClaimMapViews
import Derived.JoinedTies
import Derived.KernelRfl
namespace Go.Proofs.Ytcfpfbemmklbaaa
/- THE CELL 'sum', in the pinned program and in every row, IS THE sha256 OF THE DUMP (.gsa) THAT YtcfpfbemmklbaaaProg.lean LOADS. Nothing in Lean hashes anything: it is a label: what it is worth is what the hold of that sum in a sandbox is worth. -/
noncomputable def Try.pinned : Pinned := { name := "ytcfpfbemmklbaaa", sum := "d2de7c7bf36d3b3e6804b425f57005d53022ba44b6a22241205321590363ac57", checked := Try.checked }
namespace Rows
def none {H : Type} : Left H := { results := [], args := [] }

/-- 'isochronlaw08.LadderPlays': WHATEVER THE INPUT: true; the input reads as it did. -/
def ladderPlaysSpec : ChangeSpec := { name := "ladderPlays", fn := fun _ => fun
  | [d1, d2] => { results := [.lit (.bool true)], args := [d1, d2] }
  | _ => none }
def ladderPlaysRow : OpenClaim := { program := "ytcfpfbemmklbaaa", sum := "d2de7c7bf36d3b3e6804b425f57005d53022ba44b6a22241205321590363ac57", func := "isochron/isochronlaw08.LadderPlays", spec := "ladderPlays", inPlace := ["slices.overlaps[isochron/api.Message]"], unfollowed := true, recurses := true, plainKeys := false, apart := false }
def LadderPlaysSaid : Prop := ladderPlaysRow.holds Try.pinned (OpenSpec.ofChange ladderPlaysSpec)

/-- ITS FALSE NEIGHBOUR: 'it returns false'. Refute it at one input. -/
def ladderPlaysWrong : ChangeSpec := { name := "ladderPlays", fn := fun _ => fun
  | [d1, d2] => { results := [.lit (.bool false)], args := [d1, d2] }
  | _ => none }
def LadderPlaysWrongFalsely : Prop := ladderPlaysRow.holds Try.pinned (OpenSpec.ofChange ladderPlaysWrong)

/-- 'isochronlaw08.LadderOrder': WHATEVER THE INPUT: true; the input reads as it did. -/
def ladderOrderSpec : ChangeSpec := { name := "ladderOrder", fn := fun _ => fun
  | [d1, d2] => { results := [.lit (.bool true)], args := [d1, d2] }
  | _ => none }
def ladderOrderRow : OpenClaim := { program := "ytcfpfbemmklbaaa", sum := "d2de7c7bf36d3b3e6804b425f57005d53022ba44b6a22241205321590363ac57", func := "isochron/isochronlaw08.LadderOrder", spec := "ladderOrder", inPlace := ["slices.overlaps[isochron/api.Message]"], unfollowed := true, recurses := true, plainKeys := false, apart := false }
def LadderOrderSaid : Prop := ladderOrderRow.holds Try.pinned (OpenSpec.ofChange ladderOrderSpec)

/-- ITS FALSE NEIGHBOUR: 'it returns false'. Refute it at one input. -/
def ladderOrderWrong : ChangeSpec := { name := "ladderOrder", fn := fun _ => fun
  | [d1, d2] => { results := [.lit (.bool false)], args := [d1, d2] }
  | _ => none }
def LadderOrderWrongFalsely : Prop := ladderOrderRow.holds Try.pinned (OpenSpec.ofChange ladderOrderWrong)

/-- 'isochronlaw08.LadderCuts': WHATEVER THE INPUT: true; the input reads as it did. -/
def ladderCutsSpec : ChangeSpec := { name := "ladderCuts", fn := fun _ => fun
  | [d1, d2, d3] => { results := [.lit (.bool true)], args := [d1, d2, d3] }
  | _ => none }
def ladderCutsRow : OpenClaim := { program := "ytcfpfbemmklbaaa", sum := "d2de7c7bf36d3b3e6804b425f57005d53022ba44b6a22241205321590363ac57", func := "isochron/isochronlaw08.LadderCuts", spec := "ladderCuts", inPlace := ["slices.overlaps[isochron/api.Message]"], unfollowed := true, recurses := true, plainKeys := false, apart := false }
def LadderCutsSaid : Prop := ladderCutsRow.holds Try.pinned (OpenSpec.ofChange ladderCutsSpec)

/-- ITS FALSE NEIGHBOUR: 'it returns false'. Refute it at one input. -/
def ladderCutsWrong : ChangeSpec := { name := "ladderCuts", fn := fun _ => fun
  | [d1, d2, d3] => { results := [.lit (.bool false)], args := [d1, d2, d3] }
  | _ => none }
def LadderCutsWrongFalsely : Prop := ladderCutsRow.holds Try.pinned (OpenSpec.ofChange ladderCutsWrong)

/-- 'isochronlaw08.LadderZero': WHATEVER THE INPUT: true; the input reads as it did. -/
def ladderZeroSpec : ChangeSpec := { name := "ladderZero", fn := fun _ => fun
  | [d] => { results := [.lit (.bool true)], args := [d] }
  | _ => none }
def ladderZeroRow : OpenClaim := { program := "ytcfpfbemmklbaaa", sum := "d2de7c7bf36d3b3e6804b425f57005d53022ba44b6a22241205321590363ac57", func := "isochron/isochronlaw08.LadderZero", spec := "ladderZero", inPlace := ["slices.overlaps[isochron/api.Message]"], unfollowed := true, recurses := true, plainKeys := false, apart := false }
def LadderZeroSaid : Prop := ladderZeroRow.holds Try.pinned (OpenSpec.ofChange ladderZeroSpec)

/-- ITS FALSE NEIGHBOUR: 'it returns false'. Refute it at one input. -/
def ladderZeroWrong : ChangeSpec := { name := "ladderZero", fn := fun _ => fun
  | [d] => { results := [.lit (.bool false)], args := [d] }
  | _ => none }
def LadderZeroWrongFalsely : Prop := ladderZeroRow.holds Try.pinned (OpenSpec.ofChange ladderZeroWrong)

/-- 'isochronlaw08.LadderTwice': WHATEVER THE INPUT: true; the input reads as it did. -/
def ladderTwiceSpec : ChangeSpec := { name := "ladderTwice", fn := fun _ => fun
  | [d1, d2, d3, d4] => { results := [.lit (.bool true)], args := [d1, d2, d3, d4] }
  | _ => none }
def ladderTwiceRow : OpenClaim := { program := "ytcfpfbemmklbaaa", sum := "d2de7c7bf36d3b3e6804b425f57005d53022ba44b6a22241205321590363ac57", func := "isochron/isochronlaw08.LadderTwice", spec := "ladderTwice", inPlace := ["slices.overlaps[isochron/api.Message]"], unfollowed := true, recurses := true, plainKeys := false, apart := false }
def LadderTwiceSaid : Prop := ladderTwiceRow.holds Try.pinned (OpenSpec.ofChange ladderTwiceSpec)

/-- ITS FALSE NEIGHBOUR: 'it returns false'. Refute it at one input. -/
def ladderTwiceWrong : ChangeSpec := { name := "ladderTwice", fn := fun _ => fun
  | [d1, d2, d3, d4] => { results := [.lit (.bool false)], args := [d1, d2, d3, d4] }
  | _ => none }
def LadderTwiceWrongFalsely : Prop := ladderTwiceRow.holds Try.pinned (OpenSpec.ofChange ladderTwiceWrong)

/- THE SECOND FORM. 'bulk': how many values and letters a reading holds, each counted each time it is reached (what is shared counts as often as it is met; a slice's spare places count too). A statement '..UptoSaid' is the law's where the arguments, and the package variables that the reading takes, are together of bulk at most 1048576: NARROWER than '..Said'. Prove '..Said' where nothing that the law and all that it calls make is longer than what came in: it says more and counts as full. Else prove '..UptoSaid'. A law counts once. -/
mutual
def uptoBulk {H : Type} : DataW H → Nat
  | .lit (.string bytes) => bytes.length + 1
  | .lit _ => 1
  | .nil => 1
  | .ptr d => uptoBulk d + 1
  | .slice elems spare => uptoBulkAll elems + uptoBulkAll spare + 1
  | .agg parts => uptoBulkAll parts + 1
  | .iface _ d => uptoBulk d + 1
  | .map entries => uptoBulkEntries entries + 1
  | .held _ => 1
def uptoBulkAll {H : Type} : List (DataW H) → Nat
  | [] => 0
  | d :: r => uptoBulk d + uptoBulkAll r
def uptoBulkEntries {H : Type} : List (Lit × DataW H) → Nat
  | [] => 0
  | x :: r => uptoBulkEntry x + uptoBulkEntries r
def uptoBulkEntry {H : Type} : Lit × DataW H → Nat
  | (.string bytes, d) => bytes.length + uptoBulk d + 1
  | (_, d) => uptoBulk d + 1
 end
def uptoSmall : (H : Type) → List (DataW H) → Bool := fun _ ds => decide (uptoBulkAll ds ≤ 1048576)
def OpenSpec.upto (s : _root_.Go.ChangeSpec) : _root_.Go.OpenSpec := { _root_.Go.OpenSpec.ofChange s with cond := some uptoSmall }

/-- 'isochronlaw08.LadderPlays', WHERE WHAT IT READS IS OF BULK AT MOST 1048576: true; the input reads as it did. -/
def ladderPlaysUptoRow : OpenClaim := { program := "ytcfpfbemmklbaaa", sum := "d2de7c7bf36d3b3e6804b425f57005d53022ba44b6a22241205321590363ac57", func := "isochron/isochronlaw08.LadderPlays", spec := "ladderPlays", inPlace := ["slices.overlaps[isochron/api.Message]"], unfollowed := true, recurses := true, plainKeys := false, apart := false, narrowed := true }
def LadderPlaysUptoSaid : Prop := ladderPlaysUptoRow.holds Try.pinned (OpenSpec.upto ladderPlaysSpec)

/-- 'isochronlaw08.LadderOrder', WHERE WHAT IT READS IS OF BULK AT MOST 1048576: true; the input reads as it did. -/
def ladderOrderUptoRow : OpenClaim := { program := "ytcfpfbemmklbaaa", sum := "d2de7c7bf36d3b3e6804b425f57005d53022ba44b6a22241205321590363ac57", func := "isochron/isochronlaw08.LadderOrder", spec := "ladderOrder", inPlace := ["slices.overlaps[isochron/api.Message]"], unfollowed := true, recurses := true, plainKeys := false, apart := false, narrowed := true }
def LadderOrderUptoSaid : Prop := ladderOrderUptoRow.holds Try.pinned (OpenSpec.upto ladderOrderSpec)

/-- 'isochronlaw08.LadderCuts', WHERE WHAT IT READS IS OF BULK AT MOST 1048576: true; the input reads as it did. -/
def ladderCutsUptoRow : OpenClaim := { program := "ytcfpfbemmklbaaa", sum := "d2de7c7bf36d3b3e6804b425f57005d53022ba44b6a22241205321590363ac57", func := "isochron/isochronlaw08.LadderCuts", spec := "ladderCuts", inPlace := ["slices.overlaps[isochron/api.Message]"], unfollowed := true, recurses := true, plainKeys := false, apart := false, narrowed := true }
def LadderCutsUptoSaid : Prop := ladderCutsUptoRow.holds Try.pinned (OpenSpec.upto ladderCutsSpec)

/-- 'isochronlaw08.LadderZero', WHERE WHAT IT READS IS OF BULK AT MOST 1048576: true; the input reads as it did. -/
def ladderZeroUptoRow : OpenClaim := { program := "ytcfpfbemmklbaaa", sum := "d2de7c7bf36d3b3e6804b425f57005d53022ba44b6a22241205321590363ac57", func := "isochron/isochronlaw08.LadderZero", spec := "ladderZero", inPlace := ["slices.overlaps[isochron/api.Message]"], unfollowed := true, recurses := true, plainKeys := false, apart := false, narrowed := true }
def LadderZeroUptoSaid : Prop := ladderZeroUptoRow.holds Try.pinned (OpenSpec.upto ladderZeroSpec)

/-- 'isochronlaw08.LadderTwice', WHERE WHAT IT READS IS OF BULK AT MOST 1048576: true; the input reads as it did. -/
def ladderTwiceUptoRow : OpenClaim := { program := "ytcfpfbemmklbaaa", sum := "d2de7c7bf36d3b3e6804b425f57005d53022ba44b6a22241205321590363ac57", func := "isochron/isochronlaw08.LadderTwice", spec := "ladderTwice", inPlace := ["slices.overlaps[isochron/api.Message]"], unfollowed := true, recurses := true, plainKeys := false, apart := false, narrowed := true }
def LadderTwiceUptoSaid : Prop := ladderTwiceUptoRow.holds Try.pinned (OpenSpec.upto ladderTwiceSpec)

end Rows
end Go.Proofs.Ytcfpfbemmklbaaa
