/-
  No cell of these rows narrows 'for every input' (looked for: loops, veiled, ifaces, maps, wideKeys, modest, calm, conditions, laid).
  DERIVED. THE GIVEN ROWS OF THIS SEAT. 4 by the template 'for every input the law returns true; each argument reads behind the call as it read before'; 0 by the template 'total and deterministic' (their statements: YtobfjfmaicmkdaaTotals.lean).
  GIVEN WITH THE SEED: the statements are not yours to turn. If you find one false, say at which input.
  Laid BY PROGRAM, IN A SANDBOX (cutbox-rows.mjs): the forced cells as the released guide's own fill.sh prints them over the translation 9b7b1142d6437cdf… (all of the seat's roots in one cut). By AI agents, Wed Nov 11 2026. No macro, syntax, notation, axiom, sorry.
-/
import Derived.Test.YtobfjfmaicmkdaaChecked
import GoSem.Claim
import GoSem.ClaimJoined
import GoSem.ClaimMapViews
import Derived.JoinedTies
import Derived.KernelRfl
namespace Go.Proofs.Ytobfjfmaicmkdaa
/- THE CELL 'sum', in the pinned program and in every row, IS THE sha256 OF THE DUMP (.gsa) THAT YtobfjfmaicmkdaaProg.lean LOADS. Nothing in Lean hashes anything: it is a label: what it is worth is what the hold of that sum in a sandbox is worth. -/
noncomputable def Try.pinned : Pinned := { name := "ytobfjfmaicmkdaa", sum := "9b7b1142d6437cdf6661c916053758d9ca1ad5c2f3ae5a95754fe96c488594c4", checked := Try.checked }
namespace Rows
def none {H : Type} : Left H := { results := [], args := [] }

/-- 'isochronlaw12.ColourPlays': WHATEVER THE INPUT: true; the input reads as it did. -/
def colourPlaysSpec : ChangeSpec := { name := "colourPlays", fn := fun _ => fun
  | [d1, d2] => { results := [.lit (.bool true)], args := [d1, d2] }
  | _ => none }
def colourPlaysRow : OpenClaim := { program := "ytobfjfmaicmkdaa", sum := "9b7b1142d6437cdf6661c916053758d9ca1ad5c2f3ae5a95754fe96c488594c4", func := "isochron/isochronlaw12.ColourPlays", spec := "colourPlays", unfollowed := true, recurses := true, apart := false }
def ColourPlaysSaid : Prop := colourPlaysRow.holds Try.pinned (OpenSpec.ofChange colourPlaysSpec)

/-- ITS FALSE NEIGHBOUR: 'it returns false'. Refute it at one input. -/
def colourPlaysWrong : ChangeSpec := { name := "colourPlays", fn := fun _ => fun
  | [d1, d2] => { results := [.lit (.bool false)], args := [d1, d2] }
  | _ => none }
def ColourPlaysWrongFalsely : Prop := colourPlaysRow.holds Try.pinned (OpenSpec.ofChange colourPlaysWrong)

/-- 'isochronlaw12.ColourSafe': WHATEVER THE INPUT: true; the input reads as it did. -/
def colourSafeSpec : ChangeSpec := { name := "colourSafe", fn := fun _ => fun
  | [d1, d2, d3] => { results := [.lit (.bool true)], args := [d1, d2, d3] }
  | _ => none }
def colourSafeRow : OpenClaim := { program := "ytobfjfmaicmkdaa", sum := "9b7b1142d6437cdf6661c916053758d9ca1ad5c2f3ae5a95754fe96c488594c4", func := "isochron/isochronlaw12.ColourSafe", spec := "colourSafe", unfollowed := true, recurses := true, apart := false }
def ColourSafeSaid : Prop := colourSafeRow.holds Try.pinned (OpenSpec.ofChange colourSafeSpec)

/-- ITS FALSE NEIGHBOUR: 'it returns false'. Refute it at one input. -/
def colourSafeWrong : ChangeSpec := { name := "colourSafe", fn := fun _ => fun
  | [d1, d2, d3] => { results := [.lit (.bool false)], args := [d1, d2, d3] }
  | _ => none }
def ColourSafeWrongFalsely : Prop := colourSafeRow.holds Try.pinned (OpenSpec.ofChange colourSafeWrong)

/-- 'isochronlaw12.ColourEnds': WHATEVER THE INPUT: true; the input reads as it did. -/
def colourEndsSpec : ChangeSpec := { name := "colourEnds", fn := fun _ => fun
  | [d] => { results := [.lit (.bool true)], args := [d] }
  | _ => none }
def colourEndsRow : OpenClaim := { program := "ytobfjfmaicmkdaa", sum := "9b7b1142d6437cdf6661c916053758d9ca1ad5c2f3ae5a95754fe96c488594c4", func := "isochron/isochronlaw12.ColourEnds", spec := "colourEnds", unfollowed := true, recurses := true, apart := false }
def ColourEndsSaid : Prop := colourEndsRow.holds Try.pinned (OpenSpec.ofChange colourEndsSpec)

/-- ITS FALSE NEIGHBOUR: 'it returns false'. Refute it at one input. -/
def colourEndsWrong : ChangeSpec := { name := "colourEnds", fn := fun _ => fun
  | [d] => { results := [.lit (.bool false)], args := [d] }
  | _ => none }
def ColourEndsWrongFalsely : Prop := colourEndsRow.holds Try.pinned (OpenSpec.ofChange colourEndsWrong)

/-- 'isochronlaw12.ColourCounts': WHATEVER THE INPUT: true; the input reads as it did. -/
def colourCountsSpec : ChangeSpec := { name := "colourCounts", fn := fun _ => fun
  | [d] => { results := [.lit (.bool true)], args := [d] }
  | _ => none }
def colourCountsRow : OpenClaim := { program := "ytobfjfmaicmkdaa", sum := "9b7b1142d6437cdf6661c916053758d9ca1ad5c2f3ae5a95754fe96c488594c4", func := "isochron/isochronlaw12.ColourCounts", spec := "colourCounts", apart := false }
def ColourCountsSaid : Prop := colourCountsRow.holds Try.pinned (OpenSpec.ofChange colourCountsSpec)

/-- ITS FALSE NEIGHBOUR: 'it returns false'. Refute it at one input. -/
def colourCountsWrong : ChangeSpec := { name := "colourCounts", fn := fun _ => fun
  | [d] => { results := [.lit (.bool false)], args := [d] }
  | _ => none }
def ColourCountsWrongFalsely : Prop := colourCountsRow.holds Try.pinned (OpenSpec.ofChange colourCountsWrong)

/- THE SECOND FORM. 'bulk': how many values and letters a reading holds, each counted each time it is reached (what is shared counts as often as it is met; a slice's spare places count too). A statement '..UptoSaid' is the law's where the arguments, and the package variables that the reading takes, are together of bulk at most 1048576: NARROWER than '..Said'. Prove '..Said' where nothing that the law and all that it calls make is longer than what came in: it says more and counts as full. Else prove '..UptoSaid'. A law counts once. -/
mutual
def uptoBulk {H : Type} : DataW H → Nat
  | .lit (.string bytes) => bytes.length + 1
  | .lit _ => 1
  | .nil => 1
  | .ptr d => uptoBulk d + 1
  | .slice elems spare => uptoBulkAll elems + uptoBulkAll spare + 1
  | .agg parts => uptoBulkAll parts + 1
  | .iface _ d => uptoBulk d + 1
  | .map entries => uptoBulkEntries entries + 1
  | .held _ => 1
def uptoBulkAll {H : Type} : List (DataW H) → Nat
  | [] => 0
  | d :: r => uptoBulk d + uptoBulkAll r
def uptoBulkEntries {H : Type} : List (Lit × DataW H) → Nat
  | [] => 0
  | x :: r => uptoBulkEntry x + uptoBulkEntries r
def uptoBulkEntry {H : Type} : Lit × DataW H → Nat
  | (.string bytes, d) => bytes.length + uptoBulk d + 1
  | (_, d) => uptoBulk d + 1
 end
def uptoSmall : (H : Type) → List (DataW H) → Bool := fun _ ds => decide (uptoBulkAll ds ≤ 1048576)
def OpenSpec.upto (s : _root_.Go.ChangeSpec) : _root_.Go.OpenSpec := { _root_.Go.OpenSpec.ofChange s with cond := some uptoSmall }

/-- 'isochronlaw12.ColourPlays', WHERE WHAT IT READS IS OF BULK AT MOST 1048576: true; the input reads as it did. -/
def colourPlaysUptoRow : OpenClaim := { program := "ytobfjfmaicmkdaa", sum := "9b7b1142d6437cdf6661c916053758d9ca1ad5c2f3ae5a95754fe96c488594c4", func := "isochron/isochronlaw12.ColourPlays", spec := "colourPlays", unfollowed := true, recurses := true, apart := false, narrowed := true }
def ColourPlaysUptoSaid : Prop := colourPlaysUptoRow.holds Try.pinned (OpenSpec.upto colourPlaysSpec)

/-- 'isochronlaw12.ColourSafe', WHERE WHAT IT READS IS OF BULK AT MOST 1048576: true; the input reads as it did. -/
def colourSafeUptoRow : OpenClaim := { program := "ytobfjfmaicmkdaa", sum := "9b7b1142d6437cdf6661c916053758d9ca1ad5c2f3ae5a95754fe96c488594c4", func := "isochron/isochronlaw12.ColourSafe", spec := "colourSafe", unfollowed := true, recurses := true, apart := false, narrowed := true }
def ColourSafeUptoSaid : Prop := colourSafeUptoRow.holds Try.pinned (OpenSpec.upto colourSafeSpec)

/-- 'isochronlaw12.ColourEnds', WHERE WHAT IT READS IS OF BULK AT MOST 1048576: true; the input reads as it did. -/
def colourEndsUptoRow : OpenClaim := { program := "ytobfjfmaicmkdaa", sum := "9b7b1142d6437cdf6661c916053758d9ca1ad5c2f3ae5a95754fe96c488594c4", func := "isochron/isochronlaw12.ColourEnds", spec := "colourEnds", unfollowed := true, recurses := true, apart := false, narrowed := true }
def ColourEndsUptoSaid : Prop := colourEndsUptoRow.holds Try.pinned (OpenSpec.upto colourEndsSpec)

/-- 'isochronlaw12.ColourCounts', WHERE WHAT IT READS IS OF BULK AT MOST 1048576: true; the input reads as it did. -/
def colourCountsUptoRow : OpenClaim := { program := "ytobfjfmaicmkdaa", sum := "9b7b1142d6437cdf6661c916053758d9ca1ad5c2f3ae5a95754fe96c488594c4", func := "isochron/isochronlaw12.ColourCounts", spec := "colourCounts", apart := false, narrowed := true }
def ColourCountsUptoSaid : Prop := colourCountsUptoRow.holds Try.pinned (OpenSpec.upto colourCountsSpec)

end Rows
end Go.Proofs.Ytobfjfmaicmkdaa
