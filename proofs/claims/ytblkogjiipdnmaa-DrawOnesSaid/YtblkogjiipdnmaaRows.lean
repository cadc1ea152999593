/-
  No cell of these rows narrows 'for every input' (looked for: loops, veiled, ifaces, maps, wideKeys, modest, calm, conditions, laid).
  DERIVED. THE GIVEN ROWS OF THIS SEAT. 7 by the template 'for every input the law returns true; each argument reads behind the call as it read before'; 0 by the template 'total and deterministic' (their statements: YtblkogjiipdnmaaTotals.lean).
  GIVEN WITH THE SEED: the statements are not yours to turn. If you find one false, say at which input.
  Laid BY PROGRAM, IN A SANDBOX (cutbox-rows.mjs): the forced cells as the released guide's own fill.sh prints them over the translation 2f343d013552fd3c… (all of the seat's roots in one cut). By AI agents, Wed Nov 11 2026. No macro, syntax, notation, axiom, sorry.
-/
import Derived.Test.YtblkogjiipdnmaaChecked
import GoSem.Claim
import GoSem.ClaimJoined
import GoSem.ClaimMapViews
import Derived.JoinedTies
import Derived.KernelRfl
namespace Go.Proofs.Ytblkogjiipdnmaa
/- THE CELL 'sum', in the pinned program and in every row, IS THE sha256 OF THE DUMP (.gsa) THAT YtblkogjiipdnmaaProg.lean LOADS. Nothing in Lean hashes anything: it is a label: what it is worth is what the hold of that sum in a sandbox is worth. -/
noncomputable def Try.pinned : Pinned := { name := "ytblkogjiipdnmaa", sum := "2f343d013552fd3cf311aaa1d933347b31b2d6c695e9c2c6a9e80a563488198d", checked := Try.checked }
namespace Rows
def none {H : Type} : Left H := { results := [], args := [] }

/-- 'isochronlaw04.DrawMixes': WHATEVER THE INPUT: true; the input reads as it did. -/
def drawMixesSpec : ChangeSpec := { name := "drawMixes", fn := fun _ => fun
  | [d] => { results := [.lit (.bool true)], args := [d] }
  | _ => none }
def drawMixesRow : OpenClaim := { program := "ytblkogjiipdnmaa", sum := "2f343d013552fd3cf311aaa1d933347b31b2d6c695e9c2c6a9e80a563488198d", func := "isochron/isochronlaw04.DrawMixes", spec := "drawMixes", unfollowed := true, recurses := true, apart := false }
def DrawMixesSaid : Prop := drawMixesRow.holds Try.pinned (OpenSpec.ofChange drawMixesSpec)

/-- ITS FALSE NEIGHBOUR: 'it returns false'. Refute it at one input. -/
def drawMixesWrong : ChangeSpec := { name := "drawMixes", fn := fun _ => fun
  | [d] => { results := [.lit (.bool false)], args := [d] }
  | _ => none }
def DrawMixesWrongFalsely : Prop := drawMixesRow.holds Try.pinned (OpenSpec.ofChange drawMixesWrong)

/-- 'isochronlaw04.DrawAt': WHATEVER THE INPUT: true; the input reads as it did. -/
def drawAtSpec : ChangeSpec := { name := "drawAt", fn := fun _ => fun
  | [d1, d2, d3] => { results := [.lit (.bool true)], args := [d1, d2, d3] }
  | _ => none }
def drawAtRow : OpenClaim := { program := "ytblkogjiipdnmaa", sum := "2f343d013552fd3cf311aaa1d933347b31b2d6c695e9c2c6a9e80a563488198d", func := "isochron/isochronlaw04.DrawAt", spec := "drawAt", unfollowed := true, recurses := true, apart := false }
def DrawAtSaid : Prop := drawAtRow.holds Try.pinned (OpenSpec.ofChange drawAtSpec)

/-- ITS FALSE NEIGHBOUR: 'it returns false'. Refute it at one input. -/
def drawAtWrong : ChangeSpec := { name := "drawAt", fn := fun _ => fun
  | [d1, d2, d3] => { results := [.lit (.bool false)], args := [d1, d2, d3] }
  | _ => none }
def DrawAtWrongFalsely : Prop := drawAtRow.holds Try.pinned (OpenSpec.ofChange drawAtWrong)

/-- 'isochronlaw04.DrawBelow': WHATEVER THE INPUT: true; the input reads as it did. -/
def drawBelowSpec : ChangeSpec := { name := "drawBelow", fn := fun _ => fun
  | [d1, d2, d3, d4] => { results := [.lit (.bool true)], args := [d1, d2, d3, d4] }
  | _ => none }
def drawBelowRow : OpenClaim := { program := "ytblkogjiipdnmaa", sum := "2f343d013552fd3cf311aaa1d933347b31b2d6c695e9c2c6a9e80a563488198d", func := "isochron/isochronlaw04.DrawBelow", spec := "drawBelow", unfollowed := true, recurses := true, apart := false }
def DrawBelowSaid : Prop := drawBelowRow.holds Try.pinned (OpenSpec.ofChange drawBelowSpec)

/-- ITS FALSE NEIGHBOUR: 'it returns false'. Refute it at one input. -/
def drawBelowWrong : ChangeSpec := { name := "drawBelow", fn := fun _ => fun
  | [d1, d2, d3, d4] => { results := [.lit (.bool false)], args := [d1, d2, d3, d4] }
  | _ => none }
def DrawBelowWrongFalsely : Prop := drawBelowRow.holds Try.pinned (OpenSpec.ofChange drawBelowWrong)

/-- 'isochronlaw04.DrawBound': WHATEVER THE INPUT: true; the input reads as it did. -/
def drawBoundSpec : ChangeSpec := { name := "drawBound", fn := fun _ => fun
  | [d1, d2, d3, d4] => { results := [.lit (.bool true)], args := [d1, d2, d3, d4] }
  | _ => none }
def drawBoundRow : OpenClaim := { program := "ytblkogjiipdnmaa", sum := "2f343d013552fd3cf311aaa1d933347b31b2d6c695e9c2c6a9e80a563488198d", func := "isochron/isochronlaw04.DrawBound", spec := "drawBound", unfollowed := true, recurses := true, apart := false }
def DrawBoundSaid : Prop := drawBoundRow.holds Try.pinned (OpenSpec.ofChange drawBoundSpec)

/-- ITS FALSE NEIGHBOUR: 'it returns false'. Refute it at one input. -/
def drawBoundWrong : ChangeSpec := { name := "drawBound", fn := fun _ => fun
  | [d1, d2, d3, d4] => { results := [.lit (.bool false)], args := [d1, d2, d3, d4] }
  | _ => none }
def DrawBoundWrongFalsely : Prop := drawBoundRow.holds Try.pinned (OpenSpec.ofChange drawBoundWrong)

/-- 'isochronlaw04.DrawApart': WHATEVER THE INPUT: true; the input reads as it did. -/
def drawApartSpec : ChangeSpec := { name := "drawApart", fn := fun _ => fun
  | [d1, d2] => { results := [.lit (.bool true)], args := [d1, d2] }
  | _ => none }
def drawApartRow : OpenClaim := { program := "ytblkogjiipdnmaa", sum := "2f343d013552fd3cf311aaa1d933347b31b2d6c695e9c2c6a9e80a563488198d", func := "isochron/isochronlaw04.DrawApart", spec := "drawApart", unfollowed := true, recurses := true, apart := false }
def DrawApartSaid : Prop := drawApartRow.holds Try.pinned (OpenSpec.ofChange drawApartSpec)

/-- ITS FALSE NEIGHBOUR: 'it returns false'. Refute it at one input. -/
def drawApartWrong : ChangeSpec := { name := "drawApart", fn := fun _ => fun
  | [d1, d2] => { results := [.lit (.bool false)], args := [d1, d2] }
  | _ => none }
def DrawApartWrongFalsely : Prop := drawApartRow.holds Try.pinned (OpenSpec.ofChange drawApartWrong)

/-- 'isochronlaw04.DrawCounts': WHATEVER THE INPUT: true; the input reads as it did. -/
def drawCountsSpec : ChangeSpec := { name := "drawCounts", fn := fun _ => fun
  | [d1, d2, d3, d4, d5] => { results := [.lit (.bool true)], args := [d1, d2, d3, d4, d5] }
  | _ => none }
def drawCountsRow : OpenClaim := { program := "ytblkogjiipdnmaa", sum := "2f343d013552fd3cf311aaa1d933347b31b2d6c695e9c2c6a9e80a563488198d", func := "isochron/isochronlaw04.DrawCounts", spec := "drawCounts", unfollowed := true, recurses := true, apart := false }
def DrawCountsSaid : Prop := drawCountsRow.holds Try.pinned (OpenSpec.ofChange drawCountsSpec)

/-- ITS FALSE NEIGHBOUR: 'it returns false'. Refute it at one input. -/
def drawCountsWrong : ChangeSpec := { name := "drawCounts", fn := fun _ => fun
  | [d1, d2, d3, d4, d5] => { results := [.lit (.bool false)], args := [d1, d2, d3, d4, d5] }
  | _ => none }
def DrawCountsWrongFalsely : Prop := drawCountsRow.holds Try.pinned (OpenSpec.ofChange drawCountsWrong)

/-- 'isochronlaw04.DrawOnes': WHATEVER THE INPUT: true; the input reads as it did. -/
def drawOnesSpec : ChangeSpec := { name := "drawOnes", fn := fun _ => fun
  | [d1, d2, d3, d4] => { results := [.lit (.bool true)], args := [d1, d2, d3, d4] }
  | _ => none }
def drawOnesRow : OpenClaim := { program := "ytblkogjiipdnmaa", sum := "2f343d013552fd3cf311aaa1d933347b31b2d6c695e9c2c6a9e80a563488198d", func := "isochron/isochronlaw04.DrawOnes", spec := "drawOnes", unfollowed := true, recurses := true, apart := false }
def DrawOnesSaid : Prop := drawOnesRow.holds Try.pinned (OpenSpec.ofChange drawOnesSpec)

/-- ITS FALSE NEIGHBOUR: 'it returns false'. Refute it at one input. -/
def drawOnesWrong : ChangeSpec := { name := "drawOnes", fn := fun _ => fun
  | [d1, d2, d3, d4] => { results := [.lit (.bool false)], args := [d1, d2, d3, d4] }
  | _ => none }
def DrawOnesWrongFalsely : Prop := drawOnesRow.holds Try.pinned (OpenSpec.ofChange drawOnesWrong)

/- THE SECOND FORM. 'bulk': how many values and letters a reading holds, each counted each time it is reached (what is shared counts as often as it is met; a slice's spare places count too). A statement '..UptoSaid' is the law's where the arguments, and the package variables that the reading takes, are together of bulk at most 1048576: NARROWER than '..Said'. Prove '..Said' where nothing that the law and all that it calls make is longer than what came in: it says more and counts as full. Else prove '..UptoSaid'. A law counts once. -/
mutual
def uptoBulk {H : Type} : DataW H → Nat
  | .lit (.string bytes) => bytes.length + 1
  | .lit _ => 1
  | .nil => 1
  | .ptr d => uptoBulk d + 1
  | .slice elems spare => uptoBulkAll elems + uptoBulkAll spare + 1
  | .agg parts => uptoBulkAll parts + 1
  | .iface _ d => uptoBulk d + 1
  | .map entries => uptoBulkEntries entries + 1
  | .held _ => 1
def uptoBulkAll {H : Type} : List (DataW H) → Nat
  | [] => 0
  | d :: r => uptoBulk d + uptoBulkAll r
def uptoBulkEntries {H : Type} : List (Lit × DataW H) → Nat
  | [] => 0
  | x :: r => uptoBulkEntry x + uptoBulkEntries r
def uptoBulkEntry {H : Type} : Lit × DataW H → Nat
  | (.string bytes, d) => bytes.length + uptoBulk d + 1
  | (_, d) => uptoBulk d + 1
 end
def uptoSmall : (H : Type) → List (DataW H) → Bool := fun _ ds => decide (uptoBulkAll ds ≤ 1048576)
def OpenSpec.upto (s : _root_.Go.ChangeSpec) : _root_.Go.OpenSpec := { _root_.Go.OpenSpec.ofChange s with cond := some uptoSmall }

/-- 'isochronlaw04.DrawMixes', WHERE WHAT IT READS IS OF BULK AT MOST 1048576: true; the input reads as it did. -/
def drawMixesUptoRow : OpenClaim := { program := "ytblkogjiipdnmaa", sum := "2f343d013552fd3cf311aaa1d933347b31b2d6c695e9c2c6a9e80a563488198d", func := "isochron/isochronlaw04.DrawMixes", spec := "drawMixes", unfollowed := true, recurses := true, apart := false, narrowed := true }
def DrawMixesUptoSaid : Prop := drawMixesUptoRow.holds Try.pinned (OpenSpec.upto drawMixesSpec)

/-- 'isochronlaw04.DrawAt', WHERE WHAT IT READS IS OF BULK AT MOST 1048576: true; the input reads as it did. -/
def drawAtUptoRow : OpenClaim := { program := "ytblkogjiipdnmaa", sum := "2f343d013552fd3cf311aaa1d933347b31b2d6c695e9c2c6a9e80a563488198d", func := "isochron/isochronlaw04.DrawAt", spec := "drawAt", unfollowed := true, recurses := true, apart := false, narrowed := true }
def DrawAtUptoSaid : Prop := drawAtUptoRow.holds Try.pinned (OpenSpec.upto drawAtSpec)

/-- 'isochronlaw04.DrawBelow', WHERE WHAT IT READS IS OF BULK AT MOST 1048576: true; the input reads as it did. -/
def drawBelowUptoRow : OpenClaim := { program := "ytblkogjiipdnmaa", sum := "2f343d013552fd3cf311aaa1d933347b31b2d6c695e9c2c6a9e80a563488198d", func := "isochron/isochronlaw04.DrawBelow", spec := "drawBelow", unfollowed := true, recurses := true, apart := false, narrowed := true }
def DrawBelowUptoSaid : Prop := drawBelowUptoRow.holds Try.pinned (OpenSpec.upto drawBelowSpec)

/-- 'isochronlaw04.DrawBound', WHERE WHAT IT READS IS OF BULK AT MOST 1048576: true; the input reads as it did. -/
def drawBoundUptoRow : OpenClaim := { program := "ytblkogjiipdnmaa", sum := "2f343d013552fd3cf311aaa1d933347b31b2d6c695e9c2c6a9e80a563488198d", func := "isochron/isochronlaw04.DrawBound", spec := "drawBound", unfollowed := true, recurses := true, apart := false, narrowed := true }
def DrawBoundUptoSaid : Prop := drawBoundUptoRow.holds Try.pinned (OpenSpec.upto drawBoundSpec)

/-- 'isochronlaw04.DrawApart', WHERE WHAT IT READS IS OF BULK AT MOST 1048576: true; the input reads as it did. -/
def drawApartUptoRow : OpenClaim := { program := "ytblkogjiipdnmaa", sum := "2f343d013552fd3cf311aaa1d933347b31b2d6c695e9c2c6a9e80a563488198d", func := "isochron/isochronlaw04.DrawApart", spec := "drawApart", unfollowed := true, recurses := true, apart := false, narrowed := true }
def DrawApartUptoSaid : Prop := drawApartUptoRow.holds Try.pinned (OpenSpec.upto drawApartSpec)

/-- 'isochronlaw04.DrawCounts', WHERE WHAT IT READS IS OF BULK AT MOST 1048576: true; the input reads as it did. -/
def drawCountsUptoRow : OpenClaim := { program := "ytblkogjiipdnmaa", sum := "2f343d013552fd3cf311aaa1d933347b31b2d6c695e9c2c6a9e80a563488198d", func := "isochron/isochronlaw04.DrawCounts", spec := "drawCounts", unfollowed := true, recurses := true, apart := false, narrowed := true }
def DrawCountsUptoSaid : Prop := drawCountsUptoRow.holds Try.pinned (OpenSpec.upto drawCountsSpec)

/-- 'isochronlaw04.DrawOnes', WHERE WHAT IT READS IS OF BULK AT MOST 1048576: true; the input reads as it did. -/
def drawOnesUptoRow : OpenClaim := { program := "ytblkogjiipdnmaa", sum := "2f343d013552fd3cf311aaa1d933347b31b2d6c695e9c2c6a9e80a563488198d", func := "isochron/isochronlaw04.DrawOnes", spec := "drawOnes", unfollowed := true, recurses := true, apart := false, narrowed := true }
def DrawOnesUptoSaid : Prop := drawOnesUptoRow.holds Try.pinned (OpenSpec.upto drawOnesSpec)

end Rows
end Go.Proofs.Ytblkogjiipdnmaa
