/-
  No cell of these rows narrows 'for every input' (looked for: loops, veiled, ifaces, maps, wideKeys, modest, calm, conditions, laid).
  DERIVED. THE GIVEN ROWS OF THIS SEAT. 10 by the template 'for every input the law returns true; each argument reads behind the call as it read before'; 0 by the template 'total and deterministic' (their statements: YtmfemimnoodpfaaTotals.lean).
  GIVEN WITH THE SEED: the statements are not yours to turn. If you find one false, say at which input.
  Laid BY PROGRAM, IN A SANDBOX (cutbox-rows.mjs): the forced cells as the released guide's own fill.sh prints them over the translation 416220099a3dec91… (all of the seat's roots in one cut). By AI agents, Wed Nov 11 2026. No macro, syntax, notation, axiom, sorry.
-/
import Derived.Test.YtmfemimnoodpfaaChecked
import GoSem.Claim
import GoSem.ClaimJoined
import GoSem.ClaimMapViews
import Derived.JoinedTies
import Derived.KernelRfl
namespace Go.Proofs.Ytmfemimnoodpfaa
/- THE CELL 'sum', in the pinned program and in every row, IS THE sha256 OF THE DUMP (.gsa) THAT YtmfemimnoodpfaaProg.lean LOADS. Nothing in Lean hashes anything: it is a label: what it is worth is what the hold of that sum in a sandbox is worth. -/
noncomputable def Try.pinned : Pinned := { name := "ytmfemimnoodpfaa", sum := "416220099a3dec91b44cd16dbe53632a2393317e3792576a453a893da0a41431", checked := Try.checked }
namespace Rows
def none {H : Type} : Left H := { results := [], args := [] }

/-- 'isochronlaw02.EventCompares': WHATEVER THE INPUT: true; the input reads as it did. -/
def eventComparesSpec : ChangeSpec := { name := "eventCompares", fn := fun _ => fun
  | [d1, d2] => { results := [.lit (.bool true)], args := [d1, d2] }
  | _ => none }
def eventComparesRow : OpenClaim := { program := "ytmfemimnoodpfaa", sum := "416220099a3dec91b44cd16dbe53632a2393317e3792576a453a893da0a41431", func := "isochron/isochronlaw02.EventCompares", spec := "eventCompares", apart := false }
def EventComparesSaid : Prop := eventComparesRow.holds Try.pinned (OpenSpec.ofChange eventComparesSpec)

/-- ITS FALSE NEIGHBOUR: 'it returns false'. Refute it at one input. -/
def eventComparesWrong : ChangeSpec := { name := "eventCompares", fn := fun _ => fun
  | [d1, d2] => { results := [.lit (.bool false)], args := [d1, d2] }
  | _ => none }
def EventComparesWrongFalsely : Prop := eventComparesRow.holds Try.pinned (OpenSpec.ofChange eventComparesWrong)

/-- 'isochronlaw02.EventPairs': WHATEVER THE INPUT: true; the input reads as it did. -/
def eventPairsSpec : ChangeSpec := { name := "eventPairs", fn := fun _ => fun
  | [d1, d2] => { results := [.lit (.bool true)], args := [d1, d2] }
  | _ => none }
def eventPairsRow : OpenClaim := { program := "ytmfemimnoodpfaa", sum := "416220099a3dec91b44cd16dbe53632a2393317e3792576a453a893da0a41431", func := "isochron/isochronlaw02.EventPairs", spec := "eventPairs", apart := false }
def EventPairsSaid : Prop := eventPairsRow.holds Try.pinned (OpenSpec.ofChange eventPairsSpec)

/-- ITS FALSE NEIGHBOUR: 'it returns false'. Refute it at one input. -/
def eventPairsWrong : ChangeSpec := { name := "eventPairs", fn := fun _ => fun
  | [d1, d2] => { results := [.lit (.bool false)], args := [d1, d2] }
  | _ => none }
def EventPairsWrongFalsely : Prop := eventPairsRow.holds Try.pinned (OpenSpec.ofChange eventPairsWrong)

/-- 'isochronlaw02.EventChecks': WHATEVER THE INPUT: true; the input reads as it did. -/
def eventChecksSpec : ChangeSpec := { name := "eventChecks", fn := fun _ => fun
  | [d] => { results := [.lit (.bool true)], args := [d] }
  | _ => none }
def eventChecksRow : OpenClaim := { program := "ytmfemimnoodpfaa", sum := "416220099a3dec91b44cd16dbe53632a2393317e3792576a453a893da0a41431", func := "isochron/isochronlaw02.EventChecks", spec := "eventChecks", apart := false }
def EventChecksSaid : Prop := eventChecksRow.holds Try.pinned (OpenSpec.ofChange eventChecksSpec)

/-- ITS FALSE NEIGHBOUR: 'it returns false'. Refute it at one input. -/
def eventChecksWrong : ChangeSpec := { name := "eventChecks", fn := fun _ => fun
  | [d] => { results := [.lit (.bool false)], args := [d] }
  | _ => none }
def EventChecksWrongFalsely : Prop := eventChecksRow.holds Try.pinned (OpenSpec.ofChange eventChecksWrong)

/-- 'isochronlaw02.EventSorts': WHATEVER THE INPUT: true; the input reads as it did. -/
def eventSortsSpec : ChangeSpec := { name := "eventSorts", fn := fun _ => fun
  | [d] => { results := [.lit (.bool true)], args := [d] }
  | _ => none }
def eventSortsRow : OpenClaim := { program := "ytmfemimnoodpfaa", sum := "416220099a3dec91b44cd16dbe53632a2393317e3792576a453a893da0a41431", func := "isochron/isochronlaw02.EventSorts", spec := "eventSorts", unfollowed := true, recurses := true, apart := false }
def EventSortsSaid : Prop := eventSortsRow.holds Try.pinned (OpenSpec.ofChange eventSortsSpec)

/-- ITS FALSE NEIGHBOUR: 'it returns false'. Refute it at one input. -/
def eventSortsWrong : ChangeSpec := { name := "eventSorts", fn := fun _ => fun
  | [d] => { results := [.lit (.bool false)], args := [d] }
  | _ => none }
def EventSortsWrongFalsely : Prop := eventSortsRow.holds Try.pinned (OpenSpec.ofChange eventSortsWrong)

/-- 'isochronlaw02.EventPlaces': WHATEVER THE INPUT: true; the input reads as it did. -/
def eventPlacesSpec : ChangeSpec := { name := "eventPlaces", fn := fun _ => fun
  | [d1, d2] => { results := [.lit (.bool true)], args := [d1, d2] }
  | _ => none }
def eventPlacesRow : OpenClaim := { program := "ytmfemimnoodpfaa", sum := "416220099a3dec91b44cd16dbe53632a2393317e3792576a453a893da0a41431", func := "isochron/isochronlaw02.EventPlaces", spec := "eventPlaces", apart := false }
def EventPlacesSaid : Prop := eventPlacesRow.holds Try.pinned (OpenSpec.ofChange eventPlacesSpec)

/-- ITS FALSE NEIGHBOUR: 'it returns false'. Refute it at one input. -/
def eventPlacesWrong : ChangeSpec := { name := "eventPlaces", fn := fun _ => fun
  | [d1, d2] => { results := [.lit (.bool false)], args := [d1, d2] }
  | _ => none }
def EventPlacesWrongFalsely : Prop := eventPlacesRow.holds Try.pinned (OpenSpec.ofChange eventPlacesWrong)

/-- 'isochronlaw02.EventOrder': WHATEVER THE INPUT: true; the input reads as it did. -/
def eventOrderSpec : ChangeSpec := { name := "eventOrder", fn := fun _ => fun
  | [d1, d2, d3] => { results := [.lit (.bool true)], args := [d1, d2, d3] }
  | _ => none }
def eventOrderRow : OpenClaim := { program := "ytmfemimnoodpfaa", sum := "416220099a3dec91b44cd16dbe53632a2393317e3792576a453a893da0a41431", func := "isochron/isochronlaw02.EventOrder", spec := "eventOrder", apart := false }
def EventOrderSaid : Prop := eventOrderRow.holds Try.pinned (OpenSpec.ofChange eventOrderSpec)

/-- ITS FALSE NEIGHBOUR: 'it returns false'. Refute it at one input. -/
def eventOrderWrong : ChangeSpec := { name := "eventOrder", fn := fun _ => fun
  | [d1, d2, d3] => { results := [.lit (.bool false)], args := [d1, d2, d3] }
  | _ => none }
def EventOrderWrongFalsely : Prop := eventOrderRow.holds Try.pinned (OpenSpec.ofChange eventOrderWrong)

/-- 'isochronlaw02.EventTwins': WHATEVER THE INPUT: true; the input reads as it did. -/
def eventTwinsSpec : ChangeSpec := { name := "eventTwins", fn := fun _ => fun
  | [d] => { results := [.lit (.bool true)], args := [d] }
  | _ => none }
def eventTwinsRow : OpenClaim := { program := "ytmfemimnoodpfaa", sum := "416220099a3dec91b44cd16dbe53632a2393317e3792576a453a893da0a41431", func := "isochron/isochronlaw02.EventTwins", spec := "eventTwins", apart := false }
def EventTwinsSaid : Prop := eventTwinsRow.holds Try.pinned (OpenSpec.ofChange eventTwinsSpec)

/-- ITS FALSE NEIGHBOUR: 'it returns false'. Refute it at one input. -/
def eventTwinsWrong : ChangeSpec := { name := "eventTwins", fn := fun _ => fun
  | [d] => { results := [.lit (.bool false)], args := [d] }
  | _ => none }
def EventTwinsWrongFalsely : Prop := eventTwinsRow.holds Try.pinned (OpenSpec.ofChange eventTwinsWrong)

/-- 'isochronlaw02.EventAgain': WHATEVER THE INPUT: true; the input reads as it did. -/
def eventAgainSpec : ChangeSpec := { name := "eventAgain", fn := fun _ => fun
  | [d] => { results := [.lit (.bool true)], args := [d] }
  | _ => none }
def eventAgainRow : OpenClaim := { program := "ytmfemimnoodpfaa", sum := "416220099a3dec91b44cd16dbe53632a2393317e3792576a453a893da0a41431", func := "isochron/isochronlaw02.EventAgain", spec := "eventAgain", unfollowed := true, recurses := true, apart := false }
def EventAgainSaid : Prop := eventAgainRow.holds Try.pinned (OpenSpec.ofChange eventAgainSpec)

/-- ITS FALSE NEIGHBOUR: 'it returns false'. Refute it at one input. -/
def eventAgainWrong : ChangeSpec := { name := "eventAgain", fn := fun _ => fun
  | [d] => { results := [.lit (.bool false)], args := [d] }
  | _ => none }
def EventAgainWrongFalsely : Prop := eventAgainRow.holds Try.pinned (OpenSpec.ofChange eventAgainWrong)

/-- 'isochronlaw02.EventTimes': WHATEVER THE INPUT: true; the input reads as it did. -/
def eventTimesSpec : ChangeSpec := { name := "eventTimes", fn := fun _ => fun
  | [d1, d2] => { results := [.lit (.bool true)], args := [d1, d2] }
  | _ => none }
def eventTimesRow : OpenClaim := { program := "ytmfemimnoodpfaa", sum := "416220099a3dec91b44cd16dbe53632a2393317e3792576a453a893da0a41431", func := "isochron/isochronlaw02.EventTimes", spec := "eventTimes", apart := false }
def EventTimesSaid : Prop := eventTimesRow.holds Try.pinned (OpenSpec.ofChange eventTimesSpec)

/-- ITS FALSE NEIGHBOUR: 'it returns false'. Refute it at one input. -/
def eventTimesWrong : ChangeSpec := { name := "eventTimes", fn := fun _ => fun
  | [d1, d2] => { results := [.lit (.bool false)], args := [d1, d2] }
  | _ => none }
def EventTimesWrongFalsely : Prop := eventTimesRow.holds Try.pinned (OpenSpec.ofChange eventTimesWrong)

/-- 'isochronlaw02.EventMerges': WHATEVER THE INPUT: true; the input reads as it did. -/
def eventMergesSpec : ChangeSpec := { name := "eventMerges", fn := fun _ => fun
  | [d1, d2] => { results := [.lit (.bool true)], args := [d1, d2] }
  | _ => none }
def eventMergesRow : OpenClaim := { program := "ytmfemimnoodpfaa", sum := "416220099a3dec91b44cd16dbe53632a2393317e3792576a453a893da0a41431", func := "isochron/isochronlaw02.EventMerges", spec := "eventMerges", unfollowed := true, recurses := true, apart := false }
def EventMergesSaid : Prop := eventMergesRow.holds Try.pinned (OpenSpec.ofChange eventMergesSpec)

/-- ITS FALSE NEIGHBOUR: 'it returns false'. Refute it at one input. -/
def eventMergesWrong : ChangeSpec := { name := "eventMerges", fn := fun _ => fun
  | [d1, d2] => { results := [.lit (.bool false)], args := [d1, d2] }
  | _ => none }
def EventMergesWrongFalsely : Prop := eventMergesRow.holds Try.pinned (OpenSpec.ofChange eventMergesWrong)

/- THE SECOND FORM. 'bulk': how many values and letters a reading holds, each counted each time it is reached (what is shared counts as often as it is met; a slice's spare places count too). A statement '..UptoSaid' is the law's where the arguments, and the package variables that the reading takes, are together of bulk at most 1048576: NARROWER than '..Said'. Prove '..Said' where nothing that the law and all that it calls make is longer than what came in: it says more and counts as full. Else prove '..UptoSaid'. A law counts once. -/
mutual
def uptoBulk {H : Type} : DataW H → Nat
  | .lit (.string bytes) => bytes.length + 1
  | .lit _ => 1
  | .nil => 1
  | .ptr d => uptoBulk d + 1
  | .slice elems spare => uptoBulkAll elems + uptoBulkAll spare + 1
  | .agg parts => uptoBulkAll parts + 1
  | .iface _ d => uptoBulk d + 1
  | .map entries => uptoBulkEntries entries + 1
  | .held _ => 1
def uptoBulkAll {H : Type} : List (DataW H) → Nat
  | [] => 0
  | d :: r => uptoBulk d + uptoBulkAll r
def uptoBulkEntries {H : Type} : List (Lit × DataW H) → Nat
  | [] => 0
  | x :: r => uptoBulkEntry x + uptoBulkEntries r
def uptoBulkEntry {H : Type} : Lit × DataW H → Nat
  | (.string bytes, d) => bytes.length + uptoBulk d + 1
  | (_, d) => uptoBulk d + 1
 end
def uptoSmall : (H : Type) → List (DataW H) → Bool := fun _ ds => decide (uptoBulkAll ds ≤ 1048576)
def OpenSpec.upto (s : _root_.Go.ChangeSpec) : _root_.Go.OpenSpec := { _root_.Go.OpenSpec.ofChange s with cond := some uptoSmall }

/-- 'isochronlaw02.EventCompares', WHERE WHAT IT READS IS OF BULK AT MOST 1048576: true; the input reads as it did. -/
def eventComparesUptoRow : OpenClaim := { program := "ytmfemimnoodpfaa", sum := "416220099a3dec91b44cd16dbe53632a2393317e3792576a453a893da0a41431", func := "isochron/isochronlaw02.EventCompares", spec := "eventCompares", apart := false, narrowed := true }
def EventComparesUptoSaid : Prop := eventComparesUptoRow.holds Try.pinned (OpenSpec.upto eventComparesSpec)

/-- 'isochronlaw02.EventPairs', WHERE WHAT IT READS IS OF BULK AT MOST 1048576: true; the input reads as it did. -/
def eventPairsUptoRow : OpenClaim := { program := "ytmfemimnoodpfaa", sum := "416220099a3dec91b44cd16dbe53632a2393317e3792576a453a893da0a41431", func := "isochron/isochronlaw02.EventPairs", spec := "eventPairs", apart := false, narrowed := true }
def EventPairsUptoSaid : Prop := eventPairsUptoRow.holds Try.pinned (OpenSpec.upto eventPairsSpec)

/-- 'isochronlaw02.EventChecks', WHERE WHAT IT READS IS OF BULK AT MOST 1048576: true; the input reads as it did. -/
def eventChecksUptoRow : OpenClaim := { program := "ytmfemimnoodpfaa", sum := "416220099a3dec91b44cd16dbe53632a2393317e3792576a453a893da0a41431", func := "isochron/isochronlaw02.EventChecks", spec := "eventChecks", apart := false, narrowed := true }
def EventChecksUptoSaid : Prop := eventChecksUptoRow.holds Try.pinned (OpenSpec.upto eventChecksSpec)

/-- 'isochronlaw02.EventSorts', WHERE WHAT IT READS IS OF BULK AT MOST 1048576: true; the input reads as it did. -/
def eventSortsUptoRow : OpenClaim := { program := "ytmfemimnoodpfaa", sum := "416220099a3dec91b44cd16dbe53632a2393317e3792576a453a893da0a41431", func := "isochron/isochronlaw02.EventSorts", spec := "eventSorts", unfollowed := true, recurses := true, apart := false, narrowed := true }
def EventSortsUptoSaid : Prop := eventSortsUptoRow.holds Try.pinned (OpenSpec.upto eventSortsSpec)

/-- 'isochronlaw02.EventPlaces', WHERE WHAT IT READS IS OF BULK AT MOST 1048576: true; the input reads as it did. -/
def eventPlacesUptoRow : OpenClaim := { program := "ytmfemimnoodpfaa", sum := "416220099a3dec91b44cd16dbe53632a2393317e3792576a453a893da0a41431", func := "isochron/isochronlaw02.EventPlaces", spec := "eventPlaces", apart := false, narrowed := true }
def EventPlacesUptoSaid : Prop := eventPlacesUptoRow.holds Try.pinned (OpenSpec.upto eventPlacesSpec)

/-- 'isochronlaw02.EventOrder', WHERE WHAT IT READS IS OF BULK AT MOST 1048576: true; the input reads as it did. -/
def eventOrderUptoRow : OpenClaim := { program := "ytmfemimnoodpfaa", sum := "416220099a3dec91b44cd16dbe53632a2393317e3792576a453a893da0a41431", func := "isochron/isochronlaw02.EventOrder", spec := "eventOrder", apart := false, narrowed := true }
def EventOrderUptoSaid : Prop := eventOrderUptoRow.holds Try.pinned (OpenSpec.upto eventOrderSpec)

/-- 'isochronlaw02.EventTwins', WHERE WHAT IT READS IS OF BULK AT MOST 1048576: true; the input reads as it did. -/
def eventTwinsUptoRow : OpenClaim := { program := "ytmfemimnoodpfaa", sum := "416220099a3dec91b44cd16dbe53632a2393317e3792576a453a893da0a41431", func := "isochron/isochronlaw02.EventTwins", spec := "eventTwins", apart := false, narrowed := true }
def EventTwinsUptoSaid : Prop := eventTwinsUptoRow.holds Try.pinned (OpenSpec.upto eventTwinsSpec)

/-- 'isochronlaw02.EventAgain', WHERE WHAT IT READS IS OF BULK AT MOST 1048576: true; the input reads as it did. -/
def eventAgainUptoRow : OpenClaim := { program := "ytmfemimnoodpfaa", sum := "416220099a3dec91b44cd16dbe53632a2393317e3792576a453a893da0a41431", func := "isochron/isochronlaw02.EventAgain", spec := "eventAgain", unfollowed := true, recurses := true, apart := false, narrowed := true }
def EventAgainUptoSaid : Prop := eventAgainUptoRow.holds Try.pinned (OpenSpec.upto eventAgainSpec)

/-- 'isochronlaw02.EventTimes', WHERE WHAT IT READS IS OF BULK AT MOST 1048576: true; the input reads as it did. -/
def eventTimesUptoRow : OpenClaim := { program := "ytmfemimnoodpfaa", sum := "416220099a3dec91b44cd16dbe53632a2393317e3792576a453a893da0a41431", func := "isochron/isochronlaw02.EventTimes", spec := "eventTimes", apart := false, narrowed := true }
def EventTimesUptoSaid : Prop := eventTimesUptoRow.holds Try.pinned (OpenSpec.upto eventTimesSpec)

/-- 'isochronlaw02.EventMerges', WHERE WHAT IT READS IS OF BULK AT MOST 1048576: true; the input reads as it did. -/
def eventMergesUptoRow : OpenClaim := { program := "ytmfemimnoodpfaa", sum := "416220099a3dec91b44cd16dbe53632a2393317e3792576a453a893da0a41431", func := "isochron/isochronlaw02.EventMerges", spec := "eventMerges", unfollowed := true, recurses := true, apart := false, narrowed := true }
def EventMergesUptoSaid : Prop := eventMergesUptoRow.holds Try.pinned (OpenSpec.upto eventMergesSpec)

end Rows
end Go.Proofs.Ytmfemimnoodpfaa
