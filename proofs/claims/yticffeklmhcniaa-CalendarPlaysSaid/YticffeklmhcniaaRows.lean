/-
  No cell of these rows narrows 'for every input' (looked for: loops, veiled, ifaces, maps, wideKeys, modest, calm, conditions, laid).
  DERIVED. THE GIVEN ROWS OF THIS SEAT. 5 by the template 'for every input the law returns true; each argument reads behind the call as it read before'; 0 by the template 'total and deterministic' (their statements: YticffeklmhcniaaTotals.lean).
  GIVEN WITH THE SEED: the statements are not yours to turn. If you find one false, say at which input.
  Laid BY PROGRAM, IN A SANDBOX (cutbox-rows.mjs): the forced cells as the released guide's own fill.sh prints them over the translation 85af05d2a46db612… (all of the seat's roots in one cut). By AI agents, Wed Nov 11 2026. No macro, syntax, notation, axiom, sorry.
-/
import Derived.Test.YticffeklmhcniaaChecked
import GoSem.Claim
import GoSem.ClaimJoined
import GoSem.ClaimMapViews
import Derived.JoinedTies
import Derived.KernelRfl
namespace Go.Proofs.Yticffeklmhcniaa
/- THE CELL 'sum', in the pinned program and in every row, IS THE sha256 OF THE DUMP (.gsa) THAT YticffeklmhcniaaProg.lean LOADS. Nothing in Lean hashes anything: it is a label: what it is worth is what the hold of that sum in a sandbox is worth. -/
noncomputable def Try.pinned : Pinned := { name := "yticffeklmhcniaa", sum := "85af05d2a46db6125ccbc2f26484480c5a2ea4a0929f1ca912ffd7ef7e0b9183", checked := Try.checked }
namespace Rows
def none {H : Type} : Left H := { results := [], args := [] }

/-- 'isochronlaw07.CalendarPlays': WHATEVER THE INPUT: true; the input reads as it did. -/
def calendarPlaysSpec : ChangeSpec := { name := "calendarPlays", fn := fun _ => fun
  | [d1, d2] => { results := [.lit (.bool true)], args := [d1, d2] }
  | _ => none }
def calendarPlaysRow : OpenClaim := { program := "yticffeklmhcniaa", sum := "85af05d2a46db6125ccbc2f26484480c5a2ea4a0929f1ca912ffd7ef7e0b9183", func := "isochron/isochronlaw07.CalendarPlays", spec := "calendarPlays", unfollowed := true, recurses := true, plainKeys := false, apart := false }
def CalendarPlaysSaid : Prop := calendarPlaysRow.holds Try.pinned (OpenSpec.ofChange calendarPlaysSpec)

/-- ITS FALSE NEIGHBOUR: 'it returns false'. Refute it at one input. -/
def calendarPlaysWrong : ChangeSpec := { name := "calendarPlays", fn := fun _ => fun
  | [d1, d2] => { results := [.lit (.bool false)], args := [d1, d2] }
  | _ => none }
def CalendarPlaysWrongFalsely : Prop := calendarPlaysRow.holds Try.pinned (OpenSpec.ofChange calendarPlaysWrong)

/-- 'isochronlaw07.CalendarOrder': WHATEVER THE INPUT: true; the input reads as it did. -/
def calendarOrderSpec : ChangeSpec := { name := "calendarOrder", fn := fun _ => fun
  | [d1, d2] => { results := [.lit (.bool true)], args := [d1, d2] }
  | _ => none }
def calendarOrderRow : OpenClaim := { program := "yticffeklmhcniaa", sum := "85af05d2a46db6125ccbc2f26484480c5a2ea4a0929f1ca912ffd7ef7e0b9183", func := "isochron/isochronlaw07.CalendarOrder", spec := "calendarOrder", unfollowed := true, recurses := true, plainKeys := false, apart := false }
def CalendarOrderSaid : Prop := calendarOrderRow.holds Try.pinned (OpenSpec.ofChange calendarOrderSpec)

/-- ITS FALSE NEIGHBOUR: 'it returns false'. Refute it at one input. -/
def calendarOrderWrong : ChangeSpec := { name := "calendarOrder", fn := fun _ => fun
  | [d1, d2] => { results := [.lit (.bool false)], args := [d1, d2] }
  | _ => none }
def CalendarOrderWrongFalsely : Prop := calendarOrderRow.holds Try.pinned (OpenSpec.ofChange calendarOrderWrong)

/-- 'isochronlaw07.CalendarCuts': WHATEVER THE INPUT: true; the input reads as it did. -/
def calendarCutsSpec : ChangeSpec := { name := "calendarCuts", fn := fun _ => fun
  | [d1, d2, d3] => { results := [.lit (.bool true)], args := [d1, d2, d3] }
  | _ => none }
def calendarCutsRow : OpenClaim := { program := "yticffeklmhcniaa", sum := "85af05d2a46db6125ccbc2f26484480c5a2ea4a0929f1ca912ffd7ef7e0b9183", func := "isochron/isochronlaw07.CalendarCuts", spec := "calendarCuts", unfollowed := true, recurses := true, plainKeys := false, apart := false }
def CalendarCutsSaid : Prop := calendarCutsRow.holds Try.pinned (OpenSpec.ofChange calendarCutsSpec)

/-- ITS FALSE NEIGHBOUR: 'it returns false'. Refute it at one input. -/
def calendarCutsWrong : ChangeSpec := { name := "calendarCuts", fn := fun _ => fun
  | [d1, d2, d3] => { results := [.lit (.bool false)], args := [d1, d2, d3] }
  | _ => none }
def CalendarCutsWrongFalsely : Prop := calendarCutsRow.holds Try.pinned (OpenSpec.ofChange calendarCutsWrong)

/-- 'isochronlaw07.CalendarZero': WHATEVER THE INPUT: true; the input reads as it did. -/
def calendarZeroSpec : ChangeSpec := { name := "calendarZero", fn := fun _ => fun
  | [d] => { results := [.lit (.bool true)], args := [d] }
  | _ => none }
def calendarZeroRow : OpenClaim := { program := "yticffeklmhcniaa", sum := "85af05d2a46db6125ccbc2f26484480c5a2ea4a0929f1ca912ffd7ef7e0b9183", func := "isochron/isochronlaw07.CalendarZero", spec := "calendarZero", unfollowed := true, recurses := true, plainKeys := false, apart := false }
def CalendarZeroSaid : Prop := calendarZeroRow.holds Try.pinned (OpenSpec.ofChange calendarZeroSpec)

/-- ITS FALSE NEIGHBOUR: 'it returns false'. Refute it at one input. -/
def calendarZeroWrong : ChangeSpec := { name := "calendarZero", fn := fun _ => fun
  | [d] => { results := [.lit (.bool false)], args := [d] }
  | _ => none }
def CalendarZeroWrongFalsely : Prop := calendarZeroRow.holds Try.pinned (OpenSpec.ofChange calendarZeroWrong)

/-- 'isochronlaw07.CalendarTwice': WHATEVER THE INPUT: true; the input reads as it did. -/
def calendarTwiceSpec : ChangeSpec := { name := "calendarTwice", fn := fun _ => fun
  | [d1, d2, d3, d4] => { results := [.lit (.bool true)], args := [d1, d2, d3, d4] }
  | _ => none }
def calendarTwiceRow : OpenClaim := { program := "yticffeklmhcniaa", sum := "85af05d2a46db6125ccbc2f26484480c5a2ea4a0929f1ca912ffd7ef7e0b9183", func := "isochron/isochronlaw07.CalendarTwice", spec := "calendarTwice", unfollowed := true, recurses := true, plainKeys := false, apart := false }
def CalendarTwiceSaid : Prop := calendarTwiceRow.holds Try.pinned (OpenSpec.ofChange calendarTwiceSpec)

/-- ITS FALSE NEIGHBOUR: 'it returns false'. Refute it at one input. -/
def calendarTwiceWrong : ChangeSpec := { name := "calendarTwice", fn := fun _ => fun
  | [d1, d2, d3, d4] => { results := [.lit (.bool false)], args := [d1, d2, d3, d4] }
  | _ => none }
def CalendarTwiceWrongFalsely : Prop := calendarTwiceRow.holds Try.pinned (OpenSpec.ofChange calendarTwiceWrong)

/- THE SECOND FORM. 'bulk': how many values and letters a reading holds, each counted each time it is reached (what is shared counts as often as it is met; a slice's spare places count too). A statement '..UptoSaid' is the law's where the arguments, and the package variables that the reading takes, are together of bulk at most 1048576: NARROWER than '..Said'. Prove '..Said' where nothing that the law and all that it calls make is longer than what came in: it says more and counts as full. Else prove '..UptoSaid'. A law counts once. -/
mutual
def uptoBulk {H : Type} : DataW H → Nat
  | .lit (.string bytes) => bytes.length + 1
  | .lit _ => 1
  | .nil => 1
  | .ptr d => uptoBulk d + 1
  | .slice elems spare => uptoBulkAll elems + uptoBulkAll spare + 1
  | .agg parts => uptoBulkAll parts + 1
  | .iface _ d => uptoBulk d + 1
  | .map entries => uptoBulkEntries entries + 1
  | .held _ => 1
def uptoBulkAll {H : Type} : List (DataW H) → Nat
  | [] => 0
  | d :: r => uptoBulk d + uptoBulkAll r
def uptoBulkEntries {H : Type} : List (Lit × DataW H) → Nat
  | [] => 0
  | x :: r => uptoBulkEntry x + uptoBulkEntries r
def uptoBulkEntry {H : Type} : Lit × DataW H → Nat
  | (.string bytes, d) => bytes.length + uptoBulk d + 1
  | (_, d) => uptoBulk d + 1
 end
def uptoSmall : (H : Type) → List (DataW H) → Bool := fun _ ds => decide (uptoBulkAll ds ≤ 1048576)
def OpenSpec.upto (s : _root_.Go.ChangeSpec) : _root_.Go.OpenSpec := { _root_.Go.OpenSpec.ofChange s with cond := some uptoSmall }

/-- 'isochronlaw07.CalendarPlays', WHERE WHAT IT READS IS OF BULK AT MOST 1048576: true; the input reads as it did. -/
def calendarPlaysUptoRow : OpenClaim := { program := "yticffeklmhcniaa", sum := "85af05d2a46db6125ccbc2f26484480c5a2ea4a0929f1ca912ffd7ef7e0b9183", func := "isochron/isochronlaw07.CalendarPlays", spec := "calendarPlays", unfollowed := true, recurses := true, plainKeys := false, apart := false, narrowed := true }
def CalendarPlaysUptoSaid : Prop := calendarPlaysUptoRow.holds Try.pinned (OpenSpec.upto calendarPlaysSpec)

/-- 'isochronlaw07.CalendarOrder', WHERE WHAT IT READS IS OF BULK AT MOST 1048576: true; the input reads as it did. -/
def calendarOrderUptoRow : OpenClaim := { program := "yticffeklmhcniaa", sum := "85af05d2a46db6125ccbc2f26484480c5a2ea4a0929f1ca912ffd7ef7e0b9183", func := "isochron/isochronlaw07.CalendarOrder", spec := "calendarOrder", unfollowed := true, recurses := true, plainKeys := false, apart := false, narrowed := true }
def CalendarOrderUptoSaid : Prop := calendarOrderUptoRow.holds Try.pinned (OpenSpec.upto calendarOrderSpec)

/-- 'isochronlaw07.CalendarCuts', WHERE WHAT IT READS IS OF BULK AT MOST 1048576: true; the input reads as it did. -/
def calendarCutsUptoRow : OpenClaim := { program := "yticffeklmhcniaa", sum := "85af05d2a46db6125ccbc2f26484480c5a2ea4a0929f1ca912ffd7ef7e0b9183", func := "isochron/isochronlaw07.CalendarCuts", spec := "calendarCuts", unfollowed := true, recurses := true, plainKeys := false, apart := false, narrowed := true }
def CalendarCutsUptoSaid : Prop := calendarCutsUptoRow.holds Try.pinned (OpenSpec.upto calendarCutsSpec)

/-- 'isochronlaw07.CalendarZero', WHERE WHAT IT READS IS OF BULK AT MOST 1048576: true; the input reads as it did. -/
def calendarZeroUptoRow : OpenClaim := { program := "yticffeklmhcniaa", sum := "85af05d2a46db6125ccbc2f26484480c5a2ea4a0929f1ca912ffd7ef7e0b9183", func := "isochron/isochronlaw07.CalendarZero", spec := "calendarZero", unfollowed := true, recurses := true, plainKeys := false, apart := false, narrowed := true }
def CalendarZeroUptoSaid : Prop := calendarZeroUptoRow.holds Try.pinned (OpenSpec.upto calendarZeroSpec)

/-- 'isochronlaw07.CalendarTwice', WHERE WHAT IT READS IS OF BULK AT MOST 1048576: true; the input reads as it did. -/
def calendarTwiceUptoRow : OpenClaim := { program := "yticffeklmhcniaa", sum := "85af05d2a46db6125ccbc2f26484480c5a2ea4a0929f1ca912ffd7ef7e0b9183", func := "isochron/isochronlaw07.CalendarTwice", spec := "calendarTwice", unfollowed := true, recurses := true, plainKeys := false, apart := false, narrowed := true }
def CalendarTwiceUptoSaid : Prop := calendarTwiceUptoRow.holds Try.pinned (OpenSpec.upto calendarTwiceSpec)

end Rows
end Go.Proofs.Yticffeklmhcniaa
