/-
  DERIVED. GIVEN WITH THE SEED: THE CARDS: each row of YtminfmjgmmkaoaaGreatDoorRows.lean that lists a variable, with what it lists TIED to the program's text (the seventh form; the later family's looks); each row that meets fmt, with fmt's text TOLD by the authors' own Lean function (tested against real Go, not proved from fmt's source: count such statements apart). THE CARD IS WHAT COUNTS. Prove the row's statement (the work); the ties are given (YtminfmjgmmkaoaaGreatDoorTie.lean); close each card by the builder's one call (the guide's Derived/Test/ToyasCard.lean, 'card_holds'). Laid BY PROGRAM, IN A SANDBOX (cutbox-door.mjs). By AI agents, Wed Nov 11 2026. No macro, syntax, notation, axiom, sorry.
-/
import Derived.Test.YtminfmjgmmkaoaaGreatDoorRows
import GoSem.ClaimSeven
namespace Go.Proofs.YtminfmjgmmkaoaaGreatDoor
namespace Rows

/-- THE TIED CARD OF 'isochronlaw10.LogAgain'. -/
def logAgainCard : Claim7 := { stood := { row := logAgainRow, standIns := [], harness := (true, "404e1298ef6d07b3ac64a5b0d73b6e84b477758da3168e74f529fefb67d0083b"), looks := true }, kinds := [], alts := [], laidByText := true, laidKinds := [.handle, .sentinel], laidTests := true, laidLooks := .later }
def LogAgainCardSaid : Prop := Claim7.holds Tryz.pinned (.plain (OpenSpec.ofChange logAgainSpec)) logAgainCard

/-- THE TIED CARD OF 'isochronlaw10.LogKeeps'. -/
def logKeepsCard : Claim7 := { stood := { row := logKeepsRow, standIns := [], harness := (true, "404e1298ef6d07b3ac64a5b0d73b6e84b477758da3168e74f529fefb67d0083b"), looks := true }, kinds := [], alts := [], laidByText := true, laidKinds := [.handle, .sentinel], laidTests := true, laidLooks := .later }
def LogKeepsCardSaid : Prop := Claim7.holds Tryz.pinned (.plain (OpenSpec.ofChange logKeepsSpec)) logKeepsCard

/-- THE TIED CARD OF 'isochronlaw10.LogNames'. -/
def logNamesCard : Claim7 := { stood := { row := logNamesRow, standIns := [], harness := (true, "404e1298ef6d07b3ac64a5b0d73b6e84b477758da3168e74f529fefb67d0083b"), looks := true }, kinds := [], alts := [], laidByText := true, laidKinds := [.handle, .sentinel], laidTests := true, laidLooks := .later }
def LogNamesCardSaid : Prop := Claim7.holds Tryz.pinned (.plain (OpenSpec.ofChange logNamesSpec)) logNamesCard

/-- THE TIED CARD OF 'isochronlaw10.LogDrops'. -/
def logDropsCard : Claim7 := { stood := { row := logDropsRow, standIns := [], harness := (true, "404e1298ef6d07b3ac64a5b0d73b6e84b477758da3168e74f529fefb67d0083b"), looks := true }, kinds := [], alts := [], laidByText := true, laidKinds := [.handle, .sentinel], laidTests := true, laidLooks := .later }
def LogDropsCardSaid : Prop := Claim7.holds Tryz.pinned (.plain (OpenSpec.ofChange logDropsSpec)) logDropsCard

/-- THE SECOND FORM's CARD OF 'isochronlaw10.LogAgain'. -/
def logAgainUptoCard : Claim7 := { stood := { row := logAgainUptoRow, standIns := [], harness := (true, "404e1298ef6d07b3ac64a5b0d73b6e84b477758da3168e74f529fefb67d0083b"), looks := true }, kinds := [], alts := [], laidByText := true, laidKinds := [.handle, .sentinel], laidTests := true, laidLooks := .later }
def LogAgainUptoCardSaid : Prop := Claim7.holds Tryz.pinned (.plain (OpenSpec.upto logAgainSpec)) logAgainUptoCard

/-- THE SECOND FORM's CARD OF 'isochronlaw10.LogKeeps'. -/
def logKeepsUptoCard : Claim7 := { stood := { row := logKeepsUptoRow, standIns := [], harness := (true, "404e1298ef6d07b3ac64a5b0d73b6e84b477758da3168e74f529fefb67d0083b"), looks := true }, kinds := [], alts := [], laidByText := true, laidKinds := [.handle, .sentinel], laidTests := true, laidLooks := .later }
def LogKeepsUptoCardSaid : Prop := Claim7.holds Tryz.pinned (.plain (OpenSpec.upto logKeepsSpec)) logKeepsUptoCard

/-- THE SECOND FORM's CARD OF 'isochronlaw10.LogNames'. -/
def logNamesUptoCard : Claim7 := { stood := { row := logNamesUptoRow, standIns := [], harness := (true, "404e1298ef6d07b3ac64a5b0d73b6e84b477758da3168e74f529fefb67d0083b"), looks := true }, kinds := [], alts := [], laidByText := true, laidKinds := [.handle, .sentinel], laidTests := true, laidLooks := .later }
def LogNamesUptoCardSaid : Prop := Claim7.holds Tryz.pinned (.plain (OpenSpec.upto logNamesSpec)) logNamesUptoCard

/-- THE SECOND FORM's CARD OF 'isochronlaw10.LogDrops'. -/
def logDropsUptoCard : Claim7 := { stood := { row := logDropsUptoRow, standIns := [], harness := (true, "404e1298ef6d07b3ac64a5b0d73b6e84b477758da3168e74f529fefb67d0083b"), looks := true }, kinds := [], alts := [], laidByText := true, laidKinds := [.handle, .sentinel], laidTests := true, laidLooks := .later }
def LogDropsUptoCardSaid : Prop := Claim7.holds Tryz.pinned (.plain (OpenSpec.upto logDropsSpec)) logDropsUptoCard
end Rows
end Go.Proofs.YtminfmjgmmkaoaaGreatDoor
