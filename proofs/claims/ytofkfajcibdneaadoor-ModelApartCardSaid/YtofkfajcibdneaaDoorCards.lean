/-
  DERIVED. GIVEN WITH THE SEED: THE CARDS: each row of YtofkfajcibdneaaDoorRows.lean that lists a variable, with what it lists TIED to the program's text (the seventh form; the later family's looks); each row that meets fmt, with fmt's text TOLD by the authors' own Lean function (tested against real Go, not proved from fmt's source: count such statements apart). THE CARD IS WHAT COUNTS. Prove the row's statement (the work); the ties are given (YtofkfajcibdneaaDoorTie.lean); close each card by the builder's one call (the guide's Derived/Test/ToyasCard.lean, 'card_holds'). Laid BY PROGRAM, IN A SANDBOX (cutbox-door.mjs). By AI agents, Wed Nov 11 2026. No macro, syntax, notation, axiom, sorry.
-/
import Derived.Test.YtofkfajcibdneaaDoorRows
import GoSem.ClaimSeven
namespace Go.Proofs.YtofkfajcibdneaaDoor
namespace Rows

/-- THE TIED CARD OF 'isochronlaw13.ModelChecks'. -/
def modelChecksCard : Claim7 := { stood := { row := modelChecksRow, standIns := [], harness := (true, "f5134d3ef0358c0e025a722f0f12d4b13ad152dd68cf7fcbe987ecc35ca0be71"), looks := true }, kinds := [], alts := [], laidByText := true, laidKinds := [.handle, .sentinel, .sentinel, .sentinel, .sentinel, .sentinel], laidTests := true, laidLooks := .later }
def ModelChecksCardSaid : Prop := Claim7.holds Tryd.pinned (.plain (OpenSpec.ofChange modelChecksSpec)) modelChecksCard

/-- THE TIED CARD OF 'isochronlaw13.ModelWorlds'. -/
def modelWorldsCard : Claim7 := { stood := { row := modelWorldsRow, standIns := [], harness := (true, "f5134d3ef0358c0e025a722f0f12d4b13ad152dd68cf7fcbe987ecc35ca0be71"), looks := true }, kinds := [], alts := [], laidByText := true, laidKinds := [.handle, .sentinel, .sentinel, .sentinel, .sentinel, .sentinel], laidTests := true, laidLooks := .later }
def ModelWorldsCardSaid : Prop := Claim7.holds Tryd.pinned (.plain (OpenSpec.ofChange modelWorldsSpec)) modelWorldsCard

/-- THE TIED CARD OF 'isochronlaw13.ModelStarts'. -/
def modelStartsCard : Claim7 := { stood := { row := modelStartsRow, standIns := [], harness := (true, "f5134d3ef0358c0e025a722f0f12d4b13ad152dd68cf7fcbe987ecc35ca0be71"), looks := true }, kinds := [], alts := [], laidByText := true, laidKinds := [.handle, .sentinel, .sentinel, .sentinel, .sentinel, .sentinel], laidTests := true, laidLooks := .later }
def ModelStartsCardSaid : Prop := Claim7.holds Tryd.pinned (.plain (OpenSpec.ofChange modelStartsSpec)) modelStartsCard

/-- THE TIED CARD OF 'isochronlaw13.ModelWhole'. -/
def modelWholeCard : Claim7 := { stood := { row := modelWholeRow, standIns := [], harness := (true, "f5134d3ef0358c0e025a722f0f12d4b13ad152dd68cf7fcbe987ecc35ca0be71"), looks := true }, kinds := [], alts := [], laidByText := true, laidKinds := [.handle, .sentinel, .sentinel, .sentinel, .sentinel, .sentinel], laidTests := true, laidLooks := .later }
def ModelWholeCardSaid : Prop := Claim7.holds Tryd.pinned (.plain (OpenSpec.ofChange modelWholeSpec)) modelWholeCard

/-- THE TIED CARD OF 'isochronlaw13.ModelFaults'. -/
def modelFaultsCard : Claim7 := { stood := { row := modelFaultsRow, standIns := [], harness := (true, "f5134d3ef0358c0e025a722f0f12d4b13ad152dd68cf7fcbe987ecc35ca0be71"), looks := true }, kinds := [], alts := [], laidByText := true, laidKinds := [.handle, .sentinel, .sentinel, .sentinel, .sentinel, .sentinel], laidTests := true, laidLooks := .later }
def ModelFaultsCardSaid : Prop := Claim7.holds Tryd.pinned (.plain (OpenSpec.ofChange modelFaultsSpec)) modelFaultsCard

/-- THE TIED CARD OF 'isochronlaw13.ModelApart'. -/
def modelApartCard : Claim7 := { stood := { row := modelApartRow, standIns := [], harness := (true, "f5134d3ef0358c0e025a722f0f12d4b13ad152dd68cf7fcbe987ecc35ca0be71"), looks := true }, kinds := [], alts := [], laidByText := true, laidKinds := [.handle, .sentinel, .sentinel, .sentinel, .sentinel, .sentinel], laidTests := true, laidLooks := .later }
def ModelApartCardSaid : Prop := Claim7.holds Tryd.pinned (.plain (OpenSpec.ofChange modelApartSpec)) modelApartCard

/-- THE SECOND FORM's CARD OF 'isochronlaw13.ModelChecks'. -/
def modelChecksUptoCard : Claim7 := { stood := { row := modelChecksUptoRow, standIns := [], harness := (true, "f5134d3ef0358c0e025a722f0f12d4b13ad152dd68cf7fcbe987ecc35ca0be71"), looks := true }, kinds := [], alts := [], laidByText := true, laidKinds := [.handle, .sentinel, .sentinel, .sentinel, .sentinel, .sentinel], laidTests := true, laidLooks := .later }
def ModelChecksUptoCardSaid : Prop := Claim7.holds Tryd.pinned (.plain (OpenSpec.upto modelChecksSpec)) modelChecksUptoCard

/-- THE SECOND FORM's CARD OF 'isochronlaw13.ModelWorlds'. -/
def modelWorldsUptoCard : Claim7 := { stood := { row := modelWorldsUptoRow, standIns := [], harness := (true, "f5134d3ef0358c0e025a722f0f12d4b13ad152dd68cf7fcbe987ecc35ca0be71"), looks := true }, kinds := [], alts := [], laidByText := true, laidKinds := [.handle, .sentinel, .sentinel, .sentinel, .sentinel, .sentinel], laidTests := true, laidLooks := .later }
def ModelWorldsUptoCardSaid : Prop := Claim7.holds Tryd.pinned (.plain (OpenSpec.upto modelWorldsSpec)) modelWorldsUptoCard

/-- THE SECOND FORM's CARD OF 'isochronlaw13.ModelStarts'. -/
def modelStartsUptoCard : Claim7 := { stood := { row := modelStartsUptoRow, standIns := [], harness := (true, "f5134d3ef0358c0e025a722f0f12d4b13ad152dd68cf7fcbe987ecc35ca0be71"), looks := true }, kinds := [], alts := [], laidByText := true, laidKinds := [.handle, .sentinel, .sentinel, .sentinel, .sentinel, .sentinel], laidTests := true, laidLooks := .later }
def ModelStartsUptoCardSaid : Prop := Claim7.holds Tryd.pinned (.plain (OpenSpec.upto modelStartsSpec)) modelStartsUptoCard

/-- THE SECOND FORM's CARD OF 'isochronlaw13.ModelWhole'. -/
def modelWholeUptoCard : Claim7 := { stood := { row := modelWholeUptoRow, standIns := [], harness := (true, "f5134d3ef0358c0e025a722f0f12d4b13ad152dd68cf7fcbe987ecc35ca0be71"), looks := true }, kinds := [], alts := [], laidByText := true, laidKinds := [.handle, .sentinel, .sentinel, .sentinel, .sentinel, .sentinel], laidTests := true, laidLooks := .later }
def ModelWholeUptoCardSaid : Prop := Claim7.holds Tryd.pinned (.plain (OpenSpec.upto modelWholeSpec)) modelWholeUptoCard

/-- THE SECOND FORM's CARD OF 'isochronlaw13.ModelFaults'. -/
def modelFaultsUptoCard : Claim7 := { stood := { row := modelFaultsUptoRow, standIns := [], harness := (true, "f5134d3ef0358c0e025a722f0f12d4b13ad152dd68cf7fcbe987ecc35ca0be71"), looks := true }, kinds := [], alts := [], laidByText := true, laidKinds := [.handle, .sentinel, .sentinel, .sentinel, .sentinel, .sentinel], laidTests := true, laidLooks := .later }
def ModelFaultsUptoCardSaid : Prop := Claim7.holds Tryd.pinned (.plain (OpenSpec.upto modelFaultsSpec)) modelFaultsUptoCard

/-- THE SECOND FORM's CARD OF 'isochronlaw13.ModelApart'. -/
def modelApartUptoCard : Claim7 := { stood := { row := modelApartUptoRow, standIns := [], harness := (true, "f5134d3ef0358c0e025a722f0f12d4b13ad152dd68cf7fcbe987ecc35ca0be71"), looks := true }, kinds := [], alts := [], laidByText := true, laidKinds := [.handle, .sentinel, .sentinel, .sentinel, .sentinel, .sentinel], laidTests := true, laidLooks := .later }
def ModelApartUptoCardSaid : Prop := Claim7.holds Tryd.pinned (.plain (OpenSpec.upto modelApartSpec)) modelApartUptoCard
end Rows
end Go.Proofs.YtofkfajcibdneaaDoor
