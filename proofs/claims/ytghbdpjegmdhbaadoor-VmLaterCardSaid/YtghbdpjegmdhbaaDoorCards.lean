/-
  DERIVED. GIVEN WITH THE SEED: THE CARDS: each row of YtghbdpjegmdhbaaDoorRows.lean that lists a variable, with what it lists TIED to the program's text (the seventh form; the later family's looks); each row that meets fmt, with fmt's text TOLD by the authors' own Lean function (tested against real Go, not proved from fmt's source: count such statements apart). THE CARD IS WHAT COUNTS. Prove the row's statement (the work); the ties are given (YtghbdpjegmdhbaaDoorTie.lean); close each card by the builder's one call (the guide's Derived/Test/ToyasCard.lean, 'card_holds'). Laid BY PROGRAM, IN A SANDBOX (cutbox-door.mjs). By AI agents, Wed Nov 11 2026. No macro, syntax, notation, axiom, sorry.
-/
import Derived.Test.YtghbdpjegmdhbaaDoorRows
import GoSem.ClaimSeven
namespace Go.Proofs.YtghbdpjegmdhbaaDoor
namespace Rows

/-- THE TIED CARD OF 'isochronlaw05.VmRuns'. -/
def vmRunsCard : Claim7 := { stood := { row := vmRunsRow, standIns := [], harness := (true, "5569249b020896a7b06dcb525e0f3fd4dce548eb8cb06e7bff909f3a83b8a4c7"), looks := true }, kinds := [], alts := [], laidByText := true, laidKinds := [.handle, .sentinel], laidTests := true, laidLooks := .later }
def VmRunsCardSaid : Prop := Claim7.holds Tryd.pinned (.plain (OpenSpec.ofChange vmRunsSpec)) vmRunsCard

/-- THE TIED CARD OF 'isochronlaw05.VmChecks'. -/
def vmChecksCard : Claim7 := { stood := { row := vmChecksRow, standIns := [], harness := (true, "5569249b020896a7b06dcb525e0f3fd4dce548eb8cb06e7bff909f3a83b8a4c7"), looks := true }, kinds := [], alts := [], laidByText := true, laidKinds := [.handle, .sentinel], laidTests := true, laidLooks := .later }
def VmChecksCardSaid : Prop := Claim7.holds Tryd.pinned (.plain (OpenSpec.ofChange vmChecksSpec)) vmChecksCard

/-- THE TIED CARD OF 'isochronlaw05.VmLater'. -/
def vmLaterCard : Claim7 := { stood := { row := vmLaterRow, standIns := [], harness := (true, "5569249b020896a7b06dcb525e0f3fd4dce548eb8cb06e7bff909f3a83b8a4c7"), looks := true }, kinds := [], alts := [], laidByText := true, laidKinds := [.handle, .sentinel], laidTests := true, laidLooks := .later }
def VmLaterCardSaid : Prop := Claim7.holds Tryd.pinned (.plain (OpenSpec.ofChange vmLaterSpec)) vmLaterCard

/-- THE TIED CARD OF 'isochronlaw05.VmSums'. -/
def vmSumsCard : Claim7 := { stood := { row := vmSumsRow, standIns := [], harness := (true, "5569249b020896a7b06dcb525e0f3fd4dce548eb8cb06e7bff909f3a83b8a4c7"), looks := true }, kinds := [], alts := [], laidByText := true, laidKinds := [.handle, .sentinel], laidTests := true, laidLooks := .later }
def VmSumsCardSaid : Prop := Claim7.holds Tryd.pinned (.plain (OpenSpec.ofChange vmSumsSpec)) vmSumsCard

/-- THE TIED CARD OF 'isochronlaw05.VmEnds'. -/
def vmEndsCard : Claim7 := { stood := { row := vmEndsRow, standIns := [], harness := (true, "5569249b020896a7b06dcb525e0f3fd4dce548eb8cb06e7bff909f3a83b8a4c7"), looks := true }, kinds := [], alts := [], laidByText := true, laidKinds := [.handle, .sentinel], laidTests := true, laidLooks := .later }
def VmEndsCardSaid : Prop := Claim7.holds Tryd.pinned (.plain (OpenSpec.ofChange vmEndsSpec)) vmEndsCard

/-- THE TIED CARD OF 'isochronlaw05.VmStays'. -/
def vmStaysCard : Claim7 := { stood := { row := vmStaysRow, standIns := [], harness := (true, "5569249b020896a7b06dcb525e0f3fd4dce548eb8cb06e7bff909f3a83b8a4c7"), looks := true }, kinds := [], alts := [], laidByText := true, laidKinds := [.handle, .sentinel], laidTests := true, laidLooks := .later }
def VmStaysCardSaid : Prop := Claim7.holds Tryd.pinned (.plain (OpenSpec.ofChange vmStaysSpec)) vmStaysCard

/-- THE TIED CARD OF 'isochronlaw05.VmTells'. -/
def vmTellsCard : Claim7 := { stood := { row := vmTellsRow, standIns := [], harness := (true, "5569249b020896a7b06dcb525e0f3fd4dce548eb8cb06e7bff909f3a83b8a4c7"), looks := true }, kinds := [], alts := [], laidByText := true, laidKinds := [.handle, .sentinel], laidTests := true, laidLooks := .later }
def VmTellsCardSaid : Prop := Claim7.holds Tryd.pinned (.plain (OpenSpec.ofChange vmTellsSpec)) vmTellsCard

/-- THE TIED CARD OF 'isochronlaw05.VmSendsOne'. -/
def vmSendsOneCard : Claim7 := { stood := { row := vmSendsOneRow, standIns := [], harness := (true, "5569249b020896a7b06dcb525e0f3fd4dce548eb8cb06e7bff909f3a83b8a4c7"), looks := true }, kinds := [], alts := [], laidByText := true, laidKinds := [.handle, .sentinel], laidTests := true, laidLooks := .later }
def VmSendsOneCardSaid : Prop := Claim7.holds Tryd.pinned (.plain (OpenSpec.ofChange vmSendsOneSpec)) vmSendsOneCard

/-- THE SECOND FORM's CARD OF 'isochronlaw05.VmRuns'. -/
def vmRunsUptoCard : Claim7 := { stood := { row := vmRunsUptoRow, standIns := [], harness := (true, "5569249b020896a7b06dcb525e0f3fd4dce548eb8cb06e7bff909f3a83b8a4c7"), looks := true }, kinds := [], alts := [], laidByText := true, laidKinds := [.handle, .sentinel], laidTests := true, laidLooks := .later }
def VmRunsUptoCardSaid : Prop := Claim7.holds Tryd.pinned (.plain (OpenSpec.upto vmRunsSpec)) vmRunsUptoCard

/-- THE SECOND FORM's CARD OF 'isochronlaw05.VmChecks'. -/
def vmChecksUptoCard : Claim7 := { stood := { row := vmChecksUptoRow, standIns := [], harness := (true, "5569249b020896a7b06dcb525e0f3fd4dce548eb8cb06e7bff909f3a83b8a4c7"), looks := true }, kinds := [], alts := [], laidByText := true, laidKinds := [.handle, .sentinel], laidTests := true, laidLooks := .later }
def VmChecksUptoCardSaid : Prop := Claim7.holds Tryd.pinned (.plain (OpenSpec.upto vmChecksSpec)) vmChecksUptoCard

/-- THE SECOND FORM's CARD OF 'isochronlaw05.VmLater'. -/
def vmLaterUptoCard : Claim7 := { stood := { row := vmLaterUptoRow, standIns := [], harness := (true, "5569249b020896a7b06dcb525e0f3fd4dce548eb8cb06e7bff909f3a83b8a4c7"), looks := true }, kinds := [], alts := [], laidByText := true, laidKinds := [.handle, .sentinel], laidTests := true, laidLooks := .later }
def VmLaterUptoCardSaid : Prop := Claim7.holds Tryd.pinned (.plain (OpenSpec.upto vmLaterSpec)) vmLaterUptoCard

/-- THE SECOND FORM's CARD OF 'isochronlaw05.VmSums'. -/
def vmSumsUptoCard : Claim7 := { stood := { row := vmSumsUptoRow, standIns := [], harness := (true, "5569249b020896a7b06dcb525e0f3fd4dce548eb8cb06e7bff909f3a83b8a4c7"), looks := true }, kinds := [], alts := [], laidByText := true, laidKinds := [.handle, .sentinel], laidTests := true, laidLooks := .later }
def VmSumsUptoCardSaid : Prop := Claim7.holds Tryd.pinned (.plain (OpenSpec.upto vmSumsSpec)) vmSumsUptoCard

/-- THE SECOND FORM's CARD OF 'isochronlaw05.VmEnds'. -/
def vmEndsUptoCard : Claim7 := { stood := { row := vmEndsUptoRow, standIns := [], harness := (true, "5569249b020896a7b06dcb525e0f3fd4dce548eb8cb06e7bff909f3a83b8a4c7"), looks := true }, kinds := [], alts := [], laidByText := true, laidKinds := [.handle, .sentinel], laidTests := true, laidLooks := .later }
def VmEndsUptoCardSaid : Prop := Claim7.holds Tryd.pinned (.plain (OpenSpec.upto vmEndsSpec)) vmEndsUptoCard

/-- THE SECOND FORM's CARD OF 'isochronlaw05.VmStays'. -/
def vmStaysUptoCard : Claim7 := { stood := { row := vmStaysUptoRow, standIns := [], harness := (true, "5569249b020896a7b06dcb525e0f3fd4dce548eb8cb06e7bff909f3a83b8a4c7"), looks := true }, kinds := [], alts := [], laidByText := true, laidKinds := [.handle, .sentinel], laidTests := true, laidLooks := .later }
def VmStaysUptoCardSaid : Prop := Claim7.holds Tryd.pinned (.plain (OpenSpec.upto vmStaysSpec)) vmStaysUptoCard

/-- THE SECOND FORM's CARD OF 'isochronlaw05.VmTells'. -/
def vmTellsUptoCard : Claim7 := { stood := { row := vmTellsUptoRow, standIns := [], harness := (true, "5569249b020896a7b06dcb525e0f3fd4dce548eb8cb06e7bff909f3a83b8a4c7"), looks := true }, kinds := [], alts := [], laidByText := true, laidKinds := [.handle, .sentinel], laidTests := true, laidLooks := .later }
def VmTellsUptoCardSaid : Prop := Claim7.holds Tryd.pinned (.plain (OpenSpec.upto vmTellsSpec)) vmTellsUptoCard

/-- THE SECOND FORM's CARD OF 'isochronlaw05.VmSendsOne'. -/
def vmSendsOneUptoCard : Claim7 := { stood := { row := vmSendsOneUptoRow, standIns := [], harness := (true, "5569249b020896a7b06dcb525e0f3fd4dce548eb8cb06e7bff909f3a83b8a4c7"), looks := true }, kinds := [], alts := [], laidByText := true, laidKinds := [.handle, .sentinel], laidTests := true, laidLooks := .later }
def VmSendsOneUptoCardSaid : Prop := Claim7.holds Tryd.pinned (.plain (OpenSpec.upto vmSendsOneSpec)) vmSendsOneUptoCard
end Rows
end Go.Proofs.YtghbdpjegmdhbaaDoor
