/-
  A ladder: All.
-/
import Derived.Test.YtcfpfbemmklbaaaLDYC
import Derived.Test.YtcfpfbemmklbaaaLDQG
namespace Go.Proofs.Ytcfpfbemmklbaaa
open Go.ChangeShapes Go.WideShapes Go.ChangeAt Go.Shelf Go.RowKit Go.Lib Go.Sort Go.Deep Go.Maps
set_option linter.unusedVariables false

theorem hAll_any {w : World} {hb : Nat} {S : Nat → Prop} {T : List M} (h : CalAt w hb S T) : Calls Try.prog 13 #[.pointer (some ⟨hb, 0, none⟩)] w fun e w' => ∃ (a' : Option Addr) (c' : Nat), e = .returned (.slice a' T.length c') ∧
    Hid (Msgs w' a' T.length c' T ∧ Below w.heap.size w w' ∧ FreshA w.heap.size T.length a') := by
  obtain ⟨rb, mb, most, bv, av, B, us, h1, h3, h4⟩ := h
  have hmd := made_ok h1.row
  have c0 := h1.row.c0
  have hs := Lib.hid (sorted_any h1)
  clear h1 h3 h4
  go_enter Try.func13, Try.ntmps13
  go_wp2_with (first | (go_at_call 25; refine hmd.mono ?_; rintro e w' ⟨rfl, rfl⟩) | (go_at_call 26; refine hs.out.mono ?_; rintro e w5 ⟨a', c', rfl, hM⟩))
  go_ret
  exact ⟨a', c', rfl, hM⟩
end Go.Proofs.Ytcfpfbemmklbaaa
