/-
  The laws over Check: the program's answer is the document's, and a program without jumps may be just if each of its instructions may be by itself.
-/
import Derived.Test.YtpbmfhbcnllkaaaDoorOpen3
namespace Go.Proofs.YtpbmfhbcnllkaaaDoor
open Go.ChangeShapes Go.WideShapes Go.ChangeAt Go.RowKit Go.Sort
set_option linter.unusedVariables false

theorem lawCodeChecks {w : World} {a : Option Addr} {len cap : Nat} {is : List I} {eb : Addr} (hT : Tab w) (he : ErrIs w eb) (h : Inss w a len cap is) (hr : len * 32 ≤ 140737488351232) :
    Calls Tryd.prog 3 #[.slice a len cap] w fun e w' => e = .returned (.bool true) ∧ Below w.heap.size w w' := by
  have h1 := cCheck_any h he
  have h2 := fun w' (hr : Read w w') => r3Check_any (h.read hr)
  have h3 := fun w' (hr : Read w w') => awake3_any w' (hT.read hr)
  generalize checkN is = z at h1 h2
  clear hT he h
  go_enter Tryd.func3, Tryd.ntmps3
  go_wp2_with (first
    | (go_at_call 11; refine h1.mono ?_; rintro e w1 ⟨rfl, hr1⟩)
    | (go_at_call 12; refine (h2 _ hr1).mono ?_; rintro e w2 ⟨rfl, hr2⟩)
    | (go_at_call 13; refine (h3 _ (hr1.trans hr2)).mono ?_; rintro e w3 ⟨rfl, hr3⟩))
  go_ret
  exact ⟨rfl, (hr1.trans (hr2.trans hr3)).below⟩

end Go.Proofs.YtpbmfhbcnllkaaaDoor
