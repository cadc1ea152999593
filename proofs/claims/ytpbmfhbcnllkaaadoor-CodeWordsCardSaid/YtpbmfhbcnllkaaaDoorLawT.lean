/-
  The law over Text: the program's words of an instruction are the document's.
-/
import Derived.Test.YtpbmfhbcnllkaaaDoorOpen3
import Derived.Test.YtpbmfhbcnllkaaaDoorCodeA
namespace Go.Proofs.YtpbmfhbcnllkaaaDoor
open Go.ChangeShapes Go.WideShapes Go.ChangeAt Go.RowKit Go.Sort
set_option linter.unusedVariables false

theorem I.fits.all {i : I} (h : i.fits) : i.inAll := by
  obtain ⟨-, h1, h2, h3⟩ := h
  exact ⟨⟨(bounds_i64 h1).1, (bounds_i64 h1).2⟩, ⟨(bounds_i64 h2).1, (bounds_i64 h2).2⟩, ⟨(bounds_i64 h3).1, (bounds_i64 h3).2⟩⟩
set_option maxHeartbeats 1000000 in
theorem lawCodeTexts {w : World} (hT : Tab w) (x : I) (f : x.fits) :
    Calls Tryd.prog 6 #[x.val] w fun e w' => e = .returned (.bool true) ∧ Below w.heap.size w w' := by
  have mixed := mixed
  have h1 := fun w hT => cText_any x f.all w hT
  have h2 := fun w => r3Text_any x f.all w
  generalize textI x = t at h1 h2
  clear f
  obtain ⟨op, a, b, c⟩ := x
  simp only [I.val] at h1 h2 ⊢
  have hl := InsAt.mk w op a b c
  have hrd := Read.mk w (.cells #[.int .i64 op, .int .i64 a, .int .i64 b, .int .i64 c] 40)
  have hTW := hT.read hrd
  clear hT
  go_enter Tryd.func6, Tryd.ntmps6
  go_wp2
  generalize World.alloc w _ = W at hl hrd hTW ⊢
  have hl' := fun n os => hl.read ⟨n, os, rfl⟩
  simp only [InsAt, forall_and, Nat.zero_add] at hl'
  obtain ⟨-, l0, l1, l2, l3⟩ := hl'
  have h1' := fun n os => h1 (grow (W.drewN n) os) (hTW.read ⟨n, os, rfl⟩)
  have h3' := fun n os => awake3_any (grow (W.drewN n) os) (hTW.read ⟨n, os, rfl⟩)
  clear hl h1 hTW
  go_quiet_grown (first | (go_at_call 19; exact Calls.read_of (h1' _ _)) | (go_at_call 20; exact Calls.read_of (h2 _)) | (go_at_call 13; exact Calls.read_of (h3' _ _)))
  go_wp2
  go_ret
  exact ⟨rfl, (hrd.trans ⟨_, _, rfl⟩).below⟩

end Go.Proofs.YtpbmfhbcnllkaaaDoor
