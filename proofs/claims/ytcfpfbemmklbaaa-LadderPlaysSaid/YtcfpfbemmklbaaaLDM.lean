/-
  The bottom's later half let up.
-/
import Derived.Test.YtcfpfbemmklbaaaLDMS
import Derived.Test.YtcfpfbemmklbaaaLDMN
namespace Go.Proofs.Ytcfpfbemmklbaaa
open Go.ChangeShapes Go.WideShapes Go.ChangeAt Go.Shelf Go.RowKit Go.Lib Go.Sort Go.Deep
set_option linter.unusedVariables false

theorem spill_any {w : World} {rb : Nat} {most : Int} {bv av : Value} {B : List M} {us : List Up} (h : RungsOf w rb most bv B av us) (hS : Stairs B us) (hU : Unlike B) (hB : 2 ≤ B.length) (hl : (held B us).length < 300000) :
    Calls Try.prog 46 #[.pointer (some ⟨rb, 0, none⟩)] w fun e w' => e = .returned (.tuple #[]) ∧ Spilt w rb most bv av us B (held B us) w' := by
  obtain ⟨g, off, cap, rfl, hR⟩ := AtM.form h.bot (by omega)
  have h1 : 1 ≤ (B.length + 1) / 2 := by omega
  have h2 : (B.length + 1) / 2 < B.length := by omega
  have hbl := held_len B us
  rcases List.eq_nil_or_concat us with rfl | ⟨X, u, rfl⟩
  · refine (spill_new h rfl hB (by omega)).mono ?_
    rintro e w' ⟨he, av', v', bv', hres⟩
    obtain ⟨s1, s2⟩ := hS.spillNew hU h1 h2 v'
    exact ⟨he, _, _, _, _, hres, s1, s2⟩
  · rw [List.concat_eq_append] at h hS hl hbl ⊢
    have hul := held_mem (B := B) (us := X ++ [u]) (List.mem_append_right _ (List.mem_singleton.2 rfl))
    have hrl := held_rungs (B := B) hS.up.full
    rw [List.length_append, List.length_singleton] at hrl
    obtain ⟨ag, aoff, acap, rfl, hRU⟩ := AtU.form h.abv (by simp)
    rw [show (X ++ [u]).length = X.length + 1 by simp] at h ⊢
    refine (spill_some h rfl hB (by omega)).mono ?_
    rintro e w' ⟨he, v', bv', hres⟩
    obtain ⟨s1, s2⟩ := hS.spill hU h1 h2 v'
    exact ⟨he, _, _, _, _, hres, s1, s2⟩
end Go.Proofs.Ytcfpfbemmklbaaa
