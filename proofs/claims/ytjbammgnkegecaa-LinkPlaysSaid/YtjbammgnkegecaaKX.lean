/-
  The law's own comparison of two lists of parcels.
-/
import Derived.Test.YtjbammgnkegecaaKW
namespace Go.Proofs.Ytjbammgnkegecaa
open Go.ChangeShapes Go.WideShapes Go.ChangeAt Go.Shelf Go.RowKit Go.Lib Go.Sort Go.Deep
set_option linter.unusedVariables false
set_option maxRecDepth 4000

set_option maxHeartbeats 4000000 in
theorem sameP_eq {w : World} {a a' : Option Addr} {c c' : Nat} {L : List Pc} (h : AtP w (.slice a L.length c) L) (h' : AtP w (.slice a' L.length c') L) (hl : L.length < 1000000000000000) :
    Calls Try.prog 22 #[.slice a L.length c, .slice a' L.length c'] w fun e w' => e = .returned (.bool true) ∧ Below w.heap.size w w' := by
  have mixed := mixed
  have hA := Lib.hid h
  have hB := Lib.hid h'
  obtain ⟨N, hN⟩ : ∃ N, N = L.length := ⟨_, rfl⟩
  rw [← hN] at hA hB hl ⊢
  have hN' := Lib.hid hN
  clear h h' hN
  go_enter Try.func22, Try.ntmps22
  go_wp2
  go_loopw [5] (fun s5 wr => ∃ k : Nat, k ≤ N ∧ s5 = .int .i64 k ∧ Hid (Below w.heap.size w wr)) (fun s5 _ => N - (intOf s5).toNat)
  case atStart => exact ⟨0, Nat.zero_le _, rfl, Below.refl _ _⟩
  case round =>
    obtain ⟨k, hk, rfl, hW⟩ := hrel
    by_cases hkl : k < N
    · have hkI : (k : Int) < (N : Int) := by omega
      have hkL : k < L.length := by rw [← hN'.out]; exact hkl
      obtain ⟨g, off, cap, e, hca, hcb, hg, hr⟩ := AtP.get hA.out hkL
      obtain ⟨g', off', cap', e', hca', hcb', hg', hr'⟩ := AtP.get hB.out hkL
      rw [← hN'.out] at e e'
      simp only [Value.slice.injEq, true_and] at e e'
      obtain ⟨rfl, rfl⟩ := e
      obtain ⟨rfl, rfl⟩ := e'
      have hd : Below w.heap.size w wr.drew := hW.out.drew
      have hx : PcAt wr.drew g (off + k * 8) (L.getD k default) := .of_range (fun j u hj => by rw [hd.cell (p := ⟨g, _, none⟩) hg]; exact hr j u hj)
      have hy : PcAt wr.drew g' (off' + k * 8) (L.getD k default) := .of_range (fun j u hj => by rw [hd.cell (p := ⟨g', _, none⟩) hg']; exact hr' j u hj)
      have hd' := Lib.hid hd
      clear hr hr' hd
      generalize L.getD k default = p at *
      have heq := fun w => neqP p p w
      simp only [decide_true, Bool.not_true, Pc.val] at heq
      have hw1 : IntKind.i64.wrap ((k : Int) + 1) = (k : Int) + 1 := IntWalk.i64_in _ (by omega)
      unfold PcAt at hx hy
      have hxy := And.intro hx hy
      clear hx hy hW
      go_upto_region 6 with (fail)
      go_region_held3 (fun w' => (w'.cell? ⟨g, off + k * 8, none⟩ = some (.int .i64 p.m.k.t) ∧ w'.cell? ⟨g, off + k * 8 + 1, none⟩ = some (.int .i64 p.m.k.f) ∧ w'.cell? ⟨g, off + k * 8 + 2, none⟩ = some (.int .i64 p.m.k.s) ∧ w'.cell? ⟨g, off + k * 8 + 3, none⟩ = some (.int .i64 p.m.to) ∧
        w'.cell? ⟨g, off + k * 8 + 4, none⟩ = some (.int .i64 p.m.v) ∧ w'.cell? ⟨g, off + k * 8 + 5, none⟩ = some (.int .i64 p.m.u) ∧ w'.cell? ⟨g, off + k * 8 + 6, none⟩ = some (.bool p.m.anti) ∧ w'.cell? ⟨g, off + k * 8 + 7, none⟩ = some (.int .i64 p.c)) ∧
        w'.cell? ⟨g', off' + k * 8, none⟩ = some (.int .i64 p.m.k.t) ∧ w'.cell? ⟨g', off' + k * 8 + 1, none⟩ = some (.int .i64 p.m.k.f) ∧ w'.cell? ⟨g', off' + k * 8 + 2, none⟩ = some (.int .i64 p.m.k.s) ∧ w'.cell? ⟨g', off' + k * 8 + 3, none⟩ = some (.int .i64 p.m.to) ∧
        w'.cell? ⟨g', off' + k * 8 + 4, none⟩ = some (.int .i64 p.m.v) ∧ w'.cell? ⟨g', off' + k * 8 + 5, none⟩ = some (.int .i64 p.m.u) ∧ w'.cell? ⟨g', off' + k * 8 + 6, none⟩ = some (.bool p.m.anti) ∧ w'.cell? ⟨g', off' + k * 8 + 7, none⟩ = some (.int .i64 p.c))
        (exact hxy) (fail)
      go_wp2
      go_roundw
      case rel => exact ⟨k + 1, by omega, by go_num, hd'⟩
      case measure => simp [intOf]; omega
    · obtain rfl : k = N := by omega
      have hz2 : ¬ (k : Int) < (k : Int) := by omega
      go_wp2
      go_ret
      exact ⟨rfl, hW.out⟩
end Go.Proofs.Ytjbammgnkegecaa
