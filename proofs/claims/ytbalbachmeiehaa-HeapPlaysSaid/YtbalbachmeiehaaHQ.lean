/-
  A queue: what it is in memory; its functions that only look.
-/
import Derived.Test.YtbalbachmeiehaaHM
import Derived.Test.YtbalbachmeiehaaHC
import Derived.Deep.RegionHeld3
import Derived.IntWalk
import Derived.StillTailTactics
namespace Go.Proofs.Ytbalbachmeiehaa
open Go.ChangeShapes Go.WideShapes Go.ChangeAt Go.Shelf Go.RowKit Go.Lib Go.Sort Go.Deep Go.Maps
set_option linter.unusedVariables false

theorem lookSend {w : World} {mb n : Nat} {T : List M} (h : SendsAt w mb n T) {f u : Int} (hf : (Lit.int .i64 f).wf = true) (hu : (Lit.int .i64 u).wf = true) :
    (Instr.lookup 51 (.map (some mb)) (.agg #[.int .i64 f, .int .i64 u]) true).run Try.prog w = .ok (.tuple #[.agg #[], .bool (hasS T f u)]) w := by
  obtain ⟨D, h1, h2⟩ := h
  obtain ⟨v, ps, hrun, hv⟩ := h1.look_ok sendLaw Try.underlying51 (unitZero w) unitElem_mk (keyOf_send hf hu)
  obtain ⟨rfl, _⟩ := unitElem_inv hv
  rw [← h2 f u hf hu]
  exact hrun
theorem SendsAt.alloc {w : World} {mb n : Nat} {T : List M} (h : SendsAt w mb n T) (o : Obj) : SendsAt (w.alloc o) mb n T := h.block (Below.heap_alloc w o mb h.lt)

/-- The queue's two cells. -/
def HeapOf (w : World) (hb tb mb : Nat) : Prop := w.heap[hb]? = some (.cells #[.pointer (some ⟨tb, 0, none⟩), .map (some mb)] 53)
theorem HeapOf.c0 {w : World} {hb tb mb : Nat} (h : HeapOf w hb tb mb) : w.cell? ⟨hb, 0, none⟩ = some (.pointer (some ⟨tb, 0, none⟩)) := by unfold HeapOf at h; simp [World.cell?, h]
theorem HeapOf.c1 {w : World} {hb tb mb : Nat} (h : HeapOf w hb tb mb) : w.cell? ⟨hb, 1, none⟩ = some (.map (some mb)) := by unfold HeapOf at h; simp [World.cell?, h]
theorem HeapOf.lt {w : World} {hb tb mb : Nat} (h : HeapOf w hb tb mb) : hb < w.heap.size := (Array.getElem?_eq_some_iff.1 h).1
theorem HeapOf.kept {S : Nat → Prop} {w w' : World} {hb tb mb : Nat} (h : HeapOf w hb tb mb) (hk : KeptOff S w w') (hn : ¬ S hb) : HeapOf w' hb tb mb := (hk.block hb h.lt hn).trans h

theorem made_ok {w : World} {hb tb mb : Nat} (h : HeapOf w hb tb mb) : Calls Try.prog 25 #[.pointer (some ⟨hb, 0, none⟩)] w fun e w' => e = .returned (.bool true) ∧ w = w' := by
  have c0 := h.c0
  clear h
  go_enter Try.func25, Try.ntmps25
  go_wp2
  go_ret
  exact ⟨rfl, rfl⟩
theorem made_nil (w : World) : Calls Try.prog 25 #[.pointer none] w fun e w' => e = .returned (.bool false) ∧ w = w' := by
  go_enter Try.func25, Try.ntmps25
  go_wp2
  go_ret
  exact ⟨rfl, rfl⟩
theorem made_zero {w : World} {hb : Nat} (c0 : w.cell? ⟨hb, 0, none⟩ = some (.pointer none)) : Calls Try.prog 25 #[.pointer (some ⟨hb, 0, none⟩)] w fun e w' => e = .returned (.bool false) ∧ w = w' := by
  go_enter Try.func25, Try.ntmps25
  go_wp2
  go_ret
  exact ⟨rfl, rfl⟩
theorem sending_any (m : M) (w : World) : Calls Try.prog 29 #[m.val] w fun e w' => e = .returned (sendV m.k.f m.u) ∧ Read w w' := by
  obtain ⟨⟨t, f, s⟩, tt, v, u, an⟩ := m
  simp only [M.val, sendV]
  go_enter Try.func29, Try.ntmps29
  go_wp2
  refine bodyPost_ret (v := .agg #[.int .i64 f, .int .i64 u]) (by simp [results, Try.results29, go_sem]) rfl ⟨rfl, ?_⟩
  exact Read.two _ _ _

set_option maxHeartbeats 1000000 in
theorem has_any {w : World} {hb tb mb n : Nat} {T : List M} (h : HeapOf w hb tb mb) (hs : SendsAt w mb n T) {f u : Int} (hf : (Lit.int .i64 f).wf = true) (hu : (Lit.int .i64 u).wf = true) :
    Calls Try.prog 28 #[.pointer (some ⟨hb, 0, none⟩), .agg #[.int .i64 f, .int .i64 u]] w fun e w' => e = .returned (.bool (hasS T f u)) ∧ Read w w' := by
  have mixed := mixed
  obtain ⟨r, hr⟩ : ∃ r, hasS T f u = r := ⟨_, rfl⟩
  have hr' := Lib.hid hr
  rw [hr]
  clear hr
  have hs1 := Lib.hid (hs.alloc (.cells #[.int .i64 f, .int .i64 u] 68))
  have h1 : Hid (HeapOf (w.alloc (.cells #[.int .i64 f, .int .i64 u] 68)) hb tb mb) := (Below.heap_alloc w _ hb h.lt).trans h
  have b0 : (w.alloc (.cells #[.int .i64 f, .int .i64 u] 68)).cell? ⟨w.heap.size, 0, none⟩ = some (.int .i64 f) := by simp
  have b1 : (w.alloc (.cells #[.int .i64 f, .int .i64 u] 68)).cell? ⟨w.heap.size, 1, none⟩ = some (.int .i64 u) := by simp
  have hrd : Hid (Read w (w.alloc (.cells #[.int .i64 f, .int .i64 u] 68))) := Read.mk _ _
  clear h hs
  go_enter Try.func28, Try.ntmps28
  go_wp2_with fail
  generalize w.alloc (.cells #[.int .i64 f, .int .i64 u] 68) = W at hs1 h1 b0 b1 hrd ⊢
  have c1 := h1.out.c1
  have hsd : SendsAt W.drew mb n T := hs1.out.block rfl
  have hl := lookSend hsd hf hu
  have hl2 := fun o => lookSend (hsd.alloc o) hf hu
  rw [hr'.out] at hl
  simp only [hr'.out] at hl2
  clear hsd
  go_region_held3 (fun w' => w'.cell? ⟨hb, 1, none⟩ = some (.map (some mb)) ∧ w'.cell? ⟨w.heap.size, 0, none⟩ = some (.int .i64 f) ∧ w'.cell? ⟨w.heap.size, 1, none⟩ = some (.int .i64 u) ∧ (Instr.lookup 51 (.map (some mb)) (.agg #[.int .i64 f, .int .i64 u]) true).run Try.prog w' = .ok (.tuple #[.agg #[], .bool r]) w')
    (first | exact ⟨c1, b0, b1, hl⟩ | exact ⟨Lib.cell?_alloc_some _ c1, Lib.cell?_alloc_some _ b0, Lib.cell?_alloc_some _ b1, hl2 _⟩ | go_keep)
    (fail)
  all_goals
    clear c1 b0 b1 hl hl2
    go_wp2
    go_ret
    exact ⟨rfl, hrd.out.trans ((Read.drew W 1).trans (Read.mk _ _))⟩
end Go.Proofs.Ytbalbachmeiehaa
