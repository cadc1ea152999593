/-
  A queue: Cut.
-/
import Derived.Test.YtbalbachmeiehaaHI
namespace Go.Proofs.Ytbalbachmeiehaa
open Go.ChangeShapes Go.WideShapes Go.ChangeAt Go.Shelf Go.RowKit Go.Lib Go.Sort Go.Deep Go.Maps
set_option linter.unusedVariables false

/-- Cut's four boxes: the queue, the two answers, the sending that is asked for. -/
structure CutBoxes (W : World) (B hb : Nat) (f u : Int) : Prop where
  q : W.heap[B]? = some (.cells #[.pointer (some ⟨hb, 0, none⟩)] 23)
  r : BoxM W (B + 1) zeroM
  e : W.heap[B + 1 + 1]? = some (.cells #[.int .i64 0] 42)
  s : W.heap[B + 1 + 1 + 1]? = some (.cells #[.int .i64 f, .int .i64 u] 68)
/-- The world in which they have been laid. -/
def cutW (w : World) (hb : Nat) (f u : Int) : World :=
  (((w.alloc (.cells #[.pointer (some ⟨hb, 0, none⟩)] 23)).alloc (.cells #[.int .i64 0, .int .i64 0, .int .i64 0, .int .i64 0, .int .i64 0, .int .i64 0, .bool false] 31)).alloc (.cells #[.int .i64 0] 42)).alloc (.cells #[.int .i64 f, .int .i64 u] 68)
theorem cutW_size (w : World) (hb : Nat) (f u : Int) : (cutW w hb f u).heap.size = w.heap.size + 4 := by simp [cutW]
theorem cutW_below (w : World) (hb : Nat) (f u : Int) : Below w.heap.size w (cutW w hb f u) :=
  ((((Below.refl _ w).alloc (Nat.le_refl _) _).alloc (by simp) _).alloc (by simp; omega) _).alloc (by simp; omega) _
theorem cutW_boxes (w : World) (hb : Nat) (f u : Int) : CutBoxes (cutW w hb f u) w.heap.size hb f u := by
  have a1 : ∀ (W : World) (o : Obj) (k : Nat), k < W.heap.size → (W.alloc o).heap[k]? = W.heap[k]? := fun W o k h => Below.heap_alloc W o k h
  have a2 : ∀ (W : World) (o : Obj) (k : Nat), k = W.heap.size → (W.alloc o).heap[k]? = some o := fun W o k h => by subst h; exact heap_alloc_new W o
  refine ⟨?_, ?_, ?_, ?_⟩
  · unfold cutW; rw [a1 _ _ _ (by simp; omega), a1 _ _ _ (by simp; omega), a1 _ _ _ (by simp), a2 _ _ _ rfl]
  · unfold BoxM cutW; rw [a1 _ _ _ (by simp), a1 _ _ _ (by simp), a2 _ _ _ (by simp)]; try rfl
  · unfold cutW; rw [a1 _ _ _ (by simp), a2 _ _ _ (by simp)]
  · unfold cutW; rw [a2 _ _ _ (by simp)]
theorem CutBoxes.below {W W' : World} {B hb : Nat} {f u : Int} {B' : Nat} (h : CutBoxes W B hb f u) (hk : Below B' W W') (hB : B + 4 ≤ B') : CutBoxes W' B hb f u :=
  ⟨(hk.block _ (by omega)).trans h.q, (hk.block _ (by omega)).trans h.r, (hk.block _ (by omega)).trans h.e, (hk.block _ (by omega)).trans h.s⟩
theorem cell_of_block {W : World} {b o : Nat} {cs : Array Value} {t : TypeId} {u : Value} (h : W.heap[b]? = some (.cells cs t)) (hu : cs[o]? = some u) : W.cell? ⟨b, o, none⟩ = some u := by simp [World.cell?, h, hu]
theorem frozen_of_block {W : World} {b o : Nat} {cs : Array Value} {t : TypeId} (h : W.heap[b]? = some (.cells cs t)) : W.frozen? ⟨b, o, none⟩ = false := by simp [World.frozen?, h]

set_option maxHeartbeats 1000000 in
theorem hCut_none {w : World} {b0 hb tb mb n : Nat} {v : Value} {T : List M} (h : QAt w b0 hb tb mb n v T) {f u : Int} (hf : (Lit.int .i64 f).wf = true) (hu : (Lit.int .i64 u).wf = true) (hs : hasS T f u = false) :
    Calls Try.prog 18 #[.pointer (some ⟨hb, 0, none⟩), .int .i64 f, .int .i64 u] w fun e w' => e = .returned (.tuple #[zeroM.val, .int .i64 6]) ∧ Below w.heap.size w w' := by
  have hm1 := fun (w' : World) (hb' : Below w.heap.size w w') => made_ok (h.below hb').h
  have hB1 : Hid (Below w.heap.size w (((w.alloc (.cells #[.pointer (some ⟨hb, 0, none⟩)] 23)).alloc (.cells #[.int .i64 0, .int .i64 0, .int .i64 0, .int .i64 0, .int .i64 0, .int .i64 0, .bool false] 31)).alloc (.cells #[.int .i64 0] 42))) := (((Below.refl _ w).alloc (Nat.le_refl _) _).alloc (by simp) _).alloc (by simp; omega) _
  have hmd := hm1 _ hB1.out
  have hha := has_any (h.below (cutW_below w hb f u)).h (h.below (cutW_below w hb f u)).s hf hu
  rw [hs] at hha
  have hmd' := Lib.hid hmd
  have hbx : Hid (∀ w2, Read (cutW w hb f u) w2 → CutBoxes w2 w.heap.size hb f u) := fun w2 hr2 => (cutW_boxes w hb f u).below hr2.below (by rw [cutW_size]; exact Nat.le_refl _)
  have hcw : Hid (cutW w hb f u = (((w.alloc (.cells #[.pointer (some ⟨hb, 0, none⟩)] 23)).alloc (.cells #[.int .i64 0, .int .i64 0, .int .i64 0, .int .i64 0, .int .i64 0, .int .i64 0, .bool false] 31)).alloc (.cells #[.int .i64 0] 42)).alloc (.cells #[.int .i64 f, .int .i64 u] 68)) := rfl
  have hcb := Lib.hid (cutW_below w hb f u)
  have hcs := Lib.hid (cutW_size w hb f u)
  generalize cutW w hb f u = W0 at hha hbx hcw hcb hcs
  have hha' := Lib.hid hha
  clear h hm1 hmd hha hs
  go_enter Try.func18, Try.ntmps18
  go_upto_region 4 with (go_at_call 25; refine hmd'.out.mono ?_; rintro e w' ⟨rfl, rfl⟩)
  rw [← hcw.out]
  have hb0 := hbx.out W0 (Read.refl _)
  have cq := cell_of_block (o := 0) hb0.q rfl
  have cs0 := cell_of_block (o := 0) hb0.s rfl
  have cs1 := cell_of_block (o := 1) hb0.s rfl
  clear hb0
  go_upto_region 10 with (go_at_call 28; refine hha'.out.mono ?_; rintro e w2 ⟨rfl, hr2⟩; have hr2' := Lib.hid hr2; clear hr2)
  have hb2 := hbx.out w2 hr2'.out
  have hE : (w2.setRow (w.heap.size + 1) zeroM.cells).heap[w.heap.size + 1 + 1]? = some (.cells #[.int .i64 0] 42) := (setRow_other _ _ _ _ (by omega)).trans hb2.e
  have e0 := cell_of_block (o := 0) hE rfl
  have e1 := frozen_of_block (o := 0) hE
  have hR := hb2.r
  have hR' := Lib.hid hR
  clear cq cs0 cs1 hb2 hE
  go_wp2_with (refine wpList_store_row rfl 31 (.tmp 6) (.tmp 35) rfl (w.heap.size + 1) zeroM.cells rfl rfl 31 zeroM.cells hR infoS rfl (M.cells_one zeroM) ?_)
  have hQ : BoxM ((w2.setRow (w.heap.size + 1) zeroM.cells).setCell ⟨w.heap.size + 1 + 1, 0, none⟩ (.int .i64 6)) (w.heap.size + 1) zeroM := (hR'.out.row zeroM).kept (KeptOff.set _ _ _) (by simp)
  obtain ⟨-, s0, s1, s2, s3, s4, s5, s6⟩ := hQ.at
  simp only [Nat.zero_add] at s0 s1 s2 s3 s4 s5 s6
  have s7 : ((w2.setRow (w.heap.size + 1) zeroM.cells).setCell ⟨w.heap.size + 1 + 1, 0, none⟩ (.int .i64 6)).cell? ⟨w.heap.size + 1 + 1, 0, none⟩ = some (.int .i64 6) := World.cell?_setCell_same' _ _ _ (by rw [e0]; rfl)
  refine bodyPost_ret (v := .tuple #[zeroM.val, .int .i64 6]) (by simp [results, Try.results18, go_sem, s0, s1, s2, s3, s4, s5, s6, s7, M.val]) rfl ⟨rfl, ?_⟩
  have hk : KeptOff (fun k => w.heap.size ≤ k) w ((w2.setRow (w.heap.size + 1) zeroM.cells).setCell ⟨w.heap.size + 1 + 1, 0, none⟩ (.int .i64 6)) :=
    (((KeptOff.of_below hcb.out).then_new (KeptOff.of_read (S := fun _ => False) hr2'.out) (fun _ _ e => e.elim)).then_new (KeptOff.setRow _ _ _) (fun k hk e => by omega)).then_new (KeptOff.set _ _ _) (fun k hk e => by simp at e; omega)
  exact hk.below (fun k _ e => e) (Nat.le_refl _)
end Go.Proofs.Ytbalbachmeiehaa
