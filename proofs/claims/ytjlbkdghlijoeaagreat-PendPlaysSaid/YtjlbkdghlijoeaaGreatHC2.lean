/-
  The tree's iterator over its places: what it hands to whatever loop goes over it.
  A queue: Cut.
  The tree's cut, at a tree whose row may lie ahead of its block (a copy that is taken apart).
-/
import Derived.Test.YtjlbkdghlijoeaaGreatHLZ
import Derived.RangeFuncNested
import Derived.RangeFuncLeaves
import Derived.Shelf.Abstract
import Derived.OwnWalkIn
import Derived.TacticsInMore
import Derived.LoopNIn
import Derived.LoopIn
namespace Go.Proofs.YtjlbkdghlijoeaaGreat
open Go.ChangeShapes Go.WideShapes Go.ChangeAt Go.Shelf Go.RowKit Go.Lib Go.Sort Go.Deep Go.Maps
set_option linter.unusedVariables false
attribute [local go_sem] Oper.semAt_some

/-- The first k places. -/
def places (ms : List M) (k : Nat) : List (Fin ms.length) := (List.finRange ms.length).take k
theorem places_succ (ms : List M) (k : Nat) (hk : k < ms.length) : places ms (k + 1) = places ms k ++ [⟨k, hk⟩] := by
  unfold places
  rw [List.take_succ_eq_append_getElem (by simpa using hk)]
  simp
theorem places_length (ms : List M) (k : Nat) (hk : k ≤ ms.length) : (places ms k).length = k := by simp [places, hk]
theorem places_all (ms : List M) (x : Fin ms.length) : x ∈ places ms ms.length := by
  unfold places
  rw [List.take_of_length_le (by simp)]
  exact List.mem_finRange x
/-- What a place is handed over as, with what lies there. -/
def placeV (ms : List M) (x : Fin ms.length) : Array Value := #[.int .i64 ((x.val : Nat) : Int), (ms.getD x.val default).val]

theorem tall_any (tb : Nat) (w : World) : Calls Tryz.prog 72 #[.pointer (some ⟨tb, 0, none⟩)] w fun e w' => e = .returned (.func (.func 81) #[] #[.pointer (some ⟨w.heap.size, 0, none⟩)]) ∧ w' = w.alloc (.cells #[.pointer (some ⟨tb, 0, none⟩)] 80) := by
  go_enter Tryz.func72, Tryz.ntmps72
  go_wp2
  go_ret
  exact ⟨rfl, rfl⟩

set_option maxRecDepth 100000 in
set_option maxHeartbeats 2000000 in
theorem tall1_in (F : Fence) (n : Nat) (hF : F.fn 81) (hro : F.round = none) (hn : 1 ≤ n) (l Bt n₀ tb g cap : Nat) (ms : List M) (hsm : ms.length ≤ 16384) (hg : g < n₀) (J Jx : List (Fin ms.length) → World → Prop)
    (hY : ∀ pre x W, J pre W → pre.length < ms.length → YieldAt F (n - 1) Tryz.prog l (placeV ms x) W fun e W' =>
      (e = .returned (.bool true) ∧ J (pre ++ [x]) W' ∧ Below n₀ W W') ∨ (e = .returned (.bool false) ∧ Jx (pre ++ [x]) W'))
    (W : World) (hJ : AbidesFrom W.heap.size J) (hBt : W.cell? ⟨Bt, 0, none⟩ = some (.pointer (some ⟨tb, 0, none⟩))) (ht : W.cell? ⟨tb, 0, none⟩ = some (.slice (some ⟨g, 0, none⟩) ms.length cap)) (hcap : ms.length ≤ cap)
    (hc : ∀ j, j < ms.length → MsgAt W g (0 + j * 7) (ms.getD j default)) (hn₀ : n₀ ≤ W.heap.size) (h0 : J [] W) :
    CallsIn F n Tryz.prog 81 #[.func (.yield l) #[] #[], .pointer (some ⟨Bt, 0, none⟩)] W fun e W' => (∃ v, e = .returned v) ∧
      ((∃ ys, ys = places ms ms.length ∧ J ys W') ∨ (∃ pre, (∃ k, k ≤ ms.length ∧ pre = places ms k) ∧ Jx pre W')) := by
  have hJ' := Lib.hid hJ
  have hY' := Lib.hid hY
  have hc' := Lib.hid hc
  obtain ⟨len, hlen⟩ : ∃ len, len = ms.length := ⟨_, rfl⟩
  have hlen' := Lib.hid hlen
  rw [← hlen] at hsm ht hcap
  clear hJ hY hc hlen
  refine callsIn_of_wp Tryz.func81 rfl hF ?_ hro
  simp only [Tryz.ntmps81, List.size_toArray, List.length_cons, List.length_nil, Nat.reduceAdd, Nat.reduceSub, Array.replicate_succ, Array.replicate_zero, List.push_toArray, List.append_toArray, List.nil_append, List.cons_append]
  gi_wp2
  gi_loopw [10] (fun i wr => ∃ k : Nat, k ≤ len ∧ i = .int .i64 k ∧ Hid (J (places ms k) wr) ∧ Below n₀ W wr ∧ W.heap.size ≤ wr.heap.size)
    (fun i _ => len - (intOf i).toNat)
  case atStart => exact ⟨0, Nat.zero_le _, rfl, h0, Below.refl _ _, Nat.le_refl _⟩
  case round =>
    obtain ⟨k, hk, rfl, hJs, hnx, hsz⟩ := hrel
    by_cases hlt : k < len
    · have hz : (k : Int) < (len : Int) := by omega
      have hkl : k < ms.length := by rw [← hlen'.out]; exact hlt
      have hm := hc'.out k hkl
      obtain ⟨m, hme⟩ : ∃ m, m = ms.getD k default := ⟨_, rfl⟩
      rw [← hme] at hm
      have hme' := Lib.hid hme
      clear hme
      have hm1 : MsgAt wr g (0 + k * 7) m := by
        obtain ⟨q, c0, c1, c2, c3, c4, c5, c6⟩ := hm
        have hcc : ∀ {o : Nat} {v : Value}, W.cell? ⟨g, o, none⟩ = some v → wr.cell? ⟨g, o, none⟩ = some v := fun h => (hnx.cell (p := ⟨g, _, none⟩) hg).trans h
        exact ⟨Nat.lt_of_lt_of_le q hsz, hcc c0, hcc c1, hcc c2, hcc c3, hcc c4, hcc c5, hcc c6⟩
      obtain ⟨-, x0, x1, x2, x3, x4, x5, x6⟩ := hm1
      simp only [Nat.zero_add] at x0 x1 x2 x3 x4 x5 x6
      have hJa := hJ'.out _ _ _ _ hJs.out (World.grownBy_alloc wr (.cells m.cells 34) none) (fun r e => by cases e)
      have hy0 := hY'.out _ ⟨k, hkl⟩ (wr.alloc (.cells m.cells 34)) hJa (by rw [places_length ms k (Nat.le_of_lt hkl)]; exact hkl)
      obtain ⟨fn, tmps, assign, body, hy, hR⟩ := hy0
      simp only [placeV] at hy hR
      rw [← hme'.out] at hy
      simp only [M.val, M.cells] at hy hR
      have hR' := Lib.hid hR
      clear hm hJa hR
      gi_wp2
      refine hR'.out.mono ?_
      rintro e W3 (⟨rfl, hJ3, hk3⟩ | ⟨rfl, hJx3⟩)
      · have hJ3' : Hid (J (places ms (k + 1)) W3) := by rw [places_succ ms k hkl]; exact hJ3
        have hb3 : Below n₀ W W3 := (hnx.alloc (Nat.le_trans hn₀ hsz) _).trans hk3
        have hs3 : W.heap.size ≤ W3.heap.size := hb3.size
        clear hJ3 hk3 hR' hy x0 x1 x2 x3 x4 x5 x6
        gi_wp2
        go_roundw
        case rel => exact ⟨k + 1, by omega, by simp, hJ3', hb3, hs3⟩
        case measure => simp [intOf]; omega
      · have hJx3' : Hid (Jx (places ms (k + 1)) W3) := by rw [places_succ ms k hkl]; exact hJx3
        clear hJx3 hR' hy x0 x1 x2 x3 x4 x5 x6
        gi_wp2
        refine bodyPost_ret (results_none rfl _ _ _) rfl ?_
        exact ⟨⟨_, rfl⟩, .inr ⟨_, ⟨k + 1, by have := hlen'.out; omega, rfl⟩, hJx3'.out⟩⟩
    · obtain rfl : k = len := by omega
      have hz : ¬ (k : Int) < (k : Int) := by omega
      gi_wp2
      go_end0
      have hfin := hJs.out
      rw [hlen'.out] at hfin
      exact ⟨⟨_, rfl⟩, .inl hfin⟩
theorem tall1_stops (n : Nat) (hn : 1 ≤ n) {w : World} {b0 tb g cap n₀ Bt : Nat} {ms : List M} (h : TreeAt w b0 tb (.slice (some ⟨g, 0, none⟩) ms.length cap) ms) (hBt : Bt < w.heap.size) (hc : w.cell? ⟨Bt, 0, none⟩ = some (.pointer (some ⟨tb, 0, none⟩))) (hg : g < n₀) (hn₀ : n₀ ≤ w.heap.size) :
    SeqStopsK Fence.wide n Tryz.prog 81 #[.pointer (some ⟨Bt, 0, none⟩)] (placeV ms) (Below n₀) (fun ys => ys = places ms ms.length) (fun pre => ∃ k, k ≤ ms.length ∧ pre = places ms k) ms.length w := fun l J Jx W hW hJ hJx hY h0 => by
  have h1 := h.kept (S := fun _ => False) (.of_below hW) (fun e => e) (fun _ _ e => e)
  have hcap : ms.length ≤ cap := by
    rcases h.own.2 with ⟨h0, _⟩ | ⟨g', cap', cur, hv, _, _, h1, h2, _⟩
    · cases h0
    · cases hv; exact h1
  have hho := own_holds h1.own
  exact tall1_in Fence.wide n trivial rfl hn l Bt n₀ tb g cap ms h.small hg J Jx hY W hJ ((hW.cell (p := ⟨Bt, 0, none⟩) hBt).trans hc) h1.t.c0 hcap (fun j hj => msgs_of_holds hho.1 hho.2 j hj) (Nat.le_trans hn₀ hW.size) h0
end Go.Proofs.YtjlbkdghlijoeaaGreat
namespace Go.Proofs.YtjlbkdghlijoeaaGreat
open Go.ChangeShapes Go.WideShapes Go.ChangeAt Go.Shelf Go.RowKit Go.Lib Go.Sort Go.Deep Go.Maps
set_option linter.unusedVariables false

/-- Cut's four boxes: the queue, the two answers, the sending that is asked for. -/
structure CutBoxes (W : World) (B hb : Nat) (f u : Int) : Prop where
  q : W.heap[B]? = some (.cells #[.pointer (some ⟨hb, 0, none⟩)] 70)
  r : BoxM W (B + 1) zeroM
  e : W.heap[B + 1 + 1]? = some (.cells #[.int .i64 0] 24)
  s : W.heap[B + 1 + 1 + 1]? = some (.cells #[.int .i64 f, .int .i64 u] 130)
/-- The world in which they have been laid. -/
def cutW (w : World) (hb : Nat) (f u : Int) : World :=
  (((w.alloc (.cells #[.pointer (some ⟨hb, 0, none⟩)] 70)).alloc (.cells #[.int .i64 0, .int .i64 0, .int .i64 0, .int .i64 0, .int .i64 0, .int .i64 0, .bool false] 34)).alloc (.cells #[.int .i64 0] 24)).alloc (.cells #[.int .i64 f, .int .i64 u] 130)
theorem cutW_size (w : World) (hb : Nat) (f u : Int) : (cutW w hb f u).heap.size = w.heap.size + 4 := by simp [cutW]
theorem cutW_below (w : World) (hb : Nat) (f u : Int) : Below w.heap.size w (cutW w hb f u) :=
  ((((Below.refl _ w).alloc (Nat.le_refl _) _).alloc (by simp) _).alloc (by simp; omega) _).alloc (by simp; omega) _
theorem cutW_boxes (w : World) (hb : Nat) (f u : Int) : CutBoxes (cutW w hb f u) w.heap.size hb f u := by
  have a1 : ∀ (W : World) (o : Obj) (k : Nat), k < W.heap.size → (W.alloc o).heap[k]? = W.heap[k]? := fun W o k h => Below.heap_alloc W o k h
  have a2 : ∀ (W : World) (o : Obj) (k : Nat), k = W.heap.size → (W.alloc o).heap[k]? = some o := fun W o k h => by subst h; exact heap_alloc_new W o
  refine ⟨?_, ?_, ?_, ?_⟩
  · unfold cutW; rw [a1 _ _ _ (by simp; omega), a1 _ _ _ (by simp; omega), a1 _ _ _ (by simp), a2 _ _ _ rfl]
  · unfold BoxM cutW; rw [a1 _ _ _ (by simp), a1 _ _ _ (by simp), a2 _ _ _ (by simp)]; try rfl
  · unfold cutW; rw [a1 _ _ _ (by simp), a2 _ _ _ (by simp)]
  · unfold cutW; rw [a2 _ _ _ (by simp)]
theorem CutBoxes.below {W W' : World} {B hb : Nat} {f u : Int} {B' : Nat} (h : CutBoxes W B hb f u) (hk : Below B' W W') (hB : B + 4 ≤ B') : CutBoxes W' B hb f u :=
  ⟨(hk.block _ (by omega)).trans h.q, (hk.block _ (by omega)).trans h.r, (hk.block _ (by omega)).trans h.e, (hk.block _ (by omega)).trans h.s⟩
theorem cell_of_block {W : World} {b o : Nat} {cs : Array Value} {t : TypeId} {u : Value} (h : W.heap[b]? = some (.cells cs t)) (hu : cs[o]? = some u) : W.cell? ⟨b, o, none⟩ = some u := by simp [World.cell?, h, hu]
theorem frozen_of_block {W : World} {b o : Nat} {cs : Array Value} {t : TypeId} (h : W.heap[b]? = some (.cells cs t)) : W.frozen? ⟨b, o, none⟩ = false := by simp [World.frozen?, h]

set_option maxHeartbeats 1000000 in
theorem hCut_noneH {w : World} {b0 hb tb mb n : Nat} {v : Value} {T : List M} (h : QAt w b0 hb tb mb n v T) {f u : Int} (hf : (Lit.int .i64 f).wf = true) (hu : (Lit.int .i64 u).wf = true) (hs : hasS T f u = false) :
    Calls Tryz.prog 63 #[.pointer (some ⟨hb, 0, none⟩), .int .i64 f, .int .i64 u] w fun e w' => e = .returned (.tuple #[zeroM.val, .int .i64 6]) ∧ Below w.heap.size w w' := by
  have hm1 := fun (w' : World) (hb' : Below w.heap.size w w') => made_okH (h.below hb').h
  have hB1 : Hid (Below w.heap.size w (((w.alloc (.cells #[.pointer (some ⟨hb, 0, none⟩)] 70)).alloc (.cells #[.int .i64 0, .int .i64 0, .int .i64 0, .int .i64 0, .int .i64 0, .int .i64 0, .bool false] 34)).alloc (.cells #[.int .i64 0] 24))) := (((Below.refl _ w).alloc (Nat.le_refl _) _).alloc (by simp) _).alloc (by simp; omega) _
  have hmd := hm1 _ hB1.out
  have hha := has_anyH (h.below (cutW_below w hb f u)).h (h.below (cutW_below w hb f u)).s hf hu
  rw [hs] at hha
  have hmd' := Lib.hid hmd
  have hbx : Hid (∀ w2, Read (cutW w hb f u) w2 → CutBoxes w2 w.heap.size hb f u) := fun w2 hr2 => (cutW_boxes w hb f u).below hr2.below (by rw [cutW_size]; exact Nat.le_refl _)
  have hcw : Hid (cutW w hb f u = (((w.alloc (.cells #[.pointer (some ⟨hb, 0, none⟩)] 70)).alloc (.cells #[.int .i64 0, .int .i64 0, .int .i64 0, .int .i64 0, .int .i64 0, .int .i64 0, .bool false] 34)).alloc (.cells #[.int .i64 0] 24)).alloc (.cells #[.int .i64 f, .int .i64 u] 130)) := rfl
  have hcb := Lib.hid (cutW_below w hb f u)
  have hcs := Lib.hid (cutW_size w hb f u)
  generalize cutW w hb f u = W0 at hha hbx hcw hcb hcs
  have hha' := Lib.hid hha
  clear h hm1 hmd hha hs
  go_enter Tryz.func63, Tryz.ntmps63
  go_upto_region 4 with (go_at_call 68; refine hmd'.out.mono ?_; rintro e w' ⟨rfl, rfl⟩)
  rw [← hcw.out]
  have hb0 := hbx.out W0 (Read.refl _)
  have cq := cell_of_block (o := 0) hb0.q rfl
  have cs0 := cell_of_block (o := 0) hb0.s rfl
  have cs1 := cell_of_block (o := 1) hb0.s rfl
  clear hb0
  go_upto_region 10 with (go_at_call 71; refine hha'.out.mono ?_; rintro e w2 ⟨rfl, hr2⟩; have hr2' := Lib.hid hr2; clear hr2)
  have hb2 := hbx.out w2 hr2'.out
  have hE : (w2.setRow (w.heap.size + 1) zeroM.cells).heap[w.heap.size + 1 + 1]? = some (.cells #[.int .i64 0] 24) := (setRow_other _ _ _ _ (by omega)).trans hb2.e
  have e0 := cell_of_block (o := 0) hE rfl
  have e1 := frozen_of_block (o := 0) hE
  have hR := hb2.r
  have hR' := Lib.hid hR
  clear cq cs0 cs1 hb2 hE
  go_wp2_with (refine wpList_store_row rfl 34 (.tmp 6) (.tmp 35) rfl (w.heap.size + 1) zeroM.cells rfl rfl 34 zeroM.cells hR infoS rfl (M.cells_one zeroM) ?_)
  have hQ : BoxM ((w2.setRow (w.heap.size + 1) zeroM.cells).setCell ⟨w.heap.size + 1 + 1, 0, none⟩ (.int .i64 6)) (w.heap.size + 1) zeroM := (hR'.out.row zeroM).kept (KeptOff.set _ _ _) (by simp)
  obtain ⟨-, s0, s1, s2, s3, s4, s5, s6⟩ := hQ.at
  simp only [Nat.zero_add] at s0 s1 s2 s3 s4 s5 s6
  have s7 : ((w2.setRow (w.heap.size + 1) zeroM.cells).setCell ⟨w.heap.size + 1 + 1, 0, none⟩ (.int .i64 6)).cell? ⟨w.heap.size + 1 + 1, 0, none⟩ = some (.int .i64 6) := World.cell?_setCell_same' _ _ _ (by rw [e0]; rfl)
  refine bodyPost_ret (v := .tuple #[zeroM.val, .int .i64 6]) (by simp [results, Tryz.results63, go_sem, s0, s1, s2, s3, s4, s5, s6, s7, M.val]) rfl ⟨rfl, ?_⟩
  have hk : KeptOff (fun k => w.heap.size ≤ k) w ((w2.setRow (w.heap.size + 1) zeroM.cells).setCell ⟨w.heap.size + 1 + 1, 0, none⟩ (.int .i64 6)) :=
    (((KeptOff.of_below hcb.out).then_new (KeptOff.of_read (S := fun _ => False) hr2'.out) (fun _ _ e => e.elim)).then_new (KeptOff.setRow _ _ _) (fun k hk e => by omega)).then_new (KeptOff.set _ _ _) (fun k hk e => by simp at e; omega)
  exact hk.below (fun k _ e => e) (Nat.le_refl _)
end Go.Proofs.YtjlbkdghlijoeaaGreat
namespace Go.Proofs.YtjlbkdghlijoeaaGreat
open Go.ChangeShapes Go.WideShapes Go.ChangeAt Go.Shelf Go.RowKit Go.Lib Go.Sort Go.Deep
set_option linter.unusedVariables false

/-- A tree whose row lies anywhere but in its block. -/
structure TreeR (w : World) (b0 tb : Nat) (v : Value) (l : List M) : Prop where
  t : TreeOf w tb v
  own : w.ownsRow b0 34 7 v l.length (flat l)
  off : ∀ k, v.ownBlock = some k → k ≠ tb
  bd : b0 ≤ w.heap.size
  fits : ∀ m ∈ l, m.fits
  heap : HeapOn ltM l.toArray
  small : l.length ≤ 16384
theorem TreeR.kept {S : Nat → Prop} {w w' : World} {b0 tb : Nat} {v : Value} {l : List M} (h : TreeR w b0 tb v l) (hk : KeptOff S w w') (h1 : ¬ S tb) (h2 : ∀ k, v.ownBlock = some k → ¬ S k) : TreeR w' b0 tb v l :=
  ⟨(hk.block tb h.t.lt h1).trans h.t, own_kept h.own hk h2, h.off, Nat.le_trans h.bd hk.size, h.fits, h.heap, h.small⟩
theorem TreeR.some_shape {w : World} {b0 tb : Nat} {v : Value} {l : List M} (h : TreeR w b0 tb v l) (h0 : 0 < l.length) : ∃ g cap, v = .slice (some ⟨g, 0, none⟩) l.length cap ∧ b0 ≤ g ∧ g < w.heap.size ∧ tb ≠ g := by
  obtain ⟨g, cap, rfl, hb, hg⟩ := h.own.form h0
  exact ⟨g, cap, rfl, hb, hg, fun e => h.off g rfl e.symm⟩

/-- What a cut leaves. -/
def CutResR (w : World) (b0 tb : Nat) (v : Value) (l : List M) (p : Nat) (w' : World) : Prop :=
  ∃ v' l', TreeR w' b0 tb v' l' ∧ (l.getD p default :: l').Perm l ∧ KeptOff (fun k => k = tb ∨ v.ownBlock = some k) w w' ∧ v'.ownBlock = v.ownBlock

set_option maxHeartbeats 4000000 in
set_option maxRecDepth 100000 in
theorem tcut_rest {w : World} {b0 tb : Nat} {v : Value} {l : List M} (h : TreeR w b0 tb v l) (p : Nat) (hp : p < l.length) :
    Calls Tryz.prog 80 #[.pointer (some ⟨tb, 0, none⟩), .int .i64 p] w fun e w' => e = .returned (l.getD p default).val ∧ CutResR w b0 tb v l p w' := by
  have mixed := mixed
  obtain ⟨g, cap, rfl, hbg, hgl, hne⟩ := h.some_shape (by omega)
  obtain ⟨n, hn⟩ : ∃ n, l.length = n + 1 := ⟨l.length - 1, by omega⟩
  have hsm := h.small
  rw [hn] at hsm
  have hcapI : n + 1 ≤ cap ∧ cap ≤ maxLen := by
    rcases h.own.2 with ⟨h0, _⟩ | ⟨g', cap', cur, hv, _, _, h1, h2, _⟩
    · cases h0
    · cases hv; exact ⟨by omega, h2⟩
  have hcap1 := hcapI.1
  have hcap2 := hcapI.2
  unfold maxLen at hcap2
  have hkA : Hid (KeptOff (fun k => k = tb ∨ (Value.slice (some ⟨g, 0, none⟩) (n + 1) cap).ownBlock = some k) w (w.alloc (.cells zeroM.cells 34))) := .of_below ((Below.refl _ w).alloc (Nat.le_refl _) _)
  have h1 := Lib.hid (h.kept (S := fun _ => False) (.of_below ((Below.refl _ w).alloc (Nat.le_refl _) (.cells zeroM.cells 34))) (fun e => e) (fun _ _ e => e))
  have hR := Lib.hid (BoxM.mk w zeroM)
  have hf := Lib.hid h.fits
  have hH := Lib.hid h.heap
  have hlt := h.off
  have hbd := h.bd
  have htl := h.t.lt
  have hn' := Lib.hid hn
  rw [hn] at h1 hp ⊢
  clear h hn hcapI
  have hds : Hid (l.toArray.size = n + 1) := by show _ = _; simp [hn'.out]
  have hmI : Hid (l.toArray[p]! = l.getD p default) := by
    show _ = _
    rw [getElem!_pos _ _ (by rw [hds.out]; exact hp)]
    simp [List.getD_eq_getElem?_getD, hn'.out, hp]
  have hsw : ∀ w', w' = w.alloc (.cells zeroM.cells 34) → Calls Tryz.prog 83 #[.pointer (some ⟨tb, 0, none⟩), .int .i64 p, .int .i64 n] w' fun e w2 => e = .returned (.tuple #[]) ∧ SWK encM 7 (w.alloc (.cells zeroM.cells 34)) g 0 (swp l.toArray p n) w2 := by
    rintro w' rfl
    have ho := h1.out.own
    rw [hn'.out] at ho
    exact tswap_any tlay encM tb g 0 cap p n l.toArray l.toArray _ _ (own_row ho) rfl (SWK.start (own_row ho).hH) (by rw [hds.out]; exact h1.out.t) hne (by rw [hds.out]; exact hp) (by rw [hds.out]; omega) (by rw [hds.out]; omega)
  have hsz := fun w' (hw : w' = w.alloc (.cells zeroM.cells 34)) => tsize_any tlay tb (some ⟨g, 0, none⟩) (n + 1) cap w' (by rw [hw]; exact h1.out.t.c0)
  obtain ⟨m, hm⟩ : ∃ m, m = l.getD p default := ⟨_, rfl⟩
  have hm' := Lib.hid hm
  rw [← hm]
  clear hm
  have hmat : Hid (∀ w2, SWK encM 7 (w.alloc (.cells zeroM.cells 34)) g 0 (swp l.toArray p n) w2 → MsgAt w2 g (0 + n * 7) m ∧ TreeOf w2 tb (.slice (some ⟨g, 0, none⟩) (n + 1) cap) ∧ w2.ownsRow b0 34 7 (.slice (some ⟨g, 0, none⟩) (n + 1) cap) (n + 1) (flat (swp l.toArray p n).toList)) := by
    intro w2 S2
    have ho := h1.out.own
    rw [hn'.out] at ho
    have ho2 := own_swk ho S2 (by rw [size_swp, hds.out])
    have hlen : (swp l.toArray p n).toList.length = n + 1 := by rw [Array.length_toList, size_swp, hds.out]
    have hm2 := msgs_of_holds (own_holds ho2).1 (own_holds ho2).2 n (by omega)
    have e1 : (swp l.toArray p n).toList.getD n default = m := by
      have g1 := get_swp l.toArray (i := p) (j := n) (by rw [hds.out]; exact hp) (by rw [hds.out]; omega) n
      rw [if_pos rfl, getElem!_pos _ n (by rw [size_swp, hds.out]; omega), hmI.out] at g1
      rw [hm'.out, ← g1]
      simp [List.getD_eq_getElem?_getD, size_swp, hn'.out]
    rw [e1] at hm2
    exact ⟨hm2, h1.out.t.swk S2 hne, ho2⟩
  go_enter Tryz.func80, Tryz.ntmps80
  go_upto_region 4 with (first
    | (go_at_call 69; refine (hsz _ rfl).mono ?_; rintro e w1 ⟨rfl, rfl⟩)
    | (go_at_call 83; refine (hsw _ rfl).mono ?_; rintro e w2 ⟨rfl, S2⟩; have hA2 := hmat.out w2 S2; obtain ⟨-, x0, x1, x2, x3, x4, x5, x6⟩ := hA2.1; simp only [Nat.zero_add] at x0 x1 x2 x3 x4 x5 x6; have c0 := hA2.2.1.c0)
    | (refine wpList_store_row rfl 34 (.tmp 6) (.tmp 20) rfl w2.heap.size m.cells rfl rfl 34 zeroM.cells (heap_alloc_new w2 _) infoS rfl (M.cells_one m) ?_))
  have hG3 : BoxM ((w2.alloc (.cells #[.int .i64 0, .int .i64 0, .int .i64 0, .int .i64 0, .int .i64 0, .int .i64 0, .bool false] 34)).setRow w2.heap.size m.cells) w2.heap.size m := (BoxM.mk w2 zeroM).row m
  have hk3 : KeptOff (fun k => k = tb ∨ (Value.slice (some ⟨g, 0, none⟩) (n + 1) cap).ownBlock = some k) w2 ((w2.alloc (.cells #[.int .i64 0, .int .i64 0, .int .i64 0, .int .i64 0, .int .i64 0, .int .i64 0, .bool false] 34)).setRow w2.heap.size m.cells) :=
    (KeptOff.of_below (S := fun k => k = tb ∨ (Value.slice (some ⟨g, 0, none⟩) (n + 1) cap).ownBlock = some k) ((Below.refl _ w2).alloc (Nat.le_refl _) _)).then_new (KeptOff.setRow _ _ _) (fun k hk e => by omega)
  have hk3n : KeptOff (fun _ => False) w2 ((w2.alloc (.cells #[.int .i64 0, .int .i64 0, .int .i64 0, .int .i64 0, .int .i64 0, .int .i64 0, .bool false] 34)).setRow w2.heap.size m.cells) :=
    (KeptOff.of_below (S := fun _ => False) ((Below.refl _ w2).alloc (Nat.le_refl _) _)).then_new (KeptOff.setRow _ _ _) (fun k hk e => by omega)
  have hkw2 : KeptOff (fun k => k = tb ∨ (Value.slice (some ⟨g, 0, none⟩) (n + 1) cap).ownBlock = some k) (w.alloc (.cells zeroM.cells 34)) w2 := (KeptOff.of_grown (swk_grown S2)).mono (fun k _ e => .inr e)
  have hk03 := Lib.hid ((hkA.out.trans hkw2).trans hk3)
  have hT3 := (hk3n.block tb hA2.2.1.lt (fun e => e)).trans hA2.2.1
  have hT3 : TreeOf ((w2.alloc (.cells #[.int .i64 0, .int .i64 0, .int .i64 0, .int .i64 0, .int .i64 0, .int .i64 0, .bool false] 34)).setRow w2.heap.size m.cells) tb (.slice (some ⟨g, 0, none⟩) (n + 1) cap) := hT3
  have ho3 := own_kept hA2.2.2 hk3n (fun _ _ e => e)
  have hR3 := ((hR.out.kept (KeptOff.of_grown (swk_grown S2)) (by intro e; cases e; omega)).kept hk3n (fun e => e))
  have hGw : w.heap.size < w2.heap.size := by have := S2.le; simp at this; omega
  have hgG : g ≠ w2.heap.size := by have := (own_holds hA2.2.2).2; omega
  generalize hGe : w2.heap.size = G at *
  generalize (w2.alloc (.cells #[.int .i64 0, .int .i64 0, .int .i64 0, .int .i64 0, .int .i64 0, .int .i64 0, .bool false] 34)).setRow G m.cells = W3 at *
  have hGB := hG3.lt
  have ho4 := own_shorter ho3 (Nat.le_succ n)
  have hT4 := hT3.set (.slice (some ⟨g, 0, none⟩) n cap)
  have ho4 := own_kept ho4 (KeptOff.set W3 ⟨tb, 0, none⟩ (.slice (some ⟨g, 0, none⟩) n cap)) (fun k e hk => by have : g = k := (by simpa [Value.ownBlock] using e); simp only at hk; omega)
  have hk4 := KeptOff.set W3 ⟨tb, 0, none⟩ (.slice (some ⟨g, 0, none⟩) n cap)
  have hG4 := hG3.kept hk4 (by simp; omega)
  have hR4 := hR3.kept hk4 (by simp; omega)
  have hk04 := Lib.hid (hk03.out.trans (hk4.mono (fun k _ e => .inl e)))
  have c3 := hT3.c0
  have f3 := hT3.fz 0
  have hQ := Lib.hid (And.intro ho4 (And.intro hT4 (And.intro hG4 hR4)))
  clear hsw hsz hmat S2 hA2 x0 x1 x2 x3 x4 x5 x6 c0 hk3 hk3n hkw2 hk03 hT3 ho3 hR3 hG3 ho4 hT4 hk4 hG4 hR4 hGe
  go_upto_region 5 with (fail)
  generalize W3.setCell ⟨tb, 0, none⟩ (.slice (some ⟨g, 0, none⟩) n cap) = W4 at hQ hk04 ⊢
  clear c3 f3 hGB
  have epop : ((swp l.toArray p n).toList.take n) = (swp l.toArray p n).pop.toList := by
    rw [Array.toList_pop, List.dropLast_eq_take, Array.length_toList, size_swp, hds.out]
    rfl
  obtain ⟨d1, hd1⟩ : ∃ d1, d1 = (swp l.toArray p n).pop := ⟨_, rfl⟩
  rw [epop, ← hd1] at hQ
  have hd1s : Hid (d1.size = n) := by show _ = _; rw [hd1, Array.size_pop, size_swp, hds.out]; rfl
  have hd1' := Lib.hid hd1
  have hcA := cut_all ordM (d := l.toArray) (p := p) (by rw [hds.out]; exact hp) hH.out
  have en : l.toArray.size - 1 = n := by rw [hds.out]; rfl
  rw [en, hmI.out, ← hm'.out] at hcA
  have hcut : Hid (cutA ltM l.toArray p = if p < n then sinkA ltM (raiseA ltM d1 p) p else d1) := by
    show _ = _
    unfold cutA
    rw [en, ← hd1'.out]
  have hcA' := Lib.hid hcA
  have hend : ∀ (w6 : World) (d6 : Array M), d6 = cutA ltM l.toArray p → TreeOf w6 tb (.slice (some ⟨g, 0, none⟩) n cap) → w6.ownsRow b0 34 7 (.slice (some ⟨g, 0, none⟩) n cap) n (flat d6.toList) → BoxM w6 w.heap.size zeroM →
      KeptOff (fun k => k = tb ∨ (Value.slice (some ⟨g, 0, none⟩) (n + 1) cap).ownBlock = some k) w w6 → CutResR w b0 tb (.slice (some ⟨g, 0, none⟩) (n + 1) cap) l p (w6.setRow w.heap.size m.cells) := by
    intro w6 d6 hd6 hT6 ho6 hR6 hk6
    obtain ⟨z1, z2, z3⟩ := hcA'.out
    rw [← hd6] at z1 z2 z3
    have hk7 := KeptOff.setRow w6 w.heap.size m.cells
    have hT7 : TreeOf (w6.setRow w.heap.size m.cells) tb (.slice (some ⟨g, 0, none⟩) n cap) := (hk7.block tb hT6.lt (by omega)).trans hT6
    have ho7 := own_kept ho6 hk7 (fun k e hk => by have : g = k := (by simpa [Value.ownBlock] using e); omega)
    refine ⟨_, d6.toList, ⟨hT7, by rw [Array.length_toList, z1]; exact ho7, hlt, Nat.le_trans hbd (hk6.then_new (KeptOff.setRow w6 w.heap.size m.cells) (fun k hk e => by omega)).size, ?_, by simpa using z3, by rw [Array.length_toList, z1]; omega⟩, by rw [← hm'.out]; simpa using z2, hk6.then_new (KeptOff.setRow w6 w.heap.size m.cells) (fun k hk e => by omega), rfl⟩
    intro x hx
    refine hf.out x ?_
    have := z2.mem_iff (a := x)
    have h2 : x ∈ l.toArray.toList := this.1 (List.mem_cons_of_mem _ hx)
    simpa using h2
  have hend' := Lib.hid hend
  obtain ⟨ho4, hT4, hG4, hR4⟩ := hQ.out
  have hlt4 : G < W4.heap.size := hG4.lt
  have hk04' := Lib.hid hk04.out
  clear hk04 hcA hend epop hd1 hm' hmI hH hf en
  by_cases hpn : p < n
  · have hz : (p : Int) < (n : Int) := by omega
    have hcut1 : Hid (sinkA ltM (raiseA ltM d1 p) p = cutA ltM l.toArray p) := by show _ = _; rw [hcut.out, if_pos hpn]
    have R4 : RowK encM 7 W4 g 0 d1 := by simpa using own_row ho4
    have hsr : (raiseA ltM d1 p).size = n := by rw [size_raiseA, hd1s.out]
    have hss : (sinkA ltM (raiseA ltM d1 p) p).size = n := by rw [size_sinkA ordM _ _ (by omega), hsr]
    have hra := traise_any tlay encM ltM aheads tb g 0 cap p n d1 d1 W4 W4 R4 hd1s.out hd1s.out (SWK.start R4.hH) hT4 hne hpn (by omega)
    have hsi : ∀ w5, SWK encM 7 W4 g 0 (raiseA ltM d1 p) w5 → Calls Tryz.prog 84 #[.pointer (some ⟨tb, 0, none⟩), .int .i64 p] w5 fun e w6 => e = .returned (.tuple #[]) ∧
        Hid (BoxM w6 G m ∧ BoxM w6 w.heap.size zeroM ∧ CutResR w b0 tb (.slice (some ⟨g, 0, none⟩) (n + 1) cap) l p (w6.setRow w.heap.size m.cells)) := by
      intro w5 S5
      refine (tsink_any tlay encM ltM ordM aheads tb g 0 cap p n d1 (raiseA ltM d1 p) W4 w5 R4 hd1s.out hsr S5 hT4 hne hpn (by omega)).mono ?_
      rintro e w6 ⟨rfl, S6⟩
      have hk6 := KeptOff.of_grown (swk_grown S6)
      have hR6 := hR4.kept hk6 (fun e => by cases e; omega)
      refine ⟨rfl, hG4.kept hk6 (fun e => by cases e; omega), hR6, hend'.out w6 _ hcut1.out (hT4.swk S6 hne) (own_swk ho4 S6 hss) hR6 ?_⟩
      exact hk04'.out.trans (hk6.mono (fun k _ e => .inr e))
    have hra' := Lib.hid hra
    have hsi' := Lib.hid hsi
    clear hra hsi R4 hsr hss hcut1 ho4 hT4 hG4 hR4 hend' hcut hcA' hk04' hQ hd1s
    go_wp2_with (first
      | (go_at_call 82; refine hra'.out.mono ?_; rintro e w5 ⟨rfl, S5⟩; have hsi5 := hsi'.out _ S5; clear S5)
      | (go_at_call 84; refine hsi5.mono ?_; rintro e w6 ⟨rfl, hF6⟩; obtain ⟨-, x0, x1, x2, x3, x4, x5, x6⟩ := hF6.out.1.at; simp only [Nat.zero_add] at x0 x1 x2 x3 x4 x5 x6)
      | (refine wpList_store_row rfl 34 (.tmp 4) (.tmp 39) rfl w.heap.size m.cells rfl rfl 34 zeroM.cells hF6.out.2.1 infoS rfl (M.cells_one m) ?_))
    obtain ⟨-, s0, s1, s2, s3, s4, s5, s6⟩ := (hF6.out.2.1.row m).at
    simp only [Nat.zero_add] at s0 s1 s2 s3 s4 s5 s6
    exact bodyPost_ret (v := m.val) (by simp [results, Tryz.results80, go_sem, s0, s1, s2, s3, s4, s5, s6, M.val]) rfl ⟨rfl, hF6.out.2.2⟩
  · have hz : ¬ (p : Int) < (n : Int) := by omega
    have hcut1 : Hid (d1 = cutA ltM l.toArray p) := by show _ = _; rw [hcut.out, if_neg hpn]
    have hF6 : Hid (BoxM W4 w.heap.size zeroM ∧ CutResR w b0 tb (.slice (some ⟨g, 0, none⟩) (n + 1) cap) l p (W4.setRow w.heap.size m.cells)) := ⟨hR4, hend'.out W4 d1 hcut1.out hT4 ho4 hR4 hk04'.out⟩
    obtain ⟨-, x0, x1, x2, x3, x4, x5, x6⟩ := hG4.at
    simp only [Nat.zero_add] at x0 x1 x2 x3 x4 x5 x6
    clear hcut1 ho4 hT4 hG4 hR4 hend' hcut hcA' hk04' hQ hd1s
    go_wp2_with (refine wpList_store_row rfl 34 (.tmp 4) (.tmp 39) rfl w.heap.size m.cells rfl rfl 34 zeroM.cells hF6.out.1 infoS rfl (M.cells_one m) ?_)
    obtain ⟨-, s0, s1, s2, s3, s4, s5, s6⟩ := (hF6.out.1.row m).at
    simp only [Nat.zero_add] at s0 s1 s2 s3 s4 s5 s6
    exact bodyPost_ret (v := m.val) (by simp [results, Tryz.results80, go_sem, s0, s1, s2, s3, s4, s5, s6, M.val]) rfl ⟨rfl, hF6.out.2⟩
end Go.Proofs.YtjlbkdghlijoeaaGreat
