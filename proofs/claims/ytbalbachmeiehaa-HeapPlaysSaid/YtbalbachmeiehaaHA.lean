/-
  The tree of messages: its row, what it owns, what is kept beside it.
-/
import Derived.Test.YtbalbachmeiehaaHK
import Derived.Test.YtbalbachmeiehaaEnc
namespace Go.Proofs.Ytbalbachmeiehaa
open Go.ChangeShapes Go.WideShapes Go.ChangeAt Go.Shelf Go.RowKit Go.Lib Go.Sort Go.Deep
set_option linter.unusedVariables false

theorem tlay : TLay Try.prog 7 where
  mixed := mixed
  fBefore := Try.func20
  fsize := Try.func26
  fswap := Try.func49
  fraise := Try.func43
  fleast := Try.func55
  fsink := Try.func50
  t0 := Try.underlying0
  a0 := Try.isAgg0
  z0 := Try.sizeOf0
  v0 := Try.zeroValue0
  t3 := Try.underlying3
  a3 := Try.isAgg3
  z3 := Try.sizeOf3
  v3 := Try.zeroValue3
  t4 := Try.underlying4
  a4 := Try.isAgg4
  z4 := Try.sizeOf4
  v4 := Try.zeroValue4
  tS := Try.underlying35
  aS := Try.isAgg35
  zS := Try.sizeOf35
  tP := Try.underlying50
  aP := Try.isAgg50
  zP := Try.sizeOf50
  tF := rfl
  aF := Try.isAgg56
  zF := Try.sizeOf56
  tT := rfl
  rT := Try.runUnderlying58
  tA := rfl
  aA := Try.isAgg95
  zA := Try.sizeOf95
  rA := Try.runUnderlying95
  vA := fun w => by kernel_rfl
  x0 := fun a b w => by kernel_rfl
  x1 := fun a b w => by kernel_rfl
  aE := Try.isAgg31
  zE := Try.sizeOf31
theorem aheads : Aheads Try.prog encM ltM := fun x y w => eBefore_any x y w

/-- w' is w but for the blocks of S, and new ones. -/
structure KeptOff (S : Nat → Prop) (w w' : World) : Prop where
  os : w'.os = w.os
  tape : w'.tape = w.tape
  output : w'.output = w.output
  size : w.heap.size ≤ w'.heap.size
  block : ∀ k, k < w.heap.size → ¬ S k → w'.heap[k]? = w.heap[k]?
theorem KeptOff.refl (S : Nat → Prop) (w : World) : KeptOff S w w := ⟨rfl, rfl, rfl, Nat.le_refl _, fun _ _ _ => rfl⟩
theorem KeptOff.trans {S : Nat → Prop} {a b c : World} (h : KeptOff S a b) (h' : KeptOff S b c) : KeptOff S a c :=
  ⟨h'.os.trans h.os, h'.tape.trans h.tape, h'.output.trans h.output, Nat.le_trans h.size h'.size, fun k hk hn => (h'.block k (Nat.lt_of_lt_of_le hk h.size) hn).trans (h.block k hk hn)⟩
theorem KeptOff.mono {S S' : Nat → Prop} {a b : World} (h : KeptOff S a b) (hs : ∀ k, k < a.heap.size → S k → S' k) : KeptOff S' a b :=
  ⟨h.os, h.tape, h.output, h.size, fun k hk hn => h.block k hk (fun e => hn (hs k hk e))⟩
theorem KeptOff.of_below {S : Nat → Prop} {a b : World} (h : Below a.heap.size a b) : KeptOff S a b := ⟨h.os, h.tape, h.output, h.size, fun k hk _ => h.block k hk⟩
theorem KeptOff.of_grown {a b : World} {row : Option Nat} (h : a.grownBy b row) : KeptOff (fun k => row = some k) a b := ⟨h.os, h.tape, h.output, h.size, fun k hk hn => h.block k hk (fun e => hn e.symm)⟩
theorem KeptOff.set (w : World) (p : Addr) (u : Value) : KeptOff (fun k => k = p.block) w (w.setCell p u) := ⟨rfl, rfl, rfl, by simp [World.setCell], fun k hk hn => Below.heap_setCell _ _ _ _ hn⟩
theorem KeptOff.below {S : Nat → Prop} {a b : World} {B : Nat} (h : KeptOff S a b) (hB : ∀ k, k < a.heap.size → S k → B ≤ k) (hs : B ≤ a.heap.size) : Below B a b :=
  ⟨h.os, h.tape, h.output, h.size, fun k hk => h.block k (by omega) (fun e => by have := hB k (by omega) e; omega)⟩
/-- A step whose writes lie in blocks that were not there at the start. -/
theorem KeptOff.then_new {S S' : Nat → Prop} {a b c : World} (h : KeptOff S a b) (h' : KeptOff S' b c) (hs : ∀ k, k < a.heap.size → S' k → S k) : KeptOff S a c :=
  ⟨h'.os.trans h.os, h'.tape.trans h.tape, h'.output.trans h.output, Nat.le_trans h.size h'.size, fun k hk hn => (h'.block k (Nat.lt_of_lt_of_le hk h.size) (fun e => hn (hs k hk e))).trans (h.block k hk hn)⟩

theorem own_kept {S : Nat → Prop} {w w' : World} {base : Nat} {e : TypeId} {size : Nat} {v : Value} {n : Nat} {xs : List Value} (h : w.ownsRow base e size v n xs) (hk : KeptOff S w w') (hn : ∀ k, v.ownBlock = some k → ¬ S k) : w'.ownsRow base e size v n xs := by
  refine ⟨h.1, ?_⟩
  rcases h.2 with h0 | ⟨g, cap, cur, rfl, hb, hgg, rest⟩
  · exact .inl h0
  · exact .inr ⟨g, cap, cur, rfl, hb, (hk.block g (Array.getElem?_eq_some_iff.1 hgg).1 (hn g rfl)).trans hgg, rest⟩
theorem own_shorter {w : World} {base g n m cap : Nat} {l : List M} (h : w.ownsRow base 31 7 (.slice (some ⟨g, 0, none⟩) n cap) n (flat l)) (hm : m ≤ n) : w.ownsRow base 31 7 (.slice (some ⟨g, 0, none⟩) m cap) m (flat (l.take m)) := by
  obtain ⟨hl, hv⟩ := h
  rw [flat_length] at hl
  rcases hv with ⟨h0, _⟩ | ⟨g', cap', cur, hv, hb, hg, hn, hcm, hcs, ht⟩
  · cases h0
  · cases hv
    refine ⟨by rw [flat_length, List.length_take]; omega, .inr ⟨g, cap, cur, rfl, hb, hg, by omega, hcm, hcs, ?_⟩⟩
    have e1 : cur.toList.take (m * 7) = (cur.toList.take (n * 7)).take (m * 7) := by rw [List.take_take, Nat.min_eq_left (Nat.mul_le_mul_right _ hm)]
    rw [e1, ht]
    have e2 : l = l.take m ++ l.drop m := (List.take_append_drop m l).symm
    have e3 : flat l = flat (l.take m) ++ flat (l.drop m) := by
      conv => lhs; rw [e2]
      exact flat_append _ _
    rw [e3]
    have : m * 7 = (flat (l.take m)).length := by rw [flat_length, List.length_take]; omega
    rw [this]
    exact List.take_left
theorem own_holds {w : World} {base g n cap : Nat} {l : List M} (h : w.ownsRow base 31 7 (.slice (some ⟨g, 0, none⟩) n cap) n (flat l)) : HoldsK encM 7 w g 0 l.toArray ∧ g < w.heap.size := by
  obtain ⟨hl, hv⟩ := h
  rw [flat_length] at hl
  rcases hv with ⟨h0, _⟩ | ⟨g', cap', cur, hv, hb, hg, hn, hcm, hcs, ht⟩
  · cases h0
  · cases hv
    exact ⟨holds_of_block hg (by omega) ht, (Array.getElem?_eq_some_iff.1 hg).1⟩
theorem own_row {w : World} {base g n cap : Nat} {l : List M} (h : w.ownsRow base 31 7 (.slice (some ⟨g, 0, none⟩) n cap) n (flat l)) : RowK encM 7 w g 0 l.toArray :=
  ⟨encM_length, encM_one, (own_holds h).1, (own_holds h).2⟩
theorem own_swk {w0 w : World} {base g n cap : Nat} {l : List M} {d : Array M} (h : w0.ownsRow base 31 7 (.slice (some ⟨g, 0, none⟩) n cap) n (flat l)) (S : SWK encM 7 w0 g 0 d w) (hd : d.size = n) :
    w.ownsRow base 31 7 (.slice (some ⟨g, 0, none⟩) n cap) n (flat d.toList) := by
  have R := own_row h
  obtain ⟨hl, hv⟩ := h
  rw [flat_length] at hl
  rcases hv with ⟨h0, _⟩ | ⟨g', cap', cur, hv, hb, hg, hn, hcm, hcs, ht⟩
  · cases h0
  · cases hv
    obtain ⟨cur', hg', hcs'⟩ := swk_row S hg
    have hn' : l.length = n := by omega
    have hH := S.holds R.hblk R.hH (by simp [hd, hn'])
    have hlen : d.toList.length = n := by rw [Array.length_toList]; exact hd
    refine ⟨by rw [flat_length, hlen], .inr ⟨g, cap, cur', rfl, hb, hg', hn, hcm, by omega, ?_⟩⟩
    apply List.ext_getElem?
    intro j
    by_cases hj : j < n * 7
    · rw [List.getElem?_take_of_lt hj, Array.getElem?_toList]
      have hc := (hH.cell (i := j / 7) (c := j % 7) (by omega) (by omega)).1
      have e1 : 0 + j / 7 * 7 + j % 7 = j := by omega
      rw [e1, cell_of_row w g j cur' 31 (0, 0) hg'] at hc
      have e2 := flat_get d.toList (j / 7) (j % 7) (by omega) (by omega)
      rw [show j / 7 * 7 + j % 7 = j by omega] at e2
      rw [hc, e2]
      have e3 : d.toList.getD (j / 7) default = d[j / 7]! := by
        rw [getElem!_pos d (j / 7) (by omega)]
        simp [List.getD_eq_getElem?_getD, show j / 7 < d.size by omega]
      rw [e3]
      generalize d[j / 7]! = m0
      rw [List.getElem?_eq_getElem (by rw [encM_length]; omega), getElem!_pos (encM m0) (j % 7) (by rw [encM_length]; omega)]
    · rw [List.getElem?_take_eq_none (by omega), List.getElem?_eq_none (by rw [flat_length, hlen]; omega)]

/-- A tree: its block, its row, a heap. -/
structure TreeAt (w : World) (b0 tb : Nat) (v : Value) (l : List M) : Prop where
  t : TreeOf w tb v
  own : w.ownsRow b0 31 7 v l.length (flat l)
  lt : tb < b0
  bd : b0 ≤ w.heap.size
  fits : ∀ m ∈ l, m.fits
  heap : HeapOn ltM l.toArray
  small : l.length ≤ 16384
theorem TreeAt.kept {S : Nat → Prop} {w w' : World} {b0 tb : Nat} {v : Value} {l : List M} (h : TreeAt w b0 tb v l) (hk : KeptOff S w w') (h1 : ¬ S tb) (h2 : ∀ k, v.ownBlock = some k → ¬ S k) : TreeAt w' b0 tb v l :=
  ⟨(hk.block tb h.t.lt h1).trans h.t, own_kept h.own hk h2, h.lt, Nat.le_trans h.bd hk.size, h.fits, h.heap, h.small⟩
theorem TreeAt.off {w : World} {b0 tb : Nat} {v : Value} {l : List M} (h : TreeAt w b0 tb v l) : v.ownBlock ≠ some tb := fun e => by
  have := (h.own.lt tb e).1
  have := h.lt
  omega
/-- What a tree's row looks like. -/
theorem TreeAt.shape {w : World} {b0 tb : Nat} {v : Value} {l : List M} (h : TreeAt w b0 tb v l) : ∃ a cap, v = .slice a l.length cap := by
  rcases h.own.2 with ⟨rfl, h0⟩ | ⟨g, cap, cur, rfl, _⟩
  · exact ⟨none, 0, by rw [h0]⟩
  · exact ⟨_, cap, rfl⟩
theorem TreeAt.some_shape {w : World} {b0 tb : Nat} {v : Value} {l : List M} (h : TreeAt w b0 tb v l) (h0 : 0 < l.length) : ∃ g cap, v = .slice (some ⟨g, 0, none⟩) l.length cap ∧ b0 ≤ g ∧ g < w.heap.size ∧ tb ≠ g := by
  obtain ⟨g, cap, hv, hb, hg⟩ := h.own.form h0
  have := h.lt
  exact ⟨g, cap, hv, hb, hg, by omega⟩

/-- A box that holds a message. -/
def BoxM (w : World) (B : Nat) (m : M) : Prop := w.heap[B]? = some (.cells m.cells 31)
theorem BoxM.kept {S : Nat → Prop} {w w' : World} {B : Nat} {m : M} (h : BoxM w B m) (hk : KeptOff S w w') (hn : ¬ S B) : BoxM w' B m := (hk.block B (Array.getElem?_eq_some_iff.1 h).1 hn).trans h
theorem BoxM.lt {w : World} {B : Nat} {m : M} (h : BoxM w B m) : B < w.heap.size := (Array.getElem?_eq_some_iff.1 h).1
theorem BoxM.at {w : World} {B : Nat} {m : M} (h : BoxM w B m) : MsgAt w B 0 m := by
  refine ⟨h.lt, ?_, ?_, ?_, ?_, ?_, ?_, ?_⟩ <;> (unfold BoxM at h; simp [World.cell?, h, M.cells])
theorem BoxM.fz {w : World} {B : Nat} {m : M} (h : BoxM w B m) (o : Nat) : w.frozen? ⟨B, o, none⟩ = false := by unfold BoxM at h; simp [World.frozen?, h]
theorem BoxM.mk (w : World) (m : M) : BoxM (w.alloc (.cells m.cells 31)) w.heap.size m := heap_alloc_new w _
theorem infoMsg : ∃ i0, Try.prog.info? 31 = some i0 ∧ i0.size = 7 := by
  obtain ⟨i0, hi, _, hz1, _⟩ := info_parts infoM
  exact ⟨i0, hi, hz1⟩
end Go.Proofs.Ytbalbachmeiehaa
