/-
  The tree's iterator in order: a copy is taken apart.
-/
import Derived.Test.YtbalbachmeiehaaHAA
import Derived.Test.YtbalbachmeiehaaHC2
import Derived.Test.YtbalbachmeiehaaHO
import Derived.Test.YtbalbachmeiehaaHN
import Derived.Deep.RegionHeld3
namespace Go.Proofs.Ytbalbachmeiehaa
open Go.ChangeShapes Go.WideShapes Go.ChangeAt Go.Shelf Go.RowKit Go.Lib Go.Sort Go.Deep Go.Maps
set_option linter.unusedVariables false
attribute [local go_sem] Oper.semAt_some

theorem tinOrder_any (tb : Nat) (w : World) : Calls Try.prog 27 #[.pointer (some ⟨tb, 0, none⟩)] w fun e w' => e = .returned (.func (.func 40) #[] #[.pointer (some ⟨w.heap.size, 0, none⟩)]) ∧ w' = w.alloc (.cells #[.pointer (some ⟨tb, 0, none⟩)] 50) := by
  go_enter Try.func27, Try.ntmps27
  go_wp2
  go_ret
  exact ⟨rfl, rfl⟩

/-- A copy of a row of the call's own. -/
def CloneR (w : World) (l : List M) (v' : Value) (w' : World) : Prop := w'.ownsRow w.heap.size 31 7 v' l.length (flat l) ∧ Below w.heap.size w w'
theorem clone_own {w : World} {b0 : Nat} {v : Value} {l : List M} (h : w.ownsRow b0 31 7 v l.length (flat l)) (hs : l.length ≤ 16384) :
    Calls Try.prog 41 #[v] w fun e w' => ∃ (a' : Option Addr) (c' : Nat), e = .returned (.slice a' l.length c') ∧ Hid (CloneR w l (.slice a' l.length c') w') := by
  rcases h.2 with ⟨rfl, h0⟩ | ⟨g, cap, cur, rfl, hb, hg, hn, hcm, hcs, ht⟩
  · refine (clone_nil 0 0 w).mono ?_
    rintro e w' ⟨rfl, rfl⟩
    have e0 : l = [] := List.eq_nil_of_length_eq_zero h0
    subst e0
    exact ⟨none, 0, rfl, World.ownsRow_nil w' _ _ _, Below.refl _ _⟩
  · refine (clone_some ⟨g, 0, none⟩ l.length cap (flat l) w (by rw [flat_length]) (by unfold maxLen; omega) (by omega) (h.cells rfl) (flat_one l)).mono ?_
    rintro e w' ⟨v', rfl, h1, h2⟩
    rcases h1.2 with ⟨rfl, h0⟩ | ⟨g', cap', cur', rfl, _⟩
    · exact ⟨none, 0, by rw [h0], by rw [h0] at h1 ⊢; exact h1, h2⟩
    · exact ⟨_, cap', rfl, h1, h2⟩

/-- The length of the row of a tree, read off the world. -/
def lenAt (w : World) (tb : Nat) : Nat := match w.cell? ⟨tb, 0, none⟩ with
  | some (.slice _ n _) => n
  | _ => 0
theorem lenAt_of {w : World} {tb n cap : Nat} {a : Option Addr} (h : w.cell? ⟨tb, 0, none⟩ = some (.slice a n cap)) : lenAt w tb = n := by simp [lenAt, h]

/-- What stands ahead of a round. -/
def RestAt (J : List M → World → Prop) (T : List M) (B Bx : Nat) (wr : World) : Prop :=
  ∃ (pre S R : List M) (v : Value), T = pre ++ S ∧ R.Perm S ∧ InOrder ltM S ∧ Unlike S ∧ TreeR wr B Bx v R ∧ J pre wr ∧ B ≤ Bx
theorem RestAt.len {J : List M → World → Prop} {T : List M} {B Bx : Nat} {wr : World} (h : RestAt J T B Bx wr) :
    ∃ a cap, wr.cell? ⟨Bx, 0, none⟩ = some (.slice a (lenAt wr Bx) cap) := by
  obtain ⟨pre, S, R, v, _, _, _, _, hR, _⟩ := h
  rcases hR.own.2 with ⟨rfl, h0⟩ | ⟨g, cap, cur, rfl, _⟩
  · exact ⟨none, 0, by have := hR.t.c0; rw [lenAt_of this]; exact this⟩
  · exact ⟨_, cap, by have := hR.t.c0; rw [lenAt_of this]; exact this⟩
theorem TreeR.len {w : World} {b0 tb : Nat} {v : Value} {l : List M} (h : TreeR w b0 tb v l) : lenAt w tb = l.length := by
  rcases h.own.2 with ⟨rfl, h0⟩ | ⟨g, cap, cur, rfl, _⟩
  · rw [lenAt_of h.t.c0, h0]
  · rw [lenAt_of h.t.c0]
theorem RestAt.done {J : List M → World → Prop} {T : List M} {B Bx : Nat} {wr : World} (h : RestAt J T B Bx wr) (h0 : lenAt wr Bx = 0) : J T wr := by
  obtain ⟨pre, S, R, v, rfl, hp, _, _, hR, hJ, _⟩ := h
  rw [hR.len] at h0
  have : S = [] := List.eq_nil_of_length_eq_zero (by rw [← hp.length_eq]; exact h0)
  subst this
  simpa using hJ
theorem RestAt.step {n l : Nat} {J : List M → World → Prop} {T : List M} {B Bx : Nat} {wr : World} (h : RestAt J T B Bx wr) (h0 : 0 < lenAt wr Bx)
    (hJ : ∀ s X Y, J s X → Below B X Y → J s Y)
    (hY : ∀ pre x X, J pre X → pre ++ [x] <+: T → YieldAt Fence.wide n Try.prog l #[x.val] X fun e Y => e = .returned (.bool true) ∧ J (pre ++ [x]) Y ∧ KeptOff (fun k => k < B) X Y) :
    ∃ m : M, Calls Try.prog 42 #[.pointer (some ⟨Bx, 0, none⟩), .int .i64 0] wr fun e w1 => e = .returned m.val ∧
      Hid (YieldAt Fence.wide n Try.prog l #[m.val] w1 fun e Y => e = .returned (.bool true) ∧ Hid (RestAt J T B Bx Y) ∧ lenAt Y Bx < lenAt wr Bx) := by
  obtain ⟨pre, S, R, v, rfl, hp, hO, hU, hR, hJp, hB⟩ := h
  have hl0 := hR.len
  have hpos : 0 < R.length := by omega
  refine ⟨R.getD 0 default, (tcut_rest hR 0 hpos).mono ?_⟩
  rintro e w1 ⟨he, v', R', hR', hp', hk, hv⟩
  refine ⟨he, ?_⟩
  obtain ⟨S', hS', hpS⟩ := pop_list hp hp' (root_of hR.heap hpos) hO hU
  have hlow : ∀ k, v.ownBlock = some k → B ≤ k := fun k e => (hR.own.lt k e).1
  have hJ1 : J pre w1 := hJ _ _ _ hJp (hk.below (fun k _ e => by
    rcases e with e | e
    · omega
    · exact hlow k e) hR.bd)
  have hpre : pre ++ [R.getD 0 default] <+: pre ++ S := by
    rw [hS']
    exact ⟨S', by simp⟩
  obtain ⟨fn, tmps, assign, body, hy, hr⟩ := hY pre _ w1 hJ1 hpre
  refine ⟨fn, tmps, assign, body, hy, hr.mono ?_⟩
  rintro e Y ⟨rfl, hJY, hkY⟩
  have hR2 := hR'.kept hkY (by omega) (fun k e h => by
    have := (hR'.own.lt k e).1
    omega)
  refine ⟨rfl, ⟨pre ++ [R.getD 0 default], S', R', v', by rw [hS']; simp, hpS, ?_, ?_, hR2, hJY, hB⟩, ?_⟩
  · rw [hS'] at hO; exact (List.pairwise_cons.1 hO).2
  · rw [hS'] at hU; exact (List.pairwise_cons.1 hU).2
  · rw [hR2.len, hl0]
    have := hp'.length_eq
    simp at this
    omega

set_option maxHeartbeats 4000000 in
set_option maxRecDepth 100000 in
theorem tinOrder1_in (n : Nat) (hn : 1 ≤ n) (l Bt tb b0 : Nat) {v : Value} {L T : List M} {W : World} (h : TreeAt W b0 tb v L) (hp : L.Perm T) (hO : InOrder ltM T) (hU : Unlike T)
    (hBt : W.cell? ⟨Bt, 0, none⟩ = some (.pointer (some ⟨tb, 0, none⟩))) (hBl : Bt < W.heap.size) (J : List M → World → Prop) (hJ : ∀ s X Y, J s X → Below W.heap.size X Y → J s Y)
    (hY : ∀ pre x X, J pre X → pre ++ [x] <+: T → YieldAt Fence.wide (n - 1) Try.prog l #[x.val] X fun e Y => e = .returned (.bool true) ∧ J (pre ++ [x]) Y ∧ KeptOff (fun k => k < W.heap.size) X Y) (h0 : J [] W) :
    CallsIn Fence.wide n Try.prog 40 #[.func (.yield l) #[] #[], .pointer (some ⟨Bt, 0, none⟩)] W fun e W' => (∃ v, e = .returned v) ∧ J T W' := by
  have mixed := mixed
  obtain ⟨va, vc, rfl⟩ := h.shape
  have c0 := h.t.c0
  have c1 := h.t.c1
  have htl := h.t.lt
  have hcl : ∀ w', Below W.heap.size W w' → Calls Try.prog 41 #[.slice va L.length vc] w' fun e w1 => ∃ (a' : Option Addr) (c' : Nat), e = .returned (.slice a' L.length c') ∧ Hid (CloneR w' L (.slice a' L.length c') w1) := fun w' hb => clone_own (h.kept (S := fun _ => False) (.of_below hb) (fun e => e) (fun _ _ e => e)).own h.small
  have hS : ∀ w', Below W.heap.size W w' → w'.cell? ⟨Bt, 0, none⟩ = some (.pointer (some ⟨tb, 0, none⟩)) ∧ w'.cell? ⟨tb, 0, none⟩ = some (.slice va L.length vc) ∧ w'.cell? ⟨tb, 1, none⟩ = some (.func (.func 20) #[] #[]) ∧ Below W.heap.size W w' := fun w' hb =>
    ⟨(hb.cell (p := ⟨Bt, 0, none⟩) hBl).trans hBt, (hb.cell (p := ⟨tb, 0, none⟩) htl).trans c0, (hb.cell (p := ⟨tb, 1, none⟩) htl).trans c1, hb⟩
  have hst : Hid (∀ w1 v', Below W.heap.size W w1 → w1.ownsRow W.heap.size 31 7 v' L.length (flat L) → RestAt J T W.heap.size w1.heap.size (w1.alloc (.cells #[v', .func (.func 20) #[] #[]] 58))) := by
    intro w1 v' hb ho
    have hb2 := hb.alloc hb.size (.cells #[v', .func (.func 20) #[] #[]] 58)
    refine ⟨[], T, L, v', rfl, hp, hO, hU, ⟨heap_alloc_new w1 _, own_kept ho (.of_below (S := fun _ => False) ((Below.refl _ w1).alloc (Nat.le_refl _) _)) (fun _ _ e => e), fun k e hk => ?_, hb2.size, h.fits, h.heap, h.small⟩, hJ _ _ _ h0 hb2, hb.size⟩
    have := (ho.lt k e).2
    omega
  have hJ' := Lib.hid hJ
  have hY' := Lib.hid hY
  clear h hJ hY h0 hO hU
  refine callsIn_of_wp Try.func40 rfl trivial ?_ rfl
  simp only [Try.ntmps40, List.size_toArray, List.length_cons, List.length_nil, Nat.reduceAdd, Nat.reduceSub, Array.replicate_succ, Array.replicate_zero, List.push_toArray, List.append_toArray, List.nil_append, List.cons_append]
  refine wpIn_wide.2 ?_
  go_wp2_with fail
  go_region_held3 (fun w' => w'.cell? ⟨Bt, 0, none⟩ = some (.pointer (some ⟨tb, 0, none⟩)) ∧ w'.cell? ⟨tb, 0, none⟩ = some (.slice va L.length vc) ∧ w'.cell? ⟨tb, 1, none⟩ = some (.func (.func 20) #[] #[]) ∧ Below W.heap.size W w')
    (first | exact hS _ (Below.refl _ W).drew | (go_split_ands; exact hS _ (((Below.refl _ W).drew).trans (hq.out.2.mono (Nat.le_refl _)))) | (go_split_ands; exact hS _ ((((Below.refl _ W).drew).trans (hq.out.2.mono (Nat.le_refl _))).alloc hq.out.2.size _)))
    (first | (go_at_call 41; refine (hcl _ ?_).mono ?_; (go_split_ands; assumption); rintro e w1 ⟨a', c', rfl, hq⟩))
  have hb1 : Below W.heap.size W w1 := ((Below.refl _ W).drew).trans (hq.out.2.mono (Nat.le_refl _))
  have hR := Lib.hid (hst.out w1 _ hb1 hq.out.1)
  clear hcl hS hst hq hb1 c0 c1 hBt hBl htl hp
  generalize w1.heap.size = Bx at hR ⊢
  generalize w1.alloc (Obj.cells #[Value.slice a' L.length c', Value.func (Fn.func 20) #[] #[]] 58) = W2 at *
  generalize W.heap.size = B at *
  go_wp2_with fail
  refine (wpIn_wide (n := n)).1 ?_
  gi_loopw [16] (fun _ wr => Hid (RestAt J T B Bx wr)) (fun _ wr => lenAt wr Bx)
  case atStart => exact hR
  case round =>
    have hR2 := Lib.hid hrel.out
    clear hR hrel
    obtain ⟨ra, rc, hcell⟩ := hR2.out.len
    have hsz := (callsIn_wide (n := n - 1)).2 (tsize_any tlay Bx ra _ rc wr hcell)
    by_cases h0 : 0 < lenAt wr Bx
    · have hz : (0 : Int) < (lenAt wr Bx : Int) := by omega
      obtain ⟨m, hcut⟩ := hR2.out.step h0 hJ'.out hY'.out
      have hcut := (callsIn_wide (n := n - 1)).2 hcut
      clear hR2 hcell
      simp only [M.val] at hcut
      generalize lenAt wr Bx = N at *
      gi_wp2_with (first
        | (refine ⟨trivial, ?_⟩; gi_at_call 26; refine hsz.mono ?_; rintro e w3 ⟨rfl, rfl⟩)
        | (refine ⟨trivial, ?_⟩; gi_at_call 42; refine hcut.mono ?_; rintro e w3 ⟨rfl, hy⟩; obtain ⟨fn, tmps, assign, body, hy, hrd⟩ := hy.out; have hrd' := Lib.hid hrd; clear hrd))
      refine hrd'.out.mono ?_
      rintro e W3 ⟨rfl, hR3, hlt⟩
      have hR3' := Lib.hid hR3.out
      have hlt' := Lib.hid hlt
      clear hR3 hlt hrd' hy
      gi_wp2
      go_roundw
      case rel => exact hR3'.out
      case measure => exact hlt'.out
    · have h00 : lenAt wr Bx = 0 := by omega
      rw [h00] at hsz
      have hfin := Lib.hid (hR2.out.done h00)
      clear h0 h00 hcell hR2
      gi_wp2_with (refine ⟨trivial, ?_⟩; gi_at_call 26; refine hsz.mono ?_; rintro e w3 ⟨rfl, rfl⟩)
      go_end0
      exact ⟨⟨_, rfl⟩, hfin.out⟩
/-- The iterator, for the law of its range. -/
theorem tinOrder1_gives (n : Nat) (hn : 1 ≤ n) {Bt tb b0 : Nat} {v : Value} {L T : List M} {w : World} (h : TreeAt w b0 tb v L) (hp : L.Perm T) (hO : InOrder ltM T) (hU : Unlike T)
    (hBt : w.cell? ⟨Bt, 0, none⟩ = some (.pointer (some ⟨tb, 0, none⟩))) (hBl : Bt < w.heap.size) :
    GivesAll Fence.wide n Try.prog 40 #[.pointer (some ⟨Bt, 0, none⟩)] (fun m : M => #[m.val]) T w := fun l J W hW hJ hY h0 =>
  tinOrder1_in n hn l Bt tb b0 (h.kept (S := fun _ => False) (.of_below hW) (fun e => e) (fun _ _ e => e)) hp hO hU ((hW.cell (p := ⟨Bt, 0, none⟩) hBl).trans hBt) (Nat.lt_of_lt_of_le hBl hW.size) J hJ hY h0
end Go.Proofs.Ytbalbachmeiehaa
