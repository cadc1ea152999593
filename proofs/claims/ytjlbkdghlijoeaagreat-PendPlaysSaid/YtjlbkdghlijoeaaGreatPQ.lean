/-
  The tree's iterator in order: a copy is taken apart.
  A queue: All: a new list of the messages, in their order.
  The heap's queue in the shape of the two others (a text of the seat that holds all three: tools/combine.py).
-/
import Derived.Test.YtjlbkdghlijoeaaGreatHN
import Derived.Test.YtjlbkdghlijoeaaGreatHC2
import Derived.Test.YtjlbkdghlijoeaaGreatHO
import Derived.Deep.RegionHeld3
import Derived.Test.YtjlbkdghlijoeaaGreatLDU
import Derived.Test.YtjlbkdghlijoeaaGreatHLZ
namespace Go.Proofs.YtjlbkdghlijoeaaGreat
open Go.ChangeShapes Go.WideShapes Go.ChangeAt Go.Shelf Go.RowKit Go.Lib Go.Sort Go.Deep Go.Maps
set_option linter.unusedVariables false
attribute [local go_sem] Oper.semAt_some

theorem tinOrder_any (tb : Nat) (w : World) : Calls Tryz.prog 70 #[.pointer (some ⟨tb, 0, none⟩)] w fun e w' => e = .returned (.func (.func 78) #[] #[.pointer (some ⟨w.heap.size, 0, none⟩)]) ∧ w' = w.alloc (.cells #[.pointer (some ⟨tb, 0, none⟩)] 80) := by
  go_enter Tryz.func70, Tryz.ntmps70
  go_wp2
  go_ret
  exact ⟨rfl, rfl⟩

/-- A copy of a row of the call's own. -/
def CloneR (w : World) (l : List M) (v' : Value) (w' : World) : Prop := w'.ownsRow w.heap.size 34 7 v' l.length (flat l) ∧ Below w.heap.size w w'
theorem clone_own {w : World} {b0 : Nat} {v : Value} {l : List M} (h : w.ownsRow b0 34 7 v l.length (flat l)) (hs : l.length ≤ 16384) :
    Calls Tryz.prog 79 #[v] w fun e w' => ∃ (a' : Option Addr) (c' : Nat), e = .returned (.slice a' l.length c') ∧ Hid (CloneR w l (.slice a' l.length c') w') := by
  rcases h.2 with ⟨rfl, h0⟩ | ⟨g, cap, cur, rfl, hb, hg, hn, hcm, hcs, ht⟩
  · refine (clone_nil 0 0 w).mono ?_
    rintro e w' ⟨rfl, rfl⟩
    have e0 : l = [] := List.eq_nil_of_length_eq_zero h0
    subst e0
    exact ⟨none, 0, rfl, World.ownsRow_nil w' _ _ _, Below.refl _ _⟩
  · refine (clone_some ⟨g, 0, none⟩ l.length cap (flat l) w (by rw [flat_length]) (by unfold maxLen; omega) (by omega) (h.cells rfl) (flat_one l)).mono ?_
    rintro e w' ⟨v', rfl, h1, h2⟩
    rcases h1.2 with ⟨rfl, h0⟩ | ⟨g', cap', cur', rfl, _⟩
    · exact ⟨none, 0, by rw [h0], by rw [h0] at h1 ⊢; exact h1, h2⟩
    · exact ⟨_, cap', rfl, h1, h2⟩

/-- The length of the row of a tree, read off the world. -/
def lenAt (w : World) (tb : Nat) : Nat := match w.cell? ⟨tb, 0, none⟩ with
  | some (.slice _ n _) => n
  | _ => 0
theorem lenAt_of {w : World} {tb n cap : Nat} {a : Option Addr} (h : w.cell? ⟨tb, 0, none⟩ = some (.slice a n cap)) : lenAt w tb = n := by simp [lenAt, h]

/-- What stands ahead of a round. -/
def RestAt (J : List M → World → Prop) (T : List M) (B Bx : Nat) (wr : World) : Prop :=
  ∃ (pre S R : List M) (v : Value), T = pre ++ S ∧ R.Perm S ∧ InOrder ltM S ∧ Unlike S ∧ TreeR wr B Bx v R ∧ J pre wr ∧ B ≤ Bx
theorem RestAt.len {J : List M → World → Prop} {T : List M} {B Bx : Nat} {wr : World} (h : RestAt J T B Bx wr) :
    ∃ a cap, wr.cell? ⟨Bx, 0, none⟩ = some (.slice a (lenAt wr Bx) cap) := by
  obtain ⟨pre, S, R, v, _, _, _, _, hR, _⟩ := h
  rcases hR.own.2 with ⟨rfl, h0⟩ | ⟨g, cap, cur, rfl, _⟩
  · exact ⟨none, 0, by have := hR.t.c0; rw [lenAt_of this]; exact this⟩
  · exact ⟨_, cap, by have := hR.t.c0; rw [lenAt_of this]; exact this⟩
theorem TreeR.len {w : World} {b0 tb : Nat} {v : Value} {l : List M} (h : TreeR w b0 tb v l) : lenAt w tb = l.length := by
  rcases h.own.2 with ⟨rfl, h0⟩ | ⟨g, cap, cur, rfl, _⟩
  · rw [lenAt_of h.t.c0, h0]
  · rw [lenAt_of h.t.c0]
theorem RestAt.done {J : List M → World → Prop} {T : List M} {B Bx : Nat} {wr : World} (h : RestAt J T B Bx wr) (h0 : lenAt wr Bx = 0) : J T wr := by
  obtain ⟨pre, S, R, v, rfl, hp, _, _, hR, hJ, _⟩ := h
  rw [hR.len] at h0
  have : S = [] := List.eq_nil_of_length_eq_zero (by rw [← hp.length_eq]; exact h0)
  subst this
  simpa using hJ
theorem RestAt.step {n l : Nat} {J : List M → World → Prop} {T : List M} {B Bx : Nat} {wr : World} (h : RestAt J T B Bx wr) (h0 : 0 < lenAt wr Bx)
    (hJ : ∀ s X Y, J s X → Below B X Y → J s Y)
    (hY : ∀ pre x X, J pre X → pre ++ [x] <+: T → YieldAt Fence.wide n Tryz.prog l #[x.val] X fun e Y => e = .returned (.bool true) ∧ J (pre ++ [x]) Y ∧ KeptOff (fun k => k < B) X Y) :
    ∃ m : M, Calls Tryz.prog 80 #[.pointer (some ⟨Bx, 0, none⟩), .int .i64 0] wr fun e w1 => e = .returned m.val ∧
      Hid (YieldAt Fence.wide n Tryz.prog l #[m.val] w1 fun e Y => e = .returned (.bool true) ∧ Hid (RestAt J T B Bx Y) ∧ lenAt Y Bx < lenAt wr Bx) := by
  obtain ⟨pre, S, R, v, rfl, hp, hO, hU, hR, hJp, hB⟩ := h
  have hl0 := hR.len
  have hpos : 0 < R.length := by omega
  refine ⟨R.getD 0 default, (tcut_rest hR 0 hpos).mono ?_⟩
  rintro e w1 ⟨he, v', R', hR', hp', hk, hv⟩
  refine ⟨he, ?_⟩
  obtain ⟨S', hS', hpS⟩ := pop_list hp hp' (root_of hR.heap hpos) hO hU
  have hlow : ∀ k, v.ownBlock = some k → B ≤ k := fun k e => (hR.own.lt k e).1
  have hJ1 : J pre w1 := hJ _ _ _ hJp (hk.below (fun k _ e => by
    rcases e with e | e
    · omega
    · exact hlow k e) hR.bd)
  have hpre : pre ++ [R.getD 0 default] <+: pre ++ S := by
    rw [hS']
    exact ⟨S', by simp⟩
  obtain ⟨fn, tmps, assign, body, hy, hr⟩ := hY pre _ w1 hJ1 hpre
  refine ⟨fn, tmps, assign, body, hy, hr.mono ?_⟩
  rintro e Y ⟨rfl, hJY, hkY⟩
  have hR2 := hR'.kept hkY (by omega) (fun k e h => by
    have := (hR'.own.lt k e).1
    omega)
  refine ⟨rfl, ⟨pre ++ [R.getD 0 default], S', R', v', by rw [hS']; simp, hpS, ?_, ?_, hR2, hJY, hB⟩, ?_⟩
  · rw [hS'] at hO; exact (List.pairwise_cons.1 hO).2
  · rw [hS'] at hU; exact (List.pairwise_cons.1 hU).2
  · rw [hR2.len, hl0]
    have := hp'.length_eq
    simp at this
    omega

set_option maxHeartbeats 4000000 in
set_option maxRecDepth 100000 in
theorem tinOrder1_in (n : Nat) (hn : 1 ≤ n) (l Bt tb b0 : Nat) {v : Value} {L T : List M} {W : World} (h : TreeAt W b0 tb v L) (hp : L.Perm T) (hO : InOrder ltM T) (hU : Unlike T)
    (hBt : W.cell? ⟨Bt, 0, none⟩ = some (.pointer (some ⟨tb, 0, none⟩))) (hBl : Bt < W.heap.size) (J : List M → World → Prop) (hJ : ∀ s X Y, J s X → Below W.heap.size X Y → J s Y)
    (hY : ∀ pre x X, J pre X → pre ++ [x] <+: T → YieldAt Fence.wide (n - 1) Tryz.prog l #[x.val] X fun e Y => e = .returned (.bool true) ∧ J (pre ++ [x]) Y ∧ KeptOff (fun k => k < W.heap.size) X Y) (h0 : J [] W) :
    CallsIn Fence.wide n Tryz.prog 78 #[.func (.yield l) #[] #[], .pointer (some ⟨Bt, 0, none⟩)] W fun e W' => (∃ v, e = .returned v) ∧ J T W' := by
  have mixed := mixed
  obtain ⟨va, vc, rfl⟩ := h.shape
  have c0 := h.t.c0
  have c1 := h.t.c1
  have htl := h.t.lt
  have hcl : ∀ w', Below W.heap.size W w' → Calls Tryz.prog 79 #[.slice va L.length vc] w' fun e w1 => ∃ (a' : Option Addr) (c' : Nat), e = .returned (.slice a' L.length c') ∧ Hid (CloneR w' L (.slice a' L.length c') w1) := fun w' hb => clone_own (h.kept (S := fun _ => False) (.of_below hb) (fun e => e) (fun _ _ e => e)).own h.small
  have hS : ∀ w', Below W.heap.size W w' → w'.cell? ⟨Bt, 0, none⟩ = some (.pointer (some ⟨tb, 0, none⟩)) ∧ w'.cell? ⟨tb, 0, none⟩ = some (.slice va L.length vc) ∧ w'.cell? ⟨tb, 1, none⟩ = some (.func (.func 34) #[] #[]) ∧ Below W.heap.size W w' := fun w' hb =>
    ⟨(hb.cell (p := ⟨Bt, 0, none⟩) hBl).trans hBt, (hb.cell (p := ⟨tb, 0, none⟩) htl).trans c0, (hb.cell (p := ⟨tb, 1, none⟩) htl).trans c1, hb⟩
  have hst : Hid (∀ w1 v', Below W.heap.size W w1 → w1.ownsRow W.heap.size 34 7 v' L.length (flat L) → RestAt J T W.heap.size w1.heap.size (w1.alloc (.cells #[v', .func (.func 34) #[] #[]] 83))) := by
    intro w1 v' hb ho
    have hb2 := hb.alloc hb.size (.cells #[v', .func (.func 34) #[] #[]] 83)
    refine ⟨[], T, L, v', rfl, hp, hO, hU, ⟨heap_alloc_new w1 _, own_kept ho (.of_below (S := fun _ => False) ((Below.refl _ w1).alloc (Nat.le_refl _) _)) (fun _ _ e => e), fun k e hk => ?_, hb2.size, h.fits, h.heap, h.small⟩, hJ _ _ _ h0 hb2, hb.size⟩
    have := (ho.lt k e).2
    omega
  have hJ' := Lib.hid hJ
  have hY' := Lib.hid hY
  clear h hJ hY h0 hO hU
  refine callsIn_of_wp Tryz.func78 rfl trivial ?_ rfl
  simp only [Tryz.ntmps78, List.size_toArray, List.length_cons, List.length_nil, Nat.reduceAdd, Nat.reduceSub, Array.replicate_succ, Array.replicate_zero, List.push_toArray, List.append_toArray, List.nil_append, List.cons_append]
  refine wpIn_wide.2 ?_
  go_wp2_with fail
  go_region_held3 (fun w' => w'.cell? ⟨Bt, 0, none⟩ = some (.pointer (some ⟨tb, 0, none⟩)) ∧ w'.cell? ⟨tb, 0, none⟩ = some (.slice va L.length vc) ∧ w'.cell? ⟨tb, 1, none⟩ = some (.func (.func 34) #[] #[]) ∧ Below W.heap.size W w')
    (first | exact hS _ (Below.refl _ W).drew | (go_split_ands; exact hS _ (((Below.refl _ W).drew).trans (hq.out.2.mono (Nat.le_refl _)))) | (go_split_ands; exact hS _ ((((Below.refl _ W).drew).trans (hq.out.2.mono (Nat.le_refl _))).alloc hq.out.2.size _)))
    (first | (go_at_call 79; refine (hcl _ ?_).mono ?_; (go_split_ands; assumption); rintro e w1 ⟨a', c', rfl, hq⟩))
  have hb1 : Below W.heap.size W w1 := ((Below.refl _ W).drew).trans (hq.out.2.mono (Nat.le_refl _))
  have hR := Lib.hid (hst.out w1 _ hb1 hq.out.1)
  clear hcl hS hst hq hb1 c0 c1 hBt hBl htl hp
  generalize w1.heap.size = Bx at hR ⊢
  generalize w1.alloc (Obj.cells #[Value.slice a' L.length c', Value.func (Fn.func 34) #[] #[]] 83) = W2 at *
  generalize W.heap.size = B at *
  go_wp2_with fail
  refine (wpIn_wide (n := n)).1 ?_
  gi_loopw [16] (fun _ wr => Hid (RestAt J T B Bx wr)) (fun _ wr => lenAt wr Bx)
  case atStart => exact hR
  case round =>
    have hR2 := Lib.hid hrel.out
    clear hR hrel
    obtain ⟨ra, rc, hcell⟩ := hR2.out.len
    have hsz := (callsIn_wide (n := n - 1)).2 (tsize_any tlay Bx ra _ rc wr hcell)
    by_cases h0 : 0 < lenAt wr Bx
    · have hz : (0 : Int) < (lenAt wr Bx : Int) := by omega
      obtain ⟨m, hcut⟩ := hR2.out.step h0 hJ'.out hY'.out
      have hcut := (callsIn_wide (n := n - 1)).2 hcut
      clear hR2 hcell
      simp only [M.val] at hcut
      generalize lenAt wr Bx = N at *
      gi_wp2_with (first
        | (refine ⟨trivial, ?_⟩; gi_at_call 69; refine hsz.mono ?_; rintro e w3 ⟨rfl, rfl⟩)
        | (refine ⟨trivial, ?_⟩; gi_at_call 80; refine hcut.mono ?_; rintro e w3 ⟨rfl, hy⟩; obtain ⟨fn, tmps, assign, body, hy, hrd⟩ := hy.out; have hrd' := Lib.hid hrd; clear hrd))
      refine hrd'.out.mono ?_
      rintro e W3 ⟨rfl, hR3, hlt⟩
      have hR3' := Lib.hid hR3.out
      have hlt' := Lib.hid hlt
      clear hR3 hlt hrd' hy
      gi_wp2
      go_roundw
      case rel => exact hR3'.out
      case measure => exact hlt'.out
    · have h00 : lenAt wr Bx = 0 := by omega
      rw [h00] at hsz
      have hfin := Lib.hid (hR2.out.done h00)
      clear h0 h00 hcell hR2
      gi_wp2_with (refine ⟨trivial, ?_⟩; gi_at_call 69; refine hsz.mono ?_; rintro e w3 ⟨rfl, rfl⟩)
      go_end0
      exact ⟨⟨_, rfl⟩, hfin.out⟩
/-- The iterator, for the law of its range. -/
theorem tinOrder1_gives (n : Nat) (hn : 1 ≤ n) {Bt tb b0 : Nat} {v : Value} {L T : List M} {w : World} (h : TreeAt w b0 tb v L) (hp : L.Perm T) (hO : InOrder ltM T) (hU : Unlike T)
    (hBt : w.cell? ⟨Bt, 0, none⟩ = some (.pointer (some ⟨tb, 0, none⟩))) (hBl : Bt < w.heap.size) :
    GivesAll Fence.wide n Tryz.prog 78 #[.pointer (some ⟨Bt, 0, none⟩)] (fun m : M => #[m.val]) T w := fun l J W hW hJ hY h0 =>
  tinOrder1_in n hn l Bt tb b0 (h.kept (S := fun _ => False) (.of_below hW) (fun e => e) (fun _ _ e => e)) hp hO hU ((hW.cell (p := ⟨Bt, 0, none⟩) hBl).trans hBt) (Nat.lt_of_lt_of_le hBl hW.size) J hJ hY h0
end Go.Proofs.YtjlbkdghlijoeaaGreat
namespace Go.Proofs.YtjlbkdghlijoeaaGreat
open Go.ChangeShapes Go.WideShapes Go.ChangeAt Go.Shelf Go.RowKit Go.Lib Go.Sort Go.Deep Go.Maps
set_option linter.unusedVariables false
attribute [local go_sem] Oper.semAt_some

/-- The list so far: its box, its row. -/
def SoFar (w : World) (g Bl cap Bf : Nat) (pre : List M) (W : World) : Prop :=
  W.heap[Bl]? = some (.cells #[.slice (some ⟨g, 0, none⟩) pre.length cap] 38) ∧ W.ownsRow w.heap.size 34 7 (.slice (some ⟨g, 0, none⟩) pre.length cap) pre.length (flat pre) ∧ Below w.heap.size w W ∧ Bf ≤ W.heap.size
theorem SoFar.kept {S : Nat → Prop} {w : World} {g Bl cap Bf : Nat} {pre : List M} {W W' : World} (h : SoFar w g Bl cap Bf pre W) (hk : KeptOff S W W') (h1 : ¬ S Bl) (h2 : ¬ S g) (h3 : ∀ k, k < w.heap.size → ¬ S k) : SoFar w g Bl cap Bf pre W' :=
  ⟨(hk.block _ (Array.getElem?_eq_some_iff.1 h.1).1 h1).trans h.1, own_kept h.2.1 hk (fun k e hs => by have : g = k := (by simpa [Value.ownBlock] using e); exact h2 (this ▸ hs)),
    h.2.2.1.trans (hk.below (fun k _ e => Nat.le_of_not_lt fun hh => h3 k hh e) h.2.2.1.size), Nat.le_trans h.2.2.2 hk.size⟩
/-- One more. -/
theorem SoFar.more {w : World} {g Bl cap Bf : Nat} {pre : List M} {W W5 : World} {m : M} (h : SoFar w g Bl cap Bf pre W) (hg : w.heap.size ≤ g) (hl : w.heap.size ≤ Bl) (hne : g ≠ Bl)
    (ho : W5.ownsRow w.heap.size 34 7 (.slice (some ⟨g, 0, none⟩) (pre.length + 1) cap) (pre.length + 1) (flat pre ++ flat [m])) (hk : KeptOff (fun k => k = g) W W5) :
    SoFar w g Bl cap Bf (pre ++ [m]) (W5.setCell ⟨Bl, 0, none⟩ (.slice (some ⟨g, 0, none⟩) (pre.length + 1) cap)) := by
  have hb : W5.heap[Bl]? = some (.cells #[.slice (some ⟨g, 0, none⟩) pre.length cap] 38) := (hk.block _ (Array.getElem?_eq_some_iff.1 h.1).1 (fun e => hne e.symm)).trans h.1
  have hks := KeptOff.set W5 ⟨Bl, 0, none⟩ (.slice (some ⟨g, 0, none⟩) (pre.length + 1) cap)
  have hall : KeptOff (fun k => k = g ∨ k = Bl) W (W5.setCell ⟨Bl, 0, none⟩ (.slice (some ⟨g, 0, none⟩) (pre.length + 1) cap)) := (hk.mono (fun k _ e => .inl e)).trans (hks.mono (fun k _ e => .inr e))
  refine ⟨?_, ?_, h.2.2.1.trans (hall.below (fun k _ e => by rcases e with e | e <;> omega) h.2.2.1.size), Nat.le_trans h.2.2.2 hall.size⟩
  · rw [List.length_append, List.length_singleton]
    simp [World.setCell, Array.getElem?_modify, hb]
  · rw [List.length_append, List.length_singleton, flat_append]
    exact own_kept ho hks (fun k e hs => by have : g = k := (by simpa [Value.ownBlock] using e); simp only at hs; omega)
theorem SoFar.msgs {w : World} {g Bl cap Bf : Nat} {T : List M} {W : World} (h : SoFar w g Bl cap Bf T W) (hf : ∀ m ∈ T, m.fits) : Msgs W (some ⟨g, 0, none⟩) T.length cap T := by
  have hh := own_holds h.2.1
  refine ⟨rfl, ?_, ?_, hf, .inr ⟨g, 0, rfl, fun i hi => msgs_of_holds hh.1 hh.2 i hi⟩⟩
  all_goals
    rcases h.2.1.2 with ⟨h0, _⟩ | ⟨g', cap', cur, hv, _, _, h1, h2, _⟩
    · cases h0
    · cases hv
      assumption

set_option maxHeartbeats 4000000 in
set_option maxRecDepth 100000 in
theorem hAll_anyH {w : World} {b0 hb tb mb n : Nat} {v : Value} {T : List M} (h : QAt w b0 hb tb mb n v T) :
    Calls Tryz.prog 62 #[.pointer (some ⟨hb, 0, none⟩)] w fun e w' => ∃ (a' : Option Addr) (c' : Nat), e = .returned (.slice a' T.length c') ∧ Hid (Msgs w' a' T.length c' T ∧ Below w.heap.size w w' ∧ FreshA w.heap.size T.length a') := by
  have mixed := mixed
  obtain ⟨i0, hi, hz0, hz1, hz2⟩ := info_parts infoM
  obtain ⟨l, hl, hlp⟩ := h.t
  have hsm := hl.small
  have hlen : l.length = T.length := hlp.length_eq
  have hmd := made_okH h.h
  have c0 := h.h.c0
  have htl := hl.t.lt
  have hbl := h.h.lt
  obtain ⟨oa, oc, hv⟩ := hl.shape
  have hsz := tsize_any tlay tb oa l.length oc w (by rw [hl.t.c0, hv])
  rw [hlen] at hsz
  have hN : T.length ≤ 16384 := by omega
  have hl' := Lib.hid hl
  have hh' := Lib.hid h
  have hlp' := Lib.hid hlp
  have hmk : Hid (∀ w1, w.grownBy w1 none → w1.ownsRow w.heap.size 34 7 (.slice (some ⟨w.heap.size, 0, none⟩) 0 T.length) 0 [] → SoFar w w.heap.size w1.heap.size T.length (w1.heap.size + 1) [] (w1.alloc (.cells #[.slice (some ⟨w.heap.size, 0, none⟩) 0 T.length] 38))) := by
    intro w1 hg ho
    have hb : Below w.heap.size w w1 := below_of_grown hg (fun r e => by cases e) (Nat.le_refl _)
    exact ⟨heap_alloc_new w1 _, own_kept ho (.of_below (S := fun _ => False) ((Below.refl _ w1).alloc (Nat.le_refl _) _)) (fun _ _ e => e), hb.alloc hb.size _, by simp⟩
  clear h hl hlp hv hlen
  generalize hNe : T.length = N at *
  have hNe' := Lib.hid hNe
  clear hNe
  refine (callsIn_wide (n := 6)).1 ?_
  refine callsIn_of_wp_marks Tryz.func62 rfl trivial ?_ rfl
  simp only [Tryz.ntmps62, List.size_toArray, List.length_cons, List.length_nil, Nat.reduceAdd, Nat.reduceSub, Array.replicate_succ, Array.replicate_zero, List.push_toArray, List.append_toArray, List.nil_append, List.cons_append]
  refine wpIn_wide.2 ?_
  go_upto_region 4 with (first
    | (go_at_call 68; refine hmd.mono ?_; rintro e w' ⟨rfl, rfl⟩)
    | (go_at_call 69; refine hsz.mono ?_; rintro e w' ⟨rfl, rfl⟩)
    | (refine wpList_make_own _ rfl _ _ 38 rfl w.heap.size 34 i0 _ 7 Tryz.underlying38 hi hz0 hz1 .i64 .i64 (N : Int) N rfl rfl rfl (by rw [hz2]; omega) (by unfold maxLen; omega) (Nat.le_refl _) ?_; intro w1 hown1 hgr1))
  have hgl : w.heap.size < w1.heap.size := (hown1.lt w.heap.size rfl).2
  have hS3 := Lib.hid (hmk.out w1 hgr1 hown1)
  have c3 := (hS3.out.2.2.1.cell (p := ⟨hb, 0, none⟩) hbl).trans c0
  clear hmk hown1 hgr1 hsz hmd c0
  generalize w1.alloc (Obj.cells #[.slice (some ⟨w.heap.size, 0, none⟩) 0 N] 38) = W3 at hS3 c3 ⊢
  generalize w1.heap.size = Bl at hgl hS3 ⊢
  have hgl' := Lib.hid hgl
  clear hgl
  go_wp2_with (go_at_call 70; refine (tinOrder_any tb _).mono ?_; rintro e w4 ⟨rfl, hw4⟩; have hw4' := Lib.hid hw4; clear hw4)
  refine (wpIn_wide (n := 6)).1 ?_
  have hB4 : Below W3.heap.size W3 w4 := by rw [hw4'.out]; exact (Below.refl _ W3).alloc (Nat.le_refl _) _
  have hs4 : w4.heap.size = W3.heap.size + 1 := by rw [hw4'.out]; simp
  have hS4 : SoFar w w.heap.size Bl N (Bl + 1) [] w4 := hS3.out.kept (S := fun _ => False) (.of_below hB4) (fun e => e) (fun e => e) (fun _ _ e => e)
  have hBt : w4.cell? ⟨W3.heap.size, 0, none⟩ = some (.pointer (some ⟨tb, 0, none⟩)) := by rw [hw4'.out]; simp
  have hl4 := hl'.out.kept (S := fun _ => False) (.of_below hS4.2.2.1) (fun e => e) (fun _ _ e => e)
  have hBl4 : Bl < w4.heap.size := (Array.getElem?_eq_some_iff.1 hS4.1).1
  have hs4' := Lib.hid hs4
  clear hs4
  refine wpIn_rangeFunc_all rfl (by omega : 1 ≤ 6) (gf := 78) (lb := #[.pointer (some ⟨W3.heap.size, 0, none⟩)]) rfl trivial (enters_of Tryz.func78 (by kernel_rfl) rfl)
    (tinOrder1_gives (6 - 1) (by omega) hl4 hlp'.out hh'.out.o hh'.out.u hBt (by have := hs4'.out; omega)) (fun _ => rfl)
    (fun pre W => SoFar w w.heap.size Bl N w4.heap.size pre W)
    (fun s X Y hX hB => hX.kept (S := fun k => w4.heap.size ≤ k) ⟨hB.os, hB.tape, hB.output, hB.size, fun k _ hn => hB.block k (by omega)⟩ (by omega) (by have := hgl'.out; omega) (fun k hk => by have := hgl'.out; omega))
    ⟨hS4.1, hS4.2.1, hS4.2.2.1, Nat.le_refl _⟩ ?round ?done
  case round =>
    intro l1 pre m W hS hpre hsz
    have hS' := Lib.hid hS
    have hroom : pre.length + 1 ≤ N := by
      have := hpre.length_le
      rw [hNe'.out] at this
      simpa using this
    have hsz' := Lib.hid hsz
    have hgl2 := Lib.hid hBl4
    clear hS hpre hsz hS4 hl4 hBt hBl4 hB4 c3
    simp only [M.val]
    gi_wp2
    have hka : Hid (KeptOff (fun k => k < w4.heap.size) W (W.alloc (.cells m.cells 34))) := .of_below ((Below.refl _ W).alloc (Nat.le_refl _) _)
    have hba : Hid (BoxM (W.alloc (.cells m.cells 34)) W.heap.size m) := BoxM.mk W m
    have hSa := Lib.hid (hS'.out.kept (S := fun _ => False) (.of_below ((Below.refl _ W).alloc (Nat.le_refl _) (.cells m.cells 34))) (fun e => e) (fun e => e) (fun _ _ e => e))
    simp only [M.cells] at hka hba hSa
    generalize W.alloc (.cells #[.int .i64 m.k.t, .int .i64 m.k.f, .int .i64 m.k.s, .int .i64 m.to, .int .i64 m.v, .int .i64 m.u, .bool m.anti] 34) = Wa at hka hba hSa ⊢
    refine ⟨hka.out, fun Wb hkb => ?_⟩
    have hSb := Lib.hid (hSa.out.kept hkb (by have := hgl2.out; omega) (by have := hgl'.out; have := hgl2.out; omega) (fun k hk => by have := hgl'.out; have := hgl2.out; omega))
    have hbb := hba.out.kept hkb (by have := hsz'.out; omega)
    obtain ⟨-, x0, x1, x2, x3, x4, x5, x6⟩ := hbb.at
    simp only [Nat.zero_add] at x0 x1 x2 x3 x4 x5 x6
    have cS : Wb.cell? ⟨Bl, 0, none⟩ = some (.slice (some ⟨w.heap.size, 0, none⟩) pre.length N) := cell_of_block (o := 0) hSb.out.1 rfl
    have hob := Lib.hid hSb.out.2.1
    have hin : ∀ w5, (Wb.alloc (.cells m.cells 34)).grownBy w5 (some w.heap.size) → w5.cell? ⟨Bl, 0, none⟩ = some (.slice (some ⟨w.heap.size, 0, none⟩) pre.length N) ∧ w5.frozen? ⟨Bl, 0, none⟩ = false ∧ KeptOff (fun k => k = w.heap.size) Wb w5 := by
      intro w5 hg
      have hk : KeptOff (fun k => k = w.heap.size) Wb w5 := (KeptOff.of_below (S := fun k => k = w.heap.size) ((Below.refl _ Wb).alloc (Nat.le_refl _) _)).trans ((KeptOff.of_grown hg).mono (fun k _ e => by cases e; rfl))
      have hb5 := (hk.block _ (Array.getElem?_eq_some_iff.1 hSb.out.1).1 (by have := hgl'.out; omega)).trans hSb.out.1
      exact ⟨cell_of_block (o := 0) hb5 rfl, frozen_of_block (o := 0) hb5, hk⟩
    have hin' := Lib.hid hin
    simp only [M.cells] at hin'
    clear hka hba hSa hkb hbb hin hS'
    gi_wp2_with (gi_at_builtin; refine wpListIn_append_fits _ rfl _ _ 38 rfl w.heap.size 34 i0 7 Tryz.underlying38 hi hz1 w.heap.size pre.length N (flat pre) rfl (hob.out.alloc _) ⟨Wb.heap.size, 0, none⟩ 1 1 (flat [m]) rfl rfl (World.news_of_block (cs := m.cells) (t := 34) (fr := (0, 0)) (heap_alloc_new Wb _)) (flat_one _) hroom ?_; intro w5 hown5 hg5; have hi5 := hin'.out w5 hg5; obtain ⟨c5, f5, hk5⟩ := hi5; have hk5' := Lib.hid hk5; clear hk5 hg5; have hown5' := Lib.hid hown5; clear hown5)
    refine ⟨hSb.out.more (Nat.le_refl _) (Nat.le_of_lt hgl'.out) (Nat.ne_of_lt hgl'.out) hown5'.out hk5'.out, ?_⟩
    exact (hk5'.out.mono (fun k _ e => by have := hgl'.out; have := hgl2.out; omega)).trans ((KeptOff.set w5 ⟨Bl, 0, none⟩ _).mono (fun k _ e => by have := hgl2.out; simp only at e; omega))
  case done =>
    intro D W hD hS hK
    have hkd : KeptOff (fun k => k = D) W (W.putObj D (.deferred none)) := kept_put W D _
    have hSd := Lib.hid (hS.kept hkd (by omega) (by have := hgl'.out; omega) (fun k hk => by have := hgl'.out; omega))
    have cD : W.cell? ⟨Bl, 0, none⟩ = some (.slice (some ⟨w.heap.size, 0, none⟩) T.length N) := cell_of_block (o := 0) hS.1 rfl
    rw [hNe'.out] at cD
    have hfit := hh'.out.fits
    clear hS hkd hS4 hl4 hBt hB4
    go_wp2
    refine ⟨by simp, .inl ⟨_, _, rfl, run_takeDeferred hK, ?_⟩⟩
    refine ⟨.slice (some ⟨w.heap.size, 0, none⟩) N N, by simp [results, Tryz.f62, go_sem], some ⟨w.heap.size, 0, none⟩, N, rfl, ?_, hSd.out.2.2.1, .inr ⟨w.heap.size, rfl, Nat.le_refl _⟩⟩
    have := hSd.out.msgs hfit
    rw [hNe'.out] at this
    exact this
end Go.Proofs.YtjlbkdghlijoeaaGreat
namespace Go.Proofs.YtjlbkdghlijoeaaGreat
open Go.ChangeShapes Go.WideShapes Go.ChangeAt Go.Shelf Go.RowKit Go.Lib Go.Sort Go.Deep Go.Maps
set_option linter.unusedVariables false

/-- The blocks that a heap owns. -/
def HOwn (hb tb mb : Nat) (v : Value) (k : Nat) : Prop := k = hb ∨ k = tb ∨ k = mb ∨ v.ownBlock = some k
/-- A heap that holds the messages of T, in their order; its blocks are among those of S; n bounds how many its map was ever handed. -/
def HAt (w : World) (hb n : Nat) (S : Nat → Prop) (T : List M) : Prop := ∃ b0 tb mb v, QAt w b0 hb tb mb n v T ∧ (∀ k, HOwn hb tb mb v k → S k) ∧ ∀ k, S k → k < w.heap.size
section
variable {w w' : World} {b0 hb tb mb n n' : Nat} {v v' : Value} {S S' : Nat → Prop} {T T' : List M}
theorem QAt.own_lt (h : QAt w b0 hb tb mb n v T) {k : Nat} (hk : HOwn hb tb mb v k) : k < w.heap.size := by
  obtain ⟨l, hl, hp⟩ := h.t
  rcases hk with rfl | rfl | rfl | e
  · exact h.h.lt
  · exact hl.t.lt
  · exact h.s.lt
  · exact (hl.own.lt k e).2
theorem HAt.kept {X : Nat → Prop} (h : HAt w hb n S T) (hk : KeptOff X w w') (hn : ∀ k, S k → ¬ X k) : HAt w' hb n S T := by
  obtain ⟨b0, tb, mb, v, h1, h2, h3⟩ := h
  exact ⟨b0, tb, mb, v, h1.kept hk (hn _ (h2 _ (.inl rfl))) (hn _ (h2 _ (.inr (.inl rfl)))) (hn _ (h2 _ (.inr (.inr (.inl rfl))))) (fun k e => hn k (h2 k (.inr (.inr (.inr e))))), h2, fun k e => Nat.lt_of_lt_of_le (h3 k e) hk.size⟩
theorem HAt.below (h : HAt w hb n S T) (hb' : Below w.heap.size w w') : HAt w' hb n S T := h.kept (X := fun _ => False) (.of_below hb') (fun _ _ e => e)
theorem HAt.lt (h : HAt w hb n S T) {k : Nat} (hk : S k) : k < w.heap.size := by obtain ⟨b0, tb, mb, v, h1, h2, h3⟩ := h; exact h3 k hk
theorem HAt.own (h : HAt w hb n S T) : S hb := by obtain ⟨b0, tb, mb, v, h1, h2, h3⟩ := h; exact h2 hb (.inl rfl)
theorem HAt.o (h : HAt w hb n S T) : InOrder ltM T := by obtain ⟨b0, tb, mb, v, h1, h2, h3⟩ := h; exact h1.o
theorem HAt.u (h : HAt w hb n S T) : Unlike T := by obtain ⟨b0, tb, mb, v, h1, h2, h3⟩ := h; exact h1.u
theorem HAt.fits (h : HAt w hb n S T) : ∀ m ∈ T, m.fits := by obtain ⟨b0, tb, mb, v, h1, h2, h3⟩ := h; exact h1.fits
theorem HAt.small (h : HAt w hb n S T) : T.length ≤ 16384 := by
  obtain ⟨b0, tb, mb, v, h1, h2, h3⟩ := h
  obtain ⟨l, hl, hp⟩ := h1.t
  rw [← hp.length_eq]
  exact hl.small
theorem HAt.mono (h : HAt w hb n S T) (hn : n ≤ n') : HAt w hb n' S T := by
  obtain ⟨b0, tb, mb, v, h1, h2, h3⟩ := h
  exact ⟨b0, tb, mb, v, h1.mono hn, h2, h3⟩
/-- Behind a step of its own. -/
theorem HAt.step (hS : ∀ k, HOwn hb tb mb v k → S k) (hSl : ∀ k, S k → k < w.heap.size) (h : QAt w' b0 hb tb mb n v' T) (hs : QStep w w' tb mb v v') : ∃ S', HAt w' hb n S' T ∧ CStep w w' S S' := by
  have hsz := hs.1.size
  refine ⟨fun k => S k ∨ (w.heap.size ≤ k ∧ k < w'.heap.size), ⟨b0, tb, mb, v', h, fun k hk => ?_, fun k hk => ?_⟩, hs.1.mono (fun k _ e => hS k (.inr e)), fun k hk => hk.imp id (fun e => e.1)⟩
  · rcases hk with e | e | e | e
    · exact .inl (hS k (.inl e))
    · exact .inl (hS k (.inr (.inl e)))
    · exact .inl (hS k (.inr (.inr (.inl e))))
    · rcases hs.2 k e with e2 | e2
      · exact .inl (hS k (.inr (.inr (.inr e2))))
      · exact .inr ⟨e2, h.own_lt (.inr (.inr (.inr e)))⟩
  · rcases hk with e | e
    · have := hSl k e; omega
    · exact e.2
end
section
variable {w : World} {hb n : Nat} {S : Nat → Prop} {T : List M}
theorem pNew_any (w : World) : Calls Tryz.prog 29 #[] w fun e w' => e = .returned (.pointer (some ⟨w.heap.size + 2, 0, none⟩)) ∧ Hid (HAt w' (w.heap.size + 2) 0 (fun k => w.heap.size ≤ k ∧ k < w.heap.size + 3) [] ∧ Below w.heap.size w w') := by
  refine (hNew_anyH w).mono ?_
  rintro e w' ⟨he, hq, hb⟩
  have hl := hq.own_lt (k := w.heap.size + 2) (.inl rfl)
  refine ⟨he, ⟨_, _, _, _, hq, fun k hk => ?_, fun k hk => by omega⟩, hb⟩
  rcases hk with e | e | e | e
  · omega
  · omega
  · omega
  · cases e
theorem pLen_any (h : HAt w hb n S T) : Calls Tryz.prog 65 #[.pointer (some ⟨hb, 0, none⟩)] w fun e w' => e = .returned (.int .i64 T.length) ∧ w = w' := by
  obtain ⟨b0, tb, mb, v, h1, h2, h3⟩ := h
  exact hLen_anyH h1
theorem pAll_any (h : HAt w hb n S T) : Calls Tryz.prog 62 #[.pointer (some ⟨hb, 0, none⟩)] w fun e w' => ∃ (a' : Option Addr) (c' : Nat), e = .returned (.slice a' T.length c') ∧ Hid (Msgs w' a' T.length c' T ∧ Below w.heap.size w w' ∧ FreshA w.heap.size T.length a') := by
  obtain ⟨b0, tb, mb, v, h1, h2, h3⟩ := h
  exact hAll_anyH h1
theorem pFirst_none (h : HAt w hb n S []) : Calls Tryz.prog 64 #[.pointer (some ⟨hb, 0, none⟩)] w fun e w' => e = .returned (.tuple #[zeroM.val, .int .i64 6]) ∧ Below w.heap.size w w' := by
  obtain ⟨b0, tb, mb, v, h1, h2, h3⟩ := h
  exact hFirst_noneH h1
theorem pFirst_some {m : M} (h : HAt w hb n S (m :: T)) : Calls Tryz.prog 64 #[.pointer (some ⟨hb, 0, none⟩)] w fun e w' => e = .returned (.tuple #[m.val, .int .i64 0]) ∧ Below w.heap.size w w' := by
  obtain ⟨b0, tb, mb, v, h1, h2, h3⟩ := h
  exact hFirst_someH h1
theorem pPop_none (h : HAt w hb n S []) : Calls Tryz.prog 66 #[.pointer (some ⟨hb, 0, none⟩)] w fun e w' => e = .returned (.tuple #[zeroM.val, .int .i64 6]) ∧ Below w.heap.size w w' := by
  obtain ⟨b0, tb, mb, v, h1, h2, h3⟩ := h
  exact hPop_noneH h1
theorem pPop_some {m : M} (h : HAt w hb n S (m :: T)) : Calls Tryz.prog 66 #[.pointer (some ⟨hb, 0, none⟩)] w fun e w' => e = .returned (.tuple #[m.val, .int .i64 0]) ∧ ∃ S', HAt w' hb n S' T ∧ CStep w w' S S' := by
  obtain ⟨b0, tb, mb, v, h1, h2, h3⟩ := h
  refine (hPop_someH h1).mono ?_
  rintro e w' ⟨he, v', hq, hs⟩
  exact ⟨he, HAt.step h2 h3 hq hs⟩
theorem pCut_none (h : HAt w hb n S T) {f u : Int} (hf : (Lit.int .i64 f).wf = true) (hu : (Lit.int .i64 u).wf = true) (hs : hasS T f u = false) : Calls Tryz.prog 63 #[.pointer (some ⟨hb, 0, none⟩), .int .i64 f, .int .i64 u] w fun e w' => e = .returned (.tuple #[zeroM.val, .int .i64 6]) ∧ Below w.heap.size w w' := by
  obtain ⟨b0, tb, mb, v, h1, h2, h3⟩ := h
  exact hCut_noneH h1 hf hu hs
theorem pCut_some {x : M} {T' : List M} (h : HAt w hb n S T) (hp : (x :: T').Perm T) (hO : InOrder ltM T') : Calls Tryz.prog 63 #[.pointer (some ⟨hb, 0, none⟩), .int .i64 x.k.f, .int .i64 x.u] w fun e w' => e = .returned (.tuple #[x.val, .int .i64 0]) ∧ ∃ S', HAt w' hb n S' T' ∧ CStep w w' S S' := by
  have hxT : x ∈ T := hp.mem_iff.1 (List.mem_cons_self ..)
  have hxf := h.fits x hxT
  obtain ⟨b0, tb, mb, v, h1, h2, h3⟩ := h
  refine (hCut_someH h1 hxf.1.2.1 hxf.2.2.2 (hasS_iff.2 ⟨x, hxT, rfl, rfl⟩)).mono ?_
  rintro e w' ⟨m, he, i, hi, e1, e2, e3, v', hq, hs⟩
  have hm : m = x := same_mem h1.u (e1 ▸ List.getElem_mem hi) hxT ⟨e2, e3⟩
  subst hm
  have he2 : T.eraseIdx i = T' := by
    have hk := erase_perm hi
    rw [e1] at hk
    exact sorted_unique ((hk.trans hp.symm).cons_inv) (erase_keeps i h1.o h1.u).1 hO (erase_keeps i h1.o h1.u).2
  rw [he2] at hq
  exact ⟨he, HAt.step h2 h3 hq hs⟩
theorem pPush_any (h : HAt w hb n S T) (m : M) (hm : m.fits) (hn : n < maxLen) : Calls Tryz.prog 67 #[.pointer (some ⟨hb, 0, none⟩), m.val] w fun e w' => e = .returned (.int .i64 (pushC T m)) ∧ ∃ S', HAt w' hb (n + 1) S' (pushT T m) ∧ CStep w w' S S' := by
  obtain ⟨b0, tb, mb, v, h1, h2, h3⟩ := h
  refine (hPush_anyH h1 m hm hn).mono ?_
  rintro e w' ⟨he, v', hq, hs⟩
  exact ⟨he, HAt.step h2 h3 hq hs⟩
end
end Go.Proofs.YtjlbkdghlijoeaaGreat
