/-
  A queue: All: a new list of the messages, in their order.
-/
import Derived.Test.YtbalbachmeiehaaHAB
namespace Go.Proofs.Ytbalbachmeiehaa
open Go.ChangeShapes Go.WideShapes Go.ChangeAt Go.Shelf Go.RowKit Go.Lib Go.Sort Go.Deep Go.Maps
set_option linter.unusedVariables false
attribute [local go_sem] Oper.semAt_some

/-- The list so far: its box, its row. -/
def SoFar (w : World) (g Bl cap Bf : Nat) (pre : List M) (W : World) : Prop :=
  W.heap[Bl]? = some (.cells #[.slice (some ⟨g, 0, none⟩) pre.length cap] 35) ∧ W.ownsRow w.heap.size 31 7 (.slice (some ⟨g, 0, none⟩) pre.length cap) pre.length (flat pre) ∧ Below w.heap.size w W ∧ Bf ≤ W.heap.size
theorem SoFar.kept {S : Nat → Prop} {w : World} {g Bl cap Bf : Nat} {pre : List M} {W W' : World} (h : SoFar w g Bl cap Bf pre W) (hk : KeptOff S W W') (h1 : ¬ S Bl) (h2 : ¬ S g) (h3 : ∀ k, k < w.heap.size → ¬ S k) : SoFar w g Bl cap Bf pre W' :=
  ⟨(hk.block _ (Array.getElem?_eq_some_iff.1 h.1).1 h1).trans h.1, own_kept h.2.1 hk (fun k e hs => by have : g = k := (by simpa [Value.ownBlock] using e); exact h2 (this ▸ hs)),
    h.2.2.1.trans (hk.below (fun k _ e => Nat.le_of_not_lt fun hh => h3 k hh e) h.2.2.1.size), Nat.le_trans h.2.2.2 hk.size⟩
/-- One more. -/
theorem SoFar.more {w : World} {g Bl cap Bf : Nat} {pre : List M} {W W5 : World} {m : M} (h : SoFar w g Bl cap Bf pre W) (hg : w.heap.size ≤ g) (hl : w.heap.size ≤ Bl) (hne : g ≠ Bl)
    (ho : W5.ownsRow w.heap.size 31 7 (.slice (some ⟨g, 0, none⟩) (pre.length + 1) cap) (pre.length + 1) (flat pre ++ flat [m])) (hk : KeptOff (fun k => k = g) W W5) :
    SoFar w g Bl cap Bf (pre ++ [m]) (W5.setCell ⟨Bl, 0, none⟩ (.slice (some ⟨g, 0, none⟩) (pre.length + 1) cap)) := by
  have hb : W5.heap[Bl]? = some (.cells #[.slice (some ⟨g, 0, none⟩) pre.length cap] 35) := (hk.block _ (Array.getElem?_eq_some_iff.1 h.1).1 (fun e => hne e.symm)).trans h.1
  have hks := KeptOff.set W5 ⟨Bl, 0, none⟩ (.slice (some ⟨g, 0, none⟩) (pre.length + 1) cap)
  have hall : KeptOff (fun k => k = g ∨ k = Bl) W (W5.setCell ⟨Bl, 0, none⟩ (.slice (some ⟨g, 0, none⟩) (pre.length + 1) cap)) := (hk.mono (fun k _ e => .inl e)).trans (hks.mono (fun k _ e => .inr e))
  refine ⟨?_, ?_, h.2.2.1.trans (hall.below (fun k _ e => by rcases e with e | e <;> omega) h.2.2.1.size), Nat.le_trans h.2.2.2 hall.size⟩
  · rw [List.length_append, List.length_singleton]
    simp [World.setCell, Array.getElem?_modify, hb]
  · rw [List.length_append, List.length_singleton, flat_append]
    exact own_kept ho hks (fun k e hs => by have : g = k := (by simpa [Value.ownBlock] using e); simp only at hs; omega)
theorem SoFar.msgs {w : World} {g Bl cap Bf : Nat} {T : List M} {W : World} (h : SoFar w g Bl cap Bf T W) (hf : ∀ m ∈ T, m.fits) : Msgs W (some ⟨g, 0, none⟩) T.length cap T := by
  have hh := own_holds h.2.1
  refine ⟨rfl, ?_, ?_, hf, .inr ⟨g, 0, rfl, fun i hi => msgs_of_holds hh.1 hh.2 i hi⟩⟩
  all_goals
    rcases h.2.1.2 with ⟨h0, _⟩ | ⟨g', cap', cur, hv, _, _, h1, h2, _⟩
    · cases h0
    · cases hv
      assumption

set_option maxHeartbeats 4000000 in
set_option maxRecDepth 100000 in
theorem hAll_any {w : World} {b0 hb tb mb n : Nat} {v : Value} {T : List M} (h : QAt w b0 hb tb mb n v T) :
    Calls Try.prog 13 #[.pointer (some ⟨hb, 0, none⟩)] w fun e w' => ∃ (a' : Option Addr) (c' : Nat), e = .returned (.slice a' T.length c') ∧ Hid (Msgs w' a' T.length c' T ∧ Below w.heap.size w w' ∧ FreshA w.heap.size T.length a') := by
  have mixed := mixed
  obtain ⟨i0, hi, hz0, hz1, hz2⟩ := info_parts infoM
  obtain ⟨l, hl, hlp⟩ := h.t
  have hsm := hl.small
  have hlen : l.length = T.length := hlp.length_eq
  have hmd := made_ok h.h
  have c0 := h.h.c0
  have htl := hl.t.lt
  have hbl := h.h.lt
  obtain ⟨oa, oc, hv⟩ := hl.shape
  have hsz := tsize_any tlay tb oa l.length oc w (by rw [hl.t.c0, hv])
  rw [hlen] at hsz
  have hN : T.length ≤ 16384 := by omega
  have hl' := Lib.hid hl
  have hh' := Lib.hid h
  have hlp' := Lib.hid hlp
  have hmk : Hid (∀ w1, w.grownBy w1 none → w1.ownsRow w.heap.size 31 7 (.slice (some ⟨w.heap.size, 0, none⟩) 0 T.length) 0 [] → SoFar w w.heap.size w1.heap.size T.length (w1.heap.size + 1) [] (w1.alloc (.cells #[.slice (some ⟨w.heap.size, 0, none⟩) 0 T.length] 35))) := by
    intro w1 hg ho
    have hb : Below w.heap.size w w1 := below_of_grown hg (fun r e => by cases e) (Nat.le_refl _)
    exact ⟨heap_alloc_new w1 _, own_kept ho (.of_below (S := fun _ => False) ((Below.refl _ w1).alloc (Nat.le_refl _) _)) (fun _ _ e => e), hb.alloc hb.size _, by simp⟩
  clear h hl hlp hv hlen
  generalize hNe : T.length = N at *
  have hNe' := Lib.hid hNe
  clear hNe
  refine (callsIn_wide (n := 6)).1 ?_
  refine callsIn_of_wp_marks Try.func13 rfl trivial ?_ rfl
  simp only [Try.ntmps13, List.size_toArray, List.length_cons, List.length_nil, Nat.reduceAdd, Nat.reduceSub, Array.replicate_succ, Array.replicate_zero, List.push_toArray, List.append_toArray, List.nil_append, List.cons_append]
  refine wpIn_wide.2 ?_
  go_upto_region 4 with (first
    | (go_at_call 25; refine hmd.mono ?_; rintro e w' ⟨rfl, rfl⟩)
    | (go_at_call 26; refine hsz.mono ?_; rintro e w' ⟨rfl, rfl⟩)
    | (refine wpList_make_own _ rfl _ _ 35 rfl w.heap.size 31 i0 _ 7 Try.underlying35 hi hz0 hz1 .i64 .i64 (N : Int) N rfl rfl rfl (by rw [hz2]; omega) (by unfold maxLen; omega) (Nat.le_refl _) ?_; intro w1 hown1 hgr1))
  have hgl : w.heap.size < w1.heap.size := (hown1.lt w.heap.size rfl).2
  have hS3 := Lib.hid (hmk.out w1 hgr1 hown1)
  have c3 := (hS3.out.2.2.1.cell (p := ⟨hb, 0, none⟩) hbl).trans c0
  clear hmk hown1 hgr1 hsz hmd c0
  generalize w1.alloc (Obj.cells #[.slice (some ⟨w.heap.size, 0, none⟩) 0 N] 35) = W3 at hS3 c3 ⊢
  generalize w1.heap.size = Bl at hgl hS3 ⊢
  have hgl' := Lib.hid hgl
  clear hgl
  go_wp2_with (go_at_call 27; refine (tinOrder_any tb _).mono ?_; rintro e w4 ⟨rfl, hw4⟩; have hw4' := Lib.hid hw4; clear hw4)
  refine (wpIn_wide (n := 6)).1 ?_
  have hB4 : Below W3.heap.size W3 w4 := by rw [hw4'.out]; exact (Below.refl _ W3).alloc (Nat.le_refl _) _
  have hs4 : w4.heap.size = W3.heap.size + 1 := by rw [hw4'.out]; simp
  have hS4 : SoFar w w.heap.size Bl N (Bl + 1) [] w4 := hS3.out.kept (S := fun _ => False) (.of_below hB4) (fun e => e) (fun e => e) (fun _ _ e => e)
  have hBt : w4.cell? ⟨W3.heap.size, 0, none⟩ = some (.pointer (some ⟨tb, 0, none⟩)) := by rw [hw4'.out]; simp
  have hl4 := hl'.out.kept (S := fun _ => False) (.of_below hS4.2.2.1) (fun e => e) (fun _ _ e => e)
  have hBl4 : Bl < w4.heap.size := (Array.getElem?_eq_some_iff.1 hS4.1).1
  have hs4' := Lib.hid hs4
  clear hs4
  refine wpIn_rangeFunc_all rfl (by omega : 1 ≤ 6) (gf := 40) (lb := #[.pointer (some ⟨W3.heap.size, 0, none⟩)]) rfl trivial (enters_of Try.func40 (by kernel_rfl) rfl)
    (tinOrder1_gives (6 - 1) (by omega) hl4 hlp'.out hh'.out.o hh'.out.u hBt (by have := hs4'.out; omega)) (fun _ => rfl)
    (fun pre W => SoFar w w.heap.size Bl N w4.heap.size pre W)
    (fun s X Y hX hB => hX.kept (S := fun k => w4.heap.size ≤ k) ⟨hB.os, hB.tape, hB.output, hB.size, fun k _ hn => hB.block k (by omega)⟩ (by omega) (by have := hgl'.out; omega) (fun k hk => by have := hgl'.out; omega))
    ⟨hS4.1, hS4.2.1, hS4.2.2.1, Nat.le_refl _⟩ ?round ?done
  case round =>
    intro l1 pre m W hS hpre hsz
    have hS' := Lib.hid hS
    have hroom : pre.length + 1 ≤ N := by
      have := hpre.length_le
      rw [hNe'.out] at this
      simpa using this
    have hsz' := Lib.hid hsz
    have hgl2 := Lib.hid hBl4
    clear hS hpre hsz hS4 hl4 hBt hBl4 hB4 c3
    simp only [M.val]
    gi_wp2
    have hka : Hid (KeptOff (fun k => k < w4.heap.size) W (W.alloc (.cells m.cells 31))) := .of_below ((Below.refl _ W).alloc (Nat.le_refl _) _)
    have hba : Hid (BoxM (W.alloc (.cells m.cells 31)) W.heap.size m) := BoxM.mk W m
    have hSa := Lib.hid (hS'.out.kept (S := fun _ => False) (.of_below ((Below.refl _ W).alloc (Nat.le_refl _) (.cells m.cells 31))) (fun e => e) (fun e => e) (fun _ _ e => e))
    simp only [M.cells] at hka hba hSa
    generalize W.alloc (.cells #[.int .i64 m.k.t, .int .i64 m.k.f, .int .i64 m.k.s, .int .i64 m.to, .int .i64 m.v, .int .i64 m.u, .bool m.anti] 31) = Wa at hka hba hSa ⊢
    refine ⟨hka.out, fun Wb hkb => ?_⟩
    have hSb := Lib.hid (hSa.out.kept hkb (by have := hgl2.out; omega) (by have := hgl'.out; have := hgl2.out; omega) (fun k hk => by have := hgl'.out; have := hgl2.out; omega))
    have hbb := hba.out.kept hkb (by have := hsz'.out; omega)
    obtain ⟨-, x0, x1, x2, x3, x4, x5, x6⟩ := hbb.at
    simp only [Nat.zero_add] at x0 x1 x2 x3 x4 x5 x6
    have cS : Wb.cell? ⟨Bl, 0, none⟩ = some (.slice (some ⟨w.heap.size, 0, none⟩) pre.length N) := cell_of_block (o := 0) hSb.out.1 rfl
    have hob := Lib.hid hSb.out.2.1
    have hin : ∀ w5, (Wb.alloc (.cells m.cells 31)).grownBy w5 (some w.heap.size) → w5.cell? ⟨Bl, 0, none⟩ = some (.slice (some ⟨w.heap.size, 0, none⟩) pre.length N) ∧ w5.frozen? ⟨Bl, 0, none⟩ = false ∧ KeptOff (fun k => k = w.heap.size) Wb w5 := by
      intro w5 hg
      have hk : KeptOff (fun k => k = w.heap.size) Wb w5 := (KeptOff.of_below (S := fun k => k = w.heap.size) ((Below.refl _ Wb).alloc (Nat.le_refl _) _)).trans ((KeptOff.of_grown hg).mono (fun k _ e => by cases e; rfl))
      have hb5 := (hk.block _ (Array.getElem?_eq_some_iff.1 hSb.out.1).1 (by have := hgl'.out; omega)).trans hSb.out.1
      exact ⟨cell_of_block (o := 0) hb5 rfl, frozen_of_block (o := 0) hb5, hk⟩
    have hin' := Lib.hid hin
    simp only [M.cells] at hin'
    clear hka hba hSa hkb hbb hin hS'
    gi_wp2_with (gi_at_builtin; refine wpListIn_append_fits _ rfl _ _ 35 rfl w.heap.size 31 i0 7 Try.underlying35 hi hz1 w.heap.size pre.length N (flat pre) rfl (hob.out.alloc _) ⟨Wb.heap.size, 0, none⟩ 1 1 (flat [m]) rfl rfl (World.news_of_block (cs := m.cells) (t := 31) (fr := (0, 0)) (heap_alloc_new Wb _)) (flat_one _) hroom ?_; intro w5 hown5 hg5; have hi5 := hin'.out w5 hg5; obtain ⟨c5, f5, hk5⟩ := hi5; have hk5' := Lib.hid hk5; clear hk5 hg5; have hown5' := Lib.hid hown5; clear hown5)
    refine ⟨hSb.out.more (Nat.le_refl _) (Nat.le_of_lt hgl'.out) (Nat.ne_of_lt hgl'.out) hown5'.out hk5'.out, ?_⟩
    exact (hk5'.out.mono (fun k _ e => by have := hgl'.out; have := hgl2.out; omega)).trans ((KeptOff.set w5 ⟨Bl, 0, none⟩ _).mono (fun k _ e => by have := hgl2.out; simp only at e; omega))
  case done =>
    intro D W hD hS hK
    have hkd : KeptOff (fun k => k = D) W (W.putObj D (.deferred none)) := kept_put W D _
    have hSd := Lib.hid (hS.kept hkd (by omega) (by have := hgl'.out; omega) (fun k hk => by have := hgl'.out; omega))
    have cD : W.cell? ⟨Bl, 0, none⟩ = some (.slice (some ⟨w.heap.size, 0, none⟩) T.length N) := cell_of_block (o := 0) hS.1 rfl
    rw [hNe'.out] at cD
    have hfit := hh'.out.fits
    clear hS hkd hS4 hl4 hBt hB4
    go_wp2
    refine ⟨by simp, .inl ⟨_, _, rfl, run_takeDeferred hK, ?_⟩⟩
    refine ⟨.slice (some ⟨w.heap.size, 0, none⟩) N N, by simp [results, Try.f13, go_sem], some ⟨w.heap.size, 0, none⟩, N, rfl, ?_, hSd.out.2.2.1, .inr ⟨w.heap.size, rfl, Nat.le_refl _⟩⟩
    have := hSd.out.msgs hfit
    rw [hNe'.out] at this
    exact this
end Go.Proofs.Ytbalbachmeiehaa
