
/-
  The contract of the program's Sorted: over every slice of messages that can be read it answers a new slice that reads as the stable order of them, and nothing that was there is changed.
-/
import Derived.Test.YtcfpfbemmklbaaaSorted
import Derived.OwnWalk
import Derived.Lib.OwnBridge
namespace Go.Proofs.Ytcfpfbemmklbaaa
open Go.ChangeShapes Go.WideShapes Go.ChangeAt Go.Shelf Go.RowKit Go.Lib Go.Sort

set_option maxHeartbeats 1000000 in
theorem clone_some (ad : Addr) (n c : Nat) (news : List Value) (w : World) (hl : news.length = n * 7) (hn : n ≤ maxLen) (hbig : n * 56 ≤ 140737488355328)
    (hc : ∀ j u, news[j]? = some u → w.cell? (ad.add j) = some u) (h1 : ∀ u ∈ news, u.oneCell' = true) :
    Calls Try.prog 47 #[.slice (some ad) n c] w fun e w' => ∃ v', e = .returned v' ∧ w'.ownsRow w.heap.size 34 7 v' n news ∧ Below w.heap.size w w' := by
  obtain ⟨i0, hi, hz0, hz1, hz2⟩ := info_parts infoM
  have q22 : ∀ (w : World) (a : Option Addr) (n c n' c' : Nat), (binOp .eql 38 (.slice a n c) (.slice none n' c')).run Try.prog w = .ok (.bool a.isNone) w := fun w a n c n' c' => Lib.run_eql_slice_nil w _ _ a n c n' c' Try.underlying38
  have A : Aside (∀ j u, news[j]? = some u → w.cell? (ad.add j) = some u) := hc
  clear hc
  go_enter Try.func47, Try.ntmps47
  go_wp2_with (at_builtin; refine wpList_append_own _ rfl _ _ 38 rfl w.heap.size 34 i0 _ 7 56 Try.underlying38 hi hz0 hz1 hz2 rfl (by omega) _ _ _ rfl (World.ownsRow_made w #[] 0 (Nat.le_refl _) (Nat.zero_le _) (by simp)) ad n c news rfl ?qc1 ?qc2 ?qc3 ?qc4 ?qc5 ?qc6 ?_)
  case qc1 => exact hl
  case qc2 =>
    intro j u hj
    exact Lib.cell?_alloc_some _ (A.out j u hj)
  case qc3 => exact h1
  case qc4 => rw [Nat.zero_add]; exact hn
  case qc5 => rw [Nat.zero_add]; exact hbig
  case qc6 => simp
  intro v' w1 hown hgrow hnil
  go_wp2
  go_ret
  refine ⟨v', rfl, by simpa using hown, ?_⟩
  exact ((Below.refl _ w).alloc (Nat.le_refl _) _).grown hgrow (by simp) (by intro k hk; simp [Value.ownBlock] at hk; omega)

theorem sort_any (w : World) (blk off cap : Nat) (l : List M) (hH : HoldsK encM 7 w blk off l.toArray) (hblk : blk < w.heap.size) (hsz : l.length < 1152921504606846976) :
    Calls Try.prog 48 #[.slice (some ⟨blk, off, none⟩) l.length cap, .func (.func 31) #[] #[]] w fun e w' => e = .returned (.tuple #[]) ∧ SWK encM 7 w blk off (stab ltM l).toArray w' := by
  have hc := stable_any w blk off cap l hH hblk hsz
  clear hH
  generalize stab ltM l = T at hc ⊢
  generalize l.length = N at hc ⊢
  go_enter Try.func48, Try.ntmps48
  go_wp2_with (go_at_call 54; refine hc.mono ?_; rintro e w1 ⟨rfl, S⟩)
  go_end0
  exact ⟨rfl, S⟩
theorem sort_none (p : Option Addr) (cap : Nat) (w : World) :
    Calls Try.prog 48 #[.slice p 0 cap, .func (.func 31) #[] #[]] w fun e w' => e = .returned (.tuple #[]) ∧ w' = w := by
  have hc := stable_none p cap w
  go_enter Try.func48, Try.ntmps48
  go_wp2_with (go_at_call 54; refine hc.mono ?_; rintro e w1 ⟨rfl, rfl⟩)
  go_end0
  exact ⟨rfl, rfl⟩
theorem clone_nil (n c : Nat) (w : World) : Calls Try.prog 47 #[.slice none n c] w fun e w' => e = .returned (.slice none 0 0) ∧ w' = w := by
  have := AnyE.slices_Clone_nil laysC n c w
  exact this

/-- What Clone leaves. -/
def CloneQ (w : World) (ms : List M) (len : Nat) (a' : Option Addr) (cap' : Nat) (w1 : World) : Prop :=
  Below w.heap.size w w1 ∧ len ≤ cap' ∧ cap' ≤ maxLen ∧ (len = 0 ∨ ∃ g, a' = some ⟨g, 0, none⟩ ∧ w.heap.size ≤ g ∧ g < w1.heap.size ∧ HoldsK encM 7 w1 g 0 ms.toArray)
theorem clone_any {w : World} {a : Option Addr} {len cap : Nat} {ms : List M} (h : Msgs w a len cap ms) (hr : len * 56 ≤ 140737488351232) :
    Calls Try.prog 47 #[.slice a len cap] w fun e w' => ∃ a' cap', e = .returned (.slice a' len cap') ∧ Aside (CloneQ w ms len a' cap' w') := by
  obtain ⟨hlen, hlc, hcm, hfit, hat⟩ := h
  cases a with
  | none =>
    obtain rfl : len = 0 := by
      rcases hat with h0 | ⟨b, off, ha, _⟩
      · exact h0
      · cases ha
    refine (clone_nil 0 cap w).mono ?_
    rintro e w' ⟨rfl, rfl⟩
    exact ⟨none, 0, rfl, Below.refl _ _, Nat.le_refl _, Nat.zero_le _, .inl rfl⟩
  | some ad =>
    have hc := clone_some ad len cap (flat ms) w (by rw [flat_length, hlen]) (by unfold maxLen at *; omega) (by omega) (by
      intro j u hj
      rcases hat with h0 | ⟨b, off, ha, hm⟩
      · have := (List.getElem?_eq_some_iff.1 hj).1
        rw [flat_length, hlen, h0] at this
        omega
      · injection ha with ha
        subst ha
        rw [add_plain]
        exact flat_cells (by rw [hlen]; exact hm) j u hj) (flat_one ms)
    refine hc.mono ?_
    rintro e w' ⟨v', rfl, hown, hb⟩
    rcases hown.2 with ⟨rfl, rfl⟩ | ⟨g, cap', cur, rfl, hg, hblk, hn, hm, _, ht⟩
    · exact ⟨none, 0, rfl, hb, Nat.le_refl _, Nat.zero_le _, .inl rfl⟩
    · refine ⟨some ⟨g, 0, none⟩, cap', rfl, hb, hn, hm, .inr ⟨g, rfl, hg, ?_, holds_of_block hblk hlen ht⟩⟩
      exact (Array.getElem?_eq_some_iff.1 hblk).1
theorem sort_q {w w1 : World} {a' : Option Addr} {len cap' : Nat} {ms : List M} (hlen : ms.length = len) (hfit : ∀ m ∈ ms, m.fits) (hr : len * 56 ≤ 140737488351232) (h : CloneQ w ms len a' cap' w1) :
    Calls Try.prog 48 #[.slice a' len cap', .func (.func 31) #[] #[]] w1 fun e w' => e = .returned (.tuple #[]) ∧ Aside (Msgs w' a' len cap' (stab ltM ms) ∧ Below w.heap.size w w') := by
  obtain ⟨hb, hlc, hcm, hat⟩ := h
  have hfit' : ∀ m ∈ stab ltM ms, m.fits := fun m hm => hfit m ((stab_perm ms).mem_iff.1 hm)
  have hlen' : (stab ltM ms).length = len := by rw [stab_length, hlen]
  by_cases h0 : len = 0
  · subst h0
    refine (sort_none a' cap' w1).mono ?_
    rintro e w' ⟨rfl, rfl⟩
    exact ⟨rfl, ⟨hlen', hlc, hcm, hfit', .inl rfl⟩, hb⟩
  · rcases hat with h | ⟨g, rfl, hg, hg1, hH⟩
    · exact absurd h h0
    · have := sort_any w1 g 0 cap' ms hH hg1 (by omega)
      rw [hlen] at this
      refine this.mono ?_
      rintro e w' ⟨rfl, W⟩
      have hH' : HoldsK encM 7 w' g 0 (stab ltM ms).toArray := SWK.holds W hg1 hH (by simp [stab_length])
      have hb' : Below w.heap.size w w' := SWK.belowM W hb hg hb.size
      have hsz : g < w'.heap.size := SWK.lt W hg1
      refine ⟨rfl, ⟨hlen', hlc, hcm, hfit', .inr ⟨g, 0, rfl, fun i hi => msgs_of_holds hH' hsz i (by omega)⟩⟩, hb'⟩

theorem sortedBy_any {w : World} {a : Option Addr} {len cap : Nat} {ms : List M} (h : Msgs w a len cap ms) (hr : len * 56 ≤ 140737488351232) :
    Calls Try.prog 30 #[.slice a len cap, .func (.func 31) #[] #[]] w fun e w' => ∃ a' cap', e = .returned (.slice a' len cap') ∧ Aside (Msgs w' a' len cap' (stab ltM ms) ∧ Below w.heap.size w w') := by
  have hc := clone_any h hr
  have hs := fun a' cap' w1 (hq : Aside (CloneQ w ms len a' cap' w1)) => sort_q h.1 h.2.2.2.1 hr hq.out
  clear h hr
  go_enter Try.func30, Try.ntmps30
  go_wp2_with (first | (go_at_call 47; refine hc.mono ?_; rintro e w1 ⟨a', cap', rfl, hq⟩) | (go_at_call 48; refine (hs _ _ _ (by assumption)).mono ?_; rintro e w2 ⟨rfl, hT⟩))
  go_ret
  exact ⟨a', cap', rfl, hT⟩

/-- THE PROGRAM's Sorted. -/
theorem eSorted_any {w : World} {a : Option Addr} {len cap : Nat} {ms : List M} (h : Msgs w a len cap ms) (hr : len * 56 ≤ 140737488351232) :
    Calls Try.prog 16 #[.slice a len cap] w fun e w' => ∃ a' cap', e = .returned (.slice a' len cap') ∧ Aside (Msgs w' a' len cap' (stab ltM ms) ∧ Below w.heap.size w w') := by
  have hc := sortedBy_any h hr
  clear h hr
  go_enter Try.func16, Try.ntmps16
  go_wp2_with (go_at_call 30; refine hc.mono ?_; rintro e w1 ⟨a', cap', rfl, hq⟩)
  go_ret
  exact ⟨a', cap', rfl, hq⟩

end Go.Proofs.Ytcfpfbemmklbaaa
