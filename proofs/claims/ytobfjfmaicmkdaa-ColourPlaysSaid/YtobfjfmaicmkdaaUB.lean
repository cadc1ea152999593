
/-
  Two colours: the token's visits. Plain data; no program in this text.
-/
import Derived.Test.YtobfjfmaicmkdaaUA
namespace Go.Proofs.Ytobfjfmaicmkdaa
namespace Col

/-- A tally turns; the token goes on. -/
def WS.turn (s : WS) : WS := { s with ta := upd s.ta s.at' (s.ta s.at').flip, at' := s.at' + 1 }
/-- The last one turns: the counting begins. -/
def WS.turnLast (s : WS) : WS := { s with ta := upd s.ta s.at' (s.ta s.at').flip, at' := 0, cnt := true, sum := 0, least := never }
/-- What a visit makes of the sum, of the least. -/
def WS.sum1 (s : WS) : Int := s.sum + (s.ta s.at').net (!(s.ta s.at').c)
def WS.least1 (s : WS) : Int := min (min s.least (leastL (s.held s.at'))) (s.ta s.at').red
/-- A tally is counted. -/
def WS.count (s : WS) : WS := { s with at' := s.at' + 1, sum := s.sum1, least := s.least1 }
/-- Counting anew. -/
def WS.again (s : WS) : WS := { s with at' := 0, sum := 0, least := never }
/-- The round is over. -/
def WS.done (s : WS) : WS := { s with at' := 0, cnt := false, sum := 0, least := never, g := s.least1 }

theorem flip_c (s : WS) (i : Nat) : (upd s.ta s.at' (s.ta s.at').flip i).c = if i = s.at' then !(s.ta s.at').c else (s.ta i).c := by
  by_cases e : i = s.at'
  · subst e; rw [upd_same, if_pos rfl]; rfl
  · rw [upd_ne _ _ e, if_neg e]
theorem flip_net (s : WS) (q : Bool) (i : Nat) : (upd s.ta s.at' (s.ta s.at').flip i).net q = (s.ta i).net q := by
  by_cases e : i = s.at'
  · subst e; rw [upd_same, net_flip]
  · rw [upd_ne _ _ e]
theorem flip_red_ne (s : WS) {i : Nat} (h : i ≠ s.at') : (upd s.ta s.at' (s.ta s.at').flip i).red = (s.ta i).red := by rw [upd_ne _ _ h]
theorem flip_red_le (s : WS) (i : Nat) (z : Int) (h : i = s.at' → z ≤ never) (h2 : i ≠ s.at' → z ≤ (s.ta i).red) : z ≤ (upd s.ta s.at' (s.ta s.at').flip i).red := by
  by_cases e : i = s.at'
  · subst e; rw [upd_same]; exact h rfl
  · rw [upd_ne _ _ e]; exact h2 e
section
variable {N : Nat} {s : WS} {c : Bool}
theorem Inv.turn (I : Inv N s c) (h : s.cnt = false) (hl : s.at' + 1 < N) : Inv N s.turn c := by
  have hT : ∀ k, Tur s k ↔ k < s.at' := fun k => ⟨fun e => e.resolve_left (by rw [h]; simp), .inr⟩
  have hT2 : ∀ k, Tur s.turn k ↔ k < s.at' + 1 := fun k => ⟨fun e => e.resolve_left (by show ¬ s.cnt = true; rw [h]; simp), .inr⟩
  have hnot : ∀ {p : Prop}, s.turn.cnt = true → p := fun e => by change s.cnt = true at e; rw [h] at e; cases e
  refine ⟨fun q => ?_, hl, fun i hi => ?_, fun i hi m hm hq => ?_, fun k hk ht => ?_, fun e => hnot e, I.gN, fun e => hnot e, fun e => hnot e, I.gh, I.gm⟩
  · exact (sumN_congr N (fun i _ => flip_net s q i)).trans (I.count q)
  · have h1 := I.col i hi
    have h2 := I.col s.at' I.at_lt
    rw [hT] at h1 h2
    rw [hT2]
    show (_ → (upd s.ta s.at' (s.ta s.at').flip i).c = _) ∧ (_ → (upd s.ta s.at' (s.ta s.at').flip i).c = _)
    rw [flip_c]
    by_cases e : i = s.at'
    · subst e
      rw [if_pos rfl, h2.2 (by omega)]
      exact ⟨fun _ => rfl, fun hn => absurd (by omega) hn⟩
    · rw [if_neg e]
      exact ⟨fun hlt => h1.1 (by omega), fun hn => h1.2 (by omega)⟩
  · obtain ⟨k, h1, h2, h3⟩ := I.r i hi m hm hq
    rw [hT] at h2
    refine ⟨k, h1, (hT2 k).2 (by omega), ?_⟩
    show (upd s.ta s.at' (s.ta s.at').flip k).red ≤ _
    rw [flip_red_ne s (by omega)]
    exact h3
  · rw [hT2] at ht
    exact flip_red_le s k s.g (fun _ => I.gN) (fun e => I.tg k hk ((hT k).2 (by omega)))
theorem Inv.turnLast (I : Inv N s c) (h : s.cnt = false) (hl : s.at' + 1 = N) : Inv N s.turnLast c := by
  have hT : ∀ k, Tur s k ↔ k < s.at' := fun k => ⟨fun e => e.resolve_left (by rw [h]; simp), .inr⟩
  have hr : ∀ i, i < N → ∀ m ∈ s.turnLast.mov i, m.2 = !c → ∃ k, k < N ∧ Tur s.turnLast k ∧ (s.turnLast.ta k).red ≤ m.1 := fun i hi m hm hq => by
    obtain ⟨k, h1, h2, h3⟩ := I.r i hi m hm hq
    rw [hT] at h2
    refine ⟨k, h1, .inl rfl, ?_⟩
    show (upd s.ta s.at' (s.ta s.at').flip k).red ≤ _
    rw [flip_red_ne s (by omega)]
    exact h3
  refine ⟨fun q => ?_, by show 0 < N; omega, fun i hi => ?_, hr, fun k hk ht => ?_, fun _ => I.gN, I.gN, fun _ => Int.le_refl _, fun _ _ => ⟨fun i hi => absurd hi (Nat.not_lt_zero i), fun i hi m hm hq => ?_⟩, I.gh, I.gm⟩
  · exact (sumN_congr N (fun i _ => flip_net s q i)).trans (I.count q)
  · have h1 := I.col i hi
    have h2 := I.col s.at' I.at_lt
    rw [hT] at h1 h2
    refine ⟨fun _ => ?_, fun hn => absurd (.inl rfl) hn⟩
    show (upd s.ta s.at' (s.ta s.at').flip i).c = _
    rw [flip_c]
    by_cases e : i = s.at'
    · subst e
      rw [if_pos rfl, h2.2 (by omega)]
    · rw [if_neg e]
      exact h1.1 (by omega)
  · exact flip_red_le s k s.g (fun _ => I.gN) (fun e => I.tg k hk ((hT k).2 (by omega)))
  · obtain ⟨k, h1, _, h3⟩ := hr i hi m hm hq
    exact .inr ⟨k, Nat.zero_le _, h1, h3⟩
/-- What the sum comes to. -/
theorem Inv.sum1 (I : Inv N s c) (h : s.cnt = true) : s.sum1 = s.sum + (s.ta s.at').net c := by
  unfold WS.sum1
  rw [(I.col s.at' I.at_lt).1 (.inl h)]
  simp
theorem least1_le (s : WS) : s.least1 ≤ s.least ∧ s.least1 ≤ leastL (s.held s.at') ∧ s.least1 ≤ (s.ta s.at').red := by unfold WS.least1; omega
theorem Inv.least1_ge (I : Inv N s c) (h : s.cnt = true) : s.g ≤ s.least1 := by
  have h1 := I.lg h
  have h2 := leastL_ge I.gN (I.gh s.at' I.at_lt)
  have h3 := I.tg s.at' I.at_lt (.inl h)
  unfold WS.least1
  omega
/-- What the counting has come to, the one that is visited counted in. -/
theorem Inv.counted (I : Inv N s c) (h : s.cnt = true) : sumN (s.at' + 1) (fun i => (s.ta i).net c) ≤ s.sum1 ∧
    (s.sum1 = sumN (s.at' + 1) (fun i => (s.ta i).net c) → (∀ i, i < s.at' + 1 → ∀ z ∈ s.held i, s.least1 ≤ z ∨ ∃ k, s.at' + 1 ≤ k ∧ k < N ∧ (s.ta k).red ≤ z) ∧ ∀ i, i < N → ∀ m ∈ s.mov i, m.2 = !c → s.least1 ≤ m.1 ∨ ∃ k, s.at' + 1 ≤ k ∧ k < N ∧ (s.ta k).red ≤ m.1) := by
  have hm1 := I.m1 h
  have hs := I.sum1 h
  have hlt := least1_le s
  have hb : ∀ z, Bnd N s z → s.least1 ≤ z ∨ ∃ k, s.at' + 1 ≤ k ∧ k < N ∧ (s.ta k).red ≤ z := fun z hz => by
    rcases hz with e | ⟨k, h1, h2, h3⟩
    · exact .inl (by omega)
    · by_cases e : k = s.at'
      · subst e; exact .inl (by omega)
      · exact .inr ⟨k, by omega, h2, h3⟩
  refine ⟨by rw [sumN, hs]; omega, fun he => ?_⟩
  rw [sumN, hs] at he
  obtain ⟨j1, j2⟩ := I.i1 h (by omega)
  refine ⟨fun i hi z hz => ?_, fun i hi m hm hq => hb _ (j2 i hi m hm hq)⟩
  by_cases e : i = s.at'
  · subst e
    have := leastL_le hz
    exact .inl (by omega)
  · exact hb z (j1 i (by omega) z hz)
theorem Inv.count' (I : Inv N s c) (h : s.cnt = true) (hl : s.at' + 1 < N) : Inv N s.count c := by
  obtain ⟨c1, c2⟩ := I.counted h
  exact ⟨I.count, hl, fun i hi => ⟨fun _ => (I.col i hi).1 (.inl h), fun hn => absurd (.inl h) hn⟩, fun i hi m hm hq => by
      obtain ⟨k, h1, _, h3⟩ := I.r i hi m hm hq
      exact ⟨k, h1, .inl h, h3⟩,
    fun k hk _ => I.tg k hk (.inl h), fun _ => I.least1_ge h, I.gN, fun _ => c1, fun _ he => c2 he, I.gh, I.gm⟩
theorem Inv.again (I : Inv N s c) (h : s.cnt = true) : Inv N s.again c := by
  have hpos := I.at_lt
  exact ⟨I.count, by show 0 < N; omega, fun i hi => ⟨fun _ => (I.col i hi).1 (.inl h), fun hn => absurd (.inl h) hn⟩, fun i hi m hm hq => by
      obtain ⟨k, h1, _, h3⟩ := I.r i hi m hm hq
      exact ⟨k, h1, .inl h, h3⟩,
    fun k hk _ => I.tg k hk (.inl h), fun _ => I.gN, I.gN, fun _ => Int.le_refl _, fun _ _ => ⟨fun i hi => absurd hi (Nat.not_lt_zero i), fun i hi m hm hq => by
      obtain ⟨k, h1, _, h3⟩ := I.r i hi m hm hq
      exact .inr ⟨k, Nat.zero_le _, h1, h3⟩⟩, I.gh, I.gm⟩
/-- The last one is counted, and nothing is on its way in the old colour: what is told bounds all. -/
theorem Inv.told (I : Inv N s c) (h : s.cnt = true) (hl : s.at' + 1 = N) (h0 : s.sum1 = 0) : (∀ i, i < N → ∀ m ∈ s.mov i, m.2 = !c) ∧ (∀ i, i < N → ∀ z ∈ s.held i, s.least1 ≤ z) ∧ ∀ i, i < N → ∀ m ∈ s.mov i, s.least1 ≤ m.1 := by
  obtain ⟨c1, c2⟩ := I.counted h
  rw [hl] at c1 c2
  have hcn := I.count c
  have hnn : ∀ i, i < N → 0 ≤ cntc c (s.mov i) := fun i _ => cntc_nonneg c _
  have hs0 := sumN_nonneg N hnn
  have hz := sumN_zero N hnn (by omega)
  have hall : ∀ i, i < N → ∀ m ∈ s.mov i, m.2 = !c := fun i hi m hm => bool_ne (cntc_none (hz i hi) m hm)
  obtain ⟨j1, j2⟩ := c2 (by omega)
  refine ⟨hall, fun i hi z hz => ?_, fun i hi m hm => ?_⟩
  · rcases j1 i hi z hz with e | ⟨k, e1, e2, _⟩
    · exact e
    · omega
  · rcases j2 i hi m hm (hall i hi m hm) with e | ⟨k, e1, e2, _⟩
    · exact e
    · omega
theorem Inv.done (I : Inv N s c) (h : s.cnt = true) (hl : s.at' + 1 = N) (h0 : s.sum1 = 0) : Inv N s.done (!c) := by
  obtain ⟨hall, hh, hm⟩ := I.told h hl h0
  have hlt := least1_le s
  have hgn := I.gN
  have hln : leastL (s.held s.at') ≤ never := (foldl_min_le _ _).1
  have hnT : ∀ k, ¬ Tur s.done k := fun k e => e.elim (fun e => by cases e) (fun e => Nat.not_lt_zero k e)
  exact ⟨I.count, by show 0 < N; omega, fun i hi => ⟨fun e => absurd e (hnT i), fun _ => (I.col i hi).1 (.inl h)⟩, fun i hi m hm' hq => by
      have := hall i hi m hm'
      rw [this] at hq
      exact absurd hq (not_self _),
    fun k _ e => absurd e (hnT k), fun e => (by cases e), (by show s.least1 ≤ never; omega), fun e => (by cases e), fun e => (by cases e), hh, hm⟩
end

/-- The beginning. -/
def WS.start (held : Nat → List Int) : WS := ⟨held, fun _ => [], fun _ => Ta.new, 0, false, 0, never, 0⟩
theorem Inv.start {N : Nat} (hN : 0 < N) {held : Nat → List Int} (hh : ∀ i, i < N → ∀ z ∈ held i, 0 ≤ z) : Inv N (WS.start held) false := by
  have hnT : ∀ k, ¬ Tur (WS.start held) k := fun k e => e.elim (fun e => by cases e) (fun e => Nat.not_lt_zero k e)
  have hz : ∀ n, sumN n (fun _ => (0 : Int)) = 0 := fun n => by induction n with
    | zero => rfl
    | succ n ih => rw [sumN, ih]; rfl
  refine ⟨fun q => ?_, hN, fun i hi => ⟨fun e => absurd e (hnT i), fun _ => rfl⟩, fun i hi m hm _ => (by cases hm), fun k _ e => absurd e (hnT k), fun e => (by cases e), (by show (0 : Int) ≤ never; decide), fun e => (by cases e), fun e => (by cases e), hh, fun i _ m hm => (by cases hm)⟩
  have h1 : sumN N (fun i => ((WS.start held).ta i).net q) = sumN N (fun _ => 0) := sumN_congr N (fun i _ => by cases q <;> rfl)
  have h2 : sumN N (fun i => cntc q ((WS.start held).mov i)) = sumN N (fun _ => 0) := sumN_congr N (fun i _ => rfl)
  rw [h1, h2]
end Col
end Go.Proofs.Ytobfjfmaicmkdaa
