/-
  Plain arrays: a binary heap. What raising, sinking and cutting make of it. No model in this text.
-/
import Derived.Test.YtbalbachmeiehaaStab
namespace Go.Proofs.Ytbalbachmeiehaa
open Go.Sort
variable {α : Type} [Inhabited α] {lt : α → α → Bool}

theorem swp_self (d : Array α) (i : Nat) (hi : i < d.size) : swp d i i = d := by
  refine Array.ext (by simp [swp]) fun t h1 h2 => ?_
  have e1 := swp_get d hi hi t
  rw [getElem!_pos _ t h1, getElem!_pos _ t h2] at e1
  rw [e1]
  by_cases a : t = i
  · subst a
    rw [if_pos rfl, getElem!_pos d t h2]
  · rw [if_neg a, if_neg a]
theorem get_swp (d : Array α) {i j : Nat} (hi : i < d.size) (hj : j < d.size) (k : Nat) : (swp d i j)[k]! = if k = j then d[i]! else if k = i then d[j]! else d[k]! := by
  exact swp_get d hi hj k
theorem swp_perm (d : Array α) {i j : Nat} (hi : i < d.size) (hj : j < d.size) : (swp d i j).toList.Perm d.toList := by
  have h := (swp_permIn d 0 d.size i j (Nat.zero_le _) hi (Nat.zero_le _) hj (Nat.le_refl _)).2.2
  have e1 : (swp d i j).extract 0 d.size = swp d i j := by
    have : d.size = (swp d i j).size := (size_swp d i j).symm
    rw [this, Array.extract_size]
  rw [e1, Array.extract_size] at h
  exact h

/-- None is ahead of the one above it. -/
def HeapOn (lt : α → α → Bool) (d : Array α) : Prop := ∀ i, 0 < i → i < d.size → lt d[i]! d[(i - 1) / 2]! = false
/-- .. but perhaps the one at p; and those below p are not ahead of the one above p. -/
def UpAt (lt : α → α → Bool) (d : Array α) (p : Nat) : Prop :=
  (∀ i, 0 < i → i < d.size → i ≠ p → lt d[i]! d[(i - 1) / 2]! = false) ∧ (0 < p → ∀ i, 0 < i → i < d.size → (i - 1) / 2 = p → lt d[i]! d[(p - 1) / 2]! = false)
/-- .. but perhaps those below p. -/
def DownAt (lt : α → α → Bool) (d : Array α) (p : Nat) : Prop :=
  (∀ i, 0 < i → i < d.size → (i - 1) / 2 ≠ p → lt d[i]! d[(i - 1) / 2]! = false) ∧ (0 < p → ∀ i, 0 < i → i < d.size → (i - 1) / 2 = p → lt d[i]! d[(p - 1) / 2]! = false)
/-- .. but perhaps the one at p and those below p. -/
def WeakAt (lt : α → α → Bool) (d : Array α) (p : Nat) : Prop :=
  (∀ i, 0 < i → i < d.size → i ≠ p → (i - 1) / 2 ≠ p → lt d[i]! d[(i - 1) / 2]! = false) ∧ (0 < p → ∀ i, 0 < i → i < d.size → (i - 1) / 2 = p → lt d[i]! d[(p - 1) / 2]! = false)

/-- The one at p goes up. -/
def raiseA (lt : α → α → Bool) (d : Array α) (p : Nat) : Array α :=
  if _h : 0 < p then if lt d[p]! d[(p - 1) / 2]! then raiseA lt (swp d p ((p - 1) / 2)) ((p - 1) / 2) else d else d
termination_by p
decreasing_by omega
theorem raiseA_zero (d : Array α) : raiseA lt d 0 = d := by rw [raiseA]; simp
theorem raiseA_yes {d : Array α} {p : Nat} (h0 : 0 < p) (h : lt d[p]! d[(p - 1) / 2]! = true) : raiseA lt d p = raiseA lt (swp d p ((p - 1) / 2)) ((p - 1) / 2) := by rw [raiseA, dif_pos h0, if_pos h]
theorem raiseA_no {d : Array α} {p : Nat} (h0 : 0 < p) (h : lt d[p]! d[(p - 1) / 2]! = false) : raiseA lt d p = d := by rw [raiseA, dif_pos h0, if_neg (by simp [h])]
theorem raiseA_size : ∀ (n : Nat) (d : Array α) (p : Nat), p ≤ n → (raiseA lt d p).size = d.size := by
  intro n
  induction n with
  | zero => intro d p hp; obtain rfl : p = 0 := by omega
            rw [raiseA_zero]
  | succ n ih =>
    intro d p hp
    by_cases h0 : 0 < p
    · cases h : lt d[p]! d[(p - 1) / 2]! with
      | true => rw [raiseA_yes h0 h, ih _ _ (by omega), size_swp]
      | false => rw [raiseA_no h0 h]
    · obtain rfl : p = 0 := by omega
      rw [raiseA_zero]
theorem size_raiseA (d : Array α) (p : Nat) : (raiseA lt d p).size = d.size := raiseA_size p d p (Nat.le_refl _)
theorem raiseA_permN : ∀ (n : Nat) (d : Array α) (p : Nat), p ≤ n → p < d.size → (raiseA lt d p).toList.Perm d.toList := by
  intro n
  induction n with
  | zero => intro d p hp _; obtain rfl : p = 0 := by omega
            rw [raiseA_zero]
  | succ n ih =>
    intro d p hp hs
    by_cases h0 : 0 < p
    · cases h : lt d[p]! d[(p - 1) / 2]! with
      | true =>
        rw [raiseA_yes h0 h]
        exact (ih _ _ (by omega) (by rw [size_swp]; omega)).trans (swp_perm d hs (by omega))
      | false => rw [raiseA_no h0 h]
    · obtain rfl : p = 0 := by omega
      rw [raiseA_zero]
theorem raiseA_perm (d : Array α) (p : Nat) (hp : p < d.size) : (raiseA lt d p).toList.Perm d.toList := raiseA_permN p d p (Nat.le_refl _) hp

/-- One step up: what was weak at p is now so at the one above it, and only upward. -/
theorem weak_up (O : Ord lt) {d : Array α} {p : Nat} (hp : p < d.size) (h0 : 0 < p) (hW : WeakAt lt d p) (h : lt d[p]! d[(p - 1) / 2]! = true) : UpAt lt (swp d p ((p - 1) / 2)) ((p - 1) / 2) := by
  obtain ⟨a, ha⟩ : ∃ a, a = (p - 1) / 2 := ⟨_, rfl⟩
  rw [← ha] at h ⊢
  have hap : a < p := by omega
  have has : a < d.size := by omega
  have g := get_swp d hp has
  have hpa : lt d[a]! d[p]! = false := O.asymm _ _ h
  constructor
  · intro i i0 is ina
    rw [size_swp] at is
    by_cases ip : i = p
    · subst ip
      rw [g, g, if_neg (by omega), if_pos rfl, ← ha, if_pos rfl]
      exact hpa
    · by_cases ic : (i - 1) / 2 = p
      · -- a child of p: it is not ahead of the one that was above p
        have := hW.2 h0 i i0 is ic
        rw [g, g, if_neg ina, if_neg ip, ic, if_neg (by omega), if_pos rfl, ha]
        exact this
      · have e := hW.1 i i0 is ip ic
        by_cases ia : (i - 1) / 2 = a
        · rw [g, g, if_neg ina, if_neg ip, ia, if_pos rfl]
          rw [ia] at e
          exact O.trans _ _ _ hpa e
        · rw [g, g, if_neg ina, if_neg ip, if_neg ia, if_neg ic]
          exact e
  · intro a0 i i0 is ia
    rw [size_swp] at is
    have ea : lt d[a]! d[(a - 1) / 2]! = false := hW.1 a a0 has (by omega) (by omega)
    have gb : (swp d p a)[(a - 1) / 2]! = d[(a - 1) / 2]! := by rw [g, if_neg (by omega), if_neg (by omega)]
    rw [gb]
    by_cases ip : i = p
    · subst ip
      rw [g, if_neg (by omega), if_pos rfl]
      exact ea
    · have e := hW.1 i i0 is ip (by omega)
      rw [ia] at e
      rw [g, if_neg (by omega), if_neg ip]
      exact O.trans _ _ _ ea e
theorem up_weak {d : Array α} {p : Nat} (h : UpAt lt d p) : WeakAt lt d p := ⟨fun i i0 is ip _ => h.1 i i0 is ip, h.2⟩
theorem raise_up (O : Ord lt) : ∀ (n : Nat) (d : Array α) (p : Nat), p ≤ n → p < d.size → UpAt lt d p → HeapOn lt (raiseA lt d p) := by
  intro n
  induction n with
  | zero =>
    intro d p hp _ hU
    obtain rfl : p = 0 := by omega
    rw [raiseA_zero]
    exact fun i i0 is => hU.1 i i0 is (by omega)
  | succ n ih =>
    intro d p hp hs hU
    by_cases h0 : 0 < p
    · cases h : lt d[p]! d[(p - 1) / 2]! with
      | true =>
        rw [raiseA_yes h0 h]
        exact ih _ _ (by omega) (by rw [size_swp]; omega) (weak_up O hs h0 (up_weak hU) h)
      | false =>
        rw [raiseA_no h0 h]
        intro i i0 is
        by_cases ip : i = p
        · subst ip; exact h
        · exact hU.1 i i0 is ip
    · obtain rfl : p = 0 := by omega
      rw [raiseA_zero]
      exact fun i i0 is => hU.1 i i0 is (by omega)

/-- The place of the first of three. -/
def leastA (lt : α → α → Bool) (d : Array α) (p : Nat) : Nat :=
  let l := if 2 * p + 1 < d.size ∧ lt d[2 * p + 1]! d[p]! = true then 2 * p + 1 else p
  if 2 * p + 2 < d.size ∧ lt d[2 * p + 2]! d[l]! = true then 2 * p + 2 else l
/-- .. of the first two. -/
def leastB (lt : α → α → Bool) (d : Array α) (p : Nat) : Nat := if 2 * p + 1 < d.size ∧ lt d[2 * p + 1]! d[p]! = true then 2 * p + 1 else p
theorem leastA_eq (d : Array α) (p : Nat) : leastA lt d p = if 2 * p + 2 < d.size ∧ lt d[2 * p + 2]! d[leastB lt d p]! = true then 2 * p + 2 else leastB lt d p := rfl
theorem leastB_lt (d : Array α) (p : Nat) (hp : p < d.size) : leastB lt d p < d.size := by
  unfold leastB
  split
  · rename_i h; exact h.1
  · exact hp
theorem leastA_lt (d : Array α) (p : Nat) (hp : p < d.size) : leastA lt d p < d.size := by
  rw [leastA_eq]
  split
  · rename_i h; exact h.1
  · exact leastB_lt d p hp
theorem leastA_cases (d : Array α) (p : Nat) : leastA lt d p = p ∨ leastA lt d p = 2 * p + 1 ∨ leastA lt d p = 2 * p + 2 := by
  rw [leastA_eq]
  unfold leastB
  repeat' split
  all_goals simp
/-- The least one is not behind any of the three; one that is not p is ahead of p. -/
theorem leastA_ok (O : Ord lt) (d : Array α) (p : Nat) : (2 * p + 1 < d.size → lt d[2 * p + 1]! d[leastA lt d p]! = false) ∧ (2 * p + 2 < d.size → lt d[2 * p + 2]! d[leastA lt d p]! = false) ∧
    (leastA lt d p ≠ p → lt d[leastA lt d p]! d[p]! = true) := by
  have irr : ∀ x, lt x x = false := fun x => by
    cases h : lt x x with
    | false => rfl
    | true => have := O.asymm x x h; rw [h] at this; cases this
  have tr : ∀ x y z, lt x y = true → lt y z = true → lt x z = true := fun x y z h1 h2 => by
    cases h : lt x z with
    | true => rfl
    | false =>
      have := O.trans y z x (O.asymm _ _ h2) h
      rw [h1] at this; cases this
  rw [leastA_eq]
  by_cases h1 : 2 * p + 1 < d.size ∧ lt d[2 * p + 1]! d[p]! = true
  · have eB : leastB lt d p = 2 * p + 1 := if_pos h1
    rw [eB]
    by_cases h2 : 2 * p + 2 < d.size ∧ lt d[2 * p + 2]! d[2 * p + 1]! = true
    · rw [if_pos h2]
      exact ⟨fun _ => O.asymm _ _ h2.2, fun _ => irr _, fun _ => tr _ _ _ h2.2 h1.2⟩
    · rw [if_neg h2]
      exact ⟨fun _ => irr _, fun hs => by cases h : lt d[2 * p + 2]! d[2 * p + 1]! with | false => rfl | true => exact absurd ⟨hs, h⟩ h2, fun _ => h1.2⟩
  · have eB : leastB lt d p = p := if_neg h1
    rw [eB]
    have n1 : 2 * p + 1 < d.size → lt d[2 * p + 1]! d[p]! = false := fun hs => by
      cases h : lt d[2 * p + 1]! d[p]! with | false => rfl | true => exact absurd ⟨hs, h⟩ h1
    by_cases h2 : 2 * p + 2 < d.size ∧ lt d[2 * p + 2]! d[p]! = true
    · rw [if_pos h2]
      exact ⟨fun hs => O.trans _ _ _ (O.asymm _ _ h2.2) (n1 hs), fun _ => irr _, fun _ => h2.2⟩
    · rw [if_neg h2]
      exact ⟨n1, fun hs => by cases h : lt d[2 * p + 2]! d[p]! with | false => rfl | true => exact absurd ⟨hs, h⟩ h2, fun h => absurd rfl h⟩

/-- The one at p goes down. -/
def sinkA (lt : α → α → Bool) (d : Array α) (p : Nat) : Array α :=
  if _h : leastA lt d p = p ∨ d.size ≤ leastA lt d p then d else sinkA lt (swp d p (leastA lt d p)) (leastA lt d p)
termination_by d.size - p
decreasing_by
  have := leastA_cases (lt := lt) d p
  rw [size_swp]
  omega
theorem sinkA_stop {d : Array α} {p : Nat} (h : leastA lt d p = p) : sinkA lt d p = d := by rw [sinkA, dif_pos (.inl h)]
theorem sinkA_go {d : Array α} {p : Nat} (hp : p < d.size) (h : leastA lt d p ≠ p) : sinkA lt d p = sinkA lt (swp d p (leastA lt d p)) (leastA lt d p) := by
  have := leastA_lt (lt := lt) d p hp
  rw [sinkA, dif_neg (by omega)]
theorem sink_all (O : Ord lt) : ∀ (n : Nat) (d : Array α) (p : Nat), d.size - p ≤ n → p < d.size → (sinkA lt d p).size = d.size ∧ (sinkA lt d p).toList.Perm d.toList ∧ (DownAt lt d p → HeapOn lt (sinkA lt d p)) := by
  intro n
  induction n with
  | zero => intro d p h1 h2; omega
  | succ n ih =>
    intro d p hn hp
    by_cases h : leastA lt d p = p
    · rw [sinkA_stop h]
      refine ⟨rfl, List.Perm.refl _, fun hD i i0 is => ?_⟩
      by_cases ic : (i - 1) / 2 = p
      · obtain ⟨q1, q2, _⟩ := leastA_ok O d p
        rw [h] at q1 q2
        have : i = 2 * p + 1 ∨ i = 2 * p + 2 := by omega
        rw [ic]
        rcases this with rfl | rfl
        · exact q1 is
        · exact q2 is
      · exact hD.1 i i0 is ic
    · have hl := leastA_lt (lt := lt) d p hp
      have hc := leastA_cases (lt := lt) d p
      obtain ⟨q1, q2, q3⟩ := leastA_ok O d p
      have q3 := q3 h
      rw [sinkA_go hp h]
      obtain ⟨l, hle⟩ : ∃ l, l = leastA lt d p := ⟨_, rfl⟩
      rw [← hle] at h hl hc q1 q2 q3 ⊢
      obtain ⟨r1, r2, r3⟩ := ih (swp d p l) l (by rw [size_swp]; omega) (by rw [size_swp]; exact hl)
      refine ⟨by rw [r1, size_swp], r2.trans (swp_perm d hp hl), fun hD => r3 ?_⟩
      have g := get_swp d hp hl
      have hlp : lt d[p]! d[l]! = false := O.asymm _ _ q3
      have hla : (l - 1) / 2 = p := by omega
      constructor
      · intro i i0 is ic
        rw [size_swp] at is
        by_cases il : i = l
        · subst il
          rw [hla, g, g, if_pos rfl, if_neg (by omega), if_pos rfl]
          exact hlp
        · by_cases ip : i = p
          · subst ip
            have e := hD.2 i0 l (by omega) hl hla
            rw [g, g, if_neg (by omega), if_pos rfl, if_neg (by omega), if_neg (by omega)]
            exact e
          · by_cases ia : (i - 1) / 2 = p
            · rw [g, g, if_neg il, if_neg ip, ia, if_neg (by omega), if_pos rfl]
              have : i = 2 * p + 1 ∨ i = 2 * p + 2 := by omega
              rcases this with rfl | rfl
              · exact q1 is
              · exact q2 is
            · rw [g, g, if_neg il, if_neg ip, if_neg ic, if_neg ia]
              exact hD.1 i i0 is ia
      · intro l0 i i0 is il
        rw [size_swp] at is
        rw [hla, g, g, if_neg (by omega), if_neg (by omega), if_neg (by omega), if_pos rfl]
        have e := hD.1 i i0 is (by omega)
        rw [il] at e
        exact e
theorem size_sinkA (O : Ord lt) (d : Array α) (p : Nat) (hp : p < d.size) : (sinkA lt d p).size = d.size := (sink_all O _ d p (Nat.le_refl _) hp).1

/-- What was weak at p is a heap behind a raise and a sink. -/
theorem mend (O : Ord lt) {d : Array α} {p : Nat} (hp : p < d.size) (hW : WeakAt lt d p) : HeapOn lt (sinkA lt (raiseA lt d p) p) := by
  have hs := size_raiseA (lt := lt) d p
  by_cases h0 : 0 < p
  · cases h : lt d[p]! d[(p - 1) / 2]! with
    | true =>
      have hH : HeapOn lt (raiseA lt d p) := by
        rw [raiseA_yes h0 h]
        exact raise_up O _ _ _ (Nat.le_refl _) (by rw [size_swp]; omega) (weak_up O hp h0 hW h)
      refine (sink_all O _ _ p (Nat.le_refl _) (by omega)).2.2 ⟨fun i i0 is _ => hH i i0 is, fun _ i i0 is ic => ?_⟩
      have e1 := hH i i0 is
      have e2 := hH p h0 (by omega)
      rw [ic] at e1
      exact O.trans _ _ _ e2 e1
    | false =>
      rw [raiseA_no h0 h]
      refine (sink_all O _ _ p (Nat.le_refl _) hp).2.2 ⟨fun i i0 is ic => ?_, hW.2⟩
      by_cases ip : i = p
      · subst ip; exact h
      · exact hW.1 i i0 is ip ic
  · obtain rfl : p = 0 := by omega
    rw [raiseA_zero]
    exact (sink_all O _ _ 0 (Nat.le_refl _) hp).2.2 ⟨fun i i0 is ic => hW.1 i i0 is (by omega) ic, fun h => by omega⟩

/-- The one at p cut out: the last one in its place, raised and sunk. -/
def cutA (lt : α → α → Bool) (d : Array α) (p : Nat) : Array α :=
  if p < d.size - 1 then sinkA lt (raiseA lt ((swp d p (d.size - 1)).pop) p) p else (swp d p (d.size - 1)).pop
theorem pop_get (d : Array α) (i : Nat) (h : i < d.size - 1) : (d.pop)[i]! = d[i]! := by
  rw [getElem!_pos _ i (by simpa using h), getElem!_pos d i (by omega)]
  simp
theorem cut_all (O : Ord lt) {d : Array α} {p : Nat} (hp : p < d.size) (hH : HeapOn lt d) : (cutA lt d p).size = d.size - 1 ∧ (d[p]! :: (cutA lt d p).toList).Perm d.toList ∧ HeapOn lt (cutA lt d p) := by
  obtain ⟨n, hn⟩ : ∃ n, n = d.size - 1 := ⟨_, rfl⟩
  have hnd : n < d.size := by omega
  have g := get_swp d hp hnd
  have hperm : (d[p]! :: (swp d p n).pop.toList).Perm d.toList := by
    refine List.Perm.trans ?_ (swp_perm d hp hnd)
    have hl : (swp d p n).toList ≠ [] := by
      intro e
      have h0 : (swp d p n).toList.length = 0 := by rw [e]; rfl
      rw [Array.length_toList, size_swp] at h0
      omega
    have e1 := List.dropLast_concat_getLast hl
    have e2 : (swp d p n).toList.getLast hl = d[p]! := by
      rw [List.getLast_eq_getElem]
      have := g n
      rw [if_pos rfl, getElem!_pos _ n (by rw [size_swp]; omega)] at this
      rw [← this]
      simp [size_swp, ← hn]
    rw [e2] at e1
    rw [Array.toList_pop]
    calc (d[p]! :: (swp d p n).toList.dropLast).Perm ((swp d p n).toList.dropLast ++ [d[p]!]) := (List.perm_append_singleton _ _).symm
      _ = (swp d p n).toList := e1
  have hsz : (swp d p n).pop.size = n := by rw [Array.size_pop, size_swp]; omega
  have gp : ∀ i, i < n → (swp d p n).pop[i]! = if i = p then d[n]! else d[i]! := fun i hi => by
    rw [pop_get _ _ (by rw [size_swp]; omega), g, if_neg (by omega)]
  unfold cutA
  rw [← hn]
  by_cases hlt : p < n
  · rw [if_pos hlt]
    have hW : WeakAt lt (swp d p n).pop p := by
      constructor
      · intro i i0 is ip ic
        rw [hsz] at is
        rw [gp _ is, gp _ (by omega), if_neg ip, if_neg ic]
        exact hH i i0 (by omega)
      · intro p0 i i0 is ic
        rw [hsz] at is
        rw [gp _ is, gp _ (by omega), if_neg (by omega), if_neg (by omega)]
        have e1 := hH i i0 (by omega)
        have e2 := hH p p0 hp
        rw [ic] at e1
        exact O.trans _ _ _ e2 e1
    have hr := size_raiseA (lt := lt) (swp d p n).pop p
    obtain ⟨s1, s2, _⟩ := sink_all O _ (raiseA lt (swp d p n).pop p) p (Nat.le_refl _) (by omega)
    refine ⟨by omega, ?_, mend O (by omega) hW⟩
    exact (List.Perm.cons _ (s2.trans (raiseA_perm _ _ (by omega)))).trans hperm
  · rw [if_neg hlt]
    obtain rfl : p = n := by omega
    refine ⟨hsz, hperm, fun i i0 is => ?_⟩
    rw [hsz] at is
    rw [gp _ is, gp _ (by omega), if_neg (by omega), if_neg (by omega)]
    exact hH i i0 (by omega)

/-- One put in: at the end, raised. -/
theorem add_all (O : Ord lt) {d : Array α} (hH : HeapOn lt d) (x : α) : (raiseA lt (d.push x) d.size).size = d.size + 1 ∧ (raiseA lt (d.push x) d.size).toList.Perm (d.toList ++ [x]) ∧ HeapOn lt (raiseA lt (d.push x) d.size) := by
  refine ⟨by rw [size_raiseA]; simp, ?_, raise_up O _ _ _ (Nat.le_refl _) (by simp) ?_⟩
  · have := raiseA_perm (lt := lt) (d.push x) d.size (by simp)
    simpa using this
  · have g : ∀ i, i < d.size → (d.push x)[i]! = d[i]! := fun i hi => by
      rw [getElem!_pos _ i (by simp; omega), getElem!_pos d i hi, Array.getElem_push_lt hi]
    constructor
    · intro i i0 is ip
      simp at is
      rw [g i (by omega), g _ (by omega)]
      exact hH i i0 (by omega)
    · intro p0 i i0 is ic
      simp at is
      omega

/-- None is ahead of the root. -/
theorem root_min (O : Ord lt) {d : Array α} (hH : HeapOn lt d) : ∀ (n i : Nat), i ≤ n → i < d.size → lt d[i]! d[0]! = false := by
  have irr : ∀ x, lt x x = false := fun x => by
    cases h : lt x x with
    | false => rfl
    | true => have := O.asymm x x h; rw [h] at this; cases this
  intro n
  induction n with
  | zero => intro i hi hs; obtain rfl : i = 0 := by omega
            exact irr _
  | succ n ih =>
    intro i hi hs
    by_cases i0 : 0 < i
    · exact O.trans _ _ _ (ih ((i - 1) / 2) (by omega) (by omega)) (hH i i0 hs)
    · obtain rfl : i = 0 := by omega
      exact irr _

end Go.Proofs.Ytbalbachmeiehaa
