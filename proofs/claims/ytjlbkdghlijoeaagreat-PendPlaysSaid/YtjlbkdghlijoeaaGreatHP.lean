/-
  Plain lists: the stable merge of two lists, and the stable order of a list. No model in this text.
  Plain arrays: a binary heap. What raising, sinking and cutting make of it. No model in this text.
-/
import Derived.Sort.LotA
namespace Go.Proofs.YtjlbkdghlijoeaaGreat
open Go.Sort
variable {α : Type}

/-- The stable merge: of two that are the same the first list's is ahead. -/
def mg (lt : α → α → Bool) : List α → List α → List α
  | [], ys => ys
  | x :: xs, [] => x :: xs
  | x :: xs, y :: ys => if lt y x then y :: mg lt (x :: xs) ys else x :: mg lt xs (y :: ys)
termination_by xs ys => xs.length + ys.length

/-- 'Not behind' is an order in which any two can be compared. -/
structure Ord (lt : α → α → Bool) : Prop where
  asymm : ∀ x y, lt x y = true → lt y x = false
  trans : ∀ x y z, lt y x = false → lt z y = false → lt z x = false

variable {lt : α → α → Bool}
theorem mg_nil_left (ys : List α) : mg lt [] ys = ys := by rw [mg]
theorem mg_nil_right (xs : List α) : mg lt xs [] = xs := by cases xs <;> rw [mg]
theorem mg_yes {x y : α} {xs ys : List α} (h : lt y x = true) : mg lt (x :: xs) (y :: ys) = y :: mg lt (x :: xs) ys := by rw [mg, if_pos h]
theorem mg_no {x y : α} {xs ys : List α} (h : lt y x = false) : mg lt (x :: xs) (y :: ys) = x :: mg lt xs (y :: ys) := by rw [mg, if_neg (by simp [h])]

theorem mg_perm : ∀ xs ys : List α, (mg lt xs ys).Perm (xs ++ ys)
  | [], ys => by rw [mg_nil_left]; exact List.Perm.refl _
  | x :: xs, [] => by rw [mg_nil_right, List.append_nil]
  | x :: xs, y :: ys => by
    cases h : lt y x with
    | true =>
      rw [mg_yes h]
      exact ((mg_perm (x :: xs) ys).cons y).trans (List.perm_middle.symm)
    | false =>
      rw [mg_no h]
      exact (mg_perm xs (y :: ys)).cons x
termination_by xs ys => xs.length + ys.length
theorem mg_length (xs ys : List α) : (mg lt xs ys).length = xs.length + ys.length := by rw [(mg_perm xs ys).length_eq, List.length_append]

theorem mg_split : ∀ (A1 A2 B1 B2 : List α), (∀ a ∈ A1, ∀ b ∈ B2, lt b a = false) → (∀ b ∈ B1, ∀ a ∈ A2, lt b a = true) → mg lt (A1 ++ A2) (B1 ++ B2) = mg lt A1 B1 ++ mg lt A2 B2
  | [], A2, [], B2, _, _ => by simp [mg_nil_left]
  | a :: A1, A2, [], B2, h1, h2 => by
    cases B2 with
    | nil => simp [mg_nil_right]
    | cons b B2 =>
      have := mg_split A1 A2 [] (b :: B2) (fun x hx => h1 x (List.mem_cons_of_mem _ hx)) h2
      simp only [List.nil_append, List.cons_append, mg_nil_right] at this ⊢
      rw [mg_no (h1 a (List.mem_cons_self ..) b (List.mem_cons_self ..)), this]
  | [], A2, b :: B1, B2, h1, h2 => by
    cases A2 with
    | nil => simp [mg_nil_left]
    | cons a A2 =>
      have := mg_split [] (a :: A2) B1 B2 h1 (fun x hx => h2 x (List.mem_cons_of_mem _ hx))
      simp only [List.nil_append, List.cons_append, mg_nil_left] at this ⊢
      rw [mg_yes (h2 b (List.mem_cons_self ..) a (List.mem_cons_self ..)), this]
  | a :: A1, A2, b :: B1, B2, h1, h2 => by
    simp only [List.cons_append]
    cases h : lt b a with
    | true =>
      rw [mg_yes h, mg_yes h]
      have := mg_split (a :: A1) A2 B1 B2 h1 (fun x hx => h2 x (List.mem_cons_of_mem _ hx))
      rw [List.cons_append] at this
      rw [this, List.cons_append]
    | false =>
      rw [mg_no h, mg_no h]
      have := mg_split A1 A2 (b :: B1) B2 (fun x hx => h1 x (List.mem_cons_of_mem _ hx)) h2
      rw [List.cons_append] at this
      rw [this, List.cons_append]
termination_by A1 _ B1 _ => A1.length + B1.length

theorem mg_assoc (O : Ord lt) : ∀ A B C : List α, mg lt (mg lt A B) C = mg lt A (mg lt B C)
  | [], B, C => by simp [mg_nil_left]
  | a :: A, [], C => by simp [mg_nil_left, mg_nil_right]
  | a :: A, b :: B, [] => by simp [mg_nil_right]
  | a :: A, b :: B, c :: C => by
    cases hab : lt b a with
    | false =>
      cases hac : lt c a with
      | false =>
        rw [mg_no hab, mg_no hac, mg_assoc O A (b :: B) (c :: C)]
        cases hbc : lt c b with
        | false => rw [mg_no hbc, mg_no hab]
        | true => rw [mg_yes hbc, mg_no hac]
      | true =>
        have hbc : lt c b = true := by
          cases hbc : lt c b with
          | true => rfl
          | false => rw [O.trans a b c hab hbc] at hac; cases hac
        have ih := mg_assoc O (a :: A) (b :: B) C
        rw [mg_no hab] at ih ⊢
        rw [mg_yes hac, mg_yes hbc, mg_yes hac, ih]
    | true =>
      cases hbc : lt c b with
      | false =>
        have ih := mg_assoc O (a :: A) B (c :: C)
        rw [mg_yes hab, mg_no hbc, mg_no hbc, mg_yes hab, ih]
      | true =>
        have hac : lt c a = true := by
          cases hac : lt c a with
          | true => rfl
          | false =>
            have := O.trans a c b hac (O.asymm c b hbc)
            rw [this] at hab
            cases hab
        have ih := mg_assoc O (a :: A) (b :: B) C
        rw [mg_yes hab] at ih ⊢
        rw [mg_yes hbc, mg_yes hbc, mg_yes hac, ih]
termination_by A B C => A.length + B.length + C.length

/-- The stable order of a list: one after the other, each behind those that are the same. -/
def stab (lt : α → α → Bool) (l : List α) : List α := l.foldl (fun acc x => mg lt acc [x]) []
theorem stab_from (O : Ord lt) (A : List α) : ∀ (l acc : List α), l.foldl (fun acc x => mg lt acc [x]) (mg lt A acc) = mg lt A (l.foldl (fun acc x => mg lt acc [x]) acc)
  | [], acc => rfl
  | x :: l, acc => by
    simp only [List.foldl_cons]
    rw [mg_assoc O, stab_from O A l]
theorem stab_append (O : Ord lt) (l l' : List α) : stab lt (l ++ l') = mg lt (stab lt l) (stab lt l') := by
  unfold stab
  rw [List.foldl_append]
  have := stab_from O (l.foldl (fun acc x => mg lt acc [x]) []) l' []
  rwa [mg_nil_right] at this
theorem stab_snoc (l : List α) (x : α) : stab lt (l ++ [x]) = mg lt (stab lt l) [x] := by
  unfold stab
  rw [List.foldl_append]
  rfl
theorem stab_nil : stab lt ([] : List α) = [] := rfl
theorem stab_one (x : α) : stab lt [x] = [x] := by unfold stab; simp [mg_nil_left]
theorem stab_perm : ∀ l : List α, (stab lt l).Perm l := by
  intro l
  suffices h : ∀ (l acc : List α), (l.foldl (fun acc x => mg lt acc [x]) acc).Perm (acc ++ l) by
    have := h l []
    rwa [List.nil_append] at this
  intro l
  induction l with
  | nil => intro acc; simp
  | cons x l ih =>
    intro acc
    simp only [List.foldl_cons]
    refine (ih _).trans ?_
    have := (mg_perm (lt := lt) acc [x]).append_right l
    simpa using this
theorem stab_length (l : List α) : (stab lt l).length = l.length := (stab_perm l).length_eq

/-- In order: none is behind one that stands behind it. -/
def InOrder (lt : α → α → Bool) (l : List α) : Prop := l.Pairwise fun x y => lt y x = false

theorem mg_inOrder (O : Ord lt) : ∀ xs ys : List α, InOrder lt xs → InOrder lt ys → InOrder lt (mg lt xs ys)
  | [], ys, _, h => by rw [mg_nil_left]; exact h
  | x :: xs, [], h, _ => by rw [mg_nil_right]; exact h
  | x :: xs, y :: ys, h, h' => by
    have hx := List.pairwise_cons.1 h
    have hy := List.pairwise_cons.1 h'
    cases hc : lt y x with
    | true =>
      rw [mg_yes hc]
      refine List.pairwise_cons.2 ⟨fun z hz => ?_, mg_inOrder O (x :: xs) ys h hy.2⟩
      have := (mg_perm (x :: xs) ys).mem_iff.1 hz
      rw [List.mem_append, List.mem_cons] at this
      rcases this with (rfl | hz) | hz
      · exact O.asymm _ _ hc
      · exact O.trans _ _ _ (O.asymm _ _ hc) (hx.1 z hz)
      · exact hy.1 z hz
    | false =>
      rw [mg_no hc]
      refine List.pairwise_cons.2 ⟨fun z hz => ?_, mg_inOrder O xs (y :: ys) hx.2 h'⟩
      have := (mg_perm xs (y :: ys)).mem_iff.1 hz
      rw [List.mem_append, List.mem_cons] at this
      rcases this with hz | rfl | hz
      · exact hx.1 z hz
      · exact hc
      · exact O.trans _ _ _ hc (hy.1 z hz)
termination_by xs ys => xs.length + ys.length
theorem one_inOrder (x : α) : InOrder lt [x] := List.pairwise_singleton _ _
theorem stab_inOrder (O : Ord lt) (l : List α) : InOrder lt (stab lt l) := by
  suffices h : ∀ (l acc : List α), InOrder lt acc → InOrder lt (l.foldl (fun acc x => mg lt acc [x]) acc) from h l [] List.Pairwise.nil
  intro l
  induction l with
  | nil => intro acc h; exact h
  | cons x l ih =>
    intro acc h
    simp only [List.foldl_cons]
    exact ih _ (mg_inOrder O _ _ h (one_inOrder x))
/-- One that is behind none of a list goes to its end. -/
theorem mg_end (A : List α) (x : α) (h : ∀ a ∈ A, lt x a = false) : mg lt A [x] = A ++ [x] := by
  have := mg_split (lt := lt) A [] [] [x] (fun a ha b hb => by rw [List.mem_singleton.1 hb]; exact h a ha) (fun b hb => by simp at hb)
  simpa [mg_nil_right, mg_nil_left] using this
theorem stab_of_inOrder (l : List α) (h : InOrder lt l) : stab lt l = l := by
  suffices hs : ∀ (l acc : List α), InOrder lt (acc ++ l) → l.foldl (fun acc x => mg lt acc [x]) acc = acc ++ l by
    have := hs l [] (by simpa using h)
    simpa [stab] using this
  intro l
  induction l with
  | nil => intro acc _; simp
  | cons x l ih =>
    intro acc h
    simp only [List.foldl_cons]
    have hp := List.pairwise_append.1 h
    rw [mg_end acc x (fun a ha => hp.2.2 a ha x (List.mem_cons_self ..)), ih _ (by simpa using h)]
    simp

/-! ### The exchange of two, over lists -/
variable [Inhabited α]
theorem get_at (P R : List α) (x : α) (i : Nat) (hi : i = P.length) : (P ++ x :: R).toArray[i]! = x := by
  subst hi
  simp
theorem swp_lists (P Q R : List α) (x y : α) (i j : Nat) (hi : i = P.length) (hj : j = P.length + 1 + Q.length) : swp (P ++ x :: (Q ++ y :: R)).toArray i j = (P ++ y :: (Q ++ x :: R)).toArray := by
  have gi : (P ++ x :: (Q ++ y :: R)).toArray[i]! = x := get_at P _ x i hi
  have gj : (P ++ x :: (Q ++ y :: R)).toArray[j]! = y := by
    have := get_at (P ++ x :: Q) R y j (by simp; omega)
    simpa using this
  unfold swp
  rw [gi, gj]
  subst hi hj
  rw [List.setIfInBounds_toArray, List.setIfInBounds_toArray]
  congr 1
  rw [List.set_append_right _ _ (Nat.le_refl _), List.set_append_right _ _ (by omega)]
  simp only [Nat.sub_self, List.set_cons_zero]
  rw [show P.length + 1 + Q.length - P.length = Q.length + 1 by omega, List.set_cons_succ, List.set_append_right _ _ (Nat.le_refl _)]
  simp

/-! ### The insertion sort, over lists -/
theorem insInner_lists (O : Ord lt) (P : List α) (x : α) : ∀ (n : Nat) (A R : List α), A.length = n → InOrder lt A → insInner lt P.length (P.length + n) (P ++ A ++ x :: R).toArray = (P ++ mg lt A [x] ++ R).toArray
  | 0, A, R, hA, _ => by
    obtain rfl := List.eq_nil_of_length_eq_zero hA
    rw [mg_nil_left, Nat.add_zero]
    have : insInner lt P.length P.length (P ++ [] ++ x :: R).toArray = (P ++ [] ++ x :: R).toArray := by
      cases h : P.length with
      | zero => rw [insInner]
      | succ k => rw [insInner, if_neg (by simp)]
    rw [this]
    simp
  | n + 1, A, R, hA, hO => by
    obtain ⟨A', y, rfl⟩ : ∃ A' y, A = A' ++ [y] := ⟨A.dropLast, A.getLast (by intro h; simp [h] at hA), (List.dropLast_concat_getLast _).symm⟩
    have hA' : A'.length = n := by simpa using hA
    have g1 : (P ++ (A' ++ [y]) ++ x :: R).toArray[P.length + n + 1]! = x := get_at (P ++ (A' ++ [y])) R x _ (by simp; omega)
    have g2 : (P ++ (A' ++ [y]) ++ x :: R).toArray[P.length + n]! = y := by
      have := get_at (P ++ A') (x :: R) y (P.length + n) (by simp; omega)
      simpa using this
    rw [show P.length + (n + 1) = P.length + n + 1 from rfl, insInner, g1, g2]
    have hp := List.pairwise_append.1 hO
    cases hc : lt x y with
    | true =>
      rw [if_pos (by simp; omega)]
      have hs := swp_lists (P ++ A') [] R y x (P.length + n) (P.length + n + 1) (by simp; omega) (by simp; omega)
      have hs' : swp (P ++ (A' ++ [y]) ++ x :: R).toArray (P.length + n + 1) (P.length + n) = (P ++ A' ++ x :: (y :: R)).toArray := by
        have hcomm : ∀ d : Array α, ∀ i j, i < d.size → j < d.size → swp d i j = swp d j i := by
          intro d i j hi hj
          refine Array.ext (by simp [swp_size]) fun t h1 h2 => ?_
          have e1 := swp_get d hi hj t
          have e2 := swp_get d hj hi t
          rw [getElem!_pos _ t h1] at e1
          rw [getElem!_pos _ t h2] at e2
          rw [e1, e2]
          by_cases a : t = i <;> by_cases b : t = j <;> simp_all
        rw [hcomm _ _ _ (by simp; omega) (by simp; omega)]
        simpa using hs
      rw [hs', insInner_lists O P x n A' (y :: R) hA' hp.1]
      have := mg_split (lt := lt) A' [y] [x] [] (fun _ _ b hb => by simp at hb) (fun b hb a ha => by rw [List.mem_singleton.1 hb, List.mem_singleton.1 ha]; exact hc)
      rw [List.append_nil, mg_nil_right] at this
      rw [this]
      simp
    | false =>
      rw [if_neg (by simp)]
      rw [mg_end _ x (fun a ha => by
        rcases List.mem_append.1 ha with ha | ha
        · exact O.trans a y x (hp.2.2 a ha y (List.mem_singleton.2 rfl)) hc
        · rw [List.mem_singleton.1 ha]; exact hc)]
      simp
theorem insOuter_lists (O : Ord lt) (P S A : List α) : ∀ (k n : Nat), k + n = A.length → 0 < n ∨ A = [] → insOuter lt P.length (P.length + A.length) (P.length + n) (P ++ stab lt (A.take n) ++ A.drop n ++ S).toArray = (P ++ stab lt A ++ S).toArray
  | 0, n, h, _ => by
    rw [insOuter, if_neg (by omega), List.take_of_length_le (by omega), List.drop_of_length_le (by omega)]
    simp
  | k + 1, n, h, h0 => by
    have hn : n < A.length := by omega
    rw [insOuter, if_pos (by omega)]
    have hd : A.drop n = A[n] :: A.drop (n + 1) := List.drop_eq_getElem_cons hn
    have := insInner_lists O P A[n] n (stab lt (A.take n)) (A.drop (n + 1) ++ S) (by rw [stab_length, List.length_take]; omega) (stab_inOrder O _)
    rw [hd]
    have e : P ++ stab lt (A.take n) ++ A[n] :: A.drop (n + 1) ++ S = P ++ stab lt (A.take n) ++ A[n] :: (A.drop (n + 1) ++ S) := by simp only [List.append_assoc, List.cons_append]
    rw [e, this, ← stab_snoc, ← List.take_succ_eq_append_getElem hn]
    have ih := insOuter_lists O P S A k (n + 1) (by omega) (.inl (by omega))
    rw [← List.append_assoc]
    exact ih
theorem insertionSort_lists (O : Ord lt) (P A S : List α) (a b : Nat) (ha : a = P.length) (hb : b = P.length + A.length) : insertionSort lt (P ++ A ++ S).toArray a b = (P ++ stab lt A ++ S).toArray := by
  subst ha hb
  unfold insertionSort
  cases A with
  | nil =>
    rw [insOuter, if_neg (by simp)]
    simp [stab_nil]
  | cons x A =>
    have := insOuter_lists O P S (x :: A) A.length 1 (by simp) (.inl (by omega))
    simpa [stab_one] using this

/-! ### Blocks -/
/-- Each block of bs in its stable order. -/
def blocks (lt : α → α → Bool) (bs : Nat) (l : List α) : List α :=
  if _h : l.length ≤ bs ∨ bs = 0 then stab lt l else stab lt (l.take bs) ++ blocks lt bs (l.drop bs)
termination_by l.length
decreasing_by simp; omega
omit [Inhabited α] in
theorem blocks_short {bs : Nat} {l : List α} (h : l.length ≤ bs) : blocks lt bs l = stab lt l := by rw [blocks, dif_pos (.inl h)]
omit [Inhabited α] in
theorem blocks_cons {bs : Nat} {X R : List α} (h : X.length = bs) (h0 : 0 < bs) : blocks lt bs (X ++ R) = stab lt X ++ blocks lt bs R := by
  by_cases hR : R = []
  · subst hR
    rw [List.append_nil, blocks_short (by omega), blocks_short (by simp), stab_nil, List.append_nil]
  · have : 0 < R.length := List.length_pos_iff.2 hR
    rw [blocks, dif_neg (by simp; omega)]
    subst h
    simp
omit [Inhabited α] in
theorem blocks_append {bs : Nat} (h0 : 0 < bs) : ∀ (q : Nat) (X R : List α), X.length = q * bs → blocks lt bs (X ++ R) = blocks lt bs X ++ blocks lt bs R
  | 0, X, R, h => by
    obtain rfl := List.eq_nil_of_length_eq_zero (by simpa using h)
    rw [blocks_short (l := []) (by simp), stab_nil]
    rfl
  | q + 1, X, R, h => by
    have hl : bs ≤ X.length := by rw [h, Nat.add_mul]; omega
    have e1 : blocks lt bs X = stab lt (X.take bs) ++ blocks lt bs (X.drop bs) := by
      have := blocks_cons (lt := lt) (X := X.take bs) (R := X.drop bs) (bs := bs) (by rw [List.length_take]; omega) h0
      rwa [List.take_append_drop] at this
    have e2 : blocks lt bs (X ++ R) = stab lt (X.take bs) ++ blocks lt bs (X.drop bs ++ R) := by
      have := blocks_cons (lt := lt) (X := X.take bs) (R := X.drop bs ++ R) (bs := bs) (by rw [List.length_take]; omega) h0
      rwa [← List.append_assoc, List.take_append_drop] at this
    rw [e1, e2, blocks_append h0 q (X.drop bs) R (by rw [List.length_drop, h, Nat.add_mul]; omega), List.append_assoc]
omit [Inhabited α] in
theorem blocks_length (bs : Nat) (l : List α) : (blocks lt bs l).length = l.length := by
  rw [blocks]
  split
  · exact stab_length l
  · rw [List.length_append, stab_length, blocks_length bs (l.drop bs)]
    simp; omega
termination_by l.length
decreasing_by simp; omega

end Go.Proofs.YtjlbkdghlijoeaaGreat
namespace Go.Proofs.YtjlbkdghlijoeaaGreat
open Go.Sort
variable {α : Type} [Inhabited α] {lt : α → α → Bool}

theorem swp_self (d : Array α) (i : Nat) (hi : i < d.size) : swp d i i = d := by
  refine Array.ext (by simp [swp]) fun t h1 h2 => ?_
  have e1 := swp_get d hi hi t
  rw [getElem!_pos _ t h1, getElem!_pos _ t h2] at e1
  rw [e1]
  by_cases a : t = i
  · subst a
    rw [if_pos rfl, getElem!_pos d t h2]
  · rw [if_neg a, if_neg a]
theorem get_swp (d : Array α) {i j : Nat} (hi : i < d.size) (hj : j < d.size) (k : Nat) : (swp d i j)[k]! = if k = j then d[i]! else if k = i then d[j]! else d[k]! := by
  exact swp_get d hi hj k
theorem swp_perm (d : Array α) {i j : Nat} (hi : i < d.size) (hj : j < d.size) : (swp d i j).toList.Perm d.toList := by
  have h := (swp_permIn d 0 d.size i j (Nat.zero_le _) hi (Nat.zero_le _) hj (Nat.le_refl _)).2.2
  have e1 : (swp d i j).extract 0 d.size = swp d i j := by
    have : d.size = (swp d i j).size := (size_swp d i j).symm
    rw [this, Array.extract_size]
  rw [e1, Array.extract_size] at h
  exact h

/-- None is ahead of the one above it. -/
def HeapOn (lt : α → α → Bool) (d : Array α) : Prop := ∀ i, 0 < i → i < d.size → lt d[i]! d[(i - 1) / 2]! = false
/-- .. but perhaps the one at p; and those below p are not ahead of the one above p. -/
def UpAt (lt : α → α → Bool) (d : Array α) (p : Nat) : Prop :=
  (∀ i, 0 < i → i < d.size → i ≠ p → lt d[i]! d[(i - 1) / 2]! = false) ∧ (0 < p → ∀ i, 0 < i → i < d.size → (i - 1) / 2 = p → lt d[i]! d[(p - 1) / 2]! = false)
/-- .. but perhaps those below p. -/
def DownAt (lt : α → α → Bool) (d : Array α) (p : Nat) : Prop :=
  (∀ i, 0 < i → i < d.size → (i - 1) / 2 ≠ p → lt d[i]! d[(i - 1) / 2]! = false) ∧ (0 < p → ∀ i, 0 < i → i < d.size → (i - 1) / 2 = p → lt d[i]! d[(p - 1) / 2]! = false)
/-- .. but perhaps the one at p and those below p. -/
def WeakAt (lt : α → α → Bool) (d : Array α) (p : Nat) : Prop :=
  (∀ i, 0 < i → i < d.size → i ≠ p → (i - 1) / 2 ≠ p → lt d[i]! d[(i - 1) / 2]! = false) ∧ (0 < p → ∀ i, 0 < i → i < d.size → (i - 1) / 2 = p → lt d[i]! d[(p - 1) / 2]! = false)

/-- The one at p goes up. -/
def raiseA (lt : α → α → Bool) (d : Array α) (p : Nat) : Array α :=
  if _h : 0 < p then if lt d[p]! d[(p - 1) / 2]! then raiseA lt (swp d p ((p - 1) / 2)) ((p - 1) / 2) else d else d
termination_by p
decreasing_by omega
theorem raiseA_zero (d : Array α) : raiseA lt d 0 = d := by rw [raiseA]; simp
theorem raiseA_yes {d : Array α} {p : Nat} (h0 : 0 < p) (h : lt d[p]! d[(p - 1) / 2]! = true) : raiseA lt d p = raiseA lt (swp d p ((p - 1) / 2)) ((p - 1) / 2) := by rw [raiseA, dif_pos h0, if_pos h]
theorem raiseA_no {d : Array α} {p : Nat} (h0 : 0 < p) (h : lt d[p]! d[(p - 1) / 2]! = false) : raiseA lt d p = d := by rw [raiseA, dif_pos h0, if_neg (by simp [h])]
theorem raiseA_size : ∀ (n : Nat) (d : Array α) (p : Nat), p ≤ n → (raiseA lt d p).size = d.size := by
  intro n
  induction n with
  | zero => intro d p hp; obtain rfl : p = 0 := by omega
            rw [raiseA_zero]
  | succ n ih =>
    intro d p hp
    by_cases h0 : 0 < p
    · cases h : lt d[p]! d[(p - 1) / 2]! with
      | true => rw [raiseA_yes h0 h, ih _ _ (by omega), size_swp]
      | false => rw [raiseA_no h0 h]
    · obtain rfl : p = 0 := by omega
      rw [raiseA_zero]
theorem size_raiseA (d : Array α) (p : Nat) : (raiseA lt d p).size = d.size := raiseA_size p d p (Nat.le_refl _)
theorem raiseA_permN : ∀ (n : Nat) (d : Array α) (p : Nat), p ≤ n → p < d.size → (raiseA lt d p).toList.Perm d.toList := by
  intro n
  induction n with
  | zero => intro d p hp _; obtain rfl : p = 0 := by omega
            rw [raiseA_zero]
  | succ n ih =>
    intro d p hp hs
    by_cases h0 : 0 < p
    · cases h : lt d[p]! d[(p - 1) / 2]! with
      | true =>
        rw [raiseA_yes h0 h]
        exact (ih _ _ (by omega) (by rw [size_swp]; omega)).trans (swp_perm d hs (by omega))
      | false => rw [raiseA_no h0 h]
    · obtain rfl : p = 0 := by omega
      rw [raiseA_zero]
theorem raiseA_perm (d : Array α) (p : Nat) (hp : p < d.size) : (raiseA lt d p).toList.Perm d.toList := raiseA_permN p d p (Nat.le_refl _) hp

/-- One step up: what was weak at p is now so at the one above it, and only upward. -/
theorem weak_up (O : Ord lt) {d : Array α} {p : Nat} (hp : p < d.size) (h0 : 0 < p) (hW : WeakAt lt d p) (h : lt d[p]! d[(p - 1) / 2]! = true) : UpAt lt (swp d p ((p - 1) / 2)) ((p - 1) / 2) := by
  obtain ⟨a, ha⟩ : ∃ a, a = (p - 1) / 2 := ⟨_, rfl⟩
  rw [← ha] at h ⊢
  have hap : a < p := by omega
  have has : a < d.size := by omega
  have g := get_swp d hp has
  have hpa : lt d[a]! d[p]! = false := O.asymm _ _ h
  constructor
  · intro i i0 is ina
    rw [size_swp] at is
    by_cases ip : i = p
    · subst ip
      rw [g, g, if_neg (by omega), if_pos rfl, ← ha, if_pos rfl]
      exact hpa
    · by_cases ic : (i - 1) / 2 = p
      · -- a child of p: it is not ahead of the one that was above p
        have := hW.2 h0 i i0 is ic
        rw [g, g, if_neg ina, if_neg ip, ic, if_neg (by omega), if_pos rfl, ha]
        exact this
      · have e := hW.1 i i0 is ip ic
        by_cases ia : (i - 1) / 2 = a
        · rw [g, g, if_neg ina, if_neg ip, ia, if_pos rfl]
          rw [ia] at e
          exact O.trans _ _ _ hpa e
        · rw [g, g, if_neg ina, if_neg ip, if_neg ia, if_neg ic]
          exact e
  · intro a0 i i0 is ia
    rw [size_swp] at is
    have ea : lt d[a]! d[(a - 1) / 2]! = false := hW.1 a a0 has (by omega) (by omega)
    have gb : (swp d p a)[(a - 1) / 2]! = d[(a - 1) / 2]! := by rw [g, if_neg (by omega), if_neg (by omega)]
    rw [gb]
    by_cases ip : i = p
    · subst ip
      rw [g, if_neg (by omega), if_pos rfl]
      exact ea
    · have e := hW.1 i i0 is ip (by omega)
      rw [ia] at e
      rw [g, if_neg (by omega), if_neg ip]
      exact O.trans _ _ _ ea e
theorem up_weak {d : Array α} {p : Nat} (h : UpAt lt d p) : WeakAt lt d p := ⟨fun i i0 is ip _ => h.1 i i0 is ip, h.2⟩
theorem raise_up (O : Ord lt) : ∀ (n : Nat) (d : Array α) (p : Nat), p ≤ n → p < d.size → UpAt lt d p → HeapOn lt (raiseA lt d p) := by
  intro n
  induction n with
  | zero =>
    intro d p hp _ hU
    obtain rfl : p = 0 := by omega
    rw [raiseA_zero]
    exact fun i i0 is => hU.1 i i0 is (by omega)
  | succ n ih =>
    intro d p hp hs hU
    by_cases h0 : 0 < p
    · cases h : lt d[p]! d[(p - 1) / 2]! with
      | true =>
        rw [raiseA_yes h0 h]
        exact ih _ _ (by omega) (by rw [size_swp]; omega) (weak_up O hs h0 (up_weak hU) h)
      | false =>
        rw [raiseA_no h0 h]
        intro i i0 is
        by_cases ip : i = p
        · subst ip; exact h
        · exact hU.1 i i0 is ip
    · obtain rfl : p = 0 := by omega
      rw [raiseA_zero]
      exact fun i i0 is => hU.1 i i0 is (by omega)

/-- The place of the first of three. -/
def leastA (lt : α → α → Bool) (d : Array α) (p : Nat) : Nat :=
  let l := if 2 * p + 1 < d.size ∧ lt d[2 * p + 1]! d[p]! = true then 2 * p + 1 else p
  if 2 * p + 2 < d.size ∧ lt d[2 * p + 2]! d[l]! = true then 2 * p + 2 else l
/-- .. of the first two. -/
def leastB (lt : α → α → Bool) (d : Array α) (p : Nat) : Nat := if 2 * p + 1 < d.size ∧ lt d[2 * p + 1]! d[p]! = true then 2 * p + 1 else p
theorem leastA_eq (d : Array α) (p : Nat) : leastA lt d p = if 2 * p + 2 < d.size ∧ lt d[2 * p + 2]! d[leastB lt d p]! = true then 2 * p + 2 else leastB lt d p := rfl
theorem leastB_lt (d : Array α) (p : Nat) (hp : p < d.size) : leastB lt d p < d.size := by
  unfold leastB
  split
  · rename_i h; exact h.1
  · exact hp
theorem leastA_lt (d : Array α) (p : Nat) (hp : p < d.size) : leastA lt d p < d.size := by
  rw [leastA_eq]
  split
  · rename_i h; exact h.1
  · exact leastB_lt d p hp
theorem leastA_cases (d : Array α) (p : Nat) : leastA lt d p = p ∨ leastA lt d p = 2 * p + 1 ∨ leastA lt d p = 2 * p + 2 := by
  rw [leastA_eq]
  unfold leastB
  repeat' split
  all_goals simp
/-- The least one is not behind any of the three; one that is not p is ahead of p. -/
theorem leastA_ok (O : Ord lt) (d : Array α) (p : Nat) : (2 * p + 1 < d.size → lt d[2 * p + 1]! d[leastA lt d p]! = false) ∧ (2 * p + 2 < d.size → lt d[2 * p + 2]! d[leastA lt d p]! = false) ∧
    (leastA lt d p ≠ p → lt d[leastA lt d p]! d[p]! = true) := by
  have irr : ∀ x, lt x x = false := fun x => by
    cases h : lt x x with
    | false => rfl
    | true => have := O.asymm x x h; rw [h] at this; cases this
  have tr : ∀ x y z, lt x y = true → lt y z = true → lt x z = true := fun x y z h1 h2 => by
    cases h : lt x z with
    | true => rfl
    | false =>
      have := O.trans y z x (O.asymm _ _ h2) h
      rw [h1] at this; cases this
  rw [leastA_eq]
  by_cases h1 : 2 * p + 1 < d.size ∧ lt d[2 * p + 1]! d[p]! = true
  · have eB : leastB lt d p = 2 * p + 1 := if_pos h1
    rw [eB]
    by_cases h2 : 2 * p + 2 < d.size ∧ lt d[2 * p + 2]! d[2 * p + 1]! = true
    · rw [if_pos h2]
      exact ⟨fun _ => O.asymm _ _ h2.2, fun _ => irr _, fun _ => tr _ _ _ h2.2 h1.2⟩
    · rw [if_neg h2]
      exact ⟨fun _ => irr _, fun hs => by cases h : lt d[2 * p + 2]! d[2 * p + 1]! with | false => rfl | true => exact absurd ⟨hs, h⟩ h2, fun _ => h1.2⟩
  · have eB : leastB lt d p = p := if_neg h1
    rw [eB]
    have n1 : 2 * p + 1 < d.size → lt d[2 * p + 1]! d[p]! = false := fun hs => by
      cases h : lt d[2 * p + 1]! d[p]! with | false => rfl | true => exact absurd ⟨hs, h⟩ h1
    by_cases h2 : 2 * p + 2 < d.size ∧ lt d[2 * p + 2]! d[p]! = true
    · rw [if_pos h2]
      exact ⟨fun hs => O.trans _ _ _ (O.asymm _ _ h2.2) (n1 hs), fun _ => irr _, fun _ => h2.2⟩
    · rw [if_neg h2]
      exact ⟨n1, fun hs => by cases h : lt d[2 * p + 2]! d[p]! with | false => rfl | true => exact absurd ⟨hs, h⟩ h2, fun h => absurd rfl h⟩

/-- The one at p goes down. -/
def sinkA (lt : α → α → Bool) (d : Array α) (p : Nat) : Array α :=
  if _h : leastA lt d p = p ∨ d.size ≤ leastA lt d p then d else sinkA lt (swp d p (leastA lt d p)) (leastA lt d p)
termination_by d.size - p
decreasing_by
  have := leastA_cases (lt := lt) d p
  rw [size_swp]
  omega
theorem sinkA_stop {d : Array α} {p : Nat} (h : leastA lt d p = p) : sinkA lt d p = d := by rw [sinkA, dif_pos (.inl h)]
theorem sinkA_go {d : Array α} {p : Nat} (hp : p < d.size) (h : leastA lt d p ≠ p) : sinkA lt d p = sinkA lt (swp d p (leastA lt d p)) (leastA lt d p) := by
  have := leastA_lt (lt := lt) d p hp
  rw [sinkA, dif_neg (by omega)]
theorem sink_all (O : Ord lt) : ∀ (n : Nat) (d : Array α) (p : Nat), d.size - p ≤ n → p < d.size → (sinkA lt d p).size = d.size ∧ (sinkA lt d p).toList.Perm d.toList ∧ (DownAt lt d p → HeapOn lt (sinkA lt d p)) := by
  intro n
  induction n with
  | zero => intro d p h1 h2; omega
  | succ n ih =>
    intro d p hn hp
    by_cases h : leastA lt d p = p
    · rw [sinkA_stop h]
      refine ⟨rfl, List.Perm.refl _, fun hD i i0 is => ?_⟩
      by_cases ic : (i - 1) / 2 = p
      · obtain ⟨q1, q2, _⟩ := leastA_ok O d p
        rw [h] at q1 q2
        have : i = 2 * p + 1 ∨ i = 2 * p + 2 := by omega
        rw [ic]
        rcases this with rfl | rfl
        · exact q1 is
        · exact q2 is
      · exact hD.1 i i0 is ic
    · have hl := leastA_lt (lt := lt) d p hp
      have hc := leastA_cases (lt := lt) d p
      obtain ⟨q1, q2, q3⟩ := leastA_ok O d p
      have q3 := q3 h
      rw [sinkA_go hp h]
      obtain ⟨l, hle⟩ : ∃ l, l = leastA lt d p := ⟨_, rfl⟩
      rw [← hle] at h hl hc q1 q2 q3 ⊢
      obtain ⟨r1, r2, r3⟩ := ih (swp d p l) l (by rw [size_swp]; omega) (by rw [size_swp]; exact hl)
      refine ⟨by rw [r1, size_swp], r2.trans (swp_perm d hp hl), fun hD => r3 ?_⟩
      have g := get_swp d hp hl
      have hlp : lt d[p]! d[l]! = false := O.asymm _ _ q3
      have hla : (l - 1) / 2 = p := by omega
      constructor
      · intro i i0 is ic
        rw [size_swp] at is
        by_cases il : i = l
        · subst il
          rw [hla, g, g, if_pos rfl, if_neg (by omega), if_pos rfl]
          exact hlp
        · by_cases ip : i = p
          · subst ip
            have e := hD.2 i0 l (by omega) hl hla
            rw [g, g, if_neg (by omega), if_pos rfl, if_neg (by omega), if_neg (by omega)]
            exact e
          · by_cases ia : (i - 1) / 2 = p
            · rw [g, g, if_neg il, if_neg ip, ia, if_neg (by omega), if_pos rfl]
              have : i = 2 * p + 1 ∨ i = 2 * p + 2 := by omega
              rcases this with rfl | rfl
              · exact q1 is
              · exact q2 is
            · rw [g, g, if_neg il, if_neg ip, if_neg ic, if_neg ia]
              exact hD.1 i i0 is ia
      · intro l0 i i0 is il
        rw [size_swp] at is
        rw [hla, g, g, if_neg (by omega), if_neg (by omega), if_neg (by omega), if_pos rfl]
        have e := hD.1 i i0 is (by omega)
        rw [il] at e
        exact e
theorem size_sinkA (O : Ord lt) (d : Array α) (p : Nat) (hp : p < d.size) : (sinkA lt d p).size = d.size := (sink_all O _ d p (Nat.le_refl _) hp).1

/-- What was weak at p is a heap behind a raise and a sink. -/
theorem mend (O : Ord lt) {d : Array α} {p : Nat} (hp : p < d.size) (hW : WeakAt lt d p) : HeapOn lt (sinkA lt (raiseA lt d p) p) := by
  have hs := size_raiseA (lt := lt) d p
  by_cases h0 : 0 < p
  · cases h : lt d[p]! d[(p - 1) / 2]! with
    | true =>
      have hH : HeapOn lt (raiseA lt d p) := by
        rw [raiseA_yes h0 h]
        exact raise_up O _ _ _ (Nat.le_refl _) (by rw [size_swp]; omega) (weak_up O hp h0 hW h)
      refine (sink_all O _ _ p (Nat.le_refl _) (by omega)).2.2 ⟨fun i i0 is _ => hH i i0 is, fun _ i i0 is ic => ?_⟩
      have e1 := hH i i0 is
      have e2 := hH p h0 (by omega)
      rw [ic] at e1
      exact O.trans _ _ _ e2 e1
    | false =>
      rw [raiseA_no h0 h]
      refine (sink_all O _ _ p (Nat.le_refl _) hp).2.2 ⟨fun i i0 is ic => ?_, hW.2⟩
      by_cases ip : i = p
      · subst ip; exact h
      · exact hW.1 i i0 is ip ic
  · obtain rfl : p = 0 := by omega
    rw [raiseA_zero]
    exact (sink_all O _ _ 0 (Nat.le_refl _) hp).2.2 ⟨fun i i0 is ic => hW.1 i i0 is (by omega) ic, fun h => by omega⟩

/-- The one at p cut out: the last one in its place, raised and sunk. -/
def cutA (lt : α → α → Bool) (d : Array α) (p : Nat) : Array α :=
  if p < d.size - 1 then sinkA lt (raiseA lt ((swp d p (d.size - 1)).pop) p) p else (swp d p (d.size - 1)).pop
theorem pop_get (d : Array α) (i : Nat) (h : i < d.size - 1) : (d.pop)[i]! = d[i]! := by
  rw [getElem!_pos _ i (by simpa using h), getElem!_pos d i (by omega)]
  simp
theorem cut_all (O : Ord lt) {d : Array α} {p : Nat} (hp : p < d.size) (hH : HeapOn lt d) : (cutA lt d p).size = d.size - 1 ∧ (d[p]! :: (cutA lt d p).toList).Perm d.toList ∧ HeapOn lt (cutA lt d p) := by
  obtain ⟨n, hn⟩ : ∃ n, n = d.size - 1 := ⟨_, rfl⟩
  have hnd : n < d.size := by omega
  have g := get_swp d hp hnd
  have hperm : (d[p]! :: (swp d p n).pop.toList).Perm d.toList := by
    refine List.Perm.trans ?_ (swp_perm d hp hnd)
    have hl : (swp d p n).toList ≠ [] := by
      intro e
      have h0 : (swp d p n).toList.length = 0 := by rw [e]; rfl
      rw [Array.length_toList, size_swp] at h0
      omega
    have e1 := List.dropLast_concat_getLast hl
    have e2 : (swp d p n).toList.getLast hl = d[p]! := by
      rw [List.getLast_eq_getElem]
      have := g n
      rw [if_pos rfl, getElem!_pos _ n (by rw [size_swp]; omega)] at this
      rw [← this]
      simp [size_swp, ← hn]
    rw [e2] at e1
    rw [Array.toList_pop]
    calc (d[p]! :: (swp d p n).toList.dropLast).Perm ((swp d p n).toList.dropLast ++ [d[p]!]) := (List.perm_append_singleton _ _).symm
      _ = (swp d p n).toList := e1
  have hsz : (swp d p n).pop.size = n := by rw [Array.size_pop, size_swp]; omega
  have gp : ∀ i, i < n → (swp d p n).pop[i]! = if i = p then d[n]! else d[i]! := fun i hi => by
    rw [pop_get _ _ (by rw [size_swp]; omega), g, if_neg (by omega)]
  unfold cutA
  rw [← hn]
  by_cases hlt : p < n
  · rw [if_pos hlt]
    have hW : WeakAt lt (swp d p n).pop p := by
      constructor
      · intro i i0 is ip ic
        rw [hsz] at is
        rw [gp _ is, gp _ (by omega), if_neg ip, if_neg ic]
        exact hH i i0 (by omega)
      · intro p0 i i0 is ic
        rw [hsz] at is
        rw [gp _ is, gp _ (by omega), if_neg (by omega), if_neg (by omega)]
        have e1 := hH i i0 (by omega)
        have e2 := hH p p0 hp
        rw [ic] at e1
        exact O.trans _ _ _ e2 e1
    have hr := size_raiseA (lt := lt) (swp d p n).pop p
    obtain ⟨s1, s2, _⟩ := sink_all O _ (raiseA lt (swp d p n).pop p) p (Nat.le_refl _) (by omega)
    refine ⟨by omega, ?_, mend O (by omega) hW⟩
    exact (List.Perm.cons _ (s2.trans (raiseA_perm _ _ (by omega)))).trans hperm
  · rw [if_neg hlt]
    obtain rfl : p = n := by omega
    refine ⟨hsz, hperm, fun i i0 is => ?_⟩
    rw [hsz] at is
    rw [gp _ is, gp _ (by omega), if_neg (by omega), if_neg (by omega)]
    exact hH i i0 (by omega)

/-- One put in: at the end, raised. -/
theorem add_all (O : Ord lt) {d : Array α} (hH : HeapOn lt d) (x : α) : (raiseA lt (d.push x) d.size).size = d.size + 1 ∧ (raiseA lt (d.push x) d.size).toList.Perm (d.toList ++ [x]) ∧ HeapOn lt (raiseA lt (d.push x) d.size) := by
  refine ⟨by rw [size_raiseA]; simp, ?_, raise_up O _ _ _ (Nat.le_refl _) (by simp) ?_⟩
  · have := raiseA_perm (lt := lt) (d.push x) d.size (by simp)
    simpa using this
  · have g : ∀ i, i < d.size → (d.push x)[i]! = d[i]! := fun i hi => by
      rw [getElem!_pos _ i (by simp; omega), getElem!_pos d i hi, Array.getElem_push_lt hi]
    constructor
    · intro i i0 is ip
      simp at is
      rw [g i (by omega), g _ (by omega)]
      exact hH i i0 (by omega)
    · intro p0 i i0 is ic
      simp at is
      omega

/-- None is ahead of the root. -/
theorem root_min (O : Ord lt) {d : Array α} (hH : HeapOn lt d) : ∀ (n i : Nat), i ≤ n → i < d.size → lt d[i]! d[0]! = false := by
  have irr : ∀ x, lt x x = false := fun x => by
    cases h : lt x x with
    | false => rfl
    | true => have := O.asymm x x h; rw [h] at this; cases this
  intro n
  induction n with
  | zero => intro i hi hs; obtain rfl : i = 0 := by omega
            exact irr _
  | succ n ih =>
    intro i hi hs
    by_cases i0 : 0 < i
    · exact O.trans _ _ _ (ih ((i - 1) / 2) (by omega) (by omega)) (hH i i0 hs)
    · obtain rfl : i = 0 := by omega
      exact irr _

end Go.Proofs.YtjlbkdghlijoeaaGreat
