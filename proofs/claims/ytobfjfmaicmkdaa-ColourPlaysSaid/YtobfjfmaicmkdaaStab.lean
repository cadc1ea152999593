
/-
  Plain lists: the stable merge of two lists, and the stable order of a list. No model in this text.
-/
import Derived.Sort.LotA
namespace Go.Proofs.Ytobfjfmaicmkdaa
open Go.Sort
variable {α : Type}

/-- The stable merge: of two that are the same the first list's is ahead. -/
def mg (lt : α → α → Bool) : List α → List α → List α
  | [], ys => ys
  | x :: xs, [] => x :: xs
  | x :: xs, y :: ys => if lt y x then y :: mg lt (x :: xs) ys else x :: mg lt xs (y :: ys)
termination_by xs ys => xs.length + ys.length

/-- 'Not behind' is an order in which any two can be compared. -/
structure Ord (lt : α → α → Bool) : Prop where
  asymm : ∀ x y, lt x y = true → lt y x = false
  trans : ∀ x y z, lt y x = false → lt z y = false → lt z x = false

variable {lt : α → α → Bool}
theorem mg_nil_left (ys : List α) : mg lt [] ys = ys := by rw [mg]
theorem mg_nil_right (xs : List α) : mg lt xs [] = xs := by cases xs <;> rw [mg]
theorem mg_yes {x y : α} {xs ys : List α} (h : lt y x = true) : mg lt (x :: xs) (y :: ys) = y :: mg lt (x :: xs) ys := by rw [mg, if_pos h]
theorem mg_no {x y : α} {xs ys : List α} (h : lt y x = false) : mg lt (x :: xs) (y :: ys) = x :: mg lt xs (y :: ys) := by rw [mg, if_neg (by simp [h])]

theorem mg_perm : ∀ xs ys : List α, (mg lt xs ys).Perm (xs ++ ys)
  | [], ys => by rw [mg_nil_left]; exact List.Perm.refl _
  | x :: xs, [] => by rw [mg_nil_right, List.append_nil]
  | x :: xs, y :: ys => by
    cases h : lt y x with
    | true =>
      rw [mg_yes h]
      exact ((mg_perm (x :: xs) ys).cons y).trans (List.perm_middle.symm)
    | false =>
      rw [mg_no h]
      exact (mg_perm xs (y :: ys)).cons x
termination_by xs ys => xs.length + ys.length
theorem mg_length (xs ys : List α) : (mg lt xs ys).length = xs.length + ys.length := by rw [(mg_perm xs ys).length_eq, List.length_append]

theorem mg_split : ∀ (A1 A2 B1 B2 : List α), (∀ a ∈ A1, ∀ b ∈ B2, lt b a = false) → (∀ b ∈ B1, ∀ a ∈ A2, lt b a = true) → mg lt (A1 ++ A2) (B1 ++ B2) = mg lt A1 B1 ++ mg lt A2 B2
  | [], A2, [], B2, _, _ => by simp [mg_nil_left]
  | a :: A1, A2, [], B2, h1, h2 => by
    cases B2 with
    | nil => simp [mg_nil_right]
    | cons b B2 =>
      have := mg_split A1 A2 [] (b :: B2) (fun x hx => h1 x (List.mem_cons_of_mem _ hx)) h2
      simp only [List.nil_append, List.cons_append, mg_nil_right] at this ⊢
      rw [mg_no (h1 a (List.mem_cons_self ..) b (List.mem_cons_self ..)), this]
  | [], A2, b :: B1, B2, h1, h2 => by
    cases A2 with
    | nil => simp [mg_nil_left]
    | cons a A2 =>
      have := mg_split [] (a :: A2) B1 B2 h1 (fun x hx => h2 x (List.mem_cons_of_mem _ hx))
      simp only [List.nil_append, List.cons_append, mg_nil_left] at this ⊢
      rw [mg_yes (h2 b (List.mem_cons_self ..) a (List.mem_cons_self ..)), this]
  | a :: A1, A2, b :: B1, B2, h1, h2 => by
    simp only [List.cons_append]
    cases h : lt b a with
    | true =>
      rw [mg_yes h, mg_yes h]
      have := mg_split (a :: A1) A2 B1 B2 h1 (fun x hx => h2 x (List.mem_cons_of_mem _ hx))
      rw [List.cons_append] at this
      rw [this, List.cons_append]
    | false =>
      rw [mg_no h, mg_no h]
      have := mg_split A1 A2 (b :: B1) B2 (fun x hx => h1 x (List.mem_cons_of_mem _ hx)) h2
      rw [List.cons_append] at this
      rw [this, List.cons_append]
termination_by A1 _ B1 _ => A1.length + B1.length

theorem mg_assoc (O : Ord lt) : ∀ A B C : List α, mg lt (mg lt A B) C = mg lt A (mg lt B C)
  | [], B, C => by simp [mg_nil_left]
  | a :: A, [], C => by simp [mg_nil_left, mg_nil_right]
  | a :: A, b :: B, [] => by simp [mg_nil_right]
  | a :: A, b :: B, c :: C => by
    cases hab : lt b a with
    | false =>
      cases hac : lt c a with
      | false =>
        rw [mg_no hab, mg_no hac, mg_assoc O A (b :: B) (c :: C)]
        cases hbc : lt c b with
        | false => rw [mg_no hbc, mg_no hab]
        | true => rw [mg_yes hbc, mg_no hac]
      | true =>
        have hbc : lt c b = true := by
          cases hbc : lt c b with
          | true => rfl
          | false => rw [O.trans a b c hab hbc] at hac; cases hac
        have ih := mg_assoc O (a :: A) (b :: B) C
        rw [mg_no hab] at ih ⊢
        rw [mg_yes hac, mg_yes hbc, mg_yes hac, ih]
    | true =>
      cases hbc : lt c b with
      | false =>
        have ih := mg_assoc O (a :: A) B (c :: C)
        rw [mg_yes hab, mg_no hbc, mg_no hbc, mg_yes hab, ih]
      | true =>
        have hac : lt c a = true := by
          cases hac : lt c a with
          | true => rfl
          | false =>
            have := O.trans a c b hac (O.asymm c b hbc)
            rw [this] at hab
            cases hab
        have ih := mg_assoc O (a :: A) (b :: B) C
        rw [mg_yes hab] at ih ⊢
        rw [mg_yes hbc, mg_yes hbc, mg_yes hac, ih]
termination_by A B C => A.length + B.length + C.length

/-- The stable order of a list: one after the other, each behind those that are the same. -/
def stab (lt : α → α → Bool) (l : List α) : List α := l.foldl (fun acc x => mg lt acc [x]) []
theorem stab_from (O : Ord lt) (A : List α) : ∀ (l acc : List α), l.foldl (fun acc x => mg lt acc [x]) (mg lt A acc) = mg lt A (l.foldl (fun acc x => mg lt acc [x]) acc)
  | [], acc => rfl
  | x :: l, acc => by
    simp only [List.foldl_cons]
    rw [mg_assoc O, stab_from O A l]
theorem stab_append (O : Ord lt) (l l' : List α) : stab lt (l ++ l') = mg lt (stab lt l) (stab lt l') := by
  unfold stab
  rw [List.foldl_append]
  have := stab_from O (l.foldl (fun acc x => mg lt acc [x]) []) l' []
  rwa [mg_nil_right] at this
theorem stab_snoc (l : List α) (x : α) : stab lt (l ++ [x]) = mg lt (stab lt l) [x] := by
  unfold stab
  rw [List.foldl_append]
  rfl
theorem stab_nil : stab lt ([] : List α) = [] := rfl
theorem stab_one (x : α) : stab lt [x] = [x] := by unfold stab; simp [mg_nil_left]
theorem stab_perm : ∀ l : List α, (stab lt l).Perm l := by
  intro l
  suffices h : ∀ (l acc : List α), (l.foldl (fun acc x => mg lt acc [x]) acc).Perm (acc ++ l) by
    have := h l []
    rwa [List.nil_append] at this
  intro l
  induction l with
  | nil => intro acc; simp
  | cons x l ih =>
    intro acc
    simp only [List.foldl_cons]
    refine (ih _).trans ?_
    have := (mg_perm (lt := lt) acc [x]).append_right l
    simpa using this
theorem stab_length (l : List α) : (stab lt l).length = l.length := (stab_perm l).length_eq

/-- In order: none is behind one that stands behind it. -/
def InOrder (lt : α → α → Bool) (l : List α) : Prop := l.Pairwise fun x y => lt y x = false

theorem mg_inOrder (O : Ord lt) : ∀ xs ys : List α, InOrder lt xs → InOrder lt ys → InOrder lt (mg lt xs ys)
  | [], ys, _, h => by rw [mg_nil_left]; exact h
  | x :: xs, [], h, _ => by rw [mg_nil_right]; exact h
  | x :: xs, y :: ys, h, h' => by
    have hx := List.pairwise_cons.1 h
    have hy := List.pairwise_cons.1 h'
    cases hc : lt y x with
    | true =>
      rw [mg_yes hc]
      refine List.pairwise_cons.2 ⟨fun z hz => ?_, mg_inOrder O (x :: xs) ys h hy.2⟩
      have := (mg_perm (x :: xs) ys).mem_iff.1 hz
      rw [List.mem_append, List.mem_cons] at this
      rcases this with (rfl | hz) | hz
      · exact O.asymm _ _ hc
      · exact O.trans _ _ _ (O.asymm _ _ hc) (hx.1 z hz)
      · exact hy.1 z hz
    | false =>
      rw [mg_no hc]
      refine List.pairwise_cons.2 ⟨fun z hz => ?_, mg_inOrder O xs (y :: ys) hx.2 h'⟩
      have := (mg_perm xs (y :: ys)).mem_iff.1 hz
      rw [List.mem_append, List.mem_cons] at this
      rcases this with hz | rfl | hz
      · exact hx.1 z hz
      · exact hc
      · exact O.trans _ _ _ hc (hy.1 z hz)
termination_by xs ys => xs.length + ys.length
theorem one_inOrder (x : α) : InOrder lt [x] := List.pairwise_singleton _ _
theorem stab_inOrder (O : Ord lt) (l : List α) : InOrder lt (stab lt l) := by
  suffices h : ∀ (l acc : List α), InOrder lt acc → InOrder lt (l.foldl (fun acc x => mg lt acc [x]) acc) from h l [] List.Pairwise.nil
  intro l
  induction l with
  | nil => intro acc h; exact h
  | cons x l ih =>
    intro acc h
    simp only [List.foldl_cons]
    exact ih _ (mg_inOrder O _ _ h (one_inOrder x))
/-- One that is behind none of a list goes to its end. -/
theorem mg_end (A : List α) (x : α) (h : ∀ a ∈ A, lt x a = false) : mg lt A [x] = A ++ [x] := by
  have := mg_split (lt := lt) A [] [] [x] (fun a ha b hb => by rw [List.mem_singleton.1 hb]; exact h a ha) (fun b hb => by simp at hb)
  simpa [mg_nil_right, mg_nil_left] using this
theorem stab_of_inOrder (l : List α) (h : InOrder lt l) : stab lt l = l := by
  suffices hs : ∀ (l acc : List α), InOrder lt (acc ++ l) → l.foldl (fun acc x => mg lt acc [x]) acc = acc ++ l by
    have := hs l [] (by simpa using h)
    simpa [stab] using this
  intro l
  induction l with
  | nil => intro acc _; simp
  | cons x l ih =>
    intro acc h
    simp only [List.foldl_cons]
    have hp := List.pairwise_append.1 h
    rw [mg_end acc x (fun a ha => hp.2.2 a ha x (List.mem_cons_self ..)), ih _ (by simpa using h)]
    simp

/-! ### The exchange of two, over lists -/
variable [Inhabited α]
theorem get_at (P R : List α) (x : α) (i : Nat) (hi : i = P.length) : (P ++ x :: R).toArray[i]! = x := by
  subst hi
  simp
theorem swp_lists (P Q R : List α) (x y : α) (i j : Nat) (hi : i = P.length) (hj : j = P.length + 1 + Q.length) : swp (P ++ x :: (Q ++ y :: R)).toArray i j = (P ++ y :: (Q ++ x :: R)).toArray := by
  have gi : (P ++ x :: (Q ++ y :: R)).toArray[i]! = x := get_at P _ x i hi
  have gj : (P ++ x :: (Q ++ y :: R)).toArray[j]! = y := by
    have := get_at (P ++ x :: Q) R y j (by simp; omega)
    simpa using this
  unfold swp
  rw [gi, gj]
  subst hi hj
  rw [List.setIfInBounds_toArray, List.setIfInBounds_toArray]
  congr 1
  rw [List.set_append_right _ _ (Nat.le_refl _), List.set_append_right _ _ (by omega)]
  simp only [Nat.sub_self, List.set_cons_zero]
  rw [show P.length + 1 + Q.length - P.length = Q.length + 1 by omega, List.set_cons_succ, List.set_append_right _ _ (Nat.le_refl _)]
  simp

/-! ### The insertion sort, over lists -/
theorem insInner_lists (O : Ord lt) (P : List α) (x : α) : ∀ (n : Nat) (A R : List α), A.length = n → InOrder lt A → insInner lt P.length (P.length + n) (P ++ A ++ x :: R).toArray = (P ++ mg lt A [x] ++ R).toArray
  | 0, A, R, hA, _ => by
    obtain rfl := List.eq_nil_of_length_eq_zero hA
    rw [mg_nil_left, Nat.add_zero]
    have : insInner lt P.length P.length (P ++ [] ++ x :: R).toArray = (P ++ [] ++ x :: R).toArray := by
      cases h : P.length with
      | zero => rw [insInner]
      | succ k => rw [insInner, if_neg (by simp)]
    rw [this]
    simp
  | n + 1, A, R, hA, hO => by
    obtain ⟨A', y, rfl⟩ : ∃ A' y, A = A' ++ [y] := ⟨A.dropLast, A.getLast (by intro h; simp [h] at hA), (List.dropLast_concat_getLast _).symm⟩
    have hA' : A'.length = n := by simpa using hA
    have g1 : (P ++ (A' ++ [y]) ++ x :: R).toArray[P.length + n + 1]! = x := get_at (P ++ (A' ++ [y])) R x _ (by simp; omega)
    have g2 : (P ++ (A' ++ [y]) ++ x :: R).toArray[P.length + n]! = y := by
      have := get_at (P ++ A') (x :: R) y (P.length + n) (by simp; omega)
      simpa using this
    rw [show P.length + (n + 1) = P.length + n + 1 from rfl, insInner, g1, g2]
    have hp := List.pairwise_append.1 hO
    cases hc : lt x y with
    | true =>
      rw [if_pos (by simp; omega)]
      have hs := swp_lists (P ++ A') [] R y x (P.length + n) (P.length + n + 1) (by simp; omega) (by simp; omega)
      have hs' : swp (P ++ (A' ++ [y]) ++ x :: R).toArray (P.length + n + 1) (P.length + n) = (P ++ A' ++ x :: (y :: R)).toArray := by
        have hcomm : ∀ d : Array α, ∀ i j, i < d.size → j < d.size → swp d i j = swp d j i := by
          intro d i j hi hj
          refine Array.ext (by simp [swp_size]) fun t h1 h2 => ?_
          have e1 := swp_get d hi hj t
          have e2 := swp_get d hj hi t
          rw [getElem!_pos _ t h1] at e1
          rw [getElem!_pos _ t h2] at e2
          rw [e1, e2]
          by_cases a : t = i <;> by_cases b : t = j <;> simp_all
        rw [hcomm _ _ _ (by simp; omega) (by simp; omega)]
        simpa using hs
      rw [hs', insInner_lists O P x n A' (y :: R) hA' hp.1]
      have := mg_split (lt := lt) A' [y] [x] [] (fun _ _ b hb => by simp at hb) (fun b hb a ha => by rw [List.mem_singleton.1 hb, List.mem_singleton.1 ha]; exact hc)
      rw [List.append_nil, mg_nil_right] at this
      rw [this]
      simp
    | false =>
      rw [if_neg (by simp)]
      rw [mg_end _ x (fun a ha => by
        rcases List.mem_append.1 ha with ha | ha
        · exact O.trans a y x (hp.2.2 a ha y (List.mem_singleton.2 rfl)) hc
        · rw [List.mem_singleton.1 ha]; exact hc)]
      simp
theorem insOuter_lists (O : Ord lt) (P S A : List α) : ∀ (k n : Nat), k + n = A.length → 0 < n ∨ A = [] → insOuter lt P.length (P.length + A.length) (P.length + n) (P ++ stab lt (A.take n) ++ A.drop n ++ S).toArray = (P ++ stab lt A ++ S).toArray
  | 0, n, h, _ => by
    rw [insOuter, if_neg (by omega), List.take_of_length_le (by omega), List.drop_of_length_le (by omega)]
    simp
  | k + 1, n, h, h0 => by
    have hn : n < A.length := by omega
    rw [insOuter, if_pos (by omega)]
    have hd : A.drop n = A[n] :: A.drop (n + 1) := List.drop_eq_getElem_cons hn
    have := insInner_lists O P A[n] n (stab lt (A.take n)) (A.drop (n + 1) ++ S) (by rw [stab_length, List.length_take]; omega) (stab_inOrder O _)
    rw [hd]
    have e : P ++ stab lt (A.take n) ++ A[n] :: A.drop (n + 1) ++ S = P ++ stab lt (A.take n) ++ A[n] :: (A.drop (n + 1) ++ S) := by simp only [List.append_assoc, List.cons_append]
    rw [e, this, ← stab_snoc, ← List.take_succ_eq_append_getElem hn]
    have ih := insOuter_lists O P S A k (n + 1) (by omega) (.inl (by omega))
    rw [← List.append_assoc]
    exact ih
theorem insertionSort_lists (O : Ord lt) (P A S : List α) (a b : Nat) (ha : a = P.length) (hb : b = P.length + A.length) : insertionSort lt (P ++ A ++ S).toArray a b = (P ++ stab lt A ++ S).toArray := by
  subst ha hb
  unfold insertionSort
  cases A with
  | nil =>
    rw [insOuter, if_neg (by simp)]
    simp [stab_nil]
  | cons x A =>
    have := insOuter_lists O P S (x :: A) A.length 1 (by simp) (.inl (by omega))
    simpa [stab_one] using this

/-! ### Blocks -/
/-- Each block of bs in its stable order. -/
def blocks (lt : α → α → Bool) (bs : Nat) (l : List α) : List α :=
  if _h : l.length ≤ bs ∨ bs = 0 then stab lt l else stab lt (l.take bs) ++ blocks lt bs (l.drop bs)
termination_by l.length
decreasing_by simp; omega
omit [Inhabited α] in
theorem blocks_short {bs : Nat} {l : List α} (h : l.length ≤ bs) : blocks lt bs l = stab lt l := by rw [blocks, dif_pos (.inl h)]
omit [Inhabited α] in
theorem blocks_cons {bs : Nat} {X R : List α} (h : X.length = bs) (h0 : 0 < bs) : blocks lt bs (X ++ R) = stab lt X ++ blocks lt bs R := by
  by_cases hR : R = []
  · subst hR
    rw [List.append_nil, blocks_short (by omega), blocks_short (by simp), stab_nil, List.append_nil]
  · have : 0 < R.length := List.length_pos_iff.2 hR
    rw [blocks, dif_neg (by simp; omega)]
    subst h
    simp
omit [Inhabited α] in
theorem blocks_append {bs : Nat} (h0 : 0 < bs) : ∀ (q : Nat) (X R : List α), X.length = q * bs → blocks lt bs (X ++ R) = blocks lt bs X ++ blocks lt bs R
  | 0, X, R, h => by
    obtain rfl := List.eq_nil_of_length_eq_zero (by simpa using h)
    rw [blocks_short (l := []) (by simp), stab_nil]
    rfl
  | q + 1, X, R, h => by
    have hl : bs ≤ X.length := by rw [h, Nat.add_mul]; omega
    have e1 : blocks lt bs X = stab lt (X.take bs) ++ blocks lt bs (X.drop bs) := by
      have := blocks_cons (lt := lt) (X := X.take bs) (R := X.drop bs) (bs := bs) (by rw [List.length_take]; omega) h0
      rwa [List.take_append_drop] at this
    have e2 : blocks lt bs (X ++ R) = stab lt (X.take bs) ++ blocks lt bs (X.drop bs ++ R) := by
      have := blocks_cons (lt := lt) (X := X.take bs) (R := X.drop bs ++ R) (bs := bs) (by rw [List.length_take]; omega) h0
      rwa [← List.append_assoc, List.take_append_drop] at this
    rw [e1, e2, blocks_append h0 q (X.drop bs) R (by rw [List.length_drop, h, Nat.add_mul]; omega), List.append_assoc]
omit [Inhabited α] in
theorem blocks_length (bs : Nat) (l : List α) : (blocks lt bs l).length = l.length := by
  rw [blocks]
  split
  · exact stab_length l
  · rw [List.length_append, stab_length, blocks_length bs (l.drop bs)]
    simp; omega
termination_by l.length
decreasing_by simp; omega

end Go.Proofs.Ytobfjfmaicmkdaa
