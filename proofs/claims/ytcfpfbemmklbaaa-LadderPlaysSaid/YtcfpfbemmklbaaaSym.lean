
/-
  The library's merge in place over lists: of two ranges that are in order it makes their stable merge.
-/
import Derived.Test.YtcfpfbemmklbaaaSym2
import Derived.Test.YtcfpfbemmklbaaaSym3
import Derived.Test.YtcfpfbemmklbaaaSym4
namespace Go.Proofs.Ytcfpfbemmklbaaa
open Go.Shelf Go.RowKit Go.Lib Go.Sort
variable {α : Type} [Inhabited α] {k : Nat}

theorem swp_comm (d : Array α) (i j : Nat) (hi : i < d.size) (hj : j < d.size) : swp d i j = swp d j i := by
  refine Array.ext (by simp [swp_size]) fun t h1 h2 => ?_
  have e1 := swp_get d hi hj t
  have e2 := swp_get d hj hi t
  rw [getElem!_pos _ t h1] at e1
  rw [getElem!_pos _ t h2] at e2
  rw [e1, e2]
  by_cases a : t = i <;> by_cases b : t = j <;> simp_all

theorem swUp_lists (Pp : List α) (x : α) : ∀ (q : Nat) (B R : List α), B.length = q → swUp (Pp ++ x :: (B ++ R)).toArray Pp.length q = (Pp ++ (B ++ x :: R)).toArray
  | 0, B, R, h => by
    obtain rfl := List.eq_nil_of_length_eq_zero h
    rfl
  | q + 1, B, R, h => by
    obtain ⟨B', y, rfl⟩ : ∃ B' y, B = B' ++ [y] := ⟨B.dropLast, B.getLast (by intro h'; simp [h'] at h), (List.dropLast_concat_getLast _).symm⟩
    have hB : B'.length = q := by simpa using h
    have ih := swUp_lists Pp x q B' (y :: R) hB
    have e : Pp ++ x :: (B' ++ [y] ++ R) = Pp ++ x :: (B' ++ (y :: R)) := by simp
    rw [swUp, e, ih]
    have := swp_lists (Pp ++ B') [] R x y (Pp.length + q) (Pp.length + q + 1) (by simp; omega) (by simp; omega)
    simp only [List.append_assoc, List.nil_append, List.cons_append] at this ⊢
    exact this
theorem swDown_lists (y : α) (R : List α) : ∀ (q : Nat) (Pp A : List α) (m : Nat), A.length = q → m = Pp.length + q → swDown (Pp ++ (A ++ y :: R)).toArray m q = (Pp ++ y :: (A ++ R)).toArray
  | 0, Pp, A, m, h, _ => by
    obtain rfl := List.eq_nil_of_length_eq_zero h
    rfl
  | q + 1, Pp, A, m, h, hm => by
    cases A with
    | nil => simp at h
    | cons z A =>
      have hA : A.length = q := by simpa using h
      have ih := swDown_lists y R q (Pp ++ [z]) A m hA (by simp; omega)
      have e : Pp ++ (z :: A ++ y :: R) = Pp ++ [z] ++ (A ++ y :: R) := by simp
      rw [swDown, e, ih, swp_comm _ _ _ (by simp; omega) (by simp; omega)]
      have := swp_lists Pp [] (A ++ R) z y (m - q - 1) (m - q) (by omega) (by simp; omega)
      simp only [List.append_assoc, List.nil_append, List.cons_append] at this ⊢
      exact this

theorem idxA (Pp A R : List α) (t i : Nat) (ht : t < A.length) (hi : i = Pp.length + t) : (Pp ++ (A ++ R)).toArray[i]! = A[t] := by
  have := get_at (Pp ++ A.take t) (A.drop (t + 1) ++ R) A[t] i (by simp; omega)
  have e : Pp ++ (A ++ R) = Pp ++ A.take t ++ A[t] :: (A.drop (t + 1) ++ R) := by
    conv => lhs; rw [← List.take_append_drop t A, List.drop_eq_getElem_cons ht]
    simp only [List.append_assoc, List.cons_append]
  rw [e]
  exact this
theorem idxB (Pp A B R : List α) (t i : Nat) (ht : t < B.length) (hi : i = Pp.length + A.length + t) : (Pp ++ (A ++ (B ++ R))).toArray[i]! = B[t] := by
  have := idxA (Pp ++ A) B R t i ht (by simp; omega)
  rwa [List.append_assoc] at this

omit [Inhabited α] in
theorem Ord.refl {lt : α → α → Bool} (O : Ord lt) (x : α) : lt x x = false := by
  cases h : lt x x with
  | false => rfl
  | true => have := O.asymm x x h; rw [h] at this; exact this
omit [Inhabited α] in
theorem InOrder.at {lt : α → α → Bool} (O : Ord lt) {A : List α} (h : InOrder lt A) {i j : Nat} (hij : i ≤ j) (hj : j < A.length) : lt A[j] (A[i]'(by omega)) = false := by
  by_cases he : i = j
  · subst he; exact O.refl _
  · exact (List.pairwise_iff_getElem.1 h) i j (by omega) hj (by omega)
omit [Inhabited α] in
theorem mem_take_idx {A : List α} {n : Nat} {x : α} (h : x ∈ A.take n) : ∃ i, ∃ (hi : i < A.length), i < n ∧ A[i] = x := by
  obtain ⟨i, hi, rfl⟩ := List.mem_iff_getElem.1 h
  rw [List.length_take] at hi
  exact ⟨i, by omega, by omega, by simp⟩
omit [Inhabited α] in
theorem mem_drop_idx {A : List α} {n : Nat} {x : α} (h : x ∈ A.drop n) : ∃ i, ∃ (hi : i < A.length), n ≤ i ∧ A[i] = x := by
  obtain ⟨i, hi, rfl⟩ := List.mem_iff_getElem.1 h
  rw [List.length_drop] at hi
  exact ⟨n + i, by omega, by omega, by simp⟩

variable {P : Program}

theorem symMerge_lists (L : Lay P k) (enc : α → List Value) (cf : α → α → Int) (O : Ord (ltOf cf)) (g : Nat) (cb : Array Value) (blk off cap N : Nat) (d0 : Array α) (w0 : World)
    (eg : ∀ args w, (callFunc g args).run P w = .ok (.enter g args) w) (hcmp : CmpLays P g cb enc k cf blk off d0.size w0) (R : RowK enc k w0 blk off d0) (hs : d0.size = N) (hsz : N < 1152921504606846976) :
    ∀ (len : Nat) (Pp A B S : List α) (w : World), A.length + B.length ≤ len → 0 < A.length → 0 < B.length → InOrder (ltOf cf) A → InOrder (ltOf cf) B → (Pp ++ (A ++ (B ++ S))).length = N → SWK enc k w0 blk off (Pp ++ (A ++ (B ++ S))).toArray w →
    ∀ (az mz bz : Int), az = Pp.length → mz = (Pp.length + A.length : Nat) → bz = (Pp.length + A.length + B.length : Nat) →
    Calls P 63 #[.slice (some ⟨blk, off, none⟩) N cap, .int .i64 az, .int .i64 mz, .int .i64 bz, .func (.func g) #[] cb] w fun e w' => e = .returned (.tuple #[]) ∧ SWK enc k w0 blk off (Pp ++ (mg (ltOf cf) A B ++ S)).toArray w' := by
  intro len
  induction len with
  | zero => intro Pp A B S w h hA; omega
  | succ len ih =>
    intro Pp A B S w hlen hA hB oA oB hN W az mz bz ha hm hb
    subst ha hm hb
    have hl : Pp.length + (A.length + (B.length + S.length)) = N := by simpa using hN
    have hd : (Pp ++ (A ++ (B ++ S))).toArray.size = N := by rw [List.size_toArray, hN]
    have iA : ∀ t (ht : t < A.length), (Pp ++ (A ++ (B ++ S))).toArray[Pp.length + t]! = A[t] := fun t ht => idxA Pp A (B ++ S) t _ ht rfl
    have iB : ∀ t (ht : t < B.length), (Pp ++ (A ++ (B ++ S))).toArray[Pp.length + A.length + t]! = B[t] := fun t ht => idxB Pp A B S t _ ht rfl
    by_cases hA1 : A.length = 1
    · -- one element ahead
      obtain ⟨x, rfl⟩ := List.length_eq_one_iff.1 hA1
      have gx : (Pp ++ ([x] ++ (B ++ S))).toArray[Pp.length]! = x := iA 0 (by simp)
      have := sym_one L enc cf g cb blk off cap N Pp.length (Pp.length + 1) (Pp.length + 1 + B.length) d0 _ w0 w eg hcmp R hs hd W rfl (by omega) (by simp at hl; omega) hsz
        (fun s t h1 h2 h3 h4 => by
          obtain ⟨s', rfl⟩ : ∃ s', s = Pp.length + [x].length + s' := ⟨s - (Pp.length + 1), by simp; omega⟩
          obtain ⟨t', rfl⟩ : ∃ t', t = Pp.length + [x].length + t' := ⟨t - (Pp.length + 1), by simp; omega⟩
          simp only [List.length_cons, List.length_nil, Nat.zero_add] at h2 h3
          rw [gx, iB s' (by omega)] at h4
          rw [gx, iB t' (by omega)]
          exact O.trans _ _ _ h4 (oB.at O (by omega) (by omega)))
      refine this.mono ?_
      rintro e w' ⟨rfl, i, h1, h2, hlow, hhigh, W'⟩
      refine ⟨rfl, ?_⟩
      obtain ⟨n, rfl⟩ : ∃ n, i = Pp.length + [x].length + n := ⟨i - (Pp.length + 1), by simp; omega⟩
      simp only [List.length_cons, List.length_nil, Nat.zero_add] at h1 h2 hlow hhigh W'
      have hb1 : ∀ b ∈ B.take n, ltOf cf b x = true := fun b hb => by
        obtain ⟨j, hj, hjn, rfl⟩ := mem_take_idx hb
        have := hlow (Pp.length + 1 + j) (by omega) (by omega)
        rwa [gx, show Pp.length + 1 + j = Pp.length + [x].length + j from rfl, iB j hj] at this
      have hb2 : ∀ b ∈ B.drop n, ltOf cf b x = false := fun b hb => by
        obtain ⟨j, hj, hjn, rfl⟩ := mem_drop_idx hb
        have := hhigh (Pp.length + 1 + j) (by omega) (by omega)
        rwa [gx, show Pp.length + 1 + j = Pp.length + [x].length + j from rfl, iB j hj] at this
      have e1 := mg_split (lt := ltOf cf) [] [x] (B.take n) (B.drop n) (fun a ha => by simp at ha) (fun b hb a ha => by rw [List.mem_singleton.1 ha]; exact hb1 b hb)
      have e2 := mg_split (lt := ltOf cf) [x] [] [] (B.drop n) (fun a ha b hb => by rw [List.mem_singleton.1 ha]; exact hb2 b hb) (fun b hb => by simp at hb)
      simp only [List.nil_append, List.append_nil, mg_nil_left, mg_nil_right, List.take_append_drop] at e1 e2
      have hq : Pp.length + 1 + n - (Pp.length + 1) = n := by omega
      have e3 := swUp_lists Pp x n (B.take n) (B.drop n ++ S) (by rw [List.length_take]; omega)
      have e4 : Pp ++ x :: (B.take n ++ (B.drop n ++ S)) = Pp ++ ([x] ++ (B ++ S)) := by
        rw [← List.append_assoc (B.take n), List.take_append_drop]; rfl
      rw [hq, ← e4, e3] at W'
      rw [e1, e2]
      simpa using W'
    · by_cases hB1 : B.length = 1
      · -- one element behind
        obtain ⟨y, rfl⟩ := List.length_eq_one_iff.1 hB1
        have gy : (Pp ++ (A ++ ([y] ++ S))).toArray[Pp.length + A.length]! = y := iB 0 (by simp)
        have := sym_two L enc cf g cb blk off cap N Pp.length (Pp.length + A.length) (Pp.length + A.length + 1) d0 _ w0 w eg hcmp R hs hd W (by omega) rfl (by simp at hl; omega) hsz
          (fun s t h1 h2 h3 h4 => by
            obtain ⟨s', rfl⟩ : ∃ s', s = Pp.length + s' := ⟨s - Pp.length, by omega⟩
            obtain ⟨t', rfl⟩ : ∃ t', t = Pp.length + t' := ⟨t - Pp.length, by omega⟩
            rw [gy, iA s' (by omega)] at h4
            rw [gy, iA t' (by omega)]
            cases hc : ltOf cf y (A[t']'(by omega)) with
            | true => rfl
            | false =>
              have := O.trans _ _ _ (oA.at O (show s' ≤ t' by omega) (by omega)) hc
              rw [this] at h4
              cases h4)
          (fun i => (∀ t (ht : t < A.length), Pp.length + t < i → ltOf cf y A[t] = false) ∧ (∀ t (ht : t < A.length), i ≤ Pp.length + t → ltOf cf y A[t] = true))
          (fun i _ _ h3 h4 => ⟨fun t ht hti => by have := h3 (Pp.length + t) (by omega) hti; rwa [gy, iA t ht] at this, fun t ht hti => by have := h4 (Pp.length + t) hti (by omega); rwa [gy, iA t ht] at this⟩)
        refine this.mono ?_
        rintro e w' ⟨rfl, i, h1, h2, ⟨hlow, hhigh⟩, W'⟩
        refine ⟨rfl, ?_⟩
        obtain ⟨n, rfl⟩ : ∃ n, i = Pp.length + n := ⟨i - Pp.length, by omega⟩
        have ha1 : ∀ a ∈ A.take n, ltOf cf y a = false := fun a ha => by
          obtain ⟨j, hj, hjn, rfl⟩ := mem_take_idx ha
          exact hlow j hj (by omega)
        have ha2 : ∀ a ∈ A.drop n, ltOf cf y a = true := fun a ha => by
          obtain ⟨j, hj, hjn, rfl⟩ := mem_drop_idx ha
          exact hhigh j hj (by omega)
        have e1 := mg_split (lt := ltOf cf) (A.take n) (A.drop n) [] [y] (fun a ha b hb => by rw [List.mem_singleton.1 hb]; exact ha1 a ha) (fun b hb => by simp at hb)
        have e2 := mg_split (lt := ltOf cf) [] (A.drop n) [y] [] (fun a ha => by simp at ha) (fun b hb a ha => by rw [List.mem_singleton.1 hb]; exact ha2 a ha)
        simp only [List.nil_append, List.append_nil, mg_nil_left, mg_nil_right, List.take_append_drop] at e1 e2
        have hq : Pp.length + A.length - (Pp.length + n) = A.length - n := by omega
        have e3 := swDown_lists y S (A.length - n) (Pp ++ A.take n) (A.drop n) (Pp.length + A.length) (by rw [List.length_drop]) (by rw [List.length_append, List.length_take]; omega)
        have e4 : Pp ++ A.take n ++ (A.drop n ++ y :: S) = Pp ++ (A ++ ([y] ++ S)) := by
          rw [List.append_assoc, ← List.append_assoc (A.take n), List.take_append_drop]; rfl
        rw [hq, ← e4, e3] at W'
        rw [e1, e2]
        simpa using W'
      · -- both of two or more
        obtain ⟨a, ea⟩ : ∃ a, a = Pp.length := ⟨_, rfl⟩
        obtain ⟨m, em⟩ : ∃ m, m = Pp.length + A.length := ⟨_, rfl⟩
        obtain ⟨b, eb⟩ : ∃ b, b = Pp.length + A.length + B.length := ⟨_, rfl⟩
        obtain ⟨mid, emid⟩ : ∃ mid, mid = (a + b) / 2 := ⟨_, rfl⟩
        obtain ⟨p, ep⟩ : ∃ p, p + 1 = mid + m := ⟨mid + m - 1, by omega⟩
        obtain ⟨st0, r0, hst⟩ : ∃ st0 r0, (mid < m ∧ st0 + b = mid + m ∧ r0 = mid) ∨ (m ≤ mid ∧ st0 = a ∧ r0 = m) := by
          by_cases h : mid < m
          · exact ⟨mid + m - b, mid, .inl ⟨h, by omega, rfl⟩⟩
          · exact ⟨a, m, .inr ⟨by omega, rfl, rfl⟩⟩
        have jA : ∀ c (h1 : a ≤ c) (h2 : c < m), (Pp ++ (A ++ (B ++ S))).toArray[c]! = A[c - a]'(by omega) := fun c h1 h2 => by
          have := iA (c - a) (by omega)
          rwa [show Pp.length + (c - a) = c by omega] at this
        have jB : ∀ c (h1 : m ≤ c) (h2 : c < b), (Pp ++ (A ++ (B ++ S))).toArray[c]! = B[c - m]'(by omega) := fun c h1 h2 => by
          have := iB (c - m) (by omega)
          rwa [show Pp.length + A.length + (c - m) = c by omega] at this
        rw [← eb, ← em, ← ea]
        suffices hall : (∀ s t, st0 ≤ s → s < t → t < r0 → ltOf cf (Pp ++ (A ++ (B ++ S))).toArray[p - s]! (Pp ++ (A ++ (B ++ S))).toArray[s]! = true → ltOf cf (Pp ++ (A ++ (B ++ S))).toArray[p - t]! (Pp ++ (A ++ (B ++ S))).toArray[t]! = true) ∧
            (∀ s en, st0 ≤ s → s ≤ r0 → s + en = mid + m → (∀ c, st0 ≤ c → c < s → ltOf cf (Pp ++ (A ++ (B ++ S))).toArray[p - c]! (Pp ++ (A ++ (B ++ S))).toArray[c]! = false) → (∀ c, s ≤ c → c < r0 → ltOf cf (Pp ++ (A ++ (B ++ S))).toArray[p - c]! (Pp ++ (A ++ (B ++ S))).toArray[c]! = true) →
              SymCont P enc k w0 blk off cap N g cb a m b mid s en (Pp ++ (A ++ (B ++ S))).toArray (Pp ++ (mg (ltOf cf) A B ++ S)).toArray) by
          rcases hst with ⟨hmm, hst, hr⟩ | ⟨hmm, hst, hr⟩
          · rw [hr] at hall
            exact sym_gen_hi L enc cf g cb blk off cap N a m b mid (mid + m) p st0 d0 _ _ w0 w eg hcmp R hs hd W (by omega) (by omega) (by omega) hsz emid rfl ep hmm hst hall.1 hall.2
          · rw [hr, hst] at hall
            exact sym_gen_lo L enc cf g cb blk off cap N a m b mid (mid + m) p d0 _ _ w0 w eg hcmp R hs hd W (by omega) (by omega) (by omega) hsz emid rfl ep hmm hall.1 hall.2
        constructor
        · intro s t h1 h2 h3 h4
          rw [jA s (by omega) (by omega), jB (p - s) (by omega) (by omega)] at h4
          rw [jA t (by omega) (by omega), jB (p - t) (by omega) (by omega)]
          cases hc : ltOf cf (B[p - t - m]'(by omega)) (A[t - a]'(by omega)) with
          | true => rfl
          | false =>
            have q1 := oA.at O (show s - a ≤ t - a by omega) (by omega)
            have q2 := oB.at O (show p - t - m ≤ p - s - m by omega) (by omega)
            have := O.trans _ _ _ (O.trans _ _ _ q1 hc) q2
            rw [this] at h4
            cases h4
        · intro s en h1 h2 h3 hlow hhigh
          have b1 : a ≤ s := by omega
          have b2 : s ≤ m := by omega
          have b3 : m ≤ en := by omega
          have b4 : en ≤ b := by omega
          obtain ⟨A1, A2, rfl, hA1l⟩ : ∃ A1 A2, A = A1 ++ A2 ∧ A1.length = s - a := ⟨A.take (s - a), A.drop (s - a), (List.take_append_drop _ A).symm, by rw [List.length_take]; omega⟩
          obtain ⟨B1, B2, rfl, hB1l⟩ : ∃ B1 B2, B = B1 ++ B2 ∧ B1.length = en - m := ⟨B.take (en - m), B.drop (en - m), (List.take_append_drop _ B).symm, by rw [List.length_take]; omega⟩
          have hA2l : A2.length = m - s := by simp only [List.length_append] at em; omega
          have hB2l : B2.length = b - en := by simp only [List.length_append] at eb em; omega
          have oA' := List.pairwise_append.1 oA
          have oB' := List.pairwise_append.1 oB
          have s1 : ∀ x ∈ A1, ∀ y ∈ B2, ltOf cf y x = false := by
            intro x hx y hy
            have hA0 : 0 < A1.length := List.length_pos_of_mem hx
            have hB0 : 0 < B2.length := List.length_pos_of_mem hy
            have hq := hlow (s - 1) (by omega) (by omega)
            rw [jA (s - 1) (by omega) (by omega), jB (p - (s - 1)) (by omega) (by omega)] at hq
            obtain ⟨i, hi, rfl⟩ := List.mem_iff_getElem.1 hx
            obtain ⟨j, hj, rfl⟩ := List.mem_iff_getElem.1 hy
            have q1 := oA.at O (show i ≤ s - 1 - a by omega) (by rw [List.length_append]; omega)
            have q2 := oB.at O (show p - (s - 1) - m ≤ B1.length + j by omega) (by rw [List.length_append]; omega)
            have q3 := O.trans _ _ _ (O.trans _ _ _ q1 hq) q2
            rwa [List.getElem_append_left hi, List.getElem_append_right (by omega), getElem_congr_idx (show B1.length + j - B1.length = j by omega)] at q3
          have s2 : ∀ y ∈ B1, ∀ x ∈ A2, ltOf cf y x = true := by
            intro y hy x hx
            have hA0 : 0 < A2.length := List.length_pos_of_mem hx
            have hB0 : 0 < B1.length := List.length_pos_of_mem hy
            have hq := hhigh s (by omega) (by omega)
            rw [jA s (by omega) (by omega), jB (p - s) (by omega) (by omega)] at hq
            obtain ⟨i, hi, rfl⟩ := List.mem_iff_getElem.1 hx
            obtain ⟨j, hj, rfl⟩ := List.mem_iff_getElem.1 hy
            cases hc : ltOf cf B1[j] A2[i] with
            | true => rfl
            | false =>
              have q1 := oA.at O (show s - a ≤ A1.length + i by omega) (by rw [List.length_append]; omega)
              have q2 := oB.at O (show j ≤ p - s - m by omega) (by rw [List.length_append]; omega)
              rw [List.getElem_append_right (by omega), getElem_congr_idx (show A1.length + i - A1.length = i by omega)] at q1
              rw [List.getElem_append_left hj] at q2
              have := O.trans _ _ _ (O.trans _ _ _ q1 hc) q2
              rw [this] at hq
              cases hq
          refine ⟨(Pp ++ (A1 ++ (B1 ++ (A2 ++ (B2 ++ S))))).toArray, (Pp ++ (mg (ltOf cf) A1 B1 ++ (A2 ++ (B2 ++ S)))).toArray, ?_, ?_, ?_, ?_, ?_, ?_⟩
          · rintro ⟨c1, c2⟩ w1 (W1 : SWK _ _ _ _ _ _ _)
            have := rotate_lists L enc g cb blk off cap N d0 w0 w1 (Pp ++ A1) A2 B1 (B2 ++ S) s m en R hs (by simp at hl ⊢; omega) (by simpa using W1) (by omega) (by omega) (by simp; omega) (by simp; omega) (by simp; omega) hsz
            rw [List.append_assoc] at this
            exact this
          · intro hn
            by_cases c1 : s < m
            · have : B1 = [] := List.eq_nil_of_length_eq_zero (by omega)
              subst this
              simp
            · have : A2 = [] := List.eq_nil_of_length_eq_zero (by omega)
              subst this
              simp
          · rintro ⟨c1, c2⟩ w1 (W1 : SWK _ _ _ _ _ _ _)
            exact ih Pp A1 B1 (A2 ++ (B2 ++ S)) w1 (by simp at hlen; omega) (by omega) (by omega) oA'.1 oB'.1 (by simp at hl ⊢; omega) W1 a s mid (by omega) (by omega) (by omega)
          · intro hn
            by_cases c1 : a < s
            · have : B1 = [] := List.eq_nil_of_length_eq_zero (by omega)
              subst this
              simp [mg_nil_right]
            · have : A1 = [] := List.eq_nil_of_length_eq_zero (by omega)
              subst this
              simp [mg_nil_left]
          · rintro ⟨c1, c2⟩ w1 (W1 : SWK _ _ _ _ _ _ _)
            have hml : (mg (ltOf cf) A1 B1).length = A1.length + B1.length := mg_length _ _
            have := ih (Pp ++ mg (ltOf cf) A1 B1) A2 B2 S w1 (by simp at hlen; omega) (by omega) (by omega) oA'.2.1 oB'.2.1 (by simp at hl ⊢; omega) (by rw [List.append_assoc]; exact W1) mid en b (by simp; omega) (by simp; omega) (by simp; omega)
            have e5 : Pp ++ mg (ltOf cf) A1 B1 ++ (mg (ltOf cf) A2 B2 ++ S) = Pp ++ (mg (ltOf cf) A1 B1 ++ mg (ltOf cf) A2 B2 ++ S) := by simp
            rw [e5] at this
            rw [mg_split A1 A2 B1 B2 s1 s2]
            exact this
          · intro hn
            rw [mg_split A1 A2 B1 B2 s1 s2]
            by_cases c1 : en < b
            · have : A2 = [] := List.eq_nil_of_length_eq_zero (by omega)
              subst this
              simp [mg_nil_left]
            · have : B2 = [] := List.eq_nil_of_length_eq_zero (by omega)
              subst this
              simp [mg_nil_right]

end Go.Proofs.Ytcfpfbemmklbaaa
