
/-
  Two colours: processes that hold times, messages on their way, tallies, a token: what a round tells is never later than what is held or on its way, and never falls. Plain data; no program in this text.
-/
namespace Go.Proofs.Ytobfjfmaicmkdaa
namespace Col

def never : Int := 4611686018427387904
/-- A tally: its colour, the two counts, the least time since it turned. -/
structure Ta where
  c : Bool
  n0 : Int
  n1 : Int
  red : Int
def Ta.net (t : Ta) (q : Bool) : Int := if q then t.n1 else t.n0
def Ta.sent (t : Ta) (a : Int) : Ta := ⟨t.c, if t.c then t.n0 else t.n0 + 1, if t.c then t.n1 + 1 else t.n1, min t.red a⟩
def Ta.got (t : Ta) (q : Bool) : Ta := ⟨t.c, if q then t.n0 else t.n0 - 1, if q then t.n1 - 1 else t.n1, t.red⟩
def Ta.flip (t : Ta) : Ta := ⟨!t.c, t.n0, t.n1, never⟩
def Ta.new : Ta := ⟨false, 0, 0, never⟩
theorem net_sent (t : Ta) (a : Int) (q : Bool) : (t.sent a).net q = t.net q + if t.c = q then 1 else 0 := by
  obtain ⟨c, n0, n1, r⟩ := t
  cases c <;> cases q <;> simp [Ta.net, Ta.sent]
theorem net_got (t : Ta) (p q : Bool) : (t.got p).net q = t.net q - if p = q then 1 else 0 := by
  cases p <;> cases q <;> simp [Ta.net, Ta.got]
theorem net_flip (t : Ta) (q : Bool) : t.flip.net q = t.net q := rfl

def upd {α : Type} (f : Nat → α) (x : Nat) (v : α) : Nat → α := fun i => if i = x then v else f i
theorem upd_same {α : Type} (f : Nat → α) (x : Nat) (v : α) : upd f x v x = v := by simp [upd]
theorem upd_ne {α : Type} (f : Nat → α) {x i : Nat} (v : α) (h : i ≠ x) : upd f x v i = f i := by simp [upd, h]

def sumN : Nat → (Nat → Int) → Int
  | 0, _ => 0
  | n + 1, f => sumN n f + f n
theorem sumN_congr {f g : Nat → Int} : ∀ n, (∀ i, i < n → f i = g i) → sumN n f = sumN n g
  | 0, _ => rfl
  | n + 1, h => by rw [sumN, sumN, sumN_congr n (fun i hi => h i (by omega)), h n (by omega)]
theorem sumN_one {f g : Nat → Int} (x : Nat) (h : ∀ i, i ≠ x → g i = f i) : ∀ n, sumN n g = sumN n f + if x < n then g x - f x else 0
  | 0 => by simp [sumN]
  | n + 1 => by
    rw [sumN, sumN, sumN_one x h n]
    by_cases hx : x < n
    · rw [if_pos hx, if_pos (by omega), h n (by omega)]; omega
    · by_cases he : x = n
      · subst he; rw [if_neg hx, if_pos (by omega)]; omega
      · rw [if_neg hx, if_neg (by omega), h n (by omega)]; omega
theorem sumN_nonneg {f : Nat → Int} : ∀ n, (∀ i, i < n → 0 ≤ f i) → 0 ≤ sumN n f
  | 0, _ => Int.le_refl _
  | n + 1, h => by have := sumN_nonneg n (fun i hi => h i (by omega)); have := h n (by omega); rw [sumN]; omega
theorem sumN_zero {f : Nat → Int} : ∀ n, (∀ i, i < n → 0 ≤ f i) → sumN n f ≤ 0 → ∀ i, i < n → f i = 0
  | 0, _, _, i, hi => by omega
  | n + 1, h, hs, i, hi => by
    have h1 := sumN_nonneg n (fun i hi => h i (by omega))
    have h2 := h n (by omega)
    rw [sumN] at hs
    by_cases he : i = n
    · subst he; omega
    · exact sumN_zero n (fun i hi => h i (by omega)) (by omega) i (by omega)

/-- How many messages of a colour. -/
def cntc (q : Bool) : List (Int × Bool) → Int
  | [] => 0
  | m :: l => (if m.2 = q then 1 else 0) + cntc q l
theorem cntc_nonneg (q : Bool) : ∀ l, 0 ≤ cntc q l
  | [] => Int.le_refl _
  | m :: l => by have := cntc_nonneg q l; rw [cntc]; split <;> omega
theorem cntc_snoc (q : Bool) (m : Int × Bool) : ∀ l, cntc q (l ++ [m]) = cntc q l + if m.2 = q then 1 else 0
  | [] => by simp [cntc]
  | a :: l => by rw [List.cons_append, cntc, cntc_snoc q m l, cntc]; omega
theorem cntc_none {q : Bool} : ∀ {l : List (Int × Bool)}, cntc q l = 0 → ∀ m ∈ l, m.2 ≠ q
  | [], _, m, hm => by cases hm
  | a :: l, h, m, hm => by
    have h1 := cntc_nonneg q l
    rw [cntc] at h
    by_cases ha : a.2 = q
    · rw [if_pos ha] at h; omega
    · rw [if_neg ha] at h
      rcases List.mem_cons.1 hm with rfl | hm
      · exact ha
      · exact cntc_none (by omega) m hm

/-- The world: what is held, what is on its way, the tallies, the token, what was told. -/
structure WS where
  held : Nat → List Int
  mov : Nat → List (Int × Bool)
  ta : Nat → Ta
  at' : Nat
  cnt : Bool
  sum : Int
  least : Int
  g : Int
def leastL (l : List Int) : Int := l.foldl min never
theorem foldl_min_le (l : List Int) : ∀ z : Int, l.foldl min z ≤ z ∧ ∀ h ∈ l, l.foldl min z ≤ h := by
  induction l with
  | nil => exact fun z => ⟨Int.le_refl _, fun h hh => by cases hh⟩
  | cons a l ih =>
    intro z
    obtain ⟨h1, h2⟩ := ih (min z a)
    refine ⟨by rw [List.foldl_cons]; omega, fun h hh => ?_⟩
    rw [List.foldl_cons]
    rcases List.mem_cons.1 hh with rfl | hh
    · omega
    · exact h2 h hh
theorem leastL_le {l : List Int} {h : Int} (hh : h ∈ l) : leastL l ≤ h := (foldl_min_le l never).2 h hh
theorem foldl_min_ge {b : Int} : ∀ (l : List Int) (z : Int), b ≤ z → (∀ h ∈ l, b ≤ h) → b ≤ l.foldl min z
  | [], _, hz, _ => hz
  | a :: l, z, hz, hl => by
    rw [List.foldl_cons]
    have := hl a (by simp)
    exact foldl_min_ge l _ (by omega) (fun h hh => hl h (by simp [hh]))
theorem leastL_ge {b : Int} {l : List Int} (hb : b ≤ never) (hl : ∀ h ∈ l, b ≤ h) : b ≤ leastL l := foldl_min_ge l never hb hl

/-- What bounds a time behind the places that have been counted. -/
def Bnd (N : Nat) (s : WS) (z : Int) : Prop := s.least ≤ z ∨ ∃ k, s.at' ≤ k ∧ k < N ∧ (s.ta k).red ≤ z
/-- Who has turned. -/
def Tur (s : WS) (k : Nat) : Prop := s.cnt = true ∨ k < s.at'
structure Inv (N : Nat) (s : WS) (c : Bool) : Prop where
  count : ∀ q, sumN N (fun i => (s.ta i).net q) = sumN N (fun i => cntc q (s.mov i))
  at_lt : s.at' < N
  col : ∀ i, i < N → (Tur s i → (s.ta i).c = !c) ∧ (¬ Tur s i → (s.ta i).c = c)
  r : ∀ i, i < N → ∀ m ∈ s.mov i, m.2 = !c → ∃ k, k < N ∧ Tur s k ∧ (s.ta k).red ≤ m.1
  tg : ∀ k, k < N → Tur s k → s.g ≤ (s.ta k).red
  lg : s.cnt = true → s.g ≤ s.least
  gN : s.g ≤ never
  m1 : s.cnt = true → sumN s.at' (fun i => (s.ta i).net c) ≤ s.sum
  i1 : s.cnt = true → s.sum = sumN s.at' (fun i => (s.ta i).net c) → (∀ i, i < s.at' → ∀ h ∈ s.held i, Bnd N s h) ∧ ∀ i, i < N → ∀ m ∈ s.mov i, m.2 = !c → Bnd N s m.1
  gh : ∀ i, i < N → ∀ h ∈ s.held i, s.g ≤ h
  gm : ∀ i, i < N → ∀ m ∈ s.mov i, s.g ≤ m.1

theorem bool_ne {a b : Bool} (h : a ≠ b) : a = !b := by cases a <;> cases b <;> simp_all
theorem not_self (c : Bool) : c ≠ !c := by cases c <;> simp

/-- A send. -/
def WS.send (s : WS) (x y : Nat) (h : Int) (hs : List Int) (d : Int) : WS :=
  { s with held := upd s.held x hs, mov := upd s.mov y (s.mov y ++ [(h + d, (s.ta x).c)]), ta := upd s.ta x ((s.ta x).sent (h + d)) }
theorem red_sent (s : WS) (x : Nat) (a : Int) (k : Nat) : ((upd s.ta x ((s.ta x).sent a)) k).red ≤ (s.ta k).red := by
  by_cases h : k = x
  · subst h; rw [upd_same]; simp only [Ta.sent]; omega
  · rw [upd_ne _ _ h]; exact Int.le_refl _
theorem Inv.send {N : Nat} {s : WS} {c : Bool} (I : Inv N s c) {x y : Nat} (hx : x < N) (hy : y < N) {h : Int} {hs : List Int} (hh : s.held x = h :: hs) {d : Int} (hd : 0 < d) : Inv N (s.send x y h hs d) c := by
  have hg : s.g ≤ h := I.gh x hx h (by rw [hh]; simp)
  have hc : ∀ i, ((s.send x y h hs d).ta i).c = (s.ta i).c := fun i => by
    show (upd s.ta x ((s.ta x).sent (h + d)) i).c = _
    by_cases e : i = x
    · subst e; rw [upd_same]; rfl
    · rw [upd_ne _ _ e]
  have hred : ∀ k, ((s.send x y h hs d).ta k).red ≤ (s.ta k).red := fun k => red_sent s x (h + d) k
  have hredx : ((s.send x y h hs d).ta x).red ≤ h + d := by
    show (upd s.ta x ((s.ta x).sent (h + d)) x).red ≤ _
    rw [upd_same]; simp only [Ta.sent]; omega
  have htur : ∀ k, Tur (s.send x y h hs d) k = Tur s k := fun k => rfl
  have hbnd : ∀ z, Bnd N s z → Bnd N (s.send x y h hs d) z := fun z hz => hz.imp id (fun ⟨k, h1, h2, h3⟩ => ⟨k, h1, h2, Int.le_trans (hred k) h3⟩)
  have hnet : ∀ q i, ((s.send x y h hs d).ta i).net q = (s.ta i).net q + if i = x ∧ (s.ta x).c = q then 1 else 0 := fun q i => by
    show (upd s.ta x ((s.ta x).sent (h + d)) i).net q = _
    by_cases e : i = x
    · subst e; rw [upd_same, net_sent]; simp
    · rw [upd_ne _ _ e]; simp [e]
  have hmovm : ∀ i, ∀ m ∈ (s.send x y h hs d).mov i, m ∈ s.mov i ∨ m = (h + d, (s.ta x).c) := fun i m hm => by
    change m ∈ upd s.mov y (s.mov y ++ [(h + d, (s.ta x).c)]) i at hm
    by_cases e : i = y
    · subst e; rw [upd_same] at hm
      rcases List.mem_append.1 hm with hm | hm
      · exact .inl hm
      · exact .inr (List.mem_singleton.1 hm)
    · rw [upd_ne _ _ e] at hm; exact .inl hm
  have hheld : ∀ i, ∀ z ∈ (s.send x y h hs d).held i, z ∈ s.held i := fun i z hz => by
    change z ∈ upd s.held x hs i at hz
    by_cases e : i = x
    · subst e; rw [upd_same] at hz; rw [hh]; exact List.mem_cons_of_mem _ hz
    · rwa [upd_ne _ _ e] at hz
  refine ⟨fun q => ?_, I.at_lt, fun i hi => by rw [hc, htur]; exact I.col i hi, fun i hi m hm hq => ?_, fun k hk ht => ?_, I.lg, I.gN, fun hcn => ?_, fun hcn he => ?_, fun i hi z hz => I.gh i hi z (hheld i z hz), fun i hi m hm => ?_⟩
  · have h1 := sumN_one (f := fun i => (s.ta i).net q) (g := fun i => ((s.send x y h hs d).ta i).net q) x (fun i hi => by rw [hnet]; simp [hi]) N
    have h2 := sumN_one (f := fun i => cntc q (s.mov i)) (g := fun i => cntc q ((s.send x y h hs d).mov i)) y (fun i hi => by show cntc q (upd s.mov y _ i) = _; rw [upd_ne _ _ hi]) N
    rw [h1, h2, I.count q, if_pos hx, if_pos hy]
    have e1 := hnet q x
    have e2 : cntc q ((s.send x y h hs d).mov y) = cntc q (s.mov y) + if (s.ta x).c = q then 1 else 0 := by
      show cntc q (upd s.mov y _ y) = _
      rw [upd_same, cntc_snoc]
    rw [e1, e2]
    simp
    split <;> omega
  · rcases hmovm i m hm with hm | rfl
    · obtain ⟨k, h1, h2, h3⟩ := I.r i hi m hm hq
      exact ⟨k, h1, h2, Int.le_trans (hred k) h3⟩
    · refine ⟨x, hx, ?_, hredx⟩
      rw [htur]
      refine Classical.byContradiction fun hn => ?_
      have := (I.col x hx).2 hn
      simp only at hq
      rw [this] at hq
      exact not_self c hq
  · have h1 := I.tg k hk ht
    show s.g ≤ (upd s.ta x ((s.ta x).sent (h + d)) k).red
    by_cases e : k = x
    · subst e; rw [upd_same]; simp only [Ta.sent]; omega
    · rw [upd_ne _ _ e]; exact h1
  · have hsame : sumN (s.send x y h hs d).at' (fun i => ((s.send x y h hs d).ta i).net c) = sumN s.at' (fun i => (s.ta i).net c) := sumN_congr _ (fun i hi => by
      rw [hnet, if_neg, Int.add_zero]
      rintro ⟨_, e⟩
      have := (I.col x hx).1 (.inl hcn)
      rw [this] at e
      exact not_self c e.symm)
    rw [hsame]
    exact I.m1 hcn
  · have hsame : sumN (s.send x y h hs d).at' (fun i => ((s.send x y h hs d).ta i).net c) = sumN s.at' (fun i => (s.ta i).net c) := sumN_congr _ (fun i hi => by
      rw [hnet, if_neg, Int.add_zero]
      rintro ⟨_, e⟩
      have := (I.col x hx).1 (.inl hcn)
      rw [this] at e
      exact not_self c e.symm)
    rw [hsame] at he
    obtain ⟨j1, j2⟩ := I.i1 hcn he
    refine ⟨fun i hi z hz => hbnd z (j1 i hi z (hheld i z hz)), fun i hi m hm hq => ?_⟩
    rcases hmovm i m hm with hm | rfl
    · exact hbnd _ (j2 i hi m hm hq)
    · by_cases hxa : x < s.at'
      · rcases hbnd h (j1 x hxa h (by rw [hh]; simp)) with e | ⟨k, e1, e2, e3⟩
        · exact .inl (Int.le_trans e (by simp only; omega))
        · exact .inr ⟨k, e1, e2, Int.le_trans e3 (by simp only; omega)⟩
      · exact .inr ⟨x, by show s.at' ≤ x; omega, hx, hredx⟩
  · rcases hmovm i m hm with hm | rfl
    · exact I.gm i hi m hm
    · show s.g ≤ h + d
      omega

/-- A message comes. -/
def WS.get (s : WS) (x : Nat) (m : Int × Bool) (ms : List (Int × Bool)) : WS :=
  { s with held := upd s.held x (m.1 :: s.held x), mov := upd s.mov x ms, ta := upd s.ta x ((s.ta x).got m.2) }
theorem Inv.get {N : Nat} {s : WS} {c : Bool} (I : Inv N s c) {x : Nat} (hx : x < N) {m0 : Int × Bool} {ms : List (Int × Bool)} (hm0 : s.mov x = m0 :: ms) : Inv N (s.get x m0 ms) c := by
  have hmem : m0 ∈ s.mov x := by rw [hm0]; simp
  have hc : ∀ i, ((s.get x m0 ms).ta i).c = (s.ta i).c := fun i => by
    show (upd s.ta x ((s.ta x).got m0.2) i).c = _
    by_cases e : i = x
    · subst e; rw [upd_same]; rfl
    · rw [upd_ne _ _ e]
  have hred : ∀ i, ((s.get x m0 ms).ta i).red = (s.ta i).red := fun i => by
    show (upd s.ta x ((s.ta x).got m0.2) i).red = _
    by_cases e : i = x
    · subst e; rw [upd_same]; rfl
    · rw [upd_ne _ _ e]
  have htur : ∀ k, Tur (s.get x m0 ms) k = Tur s k := fun k => rfl
  have hbnd : ∀ z, Bnd N s z → Bnd N (s.get x m0 ms) z := fun z hz => hz.imp id (fun ⟨k, h1, h2, h3⟩ => ⟨k, h1, h2, by rw [hred]; exact h3⟩)
  have hnet : ∀ q i, ((s.get x m0 ms).ta i).net q = (s.ta i).net q - if i = x ∧ m0.2 = q then 1 else 0 := fun q i => by
    show (upd s.ta x ((s.ta x).got m0.2) i).net q = _
    by_cases e : i = x
    · subst e; rw [upd_same, net_got]; simp
    · rw [upd_ne _ _ e]; simp [e]
  have hmovm : ∀ i, ∀ m ∈ (s.get x m0 ms).mov i, m ∈ s.mov i := fun i m hm => by
    change m ∈ upd s.mov x ms i at hm
    by_cases e : i = x
    · subst e; rw [upd_same] at hm; rw [hm0]; exact List.mem_cons_of_mem _ hm
    · rwa [upd_ne _ _ e] at hm
  have hheld : ∀ i, ∀ z ∈ (s.get x m0 ms).held i, z ∈ s.held i ∨ (i = x ∧ z = m0.1) := fun i z hz => by
    change z ∈ upd s.held x (m0.1 :: s.held x) i at hz
    by_cases e : i = x
    · subst e; rw [upd_same] at hz
      rcases List.mem_cons.1 hz with hz | hz
      · exact .inr ⟨rfl, hz⟩
      · exact .inl hz
    · rw [upd_ne _ _ e] at hz; exact .inl hz
  have hsum : ∀ n, sumN n (fun i => ((s.get x m0 ms).ta i).net c) = sumN n (fun i => (s.ta i).net c) - if x < n ∧ m0.2 = c then 1 else 0 := fun n => by
    rw [sumN_one (f := fun i => (s.ta i).net c) x (fun i hi => by rw [hnet]; simp [hi]) n, hnet]
    by_cases e1 : x < n <;> by_cases e2 : m0.2 = c <;> simp [e1, e2] <;> omega
  refine ⟨fun q => ?_, I.at_lt, fun i hi => by rw [hc, htur]; exact I.col i hi, fun i hi m hm hq => ?_, fun k hk ht => by rw [hred]; exact I.tg k hk ht, I.lg, I.gN, fun hcn => ?_, fun hcn he => ?_, fun i hi z hz => ?_, fun i hi m hm => I.gm i hi m (hmovm i m hm)⟩
  · have h1 := sumN_one (f := fun i => (s.ta i).net q) (g := fun i => ((s.get x m0 ms).ta i).net q) x (fun i hi => by rw [hnet]; simp [hi]) N
    have h2 := sumN_one (f := fun i => cntc q (s.mov i)) (g := fun i => cntc q ((s.get x m0 ms).mov i)) x (fun i hi => by show cntc q (upd s.mov x _ i) = _; rw [upd_ne _ _ hi]) N
    rw [h1, h2, I.count q, if_pos hx, if_pos hx]
    have e1 := hnet q x
    have e2 : cntc q (s.mov x) = (if m0.2 = q then 1 else 0) + cntc q ((s.get x m0 ms).mov x) := by
      show _ = _ + cntc q (upd s.mov x _ x)
      rw [upd_same, hm0, cntc]
    rw [e1, e2]
    by_cases e3 : m0.2 = q <;> simp [e3] <;> omega
  · obtain ⟨k, h1, h2, h3⟩ := I.r i hi m (hmovm i m hm) hq
    exact ⟨k, h1, h2, by rw [hred]; exact h3⟩
  · have h1 := I.m1 hcn
    rw [hsum]
    show _ ≤ s.sum
    change sumN s.at' _ - _ ≤ _
    split <;> omega
  · have h1 := I.m1 hcn
    rw [hsum] at he
    change s.sum = sumN s.at' _ - (if x < s.at' ∧ m0.2 = c then 1 else 0) at he
    by_cases hold : x < s.at' ∧ m0.2 = c
    · rw [if_pos hold] at he; omega
    · rw [if_neg hold] at he
      obtain ⟨j1, j2⟩ := I.i1 hcn (by omega)
      refine ⟨fun i hi z hz => ?_, fun i hi m hm hq => hbnd _ (j2 i hi m (hmovm i m hm) hq)⟩
      rcases hheld i z hz with hz | ⟨rfl, rfl⟩
      · exact hbnd z (j1 i hi z hz)
      · exact hbnd _ (j2 i hx m0 hmem (bool_ne (fun e => hold ⟨hi, e⟩)))
  · rcases hheld i z hz with hz | ⟨rfl, rfl⟩
    · exact I.gh i hi z hz
    · exact I.gm i hx m0 hmem
end Col
end Go.Proofs.Ytobfjfmaicmkdaa
