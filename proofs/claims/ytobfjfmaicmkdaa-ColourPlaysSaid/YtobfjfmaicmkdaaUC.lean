
/-
  Two colours: how large numbers become, how long lists. Plain data; no program in this text.
-/
import Derived.Test.YtobfjfmaicmkdaaUB
namespace Go.Proofs.Ytobfjfmaicmkdaa
namespace Col

/-- Behind st steps. -/
structure Bds (N st : Nat) (s : WS) : Prop where
  hb : ∀ i, i < N → ∀ z ∈ s.held i, 0 ≤ z ∧ z ≤ 255 + 5 * (st : Int)
  mb : ∀ i, i < N → ∀ m ∈ s.mov i, 0 ≤ m.1 ∧ m.1 ≤ 255 + 5 * (st : Int)
  nb : ∀ i, i < N → ∀ q, -(st : Int) ≤ (s.ta i).net q ∧ (s.ta i).net q ≤ (st : Int)
  sb : -(1000 * (s.at' : Int)) ≤ s.sum ∧ s.sum ≤ 1000 * (s.at' : Int)
  hl : ∀ i, i < N → (s.held i).length ≤ 50 + st
  ml : ∀ i, i < N → (s.mov i).length ≤ st
  rb : ∀ i, i < N → (s.ta i).red ≤ never
  lb : s.least ≤ never
section
variable {N st : Nat} {s : WS}
theorem Bds.send (B : Bds N st s) {x y : Nat} (hx : x < N) (hy : y < N) {h : Int} {hs : List Int} (hh : s.held x = h :: hs) {d : Int} (hd : 0 < d) (hd5 : d ≤ 5) : Bds N (st + 1) (s.send x y h hs d) := by
  have h0 := B.hb x hx h (by rw [hh]; simp)
  have hlx := B.hl x hx
  rw [hh] at hlx
  refine ⟨fun i hi z hz => ?_, fun i hi m hm => ?_, fun i hi q => ?_, B.sb, fun i hi => ?_, fun i hi => ?_, fun i hi => ?_, B.lb⟩
  · have : z ∈ s.held i := by
      change z ∈ upd s.held x hs i at hz
      by_cases e : i = x
      · subst e; rw [upd_same] at hz; rw [hh]; exact List.mem_cons_of_mem _ hz
      · rwa [upd_ne _ _ e] at hz
    have := B.hb i hi z this
    omega
  · change m ∈ upd s.mov y (s.mov y ++ [(h + d, (s.ta x).c)]) i at hm
    by_cases e : i = y
    · subst e; rw [upd_same] at hm
      rcases List.mem_append.1 hm with hm | hm
      · have := B.mb i hi m hm; omega
      · rw [List.mem_singleton.1 hm]; simp only; omega
    · rw [upd_ne _ _ e] at hm
      have := B.mb i hi m hm; omega
  · have h1 := B.nb i hi q
    show -((st + 1 : Nat) : Int) ≤ (upd s.ta x ((s.ta x).sent (h + d)) i).net q ∧ (upd s.ta x ((s.ta x).sent (h + d)) i).net q ≤ ((st + 1 : Nat) : Int)
    by_cases e : i = x
    · subst e; rw [upd_same, net_sent]; split <;> omega
    · rw [upd_ne _ _ e]; omega
  · have h1 := B.hl i hi
    show (upd s.held x hs i).length ≤ _
    by_cases e : i = x
    · subst e; rw [upd_same]; simp at hlx; omega
    · rw [upd_ne _ _ e]; omega
  · have h1 := B.ml i hi
    show (upd s.mov y (s.mov y ++ [(h + d, (s.ta x).c)]) i).length ≤ _
    by_cases e : i = y
    · subst e; rw [upd_same]; simp; omega
    · rw [upd_ne _ _ e]; omega
  · exact Int.le_trans (red_sent s x (h + d) i) (B.rb i hi)
theorem Bds.get (B : Bds N st s) {x : Nat} (hx : x < N) {m0 : Int × Bool} {ms : List (Int × Bool)} (hm0 : s.mov x = m0 :: ms) : Bds N (st + 1) (s.get x m0 ms) := by
  have h0 := B.mb x hx m0 (by rw [hm0]; simp)
  have hlx := B.ml x hx
  rw [hm0] at hlx
  refine ⟨fun i hi z hz => ?_, fun i hi m hm => ?_, fun i hi q => ?_, B.sb, fun i hi => ?_, fun i hi => ?_, fun i hi => ?_, B.lb⟩
  · change z ∈ upd s.held x (m0.1 :: s.held x) i at hz
    by_cases e : i = x
    · subst e; rw [upd_same] at hz
      rcases List.mem_cons.1 hz with rfl | hz
      · omega
      · have := B.hb i hi z hz; omega
    · rw [upd_ne _ _ e] at hz
      have := B.hb i hi z hz; omega
  · have : m ∈ s.mov i := by
      change m ∈ upd s.mov x ms i at hm
      by_cases e : i = x
      · subst e; rw [upd_same] at hm; rw [hm0]; exact List.mem_cons_of_mem _ hm
      · rwa [upd_ne _ _ e] at hm
    have := B.mb i hi m this
    omega
  · have h1 := B.nb i hi q
    show -((st + 1 : Nat) : Int) ≤ (upd s.ta x ((s.ta x).got m0.2) i).net q ∧ (upd s.ta x ((s.ta x).got m0.2) i).net q ≤ ((st + 1 : Nat) : Int)
    by_cases e : i = x
    · subst e; rw [upd_same, net_got]; split <;> omega
    · rw [upd_ne _ _ e]; omega
  · have h1 := B.hl i hi
    show (upd s.held x (m0.1 :: s.held x) i).length ≤ _
    by_cases e : i = x
    · subst e; rw [upd_same]; simp; omega
    · rw [upd_ne _ _ e]; omega
  · have h1 := B.ml i hi
    show (upd s.mov x ms i).length ≤ _
    by_cases e : i = x
    · subst e; rw [upd_same]; simp at hlx; omega
    · rw [upd_ne _ _ e]; omega
  · show (upd s.ta x ((s.ta x).got m0.2) i).red ≤ never
    by_cases e : i = x
    · subst e; rw [upd_same]; exact B.rb i hi
    · rw [upd_ne _ _ e]; exact B.rb i hi
/-- What a visit leaves of it: whatever it makes of the token, within these bounds. -/
theorem Bds.of_ta (B : Bds N st s) {s' : WS} (e1 : s'.held = s.held) (e2 : s'.mov = s.mov) (hn : ∀ i q, (s'.ta i).net q = (s.ta i).net q) (hr : ∀ i, i < N → (s'.ta i).red ≤ never) (hs : -(1000 * (s'.at' : Int)) ≤ s'.sum ∧ s'.sum ≤ 1000 * (s'.at' : Int)) (hl : s'.least ≤ never) : Bds N (st + 1) s' := by
  refine ⟨fun i hi z hz => ?_, fun i hi m hm => ?_, fun i hi q => ?_, hs, fun i hi => ?_, fun i hi => ?_, hr, hl⟩
  · rw [e1] at hz; have := B.hb i hi z hz; omega
  · rw [e2] at hm; have := B.mb i hi m hm; omega
  · rw [hn]; have := B.nb i hi q; omega
  · rw [e1]; have := B.hl i hi; omega
  · rw [e2]; have := B.ml i hi; omega
theorem flip_never (B : Bds N st s) (i : Nat) (hi : i < N) : (upd s.ta s.at' (s.ta s.at').flip i).red ≤ never := by
  by_cases e : i = s.at'
  · subst e; rw [upd_same]; exact Int.le_refl _
  · rw [upd_ne _ _ e]; exact B.rb i hi
theorem Bds.turn (B : Bds N st s) : Bds N (st + 1) s.turn :=
  B.of_ta rfl rfl (fun i q => flip_net s q i) (flip_never B) (by have := B.sb; show -(1000 * ((s.at' + 1 : Nat) : Int)) ≤ s.sum ∧ s.sum ≤ 1000 * ((s.at' + 1 : Nat) : Int); omega) B.lb
theorem Bds.turnLast (B : Bds N st s) : Bds N (st + 1) s.turnLast :=
  B.of_ta rfl rfl (fun i q => flip_net s q i) (flip_never B) ⟨by show -(1000 * ((0 : Nat) : Int)) ≤ (0 : Int); omega, by show (0 : Int) ≤ 1000 * ((0 : Nat) : Int); omega⟩ (Int.le_refl _)
theorem Bds.sum1 (B : Bds N st s) (h9 : st ≤ 1000) (ha : s.at' < N) : -(1000 * ((s.at' + 1 : Nat) : Int)) ≤ s.sum1 ∧ s.sum1 ≤ 1000 * ((s.at' + 1 : Nat) : Int) := by
  have h1 := B.sb
  have h2 := B.nb s.at' ha (!(s.ta s.at').c)
  unfold WS.sum1
  omega
theorem Bds.count (B : Bds N st s) (h9 : st ≤ 1000) (ha : s.at' < N) : Bds N (st + 1) s.count :=
  B.of_ta rfl rfl (fun _ _ => rfl) B.rb (B.sum1 h9 ha) (by have := least1_le s; have := B.lb; show s.least1 ≤ never; omega)
theorem Bds.again (B : Bds N st s) : Bds N (st + 1) s.again :=
  B.of_ta rfl rfl (fun _ _ => rfl) B.rb ⟨by show -(1000 * ((0 : Nat) : Int)) ≤ (0 : Int); omega, by show (0 : Int) ≤ 1000 * ((0 : Nat) : Int); omega⟩ (Int.le_refl _)
theorem Bds.done (B : Bds N st s) : Bds N (st + 1) s.done :=
  B.of_ta rfl rfl (fun _ _ => rfl) B.rb ⟨by show -(1000 * ((0 : Nat) : Int)) ≤ (0 : Int); omega, by show (0 : Int) ≤ 1000 * ((0 : Nat) : Int); omega⟩ (Int.le_refl _)
theorem Bds.start {held : Nat → List Int} (hh : ∀ i, i < N → ∀ z ∈ held i, 0 ≤ z ∧ z ≤ 255) (hl : ∀ i, i < N → (held i).length ≤ 50) : Bds N 0 (WS.start held) :=
  ⟨fun i hi z hz => (by have := hh i hi z hz; omega), fun i hi m hm => (by cases hm), fun i hi q => (by cases q <;> exact ⟨by show -((0 : Nat) : Int) ≤ (0 : Int); omega, by show (0 : Int) ≤ ((0 : Nat) : Int); omega⟩), ⟨by show -(1000 * ((0 : Nat) : Int)) ≤ (0 : Int); omega, by show (0 : Int) ≤ 1000 * ((0 : Nat) : Int); omega⟩, fun i hi => (by have := hl i hi; show (held i).length ≤ 50 + 0; omega), fun i hi => Nat.le_refl _, fun i hi => Int.le_refl _, Int.le_refl _⟩
end
/-- The token ahead of what is visited, and behind it, in the document's words: what comes of a visit. -/
inductive Visited (N : Nat) (s : WS) : WS → Int → Bool → Prop
  | turn (h : s.cnt = false) (hl : s.at' + 1 < N) : Visited N s s.turn 0 false
  | turnLast (h : s.cnt = false) (hl : s.at' + 1 = N) : Visited N s s.turnLast 0 false
  | count (h : s.cnt = true) (hl : s.at' + 1 < N) : Visited N s s.count 0 false
  | again (h : s.cnt = true) (hl : s.at' + 1 = N) (h0 : s.sum1 ≠ 0) : Visited N s s.again 0 false
  | done (h : s.cnt = true) (hl : s.at' + 1 = N) (h0 : s.sum1 = 0) : Visited N s s.done s.least1 true
/-- A visit keeps all; what it tells is no less than what was told, and bounds what is held and what is on its way. -/
theorem Inv.visited {N st : Nat} {s s' : WS} {c over : Bool} {told : Int} (I : Inv N s c) (B : Bds N st s) (h9 : st ≤ 1000) (V : Visited N s s' told over) :
    (∃ c', Inv N s' c') ∧ Bds N (st + 1) s' ∧ (over = true → s.g ≤ told ∧ s'.g = told ∧ (∀ i, i < N → ∀ z ∈ s.held i, told ≤ z) ∧ ∀ i, i < N → ∀ m ∈ s.mov i, told ≤ m.1) ∧ (over = false → s'.g = s.g) ∧ s'.held = s.held ∧ s'.mov = s.mov := by
  cases V with
  | turn h hl => exact ⟨⟨c, I.turn h hl⟩, B.turn, fun e => (by cases e), fun _ => rfl, rfl, rfl⟩
  | turnLast h hl => exact ⟨⟨c, I.turnLast h hl⟩, B.turnLast, fun e => (by cases e), fun _ => rfl, rfl, rfl⟩
  | count h hl => exact ⟨⟨c, I.count' h hl⟩, B.count h9 I.at_lt, fun e => (by cases e), fun _ => rfl, rfl, rfl⟩
  | again h hl h0 => exact ⟨⟨c, I.again h⟩, B.again, fun e => (by cases e), fun _ => rfl, rfl, rfl⟩
  | done h hl h0 =>
    obtain ⟨_, h2, h3⟩ := I.told h hl h0
    exact ⟨⟨!c, I.done h hl h0⟩, B.done, fun _ => ⟨I.least1_ge h, rfl, h2, h3⟩, fun e => (by cases e), rfl, rfl⟩
end Col
end Go.Proofs.Ytobfjfmaicmkdaa
