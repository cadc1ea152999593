
/-
  The contract of flawOf, at every instruction: nil where the instruction may be, else a flaw.
-/
import Derived.Test.YtofkfajcibdneaaDoorCode3
namespace Go.Proofs.YtofkfajcibdneaaDoor
open Go.ChangeShapes Go.WideShapes Go.ChangeAt Go.RowKit Go.Sort


/-- Where an instruction lies. -/
def InsAt (w : World) (b o : Nat) (i : I) : Prop :=
  b < w.heap.size ∧ w.cell? ⟨b, o, none⟩ = some (.int .i64 i.op) ∧ w.cell? ⟨b, o + 1, none⟩ = some (.int .i64 i.a) ∧ w.cell? ⟨b, o + 2, none⟩ = some (.int .i64 i.b) ∧ w.cell? ⟨b, o + 3, none⟩ = some (.int .i64 i.c)
theorem InsAt.read {w w' : World} {b o : Nat} {i : I} (h : InsAt w b o i) (hr : Read w w') : InsAt w' b o i := by
  obtain ⟨hb, h0, h1, h2, h3⟩ := h
  exact ⟨Nat.lt_of_lt_of_le hb hr.size, hr.cell hb h0, hr.cell hb h1, hr.cell hb h2, hr.cell hb h3⟩
theorem InsAt.mk (w : World) (op a b c : Int) : InsAt (w.alloc (.cells #[.int .i64 op, .int .i64 a, .int .i64 b, .int .i64 c] 41)) w.heap.size 0 ⟨op, a, b, c⟩ := by
  refine ⟨by simp, ?_, ?_, ?_, ?_⟩ <;> simp
/-- The fields of an instruction are what its kind asks; what must be 0 is left aside. -/
def fieldsB (i : I) (n : Int) : Bool :=
  if i.op = 3 ∨ i.op = 4 ∨ i.op = 5 ∨ i.op = 6 ∨ i.op = 7 ∨ i.op = 8 ∨ i.op = 9 ∨ i.op = 12 then regB i.c && (regB i.b && regB i.a)
  else if i.op = 2 ∨ i.op = 13 then regB i.b && regB i.a
  else if i.op = 14 ∨ i.op = 15 ∨ i.op = 16 then regB i.a
  else if i.op = 1 then regB i.a && wordB i.b
  else if i.op = 11 then regB i.a && placeB i.b n
  else if i.op = 10 then placeB i.a n
  else decide (i.op = 0)
/-- An instruction may be, in a program of n. -/
def mayB (i : I) (n : Int) : Bool := restI i && fieldsB i n
/-- A flaw's value, or none. -/
def FlawQ (m : Bool) (e : Ending) : Prop := match m with
  | true => e = .returned .nilIface
  | false => ∃ s, e = .returned (.iface 100 (.agg #[.string s]))
theorem FlawQ.no (s : ByteArray) : FlawQ false (.returned (.iface 100 (.agg #[.string s]))) := ⟨s, rfl⟩
theorem FlawQ.yes : FlawQ true (.returned .nilIface) := rfl


theorem flawOf_3 (a b c n : Int) (w : World) : Calls Tryd.prog 42 #[.agg #[.int .i64 3, .int .i64 a, .int .i64 b, .int .i64 c], .int .i64 n] w fun e w' => FlawQ (mayB ⟨3, a, b, c⟩ n) e ∧ Read w w' := by
  have hat := InsAt.mk w 3 a b c
  have hrest := fun w => isRestZero_any ⟨3, a, b, c⟩ w
  simp only [I.val] at hrest
  have hm : mayB ⟨3, a, b, c⟩ n = (restI ⟨3, a, b, c⟩ && (regB c && (regB b && (regB a)))) := by
    simp [mayB, fieldsB]
  have h0 : restI ⟨3, a, b, c⟩ = true := rfl
  rw [h0] at hrest hm
  clear h0
  cases h1 : regB c with
  | false =>
    have hm : mayB ⟨3, a, b, c⟩ n = false := by rw [hm]; simp [h1]
    rw [hm]
    clear hm
    go_enter Tryd.func42, Tryd.ntmps42
    go_wp2_with (first
      | (go_at_call 54; refine (hrest _).mono ?_; rintro e w' ⟨rfl, hr⟩; obtain ⟨-, x0, x1, x2, x3⟩ := hat.read hr)
      | (go_at_call 55; refine (isRegister_any _ _).mono ?_; rintro e w' ⟨rfl, rfl⟩)
      | (go_at_call 56; refine (isWord_any _ _).mono ?_; rintro e w' ⟨rfl, rfl⟩)
      | (go_at_call 57; refine (isPlace_any _ _ _).mono ?_; rintro e w' ⟨rfl, rfl⟩))
    go_ret
    exact ⟨FlawQ.no _, (Read.mk _ _).trans hr⟩
  | true =>
    cases h2 : regB b with
    | false =>
      have hm : mayB ⟨3, a, b, c⟩ n = false := by rw [hm]; simp [h1, h2]
      rw [hm]
      clear hm
      go_enter Tryd.func42, Tryd.ntmps42
      go_wp2_with (first
      | (go_at_call 54; refine (hrest _).mono ?_; rintro e w' ⟨rfl, hr⟩; obtain ⟨-, x0, x1, x2, x3⟩ := hat.read hr)
      | (go_at_call 55; refine (isRegister_any _ _).mono ?_; rintro e w' ⟨rfl, rfl⟩)
      | (go_at_call 56; refine (isWord_any _ _).mono ?_; rintro e w' ⟨rfl, rfl⟩)
      | (go_at_call 57; refine (isPlace_any _ _ _).mono ?_; rintro e w' ⟨rfl, rfl⟩))
      go_ret
      exact ⟨FlawQ.no _, (Read.mk _ _).trans hr⟩
    | true =>
      cases h3 : regB a with
      | false =>
        have hm : mayB ⟨3, a, b, c⟩ n = false := by rw [hm]; simp [h1, h2, h3]
        rw [hm]
        clear hm
        go_enter Tryd.func42, Tryd.ntmps42
        go_wp2_with (first
      | (go_at_call 54; refine (hrest _).mono ?_; rintro e w' ⟨rfl, hr⟩; obtain ⟨-, x0, x1, x2, x3⟩ := hat.read hr)
      | (go_at_call 55; refine (isRegister_any _ _).mono ?_; rintro e w' ⟨rfl, rfl⟩)
      | (go_at_call 56; refine (isWord_any _ _).mono ?_; rintro e w' ⟨rfl, rfl⟩)
      | (go_at_call 57; refine (isPlace_any _ _ _).mono ?_; rintro e w' ⟨rfl, rfl⟩))
        go_ret
        exact ⟨FlawQ.no _, (Read.mk _ _).trans hr⟩
      | true =>
        have hm : mayB ⟨3, a, b, c⟩ n = true := by rw [hm]; simp [h1, h2, h3]
        rw [hm]
        clear hm
        go_enter Tryd.func42, Tryd.ntmps42
        go_wp2_with (first
      | (go_at_call 54; refine (hrest _).mono ?_; rintro e w' ⟨rfl, hr⟩; obtain ⟨-, x0, x1, x2, x3⟩ := hat.read hr)
      | (go_at_call 55; refine (isRegister_any _ _).mono ?_; rintro e w' ⟨rfl, rfl⟩)
      | (go_at_call 56; refine (isWord_any _ _).mono ?_; rintro e w' ⟨rfl, rfl⟩)
      | (go_at_call 57; refine (isPlace_any _ _ _).mono ?_; rintro e w' ⟨rfl, rfl⟩))
        go_ret
        exact ⟨FlawQ.yes, (Read.mk _ _).trans hr⟩


theorem flawOf_4 (a b c n : Int) (w : World) : Calls Tryd.prog 42 #[.agg #[.int .i64 4, .int .i64 a, .int .i64 b, .int .i64 c], .int .i64 n] w fun e w' => FlawQ (mayB ⟨4, a, b, c⟩ n) e ∧ Read w w' := by
  have hat := InsAt.mk w 4 a b c
  have hrest := fun w => isRestZero_any ⟨4, a, b, c⟩ w
  simp only [I.val] at hrest
  have hm : mayB ⟨4, a, b, c⟩ n = (restI ⟨4, a, b, c⟩ && (regB c && (regB b && (regB a)))) := by
    simp [mayB, fieldsB]
  have h0 : restI ⟨4, a, b, c⟩ = true := rfl
  rw [h0] at hrest hm
  clear h0
  cases h1 : regB c with
  | false =>
    have hm : mayB ⟨4, a, b, c⟩ n = false := by rw [hm]; simp [h1]
    rw [hm]
    clear hm
    go_enter Tryd.func42, Tryd.ntmps42
    go_wp2_with (first
      | (go_at_call 54; refine (hrest _).mono ?_; rintro e w' ⟨rfl, hr⟩; obtain ⟨-, x0, x1, x2, x3⟩ := hat.read hr)
      | (go_at_call 55; refine (isRegister_any _ _).mono ?_; rintro e w' ⟨rfl, rfl⟩)
      | (go_at_call 56; refine (isWord_any _ _).mono ?_; rintro e w' ⟨rfl, rfl⟩)
      | (go_at_call 57; refine (isPlace_any _ _ _).mono ?_; rintro e w' ⟨rfl, rfl⟩))
    go_ret
    exact ⟨FlawQ.no _, (Read.mk _ _).trans hr⟩
  | true =>
    cases h2 : regB b with
    | false =>
      have hm : mayB ⟨4, a, b, c⟩ n = false := by rw [hm]; simp [h1, h2]
      rw [hm]
      clear hm
      go_enter Tryd.func42, Tryd.ntmps42
      go_wp2_with (first
      | (go_at_call 54; refine (hrest _).mono ?_; rintro e w' ⟨rfl, hr⟩; obtain ⟨-, x0, x1, x2, x3⟩ := hat.read hr)
      | (go_at_call 55; refine (isRegister_any _ _).mono ?_; rintro e w' ⟨rfl, rfl⟩)
      | (go_at_call 56; refine (isWord_any _ _).mono ?_; rintro e w' ⟨rfl, rfl⟩)
      | (go_at_call 57; refine (isPlace_any _ _ _).mono ?_; rintro e w' ⟨rfl, rfl⟩))
      go_ret
      exact ⟨FlawQ.no _, (Read.mk _ _).trans hr⟩
    | true =>
      cases h3 : regB a with
      | false =>
        have hm : mayB ⟨4, a, b, c⟩ n = false := by rw [hm]; simp [h1, h2, h3]
        rw [hm]
        clear hm
        go_enter Tryd.func42, Tryd.ntmps42
        go_wp2_with (first
      | (go_at_call 54; refine (hrest _).mono ?_; rintro e w' ⟨rfl, hr⟩; obtain ⟨-, x0, x1, x2, x3⟩ := hat.read hr)
      | (go_at_call 55; refine (isRegister_any _ _).mono ?_; rintro e w' ⟨rfl, rfl⟩)
      | (go_at_call 56; refine (isWord_any _ _).mono ?_; rintro e w' ⟨rfl, rfl⟩)
      | (go_at_call 57; refine (isPlace_any _ _ _).mono ?_; rintro e w' ⟨rfl, rfl⟩))
        go_ret
        exact ⟨FlawQ.no _, (Read.mk _ _).trans hr⟩
      | true =>
        have hm : mayB ⟨4, a, b, c⟩ n = true := by rw [hm]; simp [h1, h2, h3]
        rw [hm]
        clear hm
        go_enter Tryd.func42, Tryd.ntmps42
        go_wp2_with (first
      | (go_at_call 54; refine (hrest _).mono ?_; rintro e w' ⟨rfl, hr⟩; obtain ⟨-, x0, x1, x2, x3⟩ := hat.read hr)
      | (go_at_call 55; refine (isRegister_any _ _).mono ?_; rintro e w' ⟨rfl, rfl⟩)
      | (go_at_call 56; refine (isWord_any _ _).mono ?_; rintro e w' ⟨rfl, rfl⟩)
      | (go_at_call 57; refine (isPlace_any _ _ _).mono ?_; rintro e w' ⟨rfl, rfl⟩))
        go_ret
        exact ⟨FlawQ.yes, (Read.mk _ _).trans hr⟩


theorem flawOf_5 (a b c n : Int) (w : World) : Calls Tryd.prog 42 #[.agg #[.int .i64 5, .int .i64 a, .int .i64 b, .int .i64 c], .int .i64 n] w fun e w' => FlawQ (mayB ⟨5, a, b, c⟩ n) e ∧ Read w w' := by
  have hat := InsAt.mk w 5 a b c
  have hrest := fun w => isRestZero_any ⟨5, a, b, c⟩ w
  simp only [I.val] at hrest
  have hm : mayB ⟨5, a, b, c⟩ n = (restI ⟨5, a, b, c⟩ && (regB c && (regB b && (regB a)))) := by
    simp [mayB, fieldsB]
  have h0 : restI ⟨5, a, b, c⟩ = true := rfl
  rw [h0] at hrest hm
  clear h0
  cases h1 : regB c with
  | false =>
    have hm : mayB ⟨5, a, b, c⟩ n = false := by rw [hm]; simp [h1]
    rw [hm]
    clear hm
    go_enter Tryd.func42, Tryd.ntmps42
    go_wp2_with (first
      | (go_at_call 54; refine (hrest _).mono ?_; rintro e w' ⟨rfl, hr⟩; obtain ⟨-, x0, x1, x2, x3⟩ := hat.read hr)
      | (go_at_call 55; refine (isRegister_any _ _).mono ?_; rintro e w' ⟨rfl, rfl⟩)
      | (go_at_call 56; refine (isWord_any _ _).mono ?_; rintro e w' ⟨rfl, rfl⟩)
      | (go_at_call 57; refine (isPlace_any _ _ _).mono ?_; rintro e w' ⟨rfl, rfl⟩))
    go_ret
    exact ⟨FlawQ.no _, (Read.mk _ _).trans hr⟩
  | true =>
    cases h2 : regB b with
    | false =>
      have hm : mayB ⟨5, a, b, c⟩ n = false := by rw [hm]; simp [h1, h2]
      rw [hm]
      clear hm
      go_enter Tryd.func42, Tryd.ntmps42
      go_wp2_with (first
      | (go_at_call 54; refine (hrest _).mono ?_; rintro e w' ⟨rfl, hr⟩; obtain ⟨-, x0, x1, x2, x3⟩ := hat.read hr)
      | (go_at_call 55; refine (isRegister_any _ _).mono ?_; rintro e w' ⟨rfl, rfl⟩)
      | (go_at_call 56; refine (isWord_any _ _).mono ?_; rintro e w' ⟨rfl, rfl⟩)
      | (go_at_call 57; refine (isPlace_any _ _ _).mono ?_; rintro e w' ⟨rfl, rfl⟩))
      go_ret
      exact ⟨FlawQ.no _, (Read.mk _ _).trans hr⟩
    | true =>
      cases h3 : regB a with
      | false =>
        have hm : mayB ⟨5, a, b, c⟩ n = false := by rw [hm]; simp [h1, h2, h3]
        rw [hm]
        clear hm
        go_enter Tryd.func42, Tryd.ntmps42
        go_wp2_with (first
      | (go_at_call 54; refine (hrest _).mono ?_; rintro e w' ⟨rfl, hr⟩; obtain ⟨-, x0, x1, x2, x3⟩ := hat.read hr)
      | (go_at_call 55; refine (isRegister_any _ _).mono ?_; rintro e w' ⟨rfl, rfl⟩)
      | (go_at_call 56; refine (isWord_any _ _).mono ?_; rintro e w' ⟨rfl, rfl⟩)
      | (go_at_call 57; refine (isPlace_any _ _ _).mono ?_; rintro e w' ⟨rfl, rfl⟩))
        go_ret
        exact ⟨FlawQ.no _, (Read.mk _ _).trans hr⟩
      | true =>
        have hm : mayB ⟨5, a, b, c⟩ n = true := by rw [hm]; simp [h1, h2, h3]
        rw [hm]
        clear hm
        go_enter Tryd.func42, Tryd.ntmps42
        go_wp2_with (first
      | (go_at_call 54; refine (hrest _).mono ?_; rintro e w' ⟨rfl, hr⟩; obtain ⟨-, x0, x1, x2, x3⟩ := hat.read hr)
      | (go_at_call 55; refine (isRegister_any _ _).mono ?_; rintro e w' ⟨rfl, rfl⟩)
      | (go_at_call 56; refine (isWord_any _ _).mono ?_; rintro e w' ⟨rfl, rfl⟩)
      | (go_at_call 57; refine (isPlace_any _ _ _).mono ?_; rintro e w' ⟨rfl, rfl⟩))
        go_ret
        exact ⟨FlawQ.yes, (Read.mk _ _).trans hr⟩


theorem flawOf_6 (a b c n : Int) (w : World) : Calls Tryd.prog 42 #[.agg #[.int .i64 6, .int .i64 a, .int .i64 b, .int .i64 c], .int .i64 n] w fun e w' => FlawQ (mayB ⟨6, a, b, c⟩ n) e ∧ Read w w' := by
  have hat := InsAt.mk w 6 a b c
  have hrest := fun w => isRestZero_any ⟨6, a, b, c⟩ w
  simp only [I.val] at hrest
  have hm : mayB ⟨6, a, b, c⟩ n = (restI ⟨6, a, b, c⟩ && (regB c && (regB b && (regB a)))) := by
    simp [mayB, fieldsB]
  have h0 : restI ⟨6, a, b, c⟩ = true := rfl
  rw [h0] at hrest hm
  clear h0
  cases h1 : regB c with
  | false =>
    have hm : mayB ⟨6, a, b, c⟩ n = false := by rw [hm]; simp [h1]
    rw [hm]
    clear hm
    go_enter Tryd.func42, Tryd.ntmps42
    go_wp2_with (first
      | (go_at_call 54; refine (hrest _).mono ?_; rintro e w' ⟨rfl, hr⟩; obtain ⟨-, x0, x1, x2, x3⟩ := hat.read hr)
      | (go_at_call 55; refine (isRegister_any _ _).mono ?_; rintro e w' ⟨rfl, rfl⟩)
      | (go_at_call 56; refine (isWord_any _ _).mono ?_; rintro e w' ⟨rfl, rfl⟩)
      | (go_at_call 57; refine (isPlace_any _ _ _).mono ?_; rintro e w' ⟨rfl, rfl⟩))
    go_ret
    exact ⟨FlawQ.no _, (Read.mk _ _).trans hr⟩
  | true =>
    cases h2 : regB b with
    | false =>
      have hm : mayB ⟨6, a, b, c⟩ n = false := by rw [hm]; simp [h1, h2]
      rw [hm]
      clear hm
      go_enter Tryd.func42, Tryd.ntmps42
      go_wp2_with (first
      | (go_at_call 54; refine (hrest _).mono ?_; rintro e w' ⟨rfl, hr⟩; obtain ⟨-, x0, x1, x2, x3⟩ := hat.read hr)
      | (go_at_call 55; refine (isRegister_any _ _).mono ?_; rintro e w' ⟨rfl, rfl⟩)
      | (go_at_call 56; refine (isWord_any _ _).mono ?_; rintro e w' ⟨rfl, rfl⟩)
      | (go_at_call 57; refine (isPlace_any _ _ _).mono ?_; rintro e w' ⟨rfl, rfl⟩))
      go_ret
      exact ⟨FlawQ.no _, (Read.mk _ _).trans hr⟩
    | true =>
      cases h3 : regB a with
      | false =>
        have hm : mayB ⟨6, a, b, c⟩ n = false := by rw [hm]; simp [h1, h2, h3]
        rw [hm]
        clear hm
        go_enter Tryd.func42, Tryd.ntmps42
        go_wp2_with (first
      | (go_at_call 54; refine (hrest _).mono ?_; rintro e w' ⟨rfl, hr⟩; obtain ⟨-, x0, x1, x2, x3⟩ := hat.read hr)
      | (go_at_call 55; refine (isRegister_any _ _).mono ?_; rintro e w' ⟨rfl, rfl⟩)
      | (go_at_call 56; refine (isWord_any _ _).mono ?_; rintro e w' ⟨rfl, rfl⟩)
      | (go_at_call 57; refine (isPlace_any _ _ _).mono ?_; rintro e w' ⟨rfl, rfl⟩))
        go_ret
        exact ⟨FlawQ.no _, (Read.mk _ _).trans hr⟩
      | true =>
        have hm : mayB ⟨6, a, b, c⟩ n = true := by rw [hm]; simp [h1, h2, h3]
        rw [hm]
        clear hm
        go_enter Tryd.func42, Tryd.ntmps42
        go_wp2_with (first
      | (go_at_call 54; refine (hrest _).mono ?_; rintro e w' ⟨rfl, hr⟩; obtain ⟨-, x0, x1, x2, x3⟩ := hat.read hr)
      | (go_at_call 55; refine (isRegister_any _ _).mono ?_; rintro e w' ⟨rfl, rfl⟩)
      | (go_at_call 56; refine (isWord_any _ _).mono ?_; rintro e w' ⟨rfl, rfl⟩)
      | (go_at_call 57; refine (isPlace_any _ _ _).mono ?_; rintro e w' ⟨rfl, rfl⟩))
        go_ret
        exact ⟨FlawQ.yes, (Read.mk _ _).trans hr⟩


theorem flawOf_7 (a b c n : Int) (w : World) : Calls Tryd.prog 42 #[.agg #[.int .i64 7, .int .i64 a, .int .i64 b, .int .i64 c], .int .i64 n] w fun e w' => FlawQ (mayB ⟨7, a, b, c⟩ n) e ∧ Read w w' := by
  have hat := InsAt.mk w 7 a b c
  have hrest := fun w => isRestZero_any ⟨7, a, b, c⟩ w
  simp only [I.val] at hrest
  have hm : mayB ⟨7, a, b, c⟩ n = (restI ⟨7, a, b, c⟩ && (regB c && (regB b && (regB a)))) := by
    simp [mayB, fieldsB]
  have h0 : restI ⟨7, a, b, c⟩ = true := rfl
  rw [h0] at hrest hm
  clear h0
  cases h1 : regB c with
  | false =>
    have hm : mayB ⟨7, a, b, c⟩ n = false := by rw [hm]; simp [h1]
    rw [hm]
    clear hm
    go_enter Tryd.func42, Tryd.ntmps42
    go_wp2_with (first
      | (go_at_call 54; refine (hrest _).mono ?_; rintro e w' ⟨rfl, hr⟩; obtain ⟨-, x0, x1, x2, x3⟩ := hat.read hr)
      | (go_at_call 55; refine (isRegister_any _ _).mono ?_; rintro e w' ⟨rfl, rfl⟩)
      | (go_at_call 56; refine (isWord_any _ _).mono ?_; rintro e w' ⟨rfl, rfl⟩)
      | (go_at_call 57; refine (isPlace_any _ _ _).mono ?_; rintro e w' ⟨rfl, rfl⟩))
    go_ret
    exact ⟨FlawQ.no _, (Read.mk _ _).trans hr⟩
  | true =>
    cases h2 : regB b with
    | false =>
      have hm : mayB ⟨7, a, b, c⟩ n = false := by rw [hm]; simp [h1, h2]
      rw [hm]
      clear hm
      go_enter Tryd.func42, Tryd.ntmps42
      go_wp2_with (first
      | (go_at_call 54; refine (hrest _).mono ?_; rintro e w' ⟨rfl, hr⟩; obtain ⟨-, x0, x1, x2, x3⟩ := hat.read hr)
      | (go_at_call 55; refine (isRegister_any _ _).mono ?_; rintro e w' ⟨rfl, rfl⟩)
      | (go_at_call 56; refine (isWord_any _ _).mono ?_; rintro e w' ⟨rfl, rfl⟩)
      | (go_at_call 57; refine (isPlace_any _ _ _).mono ?_; rintro e w' ⟨rfl, rfl⟩))
      go_ret
      exact ⟨FlawQ.no _, (Read.mk _ _).trans hr⟩
    | true =>
      cases h3 : regB a with
      | false =>
        have hm : mayB ⟨7, a, b, c⟩ n = false := by rw [hm]; simp [h1, h2, h3]
        rw [hm]
        clear hm
        go_enter Tryd.func42, Tryd.ntmps42
        go_wp2_with (first
      | (go_at_call 54; refine (hrest _).mono ?_; rintro e w' ⟨rfl, hr⟩; obtain ⟨-, x0, x1, x2, x3⟩ := hat.read hr)
      | (go_at_call 55; refine (isRegister_any _ _).mono ?_; rintro e w' ⟨rfl, rfl⟩)
      | (go_at_call 56; refine (isWord_any _ _).mono ?_; rintro e w' ⟨rfl, rfl⟩)
      | (go_at_call 57; refine (isPlace_any _ _ _).mono ?_; rintro e w' ⟨rfl, rfl⟩))
        go_ret
        exact ⟨FlawQ.no _, (Read.mk _ _).trans hr⟩
      | true =>
        have hm : mayB ⟨7, a, b, c⟩ n = true := by rw [hm]; simp [h1, h2, h3]
        rw [hm]
        clear hm
        go_enter Tryd.func42, Tryd.ntmps42
        go_wp2_with (first
      | (go_at_call 54; refine (hrest _).mono ?_; rintro e w' ⟨rfl, hr⟩; obtain ⟨-, x0, x1, x2, x3⟩ := hat.read hr)
      | (go_at_call 55; refine (isRegister_any _ _).mono ?_; rintro e w' ⟨rfl, rfl⟩)
      | (go_at_call 56; refine (isWord_any _ _).mono ?_; rintro e w' ⟨rfl, rfl⟩)
      | (go_at_call 57; refine (isPlace_any _ _ _).mono ?_; rintro e w' ⟨rfl, rfl⟩))
        go_ret
        exact ⟨FlawQ.yes, (Read.mk _ _).trans hr⟩


theorem flawOf_8 (a b c n : Int) (w : World) : Calls Tryd.prog 42 #[.agg #[.int .i64 8, .int .i64 a, .int .i64 b, .int .i64 c], .int .i64 n] w fun e w' => FlawQ (mayB ⟨8, a, b, c⟩ n) e ∧ Read w w' := by
  have hat := InsAt.mk w 8 a b c
  have hrest := fun w => isRestZero_any ⟨8, a, b, c⟩ w
  simp only [I.val] at hrest
  have hm : mayB ⟨8, a, b, c⟩ n = (restI ⟨8, a, b, c⟩ && (regB c && (regB b && (regB a)))) := by
    simp [mayB, fieldsB]
  have h0 : restI ⟨8, a, b, c⟩ = true := rfl
  rw [h0] at hrest hm
  clear h0
  cases h1 : regB c with
  | false =>
    have hm : mayB ⟨8, a, b, c⟩ n = false := by rw [hm]; simp [h1]
    rw [hm]
    clear hm
    go_enter Tryd.func42, Tryd.ntmps42
    go_wp2_with (first
      | (go_at_call 54; refine (hrest _).mono ?_; rintro e w' ⟨rfl, hr⟩; obtain ⟨-, x0, x1, x2, x3⟩ := hat.read hr)
      | (go_at_call 55; refine (isRegister_any _ _).mono ?_; rintro e w' ⟨rfl, rfl⟩)
      | (go_at_call 56; refine (isWord_any _ _).mono ?_; rintro e w' ⟨rfl, rfl⟩)
      | (go_at_call 57; refine (isPlace_any _ _ _).mono ?_; rintro e w' ⟨rfl, rfl⟩))
    go_ret
    exact ⟨FlawQ.no _, (Read.mk _ _).trans hr⟩
  | true =>
    cases h2 : regB b with
    | false =>
      have hm : mayB ⟨8, a, b, c⟩ n = false := by rw [hm]; simp [h1, h2]
      rw [hm]
      clear hm
      go_enter Tryd.func42, Tryd.ntmps42
      go_wp2_with (first
      | (go_at_call 54; refine (hrest _).mono ?_; rintro e w' ⟨rfl, hr⟩; obtain ⟨-, x0, x1, x2, x3⟩ := hat.read hr)
      | (go_at_call 55; refine (isRegister_any _ _).mono ?_; rintro e w' ⟨rfl, rfl⟩)
      | (go_at_call 56; refine (isWord_any _ _).mono ?_; rintro e w' ⟨rfl, rfl⟩)
      | (go_at_call 57; refine (isPlace_any _ _ _).mono ?_; rintro e w' ⟨rfl, rfl⟩))
      go_ret
      exact ⟨FlawQ.no _, (Read.mk _ _).trans hr⟩
    | true =>
      cases h3 : regB a with
      | false =>
        have hm : mayB ⟨8, a, b, c⟩ n = false := by rw [hm]; simp [h1, h2, h3]
        rw [hm]
        clear hm
        go_enter Tryd.func42, Tryd.ntmps42
        go_wp2_with (first
      | (go_at_call 54; refine (hrest _).mono ?_; rintro e w' ⟨rfl, hr⟩; obtain ⟨-, x0, x1, x2, x3⟩ := hat.read hr)
      | (go_at_call 55; refine (isRegister_any _ _).mono ?_; rintro e w' ⟨rfl, rfl⟩)
      | (go_at_call 56; refine (isWord_any _ _).mono ?_; rintro e w' ⟨rfl, rfl⟩)
      | (go_at_call 57; refine (isPlace_any _ _ _).mono ?_; rintro e w' ⟨rfl, rfl⟩))
        go_ret
        exact ⟨FlawQ.no _, (Read.mk _ _).trans hr⟩
      | true =>
        have hm : mayB ⟨8, a, b, c⟩ n = true := by rw [hm]; simp [h1, h2, h3]
        rw [hm]
        clear hm
        go_enter Tryd.func42, Tryd.ntmps42
        go_wp2_with (first
      | (go_at_call 54; refine (hrest _).mono ?_; rintro e w' ⟨rfl, hr⟩; obtain ⟨-, x0, x1, x2, x3⟩ := hat.read hr)
      | (go_at_call 55; refine (isRegister_any _ _).mono ?_; rintro e w' ⟨rfl, rfl⟩)
      | (go_at_call 56; refine (isWord_any _ _).mono ?_; rintro e w' ⟨rfl, rfl⟩)
      | (go_at_call 57; refine (isPlace_any _ _ _).mono ?_; rintro e w' ⟨rfl, rfl⟩))
        go_ret
        exact ⟨FlawQ.yes, (Read.mk _ _).trans hr⟩


theorem flawOf_9 (a b c n : Int) (w : World) : Calls Tryd.prog 42 #[.agg #[.int .i64 9, .int .i64 a, .int .i64 b, .int .i64 c], .int .i64 n] w fun e w' => FlawQ (mayB ⟨9, a, b, c⟩ n) e ∧ Read w w' := by
  have hat := InsAt.mk w 9 a b c
  have hrest := fun w => isRestZero_any ⟨9, a, b, c⟩ w
  simp only [I.val] at hrest
  have hm : mayB ⟨9, a, b, c⟩ n = (restI ⟨9, a, b, c⟩ && (regB c && (regB b && (regB a)))) := by
    simp [mayB, fieldsB]
  have h0 : restI ⟨9, a, b, c⟩ = true := rfl
  rw [h0] at hrest hm
  clear h0
  cases h1 : regB c with
  | false =>
    have hm : mayB ⟨9, a, b, c⟩ n = false := by rw [hm]; simp [h1]
    rw [hm]
    clear hm
    go_enter Tryd.func42, Tryd.ntmps42
    go_wp2_with (first
      | (go_at_call 54; refine (hrest _).mono ?_; rintro e w' ⟨rfl, hr⟩; obtain ⟨-, x0, x1, x2, x3⟩ := hat.read hr)
      | (go_at_call 55; refine (isRegister_any _ _).mono ?_; rintro e w' ⟨rfl, rfl⟩)
      | (go_at_call 56; refine (isWord_any _ _).mono ?_; rintro e w' ⟨rfl, rfl⟩)
      | (go_at_call 57; refine (isPlace_any _ _ _).mono ?_; rintro e w' ⟨rfl, rfl⟩))
    go_ret
    exact ⟨FlawQ.no _, (Read.mk _ _).trans hr⟩
  | true =>
    cases h2 : regB b with
    | false =>
      have hm : mayB ⟨9, a, b, c⟩ n = false := by rw [hm]; simp [h1, h2]
      rw [hm]
      clear hm
      go_enter Tryd.func42, Tryd.ntmps42
      go_wp2_with (first
      | (go_at_call 54; refine (hrest _).mono ?_; rintro e w' ⟨rfl, hr⟩; obtain ⟨-, x0, x1, x2, x3⟩ := hat.read hr)
      | (go_at_call 55; refine (isRegister_any _ _).mono ?_; rintro e w' ⟨rfl, rfl⟩)
      | (go_at_call 56; refine (isWord_any _ _).mono ?_; rintro e w' ⟨rfl, rfl⟩)
      | (go_at_call 57; refine (isPlace_any _ _ _).mono ?_; rintro e w' ⟨rfl, rfl⟩))
      go_ret
      exact ⟨FlawQ.no _, (Read.mk _ _).trans hr⟩
    | true =>
      cases h3 : regB a with
      | false =>
        have hm : mayB ⟨9, a, b, c⟩ n = false := by rw [hm]; simp [h1, h2, h3]
        rw [hm]
        clear hm
        go_enter Tryd.func42, Tryd.ntmps42
        go_wp2_with (first
      | (go_at_call 54; refine (hrest _).mono ?_; rintro e w' ⟨rfl, hr⟩; obtain ⟨-, x0, x1, x2, x3⟩ := hat.read hr)
      | (go_at_call 55; refine (isRegister_any _ _).mono ?_; rintro e w' ⟨rfl, rfl⟩)
      | (go_at_call 56; refine (isWord_any _ _).mono ?_; rintro e w' ⟨rfl, rfl⟩)
      | (go_at_call 57; refine (isPlace_any _ _ _).mono ?_; rintro e w' ⟨rfl, rfl⟩))
        go_ret
        exact ⟨FlawQ.no _, (Read.mk _ _).trans hr⟩
      | true =>
        have hm : mayB ⟨9, a, b, c⟩ n = true := by rw [hm]; simp [h1, h2, h3]
        rw [hm]
        clear hm
        go_enter Tryd.func42, Tryd.ntmps42
        go_wp2_with (first
      | (go_at_call 54; refine (hrest _).mono ?_; rintro e w' ⟨rfl, hr⟩; obtain ⟨-, x0, x1, x2, x3⟩ := hat.read hr)
      | (go_at_call 55; refine (isRegister_any _ _).mono ?_; rintro e w' ⟨rfl, rfl⟩)
      | (go_at_call 56; refine (isWord_any _ _).mono ?_; rintro e w' ⟨rfl, rfl⟩)
      | (go_at_call 57; refine (isPlace_any _ _ _).mono ?_; rintro e w' ⟨rfl, rfl⟩))
        go_ret
        exact ⟨FlawQ.yes, (Read.mk _ _).trans hr⟩


theorem flawOf_12 (a b c n : Int) (w : World) : Calls Tryd.prog 42 #[.agg #[.int .i64 12, .int .i64 a, .int .i64 b, .int .i64 c], .int .i64 n] w fun e w' => FlawQ (mayB ⟨12, a, b, c⟩ n) e ∧ Read w w' := by
  have hat := InsAt.mk w 12 a b c
  have hrest := fun w => isRestZero_any ⟨12, a, b, c⟩ w
  simp only [I.val] at hrest
  have hm : mayB ⟨12, a, b, c⟩ n = (restI ⟨12, a, b, c⟩ && (regB c && (regB b && (regB a)))) := by
    simp [mayB, fieldsB]
  have h0 : restI ⟨12, a, b, c⟩ = true := rfl
  rw [h0] at hrest hm
  clear h0
  cases h1 : regB c with
  | false =>
    have hm : mayB ⟨12, a, b, c⟩ n = false := by rw [hm]; simp [h1]
    rw [hm]
    clear hm
    go_enter Tryd.func42, Tryd.ntmps42
    go_wp2_with (first
      | (go_at_call 54; refine (hrest _).mono ?_; rintro e w' ⟨rfl, hr⟩; obtain ⟨-, x0, x1, x2, x3⟩ := hat.read hr)
      | (go_at_call 55; refine (isRegister_any _ _).mono ?_; rintro e w' ⟨rfl, rfl⟩)
      | (go_at_call 56; refine (isWord_any _ _).mono ?_; rintro e w' ⟨rfl, rfl⟩)
      | (go_at_call 57; refine (isPlace_any _ _ _).mono ?_; rintro e w' ⟨rfl, rfl⟩))
    go_ret
    exact ⟨FlawQ.no _, (Read.mk _ _).trans hr⟩
  | true =>
    cases h2 : regB b with
    | false =>
      have hm : mayB ⟨12, a, b, c⟩ n = false := by rw [hm]; simp [h1, h2]
      rw [hm]
      clear hm
      go_enter Tryd.func42, Tryd.ntmps42
      go_wp2_with (first
      | (go_at_call 54; refine (hrest _).mono ?_; rintro e w' ⟨rfl, hr⟩; obtain ⟨-, x0, x1, x2, x3⟩ := hat.read hr)
      | (go_at_call 55; refine (isRegister_any _ _).mono ?_; rintro e w' ⟨rfl, rfl⟩)
      | (go_at_call 56; refine (isWord_any _ _).mono ?_; rintro e w' ⟨rfl, rfl⟩)
      | (go_at_call 57; refine (isPlace_any _ _ _).mono ?_; rintro e w' ⟨rfl, rfl⟩))
      go_ret
      exact ⟨FlawQ.no _, (Read.mk _ _).trans hr⟩
    | true =>
      cases h3 : regB a with
      | false =>
        have hm : mayB ⟨12, a, b, c⟩ n = false := by rw [hm]; simp [h1, h2, h3]
        rw [hm]
        clear hm
        go_enter Tryd.func42, Tryd.ntmps42
        go_wp2_with (first
      | (go_at_call 54; refine (hrest _).mono ?_; rintro e w' ⟨rfl, hr⟩; obtain ⟨-, x0, x1, x2, x3⟩ := hat.read hr)
      | (go_at_call 55; refine (isRegister_any _ _).mono ?_; rintro e w' ⟨rfl, rfl⟩)
      | (go_at_call 56; refine (isWord_any _ _).mono ?_; rintro e w' ⟨rfl, rfl⟩)
      | (go_at_call 57; refine (isPlace_any _ _ _).mono ?_; rintro e w' ⟨rfl, rfl⟩))
        go_ret
        exact ⟨FlawQ.no _, (Read.mk _ _).trans hr⟩
      | true =>
        have hm : mayB ⟨12, a, b, c⟩ n = true := by rw [hm]; simp [h1, h2, h3]
        rw [hm]
        clear hm
        go_enter Tryd.func42, Tryd.ntmps42
        go_wp2_with (first
      | (go_at_call 54; refine (hrest _).mono ?_; rintro e w' ⟨rfl, hr⟩; obtain ⟨-, x0, x1, x2, x3⟩ := hat.read hr)
      | (go_at_call 55; refine (isRegister_any _ _).mono ?_; rintro e w' ⟨rfl, rfl⟩)
      | (go_at_call 56; refine (isWord_any _ _).mono ?_; rintro e w' ⟨rfl, rfl⟩)
      | (go_at_call 57; refine (isPlace_any _ _ _).mono ?_; rintro e w' ⟨rfl, rfl⟩))
        go_ret
        exact ⟨FlawQ.yes, (Read.mk _ _).trans hr⟩


theorem flawOf_2 (a b c n : Int) (w : World) : Calls Tryd.prog 42 #[.agg #[.int .i64 2, .int .i64 a, .int .i64 b, .int .i64 c], .int .i64 n] w fun e w' => FlawQ (mayB ⟨2, a, b, c⟩ n) e ∧ Read w w' := by
  have hat := InsAt.mk w 2 a b c
  have hrest := fun w => isRestZero_any ⟨2, a, b, c⟩ w
  simp only [I.val] at hrest
  have hm : mayB ⟨2, a, b, c⟩ n = (restI ⟨2, a, b, c⟩ && (regB b && (regB a))) := by
    simp [mayB, fieldsB]
  cases h1 : restI ⟨2, a, b, c⟩ with
  | false =>
    rw [h1] at hrest
    have hm : mayB ⟨2, a, b, c⟩ n = false := by rw [hm]; simp [h1]
    rw [hm]
    clear hm h1
    go_enter Tryd.func42, Tryd.ntmps42
    go_wp2_with (first
      | (go_at_call 54; refine (hrest _).mono ?_; rintro e w' ⟨rfl, hr⟩; obtain ⟨-, x0, x1, x2, x3⟩ := hat.read hr)
      | (go_at_call 55; refine (isRegister_any _ _).mono ?_; rintro e w' ⟨rfl, rfl⟩)
      | (go_at_call 56; refine (isWord_any _ _).mono ?_; rintro e w' ⟨rfl, rfl⟩)
      | (go_at_call 57; refine (isPlace_any _ _ _).mono ?_; rintro e w' ⟨rfl, rfl⟩))
    go_ret
    exact ⟨FlawQ.no _, (Read.mk _ _).trans hr⟩
  | true =>
    rw [h1] at hrest
    cases h2 : regB b with
    | false =>
      have hm : mayB ⟨2, a, b, c⟩ n = false := by rw [hm]; simp [h1, h2]
      rw [hm]
      clear hm h1
      go_enter Tryd.func42, Tryd.ntmps42
      go_wp2_with (first
      | (go_at_call 54; refine (hrest _).mono ?_; rintro e w' ⟨rfl, hr⟩; obtain ⟨-, x0, x1, x2, x3⟩ := hat.read hr)
      | (go_at_call 55; refine (isRegister_any _ _).mono ?_; rintro e w' ⟨rfl, rfl⟩)
      | (go_at_call 56; refine (isWord_any _ _).mono ?_; rintro e w' ⟨rfl, rfl⟩)
      | (go_at_call 57; refine (isPlace_any _ _ _).mono ?_; rintro e w' ⟨rfl, rfl⟩))
      go_ret
      exact ⟨FlawQ.no _, (Read.mk _ _).trans hr⟩
    | true =>
      cases h3 : regB a with
      | false =>
        have hm : mayB ⟨2, a, b, c⟩ n = false := by rw [hm]; simp [h1, h2, h3]
        rw [hm]
        clear hm h1
        go_enter Tryd.func42, Tryd.ntmps42
        go_wp2_with (first
      | (go_at_call 54; refine (hrest _).mono ?_; rintro e w' ⟨rfl, hr⟩; obtain ⟨-, x0, x1, x2, x3⟩ := hat.read hr)
      | (go_at_call 55; refine (isRegister_any _ _).mono ?_; rintro e w' ⟨rfl, rfl⟩)
      | (go_at_call 56; refine (isWord_any _ _).mono ?_; rintro e w' ⟨rfl, rfl⟩)
      | (go_at_call 57; refine (isPlace_any _ _ _).mono ?_; rintro e w' ⟨rfl, rfl⟩))
        go_ret
        exact ⟨FlawQ.no _, (Read.mk _ _).trans hr⟩
      | true =>
        have hm : mayB ⟨2, a, b, c⟩ n = true := by rw [hm]; simp [h1, h2, h3]
        rw [hm]
        clear hm h1
        go_enter Tryd.func42, Tryd.ntmps42
        go_wp2_with (first
      | (go_at_call 54; refine (hrest _).mono ?_; rintro e w' ⟨rfl, hr⟩; obtain ⟨-, x0, x1, x2, x3⟩ := hat.read hr)
      | (go_at_call 55; refine (isRegister_any _ _).mono ?_; rintro e w' ⟨rfl, rfl⟩)
      | (go_at_call 56; refine (isWord_any _ _).mono ?_; rintro e w' ⟨rfl, rfl⟩)
      | (go_at_call 57; refine (isPlace_any _ _ _).mono ?_; rintro e w' ⟨rfl, rfl⟩))
        go_ret
        exact ⟨FlawQ.yes, (Read.mk _ _).trans hr⟩


theorem flawOf_13 (a b c n : Int) (w : World) : Calls Tryd.prog 42 #[.agg #[.int .i64 13, .int .i64 a, .int .i64 b, .int .i64 c], .int .i64 n] w fun e w' => FlawQ (mayB ⟨13, a, b, c⟩ n) e ∧ Read w w' := by
  have hat := InsAt.mk w 13 a b c
  have hrest := fun w => isRestZero_any ⟨13, a, b, c⟩ w
  simp only [I.val] at hrest
  have hm : mayB ⟨13, a, b, c⟩ n = (restI ⟨13, a, b, c⟩ && (regB b && (regB a))) := by
    simp [mayB, fieldsB]
  cases h1 : restI ⟨13, a, b, c⟩ with
  | false =>
    rw [h1] at hrest
    have hm : mayB ⟨13, a, b, c⟩ n = false := by rw [hm]; simp [h1]
    rw [hm]
    clear hm h1
    go_enter Tryd.func42, Tryd.ntmps42
    go_wp2_with (first
      | (go_at_call 54; refine (hrest _).mono ?_; rintro e w' ⟨rfl, hr⟩; obtain ⟨-, x0, x1, x2, x3⟩ := hat.read hr)
      | (go_at_call 55; refine (isRegister_any _ _).mono ?_; rintro e w' ⟨rfl, rfl⟩)
      | (go_at_call 56; refine (isWord_any _ _).mono ?_; rintro e w' ⟨rfl, rfl⟩)
      | (go_at_call 57; refine (isPlace_any _ _ _).mono ?_; rintro e w' ⟨rfl, rfl⟩))
    go_ret
    exact ⟨FlawQ.no _, (Read.mk _ _).trans hr⟩
  | true =>
    rw [h1] at hrest
    cases h2 : regB b with
    | false =>
      have hm : mayB ⟨13, a, b, c⟩ n = false := by rw [hm]; simp [h1, h2]
      rw [hm]
      clear hm h1
      go_enter Tryd.func42, Tryd.ntmps42
      go_wp2_with (first
      | (go_at_call 54; refine (hrest _).mono ?_; rintro e w' ⟨rfl, hr⟩; obtain ⟨-, x0, x1, x2, x3⟩ := hat.read hr)
      | (go_at_call 55; refine (isRegister_any _ _).mono ?_; rintro e w' ⟨rfl, rfl⟩)
      | (go_at_call 56; refine (isWord_any _ _).mono ?_; rintro e w' ⟨rfl, rfl⟩)
      | (go_at_call 57; refine (isPlace_any _ _ _).mono ?_; rintro e w' ⟨rfl, rfl⟩))
      go_ret
      exact ⟨FlawQ.no _, (Read.mk _ _).trans hr⟩
    | true =>
      cases h3 : regB a with
      | false =>
        have hm : mayB ⟨13, a, b, c⟩ n = false := by rw [hm]; simp [h1, h2, h3]
        rw [hm]
        clear hm h1
        go_enter Tryd.func42, Tryd.ntmps42
        go_wp2_with (first
      | (go_at_call 54; refine (hrest _).mono ?_; rintro e w' ⟨rfl, hr⟩; obtain ⟨-, x0, x1, x2, x3⟩ := hat.read hr)
      | (go_at_call 55; refine (isRegister_any _ _).mono ?_; rintro e w' ⟨rfl, rfl⟩)
      | (go_at_call 56; refine (isWord_any _ _).mono ?_; rintro e w' ⟨rfl, rfl⟩)
      | (go_at_call 57; refine (isPlace_any _ _ _).mono ?_; rintro e w' ⟨rfl, rfl⟩))
        go_ret
        exact ⟨FlawQ.no _, (Read.mk _ _).trans hr⟩
      | true =>
        have hm : mayB ⟨13, a, b, c⟩ n = true := by rw [hm]; simp [h1, h2, h3]
        rw [hm]
        clear hm h1
        go_enter Tryd.func42, Tryd.ntmps42
        go_wp2_with (first
      | (go_at_call 54; refine (hrest _).mono ?_; rintro e w' ⟨rfl, hr⟩; obtain ⟨-, x0, x1, x2, x3⟩ := hat.read hr)
      | (go_at_call 55; refine (isRegister_any _ _).mono ?_; rintro e w' ⟨rfl, rfl⟩)
      | (go_at_call 56; refine (isWord_any _ _).mono ?_; rintro e w' ⟨rfl, rfl⟩)
      | (go_at_call 57; refine (isPlace_any _ _ _).mono ?_; rintro e w' ⟨rfl, rfl⟩))
        go_ret
        exact ⟨FlawQ.yes, (Read.mk _ _).trans hr⟩


theorem flawOf_14 (a b c n : Int) (w : World) : Calls Tryd.prog 42 #[.agg #[.int .i64 14, .int .i64 a, .int .i64 b, .int .i64 c], .int .i64 n] w fun e w' => FlawQ (mayB ⟨14, a, b, c⟩ n) e ∧ Read w w' := by
  have hat := InsAt.mk w 14 a b c
  have hrest := fun w => isRestZero_any ⟨14, a, b, c⟩ w
  simp only [I.val] at hrest
  have hm : mayB ⟨14, a, b, c⟩ n = (restI ⟨14, a, b, c⟩ && (regB a)) := by
    simp [mayB, fieldsB]
  cases h1 : restI ⟨14, a, b, c⟩ with
  | false =>
    rw [h1] at hrest
    have hm : mayB ⟨14, a, b, c⟩ n = false := by rw [hm]; simp [h1]
    rw [hm]
    clear hm h1
    go_enter Tryd.func42, Tryd.ntmps42
    go_wp2_with (first
      | (go_at_call 54; refine (hrest _).mono ?_; rintro e w' ⟨rfl, hr⟩; obtain ⟨-, x0, x1, x2, x3⟩ := hat.read hr)
      | (go_at_call 55; refine (isRegister_any _ _).mono ?_; rintro e w' ⟨rfl, rfl⟩)
      | (go_at_call 56; refine (isWord_any _ _).mono ?_; rintro e w' ⟨rfl, rfl⟩)
      | (go_at_call 57; refine (isPlace_any _ _ _).mono ?_; rintro e w' ⟨rfl, rfl⟩))
    go_ret
    exact ⟨FlawQ.no _, (Read.mk _ _).trans hr⟩
  | true =>
    rw [h1] at hrest
    cases h2 : regB a with
    | false =>
      have hm : mayB ⟨14, a, b, c⟩ n = false := by rw [hm]; simp [h1, h2]
      rw [hm]
      clear hm h1
      go_enter Tryd.func42, Tryd.ntmps42
      go_wp2_with (first
      | (go_at_call 54; refine (hrest _).mono ?_; rintro e w' ⟨rfl, hr⟩; obtain ⟨-, x0, x1, x2, x3⟩ := hat.read hr)
      | (go_at_call 55; refine (isRegister_any _ _).mono ?_; rintro e w' ⟨rfl, rfl⟩)
      | (go_at_call 56; refine (isWord_any _ _).mono ?_; rintro e w' ⟨rfl, rfl⟩)
      | (go_at_call 57; refine (isPlace_any _ _ _).mono ?_; rintro e w' ⟨rfl, rfl⟩))
      go_ret
      exact ⟨FlawQ.no _, (Read.mk _ _).trans hr⟩
    | true =>
      have hm : mayB ⟨14, a, b, c⟩ n = true := by rw [hm]; simp [h1, h2]
      rw [hm]
      clear hm h1
      go_enter Tryd.func42, Tryd.ntmps42
      go_wp2_with (first
      | (go_at_call 54; refine (hrest _).mono ?_; rintro e w' ⟨rfl, hr⟩; obtain ⟨-, x0, x1, x2, x3⟩ := hat.read hr)
      | (go_at_call 55; refine (isRegister_any _ _).mono ?_; rintro e w' ⟨rfl, rfl⟩)
      | (go_at_call 56; refine (isWord_any _ _).mono ?_; rintro e w' ⟨rfl, rfl⟩)
      | (go_at_call 57; refine (isPlace_any _ _ _).mono ?_; rintro e w' ⟨rfl, rfl⟩))
      go_ret
      exact ⟨FlawQ.yes, (Read.mk _ _).trans hr⟩


theorem flawOf_15 (a b c n : Int) (w : World) : Calls Tryd.prog 42 #[.agg #[.int .i64 15, .int .i64 a, .int .i64 b, .int .i64 c], .int .i64 n] w fun e w' => FlawQ (mayB ⟨15, a, b, c⟩ n) e ∧ Read w w' := by
  have hat := InsAt.mk w 15 a b c
  have hrest := fun w => isRestZero_any ⟨15, a, b, c⟩ w
  simp only [I.val] at hrest
  have hm : mayB ⟨15, a, b, c⟩ n = (restI ⟨15, a, b, c⟩ && (regB a)) := by
    simp [mayB, fieldsB]
  cases h1 : restI ⟨15, a, b, c⟩ with
  | false =>
    rw [h1] at hrest
    have hm : mayB ⟨15, a, b, c⟩ n = false := by rw [hm]; simp [h1]
    rw [hm]
    clear hm h1
    go_enter Tryd.func42, Tryd.ntmps42
    go_wp2_with (first
      | (go_at_call 54; refine (hrest _).mono ?_; rintro e w' ⟨rfl, hr⟩; obtain ⟨-, x0, x1, x2, x3⟩ := hat.read hr)
      | (go_at_call 55; refine (isRegister_any _ _).mono ?_; rintro e w' ⟨rfl, rfl⟩)
      | (go_at_call 56; refine (isWord_any _ _).mono ?_; rintro e w' ⟨rfl, rfl⟩)
      | (go_at_call 57; refine (isPlace_any _ _ _).mono ?_; rintro e w' ⟨rfl, rfl⟩))
    go_ret
    exact ⟨FlawQ.no _, (Read.mk _ _).trans hr⟩
  | true =>
    rw [h1] at hrest
    cases h2 : regB a with
    | false =>
      have hm : mayB ⟨15, a, b, c⟩ n = false := by rw [hm]; simp [h1, h2]
      rw [hm]
      clear hm h1
      go_enter Tryd.func42, Tryd.ntmps42
      go_wp2_with (first
      | (go_at_call 54; refine (hrest _).mono ?_; rintro e w' ⟨rfl, hr⟩; obtain ⟨-, x0, x1, x2, x3⟩ := hat.read hr)
      | (go_at_call 55; refine (isRegister_any _ _).mono ?_; rintro e w' ⟨rfl, rfl⟩)
      | (go_at_call 56; refine (isWord_any _ _).mono ?_; rintro e w' ⟨rfl, rfl⟩)
      | (go_at_call 57; refine (isPlace_any _ _ _).mono ?_; rintro e w' ⟨rfl, rfl⟩))
      go_ret
      exact ⟨FlawQ.no _, (Read.mk _ _).trans hr⟩
    | true =>
      have hm : mayB ⟨15, a, b, c⟩ n = true := by rw [hm]; simp [h1, h2]
      rw [hm]
      clear hm h1
      go_enter Tryd.func42, Tryd.ntmps42
      go_wp2_with (first
      | (go_at_call 54; refine (hrest _).mono ?_; rintro e w' ⟨rfl, hr⟩; obtain ⟨-, x0, x1, x2, x3⟩ := hat.read hr)
      | (go_at_call 55; refine (isRegister_any _ _).mono ?_; rintro e w' ⟨rfl, rfl⟩)
      | (go_at_call 56; refine (isWord_any _ _).mono ?_; rintro e w' ⟨rfl, rfl⟩)
      | (go_at_call 57; refine (isPlace_any _ _ _).mono ?_; rintro e w' ⟨rfl, rfl⟩))
      go_ret
      exact ⟨FlawQ.yes, (Read.mk _ _).trans hr⟩


theorem flawOf_16 (a b c n : Int) (w : World) : Calls Tryd.prog 42 #[.agg #[.int .i64 16, .int .i64 a, .int .i64 b, .int .i64 c], .int .i64 n] w fun e w' => FlawQ (mayB ⟨16, a, b, c⟩ n) e ∧ Read w w' := by
  have hat := InsAt.mk w 16 a b c
  have hrest := fun w => isRestZero_any ⟨16, a, b, c⟩ w
  simp only [I.val] at hrest
  have hm : mayB ⟨16, a, b, c⟩ n = (restI ⟨16, a, b, c⟩ && (regB a)) := by
    simp [mayB, fieldsB]
  cases h1 : restI ⟨16, a, b, c⟩ with
  | false =>
    rw [h1] at hrest
    have hm : mayB ⟨16, a, b, c⟩ n = false := by rw [hm]; simp [h1]
    rw [hm]
    clear hm h1
    go_enter Tryd.func42, Tryd.ntmps42
    go_wp2_with (first
      | (go_at_call 54; refine (hrest _).mono ?_; rintro e w' ⟨rfl, hr⟩; obtain ⟨-, x0, x1, x2, x3⟩ := hat.read hr)
      | (go_at_call 55; refine (isRegister_any _ _).mono ?_; rintro e w' ⟨rfl, rfl⟩)
      | (go_at_call 56; refine (isWord_any _ _).mono ?_; rintro e w' ⟨rfl, rfl⟩)
      | (go_at_call 57; refine (isPlace_any _ _ _).mono ?_; rintro e w' ⟨rfl, rfl⟩))
    go_ret
    exact ⟨FlawQ.no _, (Read.mk _ _).trans hr⟩
  | true =>
    rw [h1] at hrest
    cases h2 : regB a with
    | false =>
      have hm : mayB ⟨16, a, b, c⟩ n = false := by rw [hm]; simp [h1, h2]
      rw [hm]
      clear hm h1
      go_enter Tryd.func42, Tryd.ntmps42
      go_wp2_with (first
      | (go_at_call 54; refine (hrest _).mono ?_; rintro e w' ⟨rfl, hr⟩; obtain ⟨-, x0, x1, x2, x3⟩ := hat.read hr)
      | (go_at_call 55; refine (isRegister_any _ _).mono ?_; rintro e w' ⟨rfl, rfl⟩)
      | (go_at_call 56; refine (isWord_any _ _).mono ?_; rintro e w' ⟨rfl, rfl⟩)
      | (go_at_call 57; refine (isPlace_any _ _ _).mono ?_; rintro e w' ⟨rfl, rfl⟩))
      go_ret
      exact ⟨FlawQ.no _, (Read.mk _ _).trans hr⟩
    | true =>
      have hm : mayB ⟨16, a, b, c⟩ n = true := by rw [hm]; simp [h1, h2]
      rw [hm]
      clear hm h1
      go_enter Tryd.func42, Tryd.ntmps42
      go_wp2_with (first
      | (go_at_call 54; refine (hrest _).mono ?_; rintro e w' ⟨rfl, hr⟩; obtain ⟨-, x0, x1, x2, x3⟩ := hat.read hr)
      | (go_at_call 55; refine (isRegister_any _ _).mono ?_; rintro e w' ⟨rfl, rfl⟩)
      | (go_at_call 56; refine (isWord_any _ _).mono ?_; rintro e w' ⟨rfl, rfl⟩)
      | (go_at_call 57; refine (isPlace_any _ _ _).mono ?_; rintro e w' ⟨rfl, rfl⟩))
      go_ret
      exact ⟨FlawQ.yes, (Read.mk _ _).trans hr⟩


theorem flawOf_1 (a b c n : Int) (w : World) : Calls Tryd.prog 42 #[.agg #[.int .i64 1, .int .i64 a, .int .i64 b, .int .i64 c], .int .i64 n] w fun e w' => FlawQ (mayB ⟨1, a, b, c⟩ n) e ∧ Read w w' := by
  have hat := InsAt.mk w 1 a b c
  have hrest := fun w => isRestZero_any ⟨1, a, b, c⟩ w
  simp only [I.val] at hrest
  have hm : mayB ⟨1, a, b, c⟩ n = (restI ⟨1, a, b, c⟩ && (regB a && (wordB b))) := by
    simp [mayB, fieldsB]
  cases h1 : restI ⟨1, a, b, c⟩ with
  | false =>
    rw [h1] at hrest
    have hm : mayB ⟨1, a, b, c⟩ n = false := by rw [hm]; simp [h1]
    rw [hm]
    clear hm h1
    go_enter Tryd.func42, Tryd.ntmps42
    go_wp2_with (first
      | (go_at_call 54; refine (hrest _).mono ?_; rintro e w' ⟨rfl, hr⟩; obtain ⟨-, x0, x1, x2, x3⟩ := hat.read hr)
      | (go_at_call 55; refine (isRegister_any _ _).mono ?_; rintro e w' ⟨rfl, rfl⟩)
      | (go_at_call 56; refine (isWord_any _ _).mono ?_; rintro e w' ⟨rfl, rfl⟩)
      | (go_at_call 57; refine (isPlace_any _ _ _).mono ?_; rintro e w' ⟨rfl, rfl⟩))
    go_ret
    exact ⟨FlawQ.no _, (Read.mk _ _).trans hr⟩
  | true =>
    rw [h1] at hrest
    cases h2 : regB a with
    | false =>
      have hm : mayB ⟨1, a, b, c⟩ n = false := by rw [hm]; simp [h1, h2]
      rw [hm]
      clear hm h1
      go_enter Tryd.func42, Tryd.ntmps42
      go_wp2_with (first
      | (go_at_call 54; refine (hrest _).mono ?_; rintro e w' ⟨rfl, hr⟩; obtain ⟨-, x0, x1, x2, x3⟩ := hat.read hr)
      | (go_at_call 55; refine (isRegister_any _ _).mono ?_; rintro e w' ⟨rfl, rfl⟩)
      | (go_at_call 56; refine (isWord_any _ _).mono ?_; rintro e w' ⟨rfl, rfl⟩)
      | (go_at_call 57; refine (isPlace_any _ _ _).mono ?_; rintro e w' ⟨rfl, rfl⟩))
      go_ret
      exact ⟨FlawQ.no _, (Read.mk _ _).trans hr⟩
    | true =>
      cases h3 : wordB b with
      | false =>
        have hm : mayB ⟨1, a, b, c⟩ n = false := by rw [hm]; simp [h1, h2, h3]
        rw [hm]
        clear hm h1
        go_enter Tryd.func42, Tryd.ntmps42
        go_wp2_with (first
      | (go_at_call 54; refine (hrest _).mono ?_; rintro e w' ⟨rfl, hr⟩; obtain ⟨-, x0, x1, x2, x3⟩ := hat.read hr)
      | (go_at_call 55; refine (isRegister_any _ _).mono ?_; rintro e w' ⟨rfl, rfl⟩)
      | (go_at_call 56; refine (isWord_any _ _).mono ?_; rintro e w' ⟨rfl, rfl⟩)
      | (go_at_call 57; refine (isPlace_any _ _ _).mono ?_; rintro e w' ⟨rfl, rfl⟩))
        go_ret
        exact ⟨FlawQ.no _, (Read.mk _ _).trans hr⟩
      | true =>
        have hm : mayB ⟨1, a, b, c⟩ n = true := by rw [hm]; simp [h1, h2, h3]
        rw [hm]
        clear hm h1
        go_enter Tryd.func42, Tryd.ntmps42
        go_wp2_with (first
      | (go_at_call 54; refine (hrest _).mono ?_; rintro e w' ⟨rfl, hr⟩; obtain ⟨-, x0, x1, x2, x3⟩ := hat.read hr)
      | (go_at_call 55; refine (isRegister_any _ _).mono ?_; rintro e w' ⟨rfl, rfl⟩)
      | (go_at_call 56; refine (isWord_any _ _).mono ?_; rintro e w' ⟨rfl, rfl⟩)
      | (go_at_call 57; refine (isPlace_any _ _ _).mono ?_; rintro e w' ⟨rfl, rfl⟩))
        go_ret
        exact ⟨FlawQ.yes, (Read.mk _ _).trans hr⟩


theorem flawOf_11 (a b c n : Int) (w : World) : Calls Tryd.prog 42 #[.agg #[.int .i64 11, .int .i64 a, .int .i64 b, .int .i64 c], .int .i64 n] w fun e w' => FlawQ (mayB ⟨11, a, b, c⟩ n) e ∧ Read w w' := by
  have hat := InsAt.mk w 11 a b c
  have hrest := fun w => isRestZero_any ⟨11, a, b, c⟩ w
  simp only [I.val] at hrest
  have hm : mayB ⟨11, a, b, c⟩ n = (restI ⟨11, a, b, c⟩ && (regB a && (placeB b n))) := by
    simp [mayB, fieldsB]
  cases h1 : restI ⟨11, a, b, c⟩ with
  | false =>
    rw [h1] at hrest
    have hm : mayB ⟨11, a, b, c⟩ n = false := by rw [hm]; simp [h1]
    rw [hm]
    clear hm h1
    go_enter Tryd.func42, Tryd.ntmps42
    go_wp2_with (first
      | (go_at_call 54; refine (hrest _).mono ?_; rintro e w' ⟨rfl, hr⟩; obtain ⟨-, x0, x1, x2, x3⟩ := hat.read hr)
      | (go_at_call 55; refine (isRegister_any _ _).mono ?_; rintro e w' ⟨rfl, rfl⟩)
      | (go_at_call 56; refine (isWord_any _ _).mono ?_; rintro e w' ⟨rfl, rfl⟩)
      | (go_at_call 57; refine (isPlace_any _ _ _).mono ?_; rintro e w' ⟨rfl, rfl⟩))
    go_ret
    exact ⟨FlawQ.no _, (Read.mk _ _).trans hr⟩
  | true =>
    rw [h1] at hrest
    cases h2 : regB a with
    | false =>
      have hm : mayB ⟨11, a, b, c⟩ n = false := by rw [hm]; simp [h1, h2]
      rw [hm]
      clear hm h1
      go_enter Tryd.func42, Tryd.ntmps42
      go_wp2_with (first
      | (go_at_call 54; refine (hrest _).mono ?_; rintro e w' ⟨rfl, hr⟩; obtain ⟨-, x0, x1, x2, x3⟩ := hat.read hr)
      | (go_at_call 55; refine (isRegister_any _ _).mono ?_; rintro e w' ⟨rfl, rfl⟩)
      | (go_at_call 56; refine (isWord_any _ _).mono ?_; rintro e w' ⟨rfl, rfl⟩)
      | (go_at_call 57; refine (isPlace_any _ _ _).mono ?_; rintro e w' ⟨rfl, rfl⟩))
      go_ret
      exact ⟨FlawQ.no _, (Read.mk _ _).trans hr⟩
    | true =>
      cases h3 : placeB b n with
      | false =>
        have hm : mayB ⟨11, a, b, c⟩ n = false := by rw [hm]; simp [h1, h2, h3]
        rw [hm]
        clear hm h1
        go_enter Tryd.func42, Tryd.ntmps42
        go_wp2_with (first
      | (go_at_call 54; refine (hrest _).mono ?_; rintro e w' ⟨rfl, hr⟩; obtain ⟨-, x0, x1, x2, x3⟩ := hat.read hr)
      | (go_at_call 55; refine (isRegister_any _ _).mono ?_; rintro e w' ⟨rfl, rfl⟩)
      | (go_at_call 56; refine (isWord_any _ _).mono ?_; rintro e w' ⟨rfl, rfl⟩)
      | (go_at_call 57; refine (isPlace_any _ _ _).mono ?_; rintro e w' ⟨rfl, rfl⟩))
        go_ret
        exact ⟨FlawQ.no _, (Read.mk _ _).trans hr⟩
      | true =>
        have hm : mayB ⟨11, a, b, c⟩ n = true := by rw [hm]; simp [h1, h2, h3]
        rw [hm]
        clear hm h1
        go_enter Tryd.func42, Tryd.ntmps42
        go_wp2_with (first
      | (go_at_call 54; refine (hrest _).mono ?_; rintro e w' ⟨rfl, hr⟩; obtain ⟨-, x0, x1, x2, x3⟩ := hat.read hr)
      | (go_at_call 55; refine (isRegister_any _ _).mono ?_; rintro e w' ⟨rfl, rfl⟩)
      | (go_at_call 56; refine (isWord_any _ _).mono ?_; rintro e w' ⟨rfl, rfl⟩)
      | (go_at_call 57; refine (isPlace_any _ _ _).mono ?_; rintro e w' ⟨rfl, rfl⟩))
        go_ret
        exact ⟨FlawQ.yes, (Read.mk _ _).trans hr⟩


theorem flawOf_10 (a b c n : Int) (w : World) : Calls Tryd.prog 42 #[.agg #[.int .i64 10, .int .i64 a, .int .i64 b, .int .i64 c], .int .i64 n] w fun e w' => FlawQ (mayB ⟨10, a, b, c⟩ n) e ∧ Read w w' := by
  have hat := InsAt.mk w 10 a b c
  have hrest := fun w => isRestZero_any ⟨10, a, b, c⟩ w
  simp only [I.val] at hrest
  have hm : mayB ⟨10, a, b, c⟩ n = (restI ⟨10, a, b, c⟩ && (placeB a n)) := by
    simp [mayB, fieldsB]
  cases h1 : restI ⟨10, a, b, c⟩ with
  | false =>
    rw [h1] at hrest
    have hm : mayB ⟨10, a, b, c⟩ n = false := by rw [hm]; simp [h1]
    rw [hm]
    clear hm h1
    go_enter Tryd.func42, Tryd.ntmps42
    go_wp2_with (first
      | (go_at_call 54; refine (hrest _).mono ?_; rintro e w' ⟨rfl, hr⟩; obtain ⟨-, x0, x1, x2, x3⟩ := hat.read hr)
      | (go_at_call 55; refine (isRegister_any _ _).mono ?_; rintro e w' ⟨rfl, rfl⟩)
      | (go_at_call 56; refine (isWord_any _ _).mono ?_; rintro e w' ⟨rfl, rfl⟩)
      | (go_at_call 57; refine (isPlace_any _ _ _).mono ?_; rintro e w' ⟨rfl, rfl⟩))
    go_ret
    exact ⟨FlawQ.no _, (Read.mk _ _).trans hr⟩
  | true =>
    rw [h1] at hrest
    cases h2 : placeB a n with
    | false =>
      have hm : mayB ⟨10, a, b, c⟩ n = false := by rw [hm]; simp [h1, h2]
      rw [hm]
      clear hm h1
      go_enter Tryd.func42, Tryd.ntmps42
      go_wp2_with (first
      | (go_at_call 54; refine (hrest _).mono ?_; rintro e w' ⟨rfl, hr⟩; obtain ⟨-, x0, x1, x2, x3⟩ := hat.read hr)
      | (go_at_call 55; refine (isRegister_any _ _).mono ?_; rintro e w' ⟨rfl, rfl⟩)
      | (go_at_call 56; refine (isWord_any _ _).mono ?_; rintro e w' ⟨rfl, rfl⟩)
      | (go_at_call 57; refine (isPlace_any _ _ _).mono ?_; rintro e w' ⟨rfl, rfl⟩))
      go_ret
      exact ⟨FlawQ.no _, (Read.mk _ _).trans hr⟩
    | true =>
      have hm : mayB ⟨10, a, b, c⟩ n = true := by rw [hm]; simp [h1, h2]
      rw [hm]
      clear hm h1
      go_enter Tryd.func42, Tryd.ntmps42
      go_wp2_with (first
      | (go_at_call 54; refine (hrest _).mono ?_; rintro e w' ⟨rfl, hr⟩; obtain ⟨-, x0, x1, x2, x3⟩ := hat.read hr)
      | (go_at_call 55; refine (isRegister_any _ _).mono ?_; rintro e w' ⟨rfl, rfl⟩)
      | (go_at_call 56; refine (isWord_any _ _).mono ?_; rintro e w' ⟨rfl, rfl⟩)
      | (go_at_call 57; refine (isPlace_any _ _ _).mono ?_; rintro e w' ⟨rfl, rfl⟩))
      go_ret
      exact ⟨FlawQ.yes, (Read.mk _ _).trans hr⟩


theorem flawOf_0 (a b c n : Int) (w : World) : Calls Tryd.prog 42 #[.agg #[.int .i64 0, .int .i64 a, .int .i64 b, .int .i64 c], .int .i64 n] w fun e w' => FlawQ (mayB ⟨0, a, b, c⟩ n) e ∧ Read w w' := by
  have hat := InsAt.mk w 0 a b c
  have hrest := fun w => isRestZero_any ⟨0, a, b, c⟩ w
  simp only [I.val] at hrest
  have hm : mayB ⟨0, a, b, c⟩ n = (restI ⟨0, a, b, c⟩ && (true)) := by
    simp [mayB, fieldsB]
  cases h1 : restI ⟨0, a, b, c⟩ with
  | false =>
    rw [h1] at hrest
    have hm : mayB ⟨0, a, b, c⟩ n = false := by rw [hm]; simp [h1]
    rw [hm]
    clear hm h1
    go_enter Tryd.func42, Tryd.ntmps42
    go_wp2_with (first
      | (go_at_call 54; refine (hrest _).mono ?_; rintro e w' ⟨rfl, hr⟩; obtain ⟨-, x0, x1, x2, x3⟩ := hat.read hr)
      | (go_at_call 55; refine (isRegister_any _ _).mono ?_; rintro e w' ⟨rfl, rfl⟩)
      | (go_at_call 56; refine (isWord_any _ _).mono ?_; rintro e w' ⟨rfl, rfl⟩)
      | (go_at_call 57; refine (isPlace_any _ _ _).mono ?_; rintro e w' ⟨rfl, rfl⟩))
    go_ret
    exact ⟨FlawQ.no _, (Read.mk _ _).trans hr⟩
  | true =>
    rw [h1] at hrest
    have hm : mayB ⟨0, a, b, c⟩ n = true := by rw [hm]; simp [h1]
    rw [hm]
    clear hm h1
    go_enter Tryd.func42, Tryd.ntmps42
    go_wp2_with (first
      | (go_at_call 54; refine (hrest _).mono ?_; rintro e w' ⟨rfl, hr⟩; obtain ⟨-, x0, x1, x2, x3⟩ := hat.read hr)
      | (go_at_call 55; refine (isRegister_any _ _).mono ?_; rintro e w' ⟨rfl, rfl⟩)
      | (go_at_call 56; refine (isWord_any _ _).mono ?_; rintro e w' ⟨rfl, rfl⟩)
      | (go_at_call 57; refine (isPlace_any _ _ _).mono ?_; rintro e w' ⟨rfl, rfl⟩))
    go_ret
    exact ⟨FlawQ.yes, (Read.mk _ _).trans hr⟩


theorem flawOf_none (op a b c n : Int) (h : op < 0 ∨ 17 ≤ op) (w : World) : Calls Tryd.prog 42 #[.agg #[.int .i64 op, .int .i64 a, .int .i64 b, .int .i64 c], .int .i64 n] w fun e w' => FlawQ (mayB ⟨op, a, b, c⟩ n) e ∧ Read w w' := by
  have hat := InsAt.mk w op a b c
  have hrest := fun w => isRestZero_any ⟨op, a, b, c⟩ w
  have hu : restI ⟨op, a, b, c⟩ = true := by
    have : usedOf op = 3 := by unfold usedOf; repeat (rw [if_neg (by omega)])
    unfold restI
    simp only [this]
    rfl
  have hf : fieldsB ⟨op, a, b, c⟩ n = false := by
    unfold fieldsB
    simp only
    repeat (rw [if_neg (by omega)])
    simp
    omega
  rw [hu] at hrest
  simp only [I.val] at hrest
  rw [mayB, hu, hf]
  simp only [Bool.and_false]
  clear hu hf
  have e0 : (op == 0) = false := by simp; omega
  have e1 : (op == 1) = false := by simp; omega
  have e2 : (op == 2) = false := by simp; omega
  have e3 : (op == 3) = false := by simp; omega
  have e4 : (op == 4) = false := by simp; omega
  have e5 : (op == 5) = false := by simp; omega
  have e6 : (op == 6) = false := by simp; omega
  have e7 : (op == 7) = false := by simp; omega
  have e8 : (op == 8) = false := by simp; omega
  have e9 : (op == 9) = false := by simp; omega
  have e10 : (op == 10) = false := by simp; omega
  have e11 : (op == 11) = false := by simp; omega
  have e12 : (op == 12) = false := by simp; omega
  have e13 : (op == 13) = false := by simp; omega
  have e14 : (op == 14) = false := by simp; omega
  have e15 : (op == 15) = false := by simp; omega
  have e16 : (op == 16) = false := by simp; omega
  clear h
  go_enter Tryd.func42, Tryd.ntmps42
  go_wp2_with (first
      | (go_at_call 54; refine (hrest _).mono ?_; rintro e w' ⟨rfl, hr⟩; obtain ⟨-, x0, x1, x2, x3⟩ := hat.read hr)
      | (go_at_call 55; refine (isRegister_any _ _).mono ?_; rintro e w' ⟨rfl, rfl⟩)
      | (go_at_call 56; refine (isWord_any _ _).mono ?_; rintro e w' ⟨rfl, rfl⟩)
      | (go_at_call 57; refine (isPlace_any _ _ _).mono ?_; rintro e w' ⟨rfl, rfl⟩))
  go_ret
  exact ⟨FlawQ.no _, (Read.mk _ _).trans hr⟩
theorem flawOf_any (i : I) (n : Int) (w : World) : Calls Tryd.prog 42 #[i.val, .int .i64 n] w fun e w' => FlawQ (mayB i n) e ∧ Read w w' := by
  obtain ⟨op, a, b, c⟩ := i
  by_cases h : op < 0 ∨ 17 ≤ op
  · exact flawOf_none op a b c n h w
  · rcases op_cases (op := op) (by omega) (by omega) with rfl | rfl | rfl | rfl | rfl | rfl | rfl | rfl | rfl | rfl | rfl | rfl | rfl | rfl | rfl | rfl | rfl
    · exact flawOf_0 a b c n w
    · exact flawOf_1 a b c n w
    · exact flawOf_2 a b c n w
    · exact flawOf_3 a b c n w
    · exact flawOf_4 a b c n w
    · exact flawOf_5 a b c n w
    · exact flawOf_6 a b c n w
    · exact flawOf_7 a b c n w
    · exact flawOf_8 a b c n w
    · exact flawOf_9 a b c n w
    · exact flawOf_10 a b c n w
    · exact flawOf_11 a b c n w
    · exact flawOf_12 a b c n w
    · exact flawOf_13 a b c n w
    · exact flawOf_14 a b c n w
    · exact flawOf_15 a b c n w
    · exact flawOf_16 a b c n w

end Go.Proofs.YtofkfajcibdneaaDoor
