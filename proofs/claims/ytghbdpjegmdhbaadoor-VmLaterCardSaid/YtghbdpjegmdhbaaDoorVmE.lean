/-
  What any run keeps (a fault leaves the state; what is sent is late enough), in plain data; messages that a call has made itself.
-/
import Derived.Test.YtghbdpjegmdhbaaDoorVmF
import Derived.Test.YtghbdpjegmdhbaaDoorVmL1
namespace Go.Proofs.YtghbdpjegmdhbaaDoor
open Go.ChangeShapes Go.WideShapes Go.ChangeAt Go.RowKit Go.Sort
set_option linter.unusedVariables false
set_option maxRecDepth 8000

/-- A sending that is late enough, on a link that there is. -/
def okOt (W : Wd) (t : Int) (x : Ot) : Prop := 0 ≤ x.link ∧ x.link < (W.links.length : Int) ∧ (W.links.getD x.link.toNat default).look ≤ x.delay ∧ x.delay ≤ 4611686018427387903 - t
def Late (W : Wd) (t : Int) (o : List Ot) : Prop := (∀ x ∈ o, okOt W t x) ∧ o.length ≤ 8
def resLate (W : Wd) (t d e : Int) : Res → Prop
  | .on m => Late W t m.o ∧ d ≤ m.d ∧ m.d ≤ e
  | .stop m => Late W t m.o ∧ d ≤ m.d ∧ m.d ≤ e
  | .fault k => k = 50 ∨ k = 10
theorem step_late {W : Wd} {ev : M} {i : I} {m : Mc} (h : Late W ev.k.t m.o) : resLate W ev.k.t m.d (m.d + 1) (stepP W ev i m) := by
  unfold stepP sendP
  repeat' split
  all_goals first
    | exact ⟨h, Int.le_refl _, by show m.d ≤ m.d + 1; omega⟩
    | exact ⟨h, by show m.d ≤ m.d + 1; omega, Int.le_refl _⟩
    | exact .inl rfl
    | exact .inr rfl
    | skip
  rename_i h0 h1 h2
  have hl : 0 < W.links.length := by omega
  refine ⟨⟨fun x hx => ?_, by simp only [List.length_append, List.length_singleton]; omega⟩, Int.le_refl _, by show m.d ≤ m.d + 1; omega⟩
  rcases List.mem_append.1 hx with hx | hx
  · exact h.1 x hx
  · simp only [List.mem_singleton] at hx
    subst hx
    exact ⟨Int.emod_nonneg _ (by omega), Int.emod_lt_of_pos _ (by omega), by simp only; omega, by simp only; omega⟩
theorem run_late {W : Wd} {ev : M} (f : Nat) : ∀ (m : Mc), Late W ev.k.t m.o → resLate W ev.k.t m.d (m.d + f) (runP W ev f m) := by
  induction f with
  | zero => exact fun m h => ⟨h, Int.le_refl _, by simp⟩
  | succ f ih =>
    intro m h
    unfold runP
    split
    · have hs := step_late (W := W) (ev := ev) (i := W.prog.getD m.pc.toNat default) (m := { m with pc := m.pc + 1 }) h
      cases hr : stepP W ev (W.prog.getD m.pc.toNat default) { m with pc := m.pc + 1 } with
      | on m' =>
        rw [hr] at hs
        obtain ⟨h1, h2, h3⟩ := hs
        have := ih m' h1
        cases hr2 : runP W ev f m' with
        | on m2 => simp only [hr2] at this ⊢; exact ⟨this.1, by have := this.2.1; simp only at *; omega, by have := this.2.2; simp only at *; omega⟩
        | stop m2 => simp only [hr2] at this ⊢; exact ⟨this.1, by have := this.2.1; simp only at *; omega, by have := this.2.2; simp only at *; omega⟩
        | fault e => simp only [hr2] at this ⊢; exact this
      | stop m' =>
        rw [hr] at hs
        obtain ⟨h1, h2, h3⟩ := hs
        exact ⟨h1, h2, by simp only at *; omega⟩
      | fault e => rw [hr] at hs; exact hs
    · exact ⟨h, Int.le_refl _, by omega⟩
theorem checkN_is (P : List I) : checkN P = 0 ∨ checkN P = 2 ∨ checkN P = 130 := by
  unfold checkN
  split
  · exact .inr (.inl rfl)
  · split
    · exact .inl rfl
    · exact .inr (.inr rfl)
theorem checkW_is (W : Wd) : checkW W = 0 ∨ checkW W = 2 ∨ checkW W = 130 ∨ checkW W = 1 := by
  have := checkN_is W.prog
  unfold checkW
  split
  · rcases this with h | h | h <;> rw [h] <;> simp
  · split
    · simp
    · split <;> simp
/-- How a run ends. -/
theorem later_ways {W : Wd} {r0 r1 r2 r3 r4 r5 r6 r7 d n : Int} {ev : M} :
    (∃ k, (k = 1 ∨ k = 2 ∨ k = 130) ∧ runW W ⟨[r0, r1, r2, r3, r4, r5, r6, r7], d, n⟩ ev = (⟨[0, 0, 0, 0, 0, 0, 0, 0], 0, 0⟩, [], k)) ∨
    (∃ k, (k = 50 ∨ k = 10) ∧ runW W ⟨[r0, r1, r2, r3, r4, r5, r6, r7], d, n⟩ ev = (⟨[r0, r1, r2, r3, r4, r5, r6, r7], d, n⟩, [], k)) ∨
    (∃ y0 y1 y2 y3 y4 y5 y6 y7 d' o, runW W ⟨[r0, r1, r2, r3, r4, r5, r6, r7], d, n⟩ ev = (⟨[y0, y1, y2, y3, y4, y5, y6, y7], d', n + (o.length : Int)⟩, o, 0) ∧ Late W ev.k.t o ∧ d ≤ d' ∧ d' ≤ d + 4096 ∧ checkW W = 0 ∧ chkM ev = 0 ∧ (0 ≤ d ∧ d ≤ 1125899906842624 ∧ 0 ≤ n ∧ n ≤ 1125899906842624)) := by
  by_cases hc : checkW W = 0
  · by_cases hm : chkM ev = 0 ∧ Sta.mayB ⟨[r0, r1, r2, r3, r4, r5, r6, r7], d, n⟩ = true
    · have hb : 0 ≤ d ∧ d ≤ 1125899906842624 ∧ 0 ≤ n ∧ n ≤ 1125899906842624 := by simpa [Sta.mayB] using hm.2
      have hl := run_late (W := W) (ev := ev) 4096 (firstP ⟨[r0, r1, r2, r3, r4, r5, r6, r7], d, n⟩) ⟨by simp [firstP], by simp [firstP]⟩
      have hlen := runP_len (W := W) (ev := ev) (n := 16) 4096 (firstP ⟨[r0, r1, r2, r3, r4, r5, r6, r7], d, n⟩) (by simp [firstP])
      rw [runW_go hc hm.1 hm.2]
      have fin : ∀ m' : Mc, m'.r.length = 16 → Late W ev.k.t m'.o → d ≤ m'.d → m'.d ≤ d + 4096 → ∃ y0 y1 y2 y3 y4 y5 y6 y7 d' o, ((⟨m'.r.take 8, m'.d, n + (m'.o.length : Int)⟩, m'.o, 0) : Sta × List Ot × Int) = (⟨[y0, y1, y2, y3, y4, y5, y6, y7], d', n + (o.length : Int)⟩, o, 0) ∧ Late W ev.k.t o ∧ d ≤ d' ∧ d' ≤ d + 4096 ∧ checkW W = 0 ∧ chkM ev = 0 ∧ (0 ≤ d ∧ d ≤ 1125899906842624 ∧ 0 ≤ n ∧ n ≤ 1125899906842624) := by
        intro m' hl h1 h2 h3
        obtain ⟨y0, y1, y2, y3, y4, y5, y6, y7, hy⟩ := eight (r := m'.r.take 8) (by simp [hl])
        exact ⟨y0, y1, y2, y3, y4, y5, y6, y7, m'.d, m'.o, by rw [hy], h1, h2, h3, hc, hm.1, hb⟩
      cases hr : runP W ev 4096 (firstP ⟨[r0, r1, r2, r3, r4, r5, r6, r7], d, n⟩) with
      | on m' => rw [hr] at hl hlen; exact .inr (.inr (fin m' hlen hl.1 hl.2.1 hl.2.2))
      | stop m' => rw [hr] at hl hlen; exact .inr (.inr (fin m' hlen hl.1 hl.2.1 hl.2.2))
      | fault e => rw [hr] at hl; exact .inr (.inl ⟨e, hl, rfl⟩)
    · exact .inl ⟨1, .inl rfl, runW_msg hc hm⟩
  · refine .inl ⟨checkW W, ?_, runW_chk hc⟩
    rcases checkW_is W with h | h | h | h
    · exact absurd h hc
    · exact .inr (.inl h)
    · exact .inr (.inr h)
    · exact .inl h
end Go.Proofs.YtghbdpjegmdhbaaDoor
