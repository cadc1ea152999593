
/-
  Why a parcel is refused.
-/
import Derived.Test.YtjbammgnkegecaaKE
namespace Go.Proofs.Ytjbammgnkegecaa
open Go.ChangeShapes Go.WideShapes Go.ChangeAt Go.Shelf Go.RowKit Go.Lib Go.Sort Go.Deep
set_option linter.unusedVariables false
set_option maxRecDepth 4000

section
variable {w : World} {hb : Nat} {S : Nat → Prop} {y : Wy} {v : Value} {L : List Pc}
set_option maxHeartbeats 4000000 in
theorem refusal_any (h : WyOf w hb S y v L) (p : Pc) (hl : L.length < 1000000000000000) : Calls Try.prog 28 #[.pointer (some ⟨hb, 0, none⟩), p.val] w fun e w' => e = .returned (.int .i64 (putC y L.length p)) ∧ Below w.heap.size w w' := by
  have mixed := mixed
  have hbx : Hid (BoxP (w.alloc (.cells p.cells 37)) w.heap.size p) := BoxP.mk w p
  have hb0 : Hid (Below w.heap.size w (w.alloc (.cells p.cells 37))) := (Below.refl _ w).alloc (Nat.le_refl _) _
  have hS : Hid (∀ w1, Below (w.alloc (.cells p.cells 37)).heap.size (w.alloc (.cells p.cells 37)) w1 → PcAt w1 w.heap.size 0 p ∧ WyOf w1 hb S y v L ∧ Below w.heap.size w w1) := by
    intro w1 h1
    have hb1 := hb0.out.trans (h1.mono hb0.out.size)
    exact ⟨(hbx.out.below h1).at, h.below hb1, hb1⟩
  have hm := made_any (h.below hb0.out)
  have hck := fun w => eCheck_any p.m w
  have ho := h.ok
  obtain ⟨ho1, ho2⟩ := ho
  obtain ⟨x0, x1, x2, x3, x4, x5, x6, x7⟩ := hbx.out.at
  simp only [Nat.zero_add] at x0 x1 x2 x3 x4 x5 x6 x7
  have hR : Hid (putC y L.length p = if chkM p.m ≠ 0 ∨ p.m.k.f ≠ y.fr ∨ p.m.to ≠ y.to then 1 else if p.m.anti = false ∧ y.most ≤ (L.length : Int) then 9 else 0) := rfl
  obtain ⟨r, hr⟩ : ∃ r, r = putC y L.length p := ⟨_, rfl⟩
  rw [← hr] at hR ⊢
  clear hr hbx h
  have hw0 : Hid (w.alloc (.cells #[.int .i64 p.m.k.t, .int .i64 p.m.k.f, .int .i64 p.m.k.s, .int .i64 p.m.to, .int .i64 p.m.v, .int .i64 p.m.u, .bool p.m.anti, .int .i64 p.c] 37) = w.alloc (.cells p.cells 37)) := rfl
  simp only [M.val] at hck
  unfold Pc.val
  obtain ⟨⟨⟨t, f, s⟩, tt, vv, u, an⟩, c⟩ := p
  obtain ⟨fr, yt, most, lo⟩ := y
  dsimp only at hck x0 x1 x2 x3 x4 x5 x6 x7 hw0 hR ho1 ho2 ⊢
  go_enter Try.func28, Try.ntmps28
  go_upto_region 1 with (fail)
  rw [hw0.out]
  clear hw0
  generalize w.alloc (.cells (Pc.cells ⟨⟨⟨t, f, s⟩, tt, vv, u, an⟩, c⟩) 37) = W0 at *
  by_cases h1 : chkM ⟨⟨t, f, s⟩, tt, vv, u, an⟩ = 0
  · rw [h1] at hck hR
    have hd1 : ∀ w1, Below W0.heap.size W0 w1 → (w1.drew.cell? ⟨w.heap.size, 0 + 1, none⟩ = some (.int .i64 f) ∧ w1.drew.cell? ⟨hb, 0, none⟩ = some (.int .i64 fr)) ∧ (w1.drew.drew.cell? ⟨w.heap.size, 0 + 3, none⟩ = some (.int .i64 tt) ∧ w1.drew.drew.cell? ⟨hb, 1, none⟩ = some (.int .i64 yt)) ∧
        w1.drew.drew.cell? ⟨w.heap.size, 0 + 6, none⟩ = some (.bool an) ∧ Calls Try.prog 17 #[.pointer (some ⟨hb, 0, none⟩)] w1.drew.drew (fun e w' => e = .returned (.int .i64 (roomN ⟨fr, yt, most, lo⟩ L.length)) ∧ Below w1.drew.drew.heap.size w1.drew.drew w') ∧ Below w.heap.size w w1.drew.drew := fun w1 hb1 => by
      obtain ⟨⟨-, q1, -⟩, hy1, -⟩ := hS.out w1.drew hb1.drew
      obtain ⟨⟨-, -, -, q3, -, -, q6, -⟩, hy2, hb2⟩ := hS.out w1.drew.drew hb1.drew.drew
      exact ⟨⟨q1, hy1.c0⟩, ⟨q3, hy2.c1⟩, q6, lkRoom_of hy2 hl, hb2⟩
    simp only [Nat.zero_add] at hd1
    have hd1' := Lib.hid hd1
    clear hd1 hS
    by_cases h2 : f = fr
    · subst h2
      by_cases h3 : tt = yt
      · subst h3
        by_cases h4 : an = true
        · subst h4
          obtain rfl : r = 0 := by have := hR.out; simp at this; exact this
          go_upto_region 3 with (first
            | (go_at_call 33; refine hm.mono ?_; rintro e w' ⟨rfl, rfl⟩)
            | (go_at_call 25; refine (hck _).mono ?_; rintro e w1 ⟨rfl, hr1⟩; obtain ⟨hA, hB, q6, hrm, hbf⟩ := hd1'.out w1 hr1.below; have hbf' := Lib.hid hbf; have hrm' := Lib.hid hrm; clear hbf hrm hr1))
          go_region_held3 (fun w' => w'.cell? ⟨w.heap.size, 1, none⟩ = some (.int .i64 f) ∧ w'.cell? ⟨hb, 0, none⟩ = some (.int .i64 f)) (exact hA) (fail)
          go_upto_region 4 with (fail)
          go_region_held3 (fun w' => w'.cell? ⟨w.heap.size, 3, none⟩ = some (.int .i64 tt) ∧ w'.cell? ⟨hb, 1, none⟩ = some (.int .i64 tt)) (exact hB) (fail)
          go_wp2
          go_ret
          exact ⟨rfl, hbf'.out⟩
        · have h4' : an = false := by simpa using h4
          subst h4'
          clear h4
          by_cases h5 : most ≤ (L.length : Int)
          · obtain rfl : r = 9 := by have := hR.out; simp [h5] at this; exact this
            have hrm0 : roomN ⟨f, tt, most, lo⟩ L.length = 0 := by unfold roomN; dsimp only; omega
            rw [hrm0] at hd1'
            go_upto_region 3 with (first
              | (go_at_call 33; refine hm.mono ?_; rintro e w' ⟨rfl, rfl⟩)
              | (go_at_call 25; refine (hck _).mono ?_; rintro e w1 ⟨rfl, hr1⟩; obtain ⟨hA, hB, q6, hrm, hbf⟩ := hd1'.out w1 hr1.below; have hbf' := Lib.hid hbf; have hrm' := Lib.hid hrm; clear hbf hrm hr1))
            go_region_held3 (fun w' => w'.cell? ⟨w.heap.size, 1, none⟩ = some (.int .i64 f) ∧ w'.cell? ⟨hb, 0, none⟩ = some (.int .i64 f)) (exact hA) (fail)
            go_upto_region 4 with (fail)
            go_region_held3 (fun w' => w'.cell? ⟨w.heap.size, 3, none⟩ = some (.int .i64 tt) ∧ w'.cell? ⟨hb, 1, none⟩ = some (.int .i64 tt)) (exact hB) (fail)
            go_wp2_with (go_at_call 17; refine hrm'.out.mono ?_; rintro e w2 ⟨rfl, hb2⟩; have hb2' := Lib.hid hb2; clear hb2)
            go_ret
            exact ⟨rfl, hbf'.out.trans (hb2'.out.mono hbf'.out.size)⟩
          · obtain rfl : r = 0 := by have := hR.out; simp [h5] at this; exact this
            have hrm0 : ¬ roomN ⟨f, tt, most, lo⟩ L.length = 0 := by unfold roomN; dsimp only; omega
            generalize roomN ⟨f, tt, most, lo⟩ L.length = rn at hd1' hrm0
            go_upto_region 3 with (first
              | (go_at_call 33; refine hm.mono ?_; rintro e w' ⟨rfl, rfl⟩)
              | (go_at_call 25; refine (hck _).mono ?_; rintro e w1 ⟨rfl, hr1⟩; obtain ⟨hA, hB, q6, hrm, hbf⟩ := hd1'.out w1 hr1.below; have hbf' := Lib.hid hbf; have hrm' := Lib.hid hrm; clear hbf hrm hr1))
            go_region_held3 (fun w' => w'.cell? ⟨w.heap.size, 1, none⟩ = some (.int .i64 f) ∧ w'.cell? ⟨hb, 0, none⟩ = some (.int .i64 f)) (exact hA) (fail)
            go_upto_region 4 with (fail)
            go_region_held3 (fun w' => w'.cell? ⟨w.heap.size, 3, none⟩ = some (.int .i64 tt) ∧ w'.cell? ⟨hb, 1, none⟩ = some (.int .i64 tt)) (exact hB) (fail)
            go_wp2_with (go_at_call 17; refine hrm'.out.mono ?_; rintro e w2 ⟨rfl, hb2⟩; have hb2' := Lib.hid hb2; clear hb2)
            go_ret
            exact ⟨rfl, hbf'.out.trans (hb2'.out.mono hbf'.out.size)⟩
      · obtain rfl : r = 1 := by have := hR.out; simp [h3] at this; exact this
        go_upto_region 3 with (first
          | (go_at_call 33; refine hm.mono ?_; rintro e w' ⟨rfl, rfl⟩)
          | (go_at_call 25; refine (hck _).mono ?_; rintro e w1 ⟨rfl, hr1⟩; obtain ⟨hA, hB, q6, hrm, hbf⟩ := hd1'.out w1 hr1.below; have hbf' := Lib.hid hbf; have hrm' := Lib.hid hrm; clear hbf hrm hr1))
        go_region_held3 (fun w' => w'.cell? ⟨w.heap.size, 1, none⟩ = some (.int .i64 f) ∧ w'.cell? ⟨hb, 0, none⟩ = some (.int .i64 f)) (exact hA) (fail)
        go_upto_region 4 with (fail)
        go_region_held3 (fun w' => w'.cell? ⟨w.heap.size, 3, none⟩ = some (.int .i64 tt) ∧ w'.cell? ⟨hb, 1, none⟩ = some (.int .i64 yt)) (exact hB) (fail)
        go_wp2
        go_ret
        exact ⟨rfl, hbf'.out⟩
    · obtain rfl : r = 1 := by have := hR.out; simp [h2] at this; exact this
      have hd2 : Hid (∀ w1, Below W0.heap.size W0 w1 → Below w.heap.size w w1.drew) := fun w1 hb1 => hb0.out.trans (hb1.drew.mono hb0.out.size)
      go_upto_region 3 with (first
        | (go_at_call 33; refine hm.mono ?_; rintro e w' ⟨rfl, rfl⟩)
        | (go_at_call 25; refine (hck _).mono ?_; rintro e w1 ⟨rfl, hr1⟩; obtain ⟨hA, hB, q6, hrm, -⟩ := hd1'.out w1 hr1.below; have hbf' := Lib.hid (hd2.out w1 hr1.below); clear hrm hr1))
      go_region_held3 (fun w' => w'.cell? ⟨w.heap.size, 1, none⟩ = some (.int .i64 f) ∧ w'.cell? ⟨hb, 0, none⟩ = some (.int .i64 fr)) (exact hA) (fail)
      go_wp2
      go_ret
      exact ⟨rfl, hbf'.out⟩
  · obtain rfl : r = 1 := by have := hR.out; simp [h1] at this; exact this
    have hd2 : Hid (∀ w1, Below W0.heap.size W0 w1 → Below w.heap.size w w1) := fun w1 hb1 => hb0.out.trans (hb1.mono hb0.out.size)
    generalize chkM ⟨⟨t, f, s⟩, tt, vv, u, an⟩ = z at *
    go_wp2_with (first
      | (go_at_call 33; refine hm.mono ?_; rintro e w' ⟨rfl, rfl⟩)
      | (go_at_call 25; refine (hck _).mono ?_; rintro e w1 ⟨rfl, hr1⟩; have hbf' := Lib.hid (hd2.out w1 hr1.below); clear hr1))
    go_ret
    exact ⟨rfl, hbf'.out⟩
end
end Go.Proofs.Ytjbammgnkegecaa
