
/-
  The law of two colours: what each of its calls finds, and what it leaves.
-/
import Derived.Test.YtobfjfmaicmkdaaWD
namespace Go.Proofs.Ytobfjfmaicmkdaa
open Go.ChangeShapes Go.WideShapes Go.ChangeAt Go.Shelf Go.RowKit Go.Lib Go.Sort Go.Deep Col
set_option linter.unusedVariables false
set_option linter.unusedSimpArgs false
set_option maxRecDepth 4000

section
variable {w wr w' : World} {σ : Nat → Nat} {vt : Value} {gh gm kb N gt ot ct i : Nat} {pa : Nat → Nat} {hv mv : Nat → Value} {s : WS} {x y : Nat} {g : Int}
theorem Sf.cellH (h : Sf w σ vt gh gm kb N pa hv mv s wr) (hx : x < N) : wr.cell? ⟨gh, x, none⟩ = some (hv x) ∧ wr.frozen? ⟨gh, x, none⟩ = false := by
  have := h.ho.row.cell (vals_get hv hx)
  rw [Nat.zero_add] at this
  exact ⟨this, h.ho.row.fz x⟩
theorem Sf.cellM (h : Sf w σ vt gh gm kb N pa hv mv s wr) (hx : x < N) : wr.cell? ⟨gm, x, none⟩ = some (mv x) ∧ wr.frozen? ⟨gm, x, none⟩ = false := by
  have := h.mo.row.cell (vals_get mv hx)
  rw [Nat.zero_add] at this
  exact ⟨this, h.mo.row.fz x⟩
theorem Sf.form (h : Sf w σ vt gh gm kb N pa hv mv s wr) (hN : 0 < N) : ∃ gt ot ct, vt = .slice (some ⟨gt, ot, none⟩) N ct ∧ N ≤ ct := by
  obtain ⟨g, off, cap, e1, _, _, e4⟩ := h.tl.cell hN
  exact ⟨g, off, cap, e1, e4⟩
theorem Sf.ptr (h : Sf w σ (.slice (some ⟨gt, ot, none⟩) N ct) gh gm kb N pa hv mv s wr) (hx : x < N) : wr.cell? ⟨gt, ot + x, none⟩ = some (.pointer (some ⟨pa x, 0, none⟩)) := by
  obtain ⟨g, off, cap, e1, _, e3, _⟩ := h.tl.cell (by omega)
  simp only [Value.slice.injEq, Option.some.injEq, Addr.mk.injEq, and_true, true_and] at e1
  obtain ⟨⟨rfl, rfl⟩, rfl⟩ := e1
  exact e3 x hx
/-- What an append to held[x] keeps. -/
theorem Sf.keptH (h : Sf w σ vt gh gm kb N pa hv mv s wr) (hx : x < N) (hk : KeptOff (fun k => (hv x).ownBlock = some k) wr w') : (w'.cell? ⟨gh, x, none⟩ = some (hv x) ∧ w'.frozen? ⟨gh, x, none⟩ = false) ∧ ∀ b, b < w.heap.size → w'.heap[b]? = w.heap[b]? := by
  have hr := h.ho.row.kept hk (fun e => by have := (h.hi x hx).own gh e; have := h.ho.own; omega)
  have hc := hr.cell (vals_get hv hx)
  rw [Nat.zero_add] at hc
  exact ⟨⟨hc, hr.fz x⟩, fun b hb => (hk.block b (Nat.lt_of_lt_of_le hb h.wl.b.size) (fun e => by have := (h.hi x hx).own b e; have := h.wl.old b hb; omega)).trans (h.wl.b.block b hb)⟩
/-- What an append to moving[y] keeps. -/
theorem Sf.keptM (h : Sf w σ (.slice (some ⟨gt, ot, none⟩) N ct) gh gm kb N pa hv mv s wr) (hx : x < N) (hy : y < N) (hk : KeptOff (fun k => (mv y).ownBlock = some k) wr w') : (w'.cell? ⟨gm, y, none⟩ = some (mv y) ∧ w'.cell? ⟨gt, ot + x, none⟩ = some (.pointer (some ⟨pa x, 0, none⟩))) ∧ w'.frozen? ⟨gm, y, none⟩ = false := by
  have hr := h.mo.row.kept hk (fun e => by have := (h.mi y hy).own gm e; have := h.mo.own; omega)
  have hc := hr.cell (vals_get mv hy)
  rw [Nat.zero_add] at hc
  refine ⟨⟨hc, ?_⟩, hr.fz y⟩
  have ht := h.tl.row.kept hk (fun k e e2 => by have := (h.mi y hy).own k e2; have := h.tl.own k e; omega)
  obtain ⟨g, off, cap, hv', hR⟩ := ht.form (by omega)
  simp only [Value.slice.injEq, Option.some.injEq, Addr.mk.injEq, and_true, true_and] at hv'
  obtain ⟨⟨rfl, rfl⟩, rfl⟩ := hv'
  exact hR.cell (ptrs_get pa hx)
/-- A time more is laid. -/
theorem Sf0.look (h : Sf0 w vt gh gm kb N pa i wr) (hN : N ≤ 6) (hx : x < N) : ∃ (u : Value) (n : Nat) (l : List Int), n ≤ i ∧ ∀ W, Below wr.heap.size wr W → (W.cell? ⟨gh, x, none⟩ = some u ∧ ∀ b, b < w.heap.size → W.heap[b]? = w.heap[b]?) ∧ RowAt W 2 1 u n (ints l) ∧
    ∀ w', KeptOff (fun k => u.ownBlock = some k) W w' → ((w'.cell? ⟨gh, x, none⟩ = some u ∧ w'.frozen? ⟨gh, x, none⟩ = false) ∧ ∀ b, b < w.heap.size → w'.heap[b]? = w.heap[b]?) ∧
      ∀ g off cap z, (0 ≤ z ∧ z ≤ 255) → RowIn w' 2 1 g off (n + 1) cap (ints l ++ [.int .i64 z]) → (u.ownBlock = some g ∨ W.heap.size ≤ g) → Sf0 w vt gh gm kb N pa (i + 1) (w'.setCell ⟨gh, x, none⟩ (.slice (some ⟨g, off, none⟩) (n + 1) cap)) := by
  obtain ⟨σ, hv, mv, held, h1, h2, h3⟩ := h
  refine ⟨hv x, (held x).length, held x, h3 x hx, fun W hb => ?_⟩
  have h4 := h1.below hb
  refine ⟨⟨(h4.cellH hx).1, fun b hbw => h4.wl.b.block b hbw⟩, (h4.hi x hx).row, fun w' hk => ⟨h4.keptH hx hk, fun g off cap z hz r1 r2 => ?_⟩⟩
  obtain ⟨σ', h5⟩ := h4.pushH hN hx r1 hk r2
  refine ⟨σ', _, mv, upd held x (held x ++ [z]), h5, fun j hj y hy => ?_, fun j hj => ?_⟩
  · by_cases e : j = x
    · subst e
      rw [upd_same] at hy
      rcases List.mem_append.1 hy with hy | hy
      · exact h2 j hj y hy
      · rw [List.mem_singleton.1 hy]; exact hz
    · rw [upd_ne _ _ e] at hy
      exact h2 j hj y hy
  · by_cases e : j = x
    · subst e
      rw [upd_same, List.length_append]
      have := h3 j hj
      simp
      exact this
    · rw [upd_ne _ _ e]
      have := h3 j hj
      omega
theorem SfI.b (h : SfI w vt gh gm kb N pa i g wr) : Below w.heap.size w wr := by obtain ⟨σ, hv, mv, s, c, h1, _⟩ := h; exact h1.wl.b
theorem SfI.form (h : SfI w vt gh gm kb N pa i g wr) (hN : 0 < N) : ∃ gt ot ct, vt = .slice (some ⟨gt, ot, none⟩) N ct ∧ N ≤ ct := by
  obtain ⟨σ, hv, mv, s, c, h1, _⟩ := h
  exact h1.form hN
/-- Nothing happens. -/
theorem SfI.idle (h : SfI w vt gh gm kb N pa i g wr) (hb : Below wr.heap.size wr w') : SfI w vt gh gm kb N pa (i + 1) g w' := by
  obtain ⟨σ, hv, mv, s, c, h1, h2, h3, h4⟩ := h
  exact ⟨σ, hv, mv, s, c, h1.below hb, h2, Bds.more h3, h4⟩
/-- What append leaves of a parcel's send. -/
def SendTo (w : World) (vt : Value) (gh gm kb N : Nat) (pa : Nat → Nat) (i : Nat) (g : Int) (x y gt ot : Nat) (um : Value) (nm : Nat) (lm : List (Int × Bool)) (m : Int × Bool) (W3 : World) : Prop :=
  ((W3.cell? ⟨gm, y, none⟩ = some um ∧ W3.cell? ⟨gt, ot + x, none⟩ = some (.pointer (some ⟨pa x, 0, none⟩))) ∧ RowAt W3 61 2 um nm (pcs lm)) ∧ ∀ w4, KeptOff (fun k => um.ownBlock = some k) W3 w4 →
    ((w4.cell? ⟨gm, y, none⟩ = some um ∧ w4.cell? ⟨gt, ot + x, none⟩ = some (.pointer (some ⟨pa x, 0, none⟩))) ∧ w4.frozen? ⟨gm, y, none⟩ = false) ∧
    ∀ g' off cap, RowIn w4 61 2 g' off (nm + 1) cap (pcs lm ++ [.int .i64 m.1, .int .i64 (colI m.2)]) → (um.ownBlock = some g' ∨ W3.heap.size ≤ g') → SfI w vt gh gm kb N pa i g (w4.setCell ⟨gm, y, none⟩ (.slice (some ⟨g', off, none⟩) (nm + 1) cap))
/-- A send: held[x] is not empty. -/
theorem SfI.send (h : SfI w (.slice (some ⟨gt, ot, none⟩) N ct) gh gm kb N pa i g wr) (hN : N ≤ 6) (h9 : i < 1000) (hx : x < N) (hy : y < N) : ∃ (u : Value) (n : Nat), (∃ a cap, u = .slice a n cap ∧ n ≤ cap) ∧ Hid (∀ W, Below wr.heap.size wr W → W.cell? ⟨gh, x, none⟩ = some u) ∧
    ∀ n', n = n' + 1 → ∃ (hg off cap : Nat) (t0 : Int) (um : Value) (nm : Nat) (lm : List (Int × Bool)) (c : Bool), u = .slice (some ⟨hg, off, none⟩) n cap ∧ n ≤ cap ∧ nm ≤ 1000 ∧ (0 ≤ t0 ∧ t0 ≤ 10000) ∧ Hid (∀ W, Below wr.heap.size wr W → W.cell? ⟨hg, off, none⟩ = some (.int .i64 t0) ∧ W.frozen? ⟨gh, x, none⟩ = false ∧
      ∀ W2, Below (W.setCell ⟨gh, x, none⟩ (cutV 1 u)).heap.size (W.setCell ⟨gh, x, none⟩ (cutV 1 u)) W2 → (W2.cell? ⟨gm, y, none⟩ = some um ∧ W2.cell? ⟨gt, ot + x, none⟩ = some (.pointer (some ⟨pa x, 0, none⟩))) ∧
        ∀ d, 0 < d → d ≤ 5 → Calls Try.prog 12 #[.pointer (some ⟨pa x, 0, none⟩), .int .i64 (t0 + d)] W2 fun e w3 => e = .returned (.int .i64 (colI c)) ∧ Hid (∀ W3, Below w3.heap.size w3 W3 → SendTo w (.slice (some ⟨gt, ot, none⟩) N ct) gh gm kb N pa (i + 1) g x y gt ot um nm lm (t0 + d, c) W3)) := by
  obtain ⟨σ, hv, mv, s, c0, h1, h2, h3, h4⟩ := h
  refine ⟨hv x, (s.held x).length, (h1.hi x hx).row.shape, Lib.hid fun W hb => ((h1.below hb).cellH hx).1, fun n' hn' => ?_⟩
  obtain ⟨t0, hs, hh⟩ : ∃ t0 hs, s.held x = t0 :: hs := by
    cases hq : s.held x with
    | nil => rw [hq] at hn'; cases hn'
    | cons a l => exact ⟨a, l, rfl⟩
  obtain ⟨hg, off, cap, hu, hR⟩ := (h1.hi x hx).row.form (by omega)
  have hu0 := (h1.below (Below.refl _ wr)).hi x hx
  have ht0 := h3.hb x hx t0 (by rw [hh]; simp)
  refine ⟨hg, off, cap, t0, mv y, (s.mov y).length, s.mov y, (s.ta x).c, hu, hR.bounds.1, by have := h3.ml y hy; omega, ⟨ht0.1, by omega⟩, Lib.hid fun W hb => ?_⟩
  have h5 := h1.below hb
  obtain ⟨hg', off', cap', hu', hR'⟩ := (h5.hi x hx).row.form (by omega)
  rw [hu] at hu'
  simp only [Value.slice.injEq, Option.some.injEq, Addr.mk.injEq, and_true, true_and] at hu'
  obtain ⟨⟨rfl, rfl⟩, rfl⟩ := hu'
  have hc := hR'.cell (j := 0) (u := .int .i64 t0) (by rw [hh]; rfl)
  refine ⟨hc, (h5.cellH hx).2, fun W2 hb2 => ?_⟩
  have hcut : InR σ W (x + 105) 2 1 (cutV 1 (hv x)) hs.length (ints hs) := by
    have h6 := h5.hi x hx
    rw [hh] at h6
    exact ⟨h6.row.cut, fun j e => h6.own j (by rw [cutV_own] at e; exact e)⟩
  have h7 := (h5.setH hN hx hcut).below hb2
  refine ⟨⟨(h7.cellM hy).1, h7.ptr hx⟩, fun d hd hd5 => ?_⟩
  have hok : Ta.ok (s.ta x) := Bds.ok h3 (by omega) hx
  refine (h7.callSent hN hx hok (t0 + d)).mono ?_
  rintro e w3 ⟨he, hq⟩
  obtain ⟨σ3, h8⟩ := hq.out
  refine ⟨he, Lib.hid fun W3 hb3 => ?_⟩
  have h10 := h8.below hb3
  refine ⟨⟨⟨(h10.cellM hy).1, h10.ptr hx⟩, (h10.mi y hy).row⟩, fun w4 hk => ⟨h10.keptM hx hy hk, fun g' off' cap' r1 r2 => ?_⟩⟩
  obtain ⟨σ4, h11⟩ := h10.pushM (m := (t0 + d, (s.ta x).c)) hN hy r1 hk r2
  exact ⟨σ4, _, _, s.send x y t0 hs d, c0, h11, h2.send hx hy hh hd, h3.send hx hy hh hd hd5, h4⟩
end
end Go.Proofs.Ytobfjfmaicmkdaa
