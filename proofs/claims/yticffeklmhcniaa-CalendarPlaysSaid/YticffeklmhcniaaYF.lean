/-
  The place of a day among days that rise, as slices.BinarySearch finds it.
-/
import Derived.Test.YticffeklmhcniaaYE
namespace Go.Proofs.Yticffeklmhcniaa
open Go.ChangeShapes Go.WideShapes Go.ChangeAt Go.Shelf Go.RowKit Go.Lib Go.Sort Go.Deep
set_option linter.unusedVariables false

/-- What the search among days answers. -/
def BinRes (w : World) (ds : List Int) (d : Int) (e : Ending) (w' : World) : Prop := ∃ (p : Nat) (b : Bool), e = .returned (.tuple #[.int .i64 p, .bool b]) ∧ w = w' ∧ PlaceI ds d p
set_option maxHeartbeats 4000000 in
set_option maxRecDepth 100000 in
theorem binS_any {w : World} {v : Value} {ds : List Int} (h : AtI w v ds) (hO : ds.Pairwise (· < ·)) (d : Int) (hl : ds.length < 1000000) :
    Calls Try.prog 39 #[v, .int .i64 d] w (BinRes w ds d) := by
  have mixed := mixed
  obtain ⟨a, cap, hv, hlc⟩ := RowAt.shape h
  subst hv
  have hc : Hid (∀ i, i < ds.length → ∃ g off, a = some ⟨g, off, none⟩ ∧ w.cell? ⟨g, off + i, none⟩ = some (.int .i64 (ds.getD i 0))) := fun i hi => by
    obtain ⟨g, off, cap', he, hR⟩ := AtI.form h (by omega)
    cases he
    exact ⟨g, off, rfl, hR.cellI i hi⟩
  have hm := Lib.hid (rising_mono hO)
  have hl' := Lib.hid hl
  have hless := fun x => cLess_any x d w
  have hn1 := fun x => csNaN_any x w
  clear h hO
  generalize hn : ds.length = n at *
  have hn' := Lib.hid hn
  clear hn
  go_enter Try.func39, Try.ntmps39
  go_wp2
  go_loopg [7, 8] n (fun kx s7 s8 wr => ∃ (i j : Nat), s7 = .int .i64 i ∧ s8 = .int .i64 j ∧ i ≤ j ∧ j ≤ n ∧ j - i ≤ kx ∧ w = wr ∧ Hid ((∀ t, t < i → ds.getD t 0 < d) ∧ (∀ t, j ≤ t → t < n → d ≤ ds.getD t 0)))
  case atStart => exact ⟨0, n, rfl, rfl, Nat.zero_le _, Nat.le_refl _, by omega, rfl, ⟨fun t h => by omega, fun t h h' => by omega⟩⟩
  case round =>
    obtain ⟨i, j, rfl, rfl, hij, hj, hkx, rfl, H⟩ := hrel
    by_cases hlt : i < j
    · have hz : (i : Int) < (j : Int) := by omega
      have hu := half_u (i := i) (j := j) (by have := hl'.out; omega)
      obtain ⟨h, hhe, hih, hhj⟩ : ∃ h : Nat, ((i : Int) + (j : Int)) / 2 = (h : Int) ∧ i ≤ h ∧ h < j := ⟨(i + j) / 2, by omega, by omega, by omega⟩
      have rc5 : IntKind.i64.wrap ((h : Int)) = (h : Int) := by rw [IntKind.wrap_i64]; have := hl'.out; omega
      obtain ⟨g, off, rfl, hx⟩ := hc.out h (by omega)
      have hle := hless (ds.getD h 0)
      have hhn : (h : Int) < (n : Int) := by omega
      obtain ⟨xh, hxh⟩ : ∃ xh, xh = ds.getD h 0 := ⟨_, rfl⟩
      rw [← hxh] at hx hle
      have hxh' := Lib.hid hxh
      clear hxh
      by_cases hL : xh < d
      · have hL' := decide_eq_true hL
        rw [hL'] at hle
        have rc6 : IntKind.i64.wrap ((h : Int) + 1) = (h : Int) + 1 := IntWalk.i64_in _ (by have := hl'.out; omega)
        go_wp2_with (go_at_call 48; refine hle.mono ?_; rintro e w1 ⟨rfl, rfl⟩)
        go_roundg (j - (h + 1))
        case measure => omega
        case rel =>
          refine ⟨h + 1, j, by simp, rfl, by omega, hj, Nat.le_refl _, rfl, ⟨fun t ht => ?_, H.out.2⟩⟩
          by_cases hte : t = h
          · rw [hte, ← hxh'.out]; exact hL
          · have := hm.out t h (by omega) (by omega)
            rw [← hxh'.out] at this
            omega
      · have hL' := decide_eq_false hL
        rw [hL'] at hle
        go_wp2_with (go_at_call 48; refine hle.mono ?_; rintro e w1 ⟨rfl, rfl⟩)
        go_roundg (h - i)
        case measure => omega
        case rel =>
          refine ⟨i, h, rfl, rfl, by omega, by omega, Nat.le_refl _, rfl, ⟨H.out.1, fun t ht ht2 => ?_⟩⟩
          by_cases hte : t = h
          · rw [hte, ← hxh'.out]; omega
          · have := hm.out h t (by omega) ht2
            rw [← hxh'.out] at this
            omega
    · have hz : ¬ (i : Int) < (j : Int) := by omega
      obtain rfl : i = j := by omega
      have hP : Hid (PlaceI ds d i) := by
        refine ⟨by rw [hn'.out]; exact hj, H.out.1, fun t h1 h2 => H.out.2 t h1 (by rw [hn'.out] at h2; exact h2)⟩
      by_cases hin : i < n
      · have hinI : (i : Int) < (n : Int) := by omega
        obtain ⟨g, off, rfl, hx⟩ := hc.out i hin
        have h1 := hn1 (ds.getD i 0)
        generalize ds.getD i 0 = xi at hx h1
        by_cases he : xi = d
        · have he' : decide (xi = d) = true := decide_eq_true he
          go_wp2_with (go_at_call 49; refine h1.mono ?_; rintro e w1 ⟨rfl, rfl⟩)
          go_ret2
          exact ⟨i, _, rfl, rfl, hP.out⟩
        · have he' : decide (xi = d) = false := decide_eq_false he
          go_wp2_with (go_at_call 49; refine h1.mono ?_; rintro e w1 ⟨rfl, rfl⟩)
          go_ret2
          exact ⟨i, _, rfl, rfl, hP.out⟩
      · have hinI : ¬ (i : Int) < (n : Int) := by omega
        go_wp2
        go_ret2
        exact ⟨i, _, rfl, rfl, hP.out⟩

/-- The day of a time. -/
def dayOf (W t : Int) : Int := t / W
theorem day_range {W t : Int} (hW : 1 ≤ W) (h1 : -9223372036854775808 ≤ t) (h2 : t ≤ 9223372036854775807) : -9223372036854775808 ≤ t / W ∧ t / W ≤ 9223372036854775807 := by
  refine ⟨?_, ?_⟩
  · rw [Int.le_ediv_iff_mul_le (by omega)]
    omega
  · have : t / W < 9223372036854775808 := by
      rw [Int.ediv_lt_iff_lt_mul (by omega)]
      omega
    omega
theorem day_pos {W t : Int} (hW : 1 ≤ W) (hr : 0 ≤ t.tmod W) : t.tdiv W = t / W := by
  have h1 := Int.tmod_add_mul_tdiv t W
  have h2 := Int.tmod_lt_of_pos t (show 0 < W by omega)
  generalize t.tdiv W = q at *
  generalize t.tmod W = r at *
  have h3 : t / W = q := by
    rw [← h1, Int.add_mul_ediv_left _ _ (by omega), Int.ediv_eq_zero_of_lt hr h2]
    omega
  exact h3.symm
theorem day_neg {W t : Int} (hW : 1 ≤ W) (hr : t.tmod W < 0) : t.tdiv W - 1 = t / W := by
  have h1 := Int.tmod_add_mul_tdiv t W
  have h2 : -W < t.tmod W := by
    have := Int.lt_tmod_of_pos t (show 0 < W by omega)
    omega
  generalize t.tdiv W = q at *
  generalize t.tmod W = r at *
  have e : W * q = W * (q - 1) + W := by rw [Int.mul_sub, Int.mul_one]; omega
  have h3 : t / W = q - 1 := by
    rw [← h1, e, show r + (W * (q - 1) + W) = (r + W) + W * (q - 1) by omega, Int.add_mul_ediv_left _ _ (by omega), Int.ediv_eq_zero_of_lt (by omega) (by omega)]
    omega
  exact h3.symm
theorem wf_range {t : Int} (h : (Lit.int .i64 t).wf = true) : -9223372036854775808 ≤ t ∧ t ≤ 9223372036854775807 := by
  simp [Lit.wf, IntKind.min, IntKind.max, IntKind.signed, IntKind.bits] at h
  omega
theorem dayOf_mono {W t t' : Int} (hW : 1 ≤ W) (h : t ≤ t') : dayOf W t ≤ dayOf W t' := Int.ediv_le_ediv (by omega) h
set_option maxHeartbeats 1000000 in
set_option maxRecDepth 100000 in
theorem dayOf_any {w : World} {db : Nat} {W t : Int} (hc : w.cell? ⟨db, 0, none⟩ = some (.int .i64 W)) (hW : 1 ≤ W) (hWf : (Lit.int .i64 W).wf = true) (htf : (Lit.int .i64 t).wf = true) :
    Calls Try.prog 38 #[.pointer (some ⟨db, 0, none⟩), .int .i64 t] w fun e w' => e = .returned (.int .i64 (dayOf W t)) ∧ w = w' := by
  have mixed := mixed
  go_enter Try.func38, Try.ntmps38
  have hr := wf_range htf
  have hd := day_range hW hr.1 hr.2
  have hpos := @day_pos W t hW
  have hneg := @day_neg W t hW
  have hlow : t.tmod W < 0 → t / W < 0 := fun h => by
    have ht : t < 0 := by
      rcases Int.lt_or_le t 0 with h1 | h1
      · exact h1
      · have := Int.tmod_nonneg W h1; omega
    rw [Int.ediv_lt_iff_lt_mul (by omega)]
    omega
  have hfin : ∀ q r : Int, t.tdiv W = q → t.tmod W = r → (r < 0 → wrap64 (wrap64 q - 1) = dayOf W t) ∧ (0 ≤ r → wrap64 q = dayOf W t) := by
    rintro q r rfl rfl
    unfold dayOf
    refine ⟨fun h => ?_, fun h => ?_⟩
    · have := hneg h
      have := hlow h
      rw [IntWalk.wrap64_in (t.tdiv W) (by omega), IntWalk.wrap64_in _ (by omega)]
      omega
    · have := hpos h
      rw [IntWalk.wrap64_in (t.tdiv W) (by omega)]
      omega
  have hf := Lib.hid (hfin _ _ rfl rfl)
  clear hfin hpos hneg hlow hd hr
  go_wp2
  all_goals
    go_ret
    refine ⟨congrArg (fun x => Ending.returned (.int .i64 x)) ?_, rfl⟩
    first | exact hf.out.1 (by assumption) | exact hf.out.2 (by assumption)
end Go.Proofs.Yticffeklmhcniaa
