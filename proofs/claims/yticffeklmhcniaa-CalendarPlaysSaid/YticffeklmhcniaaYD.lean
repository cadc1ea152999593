
/-
  Places by halving: sort.Search over a list of messages, slices.BinarySearch over days; the day of a time.
-/
import Derived.Test.YticffeklmhcniaaYC
namespace Go.Proofs.Yticffeklmhcniaa
open Go.ChangeShapes Go.WideShapes Go.ChangeAt Go.Shelf Go.RowKit Go.Lib Go.Sort Go.Deep
set_option linter.unusedVariables false

/-- The middle of two, as the library computes it. -/
theorem half_u {i j : Nat} (h : i + j < 4611686018427387904) : IntKind.u64.wrap ((i : Int) + (j : Int)) = (i : Int) + (j : Int) := by rw [IntKind.wrap_u64]; omega

set_option maxHeartbeats 4000000 in
set_option maxRecDepth 100000 in
theorem search_any {W0 : World} (n : Nat) (hn : n < 1000000) (lt : Nat → Bool) (x y : Value)
    (hf : ∀ k, k < n → ∀ w, Read W0 w → Calls Try.prog 51 #[.int .i64 k, x, y] w fun e w' => e = .returned (.bool (!lt k)) ∧ Read w w')
    (hmono : ∀ i j, i < j → j < n → lt j = true → lt i = true) :
    Calls Try.prog 50 #[.int .i64 n, .func (.func 51) #[] #[x, y]] W0 fun e w' => ∃ p : Nat, e = .returned (.int .i64 p) ∧ Read W0 w' ∧ p ≤ n ∧ (∀ i, i < p → lt i = true) ∧ (∀ i, p ≤ i → i < n → lt i = false) := by
  have mixed := mixed
  have hf' := Lib.hid hf
  have hm' := Lib.hid hmono
  have hn' := Lib.hid hn
  clear hf hmono
  go_enter Try.func50, Try.ntmps50
  go_wp2
  go_loopg [5, 6] n (fun kx s5 s6 wr => ∃ (i j : Nat), s5 = .int .i64 i ∧ s6 = .int .i64 j ∧ i ≤ j ∧ j ≤ n ∧ j - i ≤ kx ∧ Hid ((∀ t, t < i → lt t = true) ∧ (∀ t, j ≤ t → t < n → lt t = false) ∧ Read W0 wr))
  case atStart => exact ⟨0, n, rfl, rfl, Nat.zero_le _, Nat.le_refl _, by omega, ⟨fun t h => by omega, fun t h h' => by omega, Read.refl _⟩⟩
  case round =>
    obtain ⟨i, j, rfl, rfl, hij, hj, hkx, H⟩ := hrel
    by_cases hlt : i < j
    · have hz : (i : Int) < (j : Int) := by omega
      have hu := half_u (i := i) (j := j) (by have := hn'.out; omega)
      obtain ⟨h, hhe, hih, hhj⟩ : ∃ h : Nat, ((i : Int) + (j : Int)) / 2 = (h : Int) ∧ i ≤ h ∧ h < j := ⟨(i + j) / 2, by omega, by omega, by omega⟩
      have rc5 : IntKind.i64.wrap ((h : Int)) = (h : Int) := by rw [IntKind.wrap_i64]; have := hn'.out; omega
      have hc := hf'.out h (by omega) wr H.out.2.2
      cases hL : lt h with
      | true =>
        have rc6 : IntKind.i64.wrap ((h : Int) + 1) = (h : Int) + 1 := IntWalk.i64_in _ (by have := hn'.out; omega)
        rw [hL] at hc
        go_wp2_with (go_at_call 51; refine hc.mono ?_; rintro e w1 ⟨rfl, hr1⟩)
        go_roundg (j - (h + 1))
        case measure => omega
        case rel =>
          refine ⟨h + 1, j, by simp, rfl, by omega, hj, Nat.le_refl _, ⟨fun t ht => ?_, H.out.2.1, H.out.2.2.trans hr1⟩⟩
          by_cases hte : t = h
          · rw [hte]; exact hL
          · exact hm'.out t h (by omega) (by omega) hL
      | false =>
        rw [hL] at hc
        go_wp2_with (go_at_call 51; refine hc.mono ?_; rintro e w1 ⟨rfl, hr1⟩)
        go_roundg (h - i)
        case measure => omega
        case rel =>
          refine ⟨i, h, rfl, rfl, by omega, by omega, Nat.le_refl _, ⟨H.out.1, fun t ht ht2 => ?_, H.out.2.2.trans hr1⟩⟩
          cases hb : lt t with
          | false => rfl
          | true =>
            by_cases hte : t = h
            · rw [hte, hL] at hb; cases hb
            · have := hm'.out h t (by omega) ht2 hb
              rw [hL] at this; cases this
    · have hz : ¬ (i : Int) < (j : Int) := by omega
      obtain rfl : i = j := by omega
      go_wp2
      go_ret
      exact ⟨i, rfl, H.out.2.2, hj, H.out.1, H.out.2.1⟩

/-- A message of a row. -/
theorem RowM.at {w : World} {g off cap : Nat} {l : List M} (h : RowM w g off cap l) (i : Nat) (hi : i < l.length) : MsgAt w g (off + i * 7) (l.getD i default) := by
  have hc : ∀ c, c < 7 → ∀ u, (encM (l.getD i default))[c]? = some u → w.cell? ⟨g, off + i * 7 + c, none⟩ = some u := fun c hc u hu => by
    rw [Nat.add_assoc]
    exact RowIn.cell h (by rw [flat_get l i c hi hc]; exact hu)
  exact ⟨RowIn.lt h, hc 0 (by omega) _ rfl, hc 1 (by omega) _ rfl, hc 2 (by omega) _ rfl, hc 3 (by omega) _ rfl, hc 4 (by omega) _ rfl, hc 5 (by omega) _ rfl, hc 6 (by omega) _ rfl⟩
theorem AtM.form {w : World} {v : Value} {l : List M} (h : AtM w v l) (h0 : 0 < l.length) : ∃ g off cap, v = .slice (some ⟨g, off, none⟩) l.length cap ∧ RowM w g off cap l := RowAt.form h h0
theorem AtI.form {w : World} {v : Value} {l : List Int} (h : AtI w v l) (h0 : 0 < l.length) : ∃ g off cap, v = .slice (some ⟨g, off, none⟩) l.length cap ∧ RowI w g off cap l := RowAt.form h h0
theorem RowAt.below {w w' : World} {e : TypeId} {sz n : Nat} {v : Value} {xs : List Value} (h : RowAt w e sz v n xs) (hb : Below w.heap.size w w') : RowAt w' e sz v n xs := h.kept (S := fun _ => False) (.of_below hb) (fun _ _ e => e)

set_option maxHeartbeats 4000000 in
set_option maxRecDepth 100000 in
theorem placeF_any {W : World} {A B g off cap : Nat} {l : List M} (m : M) (hA : W.cell? ⟨A, 0, none⟩ = some (.slice (some ⟨g, off, none⟩) l.length cap)) (hB : MsgAt W B 0 m) (hR : RowM W g off cap l) (k : Nat) (hk : k < l.length) :
    Calls Try.prog 51 #[.int .i64 k, .pointer (some ⟨A, 0, none⟩), .pointer (some ⟨B, 0, none⟩)] W fun e w' => e = .returned (.bool (!ltM (l.getD k default) m)) ∧ Read W w' := by
  have mixed := mixed
  have hx := hR.at k hk
  have hAl : A < W.heap.size := World.block_lt_of_cell? W _ hA
  have hkI : (k : Int) < (l.length : Int) := by omega
  clear hR hk
  generalize l.getD k default = x at hx ⊢
  generalize l.length = n at hA hkI ⊢
  have hcon := fun w => eBefore_any x m w
  obtain ⟨hbl, y0, y1, y2, y3, y4, y5, y6⟩ := hB
  obtain ⟨hgl, x0, x1, x2, x3, x4, x5, x6⟩ := hx
  simp only [Nat.zero_add] at y0 y1 y2 y3 y4 y5 y6
  simp only [M.val] at hcon
  have hS : ∀ w', Read W w' → w'.cell? ⟨A, 0, none⟩ = some (.slice (some ⟨g, off, none⟩) n cap) ∧
      (w'.cell? ⟨g, off + k * 7, none⟩ = some (.int .i64 x.k.t) ∧ w'.cell? ⟨g, off + k * 7 + 1, none⟩ = some (.int .i64 x.k.f) ∧ w'.cell? ⟨g, off + k * 7 + 2, none⟩ = some (.int .i64 x.k.s) ∧ w'.cell? ⟨g, off + k * 7 + 3, none⟩ = some (.int .i64 x.to) ∧
        w'.cell? ⟨g, off + k * 7 + 4, none⟩ = some (.int .i64 x.v) ∧ w'.cell? ⟨g, off + k * 7 + 5, none⟩ = some (.int .i64 x.u) ∧ w'.cell? ⟨g, off + k * 7 + 6, none⟩ = some (.bool x.anti)) ∧
      (w'.cell? ⟨B, 0, none⟩ = some (.int .i64 m.k.t) ∧ w'.cell? ⟨B, 1, none⟩ = some (.int .i64 m.k.f) ∧ w'.cell? ⟨B, 2, none⟩ = some (.int .i64 m.k.s) ∧ w'.cell? ⟨B, 3, none⟩ = some (.int .i64 m.to) ∧
        w'.cell? ⟨B, 4, none⟩ = some (.int .i64 m.v) ∧ w'.cell? ⟨B, 5, none⟩ = some (.int .i64 m.u) ∧ w'.cell? ⟨B, 6, none⟩ = some (.bool m.anti)) := fun w' hr =>
    ⟨hr.cell hAl hA, ⟨hr.cell hgl x0, hr.cell hgl x1, hr.cell hgl x2, hr.cell hgl x3, hr.cell hgl x4, hr.cell hgl x5, hr.cell hgl x6⟩, hr.cell hbl y0, hr.cell hbl y1, hr.cell hbl y2, hr.cell hbl y3, hr.cell hbl y4, hr.cell hbl y5, hr.cell hbl y6⟩
  clear hA x0 x1 x2 x3 x4 x5 x6 y0 y1 y2 y3 y4 y5 y6 hAl hgl hbl
  generalize ltM x m = lt at hcon ⊢
  have hd := Read.drew W 1
  go_enter Try.func51, Try.ntmps51
  go_upto_region 1 with (fail)
  go_region_held3 (fun w' => w'.cell? ⟨A, 0, none⟩ = some (.slice (some ⟨g, off, none⟩) n cap) ∧
      (w'.cell? ⟨g, off + k * 7, none⟩ = some (.int .i64 x.k.t) ∧ w'.cell? ⟨g, off + k * 7 + 1, none⟩ = some (.int .i64 x.k.f) ∧ w'.cell? ⟨g, off + k * 7 + 2, none⟩ = some (.int .i64 x.k.s) ∧ w'.cell? ⟨g, off + k * 7 + 3, none⟩ = some (.int .i64 x.to) ∧
        w'.cell? ⟨g, off + k * 7 + 4, none⟩ = some (.int .i64 x.v) ∧ w'.cell? ⟨g, off + k * 7 + 5, none⟩ = some (.int .i64 x.u) ∧ w'.cell? ⟨g, off + k * 7 + 6, none⟩ = some (.bool x.anti)) ∧
      (w'.cell? ⟨B, 0, none⟩ = some (.int .i64 m.k.t) ∧ w'.cell? ⟨B, 1, none⟩ = some (.int .i64 m.k.f) ∧ w'.cell? ⟨B, 2, none⟩ = some (.int .i64 m.k.s) ∧ w'.cell? ⟨B, 3, none⟩ = some (.int .i64 m.to) ∧
        w'.cell? ⟨B, 4, none⟩ = some (.int .i64 m.v) ∧ w'.cell? ⟨B, 5, none⟩ = some (.int .i64 m.u) ∧ w'.cell? ⟨B, 6, none⟩ = some (.bool m.anti)))
    (first | exact hS _ hd | exact hS _ (hd.trans hr1))
    (first | (go_at_call 32; refine (hcon _).mono ?_; rintro e w1 ⟨rfl, hr1⟩))
  go_wp2
  go_ret
  exact ⟨rfl, hd.trans hr1⟩
end Go.Proofs.Yticffeklmhcniaa
