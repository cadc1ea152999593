
/-
  Places by halving; what is added to the bottom.
-/
import Derived.Test.YtcfpfbemmklbaaaLDD
namespace Go.Proofs.Ytcfpfbemmklbaaa
open Go.ChangeShapes Go.WideShapes Go.ChangeAt Go.Shelf Go.RowKit Go.Lib Go.Sort Go.Deep
set_option linter.unusedVariables false

set_option maxHeartbeats 4000000 in
set_option maxRecDepth 100000 in
theorem search_lbadd1 {W0 : World} (n : Nat) (hn : n < 1000000) (lt : Nat → Bool) (x y : Value)
    (hf : ∀ k, k < n → ∀ w, Read W0 w → Calls Try.prog 52 #[.int .i64 k, x, y] w fun e w' => e = .returned (.bool (!lt k)) ∧ Read w w')
    (hmono : ∀ i j, i < j → j < n → lt j = true → lt i = true) :
    Calls Try.prog 41 #[.int .i64 n, .func (.func 52) #[] #[x, y]] W0 fun e w' => ∃ p : Nat, e = .returned (.int .i64 p) ∧ Read W0 w' ∧ p ≤ n ∧ (∀ i, i < p → lt i = true) ∧ (∀ i, p ≤ i → i < n → lt i = false) := by
  have mixed := mixed
  have hf' := Lib.hid hf
  have hm' := Lib.hid hmono
  have hn' := Lib.hid hn
  clear hf hmono
  go_enter Try.func41, Try.ntmps41
  go_wp2
  go_loopg [5, 6] n (fun kx s5 s6 wr => ∃ (i j : Nat), s5 = .int .i64 i ∧ s6 = .int .i64 j ∧ i ≤ j ∧ j ≤ n ∧ j - i ≤ kx ∧ Hid ((∀ t, t < i → lt t = true) ∧ (∀ t, j ≤ t → t < n → lt t = false) ∧ Read W0 wr))
  case atStart => exact ⟨0, n, rfl, rfl, Nat.zero_le _, Nat.le_refl _, by omega, ⟨fun t h => by omega, fun t h h' => by omega, Read.refl _⟩⟩
  case round =>
    obtain ⟨i, j, rfl, rfl, hij, hj, hkx, H⟩ := hrel
    by_cases hlt : i < j
    · have hz : (i : Int) < (j : Int) := by omega
      have hu := half_u (i := i) (j := j) (by have := hn'.out; omega)
      obtain ⟨h, hhe, hih, hhj⟩ : ∃ h : Nat, ((i : Int) + (j : Int)) / 2 = (h : Int) ∧ i ≤ h ∧ h < j := ⟨(i + j) / 2, by omega, by omega, by omega⟩
      have rc5 : IntKind.i64.wrap ((h : Int)) = (h : Int) := by rw [IntKind.wrap_i64]; have := hn'.out; omega
      have hc := hf'.out h (by omega) wr H.out.2.2
      cases hL : lt h with
      | true =>
        have rc6 : IntKind.i64.wrap ((h : Int) + 1) = (h : Int) + 1 := IntWalk.i64_in _ (by have := hn'.out; omega)
        rw [hL] at hc
        go_wp2_with (go_at_call 52; refine hc.mono ?_; rintro e w1 ⟨rfl, hr1⟩)
        go_roundg (j - (h + 1))
        case measure => omega
        case rel =>
          refine ⟨h + 1, j, by simp, rfl, by omega, hj, Nat.le_refl _, ⟨fun t ht => ?_, H.out.2.1, H.out.2.2.trans hr1⟩⟩
          by_cases hte : t = h
          · rw [hte]; exact hL
          · exact hm'.out t h (by omega) (by omega) hL
      | false =>
        rw [hL] at hc
        go_wp2_with (go_at_call 52; refine hc.mono ?_; rintro e w1 ⟨rfl, hr1⟩)
        go_roundg (h - i)
        case measure => omega
        case rel =>
          refine ⟨i, h, rfl, rfl, by omega, by omega, Nat.le_refl _, ⟨H.out.1, fun t ht ht2 => ?_, H.out.2.2.trans hr1⟩⟩
          cases hb : lt t with
          | false => rfl
          | true =>
            by_cases hte : t = h
            · rw [hte, hL] at hb; cases hb
            · have := hm'.out h t (by omega) ht2 hb
              rw [hL] at this; cases this
    · have hz : ¬ (i : Int) < (j : Int) := by omega
      obtain rfl : i = j := by omega
      go_wp2
      go_ret
      exact ⟨i, rfl, H.out.2.2, hj, H.out.1, H.out.2.1⟩

theorem find_lbadd1 {W0 : World} (n : Nat) (hn : n < 1000000) (up : Nat → Bool) (x y : Value)
    (hf : ∀ k, k < n → ∀ w, Read W0 w → Calls Try.prog 52 #[.int .i64 k, x, y] w fun e w' => e = .returned (.bool (up k)) ∧ Read w w')
    (hmono : ∀ i j, i < j → j < n → up i = true → up j = true) :
    Calls Try.prog 41 #[.int .i64 n, .func (.func 52) #[] #[x, y]] W0 fun e w' => ∃ p : Nat, e = .returned (.int .i64 p) ∧ Read W0 w' ∧ p ≤ n ∧ (∀ i, i < p → up i = false) ∧ (∀ i, p ≤ i → i < n → up i = true) := by
  refine (search_lbadd1 n hn (fun i => !up i) x y (fun k hk w hw => by simpa using hf k hk w hw) (fun i j hij hj h => ?_)).mono ?_
  · cases hb : up i with
    | false => rfl
    | true => rw [hmono i j hij hj hb] at h; cases h
  · rintro e w' ⟨p, h1, h2, h3, h4, h5⟩
    exact ⟨p, h1, h2, h3, fun i hi => by simpa using h4 i hi, fun i hi hn => by simpa using h5 i hi hn⟩

set_option maxHeartbeats 4000000 in
set_option maxRecDepth 100000 in
theorem search_lput1 {W0 : World} (n : Nat) (hn : n < 1000000) (lt : Nat → Bool) (x y : Value)
    (hf : ∀ k, k < n → ∀ w, Read W0 w → Calls Try.prog 42 #[.int .i64 k, x, y] w fun e w' => e = .returned (.bool (!lt k)) ∧ Read w w')
    (hmono : ∀ i j, i < j → j < n → lt j = true → lt i = true) :
    Calls Try.prog 41 #[.int .i64 n, .func (.func 42) #[] #[x, y]] W0 fun e w' => ∃ p : Nat, e = .returned (.int .i64 p) ∧ Read W0 w' ∧ p ≤ n ∧ (∀ i, i < p → lt i = true) ∧ (∀ i, p ≤ i → i < n → lt i = false) := by
  have mixed := mixed
  have hf' := Lib.hid hf
  have hm' := Lib.hid hmono
  have hn' := Lib.hid hn
  clear hf hmono
  go_enter Try.func41, Try.ntmps41
  go_wp2
  go_loopg [5, 6] n (fun kx s5 s6 wr => ∃ (i j : Nat), s5 = .int .i64 i ∧ s6 = .int .i64 j ∧ i ≤ j ∧ j ≤ n ∧ j - i ≤ kx ∧ Hid ((∀ t, t < i → lt t = true) ∧ (∀ t, j ≤ t → t < n → lt t = false) ∧ Read W0 wr))
  case atStart => exact ⟨0, n, rfl, rfl, Nat.zero_le _, Nat.le_refl _, by omega, ⟨fun t h => by omega, fun t h h' => by omega, Read.refl _⟩⟩
  case round =>
    obtain ⟨i, j, rfl, rfl, hij, hj, hkx, H⟩ := hrel
    by_cases hlt : i < j
    · have hz : (i : Int) < (j : Int) := by omega
      have hu := half_u (i := i) (j := j) (by have := hn'.out; omega)
      obtain ⟨h, hhe, hih, hhj⟩ : ∃ h : Nat, ((i : Int) + (j : Int)) / 2 = (h : Int) ∧ i ≤ h ∧ h < j := ⟨(i + j) / 2, by omega, by omega, by omega⟩
      have rc5 : IntKind.i64.wrap ((h : Int)) = (h : Int) := by rw [IntKind.wrap_i64]; have := hn'.out; omega
      have hc := hf'.out h (by omega) wr H.out.2.2
      cases hL : lt h with
      | true =>
        have rc6 : IntKind.i64.wrap ((h : Int) + 1) = (h : Int) + 1 := IntWalk.i64_in _ (by have := hn'.out; omega)
        rw [hL] at hc
        go_wp2_with (go_at_call 42; refine hc.mono ?_; rintro e w1 ⟨rfl, hr1⟩)
        go_roundg (j - (h + 1))
        case measure => omega
        case rel =>
          refine ⟨h + 1, j, by simp, rfl, by omega, hj, Nat.le_refl _, ⟨fun t ht => ?_, H.out.2.1, H.out.2.2.trans hr1⟩⟩
          by_cases hte : t = h
          · rw [hte]; exact hL
          · exact hm'.out t h (by omega) (by omega) hL
      | false =>
        rw [hL] at hc
        go_wp2_with (go_at_call 42; refine hc.mono ?_; rintro e w1 ⟨rfl, hr1⟩)
        go_roundg (h - i)
        case measure => omega
        case rel =>
          refine ⟨i, h, rfl, rfl, by omega, by omega, Nat.le_refl _, ⟨H.out.1, fun t ht ht2 => ?_, H.out.2.2.trans hr1⟩⟩
          cases hb : lt t with
          | false => rfl
          | true =>
            by_cases hte : t = h
            · rw [hte, hL] at hb; cases hb
            · have := hm'.out h t (by omega) ht2 hb
              rw [hL] at this; cases this
    · have hz : ¬ (i : Int) < (j : Int) := by omega
      obtain rfl : i = j := by omega
      go_wp2
      go_ret
      exact ⟨i, rfl, H.out.2.2, hj, H.out.1, H.out.2.1⟩

theorem find_lput1 {W0 : World} (n : Nat) (hn : n < 1000000) (up : Nat → Bool) (x y : Value)
    (hf : ∀ k, k < n → ∀ w, Read W0 w → Calls Try.prog 42 #[.int .i64 k, x, y] w fun e w' => e = .returned (.bool (up k)) ∧ Read w w')
    (hmono : ∀ i j, i < j → j < n → up i = true → up j = true) :
    Calls Try.prog 41 #[.int .i64 n, .func (.func 42) #[] #[x, y]] W0 fun e w' => ∃ p : Nat, e = .returned (.int .i64 p) ∧ Read W0 w' ∧ p ≤ n ∧ (∀ i, i < p → up i = false) ∧ (∀ i, p ≤ i → i < n → up i = true) := by
  refine (search_lput1 n hn (fun i => !up i) x y (fun k hk w hw => by simpa using hf k hk w hw) (fun i j hij hj h => ?_)).mono ?_
  · cases hb : up i with
    | false => rfl
    | true => rw [hmono i j hij hj hb] at h; cases h
  · rintro e w' ⟨p, h1, h2, h3, h4, h5⟩
    exact ⟨p, h1, h2, h3, fun i hi => by simpa using h4 i hi, fun i hi hn => by simpa using h5 i hi hn⟩


set_option maxHeartbeats 4000000 in
set_option maxRecDepth 100000 in
theorem badd1_any {W : World} {A B b o g off cap : Nat} {l : List M} (m : M) (hA : W.cell? ⟨A, 0, none⟩ = some (.pointer (some ⟨b, o, none⟩))) (hb : W.cell? ⟨b, o, none⟩ = some (.slice (some ⟨g, off, none⟩) l.length cap)) (hB : MsgAt W B 0 m) (hR : RowM W g off cap l) (k : Nat) (hk : k < l.length) :
    Calls Try.prog 52 #[.int .i64 k, .pointer (some ⟨B, 0, none⟩), .pointer (some ⟨A, 0, none⟩)] W fun e w' => e = .returned (.bool (ltM m (l.getD k default))) ∧ Read W w' := by
  have mixed := mixed
  have hx := hR.at k hk
  have hAl : A < W.heap.size := World.block_lt_of_cell? W _ hA
  have hbl : b < W.heap.size := World.block_lt_of_cell? W _ hb
  have hkI : (k : Int) < (l.length : Int) := by omega
  clear hR hk
  generalize l.getD k default = x at hx ⊢
  generalize l.length = n at hb hkI ⊢
  have hcon := fun w => eBefore_any m x w
  obtain ⟨hBl, y0, y1, y2, y3, y4, y5, y6⟩ := hB
  obtain ⟨hgl, x0, x1, x2, x3, x4, x5, x6⟩ := hx
  simp only [Nat.zero_add] at y0 y1 y2 y3 y4 y5 y6
  simp only [M.val] at hcon
  have hS : ∀ w', Read W w' → w'.cell? ⟨A, 0, none⟩ = some (.pointer (some ⟨b, o, none⟩)) ∧ w'.cell? ⟨b, o, none⟩ = some (.slice (some ⟨g, off, none⟩) n cap) ∧
      (w'.cell? ⟨g, off + k * 7, none⟩ = some (.int .i64 x.k.t) ∧ w'.cell? ⟨g, off + k * 7 + 1, none⟩ = some (.int .i64 x.k.f) ∧ w'.cell? ⟨g, off + k * 7 + 2, none⟩ = some (.int .i64 x.k.s) ∧ w'.cell? ⟨g, off + k * 7 + 3, none⟩ = some (.int .i64 x.to) ∧
        w'.cell? ⟨g, off + k * 7 + 4, none⟩ = some (.int .i64 x.v) ∧ w'.cell? ⟨g, off + k * 7 + 5, none⟩ = some (.int .i64 x.u) ∧ w'.cell? ⟨g, off + k * 7 + 6, none⟩ = some (.bool x.anti)) ∧
      (w'.cell? ⟨B, 0, none⟩ = some (.int .i64 m.k.t) ∧ w'.cell? ⟨B, 1, none⟩ = some (.int .i64 m.k.f) ∧ w'.cell? ⟨B, 2, none⟩ = some (.int .i64 m.k.s) ∧ w'.cell? ⟨B, 3, none⟩ = some (.int .i64 m.to) ∧
        w'.cell? ⟨B, 4, none⟩ = some (.int .i64 m.v) ∧ w'.cell? ⟨B, 5, none⟩ = some (.int .i64 m.u) ∧ w'.cell? ⟨B, 6, none⟩ = some (.bool m.anti)) := fun w' hr =>
    ⟨hr.cell hAl hA, hr.cell hbl hb, ⟨hr.cell hgl x0, hr.cell hgl x1, hr.cell hgl x2, hr.cell hgl x3, hr.cell hgl x4, hr.cell hgl x5, hr.cell hgl x6⟩, hr.cell hBl y0, hr.cell hBl y1, hr.cell hBl y2, hr.cell hBl y3, hr.cell hBl y4, hr.cell hBl y5, hr.cell hBl y6⟩
  clear hA hb x0 x1 x2 x3 x4 x5 x6 y0 y1 y2 y3 y4 y5 y6 hAl hgl hbl hBl
  generalize ltM m x = lt at hcon ⊢
  have hd := Read.drew W 1
  go_enter Try.func52, Try.ntmps52
  go_upto_region 1 with (fail)
  go_region_held3 (fun w' => w'.cell? ⟨A, 0, none⟩ = some (.pointer (some ⟨b, o, none⟩)) ∧ w'.cell? ⟨b, o, none⟩ = some (.slice (some ⟨g, off, none⟩) n cap) ∧
      (w'.cell? ⟨g, off + k * 7, none⟩ = some (.int .i64 x.k.t) ∧ w'.cell? ⟨g, off + k * 7 + 1, none⟩ = some (.int .i64 x.k.f) ∧ w'.cell? ⟨g, off + k * 7 + 2, none⟩ = some (.int .i64 x.k.s) ∧ w'.cell? ⟨g, off + k * 7 + 3, none⟩ = some (.int .i64 x.to) ∧
        w'.cell? ⟨g, off + k * 7 + 4, none⟩ = some (.int .i64 x.v) ∧ w'.cell? ⟨g, off + k * 7 + 5, none⟩ = some (.int .i64 x.u) ∧ w'.cell? ⟨g, off + k * 7 + 6, none⟩ = some (.bool x.anti)) ∧
      (w'.cell? ⟨B, 0, none⟩ = some (.int .i64 m.k.t) ∧ w'.cell? ⟨B, 1, none⟩ = some (.int .i64 m.k.f) ∧ w'.cell? ⟨B, 2, none⟩ = some (.int .i64 m.k.s) ∧ w'.cell? ⟨B, 3, none⟩ = some (.int .i64 m.to) ∧
        w'.cell? ⟨B, 4, none⟩ = some (.int .i64 m.v) ∧ w'.cell? ⟨B, 5, none⟩ = some (.int .i64 m.u) ∧ w'.cell? ⟨B, 6, none⟩ = some (.bool m.anti)))
    (first | exact hS _ hd | exact hS _ (hd.trans hr1))
    (first | (go_at_call 32; refine (hcon _).mono ?_; rintro e w1 ⟨rfl, hr1⟩))
  go_wp2
  go_ret
  exact ⟨rfl, hd.trans hr1⟩

/-- p is the place of m in the bottom's list. -/
def PlaceB (l : List M) (m : M) (p : Nat) : Prop := p ≤ l.length ∧ (∀ i, i < p → ltM m (l.getD i default) = false) ∧ ∀ i, p ≤ i → i < l.length → ltM m (l.getD i default) = true
theorem getD_at {α : Type} [Inhabited α] (l : List α) (i : Nat) (h : i < l.length) : l.getD i default = l[i] := by simp [List.getD_eq_getElem?_getD, h]
theorem up_mono {l : List M} (h : InOrder ltM l) (m : M) (i j : Nat) (hij : i < j) (hj : j < l.length) (hl : ltM m (l.getD i default) = true) : ltM m (l.getD j default) = true := by
  have h1 := List.pairwise_iff_getElem.1 h i j (by omega) hj hij
  rw [getD_at l i (by omega)] at hl
  rw [getD_at l j hj]
  generalize l[i] = a at *
  generalize l[j] = b at *
  rw [ltM_no] at h1
  rw [ltM_iff] at *
  omega
theorem lt_no {a b : M} (h : ltM a b = true) : ltM b a = false := by
  rw [ltM_iff] at h
  rw [ltM_no]
  omega
theorem ins_order {l : List M} (h : InOrder ltM l) {m : M} {p : Nat} (hp : PlaceB l m p) : InOrder ltM (l.take p ++ m :: l.drop p) := by
  obtain ⟨h1, h2, h3⟩ := hp
  have hs := List.pairwise_append.1 (show InOrder ltM (l.take p ++ l.drop p) by rw [List.take_append_drop]; exact h)
  refine List.pairwise_append.2 ⟨hs.1, List.pairwise_cons.2 ⟨fun y hy => ?_, hs.2.1⟩, fun x hx y hy => ?_⟩
  · obtain ⟨i, hi, rfl⟩ := List.getElem_of_mem hy
    rw [List.length_drop] at hi
    have := h3 (p + i) (by omega) (by omega)
    rw [getD_at _ _ (by omega)] at this
    rw [List.getElem_drop]
    exact lt_no this
  · rcases List.mem_cons.1 hy with rfl | hy
    · obtain ⟨i, hi, rfl⟩ := List.getElem_of_mem hx
      rw [List.length_take] at hi
      have := h2 i (by omega)
      rw [getD_at _ _ (by omega)] at this
      rw [List.getElem_take]
      exact this
    · exact hs.2.2 x hx y hy
theorem ins_perm (l : List M) (p : Nat) (m : M) : (l.take p ++ m :: l.drop p).Perm (m :: l) := by
  have := List.perm_middle (a := m) (l₁ := l.take p) (l₂ := l.drop p)
  rwa [List.take_append_drop] at this
end Go.Proofs.Ytcfpfbemmklbaaa
