/-
  Places by halving; what is added to the bottom.
  Rungs in memory: the bottom and what lies above it; a step of one rung.
-/
import Derived.Test.YtjlbkdghlijoeaaGreatLDD
namespace Go.Proofs.YtjlbkdghlijoeaaGreat
open Go.ChangeShapes Go.WideShapes Go.ChangeAt Go.Shelf Go.RowKit Go.Lib Go.Sort Go.Deep
set_option linter.unusedVariables false

set_option maxHeartbeats 4000000 in
set_option maxRecDepth 100000 in
theorem search_lbadd1 {W0 : World} (n : Nat) (hn : n < 1000000) (lt : Nat → Bool) (x y : Value)
    (hf : ∀ k, k < n → ∀ w, Read W0 w → Calls Tryz.prog 142 #[.int .i64 k, x, y] w fun e w' => e = .returned (.bool (!lt k)) ∧ Read w w')
    (hmono : ∀ i j, i < j → j < n → lt j = true → lt i = true) :
    Calls Tryz.prog 110 #[.int .i64 n, .func (.func 142) #[] #[x, y]] W0 fun e w' => ∃ p : Nat, e = .returned (.int .i64 p) ∧ Read W0 w' ∧ p ≤ n ∧ (∀ i, i < p → lt i = true) ∧ (∀ i, p ≤ i → i < n → lt i = false) := by
  have mixed := mixed
  have hf' := Lib.hid hf
  have hm' := Lib.hid hmono
  have hn' := Lib.hid hn
  clear hf hmono
  go_enter Tryz.func110, Tryz.ntmps110
  go_wp2
  go_loopg [5, 6] n (fun kx s5 s6 wr => ∃ (i j : Nat), s5 = .int .i64 i ∧ s6 = .int .i64 j ∧ i ≤ j ∧ j ≤ n ∧ j - i ≤ kx ∧ Hid ((∀ t, t < i → lt t = true) ∧ (∀ t, j ≤ t → t < n → lt t = false) ∧ Read W0 wr))
  case atStart => exact ⟨0, n, rfl, rfl, Nat.zero_le _, Nat.le_refl _, by omega, ⟨fun t h => by omega, fun t h h' => by omega, Read.refl _⟩⟩
  case round =>
    obtain ⟨i, j, rfl, rfl, hij, hj, hkx, H⟩ := hrel
    by_cases hlt : i < j
    · have hz : (i : Int) < (j : Int) := by omega
      have hu := half_u (i := i) (j := j) (by have := hn'.out; omega)
      obtain ⟨h, hhe, hih, hhj⟩ : ∃ h : Nat, ((i : Int) + (j : Int)) / 2 = (h : Int) ∧ i ≤ h ∧ h < j := ⟨(i + j) / 2, by omega, by omega, by omega⟩
      have rc5 : IntKind.i64.wrap ((h : Int)) = (h : Int) := by rw [IntKind.wrap_i64]; have := hn'.out; omega
      have hc := hf'.out h (by omega) wr H.out.2.2
      cases hL : lt h with
      | true =>
        have rc6 : IntKind.i64.wrap ((h : Int) + 1) = (h : Int) + 1 := IntWalk.i64_in _ (by have := hn'.out; omega)
        rw [hL] at hc
        go_wp2_with (go_at_call 142; refine hc.mono ?_; rintro e w1 ⟨rfl, hr1⟩)
        go_roundg (j - (h + 1))
        case measure => omega
        case rel =>
          refine ⟨h + 1, j, by simp, rfl, by omega, hj, Nat.le_refl _, ⟨fun t ht => ?_, H.out.2.1, H.out.2.2.trans hr1⟩⟩
          by_cases hte : t = h
          · rw [hte]; exact hL
          · exact hm'.out t h (by omega) (by omega) hL
      | false =>
        rw [hL] at hc
        go_wp2_with (go_at_call 142; refine hc.mono ?_; rintro e w1 ⟨rfl, hr1⟩)
        go_roundg (h - i)
        case measure => omega
        case rel =>
          refine ⟨i, h, rfl, rfl, by omega, by omega, Nat.le_refl _, ⟨H.out.1, fun t ht ht2 => ?_, H.out.2.2.trans hr1⟩⟩
          cases hb : lt t with
          | false => rfl
          | true =>
            by_cases hte : t = h
            · rw [hte, hL] at hb; cases hb
            · have := hm'.out h t (by omega) ht2 hb
              rw [hL] at this; cases this
    · have hz : ¬ (i : Int) < (j : Int) := by omega
      obtain rfl : i = j := by omega
      go_wp2
      go_ret
      exact ⟨i, rfl, H.out.2.2, hj, H.out.1, H.out.2.1⟩

theorem find_lbadd1 {W0 : World} (n : Nat) (hn : n < 1000000) (up : Nat → Bool) (x y : Value)
    (hf : ∀ k, k < n → ∀ w, Read W0 w → Calls Tryz.prog 142 #[.int .i64 k, x, y] w fun e w' => e = .returned (.bool (up k)) ∧ Read w w')
    (hmono : ∀ i j, i < j → j < n → up i = true → up j = true) :
    Calls Tryz.prog 110 #[.int .i64 n, .func (.func 142) #[] #[x, y]] W0 fun e w' => ∃ p : Nat, e = .returned (.int .i64 p) ∧ Read W0 w' ∧ p ≤ n ∧ (∀ i, i < p → up i = false) ∧ (∀ i, p ≤ i → i < n → up i = true) := by
  refine (search_lbadd1 n hn (fun i => !up i) x y (fun k hk w hw => by simpa using hf k hk w hw) (fun i j hij hj h => ?_)).mono ?_
  · cases hb : up i with
    | false => rfl
    | true => rw [hmono i j hij hj hb] at h; cases h
  · rintro e w' ⟨p, h1, h2, h3, h4, h5⟩
    exact ⟨p, h1, h2, h3, fun i hi => by simpa using h4 i hi, fun i hi hn => by simpa using h5 i hi hn⟩

set_option maxHeartbeats 4000000 in
set_option maxRecDepth 100000 in
theorem search_lput1 {W0 : World} (n : Nat) (hn : n < 1000000) (lt : Nat → Bool) (x y : Value)
    (hf : ∀ k, k < n → ∀ w, Read W0 w → Calls Tryz.prog 134 #[.int .i64 k, x, y] w fun e w' => e = .returned (.bool (!lt k)) ∧ Read w w')
    (hmono : ∀ i j, i < j → j < n → lt j = true → lt i = true) :
    Calls Tryz.prog 110 #[.int .i64 n, .func (.func 134) #[] #[x, y]] W0 fun e w' => ∃ p : Nat, e = .returned (.int .i64 p) ∧ Read W0 w' ∧ p ≤ n ∧ (∀ i, i < p → lt i = true) ∧ (∀ i, p ≤ i → i < n → lt i = false) := by
  have mixed := mixed
  have hf' := Lib.hid hf
  have hm' := Lib.hid hmono
  have hn' := Lib.hid hn
  clear hf hmono
  go_enter Tryz.func110, Tryz.ntmps110
  go_wp2
  go_loopg [5, 6] n (fun kx s5 s6 wr => ∃ (i j : Nat), s5 = .int .i64 i ∧ s6 = .int .i64 j ∧ i ≤ j ∧ j ≤ n ∧ j - i ≤ kx ∧ Hid ((∀ t, t < i → lt t = true) ∧ (∀ t, j ≤ t → t < n → lt t = false) ∧ Read W0 wr))
  case atStart => exact ⟨0, n, rfl, rfl, Nat.zero_le _, Nat.le_refl _, by omega, ⟨fun t h => by omega, fun t h h' => by omega, Read.refl _⟩⟩
  case round =>
    obtain ⟨i, j, rfl, rfl, hij, hj, hkx, H⟩ := hrel
    by_cases hlt : i < j
    · have hz : (i : Int) < (j : Int) := by omega
      have hu := half_u (i := i) (j := j) (by have := hn'.out; omega)
      obtain ⟨h, hhe, hih, hhj⟩ : ∃ h : Nat, ((i : Int) + (j : Int)) / 2 = (h : Int) ∧ i ≤ h ∧ h < j := ⟨(i + j) / 2, by omega, by omega, by omega⟩
      have rc5 : IntKind.i64.wrap ((h : Int)) = (h : Int) := by rw [IntKind.wrap_i64]; have := hn'.out; omega
      have hc := hf'.out h (by omega) wr H.out.2.2
      cases hL : lt h with
      | true =>
        have rc6 : IntKind.i64.wrap ((h : Int) + 1) = (h : Int) + 1 := IntWalk.i64_in _ (by have := hn'.out; omega)
        rw [hL] at hc
        go_wp2_with (go_at_call 134; refine hc.mono ?_; rintro e w1 ⟨rfl, hr1⟩)
        go_roundg (j - (h + 1))
        case measure => omega
        case rel =>
          refine ⟨h + 1, j, by simp, rfl, by omega, hj, Nat.le_refl _, ⟨fun t ht => ?_, H.out.2.1, H.out.2.2.trans hr1⟩⟩
          by_cases hte : t = h
          · rw [hte]; exact hL
          · exact hm'.out t h (by omega) (by omega) hL
      | false =>
        rw [hL] at hc
        go_wp2_with (go_at_call 134; refine hc.mono ?_; rintro e w1 ⟨rfl, hr1⟩)
        go_roundg (h - i)
        case measure => omega
        case rel =>
          refine ⟨i, h, rfl, rfl, by omega, by omega, Nat.le_refl _, ⟨H.out.1, fun t ht ht2 => ?_, H.out.2.2.trans hr1⟩⟩
          cases hb : lt t with
          | false => rfl
          | true =>
            by_cases hte : t = h
            · rw [hte, hL] at hb; cases hb
            · have := hm'.out h t (by omega) ht2 hb
              rw [hL] at this; cases this
    · have hz : ¬ (i : Int) < (j : Int) := by omega
      obtain rfl : i = j := by omega
      go_wp2
      go_ret
      exact ⟨i, rfl, H.out.2.2, hj, H.out.1, H.out.2.1⟩

theorem find_lput1 {W0 : World} (n : Nat) (hn : n < 1000000) (up : Nat → Bool) (x y : Value)
    (hf : ∀ k, k < n → ∀ w, Read W0 w → Calls Tryz.prog 134 #[.int .i64 k, x, y] w fun e w' => e = .returned (.bool (up k)) ∧ Read w w')
    (hmono : ∀ i j, i < j → j < n → up i = true → up j = true) :
    Calls Tryz.prog 110 #[.int .i64 n, .func (.func 134) #[] #[x, y]] W0 fun e w' => ∃ p : Nat, e = .returned (.int .i64 p) ∧ Read W0 w' ∧ p ≤ n ∧ (∀ i, i < p → up i = false) ∧ (∀ i, p ≤ i → i < n → up i = true) := by
  refine (search_lput1 n hn (fun i => !up i) x y (fun k hk w hw => by simpa using hf k hk w hw) (fun i j hij hj h => ?_)).mono ?_
  · cases hb : up i with
    | false => rfl
    | true => rw [hmono i j hij hj hb] at h; cases h
  · rintro e w' ⟨p, h1, h2, h3, h4, h5⟩
    exact ⟨p, h1, h2, h3, fun i hi => by simpa using h4 i hi, fun i hi hn => by simpa using h5 i hi hn⟩


set_option maxHeartbeats 4000000 in
set_option maxRecDepth 100000 in
theorem badd1_any {W : World} {A B b o g off cap : Nat} {l : List M} (m : M) (hA : W.cell? ⟨A, 0, none⟩ = some (.pointer (some ⟨b, o, none⟩))) (hb : W.cell? ⟨b, o, none⟩ = some (.slice (some ⟨g, off, none⟩) l.length cap)) (hB : MsgAt W B 0 m) (hR : RowM W g off cap l) (k : Nat) (hk : k < l.length) :
    Calls Tryz.prog 142 #[.int .i64 k, .pointer (some ⟨B, 0, none⟩), .pointer (some ⟨A, 0, none⟩)] W fun e w' => e = .returned (.bool (ltM m (l.getD k default))) ∧ Read W w' := by
  have mixed := mixed
  have hx := hR.at k hk
  have hAl : A < W.heap.size := World.block_lt_of_cell? W _ hA
  have hbl : b < W.heap.size := World.block_lt_of_cell? W _ hb
  have hkI : (k : Int) < (l.length : Int) := by omega
  clear hR hk
  generalize l.getD k default = x at hx ⊢
  generalize l.length = n at hb hkI ⊢
  have hcon := fun w => eBefore_any m x w
  obtain ⟨hBl, y0, y1, y2, y3, y4, y5, y6⟩ := hB
  obtain ⟨hgl, x0, x1, x2, x3, x4, x5, x6⟩ := hx
  simp only [Nat.zero_add] at y0 y1 y2 y3 y4 y5 y6
  simp only [M.val] at hcon
  have hS : ∀ w', Read W w' → w'.cell? ⟨A, 0, none⟩ = some (.pointer (some ⟨b, o, none⟩)) ∧ w'.cell? ⟨b, o, none⟩ = some (.slice (some ⟨g, off, none⟩) n cap) ∧
      (w'.cell? ⟨g, off + k * 7, none⟩ = some (.int .i64 x.k.t) ∧ w'.cell? ⟨g, off + k * 7 + 1, none⟩ = some (.int .i64 x.k.f) ∧ w'.cell? ⟨g, off + k * 7 + 2, none⟩ = some (.int .i64 x.k.s) ∧ w'.cell? ⟨g, off + k * 7 + 3, none⟩ = some (.int .i64 x.to) ∧
        w'.cell? ⟨g, off + k * 7 + 4, none⟩ = some (.int .i64 x.v) ∧ w'.cell? ⟨g, off + k * 7 + 5, none⟩ = some (.int .i64 x.u) ∧ w'.cell? ⟨g, off + k * 7 + 6, none⟩ = some (.bool x.anti)) ∧
      (w'.cell? ⟨B, 0, none⟩ = some (.int .i64 m.k.t) ∧ w'.cell? ⟨B, 1, none⟩ = some (.int .i64 m.k.f) ∧ w'.cell? ⟨B, 2, none⟩ = some (.int .i64 m.k.s) ∧ w'.cell? ⟨B, 3, none⟩ = some (.int .i64 m.to) ∧
        w'.cell? ⟨B, 4, none⟩ = some (.int .i64 m.v) ∧ w'.cell? ⟨B, 5, none⟩ = some (.int .i64 m.u) ∧ w'.cell? ⟨B, 6, none⟩ = some (.bool m.anti)) := fun w' hr =>
    ⟨hr.cell hAl hA, hr.cell hbl hb, ⟨hr.cell hgl x0, hr.cell hgl x1, hr.cell hgl x2, hr.cell hgl x3, hr.cell hgl x4, hr.cell hgl x5, hr.cell hgl x6⟩, hr.cell hBl y0, hr.cell hBl y1, hr.cell hBl y2, hr.cell hBl y3, hr.cell hBl y4, hr.cell hBl y5, hr.cell hBl y6⟩
  clear hA hb x0 x1 x2 x3 x4 x5 x6 y0 y1 y2 y3 y4 y5 y6 hAl hgl hbl hBl
  generalize ltM m x = lt at hcon ⊢
  have hd := Read.drew W 1
  go_enter Tryz.func142, Tryz.ntmps142
  go_upto_region 1 with (fail)
  go_region_held3 (fun w' => w'.cell? ⟨A, 0, none⟩ = some (.pointer (some ⟨b, o, none⟩)) ∧ w'.cell? ⟨b, o, none⟩ = some (.slice (some ⟨g, off, none⟩) n cap) ∧
      (w'.cell? ⟨g, off + k * 7, none⟩ = some (.int .i64 x.k.t) ∧ w'.cell? ⟨g, off + k * 7 + 1, none⟩ = some (.int .i64 x.k.f) ∧ w'.cell? ⟨g, off + k * 7 + 2, none⟩ = some (.int .i64 x.k.s) ∧ w'.cell? ⟨g, off + k * 7 + 3, none⟩ = some (.int .i64 x.to) ∧
        w'.cell? ⟨g, off + k * 7 + 4, none⟩ = some (.int .i64 x.v) ∧ w'.cell? ⟨g, off + k * 7 + 5, none⟩ = some (.int .i64 x.u) ∧ w'.cell? ⟨g, off + k * 7 + 6, none⟩ = some (.bool x.anti)) ∧
      (w'.cell? ⟨B, 0, none⟩ = some (.int .i64 m.k.t) ∧ w'.cell? ⟨B, 1, none⟩ = some (.int .i64 m.k.f) ∧ w'.cell? ⟨B, 2, none⟩ = some (.int .i64 m.k.s) ∧ w'.cell? ⟨B, 3, none⟩ = some (.int .i64 m.to) ∧
        w'.cell? ⟨B, 4, none⟩ = some (.int .i64 m.v) ∧ w'.cell? ⟨B, 5, none⟩ = some (.int .i64 m.u) ∧ w'.cell? ⟨B, 6, none⟩ = some (.bool m.anti)))
    (first | exact hS _ hd | exact hS _ (hd.trans hr1))
    (first | (go_at_call 34; refine (hcon _).mono ?_; rintro e w1 ⟨rfl, hr1⟩))
  go_wp2
  go_ret
  exact ⟨rfl, hd.trans hr1⟩

/-- p is the place of m in the bottom's list. -/
def PlaceB (l : List M) (m : M) (p : Nat) : Prop := p ≤ l.length ∧ (∀ i, i < p → ltM m (l.getD i default) = false) ∧ ∀ i, p ≤ i → i < l.length → ltM m (l.getD i default) = true
theorem getD_at {α : Type} [Inhabited α] (l : List α) (i : Nat) (h : i < l.length) : l.getD i default = l[i] := by simp [List.getD_eq_getElem?_getD, h]
theorem up_mono {l : List M} (h : InOrder ltM l) (m : M) (i j : Nat) (hij : i < j) (hj : j < l.length) (hl : ltM m (l.getD i default) = true) : ltM m (l.getD j default) = true := by
  have h1 := List.pairwise_iff_getElem.1 h i j (by omega) hj hij
  rw [getD_at l i (by omega)] at hl
  rw [getD_at l j hj]
  generalize l[i] = a at *
  generalize l[j] = b at *
  rw [ltM_no] at h1
  rw [ltM_iff] at *
  omega
theorem lt_no {a b : M} (h : ltM a b = true) : ltM b a = false := by
  rw [ltM_iff] at h
  rw [ltM_no]
  omega
theorem ins_order {l : List M} (h : InOrder ltM l) {m : M} {p : Nat} (hp : PlaceB l m p) : InOrder ltM (l.take p ++ m :: l.drop p) := by
  obtain ⟨h1, h2, h3⟩ := hp
  have hs := List.pairwise_append.1 (show InOrder ltM (l.take p ++ l.drop p) by rw [List.take_append_drop]; exact h)
  refine List.pairwise_append.2 ⟨hs.1, List.pairwise_cons.2 ⟨fun y hy => ?_, hs.2.1⟩, fun x hx y hy => ?_⟩
  · obtain ⟨i, hi, rfl⟩ := List.getElem_of_mem hy
    rw [List.length_drop] at hi
    have := h3 (p + i) (by omega) (by omega)
    rw [getD_at _ _ (by omega)] at this
    rw [List.getElem_drop]
    exact lt_no this
  · rcases List.mem_cons.1 hy with rfl | hy
    · obtain ⟨i, hi, rfl⟩ := List.getElem_of_mem hx
      rw [List.length_take] at hi
      have := h2 i (by omega)
      rw [getD_at _ _ (by omega)] at this
      rw [List.getElem_take]
      exact this
    · exact hs.2.2 x hx y hy
theorem ins_perm (l : List M) (p : Nat) (m : M) : (l.take p ++ m :: l.drop p).Perm (m :: l) := by
  have := List.perm_middle (a := m) (l₁ := l.take p) (l₂ := l.drop p)
  rwa [List.take_append_drop] at this
end Go.Proofs.YtjlbkdghlijoeaaGreat
namespace Go.Proofs.YtjlbkdghlijoeaaGreat
open Go.ChangeShapes Go.WideShapes Go.ChangeAt Go.Shelf Go.RowKit Go.Lib Go.Sort Go.Deep
set_option linter.unusedVariables false

/-- Two lists that share no cell, their spare room too. -/
def Dis (v v' : Value) : Prop := ∀ k o, vext v 7 k o → vext v' 7 k o → False
theorem Dis.symm {v v' : Value} (h : Dis v v') : Dis v' v := fun k o a b => h k o b a
/-- The rungs in memory. -/
structure RungsOf (w : World) (rb : Nat) (most : Int) (bv : Value) (B : List M) (av : Value) (us : List Up) : Prop where
  row : w.heap[rb]? = some (.cells #[bv, .int .i64 most, av] 108 (0, 0))
  bot : AtM w bv B
  abv : AtU w av us
  each : ∀ u ∈ us, AtM w u.v u.L
  apart : (bv :: us.map Up.v).Pairwise Dis
/-- The blocks that they own. -/
def ROwn (rb : Nat) (bv av : Value) (us : List Up) (k : Nat) : Prop := k = rb ∨ bv.ownBlock = some k ∨ av.ownBlock = some k ∨ ∃ u ∈ us, u.v.ownBlock = some k
section
variable {w w' : World} {rb : Nat} {most : Int} {bv av : Value} {B : List M} {us : List Up}
theorem RowAt.tag {e : TypeId} {sz n : Nat} {v : Value} {xs : List Value} {w : World} (h : RowAt w e sz v n xs) {k : Nat} (hk : v.ownBlock = some k) : ∃ cur, w.heap[k]? = some (.cells cur e (0, 0)) := by
  rcases h with ⟨rfl, _⟩ | ⟨g, off, cap, rfl, cur, h, _⟩
  · cases hk
  · simp [Value.ownBlock] at hk
    subst hk
    exact ⟨cur, h⟩
theorem RungsOf.rlt (h : RungsOf w rb most bv B av us) : rb < w.heap.size := (Array.getElem?_eq_some_iff.1 h.row).1
theorem RungsOf.c0 (h : RungsOf w rb most bv B av us) : w.cell? ⟨rb, 0, none⟩ = some bv := by have := h.row; simp [World.cell?, this]
theorem RungsOf.c1 (h : RungsOf w rb most bv B av us) : w.cell? ⟨rb, 1, none⟩ = some (.int .i64 most) := by have := h.row; simp [World.cell?, this]
theorem RungsOf.c2 (h : RungsOf w rb most bv B av us) : w.cell? ⟨rb, 2, none⟩ = some av := by have := h.row; simp [World.cell?, this]
theorem RungsOf.fz (h : RungsOf w rb most bv B av us) (o : Nat) : w.frozen? ⟨rb, o, none⟩ = false := by have := h.row; simp [World.frozen?, this]
theorem RungsOf.msg_rb (h : RungsOf w rb most bv B av us) {v : Value} {l : List M} (hv : AtM w v l) {k : Nat} (hk : v.ownBlock = some k) : k ≠ rb := by
  obtain ⟨cur, h1⟩ := RowAt.tag hv hk
  intro e
  rw [e, h.row] at h1
  cases h1
theorem RungsOf.av_rb (h : RungsOf w rb most bv B av us) {k : Nat} (hk : av.ownBlock = some k) : k ≠ rb := by
  obtain ⟨cur, h1⟩ := RowAt.tag h.abv hk
  intro e
  rw [e, h.row] at h1
  cases h1
theorem RungsOf.av_msg (h : RungsOf w rb most bv B av us) {v : Value} {l : List M} (hv : AtM w v l) {k : Nat} (hk : v.ownBlock = some k) : av.ownBlock ≠ some k := by
  intro e
  obtain ⟨cur, h1⟩ := RowAt.tag hv hk
  obtain ⟨cur', h2⟩ := RowAt.tag h.abv e
  rw [h1] at h2
  simp at h2
theorem RungsOf.own_lt (h : RungsOf w rb most bv B av us) {k : Nat} (hk : ROwn rb bv av us k) : k < w.heap.size := by
  rcases hk with rfl | e | e | ⟨u, hu, e⟩
  · exact h.rlt
  · exact RowAt.lt h.bot k e
  · exact RowAt.lt h.abv k e
  · exact RowAt.lt (h.each u hu) k e
theorem RungsOf.kept {S : Nat → Prop} (h : RungsOf w rb most bv B av us) (hk : KeptOff S w w') (hn : ∀ k, ROwn rb bv av us k → ¬ S k) : RungsOf w' rb most bv B av us :=
  ⟨(hk.block rb h.rlt (hn rb (.inl rfl))).trans h.row, RowAt.kept h.bot hk (fun k e => hn k (.inr (.inl e))), RowAt.kept h.abv hk (fun k e => hn k (.inr (.inr (.inl e)))), fun u hu => RowAt.kept (h.each u hu) hk (fun k e => hn k (.inr (.inr (.inr ⟨u, hu, e⟩)))), h.apart⟩
theorem RungsOf.below (h : RungsOf w rb most bv B av us) (hb : Below w.heap.size w w') : RungsOf w' rb most bv B av us := h.kept (S := fun _ => False) (.of_below hb) (fun _ _ e => e)
end

theorem RungsOf.oneU {w : World} {rb : Nat} {most : Int} {bv av : Value} {B : List M} {us : List Up} (h : RungsOf w rb most bv B av us) : OneU us := fun u hu => by
  obtain ⟨a, c, e, _⟩ := RowAt.shape (h.each u hu)
  rw [e]
  rfl
/-- What a step of the rungs leaves: these, in blocks of theirs or new ones. -/
def RungsRes (w : World) (rb : Nat) (most : Int) (bv av : Value) (us : List Up) (w' : World) (B' : List M) (us' : List Up) (bv' av' : Value) : Prop :=
  RungsOf w' rb most bv' B' av' us' ∧ KeptOff (ROwn rb bv av us) w w' ∧ ∀ k, ROwn rb bv' av' us' k → ROwn rb bv av us k ∨ w.heap.size ≤ k

/-! One of a list replaced. -/
theorem pairwise_turn {α : Type} {R : α → α → Prop} (hs : ∀ a b, R a b → R b a) : ∀ (X : List α) (u u' : α) (Y : List α), (X ++ u :: Y).Pairwise R → (∀ x ∈ X ++ Y, R x u') → (X ++ u' :: Y).Pairwise R
  | [], u, u', Y, h, hx => by
    have h' := List.pairwise_cons.1 h
    exact List.pairwise_cons.2 ⟨fun y hy => hs _ _ (hx y hy), h'.2⟩
  | a :: X, u, u', Y, h, hx => by
    have h' := List.pairwise_cons.1 h
    refine List.pairwise_cons.2 ⟨fun y hy => ?_, pairwise_turn hs X u u' Y h'.2 (fun x hx' => hx x (List.mem_cons_of_mem _ hx'))⟩
    rcases List.mem_append.1 hy with hy | hy
    · exact h'.1 y (List.mem_append_left _ hy)
    · rcases List.mem_cons.1 hy with rfl | hy
      · exact hx a (List.mem_cons_self ..)
      · exact h'.1 y (List.mem_append_right _ (List.mem_cons_of_mem _ hy))
theorem pairwise_other {α : Type} {R : α → α → Prop} (hs : ∀ a b, R a b → R b a) : ∀ (X : List α) (u : α) (Y : List α), (X ++ u :: Y).Pairwise R → ∀ x ∈ X ++ Y, R x u
  | [], u, Y, h, x, hx => hs _ _ ((List.pairwise_cons.1 h).1 x hx)
  | a :: X, u, Y, h, x, hx => by
    have h' := List.pairwise_cons.1 h
    rcases List.mem_cons.1 hx with rfl | hx
    · exact h'.1 u (List.mem_append_right _ (List.mem_cons_self ..))
    · exact pairwise_other hs X u Y h'.2 x hx
theorem dis_new {v v' x : Value} {n : Nat} (h : Dis x v) (h4 : ∀ k q, vext v' 7 k q → vext v 7 k q ∨ n ≤ k) (hx : ∀ k, x.ownBlock = some k → k < n) : Dis x v' := fun k q a b => by
  rcases h4 k q b with e | e
  · exact h k q a e
  · have := hx k a.own
    omega

/-- A step of the bottom's list. -/
theorem RungsOf.setBot {w w' : World} {rb : Nat} {most : Int} {bv av : Value} {B l' : List M} {us : List Up} (h : RungsOf w rb most bv B av us) (hr : RungRes w rb 0 bv l' w') : ∃ bv', RungsRes w rb most bv av us w' l' us bv' av := by
  obtain ⟨v', h1, h2, h3, h4, h5⟩ := hr
  have hb : ∀ k q, (vext bv 7 k q ∨ (k = rb ∧ q = 0)) → k = rb ∨ bv.ownBlock = some k := fun k q e => e.elim (fun e => .inr e.own) (fun e => .inl e.1)
  have hrow : w'.heap[rb]? = some (.cells #[v', .int .i64 most, av] 108 (0, 0)) := by
    obtain ⟨cur, g0, g1, g2⟩ := h3.part rb _ _ h.row
    have hn : ∀ o, o ≠ 0 → ¬ (vext bv 7 rb o ∨ (rb = rb ∧ o = 0)) := fun o ho e => e.elim (fun e => h.msg_rb h.bot e.own rfl) (fun e => ho e.2)
    have a0 : cur[0]? = some v' := by rw [← h1, cell_of_row _ _ _ _ _ (0, 0) g0]
    have a1 : cur[1]? = some (.int .i64 most) := by rw [g2 1 (hn 1 (by omega))]; rfl
    have a2 : cur[2]? = some av := by rw [g2 2 (hn 2 (by omega))]; rfl
    have e : cur = #[v', .int .i64 most, av] := by
      obtain ⟨l⟩ := cur
      match l, g1, a0, a1, a2 with
      | [x, y, z], _, a0, a1, a2 =>
        simp at a0 a1 a2
        subst a0 a1 a2
        rfl
    rw [g0, e]
  have hoff : ∀ {u : Up}, u ∈ us → ∀ k o, vext u.v 7 k o → ¬ (vext bv 7 k o ∨ (k = rb ∧ o = 0)) := fun {u} hu k o e e2 => by
    rcases e2 with e2 | e2
    · exact (List.pairwise_cons.1 h.apart).1 u.v (List.mem_map_of_mem hu) k o e2 e
    · exact h.msg_rb (h.each u hu) e.own e2.1
  refine ⟨v', ⟨hrow, h2, ?_, fun u hu => RowAt.keptC (h.each u hu) h3 (hoff hu), ?_⟩, h3.off (fun k o _ e => (hb k o e).elim .inl (fun e => .inr (.inl e))), ?_⟩
  · refine RowAt.keptC h.abv h3 (fun k o e e2 => ?_)
    rcases e2 with e2 | e2
    · exact h.av_msg h.bot e2.own e.own
    · exact h.av_rb e.own e2.1
  · have := pairwise_turn (R := Dis) (fun _ _ h => h.symm) [] bv v' (us.map Up.v) h.apart (fun x hx => ?_)
    · exact this
    · obtain ⟨u, hu, rfl⟩ := List.mem_map.1 hx
      exact dis_new ((List.pairwise_cons.1 h.apart).1 u.v hx).symm h4 (RowAt.lt (h.each u hu))
  · rintro k (e | e | e | e)
    · exact .inl (.inl e)
    · exact (h5 k e).imp (fun e => .inr (.inl e)) id
    · exact .inl (.inr (.inr (.inl e)))
    · exact .inl (.inr (.inr (.inr e)))

theorem get_behind {α : Type} (X Y : List α) (k : Nat) : (X ++ Y)[X.length + k]? = Y[k]? := by rw [List.getElem?_append_right (by omega), Nat.add_sub_cancel_left]
theorem flatU_turn (X : List Up) (u u' : Up) (Y : List Up) (hf : u'.foot = u.foot) (j : Nat) : (flatU (X ++ u' :: Y))[j]? = if j = X.length * 8 then some u'.v else (flatU (X ++ u :: Y))[j]? := by
  have e1 : ∀ x : Up, flatU (X ++ x :: Y) = flatU X ++ (encU x ++ flatU Y) := fun x => by rw [show x :: Y = [x] ++ Y from rfl, flatU_append, flatU_append]; simp [flatU]
  have hl := flatU_length X
  rw [e1, e1]
  by_cases h1 : j < X.length * 8
  · rw [if_neg (by omega), List.getElem?_append_left (by omega), List.getElem?_append_left (by omega)]
  · obtain ⟨k, rfl⟩ : ∃ k, j = (flatU X).length + k := ⟨j - (flatU X).length, by omega⟩
    rw [get_behind, get_behind]
    cases k with
    | zero => rw [if_pos (by omega)]; rfl
    | succ k =>
      rw [if_neg (by omega)]
      show (encM u'.foot ++ flatU Y)[k]? = (encM u.foot ++ flatU Y)[k]?
      rw [hf]
/-- A step of the list of one rung above. -/
theorem RungsOf.setUp {w w' : World} {rb : Nat} {most : Int} {bv : Value} {B l' : List M} {X Y : List Up} {u : Up} {ag aoff n acap : Nat} (h : RungsOf w rb most bv B (.slice (some ⟨ag, aoff, none⟩) n acap) (X ++ u :: Y)) (hr : RungRes w ag (aoff + X.length * 8) u.v l' w') :
    ∃ v', RungsRes w rb most bv (.slice (some ⟨ag, aoff, none⟩) n acap) (X ++ u :: Y) w' B (X ++ ⟨v', l', u.foot⟩ :: Y) bv (.slice (some ⟨ag, aoff, none⟩) n acap) := by
  obtain ⟨v', h1, h2, h3, h4, h5⟩ := hr
  have hu : u ∈ X ++ u :: Y := List.mem_append_right _ (List.mem_cons_self ..)
  have hin : ∀ x ∈ X ++ Y, x ∈ X ++ u :: Y := fun x hx => (List.mem_append.1 hx).elim (List.mem_append_left _) (fun e => List.mem_append_right _ (List.mem_cons_of_mem _ e))
  have hav : ∀ {v : Value} {l : List M}, AtM w v l → ∀ k o, vext v 7 k o → k ≠ ag := fun {v l} hv k o e e2 => h.av_msg hv e.own (by rw [e2]; rfl)
  have hap := h.apart
  rw [List.map_append, List.map_cons, ← List.cons_append] at hap
  have hoth := pairwise_other (R := Dis) (fun _ _ h => h.symm) (bv :: X.map Up.v) u.v (Y.map Up.v) hap
  have hblk : ∀ k, (vext u.v 7 k k ∨ True) → True := fun _ _ => trivial
  have hE : ∀ k o, (vext u.v 7 k o ∨ (k = ag ∧ o = aoff + X.length * 8)) → k = ag ∨ u.v.ownBlock = some k := fun k o e => e.elim (fun e => .inr e.own) (fun e => .inl e.1)
  have hotherU : ∀ x ∈ X ++ Y, Dis x.v u.v := fun x hx => hoth x.v (by
    rcases List.mem_append.1 hx with e | e
    · exact List.mem_append_left _ (List.mem_cons_of_mem _ (List.mem_map_of_mem e))
    · exact List.mem_append_right _ (List.mem_map_of_mem e))
  have hbot : Dis bv u.v := hoth bv (List.mem_append_left _ (List.mem_cons_self ..))
  have hlen : (X ++ (⟨v', l', u.foot⟩ : Up) :: Y).length = (X ++ u :: Y).length := by simp
  refine ⟨v', ⟨?_, ?_, ?_, fun x hx => ?_, ?_⟩, h3.off (fun k o _ e => (hE k o e).elim (fun e => .inr (.inr (.inl (by rw [e]; rfl)))) (fun e => .inr (.inr (.inr ⟨u, hu, e⟩)))), ?_⟩
  · exact (h3.block rb h.rlt (fun o e => (hE _ _ e).elim (fun e => h.av_rb (k := ag) rfl e.symm) (fun e => h.msg_rb (h.each u hu) e rfl))).trans h.row
  · exact RowAt.keptC h.bot h3 (fun k o e e2 => e2.elim (fun e2 => hbot k o e e2) (fun e2 => hav h.bot k o e e2.1))
  · have habv := h.abv
    unfold AtU at habv ⊢
    rw [hlen]
    rcases habv with ⟨e, _⟩ | ⟨g, off, cap, he, cur, g0, g1, g2, g3, g4, g5⟩
    · cases e
    · obtain ⟨⟨rfl, rfl⟩, rfl, rfl⟩ : ((ag = g ∧ aoff = off) ∧ n = (X ++ u :: Y).length ∧ acap = cap) := by simpa using he
      obtain ⟨cur', q0, q1, q2⟩ := h3.part ag cur _ g0
      refine .inr ⟨ag, aoff, acap, by simp, cur', q0, g1, g2, by omega, by rw [flatU_length, hlen], fun j x hj => ?_⟩
      rw [flatU_turn X u ⟨v', l', u.foot⟩ Y rfl] at hj
      by_cases hjx : j = X.length * 8
      · rw [if_pos hjx] at hj
        rw [hjx, ← hj, ← cell_of_row _ _ _ _ _ (0, 0) q0]
        exact h1
      · rw [if_neg hjx] at hj
        rw [q2 (aoff + j) (fun e => e.elim (fun e => hav (h.each u hu) _ _ e rfl) (fun e => by omega))]
        exact g5 j x hj
  · rcases List.mem_append.1 hx with e | e
    · exact RowAt.keptC (h.each x (hin x (List.mem_append_left _ e))) h3 (fun k o e1 e2 => e2.elim (fun e2 => hotherU x (List.mem_append_left _ e) k o e1 e2) (fun e2 => hav (h.each x (hin x (List.mem_append_left _ e))) k o e1 e2.1))
    · rcases List.mem_cons.1 e with rfl | e
      · exact h2
      · exact RowAt.keptC (h.each x (hin x (List.mem_append_right _ e))) h3 (fun k o e1 e2 => e2.elim (fun e2 => hotherU x (List.mem_append_right _ e) k o e1 e2) (fun e2 => hav (h.each x (hin x (List.mem_append_right _ e))) k o e1 e2.1))
  · rw [List.map_append, List.map_cons, ← List.cons_append]
    refine pairwise_turn (R := Dis) (fun _ _ h => h.symm) (bv :: X.map Up.v) u.v v' (Y.map Up.v) hap (fun x hx => ?_)
    rw [List.cons_append] at hx
    rcases List.mem_cons.1 hx with rfl | hx
    · exact dis_new hbot h4 (RowAt.lt h.bot)
    · rw [← List.map_append] at hx
      obtain ⟨y, hy, rfl⟩ := List.mem_map.1 hx
      exact dis_new (hotherU y hy) h4 (RowAt.lt (h.each y (hin y hy)))
  · rintro k (e | e | e | ⟨x, hx, e⟩)
    · exact .inl (.inl e)
    · exact .inl (.inr (.inl e))
    · exact .inl (.inr (.inr (.inl e)))
    · rcases List.mem_append.1 hx with hx | hx
      · exact .inl (.inr (.inr (.inr ⟨x, List.mem_append_left _ hx, e⟩)))
      · rcases List.mem_cons.1 hx with rfl | hx
        · exact (h5 k e).imp (fun e => .inr (.inr (.inr ⟨u, hu, e⟩))) id
        · exact .inl (.inr (.inr (.inr ⟨x, List.mem_append_right _ (List.mem_cons_of_mem _ hx), e⟩)))
end Go.Proofs.YtjlbkdghlijoeaaGreat
