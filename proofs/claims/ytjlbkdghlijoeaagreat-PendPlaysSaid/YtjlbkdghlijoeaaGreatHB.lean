/-
  Places by halving: sort.Search over a list of messages, slices.BinarySearch over days; the day of a time.
  The place of a message in a list in order; the place of a day among days that rise; the day of a time.
  The place of a day among days that rise, as slices.BinarySearch finds it.
  The tree of messages: its row, what it owns, what is kept beside it.
  The tree's first and add, at every tree.
-/
import Derived.Test.YtjlbkdghlijoeaaGreatYC
import Derived.Test.YtjlbkdghlijoeaaGreatYA
import Derived.Test.YtjlbkdghlijoeaaGreatHK
import Derived.Test.YtjlbkdghlijoeaaGreatLDG
namespace Go.Proofs.YtjlbkdghlijoeaaGreat
open Go.ChangeShapes Go.WideShapes Go.ChangeAt Go.Shelf Go.RowKit Go.Lib Go.Sort Go.Deep
set_option linter.unusedVariables false

/-- The middle of two, as the library computes it. -/
theorem half_u {i j : Nat} (h : i + j < 4611686018427387904) : IntKind.u64.wrap ((i : Int) + (j : Int)) = (i : Int) + (j : Int) := by rw [IntKind.wrap_u64]; omega

set_option maxHeartbeats 4000000 in
set_option maxRecDepth 100000 in
theorem search_any {W0 : World} (n : Nat) (hn : n < 1000000) (lt : Nat → Bool) (x y : Value)
    (hf : ∀ k, k < n → ∀ w, Read W0 w → Calls Tryz.prog 111 #[.int .i64 k, x, y] w fun e w' => e = .returned (.bool (!lt k)) ∧ Read w w')
    (hmono : ∀ i j, i < j → j < n → lt j = true → lt i = true) :
    Calls Tryz.prog 110 #[.int .i64 n, .func (.func 111) #[] #[x, y]] W0 fun e w' => ∃ p : Nat, e = .returned (.int .i64 p) ∧ Read W0 w' ∧ p ≤ n ∧ (∀ i, i < p → lt i = true) ∧ (∀ i, p ≤ i → i < n → lt i = false) := by
  have mixed := mixed
  have hf' := Lib.hid hf
  have hm' := Lib.hid hmono
  have hn' := Lib.hid hn
  clear hf hmono
  go_enter Tryz.func110, Tryz.ntmps110
  go_wp2
  go_loopg [5, 6] n (fun kx s5 s6 wr => ∃ (i j : Nat), s5 = .int .i64 i ∧ s6 = .int .i64 j ∧ i ≤ j ∧ j ≤ n ∧ j - i ≤ kx ∧ Hid ((∀ t, t < i → lt t = true) ∧ (∀ t, j ≤ t → t < n → lt t = false) ∧ Read W0 wr))
  case atStart => exact ⟨0, n, rfl, rfl, Nat.zero_le _, Nat.le_refl _, by omega, ⟨fun t h => by omega, fun t h h' => by omega, Read.refl _⟩⟩
  case round =>
    obtain ⟨i, j, rfl, rfl, hij, hj, hkx, H⟩ := hrel
    by_cases hlt : i < j
    · have hz : (i : Int) < (j : Int) := by omega
      have hu := half_u (i := i) (j := j) (by have := hn'.out; omega)
      obtain ⟨h, hhe, hih, hhj⟩ : ∃ h : Nat, ((i : Int) + (j : Int)) / 2 = (h : Int) ∧ i ≤ h ∧ h < j := ⟨(i + j) / 2, by omega, by omega, by omega⟩
      have rc5 : IntKind.i64.wrap ((h : Int)) = (h : Int) := by rw [IntKind.wrap_i64]; have := hn'.out; omega
      have hc := hf'.out h (by omega) wr H.out.2.2
      cases hL : lt h with
      | true =>
        have rc6 : IntKind.i64.wrap ((h : Int) + 1) = (h : Int) + 1 := IntWalk.i64_in _ (by have := hn'.out; omega)
        rw [hL] at hc
        go_wp2_with (go_at_call 111; refine hc.mono ?_; rintro e w1 ⟨rfl, hr1⟩)
        go_roundg (j - (h + 1))
        case measure => omega
        case rel =>
          refine ⟨h + 1, j, by simp, rfl, by omega, hj, Nat.le_refl _, ⟨fun t ht => ?_, H.out.2.1, H.out.2.2.trans hr1⟩⟩
          by_cases hte : t = h
          · rw [hte]; exact hL
          · exact hm'.out t h (by omega) (by omega) hL
      | false =>
        rw [hL] at hc
        go_wp2_with (go_at_call 111; refine hc.mono ?_; rintro e w1 ⟨rfl, hr1⟩)
        go_roundg (h - i)
        case measure => omega
        case rel =>
          refine ⟨i, h, rfl, rfl, by omega, by omega, Nat.le_refl _, ⟨H.out.1, fun t ht ht2 => ?_, H.out.2.2.trans hr1⟩⟩
          cases hb : lt t with
          | false => rfl
          | true =>
            by_cases hte : t = h
            · rw [hte, hL] at hb; cases hb
            · have := hm'.out h t (by omega) ht2 hb
              rw [hL] at this; cases this
    · have hz : ¬ (i : Int) < (j : Int) := by omega
      obtain rfl : i = j := by omega
      go_wp2
      go_ret
      exact ⟨i, rfl, H.out.2.2, hj, H.out.1, H.out.2.1⟩

/-- A message of a row. -/
theorem RowM.at {w : World} {g off cap : Nat} {l : List M} (h : RowM w g off cap l) (i : Nat) (hi : i < l.length) : MsgAt w g (off + i * 7) (l.getD i default) := by
  have hc : ∀ c, c < 7 → ∀ u, (encM (l.getD i default))[c]? = some u → w.cell? ⟨g, off + i * 7 + c, none⟩ = some u := fun c hc u hu => by
    rw [Nat.add_assoc]
    exact RowIn.cell h (by rw [flat_get l i c hi hc]; exact hu)
  exact ⟨RowIn.lt h, hc 0 (by omega) _ rfl, hc 1 (by omega) _ rfl, hc 2 (by omega) _ rfl, hc 3 (by omega) _ rfl, hc 4 (by omega) _ rfl, hc 5 (by omega) _ rfl, hc 6 (by omega) _ rfl⟩
theorem AtM.form {w : World} {v : Value} {l : List M} (h : AtM w v l) (h0 : 0 < l.length) : ∃ g off cap, v = .slice (some ⟨g, off, none⟩) l.length cap ∧ RowM w g off cap l := RowAt.form h h0
theorem AtI.form {w : World} {v : Value} {l : List Int} (h : AtI w v l) (h0 : 0 < l.length) : ∃ g off cap, v = .slice (some ⟨g, off, none⟩) l.length cap ∧ RowI w g off cap l := RowAt.form h h0
theorem RowAt.below {w w' : World} {e : TypeId} {sz n : Nat} {v : Value} {xs : List Value} (h : RowAt w e sz v n xs) (hb : Below w.heap.size w w') : RowAt w' e sz v n xs := h.kept (S := fun _ => False) (.of_below hb) (fun _ _ e => e)

set_option maxHeartbeats 4000000 in
set_option maxRecDepth 100000 in
theorem placeF_any {W : World} {A B g off cap : Nat} {l : List M} (m : M) (hA : W.cell? ⟨A, 0, none⟩ = some (.slice (some ⟨g, off, none⟩) l.length cap)) (hB : MsgAt W B 0 m) (hR : RowM W g off cap l) (k : Nat) (hk : k < l.length) :
    Calls Tryz.prog 111 #[.int .i64 k, .pointer (some ⟨A, 0, none⟩), .pointer (some ⟨B, 0, none⟩)] W fun e w' => e = .returned (.bool (!ltM (l.getD k default) m)) ∧ Read W w' := by
  have mixed := mixed
  have hx := hR.at k hk
  have hAl : A < W.heap.size := World.block_lt_of_cell? W _ hA
  have hkI : (k : Int) < (l.length : Int) := by omega
  clear hR hk
  generalize l.getD k default = x at hx ⊢
  generalize l.length = n at hA hkI ⊢
  have hcon := fun w => eBefore_any x m w
  obtain ⟨hbl, y0, y1, y2, y3, y4, y5, y6⟩ := hB
  obtain ⟨hgl, x0, x1, x2, x3, x4, x5, x6⟩ := hx
  simp only [Nat.zero_add] at y0 y1 y2 y3 y4 y5 y6
  simp only [M.val] at hcon
  have hS : ∀ w', Read W w' → w'.cell? ⟨A, 0, none⟩ = some (.slice (some ⟨g, off, none⟩) n cap) ∧
      (w'.cell? ⟨g, off + k * 7, none⟩ = some (.int .i64 x.k.t) ∧ w'.cell? ⟨g, off + k * 7 + 1, none⟩ = some (.int .i64 x.k.f) ∧ w'.cell? ⟨g, off + k * 7 + 2, none⟩ = some (.int .i64 x.k.s) ∧ w'.cell? ⟨g, off + k * 7 + 3, none⟩ = some (.int .i64 x.to) ∧
        w'.cell? ⟨g, off + k * 7 + 4, none⟩ = some (.int .i64 x.v) ∧ w'.cell? ⟨g, off + k * 7 + 5, none⟩ = some (.int .i64 x.u) ∧ w'.cell? ⟨g, off + k * 7 + 6, none⟩ = some (.bool x.anti)) ∧
      (w'.cell? ⟨B, 0, none⟩ = some (.int .i64 m.k.t) ∧ w'.cell? ⟨B, 1, none⟩ = some (.int .i64 m.k.f) ∧ w'.cell? ⟨B, 2, none⟩ = some (.int .i64 m.k.s) ∧ w'.cell? ⟨B, 3, none⟩ = some (.int .i64 m.to) ∧
        w'.cell? ⟨B, 4, none⟩ = some (.int .i64 m.v) ∧ w'.cell? ⟨B, 5, none⟩ = some (.int .i64 m.u) ∧ w'.cell? ⟨B, 6, none⟩ = some (.bool m.anti)) := fun w' hr =>
    ⟨hr.cell hAl hA, ⟨hr.cell hgl x0, hr.cell hgl x1, hr.cell hgl x2, hr.cell hgl x3, hr.cell hgl x4, hr.cell hgl x5, hr.cell hgl x6⟩, hr.cell hbl y0, hr.cell hbl y1, hr.cell hbl y2, hr.cell hbl y3, hr.cell hbl y4, hr.cell hbl y5, hr.cell hbl y6⟩
  clear hA x0 x1 x2 x3 x4 x5 x6 y0 y1 y2 y3 y4 y5 y6 hAl hgl hbl
  generalize ltM x m = lt at hcon ⊢
  have hd := Read.drew W 1
  go_enter Tryz.func111, Tryz.ntmps111
  go_upto_region 1 with (fail)
  go_region_held3 (fun w' => w'.cell? ⟨A, 0, none⟩ = some (.slice (some ⟨g, off, none⟩) n cap) ∧
      (w'.cell? ⟨g, off + k * 7, none⟩ = some (.int .i64 x.k.t) ∧ w'.cell? ⟨g, off + k * 7 + 1, none⟩ = some (.int .i64 x.k.f) ∧ w'.cell? ⟨g, off + k * 7 + 2, none⟩ = some (.int .i64 x.k.s) ∧ w'.cell? ⟨g, off + k * 7 + 3, none⟩ = some (.int .i64 x.to) ∧
        w'.cell? ⟨g, off + k * 7 + 4, none⟩ = some (.int .i64 x.v) ∧ w'.cell? ⟨g, off + k * 7 + 5, none⟩ = some (.int .i64 x.u) ∧ w'.cell? ⟨g, off + k * 7 + 6, none⟩ = some (.bool x.anti)) ∧
      (w'.cell? ⟨B, 0, none⟩ = some (.int .i64 m.k.t) ∧ w'.cell? ⟨B, 1, none⟩ = some (.int .i64 m.k.f) ∧ w'.cell? ⟨B, 2, none⟩ = some (.int .i64 m.k.s) ∧ w'.cell? ⟨B, 3, none⟩ = some (.int .i64 m.to) ∧
        w'.cell? ⟨B, 4, none⟩ = some (.int .i64 m.v) ∧ w'.cell? ⟨B, 5, none⟩ = some (.int .i64 m.u) ∧ w'.cell? ⟨B, 6, none⟩ = some (.bool m.anti)))
    (first | exact hS _ hd | exact hS _ (hd.trans hr1))
    (first | (go_at_call 34; refine (hcon _).mono ?_; rintro e w1 ⟨rfl, hr1⟩))
  go_wp2
  go_ret
  exact ⟨rfl, hd.trans hr1⟩
end Go.Proofs.YtjlbkdghlijoeaaGreat
namespace Go.Proofs.YtjlbkdghlijoeaaGreat
open Go.ChangeShapes Go.WideShapes Go.ChangeAt Go.Shelf Go.RowKit Go.Lib Go.Sort Go.Deep
set_option linter.unusedVariables false

/-- p is the place of m in l. -/
def PlaceOf (l : List M) (m : M) (p : Nat) : Prop := p ≤ l.length ∧ (∀ i, i < p → ltM (l.getD i default) m = true) ∧ ∀ i, p ≤ i → i < l.length → ltM (l.getD i default) m = false
theorem order_mono {l : List M} (h : InOrder ltM l) (m : M) (i j : Nat) (hij : i < j) (hj : j < l.length) (hl : ltM (l.getD j default) m = true) : ltM (l.getD i default) m = true := by
  have h1 := List.pairwise_iff_getElem.1 h i j (by omega) hj hij
  have e1 : l.getD i default = l[i] := by simp [List.getD_eq_getElem?_getD, show i < l.length by omega]
  have e2 : l.getD j default = l[j] := by simp [List.getD_eq_getElem?_getD, hj]
  rw [e2] at hl
  rw [e1]
  generalize l[i] = a at *
  generalize l[j] = b at *
  rw [ltM_no] at h1
  rw [ltM_iff] at *
  omega

set_option maxHeartbeats 4000000 in
set_option maxRecDepth 100000 in
theorem placeIn_any {w : World} {v : Value} {l : List M} (h : AtM w v l) (hO : InOrder ltM l) (m : M) (hl : l.length < 1000000) :
    Calls Tryz.prog 105 #[v, m.val] w fun e w' => ∃ p : Nat, e = .returned (.int .i64 p) ∧ Below w.heap.size w w' ∧ PlaceOf l m p := by
  have mixed := mixed
  obtain ⟨a, cap, hv, hlc⟩ := RowAt.shape h
  subst hv
  have hB0 : Hid (Below w.heap.size w ((w.alloc (.cells #[.slice a l.length cap] 38)).alloc (.cells m.cells 34))) := ((Below.refl _ w).alloc (Nat.le_refl _) _).alloc (by simp) _
  have hsr : Calls Tryz.prog 110 #[.int .i64 l.length, .func (.func 111) #[] #[.pointer (some ⟨w.heap.size, 0, none⟩), .pointer (some ⟨w.heap.size + 1, 0, none⟩)]] ((w.alloc (.cells #[.slice a l.length cap] 38)).alloc (.cells m.cells 34)) fun e w' =>
      ∃ p : Nat, e = .returned (.int .i64 p) ∧ Hid (Below w.heap.size w w' ∧ PlaceOf l m p) := by
    refine (search_any l.length hl (fun i => ltM (l.getD i default) m) _ _ (fun k hk W hW => ?_) (fun i j => order_mono hO m i j)).mono ?_
    · obtain ⟨g, off, cap', he, hR⟩ := AtM.form h (by omega)
      cases he
      have hb := hB0.out.trans (hW.below.mono hB0.out.size)
      have e1 : (w.alloc (.cells #[.slice (some ⟨g, off, none⟩) l.length cap] 38)).heap.size = w.heap.size + 1 := by simp
      have hA : ((w.alloc (.cells #[.slice (some ⟨g, off, none⟩) l.length cap] 38)).alloc (.cells m.cells 34)).cell? ⟨w.heap.size, 0, none⟩ = some (.slice (some ⟨g, off, none⟩) l.length cap) := by
        rw [World.cell?_alloc_lt _ _ _ (by simp)]
        have := heap_alloc_new w (.cells #[.slice (some ⟨g, off, none⟩) l.length cap] 38)
        rw [cell_of_row _ _ 0 _ _ (0, 0) this]
        rfl
      have hBm := (BoxM.mk (w.alloc (.cells #[.slice (some ⟨g, off, none⟩) l.length cap] 38)) m)
      rw [e1] at hBm
      exact placeF_any m (hW.cell (by simp <;> omega) hA) (hBm.at.read hW) (RowIn.kept (S := fun _ => False) hR (.of_below hb) (fun e => e)) k hk
    · rintro e w' ⟨p, he, hr, hp⟩
      exact ⟨p, he, hB0.out.trans (hr.below.mono hB0.out.size), hp⟩
  clear h hO
  simp only [M.val, M.cells] at hsr ⊢
  go_enter Tryz.func105, Tryz.ntmps105
  go_wp2_with (go_at_call 110; refine hsr.mono ?_; rintro e w1 ⟨p, rfl, hp⟩)
  go_ret
  exact ⟨p, rfl, hp.out⟩

theorem ccNaN_any (a : Int) (w : World) : Calls Tryz.prog 43 #[.int .i64 a] w fun e w' => e = .returned (.bool false) ∧ w = w' := by
  go_enter Tryz.func43, Tryz.ntmps43
  go_wp2
  go_ret
  exact ⟨rfl, rfl⟩
theorem csNaN_any (a : Int) (w : World) : Calls Tryz.prog 109 #[.int .i64 a] w fun e w' => e = .returned (.bool false) ∧ w = w' := by
  go_enter Tryz.func109, Tryz.ntmps109
  go_wp2
  go_ret
  exact ⟨rfl, rfl⟩
theorem cLess_any (a b : Int) (w : World) : Calls Tryz.prog 108 #[.int .i64 a, .int .i64 b] w fun e w' => e = .returned (.bool (decide (a < b))) ∧ w = w' := by
  have h1 := ccNaN_any a w
  have h2 := ccNaN_any b w
  go_enter Tryz.func108, Tryz.ntmps108
  go_wp2_with (go_at_call 43; first | (refine h1.mono ?_; rintro e w1 ⟨rfl, rfl⟩) | (refine h2.mono ?_; rintro e w1 ⟨rfl, rfl⟩))
  go_ret
  exact ⟨rfl, rfl⟩
/-- p is the place of d among the days ds. -/
def PlaceI (ds : List Int) (d : Int) (p : Nat) : Prop := p ≤ ds.length ∧ (∀ i, i < p → ds.getD i 0 < d) ∧ ∀ i, p ≤ i → i < ds.length → d ≤ ds.getD i 0
theorem RowI.cellI {w : World} {g off cap : Nat} {ds : List Int} (h : RowI w g off cap ds) (i : Nat) (hi : i < ds.length) : w.cell? ⟨g, off + i, none⟩ = some (.int .i64 (ds.getD i 0)) := by
  refine RowIn.cell h ?_
  rw [ints_get]
  simp [List.getD_eq_getElem?_getD, hi]
theorem rising_mono {ds : List Int} (h : ds.Pairwise (· < ·)) (i j : Nat) (hij : i < j) (hj : j < ds.length) : ds.getD i 0 < ds.getD j 0 := by
  have h1 := List.pairwise_iff_getElem.1 h i j (by omega) hj hij
  have e1 : ds.getD i 0 = ds[i] := by simp [List.getD_eq_getElem?_getD, show i < ds.length by omega]
  have e2 : ds.getD j 0 = ds[j] := by simp [List.getD_eq_getElem?_getD, hj]
  rw [e1, e2]
  exact h1

end Go.Proofs.YtjlbkdghlijoeaaGreat
namespace Go.Proofs.YtjlbkdghlijoeaaGreat
open Go.ChangeShapes Go.WideShapes Go.ChangeAt Go.Shelf Go.RowKit Go.Lib Go.Sort Go.Deep
set_option linter.unusedVariables false

/-- What the search among days answers. -/
def BinRes (w : World) (ds : List Int) (d : Int) (e : Ending) (w' : World) : Prop := ∃ (p : Nat) (b : Bool), e = .returned (.tuple #[.int .i64 p, .bool b]) ∧ w = w' ∧ PlaceI ds d p
set_option maxHeartbeats 4000000 in
set_option maxRecDepth 100000 in
theorem binS_any {w : World} {v : Value} {ds : List Int} (h : AtI w v ds) (hO : ds.Pairwise (· < ·)) (d : Int) (hl : ds.length < 1000000) :
    Calls Tryz.prog 102 #[v, .int .i64 d] w (BinRes w ds d) := by
  have mixed := mixed
  obtain ⟨a, cap, hv, hlc⟩ := RowAt.shape h
  subst hv
  have hc : Hid (∀ i, i < ds.length → ∃ g off, a = some ⟨g, off, none⟩ ∧ w.cell? ⟨g, off + i, none⟩ = some (.int .i64 (ds.getD i 0))) := fun i hi => by
    obtain ⟨g, off, cap', he, hR⟩ := AtI.form h (by omega)
    cases he
    exact ⟨g, off, rfl, hR.cellI i hi⟩
  have hm := Lib.hid (rising_mono hO)
  have hl' := Lib.hid hl
  have hless := fun x => cLess_any x d w
  have hn1 := fun x => csNaN_any x w
  clear h hO
  generalize hn : ds.length = n at *
  have hn' := Lib.hid hn
  clear hn
  go_enter Tryz.func102, Tryz.ntmps102
  go_wp2
  go_loopg [7, 8] n (fun kx s7 s8 wr => ∃ (i j : Nat), s7 = .int .i64 i ∧ s8 = .int .i64 j ∧ i ≤ j ∧ j ≤ n ∧ j - i ≤ kx ∧ w = wr ∧ Hid ((∀ t, t < i → ds.getD t 0 < d) ∧ (∀ t, j ≤ t → t < n → d ≤ ds.getD t 0)))
  case atStart => exact ⟨0, n, rfl, rfl, Nat.zero_le _, Nat.le_refl _, by omega, rfl, ⟨fun t h => by omega, fun t h h' => by omega⟩⟩
  case round =>
    obtain ⟨i, j, rfl, rfl, hij, hj, hkx, rfl, H⟩ := hrel
    by_cases hlt : i < j
    · have hz : (i : Int) < (j : Int) := by omega
      have hu := half_u (i := i) (j := j) (by have := hl'.out; omega)
      obtain ⟨h, hhe, hih, hhj⟩ : ∃ h : Nat, ((i : Int) + (j : Int)) / 2 = (h : Int) ∧ i ≤ h ∧ h < j := ⟨(i + j) / 2, by omega, by omega, by omega⟩
      have rc5 : IntKind.i64.wrap ((h : Int)) = (h : Int) := by rw [IntKind.wrap_i64]; have := hl'.out; omega
      obtain ⟨g, off, rfl, hx⟩ := hc.out h (by omega)
      have hle := hless (ds.getD h 0)
      have hhn : (h : Int) < (n : Int) := by omega
      obtain ⟨xh, hxh⟩ : ∃ xh, xh = ds.getD h 0 := ⟨_, rfl⟩
      rw [← hxh] at hx hle
      have hxh' := Lib.hid hxh
      clear hxh
      by_cases hL : xh < d
      · have hL' := decide_eq_true hL
        rw [hL'] at hle
        have rc6 : IntKind.i64.wrap ((h : Int) + 1) = (h : Int) + 1 := IntWalk.i64_in _ (by have := hl'.out; omega)
        go_wp2_with (go_at_call 108; refine hle.mono ?_; rintro e w1 ⟨rfl, rfl⟩)
        go_roundg (j - (h + 1))
        case measure => omega
        case rel =>
          refine ⟨h + 1, j, by simp, rfl, by omega, hj, Nat.le_refl _, rfl, ⟨fun t ht => ?_, H.out.2⟩⟩
          by_cases hte : t = h
          · rw [hte, ← hxh'.out]; exact hL
          · have := hm.out t h (by omega) (by omega)
            rw [← hxh'.out] at this
            omega
      · have hL' := decide_eq_false hL
        rw [hL'] at hle
        go_wp2_with (go_at_call 108; refine hle.mono ?_; rintro e w1 ⟨rfl, rfl⟩)
        go_roundg (h - i)
        case measure => omega
        case rel =>
          refine ⟨i, h, rfl, rfl, by omega, by omega, Nat.le_refl _, rfl, ⟨H.out.1, fun t ht ht2 => ?_⟩⟩
          by_cases hte : t = h
          · rw [hte, ← hxh'.out]; omega
          · have := hm.out h t (by omega) ht2
            rw [← hxh'.out] at this
            omega
    · have hz : ¬ (i : Int) < (j : Int) := by omega
      obtain rfl : i = j := by omega
      have hP : Hid (PlaceI ds d i) := by
        refine ⟨by rw [hn'.out]; exact hj, H.out.1, fun t h1 h2 => H.out.2 t h1 (by rw [hn'.out] at h2; exact h2)⟩
      by_cases hin : i < n
      · have hinI : (i : Int) < (n : Int) := by omega
        obtain ⟨g, off, rfl, hx⟩ := hc.out i hin
        have h1 := hn1 (ds.getD i 0)
        generalize ds.getD i 0 = xi at hx h1
        by_cases he : xi = d
        · have he' : decide (xi = d) = true := decide_eq_true he
          go_wp2_with (go_at_call 109; refine h1.mono ?_; rintro e w1 ⟨rfl, rfl⟩)
          go_ret2
          exact ⟨i, _, rfl, rfl, hP.out⟩
        · have he' : decide (xi = d) = false := decide_eq_false he
          go_wp2_with (go_at_call 109; refine h1.mono ?_; rintro e w1 ⟨rfl, rfl⟩)
          go_ret2
          exact ⟨i, _, rfl, rfl, hP.out⟩
      · have hinI : ¬ (i : Int) < (n : Int) := by omega
        go_wp2
        go_ret2
        exact ⟨i, _, rfl, rfl, hP.out⟩

/-- The day of a time. -/
def dayOf (W t : Int) : Int := t / W
theorem day_range {W t : Int} (hW : 1 ≤ W) (h1 : -9223372036854775808 ≤ t) (h2 : t ≤ 9223372036854775807) : -9223372036854775808 ≤ t / W ∧ t / W ≤ 9223372036854775807 := by
  refine ⟨?_, ?_⟩
  · rw [Int.le_ediv_iff_mul_le (by omega)]
    omega
  · have : t / W < 9223372036854775808 := by
      rw [Int.ediv_lt_iff_lt_mul (by omega)]
      omega
    omega
theorem day_pos {W t : Int} (hW : 1 ≤ W) (hr : 0 ≤ t.tmod W) : t.tdiv W = t / W := by
  have h1 := Int.tmod_add_mul_tdiv t W
  have h2 := Int.tmod_lt_of_pos t (show 0 < W by omega)
  generalize t.tdiv W = q at *
  generalize t.tmod W = r at *
  have h3 : t / W = q := by
    rw [← h1, Int.add_mul_ediv_left _ _ (by omega), Int.ediv_eq_zero_of_lt hr h2]
    omega
  exact h3.symm
theorem day_neg {W t : Int} (hW : 1 ≤ W) (hr : t.tmod W < 0) : t.tdiv W - 1 = t / W := by
  have h1 := Int.tmod_add_mul_tdiv t W
  have h2 : -W < t.tmod W := by
    have := Int.lt_tmod_of_pos t (show 0 < W by omega)
    omega
  generalize t.tdiv W = q at *
  generalize t.tmod W = r at *
  have e : W * q = W * (q - 1) + W := by rw [Int.mul_sub, Int.mul_one]; omega
  have h3 : t / W = q - 1 := by
    rw [← h1, e, show r + (W * (q - 1) + W) = (r + W) + W * (q - 1) by omega, Int.add_mul_ediv_left _ _ (by omega), Int.ediv_eq_zero_of_lt (by omega) (by omega)]
    omega
  exact h3.symm
theorem wf_range {t : Int} (h : (Lit.int .i64 t).wf = true) : -9223372036854775808 ≤ t ∧ t ≤ 9223372036854775807 := by
  simp [Lit.wf, IntKind.min, IntKind.max, IntKind.signed, IntKind.bits] at h
  omega
theorem dayOf_mono {W t t' : Int} (hW : 1 ≤ W) (h : t ≤ t') : dayOf W t ≤ dayOf W t' := Int.ediv_le_ediv (by omega) h
set_option maxHeartbeats 1000000 in
set_option maxRecDepth 100000 in
theorem dayOf_any {w : World} {db : Nat} {W t : Int} (hc : w.cell? ⟨db, 0, none⟩ = some (.int .i64 W)) (hW : 1 ≤ W) (hWf : (Lit.int .i64 W).wf = true) (htf : (Lit.int .i64 t).wf = true) :
    Calls Tryz.prog 101 #[.pointer (some ⟨db, 0, none⟩), .int .i64 t] w fun e w' => e = .returned (.int .i64 (dayOf W t)) ∧ w = w' := by
  have mixed := mixed
  go_enter Tryz.func101, Tryz.ntmps101
  have hr := wf_range htf
  have hd := day_range hW hr.1 hr.2
  have hpos := @day_pos W t hW
  have hneg := @day_neg W t hW
  have hlow : t.tmod W < 0 → t / W < 0 := fun h => by
    have ht : t < 0 := by
      rcases Int.lt_or_le t 0 with h1 | h1
      · exact h1
      · have := Int.tmod_nonneg W h1; omega
    rw [Int.ediv_lt_iff_lt_mul (by omega)]
    omega
  have hfin : ∀ q r : Int, t.tdiv W = q → t.tmod W = r → (r < 0 → wrap64 (wrap64 q - 1) = dayOf W t) ∧ (0 ≤ r → wrap64 q = dayOf W t) := by
    rintro q r rfl rfl
    unfold dayOf
    refine ⟨fun h => ?_, fun h => ?_⟩
    · have := hneg h
      have := hlow h
      rw [IntWalk.wrap64_in (t.tdiv W) (by omega), IntWalk.wrap64_in _ (by omega)]
      omega
    · have := hpos h
      rw [IntWalk.wrap64_in (t.tdiv W) (by omega)]
      omega
  have hf := Lib.hid (hfin _ _ rfl rfl)
  clear hfin hpos hneg hlow hd hr
  go_wp2
  all_goals
    go_ret
    refine ⟨congrArg (fun x => Ending.returned (.int .i64 x)) ?_, rfl⟩
    first | exact hf.out.1 (by assumption) | exact hf.out.2 (by assumption)
end Go.Proofs.YtjlbkdghlijoeaaGreat
namespace Go.Proofs.YtjlbkdghlijoeaaGreat
open Go.ChangeShapes Go.WideShapes Go.ChangeAt Go.Shelf Go.RowKit Go.Lib Go.Sort Go.Deep
set_option linter.unusedVariables false

theorem tlay : TLay Tryz.prog 7 where
  mixed := mixed
  fBefore := Tryz.func34
  fsize := Tryz.func69
  fswap := Tryz.func83
  fraise := Tryz.func82
  fleast := Tryz.func85
  fsink := Tryz.func84
  t0 := Tryz.underlying0
  a0 := Tryz.isAgg0
  z0 := Tryz.sizeOf0
  v0 := Tryz.zeroValue0
  t3 := Tryz.underlying3
  a3 := Tryz.isAgg3
  z3 := Tryz.sizeOf3
  v3 := Tryz.zeroValue3
  t4 := Tryz.underlying4
  a4 := Tryz.isAgg4
  z4 := Tryz.sizeOf4
  v4 := Tryz.zeroValue4
  tS := Tryz.underlying38
  aS := Tryz.isAgg38
  zS := Tryz.sizeOf38
  tP := Tryz.underlying80
  aP := Tryz.isAgg80
  zP := Tryz.sizeOf80
  tF := rfl
  aF := Tryz.isAgg81
  zF := Tryz.sizeOf81
  tT := rfl
  rT := Tryz.runUnderlying83
  tA := rfl
  aA := Tryz.isAgg147
  zA := Tryz.sizeOf147
  rA := Tryz.runUnderlying147
  vA := fun w => by kernel_rfl
  x0 := fun a b w => by kernel_rfl
  x1 := fun a b w => by kernel_rfl
  aE := Tryz.isAgg34
  zE := Tryz.sizeOf34
theorem aheads : Aheads Tryz.prog encM ltM := fun x y w => eBefore_any x y w

theorem own_kept {S : Nat → Prop} {w w' : World} {base : Nat} {e : TypeId} {size : Nat} {v : Value} {n : Nat} {xs : List Value} (h : w.ownsRow base e size v n xs) (hk : KeptOff S w w') (hn : ∀ k, v.ownBlock = some k → ¬ S k) : w'.ownsRow base e size v n xs := by
  refine ⟨h.1, ?_⟩
  rcases h.2 with h0 | ⟨g, cap, cur, rfl, hb, hgg, rest⟩
  · exact .inl h0
  · exact .inr ⟨g, cap, cur, rfl, hb, (hk.block g (Array.getElem?_eq_some_iff.1 hgg).1 (hn g rfl)).trans hgg, rest⟩
theorem own_shorter {w : World} {base g n m cap : Nat} {l : List M} (h : w.ownsRow base 34 7 (.slice (some ⟨g, 0, none⟩) n cap) n (flat l)) (hm : m ≤ n) : w.ownsRow base 34 7 (.slice (some ⟨g, 0, none⟩) m cap) m (flat (l.take m)) := by
  obtain ⟨hl, hv⟩ := h
  rw [flat_length] at hl
  rcases hv with ⟨h0, _⟩ | ⟨g', cap', cur, hv, hb, hg, hn, hcm, hcs, ht⟩
  · cases h0
  · cases hv
    refine ⟨by rw [flat_length, List.length_take]; omega, .inr ⟨g, cap, cur, rfl, hb, hg, by omega, hcm, hcs, ?_⟩⟩
    have e1 : cur.toList.take (m * 7) = (cur.toList.take (n * 7)).take (m * 7) := by rw [List.take_take, Nat.min_eq_left (Nat.mul_le_mul_right _ hm)]
    rw [e1, ht]
    have e2 : l = l.take m ++ l.drop m := (List.take_append_drop m l).symm
    have e3 : flat l = flat (l.take m) ++ flat (l.drop m) := by
      conv => lhs; rw [e2]
      exact flat_append _ _
    rw [e3]
    have : m * 7 = (flat (l.take m)).length := by rw [flat_length, List.length_take]; omega
    rw [this]
    exact List.take_left
theorem own_holds {w : World} {base g n cap : Nat} {l : List M} (h : w.ownsRow base 34 7 (.slice (some ⟨g, 0, none⟩) n cap) n (flat l)) : HoldsK encM 7 w g 0 l.toArray ∧ g < w.heap.size := by
  obtain ⟨hl, hv⟩ := h
  rw [flat_length] at hl
  rcases hv with ⟨h0, _⟩ | ⟨g', cap', cur, hv, hb, hg, hn, hcm, hcs, ht⟩
  · cases h0
  · cases hv
    exact ⟨holds_of_block hg (by omega) ht, (Array.getElem?_eq_some_iff.1 hg).1⟩
theorem own_row {w : World} {base g n cap : Nat} {l : List M} (h : w.ownsRow base 34 7 (.slice (some ⟨g, 0, none⟩) n cap) n (flat l)) : RowK encM 7 w g 0 l.toArray :=
  ⟨encM_length, encM_one, (own_holds h).1, (own_holds h).2⟩
theorem own_swk {w0 w : World} {base g n cap : Nat} {l : List M} {d : Array M} (h : w0.ownsRow base 34 7 (.slice (some ⟨g, 0, none⟩) n cap) n (flat l)) (S : SWK encM 7 w0 g 0 d w) (hd : d.size = n) :
    w.ownsRow base 34 7 (.slice (some ⟨g, 0, none⟩) n cap) n (flat d.toList) := by
  have R := own_row h
  obtain ⟨hl, hv⟩ := h
  rw [flat_length] at hl
  rcases hv with ⟨h0, _⟩ | ⟨g', cap', cur, hv, hb, hg, hn, hcm, hcs, ht⟩
  · cases h0
  · cases hv
    obtain ⟨cur', hg', hcs'⟩ := swk_row S hg
    have hn' : l.length = n := by omega
    have hH := S.holds R.hblk R.hH (by simp [hd, hn'])
    have hlen : d.toList.length = n := by rw [Array.length_toList]; exact hd
    refine ⟨by rw [flat_length, hlen], .inr ⟨g, cap, cur', rfl, hb, hg', hn, hcm, by omega, ?_⟩⟩
    apply List.ext_getElem?
    intro j
    by_cases hj : j < n * 7
    · rw [List.getElem?_take_of_lt hj, Array.getElem?_toList]
      have hc := (hH.cell (i := j / 7) (c := j % 7) (by omega) (by omega)).1
      have e1 : 0 + j / 7 * 7 + j % 7 = j := by omega
      rw [e1, cell_of_row w g j cur' 34 (0, 0) hg'] at hc
      have e2 := flat_get d.toList (j / 7) (j % 7) (by omega) (by omega)
      rw [show j / 7 * 7 + j % 7 = j by omega] at e2
      rw [hc, e2]
      have e3 : d.toList.getD (j / 7) default = d[j / 7]! := by
        rw [getElem!_pos d (j / 7) (by omega)]
        simp [List.getD_eq_getElem?_getD, show j / 7 < d.size by omega]
      rw [e3]
      generalize d[j / 7]! = m0
      rw [List.getElem?_eq_getElem (by rw [encM_length]; omega), getElem!_pos (encM m0) (j % 7) (by rw [encM_length]; omega)]
    · rw [List.getElem?_take_eq_none (by omega), List.getElem?_eq_none (by rw [flat_length, hlen]; omega)]

/-- A tree: its block, its row, a heap. -/
structure TreeAt (w : World) (b0 tb : Nat) (v : Value) (l : List M) : Prop where
  t : TreeOf w tb v
  own : w.ownsRow b0 34 7 v l.length (flat l)
  lt : tb < b0
  bd : b0 ≤ w.heap.size
  fits : ∀ m ∈ l, m.fits
  heap : HeapOn ltM l.toArray
  small : l.length ≤ 16384
theorem TreeAt.kept {S : Nat → Prop} {w w' : World} {b0 tb : Nat} {v : Value} {l : List M} (h : TreeAt w b0 tb v l) (hk : KeptOff S w w') (h1 : ¬ S tb) (h2 : ∀ k, v.ownBlock = some k → ¬ S k) : TreeAt w' b0 tb v l :=
  ⟨(hk.block tb h.t.lt h1).trans h.t, own_kept h.own hk h2, h.lt, Nat.le_trans h.bd hk.size, h.fits, h.heap, h.small⟩
theorem TreeAt.off {w : World} {b0 tb : Nat} {v : Value} {l : List M} (h : TreeAt w b0 tb v l) : v.ownBlock ≠ some tb := fun e => by
  have := (h.own.lt tb e).1
  have := h.lt
  omega
/-- What a tree's row looks like. -/
theorem TreeAt.shape {w : World} {b0 tb : Nat} {v : Value} {l : List M} (h : TreeAt w b0 tb v l) : ∃ a cap, v = .slice a l.length cap := by
  rcases h.own.2 with ⟨rfl, h0⟩ | ⟨g, cap, cur, rfl, _⟩
  · exact ⟨none, 0, by rw [h0]⟩
  · exact ⟨_, cap, rfl⟩
theorem TreeAt.some_shape {w : World} {b0 tb : Nat} {v : Value} {l : List M} (h : TreeAt w b0 tb v l) (h0 : 0 < l.length) : ∃ g cap, v = .slice (some ⟨g, 0, none⟩) l.length cap ∧ b0 ≤ g ∧ g < w.heap.size ∧ tb ≠ g := by
  obtain ⟨g, cap, hv, hb, hg⟩ := h.own.form h0
  have := h.lt
  exact ⟨g, cap, hv, hb, hg, by omega⟩

theorem infoMsg : ∃ i0, Tryz.prog.info? 34 = some i0 ∧ i0.size = 7 := by
  obtain ⟨i0, hi, _, hz1, _⟩ := info_parts infoM
  exact ⟨i0, hi, hz1⟩
end Go.Proofs.YtjlbkdghlijoeaaGreat
namespace Go.Proofs.YtjlbkdghlijoeaaGreat
open Go.ChangeShapes Go.WideShapes Go.ChangeAt Go.Shelf Go.RowKit Go.Lib Go.Sort Go.Deep
set_option linter.unusedVariables false

set_option maxHeartbeats 1000000 in
theorem tfirst_any {w : World} {b0 tb : Nat} {v : Value} {l : List M} (h : TreeAt w b0 tb v l) (h0 : 0 < l.length) :
    Calls Tryz.prog 76 #[.pointer (some ⟨tb, 0, none⟩)] w fun e w' => e = .returned (l.getD 0 default).val ∧ Below w.heap.size w w' := by
  obtain ⟨g, cap, rfl, hg, hgl, hne⟩ := h.some_shape h0
  have hm := msgs_of_holds (own_holds h.own).1 hgl 0 h0
  have hn : (l.length : Int) > 0 := by omega
  have c0 := fun o => Lib.cell?_alloc_some o h.t.c0
  generalize l.getD 0 default = m at hm ⊢
  obtain ⟨-, x0, x1, x2, x3, x4, x5, x6⟩ := hm
  simp only [Nat.zero_add, Nat.zero_mul] at x0 x1 x2 x3 x4 x5 x6
  have y0 := fun o => Lib.cell?_alloc_some o x0
  have y1 := fun o => Lib.cell?_alloc_some o x1
  have y2 := fun o => Lib.cell?_alloc_some o x2
  have y3 := fun o => Lib.cell?_alloc_some o x3
  have y4 := fun o => Lib.cell?_alloc_some o x4
  have y5 := fun o => Lib.cell?_alloc_some o x5
  have y6 := fun o => Lib.cell?_alloc_some o x6
  have hcap : 0 < l.length := h0
  clear h x0 x1 x2 x3 x4 x5 x6
  obtain ⟨⟨t, f, s⟩, tt, vv, u, an⟩ := m
  simp only [M.val]
  generalize l.length = n at *
  go_enter Tryz.func76, Tryz.ntmps76
  go_wp2
  refine bodyPost_ret (v := .agg #[.int .i64 t, .int .i64 f, .int .i64 s, .int .i64 tt, .int .i64 vv, .int .i64 u, .bool an]) (by simp [results, Tryz.results76, go_sem]) rfl ⟨rfl, ?_⟩
  repeat (refine Below.setCell ?_ (by simp) _)
  exact (Below.refl _ w).alloc (Nat.le_refl _) _

theorem TreeOf.set {w : World} {tb : Nat} {v : Value} (h : TreeOf w tb v) (u : Value) : TreeOf (w.setCell ⟨tb, 0, none⟩ u) tb u := by
  unfold TreeOf at h ⊢
  simp [World.setCell, Array.getElem?_modify, h]
/-- Where a row lies behind a step: where it lay, or in a new block. -/
def RowFrom (w : World) (v v' : Value) : Prop := ∀ g, v'.ownBlock = some g → v.ownBlock = some g ∨ w.heap.size ≤ g

/-- What an add leaves. -/
def Added (w : World) (b0 tb : Nat) (v : Value) (l : List M) (m : M) (w' : World) : Prop :=
  ∃ v' l', TreeAt w' b0 tb v' l' ∧ l'.Perm (l ++ [m]) ∧ KeptOff (fun k => k = tb ∨ v.ownBlock = some k) w w' ∧ RowFrom w v v'

set_option maxHeartbeats 4000000 in
set_option maxRecDepth 100000 in
theorem tadd_any {w : World} {b0 tb : Nat} {v : Value} {l : List M} (h : TreeAt w b0 tb v l) (hs : l.length < 16384) (m : M) (hm : m.fits) :
    Calls Tryz.prog 77 #[.pointer (some ⟨tb, 0, none⟩), m.val] w fun e w' => e = .returned (.tuple #[]) ∧ Added w b0 tb v l m w' := by
  obtain ⟨i0, hi, hz0, hz1, hz2⟩ := info_parts infoM
  have mixed := mixed
  obtain ⟨oa, oc, rfl⟩ := h.shape
  have hk1 : Hid (KeptOff (fun k => k = tb ∨ (Value.slice oa l.length oc).ownBlock = some k) w (w.alloc (.cells m.cells 34))) := .of_below ((Below.refl _ w).alloc (Nat.le_refl _) _)
  have h1 := Lib.hid (h.kept (S := fun _ => False) (.of_below ((Below.refl _ w).alloc (Nat.le_refl _) (.cells m.cells 34))) (fun e => e) (fun _ _ e => e))
  have hb1 := Lib.hid (BoxM.mk w m)
  have hf := Lib.hid h.fits
  have hH := Lib.hid h.heap
  have hfm := Lib.hid hm
  have hlt := h.lt
  have hbd := h.bd
  have htl := h.t.lt
  have hoff := Lib.hid h.off
  obtain ⟨n, hn⟩ : ∃ n, n = l.length := ⟨_, rfl⟩
  have hn' := Lib.hid hn
  rw [← hn] at h1 hk1 hs hoff ⊢
  clear h hm hn
  obtain ⟨m0, hm0⟩ : ∃ m0, m0 = m := ⟨_, rfl⟩
  have hm0' := Lib.hid hm0
  obtain ⟨⟨t, f, s⟩, tt, vv, u, an⟩ := m
  simp only [M.val, M.cells] at hk1 h1 hb1 ⊢
  go_enter Tryz.func77, Tryz.ntmps77
  go_wp2_with fail
  obtain ⟨B, hB⟩ : ∃ B, B = w.heap.size := ⟨_, rfl⟩
  rw [← hB] at hb1 ⊢
  generalize hW1 : w.alloc (.cells #[.int .i64 t, .int .i64 f, .int .i64 s, .int .i64 tt, .int .i64 vv, .int .i64 u, .bool an] 34) = W1 at hk1 h1 hb1 ⊢
  have hsz1 : W1.heap.size = B + 1 := by rw [← hW1, hB]; simp
  have hsz1' := Lib.hid hsz1
  clear hW1 hm0
  have c0 := h1.out.t.c0
  obtain ⟨-, y0, y1, y2, y3, y4, y5, y6⟩ := hb1.out.at
  simp only [Nat.zero_add] at y0 y1 y2 y3 y4 y5 y6
  have hown' := Lib.hid h1.out.own
  have ag : Value.ownBlock (.slice oa n oc) ≠ some tb := hoff.out
  have hfz := h1.out.t.fz 0
  have htl1 : tb < W1.heap.size := h1.out.t.lt
  have hbW : b0 ≤ W1.heap.size := h1.out.bd
  rw [← hn'.out] at hown'
  have hB' : Hid (B = w.heap.size) := hB
  clear hB hsz1
  go_region_law (first
    | (refine step_append_lies _ (by rfl) _ _ _ (by rfl) b0 34 i0 _ 7 56 Tryz.underlying38 hi hz0 hz1 hz2 rfl (by omega) (.slice oa n oc) n (flat l) (by rfl) ((hown'.out.alloc _).drew) ⟨W1.heap.size, 0, none⟩ 1 1 (flat [⟨⟨t, f, s⟩, tt, vv, u, an⟩]) (by rfl) (by rfl) (World.news_of_block (cs := (M.cells ⟨⟨t, f, s⟩, tt, vv, u, an⟩)) (t := 34) (fr := (0, 0)) (heap_alloc_new W1 _)) (flat_one _) (by omega) (by unfold maxLen; omega) (by omega) (by simp; omega) (W1.heap.size + 1) (by simp) ?_; intro gg cap w4 hown4 hgrow hat hlt4; have q13 : w4.cell? ⟨tb, 0, none⟩ = some (.slice oa n oc) := (hgrow.cell_far _ (by simp; omega) (Ne.symm ag)).trans (Lib.cell?_alloc_some _ c0); have q13f : w4.frozen? ⟨tb, 0, none⟩ = false := (hgrow.frozen_far _ (by simp; omega) (Ne.symm ag)).trans (by rw [← hfz]; exact World.frozen?_alloc_past _ _ _ htl1)))
  all_goals
    have hk2 := hk1.out.trans ((((KeptOff.of_below (((Below.refl W1.heap.size W1).alloc (Nat.le_refl _) _).drew)).then_new ((KeptOff.of_grown hgrow).mono (fun k _ e => Or.inr e)) (fun k _ e => e)).trans ((KeptOff.set w4 ⟨tb, 0, none⟩ (.slice (some ⟨gg, 0, none⟩) (n + 1) cap)).mono (fun k _ e => Or.inl e))).mono (fun k _ e => e))
    have hT4 : TreeOf w4 tb (.slice oa n oc) := ((hgrow.block tb (by simp; omega) (Ne.symm ag)).trans (Below.heap_alloc W1 _ tb htl1)).trans h1.out.t
    have hT5 := hT4.set (.slice (some ⟨gg, 0, none⟩) (n + 1) cap)
    have hown5 : w4.ownsRow b0 34 7 (.slice (some ⟨gg, 0, none⟩) (n + 1) cap) (n + 1) (flat (l ++ [(⟨⟨t, f, s⟩, tt, vv, u, an⟩ : M)])) := by rw [flat_append]; exact hown4
    have hown6 := ownsRow_setCell_below hown5 (a := ⟨tb, 0, none⟩) hlt (.slice (some ⟨gg, 0, none⟩) (n + 1) cap)
    have hrf : RowFrom w (.slice oa n oc) (.slice (some ⟨gg, 0, none⟩) (n + 1) cap) := by
      intro g hg
      obtain rfl : gg = g := by simpa [Value.ownBlock] using hg
      rcases hat with e | e
      · exact .inl e
      · exact .inr (by have := hsz1'.out; have := hB'.out; omega)
    have hge := (hown5.lt gg rfl).1
    have hlen : Hid ((l ++ [(⟨⟨t, f, s⟩, tt, vv, u, an⟩ : M)]).toArray.size = n + 1) := by show _ = _; simp [hn'.out]
    have hne : tb ≠ gg := by omega
    have hra := fun w' (S : SWK encM 7 (w4.setCell ⟨tb, 0, none⟩ (.slice (some ⟨gg, 0, none⟩) (n + 1) cap)) gg 0 (l ++ [(⟨⟨t, f, s⟩, tt, vv, u, an⟩ : M)]).toArray w') => traise_any tlay encM ltM aheads tb gg 0 cap n (n + 1) _ _ _ w' (own_row hown6) hlen.out hlen.out S hT5 hne (by omega) (by omega)
    have hra := hra _ (SWK.start (own_row hown6).hH)
    have hbd5 : b0 ≤ (w4.setCell ⟨tb, 0, none⟩ (.slice (some ⟨gg, 0, none⟩) (n + 1) cap)).heap.size := Nat.le_trans hbd hk2.size
    have hQ := Lib.hid (And.intro hk2 (And.intro hT5 (And.intro hown6 (And.intro hrf hbd5))))
    have c5 := hT5.c0
    clear hown4 hgrow hat hlt4 q13 q13f hown5 hk2 hT4 hT5 hown6 hrf ag c0 y0 y1 y2 y3 y4 y5 y6 hfz hbd5
    generalize w4.setCell ⟨tb, 0, none⟩ (.slice (some ⟨gg, 0, none⟩) (n + 1) cap) = W5 at hQ c5 hra ⊢
    go_wp2_with (first | (go_at_call 69; refine (tsize_any tlay tb (some ⟨gg, 0, none⟩) (n + 1) cap _ c5).mono ?_; rintro e w6 ⟨rfl, rfl⟩) | (go_at_call 82; refine hra.mono ?_; rintro e w7 ⟨rfl, S7⟩))
    go_end0
    obtain ⟨hk2, hT5, hown6, hrf, hbd5⟩ := hQ.out
    have hadd := add_all ordM hH.out (⟨⟨t, f, s⟩, tt, vv, u, an⟩ : M)
    have eA : l.toArray.push (⟨⟨t, f, s⟩, tt, vv, u, an⟩ : M) = (l ++ [(⟨⟨t, f, s⟩, tt, vv, u, an⟩ : M)]).toArray := by simp
    have eS : l.toArray.size = n := by simp [hn'.out]
    rw [eA, eS] at hadd
    obtain ⟨a1, a2, a3⟩ := hadd
    have hown7 := own_swk hown6 S7 a1
    refine ⟨rfl, _, (raiseA ltM (l ++ [(⟨⟨t, f, s⟩, tt, vv, u, an⟩ : M)]).toArray n).toList, ⟨hT5.swk S7 hne, ?_, hlt, Nat.le_trans hbd5 S7.le, ?_, by simpa using a3, by rw [Array.length_toList, a1]; omega⟩, by simpa using a2, ?_, hrf⟩
    · rw [Array.length_toList, a1]; exact hown7
    · intro x hx
      have := (a2.mem_iff (a := x)).1 hx
      simp only [List.mem_append, List.mem_singleton] at this
      rcases this with h' | rfl
      · exact hf.out x h'
      · exact hfm.out
    · refine hk2.then_new (KeptOff.of_grown (swk_grown S7)) (fun k hk e => ?_)
      cases e
      rcases hrf gg rfl with e | e
      · exact .inr e
      · omega

end Go.Proofs.YtjlbkdghlijoeaaGreat
