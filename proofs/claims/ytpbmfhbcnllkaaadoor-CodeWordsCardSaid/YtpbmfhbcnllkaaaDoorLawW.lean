/-
  The law over an instruction's words: a name and as many numbers as it needs, no blank at either end.
-/
import Derived.Test.YtpbmfhbcnllkaaaDoorWordsP
namespace Go.Proofs.YtpbmfhbcnllkaaaDoor
open Go.ChangeShapes Go.WideShapes Go.ChangeAt Go.RowKit Go.Sort
set_option linter.unusedVariables false

/-- The blanks among the first k bytes. -/
def blanks (s : ByteArray) (k : Nat) : Nat := (s.data.toList.take k).count 32
theorem blanks_le (s : ByteArray) (k : Nat) : blanks s k ≤ k := by
  unfold blanks
  have := List.count_le_length (a := (32 : UInt8)) (l := s.data.toList.take k)
  have h2 : (s.data.toList.take k).length ≤ k := List.length_take_le _ _
  omega
theorem blanks_zero (s : ByteArray) : blanks s 0 = 0 := by simp [blanks]
theorem blanks_succ (s : ByteArray) (k : Nat) (h : k < s.size) : blanks s (k + 1) = blanks s k + if s[k] = 32 then 1 else 0 := by
  unfold blanks
  have : s.data.toList.take (k + 1) = s.data.toList.take k ++ [s[k]] := by
    rw [List.take_succ_eq_append_getElem (by simpa using h)]; rfl
  rw [this, List.count_append]
  by_cases e : s[k] = 32
  · rw [if_pos e, e]; simp
  · rw [if_neg e, List.count_eq_zero (l := [s[k]]) |>.2 (by simpa using fun h => e h.symm)]
theorem blanks_all (t : List UInt8) : blanks ⟨t.toArray⟩ t.length = t.count 32 := by
  unfold blanks
  simp
theorem byte_ne {c d : UInt8} (h : c ≠ d) : ((c.toNat : Int) == (d.toNat : Int)) = false := by
  simp only [beq_eq_false_iff_ne, ne_eq]
  intro e
  exact h (UInt8.toNat_inj.1 (by omega))

theorem heapM2 (w : World) (A : Obj) (k : Nat) (v : Value) (h : manyCells[k]? = some v) : ((w.alloc A).alloc (.cells manyCells 3)).cell? ⟨w.heap.size + 1, k, none⟩ = some v := by
  have hg : ((w.alloc A).alloc (.cells manyCells 3)).heap[w.heap.size + 1]? = some (.cells manyCells 3) := by
    have := heap_alloc2_new w A (.cells manyCells 3)
    simpa using this
  rw [cell_of_row _ (w.heap.size + 1) k manyCells 3 (0, 0) hg]
  exact h
set_option maxRecDepth 100000 in
set_option maxHeartbeats 1000000 in
theorem words_in (k : Nat) (hk17 : k < 17) (u : Nat) (h2 : manyCells[k]? = some (.int .i64 u)) (a b c : Int) (s : ByteArray) (hs0 : 0 < s.size) (hs1 : s.size ≤ 71) (hu : blanks s s.size = u)
    (hb0 : ((s[0].toNat : Int) == 32) = false) (hb1 : ((s[s.size - 1].toNat : Int) == 32) = false) (hn0 : ((s[0].toNat : Int) != 32) = true) (hn1 : ((s[s.size - 1].toNat : Int) != 32) = true) (hne : s.toList.isEmpty = false) (w : World)
    (hc : ∀ w', Read w w' → Calls Tryd.prog 19 #[.agg #[.int .i64 k, .int .i64 a, .int .i64 b, .int .i64 c]] w' fun e w'' => e = .returned (.string s) ∧ Read w' w'') :
    Calls Tryd.prog 10 #[.agg #[.int .i64 k, .int .i64 a, .int .i64 b, .int .i64 c]] w fun e w' => e = .returned (.bool true) ∧ Below w.heap.size w w' := by
  replace hu := Lib.hid hu
  go_enter Tryd.func10, Tryd.ntmps10
  go_upto_region 2 with (fail)
  have hat := (InsAt.mk w k a b c).read (Read.mk _ (.cells manyCells 3))
  have hrd : Read w ((w.alloc (.cells #[.int .i64 k, .int .i64 a, .int .i64 b, .int .i64 c] 40)).alloc (.cells manyCells 3)) := Read.two _ _ _
  have hM : ((w.alloc (.cells #[.int .i64 k, .int .i64 a, .int .i64 b, .int .i64 c] 40)).alloc (.cells manyCells 3)).cell? ⟨w.heap.size + 1, k, none⟩ = some (.int .i64 u) := heapM2 w _ k _ h2
  have hlt : w.heap.size + 1 < ((w.alloc (.cells #[.int .i64 k, .int .i64 a, .int .i64 b, .int .i64 c] 40)).alloc (.cells manyCells 3)).heap.size := by simp
  change Code.wp _ _ _ _ ((w.alloc (.cells #[.int .i64 k, .int .i64 a, .int .i64 b, .int .i64 c] 40)).alloc (.cells manyCells 3))
  generalize ((w.alloc (.cells #[.int .i64 k, .int .i64 a, .int .i64 b, .int .i64 c] 40)).alloc (.cells manyCells 3)) = W at *
  have hcW := hc W hrd
  clear hc
  obtain ⟨hltW, y0, y1, y2, y3⟩ := id hat
  simp only [Nat.zero_add] at y0 y1 y2 y3
  go_wp2_with (go_at_call 19; refine hcW.mono ?_; rintro e w1 ⟨rfl, hr1⟩)
  obtain ⟨-, z0, z1, z2, z3⟩ := hat.read hr1
  have hM1 := hr1.cell (a := ⟨_, _, _⟩) hlt hM
  simp only [Nat.zero_add] at z0 z1 z2 z3
  have hfin := hrd.trans hr1
  clear y0 y1 y2 y3 hM hat hcW hr1 hrd hlt hltW h2
  go_loop [5, 6] (fun n i => ∃ j : Nat, j ≤ s.size ∧ i = .int .i64 j ∧ n = .int .i64 (blanks s j)) (fun _ i => s.size - (intOf i).toNat)
  case atStart => exact ⟨0, Nat.zero_le _, rfl, by rw [blanks_zero]; rfl⟩
  case round =>
    obtain ⟨j, hj, rfl, rfl⟩ := hrel
    have hle := blanks_le s j
    by_cases hlt : j < s.size
    · have hsu := Lib.hid (blanks_succ s j hlt)
      by_cases e : s[j] = 32
      · have hb : Hid (blanks s (j + 1) = blanks s j + 1) := Lib.hid (by rw [hsu.out, if_pos e])
        have he : ((s[j].toNat : Int) == 32) = true := by rw [e]; rfl
        clear e hsu
        go_wp2
        go_round
        case rel => exact ⟨j + 1, by omega, by go_num, by rw [hb.out]; go_num⟩
        case measure => simp [intOf]; omega
      · have hb : Hid (blanks s (j + 1) = blanks s j) := Lib.hid (by rw [hsu.out, if_neg e]; rfl)
        have he : ((s[j].toNat : Int) == 32) = false := byte_ne (d := 32) e
        clear e hsu
        go_wp2
        go_round
        case rel => exact ⟨j + 1, by omega, by go_num, by rw [hb.out]⟩
        case measure => simp [intOf]; omega
    · obtain rfl : j = s.size := by omega
      rw [hu.out]
      clear hle
      go_wp2
      go_ret
      exact ⟨rfl, hfin.below⟩

set_option maxRecDepth 100000 in
set_option maxHeartbeats 1000000 in
theorem words_out (k : Int) (hk : k < 0 ∨ 17 ≤ k) (a b c : Int) (s : ByteArray) (hs0 : 0 < s.size) (hs1 : s.size ≤ 71) (hu : blanks s s.size = 3) (hq0 : ((s[0].toNat : Int) == 63) = true) (hq1 : ((s[0].toNat : Int) != 63) = false)
    (hb0 : ((s[0].toNat : Int) == 32) = false) (hb1 : ((s[s.size - 1].toNat : Int) == 32) = false) (hn0 : ((s[0].toNat : Int) != 32) = true) (hn1 : ((s[s.size - 1].toNat : Int) != 32) = true) (hne : s.toList.isEmpty = false) (w : World)
    (hc : ∀ w', Read w w' → Calls Tryd.prog 19 #[.agg #[.int .i64 k, .int .i64 a, .int .i64 b, .int .i64 c]] w' fun e w'' => e = .returned (.string s) ∧ Read w' w'') :
    Calls Tryd.prog 10 #[.agg #[.int .i64 k, .int .i64 a, .int .i64 b, .int .i64 c]] w fun e w' => e = .returned (.bool true) ∧ Below w.heap.size w w' := by
  replace hu := Lib.hid hu
  go_enter Tryd.func10, Tryd.ntmps10
  go_upto_region 2 with (fail)
  have hat := (InsAt.mk w k a b c).read (Read.mk _ (.cells manyCells 3))
  have hrd : Read w ((w.alloc (.cells #[.int .i64 k, .int .i64 a, .int .i64 b, .int .i64 c] 40)).alloc (.cells manyCells 3)) := Read.two _ _ _
  have hlt : w.heap.size + 1 < ((w.alloc (.cells #[.int .i64 k, .int .i64 a, .int .i64 b, .int .i64 c] 40)).alloc (.cells manyCells 3)).heap.size := by simp
  change Code.wp _ _ _ _ ((w.alloc (.cells #[.int .i64 k, .int .i64 a, .int .i64 b, .int .i64 c] 40)).alloc (.cells manyCells 3))
  generalize ((w.alloc (.cells #[.int .i64 k, .int .i64 a, .int .i64 b, .int .i64 c] 40)).alloc (.cells manyCells 3)) = W at *
  have hcW := hc W hrd
  clear hc
  obtain ⟨hltW, y0, y1, y2, y3⟩ := id hat
  simp only [Nat.zero_add] at y0 y1 y2 y3
  go_wp2_with (go_at_call 19; refine hcW.mono ?_; rintro e w1 ⟨rfl, hr1⟩)
  obtain ⟨-, z0, z1, z2, z3⟩ := hat.read hr1
  simp only [Nat.zero_add] at z0 z1 z2 z3
  have hfin := hrd.trans hr1
  clear y0 y1 y2 y3 hat hcW hr1 hrd hlt hltW
  go_loop [5, 6] (fun n i => ∃ j : Nat, j ≤ s.size ∧ i = .int .i64 j ∧ n = .int .i64 (blanks s j)) (fun _ i => s.size - (intOf i).toNat)
  case atStart => exact ⟨0, Nat.zero_le _, rfl, by rw [blanks_zero]; rfl⟩
  case round =>
    obtain ⟨j, hj, rfl, rfl⟩ := hrel
    have hle := blanks_le s j
    by_cases hlt : j < s.size
    · have hsu := Lib.hid (blanks_succ s j hlt)
      by_cases e : s[j] = 32
      · have hb : Hid (blanks s (j + 1) = blanks s j + 1) := Lib.hid (by rw [hsu.out, if_pos e])
        have he : ((s[j].toNat : Int) == 32) = true := by rw [e]; rfl
        clear e hsu
        go_wp2
        go_round
        case rel => exact ⟨j + 1, by omega, by go_num, by rw [hb.out]; go_num⟩
        case measure => simp [intOf]; omega
      · have hb : Hid (blanks s (j + 1) = blanks s j) := Lib.hid (by rw [hsu.out, if_neg e]; rfl)
        have he : ((s[j].toNat : Int) == 32) = false := byte_ne (d := 32) e
        clear e hsu
        go_wp2
        go_round
        case rel => exact ⟨j + 1, by omega, by go_num, by rw [hb.out]⟩
        case measure => simp [intOf]; omega
    · obtain rfl : j = s.size := by omega
      rw [hu.out]
      clear hle
      rcases hk with hk | hk
      rotate_left
      have hk0 : 0 ≤ k := by omega
      all_goals
        go_wp2
        go_ret
        exact ⟨rfl, hfin.below⟩

theorem loop_len (bs : ByteArray) : ∀ (n i : Nat) (r : List UInt8), bs.size - i = n → (ByteArray.toList.loop bs i r).length = r.length + n := by
  intro n
  induction n with
  | zero =>
    intro i r h
    unfold ByteArray.toList.loop
    rw [if_neg (by omega)]
    simp
  | succ n ih =>
    intro i r h
    unfold ByteArray.toList.loop
    rw [if_pos (by omega), ih _ _ (by omega)]
    simp
    omega
theorem toList_some {s : ByteArray} (h : 0 < s.size) : s.toList.isEmpty = false := by
  have : s.toList.length = s.size := by
    have := loop_len s s.size 0 [] (by omega)
    simpa [ByteArray.toList] using this
  cases hs : s.toList with
  | nil => rw [hs] at this; simp at this; omega
  | cons a l => rfl
theorem text_at (t : List UInt8) (h : t ≠ []) (hl : t.length ≤ 71) (c d : UInt8) (hc : t.head? = some c) (hd : t.getLast? = some d) (hc2 : c ≠ 32) (hd2 : d ≠ 32) :
    ∃ s : ByteArray, s = ⟨t.toArray⟩ ∧ s.size = t.length ∧ ∃ h0 : 0 < s.size, s.size ≤ 71 ∧ s[0] = c ∧ s[s.size - 1] = d := by
  have h0 : 0 < t.length := List.length_pos_iff.2 h
  refine ⟨⟨t.toArray⟩, rfl, by simp [ByteArray.size], by simpa [ByteArray.size] using h0, by simpa [ByteArray.size] using hl, ?_, ?_⟩
  · have : t[0]? = some c := by rw [← List.head?_eq_getElem?]; exact hc
    rw [List.getElem?_eq_getElem h0] at this
    show t.toArray[0] = c
    simpa using this
  · have : t[t.length - 1]? = some d := by rw [← List.getLast?_eq_getElem?]; exact hd
    rw [List.getElem?_eq_getElem (by omega)] at this
    have e : (⟨t.toArray⟩ : ByteArray).size = t.length := by simp [ByteArray.size]
    simp only [e]
    show t.toArray[t.length - 1]'(by simp; omega) = d
    simpa using this
theorem ne_of {c d : UInt8} (h : c ≠ d) : ((c.toNat : Int) != (d.toNat : Int)) = true := by
  have := byte_ne h
  simp only [bne, this, Bool.not_false]
theorem lawCodeWords {w : World} (hT : Tab w) (x : I) (f : x.fits) :
    Calls Tryd.prog 10 #[x.val] w fun e w' => e = .returned (.bool true) ∧ Below w.heap.size w w' := by
  have h1 := fun w' (hr : Read w w') => cText_any x f.all w' (hT.read hr)
  have hl := text_len x f.all
  have hcount := text_count x
  have hne := text_ne x
  obtain ⟨c, hc, hc2, hc3⟩ := text_head x
  obtain ⟨d, hd, hd2⟩ := text_last x
  clear f hT
  obtain ⟨op, a, b, c'⟩ := x
  simp only [I.val] at h1 hc3 hcount ⊢
  generalize textI ⟨op, a, b, c'⟩ = t at *
  obtain ⟨s, hs, hsz, h0, h71, s0, s1⟩ := text_at t hne hl c d hc hd hc2 hd2
  rw [← hs] at h1
  have hbl : blanks s s.size = usedOf op := by rw [hsz, hs, blanks_all, hcount]
  by_cases h : op < 0 ∨ 17 ≤ op
  · have e2 : usedOf op = 3 := by unfold usedOf; repeat (rw [if_neg (by omega)])
    have ec := hc3 h
    subst ec
    exact words_out op h a b c' s h0 h71 (by rw [hbl, e2]) (by rw [s0]; rfl) (by rw [s0]; rfl) (by rw [s0]; exact byte_ne hc2) (by rw [s1]; exact byte_ne hd2) (by rw [s0]; exact ne_of hc2) (by rw [s1]; exact ne_of hd2) (toList_some h0) w h1
  · obtain ⟨k, rfl⟩ : ∃ k : Nat, op = k := ⟨op.toNat, by omega⟩
    exact words_in k (by omega) (usedOf k) (lists_at k (by omega)).2 a b c' s h0 h71 hbl (by rw [s0]; exact byte_ne hc2) (by rw [s1]; exact byte_ne hd2) (by rw [s0]; exact ne_of hc2) (by rw [s1]; exact ne_of hd2) (toList_some h0) w h1

end Go.Proofs.YtpbmfhbcnllkaaaDoor
