
/-
  The contract of the program's check of a world.
-/
import Derived.Test.YtofkfajcibdneaaDoorVmD2
import Derived.Test.YtofkfajcibdneaaDoorCode7
namespace Go.Proofs.YtofkfajcibdneaaDoor
open Go.ChangeShapes Go.WideShapes Go.ChangeAt Go.RowKit Go.Sort
set_option linter.unusedVariables false
set_option maxRecDepth 4000

def procB (z : Int) : Bool := decide (0 ≤ z ∧ z < 16)
def countB (z : Int) : Bool := decide (0 ≤ z ∧ z ≤ 1125899906842624)
theorem isProcess_any (z : Int) (w : World) : Calls Tryd.prog 28 #[.int .i64 z] w fun e w' => e = .returned (.bool (procB z)) ∧ w = w' := by
  have hz : Hid (procB z = decide (0 ≤ z ∧ z < 16)) := rfl
  generalize procB z = r at hz ⊢
  by_cases h : 0 ≤ z <;> by_cases h' : z < 16
  all_goals
    go_enter Tryd.func28, Tryd.ntmps28
    go_wp2
    go_ret
    exact ⟨ret_bool (by rw [hz.out]; simp; try omega), rfl⟩
theorem isWrong_any (l : Lk) (w : World) : Calls Tryd.prog 30 #[l.val] w fun e w' => e = .returned (.bool (!l.mayB)) ∧ Read w w' := by
  obtain ⟨src, dst, look, loose⟩ := l
  have hcon := fun w => isProcess_any dst w
  have hz : Hid (Lk.mayB ⟨src, dst, look, loose⟩ = decide (0 ≤ dst ∧ dst < 16 ∧ 1 ≤ look ∧ look ≤ 4611686018427387903)) := rfl
  generalize Lk.mayB ⟨src, dst, look, loose⟩ = z at hz ⊢
  simp only [Lk.val]
  by_cases a1 : 0 ≤ dst ∧ dst < 16
  · have hd : procB dst = true := by simpa [procB] using a1
    rw [hd] at hcon
    have a1' := Lib.hid a1
    clear a1 hd
    by_cases a3 : look < 1
    · have a3' := Lib.hid a3
      have e : z = false := by rw [hz.out]; have := a3'.out; simp; omega
      subst e
      go_enter Tryd.func30, Tryd.ntmps30
      go_wp2_with (go_at_call 28; refine (hcon _).mono ?_; rintro e w' ⟨rfl, rfl⟩)
      go_ret
      exact ⟨rfl, Read.mk _ _⟩
    · by_cases a4 : 4611686018427387903 < look
      · have a3' := Lib.hid a3
        have a4' := Lib.hid a4
        have e : z = false := by rw [hz.out]; have := a4'.out; simp; omega
        subst e
        go_enter Tryd.func30, Tryd.ntmps30
        go_wp2_with (go_at_call 28; refine (hcon _).mono ?_; rintro e w' ⟨rfl, rfl⟩)
        go_ret
        exact ⟨rfl, Read.mk _ _⟩
      · have a3' := Lib.hid a3
        have a4' := Lib.hid a4
        have e : z = true := by rw [hz.out]; have := a4'.out; have := a3'.out; have := a1'.out; simp; omega
        subst e
        go_enter Tryd.func30, Tryd.ntmps30
        go_wp2_with (go_at_call 28; refine (hcon _).mono ?_; rintro e w' ⟨rfl, rfl⟩)
        go_ret
        exact ⟨ret_bool (by have := a4'.out; have := a3'.out; simp; omega), Read.mk _ _⟩
  · have hd : procB dst = false := by simpa [procB] using a1
    rw [hd] at hcon
    have e : z = false := by rw [hz.out]; simp; omega
    subst e
    clear a1 hd
    go_enter Tryd.func30, Tryd.ntmps30
    go_wp2_with (go_at_call 28; refine (hcon _).mono ?_; rintro e w' ⟨rfl, rfl⟩)
    go_ret
    exact ⟨rfl, Read.mk _ _⟩
/-- The first link that may not be, or -1. -/
def badAt (ls : List Lk) (n : Nat) (z : Int) : Prop := (z = -1 ∧ LkUpto ls n) ∨ ∃ k : Nat, k < n ∧ z = (k : Int) ∧ (ls.getD k default).mayB = false
set_option maxHeartbeats 2000000 in
theorem indexLink_any {w : World} {a : Option Addr} {len cap : Nat} {ls : List Lk} (h : Lks w a len cap ls) :
    Calls Tryd.prog 34 #[.slice a len cap, .func (.func 30) #[] #[]] w fun e w' => ∃ z, e = .returned (.int .i64 z) ∧ Aside (badAt ls len z ∧ Read w w') := by
  have hmx : len ≤ 9223372036854775807 := by have := h.2.1; have := h.2.2.1; unfold maxLen at *; omega
  have hL := Lib.hid h
  clear h
  go_enter Tryd.func34, Tryd.ntmps34
  go_wp2_with fail
  go_loopw [8] (fun i wr => ∃ k : Nat, k ≤ len ∧ i = .int .i64 k ∧ Aside (Read w wr ∧ LkUpto ls k)) (fun i _ => len - (intOf i).toNat)
  case atStart => exact ⟨0, Nat.zero_le _, rfl, Read.refl _, fun j hj => by omega⟩
  case round =>
    obtain ⟨k, hk, rfl, hrk, hup⟩ := hrel
    by_cases hlt : k < len
    · obtain ⟨b, off, rfl, hm⟩ : ∃ b off, a = some ⟨b, off, none⟩ ∧ ∀ j, j < len → LkAt w b (off + j * 4) (ls.getD j default) := by
        rcases hL.out.2.2.2 with h0 | h1
        · omega
        · exact h1
      have hx := (hm k hlt).below hrk.below
      clear hm
      have hcon := fun w => isWrong_any (ls.getD k default) w
      have hrk' := Lib.hid hrk
      have hup' := Lib.hid hup
      clear hrk hup
      cases hb : (ls.getD k default).mayB with
      | false =>
        rw [hb] at hcon
        have hb' := Lib.hid hb
        clear hb
        generalize hl : ls.getD k default = l at hx hcon
        have hl' := Lib.hid hl
        clear hl
        obtain ⟨src, dst, look, loose⟩ := l
        obtain ⟨-, x0, x1, x2, x3⟩ := hx
        simp only [Lk.val, Bool.not_false] at hcon x0 x1 x2 x3
        go_wp2_with (go_at_call 30; refine (hcon _).mono ?_; rintro e w' ⟨rfl, hr2⟩)
        go_ret
        exact ⟨_, rfl, .inr ⟨k, hlt, rfl, hb'.out⟩, hrk'.out.trans hr2⟩
      | true =>
        rw [hb] at hcon
        have hu2 : Hid (LkUpto ls (k + 1)) := Lib.hid (fun j hj => by
          by_cases e : j = k
          · subst e; exact hb
          · exact hup'.out j (by omega))
        clear hb
        generalize hl : ls.getD k default = l at hx hcon
        have hl' := Lib.hid hl
        clear hl
        obtain ⟨src, dst, look, loose⟩ := l
        obtain ⟨-, x0, x1, x2, x3⟩ := hx
        simp only [Lk.val, Bool.not_true] at hcon x0 x1 x2 x3
        go_wp2_with (go_at_call 30; refine (hcon _).mono ?_; rintro e w' ⟨rfl, hr2⟩)
        go_roundw
        case rel => exact ⟨k + 1, by omega, by go_num, hrk'.out.trans hr2, hu2.out⟩
        case measure => simp [intOf]; omega
    · obtain rfl : k = len := by omega
      have hrk' := Lib.hid hrk
      have hup' := Lib.hid hup
      clear hrk hup
      go_wp2
      go_ret
      exact ⟨_, rfl, .inl ⟨rfl, hup'.out⟩, hrk'.out⟩
theorem badAt_no {ls : List Lk} {n : Nat} {z : Int} (h : badAt ls n z) (h0 : 0 ≤ z) : ∃ k : Nat, k < n ∧ (ls.getD k default).mayB = false := by
  rcases h with ⟨rfl, _⟩ | ⟨k, hk, _, hb⟩
  · omega
  · exact ⟨k, hk, hb⟩
theorem badAt_yes {ls : List Lk} {n : Nat} {z : Int} (h : badAt ls n z) (h0 : ¬ 0 ≤ z) : LkUpto ls n := by
  rcases h with ⟨_, hu⟩ | ⟨k, _, rfl, _⟩
  · exact hu
  · omega
/-- Whether a link may not be. -/
def badB (W : Wd) : Bool := !(W.links.all Lk.mayB)
theorem badB_true {W : Wd} {k : Nat} (hk : k < W.links.length) (hb : (W.links.getD k default).mayB = false) : badB W = true := by
  have : W.links.all Lk.mayB = false := by
    rw [List.all_eq_false]
    refine ⟨W.links.getD k default, ?_, by rw [hb]; decide⟩
    simp only [List.getD_eq_getElem?_getD, List.getElem?_eq_getElem hk, Option.getD_some]
    exact List.getElem_mem hk
  simp [badB, this]
theorem badB_false {W : Wd} (h : LkUpto W.links W.links.length) : badB W = false := by
  have : W.links.all Lk.mayB = true := by
    rw [List.all_eq_true]
    intro i hi
    obtain ⟨k, hk, rfl⟩ := List.getElem_of_mem hi
    have := h k hk
    simpa [List.getD_eq_getElem?_getD, List.getElem?_eq_getElem hk] using this
  simp [badB, this]
theorem containsLink_any {w : World} {a : Option Addr} {len cap : Nat} {W : Wd} (h : Lks w a len cap W.links) :
    Calls Tryd.prog 29 #[.slice a len cap, .func (.func 30) #[] #[]] w fun e w' => e = .returned (.bool (badB W)) ∧ Read w w' := by
  have hcon := indexLink_any h
  have hlen := Lib.hid h.1
  clear h
  go_enter Tryd.func29, Tryd.ntmps29
  go_wp2_with fail
  refine hcon.mono ?_
  rintro e w1 ⟨z, rfl, hb, hr⟩
  clear hcon
  by_cases h0 : 0 ≤ z
  · have e : badB W = true := by
      obtain ⟨k, hk, hbk⟩ := badAt_no hb h0
      exact badB_true (by rw [hlen.out]; exact hk) hbk
    have e' := Lib.hid e
    clear hb e
    have h0' := Lib.hid h0
    go_wp2
    go_ret
    exact ⟨ret_bool (by first | (rw [e'.out]; done) | (rw [e'.out]; have := h0'.out; simp; done) | (rw [e'.out]; have := h0'.out; simp; omega)), hr⟩
  · have e : badB W = false := badB_false (by rw [hlen.out]; exact badAt_yes hb h0)
    have e' := Lib.hid e
    clear hb e
    have h0' := Lib.hid h0
    go_wp2
    go_ret
    exact ⟨ret_bool (by first | (rw [e'.out]; done) | (rw [e'.out]; have := h0'.out; simp; done) | (rw [e'.out]; have := h0'.out; simp; omega)), hr⟩
theorem checkW_bad' {W : Wd} (h : checkN W.prog = 0) (hb : badB W = true) : checkW W = 1 := by
  unfold checkW
  rw [if_neg (by simp [h])]
  by_cases h' : ¬ (0 ≤ W.self ∧ W.self < 16) ∨ 1024 < W.links.length
  · rw [if_pos h']
  · rw [if_neg h', if_neg (by simpa [badB] using hb)]
theorem checkW_ok' {W : Wd} (h : checkN W.prog = 0) (h' : 0 ≤ W.self ∧ W.self < 16) (h2 : W.links.length ≤ 1024) (hb : badB W = false) : checkW W = 0 := by
  unfold checkW
  rw [if_neg (by simp [h]), if_neg (by omega), if_pos (by simpa [badB] using hb)]
set_option maxHeartbeats 2000000 in
theorem vmCheck_any {w : World} {v : Wv} {W : Wd} {eb : Addr} (h : Wds w v W) (hE : ErrIs w eb) :
    Calls Tryd.prog 16 #[v.val W] w fun e w' => e = .returned (.int .i64 (checkW W)) ∧ Read w w' := by
  obtain ⟨prog, self, links, seed⟩ := W
  obtain ⟨pa, pl, pc, la, ll, lc⟩ := v
  simp only [Wv.val]
  obtain ⟨hI, hL, -, -⟩ := h
  simp only at hI hL
  have hcall := fun (o : Obj) => cCheck_any (hI.below ((Below.refl _ w).alloc (Nat.le_refl _) o)) (hE.below ((Below.refl _ w).alloc (Nat.le_refl _) o))
  have hlen := hL.1
  have hmx : ll ≤ 9223372036854775807 := by have := hL.2.1; have := hL.2.2.1; unfold maxLen at *; omega
  have hsl := fun w => isProcess_any self w
  by_cases hp : checkN prog = 0
  · rw [hp] at hcall
    have hL' := Lib.hid hL
    clear hL hI hE
    by_cases s0 : 0 ≤ self ∧ self < 16
    · rw [show procB self = true by simpa [procB] using s0] at hsl
      by_cases s2 : ll ≤ 1024
      · have s2' : ¬ (1024 : Int) < (ll : Int) := by omega
        have hz : Hid ((badB ⟨prog, self, links, seed⟩ = true → checkW ⟨prog, self, links, seed⟩ = 1) ∧ (badB ⟨prog, self, links, seed⟩ = false → checkW ⟨prog, self, links, seed⟩ = 0)) :=
          ⟨fun hb => checkW_bad' hp hb, fun hb => checkW_ok' hp s0 (by simpa only [hlen] using s2) hb⟩
        have hc2 := fun (w2 : World) (hb2 : Below w.heap.size w w2) => containsLink_any (w := w2) (W := ⟨prog, self, links, seed⟩) (hL'.out.below hb2)
        generalize checkW ⟨prog, self, links, seed⟩ = z at hz ⊢
        clear hp hlen s0
        cases hbad : badB ⟨prog, self, links, seed⟩ with
        | true =>
          rw [hbad] at hc2 hz
          obtain rfl : z = 1 := hz.out.1 rfl
          clear hbad hz
          go_enter Tryd.func16, Tryd.ntmps16
          go_wp2_with fail
          refine (hcall _).mono ?_
          rintro e w1 ⟨rfl, hr1⟩
          have c1 : w1.cell? ⟨w.heap.size, 1, none⟩ = some (.int .i64 self) := hr1.new 1 rfl
          have c2 : w1.cell? ⟨w.heap.size, 2, none⟩ = some (.slice la ll lc) := hr1.new 2 rfl
          have hra := Lib.hid (Read.alloc _ hr1)
          have hcon := hc2 w1 (Read.alloc _ hr1).below
          clear hcall hc2 hr1
          go_wp2_with (first | (go_at_call 28; refine (hsl _).mono ?_; rintro e w' ⟨rfl, rfl⟩) | (go_at_call 29; refine hcon.mono ?_; rintro e w2 ⟨rfl, hr2⟩))
          go_ret
          exact ⟨rfl, hra.out.trans hr2⟩
        | false =>
          rw [hbad] at hc2 hz
          obtain rfl : z = 0 := hz.out.2 rfl
          clear hbad hz
          go_enter Tryd.func16, Tryd.ntmps16
          go_wp2_with fail
          refine (hcall _).mono ?_
          rintro e w1 ⟨rfl, hr1⟩
          have c1 : w1.cell? ⟨w.heap.size, 1, none⟩ = some (.int .i64 self) := hr1.new 1 rfl
          have c2 : w1.cell? ⟨w.heap.size, 2, none⟩ = some (.slice la ll lc) := hr1.new 2 rfl
          have hra := Lib.hid (Read.alloc _ hr1)
          have hcon := hc2 w1 (Read.alloc _ hr1).below
          clear hcall hc2 hr1
          go_wp2_with (first | (go_at_call 28; refine (hsl _).mono ?_; rintro e w' ⟨rfl, rfl⟩) | (go_at_call 29; refine hcon.mono ?_; rintro e w2 ⟨rfl, hr2⟩))
          go_ret
          exact ⟨rfl, hra.out.trans hr2⟩
      · have s2' : (1024 : Int) < (ll : Int) := by omega
        have hz : checkW ⟨prog, self, links, seed⟩ = 1 := checkW_lane hp (.inr (by simp only; omega))
        rw [hz]
        clear hz hp hlen s2 s0
        go_enter Tryd.func16, Tryd.ntmps16
        go_wp2_with fail
        refine (hcall _).mono ?_
        rintro e w1 ⟨rfl, hr1⟩
        have c1 : w1.cell? ⟨w.heap.size, 1, none⟩ = some (.int .i64 self) := hr1.new 1 rfl
        have c2 : w1.cell? ⟨w.heap.size, 2, none⟩ = some (.slice la ll lc) := hr1.new 2 rfl
        clear hcall
        go_wp2_with (go_at_call 28; refine (hsl _).mono ?_; rintro e w' ⟨rfl, rfl⟩)
        go_ret
        exact ⟨rfl, Read.alloc _ hr1⟩
    · rw [show procB self = false by simpa [procB] using s0] at hsl
      have hz : checkW ⟨prog, self, links, seed⟩ = 1 := checkW_lane hp (.inl s0)
      rw [hz]
      clear hz hp hlen s0
      go_enter Tryd.func16, Tryd.ntmps16
      go_wp2_with fail
      refine (hcall _).mono ?_
      rintro e w1 ⟨rfl, hr1⟩
      have c1 : w1.cell? ⟨w.heap.size, 1, none⟩ = some (.int .i64 self) := hr1.new 1 rfl
      have c2 : w1.cell? ⟨w.heap.size, 2, none⟩ = some (.slice la ll lc) := hr1.new 2 rfl
      clear hcall
      go_wp2_with (go_at_call 28; refine (hsl _).mono ?_; rintro e w' ⟨rfl, rfl⟩)
      go_ret
      exact ⟨rfl, Read.alloc _ hr1⟩
  · rw [checkW_prog hp]
    simp only
    have hp' : (checkN prog == 0) = false := by simpa using hp
    generalize checkN prog = z at hp' hcall
    clear hp hlen hL hI hE
    go_enter Tryd.func16, Tryd.ntmps16
    go_wp2_with fail
    refine (hcall _).mono ?_
    rintro e w1 ⟨rfl, hr1⟩
    clear hcall
    go_wp2
    go_ret
    exact ⟨rfl, Read.alloc _ hr1⟩
end Go.Proofs.YtofkfajcibdneaaDoor
