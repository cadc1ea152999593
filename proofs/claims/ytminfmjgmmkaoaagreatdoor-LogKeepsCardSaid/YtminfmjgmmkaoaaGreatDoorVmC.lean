/-
  The document's small functions of package vm: what an instruction makes of two numbers, and which states may be.
  Links that can be read, worlds that can be read, and the contract of the document's own Check of a world.
  The contract of the program's check of a world.
-/
import Derived.Test.YtminfmjgmmkaoaaGreatDoorVmP
import Derived.Test.YtminfmjgmmkaoaaGreatDoorDraw3
import Derived.Test.YtminfmjgmmkaoaaGreatDoorCode7
namespace Go.Proofs.YtminfmjgmmkaoaaGreatDoor
open Go.ChangeShapes Go.WideShapes Go.ChangeAt Go.RowKit Go.Sort
set_option linter.unusedVariables false
set_option maxRecDepth 4000

/-- The instructions that make a number of two. -/
def twoB (op : Int) : Bool := decide (op = 3 ∨ op = 4 ∨ op = 5 ∨ op = 6 ∨ op = 7 ∨ op = 8 ∨ op = 9)
end Go.Proofs.YtminfmjgmmkaoaaGreatDoor
namespace Go.Proofs.YtminfmjgmmkaoaaGreatDoor
open Go.ChangeShapes Go.WideShapes Go.ChangeAt Go.RowKit Go.Sort
set_option linter.unusedVariables false
set_option maxRecDepth 4000

/-- Where a link lies. -/
def LkAt (w : World) (b o : Nat) (l : Lk) : Prop :=
  b < w.heap.size ∧ w.cell? ⟨b, o, none⟩ = some (.int .i64 l.src) ∧ w.cell? ⟨b, o + 1, none⟩ = some (.int .i64 l.dst) ∧ w.cell? ⟨b, o + 2, none⟩ = some (.int .i64 l.look) ∧ w.cell? ⟨b, o + 3, none⟩ = some (.bool l.loose)
theorem LkAt.below {w w' : World} {b o : Nat} {i : Lk} (h : LkAt w b o i) (hb : Below w.heap.size w w') : LkAt w' b o i := by
  obtain ⟨hlt, h0, h1, h2, h3⟩ := h
  have hc : ∀ {c : Nat} {v : Value}, w.cell? ⟨b, c, none⟩ = some v → w'.cell? ⟨b, c, none⟩ = some v := fun h => by rw [hb.cell hlt]; exact h
  exact ⟨Nat.lt_of_lt_of_le hlt hb.size, hc h0, hc h1, hc h2, hc h3⟩
/-- A slice value reads as the links ls. -/
def Lks (w : World) (a : Option Addr) (len cap : Nat) (ls : List Lk) : Prop :=
  ls.length = len ∧ len ≤ cap ∧ cap ≤ maxLen ∧ (len = 0 ∨ ∃ b off, a = some ⟨b, off, none⟩ ∧ ∀ k, k < len → LkAt w b (off + k * 4) (ls.getD k default))
theorem Lks.below {w w' : World} {a : Option Addr} {len cap : Nat} {is : List Lk} (h : Lks w a len cap is) (hb : Below w.heap.size w w') : Lks w' a len cap is := by
  obtain ⟨h1, h2, h3, h4⟩ := h
  refine ⟨h1, h2, h3, h4.imp id ?_⟩
  rintro ⟨b, off, ha, hm⟩
  exact ⟨b, off, ha, fun i hi => (hm i hi).below hb⟩
/-- A world's four parts, as they lie. -/
structure Wv where
  pa : Option Addr
  pl : Nat
  pc : Nat
  la : Option Addr
  ll : Nat
  lc : Nat
  deriving Inhabited
def Wv.val (v : Wv) (W : Wd) : Value := .agg #[.slice v.pa v.pl v.pc, .int .i64 W.self, .slice v.la v.ll v.lc, .int .u64 W.seed]
def Wds (w : World) (v : Wv) (W : Wd) : Prop := Inss w v.pa v.pl v.pc W.prog ∧ Lks w v.la v.ll v.lc W.links ∧ W.seed < 18446744073709551616 ∧ (Lit.int .i64 W.self).wf = true
theorem Wds.below {w w' : World} {v : Wv} {W : Wd} (h : Wds w v W) (hb : Below w.heap.size w w') : Wds w' v W := ⟨h.1.below hb, h.2.1.below hb, h.2.2⟩
theorem checkW_prog {W : Wd} (h : ¬ checkN W.prog = 0) : checkW W = checkN W.prog := by simp [checkW, h]
theorem checkW_lane {W : Wd} (h : checkN W.prog = 0) (h' : ¬ (0 ≤ W.self ∧ W.self < 16) ∨ 1024 < W.links.length) : checkW W = 1 := by
  unfold checkW; rw [if_neg (by simp [h]), if_pos h']
def LkUpto (ls : List Lk) (k : Nat) : Prop := ∀ j, j < k → (ls.getD j default).mayB = true
/-- What a new block holds is still there behind a function that only reads. -/
theorem Read.new {w w1 : World} {C : Array Value} {T : TypeId} (hr : Read (w.alloc (.cells C T)) w1) (k : Nat) {v : Value} (h : C[k]? = some v) : w1.cell? ⟨w.heap.size, k, none⟩ = some v :=
  hr.cell (by simp) (by rw [World.cell?_alloc_new]; exact h)
theorem Lk.mayB_eq (l : Lk) : l.mayB = decide (0 ≤ l.dst ∧ l.dst < 16 ∧ 1 ≤ l.look ∧ l.look ≤ 4611686018427387903) := rfl
end Go.Proofs.YtminfmjgmmkaoaaGreatDoor
namespace Go.Proofs.YtminfmjgmmkaoaaGreatDoor
open Go.ChangeShapes Go.WideShapes Go.ChangeAt Go.RowKit Go.Sort
set_option linter.unusedVariables false
set_option maxRecDepth 4000

def procB (z : Int) : Bool := decide (0 ≤ z ∧ z < 16)
def countB (z : Int) : Bool := decide (0 ≤ z ∧ z ≤ 1125899906842624)
theorem isProcess_any (z : Int) (w : World) : Calls Tryz.prog 27 #[.int .i64 z] w fun e w' => e = .returned (.bool (procB z)) ∧ w = w' := by
  have hz : Hid (procB z = decide (0 ≤ z ∧ z < 16)) := rfl
  generalize procB z = r at hz ⊢
  by_cases h : 0 ≤ z <;> by_cases h' : z < 16
  all_goals
    go_enter Tryz.func27, Tryz.ntmps27
    go_wp2
    go_ret
    exact ⟨ret_bool (by rw [hz.out]; simp; try omega), rfl⟩
theorem isCount_any (z : Int) (w : World) : Calls Tryz.prog 64 #[.int .i64 z] w fun e w' => e = .returned (.bool (countB z)) ∧ w = w' := by
  have hz : Hid (countB z = decide (0 ≤ z ∧ z ≤ 1125899906842624)) := rfl
  generalize countB z = r at hz ⊢
  by_cases h : 0 ≤ z <;> by_cases h' : z ≤ 1125899906842624
  all_goals
    go_enter Tryz.func64, Tryz.ntmps64
    go_wp2
    go_ret
    exact ⟨ret_bool (by rw [hz.out]; simp; try omega), rfl⟩
theorem isWrong_any (l : Lk) (w : World) : Calls Tryz.prog 29 #[l.val] w fun e w' => e = .returned (.bool (!l.mayB)) ∧ Read w w' := by
  obtain ⟨src, dst, look, loose⟩ := l
  have hcon := fun w => isProcess_any dst w
  have hz : Hid (Lk.mayB ⟨src, dst, look, loose⟩ = decide (0 ≤ dst ∧ dst < 16 ∧ 1 ≤ look ∧ look ≤ 4611686018427387903)) := rfl
  generalize Lk.mayB ⟨src, dst, look, loose⟩ = z at hz ⊢
  simp only [Lk.val]
  by_cases a1 : 0 ≤ dst ∧ dst < 16
  · have hd : procB dst = true := by simpa [procB] using a1
    rw [hd] at hcon
    have a1' := Lib.hid a1
    clear a1 hd
    by_cases a3 : look < 1
    · have a3' := Lib.hid a3
      have e : z = false := by rw [hz.out]; have := a3'.out; simp; omega
      subst e
      go_enter Tryz.func29, Tryz.ntmps29
      go_wp2_with (go_at_call 27; refine (hcon _).mono ?_; rintro e w' ⟨rfl, rfl⟩)
      go_ret
      exact ⟨rfl, Read.mk _ _⟩
    · by_cases a4 : 4611686018427387903 < look
      · have a3' := Lib.hid a3
        have a4' := Lib.hid a4
        have e : z = false := by rw [hz.out]; have := a4'.out; simp; omega
        subst e
        go_enter Tryz.func29, Tryz.ntmps29
        go_wp2_with (go_at_call 27; refine (hcon _).mono ?_; rintro e w' ⟨rfl, rfl⟩)
        go_ret
        exact ⟨rfl, Read.mk _ _⟩
      · have a3' := Lib.hid a3
        have a4' := Lib.hid a4
        have e : z = true := by rw [hz.out]; have := a4'.out; have := a3'.out; have := a1'.out; simp; omega
        subst e
        go_enter Tryz.func29, Tryz.ntmps29
        go_wp2_with (go_at_call 27; refine (hcon _).mono ?_; rintro e w' ⟨rfl, rfl⟩)
        go_ret
        exact ⟨ret_bool (by have := a4'.out; have := a3'.out; simp; omega), Read.mk _ _⟩
  · have hd : procB dst = false := by simpa [procB] using a1
    rw [hd] at hcon
    have e : z = false := by rw [hz.out]; simp; omega
    subst e
    clear a1 hd
    go_enter Tryz.func29, Tryz.ntmps29
    go_wp2_with (go_at_call 27; refine (hcon _).mono ?_; rintro e w' ⟨rfl, rfl⟩)
    go_ret
    exact ⟨rfl, Read.mk _ _⟩
/-- The first link that may not be, or -1. -/
def badAt (ls : List Lk) (n : Nat) (z : Int) : Prop := (z = -1 ∧ LkUpto ls n) ∨ ∃ k : Nat, k < n ∧ z = (k : Int) ∧ (ls.getD k default).mayB = false
set_option maxHeartbeats 2000000 in
theorem indexLink_any {w : World} {a : Option Addr} {len cap : Nat} {ls : List Lk} (h : Lks w a len cap ls) :
    Calls Tryz.prog 41 #[.slice a len cap, .func (.func 29) #[] #[]] w fun e w' => ∃ z, e = .returned (.int .i64 z) ∧ Aside (badAt ls len z ∧ Read w w') := by
  have hmx : len ≤ 9223372036854775807 := by have := h.2.1; have := h.2.2.1; unfold maxLen at *; omega
  have hL := Lib.hid h
  clear h
  go_enter Tryz.func41, Tryz.ntmps41
  go_wp2_with fail
  go_loopw [8] (fun i wr => ∃ k : Nat, k ≤ len ∧ i = .int .i64 k ∧ Aside (Read w wr ∧ LkUpto ls k)) (fun i _ => len - (intOf i).toNat)
  case atStart => exact ⟨0, Nat.zero_le _, rfl, Read.refl _, fun j hj => by omega⟩
  case round =>
    obtain ⟨k, hk, rfl, hrk, hup⟩ := hrel
    by_cases hlt : k < len
    · obtain ⟨b, off, rfl, hm⟩ : ∃ b off, a = some ⟨b, off, none⟩ ∧ ∀ j, j < len → LkAt w b (off + j * 4) (ls.getD j default) := by
        rcases hL.out.2.2.2 with h0 | h1
        · omega
        · exact h1
      have hx := (hm k hlt).below hrk.below
      clear hm
      have hcon := fun w => isWrong_any (ls.getD k default) w
      have hrk' := Lib.hid hrk
      have hup' := Lib.hid hup
      clear hrk hup
      cases hb : (ls.getD k default).mayB with
      | false =>
        rw [hb] at hcon
        have hb' := Lib.hid hb
        clear hb
        generalize hl : ls.getD k default = l at hx hcon
        have hl' := Lib.hid hl
        clear hl
        obtain ⟨src, dst, look, loose⟩ := l
        obtain ⟨-, x0, x1, x2, x3⟩ := hx
        simp only [Lk.val, Bool.not_false] at hcon x0 x1 x2 x3
        go_wp2_with (go_at_call 29; refine (hcon _).mono ?_; rintro e w' ⟨rfl, hr2⟩)
        go_ret
        exact ⟨_, rfl, .inr ⟨k, hlt, rfl, hb'.out⟩, hrk'.out.trans hr2⟩
      | true =>
        rw [hb] at hcon
        have hu2 : Hid (LkUpto ls (k + 1)) := Lib.hid (fun j hj => by
          by_cases e : j = k
          · subst e; exact hb
          · exact hup'.out j (by omega))
        clear hb
        generalize hl : ls.getD k default = l at hx hcon
        have hl' := Lib.hid hl
        clear hl
        obtain ⟨src, dst, look, loose⟩ := l
        obtain ⟨-, x0, x1, x2, x3⟩ := hx
        simp only [Lk.val, Bool.not_true] at hcon x0 x1 x2 x3
        go_wp2_with (go_at_call 29; refine (hcon _).mono ?_; rintro e w' ⟨rfl, hr2⟩)
        go_roundw
        case rel => exact ⟨k + 1, by omega, by go_num, hrk'.out.trans hr2, hu2.out⟩
        case measure => simp [intOf]; omega
    · obtain rfl : k = len := by omega
      have hrk' := Lib.hid hrk
      have hup' := Lib.hid hup
      clear hrk hup
      go_wp2
      go_ret
      exact ⟨_, rfl, .inl ⟨rfl, hup'.out⟩, hrk'.out⟩
theorem badAt_no {ls : List Lk} {n : Nat} {z : Int} (h : badAt ls n z) (h0 : 0 ≤ z) : ∃ k : Nat, k < n ∧ (ls.getD k default).mayB = false := by
  rcases h with ⟨rfl, _⟩ | ⟨k, hk, _, hb⟩
  · omega
  · exact ⟨k, hk, hb⟩
theorem badAt_yes {ls : List Lk} {n : Nat} {z : Int} (h : badAt ls n z) (h0 : ¬ 0 ≤ z) : LkUpto ls n := by
  rcases h with ⟨_, hu⟩ | ⟨k, _, rfl, _⟩
  · exact hu
  · omega
/-- Whether a link may not be. -/
def badB (W : Wd) : Bool := !(W.links.all Lk.mayB)
theorem badB_true {W : Wd} {k : Nat} (hk : k < W.links.length) (hb : (W.links.getD k default).mayB = false) : badB W = true := by
  have : W.links.all Lk.mayB = false := by
    rw [List.all_eq_false]
    refine ⟨W.links.getD k default, ?_, by rw [hb]; decide⟩
    simp only [List.getD_eq_getElem?_getD, List.getElem?_eq_getElem hk, Option.getD_some]
    exact List.getElem_mem hk
  simp [badB, this]
theorem badB_false {W : Wd} (h : LkUpto W.links W.links.length) : badB W = false := by
  have : W.links.all Lk.mayB = true := by
    rw [List.all_eq_true]
    intro i hi
    obtain ⟨k, hk, rfl⟩ := List.getElem_of_mem hi
    have := h k hk
    simpa [List.getD_eq_getElem?_getD, List.getElem?_eq_getElem hk] using this
  simp [badB, this]
theorem containsLink_any {w : World} {a : Option Addr} {len cap : Nat} {W : Wd} (h : Lks w a len cap W.links) :
    Calls Tryz.prog 28 #[.slice a len cap, .func (.func 29) #[] #[]] w fun e w' => e = .returned (.bool (badB W)) ∧ Read w w' := by
  have hcon := indexLink_any h
  have hlen := Lib.hid h.1
  clear h
  go_enter Tryz.func28, Tryz.ntmps28
  go_wp2_with fail
  refine hcon.mono ?_
  rintro e w1 ⟨z, rfl, hb, hr⟩
  clear hcon
  by_cases h0 : 0 ≤ z
  · have e : badB W = true := by
      obtain ⟨k, hk, hbk⟩ := badAt_no hb h0
      exact badB_true (by rw [hlen.out]; exact hk) hbk
    have e' := Lib.hid e
    clear hb e
    have h0' := Lib.hid h0
    go_wp2
    go_ret
    exact ⟨ret_bool (by first | (rw [e'.out]; done) | (rw [e'.out]; have := h0'.out; simp; done) | (rw [e'.out]; have := h0'.out; simp; omega)), hr⟩
  · have e : badB W = false := badB_false (by rw [hlen.out]; exact badAt_yes hb h0)
    have e' := Lib.hid e
    clear hb e
    have h0' := Lib.hid h0
    go_wp2
    go_ret
    exact ⟨ret_bool (by first | (rw [e'.out]; done) | (rw [e'.out]; have := h0'.out; simp; done) | (rw [e'.out]; have := h0'.out; simp; omega)), hr⟩
theorem checkW_bad' {W : Wd} (h : checkN W.prog = 0) (hb : badB W = true) : checkW W = 1 := by
  unfold checkW
  rw [if_neg (by simp [h])]
  by_cases h' : ¬ (0 ≤ W.self ∧ W.self < 16) ∨ 1024 < W.links.length
  · rw [if_pos h']
  · rw [if_neg h', if_neg (by simpa [badB] using hb)]
theorem checkW_ok' {W : Wd} (h : checkN W.prog = 0) (h' : 0 ≤ W.self ∧ W.self < 16) (h2 : W.links.length ≤ 1024) (hb : badB W = false) : checkW W = 0 := by
  unfold checkW
  rw [if_neg (by simp [h]), if_neg (by omega), if_pos (by simpa [badB] using hb)]
set_option maxHeartbeats 2000000 in
theorem vmCheck_any {w : World} {v : Wv} {W : Wd} {eb : Addr} (h : Wds w v W) (hE : ErrIs w eb) :
    Calls Tryz.prog 8 #[v.val W] w fun e w' => e = .returned (.int .i64 (checkW W)) ∧ Read w w' := by
  obtain ⟨prog, self, links, seed⟩ := W
  obtain ⟨pa, pl, pc, la, ll, lc⟩ := v
  simp only [Wv.val]
  obtain ⟨hI, hL, -, -⟩ := h
  simp only at hI hL
  have hcall := fun (o : Obj) => cCheck_any (hI.below ((Below.refl _ w).alloc (Nat.le_refl _) o)) (hE.below ((Below.refl _ w).alloc (Nat.le_refl _) o))
  have hlen := hL.1
  have hmx : ll ≤ 9223372036854775807 := by have := hL.2.1; have := hL.2.2.1; unfold maxLen at *; omega
  have hsl := fun w => isProcess_any self w
  by_cases hp : checkN prog = 0
  · rw [hp] at hcall
    have hL' := Lib.hid hL
    clear hL hI hE
    by_cases s0 : 0 ≤ self ∧ self < 16
    · rw [show procB self = true by simpa [procB] using s0] at hsl
      by_cases s2 : ll ≤ 1024
      · have s2' : ¬ (1024 : Int) < (ll : Int) := by omega
        have hz : Hid ((badB ⟨prog, self, links, seed⟩ = true → checkW ⟨prog, self, links, seed⟩ = 1) ∧ (badB ⟨prog, self, links, seed⟩ = false → checkW ⟨prog, self, links, seed⟩ = 0)) :=
          ⟨fun hb => checkW_bad' hp hb, fun hb => checkW_ok' hp s0 (by simpa only [hlen] using s2) hb⟩
        have hc2 := fun (w2 : World) (hb2 : Below w.heap.size w w2) => containsLink_any (w := w2) (W := ⟨prog, self, links, seed⟩) (hL'.out.below hb2)
        generalize checkW ⟨prog, self, links, seed⟩ = z at hz ⊢
        clear hp hlen s0
        cases hbad : badB ⟨prog, self, links, seed⟩ with
        | true =>
          rw [hbad] at hc2 hz
          obtain rfl : z = 1 := hz.out.1 rfl
          clear hbad hz
          go_enter Tryz.func8, Tryz.ntmps8
          go_wp2_with fail
          refine (hcall _).mono ?_
          rintro e w1 ⟨rfl, hr1⟩
          have c1 : w1.cell? ⟨w.heap.size, 1, none⟩ = some (.int .i64 self) := hr1.new 1 rfl
          have c2 : w1.cell? ⟨w.heap.size, 2, none⟩ = some (.slice la ll lc) := hr1.new 2 rfl
          have hra := Lib.hid (Read.alloc _ hr1)
          have hcon := hc2 w1 (Read.alloc _ hr1).below
          clear hcall hc2 hr1
          go_wp2_with (first | (go_at_call 27; refine (hsl _).mono ?_; rintro e w' ⟨rfl, rfl⟩) | (go_at_call 28; refine hcon.mono ?_; rintro e w2 ⟨rfl, hr2⟩))
          go_ret
          exact ⟨rfl, hra.out.trans hr2⟩
        | false =>
          rw [hbad] at hc2 hz
          obtain rfl : z = 0 := hz.out.2 rfl
          clear hbad hz
          go_enter Tryz.func8, Tryz.ntmps8
          go_wp2_with fail
          refine (hcall _).mono ?_
          rintro e w1 ⟨rfl, hr1⟩
          have c1 : w1.cell? ⟨w.heap.size, 1, none⟩ = some (.int .i64 self) := hr1.new 1 rfl
          have c2 : w1.cell? ⟨w.heap.size, 2, none⟩ = some (.slice la ll lc) := hr1.new 2 rfl
          have hra := Lib.hid (Read.alloc _ hr1)
          have hcon := hc2 w1 (Read.alloc _ hr1).below
          clear hcall hc2 hr1
          go_wp2_with (first | (go_at_call 27; refine (hsl _).mono ?_; rintro e w' ⟨rfl, rfl⟩) | (go_at_call 28; refine hcon.mono ?_; rintro e w2 ⟨rfl, hr2⟩))
          go_ret
          exact ⟨rfl, hra.out.trans hr2⟩
      · have s2' : (1024 : Int) < (ll : Int) := by omega
        have hz : checkW ⟨prog, self, links, seed⟩ = 1 := checkW_lane hp (.inr (by simp only; omega))
        rw [hz]
        clear hz hp hlen s2 s0
        go_enter Tryz.func8, Tryz.ntmps8
        go_wp2_with fail
        refine (hcall _).mono ?_
        rintro e w1 ⟨rfl, hr1⟩
        have c1 : w1.cell? ⟨w.heap.size, 1, none⟩ = some (.int .i64 self) := hr1.new 1 rfl
        have c2 : w1.cell? ⟨w.heap.size, 2, none⟩ = some (.slice la ll lc) := hr1.new 2 rfl
        clear hcall
        go_wp2_with (go_at_call 27; refine (hsl _).mono ?_; rintro e w' ⟨rfl, rfl⟩)
        go_ret
        exact ⟨rfl, Read.alloc _ hr1⟩
    · rw [show procB self = false by simpa [procB] using s0] at hsl
      have hz : checkW ⟨prog, self, links, seed⟩ = 1 := checkW_lane hp (.inl s0)
      rw [hz]
      clear hz hp hlen s0
      go_enter Tryz.func8, Tryz.ntmps8
      go_wp2_with fail
      refine (hcall _).mono ?_
      rintro e w1 ⟨rfl, hr1⟩
      have c1 : w1.cell? ⟨w.heap.size, 1, none⟩ = some (.int .i64 self) := hr1.new 1 rfl
      have c2 : w1.cell? ⟨w.heap.size, 2, none⟩ = some (.slice la ll lc) := hr1.new 2 rfl
      clear hcall
      go_wp2_with (go_at_call 27; refine (hsl _).mono ?_; rintro e w' ⟨rfl, rfl⟩)
      go_ret
      exact ⟨rfl, Read.alloc _ hr1⟩
  · rw [checkW_prog hp]
    simp only
    have hp' : (checkN prog == 0) = false := by simpa using hp
    generalize checkN prog = z at hp' hcall
    clear hp hlen hL hI hE
    go_enter Tryz.func8, Tryz.ntmps8
    go_wp2_with fail
    refine (hcall _).mono ?_
    rintro e w1 ⟨rfl, hr1⟩
    clear hcall
    go_wp2
    go_ret
    exact ⟨rfl, Read.alloc _ hr1⟩
end Go.Proofs.YtminfmjgmmkaoaaGreatDoor
