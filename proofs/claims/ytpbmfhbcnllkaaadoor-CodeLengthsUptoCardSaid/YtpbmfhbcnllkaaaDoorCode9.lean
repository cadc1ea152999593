/-
  The contract of the program's Text, at every instruction, where the library's table of tens lies as it is laid.
-/
import Derived.Test.YtpbmfhbcnllkaaaDoorCode4
import Derived.Test.YtpbmfhbcnllkaaaDoorShelf
import Derived.Lib.ItoaLen
import Derived.Lib.ItoaMem
import Derived.Laws.Concat
namespace Go.Proofs.YtpbmfhbcnllkaaaDoor
open Go.ChangeShapes Go.WideShapes Go.ChangeAt Go.RowKit Go.Sort
set_option linter.unusedVariables false

/-- A text, out of its bytes. -/
def txt (l : List UInt8) : Value := .string ⟨l.toArray⟩
/-- The table of tens, as it is laid. -/
def Tab (w : World) : Prop := 1 < w.heap.size ∧ Lib.TabIs Tryd.prog w "internal/strconv.uint64pow10" .u64 Lib.pow10Tab
theorem gPowNamed : Tryd.prog.globalNamed "internal/strconv.uint64pow10" = some 1 := by kernel_rfl
theorem Tab.below {w w' : World} (h : Tab w) (hb : Below w.heap.size w w') : Tab w' := by
  obtain ⟨h0, h1⟩ := h
  refine ⟨Nat.lt_of_lt_of_le h0 hb.size, ?_⟩
  unfold Lib.TabIs World.var? at *
  rw [gPowNamed] at *
  simp only [Option.bind_some] at *
  rw [hb.block 1 h0]
  exact h1
theorem Tab.read {w w' : World} (h : Tab w) (hr : Read w w') : Tab w' := h.below hr.below
theorem itoa_any (n : Int) (h0 : -9223372036854775808 ≤ n) (h1 : n ≤ 9223372036854775807) (w : World) (h : Tab w) :
    Calls Tryd.prog 28 #[.int .i64 n] w fun e w' => e = .returned (.string ⟨(Lib.itoa n).toArray⟩) ∧ Read w w' := Tryd.strconv_Itoa n h0 h1 w h.2
/-- The words: the name, and behind a blank each of the numbers. -/
def words (nm : List UInt8) (xs : List Int) : List UInt8 := nm ++ xs.flatMap fun x => 32 :: Lib.itoa x
theorem words_nil (nm : List UInt8) : words nm [] = nm := by simp [words]
theorem words_cons (nm : List UInt8) (x : Int) (xs : List Int) : words nm (x :: xs) = words (nm ++ (32 :: Lib.itoa x)) xs := by simp [words]
theorem add_words (nm : List UInt8) (x : Int) (h : nm.length ≤ 100) (h0 : -9223372036854775808 ≤ x) (h1 : x ≤ 9223372036854775807) (w : World) :
    (Op.stringOp .add ⟨nm.toArray⟩ ⟨(32 :: Lib.itoa x).toArray⟩).run Tryd.prog w = .ok (.string ⟨(nm ++ (32 :: Lib.itoa x)).toArray⟩) w := by
  have := Lib.itoa_length_le x h0 h1
  exact run_string_add_lists w _ _ (by omega) (by simp; omega)
theorem add_blank (x : Int) (h0 : -9223372036854775808 ≤ x) (h1 : x ≤ 9223372036854775807) (w : World) :
    (Op.stringOp .add ⟨#[32]⟩ ⟨(Lib.itoa x).toArray⟩).run Tryd.prog w = .ok (.string ⟨(32 :: Lib.itoa x).toArray⟩) w := by
  have := Lib.itoa_length_le x h0 h1
  exact run_string_add_lists w [32] _ (by simp) (by omega)
theorem itoa_len (x : Int) (h0 : -9223372036854775808 ≤ x) (h1 : x ≤ 9223372036854775807) : (Lib.itoa x).length ≤ 21 := Lib.itoa_length_le x h0 h1
def inI (x : Int) : Prop := -9223372036854775808 ≤ x ∧ x ≤ 9223372036854775807



set_option maxRecDepth 100000 in
set_option maxHeartbeats 1000000 in
theorem text_0 (op xa xb xc : Int) (hfa : inI xa) (hfb : inI xb) (hfc : inI xc) (nm : List UInt8) (hl : nm.length ≤ 5) (hk : ∀ w, Calls Tryd.prog 26 #[.int .i64 op] w fun e w' => e = .returned (.agg #[.string ⟨nm.toArray⟩, .int .i64 0]) ∧ Read w w') (w : World) (hT : Tab w) :
    Calls Tryd.prog 19 #[.agg #[.int .i64 op, .int .i64 xa, .int .i64 xb, .int .i64 xc]] w fun e w' => e = .returned (.string ⟨(words nm []).toArray⟩) ∧ Read w w' := by
  have mixed := mixed
  have hnum := fun w => numbersOf_nums op xa xb xc w
  rw [words_nil]
  replace hfa := Lib.hid hfa
  replace hfb := Lib.hid hfb
  replace hfc := Lib.hid hfc
  replace hT := Lib.hid hT
  have hat := InsAt.mk w op xa xb xc
  go_enter Tryd.func19, Tryd.ntmps19
  go_upto_region 3 with (go_at_call 26; refine (hk _).mono ?_; rintro e w1 ⟨rfl, hr1⟩)
  obtain ⟨hlt0, y0, y1, y2, y3⟩ := (hat.read hr1).read (Read.mk w1 (.cells #[.string ⟨nm.toArray⟩, .int .i64 0] 56))
  have z0 : (w1.alloc (.cells #[.string ⟨nm.toArray⟩, .int .i64 0] 56)).cell? ⟨w1.heap.size, 0, none⟩ = some (.string ⟨nm.toArray⟩) := by simp
  have z1 : (w1.alloc (.cells #[.string ⟨nm.toArray⟩, .int .i64 0] 56)).cell? ⟨w1.heap.size, 1, none⟩ = some (.int .i64 0) := by simp
  have hlt1 : w1.heap.size < (w1.alloc (.cells #[.string ⟨nm.toArray⟩, .int .i64 0] 56)).heap.size := by simp
  have hrd := (Read.mk w (.cells #[.int .i64 op, .int .i64 xa, .int .i64 xb, .int .i64 xc] 40)).trans (hr1.trans (Read.mk w1 (.cells #[.string ⟨nm.toArray⟩, .int .i64 0] 56)))
  simp only [Nat.zero_add] at y0 y1 y2 y3
  clear hat hk
  generalize w1.alloc (.cells #[.string ⟨nm.toArray⟩, .int .i64 0] 56) = W at y0 y1 y2 y3 z0 z1 hlt0 hlt1 hrd ⊢
  generalize w.heap.size = B at y0 y1 y2 y3 hlt0 ⊢
  generalize w1.heap.size = C at z0 z1 hlt1 ⊢
  clear hr1
  go_region_held3 (fun w' => w'.cell? ⟨B, 0, none⟩ = some (.int .i64 op) ∧ w'.cell? ⟨B, 1, none⟩ = some (.int .i64 xa) ∧ w'.cell? ⟨B, 2, none⟩ = some (.int .i64 xb) ∧ w'.cell? ⟨B, 3, none⟩ = some (.int .i64 xc) ∧ w'.cell? ⟨C, 1, none⟩ = some (.int .i64 0) ∧ B < w'.heap.size ∧ C < w'.heap.size)
    (first | go_keep | (go_split_ands; refine ⟨hr2.cell ?_ ?_, hr2.cell ?_ ?_, hr2.cell ?_ ?_, hr2.cell ?_ ?_, hr2.cell ?_ ?_, Nat.lt_of_lt_of_le ?_ hr2.size, Nat.lt_of_lt_of_le ?_ hr2.size⟩ <;> assumption))
    (first | (go_at_call 27; refine (hnum _).mono ?_; rintro e w2 ⟨g, rfl, hr2, hn⟩))
  have hfin : Read w w2 := hrd.trans (Read.trans (Read.drew W 1) hr2)
  have tb0 := Lib.hid (hT.out.read hfin)
  have hn0 := Lib.hid hn.out
  obtain ⟨-, n0, n1, n2⟩ := hn.out
  clear y0 y1 y2 y3 z0 z1 hlt0 hlt1 hrd hr2 hn hnum hT
  go_wp2
  refine wp_loop_rounds 1 ?_
  rw [rounds_succ]
  go_wp2
  go_ret
  exact ⟨rfl, hfin⟩

set_option maxRecDepth 100000 in
set_option maxHeartbeats 1000000 in
theorem text_1 (op xa xb xc : Int) (hfa : inI xa) (hfb : inI xb) (hfc : inI xc) (nm : List UInt8) (hl : nm.length ≤ 5) (hk : ∀ w, Calls Tryd.prog 26 #[.int .i64 op] w fun e w' => e = .returned (.agg #[.string ⟨nm.toArray⟩, .int .i64 1]) ∧ Read w w') (w : World) (hT : Tab w) :
    Calls Tryd.prog 19 #[.agg #[.int .i64 op, .int .i64 xa, .int .i64 xb, .int .i64 xc]] w fun e w' => e = .returned (.string ⟨(words nm [xa]).toArray⟩) ∧ Read w w' := by
  have mixed := mixed
  have hnum := fun w => numbersOf_nums op xa xb xc w
  simp only [words_cons, words_nil]
  have la := itoa_len xa hfa.1 hfa.2
  have lb := itoa_len xb hfb.1 hfb.2
  have ha0 := fun w => add_words nm xa (by omega) hfa.1 hfa.2 w
  have hb0 := fun w => add_blank xa hfa.1 hfa.2 w
  clear la lb
  generalize 32 :: Lib.itoa xa = d0 at ha0 hb0 ⊢
  generalize nm ++ d0 = s1 at ha0 hb0 ⊢
  replace hfa := Lib.hid hfa
  replace hfb := Lib.hid hfb
  replace hfc := Lib.hid hfc
  replace hT := Lib.hid hT
  have hat := InsAt.mk w op xa xb xc
  go_enter Tryd.func19, Tryd.ntmps19
  go_upto_region 3 with (go_at_call 26; refine (hk _).mono ?_; rintro e w1 ⟨rfl, hr1⟩)
  obtain ⟨hlt0, y0, y1, y2, y3⟩ := (hat.read hr1).read (Read.mk w1 (.cells #[.string ⟨nm.toArray⟩, .int .i64 1] 56))
  have z0 : (w1.alloc (.cells #[.string ⟨nm.toArray⟩, .int .i64 1] 56)).cell? ⟨w1.heap.size, 0, none⟩ = some (.string ⟨nm.toArray⟩) := by simp
  have z1 : (w1.alloc (.cells #[.string ⟨nm.toArray⟩, .int .i64 1] 56)).cell? ⟨w1.heap.size, 1, none⟩ = some (.int .i64 1) := by simp
  have hlt1 : w1.heap.size < (w1.alloc (.cells #[.string ⟨nm.toArray⟩, .int .i64 1] 56)).heap.size := by simp
  have hrd := (Read.mk w (.cells #[.int .i64 op, .int .i64 xa, .int .i64 xb, .int .i64 xc] 40)).trans (hr1.trans (Read.mk w1 (.cells #[.string ⟨nm.toArray⟩, .int .i64 1] 56)))
  simp only [Nat.zero_add] at y0 y1 y2 y3
  clear hat hk
  generalize w1.alloc (.cells #[.string ⟨nm.toArray⟩, .int .i64 1] 56) = W at y0 y1 y2 y3 z0 z1 hlt0 hlt1 hrd ⊢
  generalize w.heap.size = B at y0 y1 y2 y3 hlt0 ⊢
  generalize w1.heap.size = C at z0 z1 hlt1 ⊢
  clear hr1
  go_region_held3 (fun w' => w'.cell? ⟨B, 0, none⟩ = some (.int .i64 op) ∧ w'.cell? ⟨B, 1, none⟩ = some (.int .i64 xa) ∧ w'.cell? ⟨B, 2, none⟩ = some (.int .i64 xb) ∧ w'.cell? ⟨B, 3, none⟩ = some (.int .i64 xc) ∧ w'.cell? ⟨C, 1, none⟩ = some (.int .i64 1) ∧ B < w'.heap.size ∧ C < w'.heap.size)
    (first | go_keep | (go_split_ands; refine ⟨hr2.cell ?_ ?_, hr2.cell ?_ ?_, hr2.cell ?_ ?_, hr2.cell ?_ ?_, hr2.cell ?_ ?_, Nat.lt_of_lt_of_le ?_ hr2.size, Nat.lt_of_lt_of_le ?_ hr2.size⟩ <;> assumption))
    (first | (go_at_call 27; refine (hnum _).mono ?_; rintro e w2 ⟨g, rfl, hr2, hn⟩))
  have hfin : Read w w2 := hrd.trans (Read.trans (Read.drew W 1) hr2)
  have tb0 := Lib.hid (hT.out.read hfin)
  have hn0 := Lib.hid hn.out
  obtain ⟨-, n0, n1, n2⟩ := hn.out
  clear y0 y1 y2 y3 z0 z1 hlt0 hlt1 hrd hr2 hn hnum hT
  go_wp2
  refine wp_loop_rounds 2 ?_
  rw [rounds_succ]
  go_wp2_with (go_at_call 28; refine (itoa_any xa hfa.out.1 hfa.out.2 _ tb0.out).mono ?_; rintro e v0 ⟨rfl, hq0⟩)
  clear n0 n1 n2
  have hn1 := Lib.hid (hn0.out.read hq0)
  have tb1 := Lib.hid (tb0.out.read hq0)
  obtain ⟨-, n0, n1, n2⟩ := hn0.out.read hq0
  rw [rounds_succ]
  go_wp2
  go_ret
  exact ⟨rfl, (hfin.trans hq0)⟩

set_option maxRecDepth 100000 in
set_option maxHeartbeats 1000000 in
theorem text_2 (op xa xb xc : Int) (hfa : inI xa) (hfb : inI xb) (hfc : inI xc) (nm : List UInt8) (hl : nm.length ≤ 5) (hk : ∀ w, Calls Tryd.prog 26 #[.int .i64 op] w fun e w' => e = .returned (.agg #[.string ⟨nm.toArray⟩, .int .i64 2]) ∧ Read w w') (w : World) (hT : Tab w) :
    Calls Tryd.prog 19 #[.agg #[.int .i64 op, .int .i64 xa, .int .i64 xb, .int .i64 xc]] w fun e w' => e = .returned (.string ⟨(words nm [xa, xb]).toArray⟩) ∧ Read w w' := by
  have mixed := mixed
  have hnum := fun w => numbersOf_nums op xa xb xc w
  simp only [words_cons, words_nil]
  have la := itoa_len xa hfa.1 hfa.2
  have lb := itoa_len xb hfb.1 hfb.2
  have ha0 := fun w => add_words nm xa (by omega) hfa.1 hfa.2 w
  have hb0 := fun w => add_blank xa hfa.1 hfa.2 w
  have ha1 := fun w => add_words (nm ++ (32 :: Lib.itoa xa)) xb (by simp; omega) hfb.1 hfb.2 w
  have hb1 := fun w => add_blank xb hfb.1 hfb.2 w
  clear la lb
  generalize 32 :: Lib.itoa xa = d0 at ha0 hb0 ha1 hb1 ⊢
  generalize 32 :: Lib.itoa xb = d1 at ha0 hb0 ha1 hb1 ⊢
  generalize nm ++ d0 = s1 at ha0 hb0 ha1 hb1 ⊢
  generalize s1 ++ d1 = s2 at ha0 hb0 ha1 hb1 ⊢
  replace hfa := Lib.hid hfa
  replace hfb := Lib.hid hfb
  replace hfc := Lib.hid hfc
  replace hT := Lib.hid hT
  have hat := InsAt.mk w op xa xb xc
  go_enter Tryd.func19, Tryd.ntmps19
  go_upto_region 3 with (go_at_call 26; refine (hk _).mono ?_; rintro e w1 ⟨rfl, hr1⟩)
  obtain ⟨hlt0, y0, y1, y2, y3⟩ := (hat.read hr1).read (Read.mk w1 (.cells #[.string ⟨nm.toArray⟩, .int .i64 2] 56))
  have z0 : (w1.alloc (.cells #[.string ⟨nm.toArray⟩, .int .i64 2] 56)).cell? ⟨w1.heap.size, 0, none⟩ = some (.string ⟨nm.toArray⟩) := by simp
  have z1 : (w1.alloc (.cells #[.string ⟨nm.toArray⟩, .int .i64 2] 56)).cell? ⟨w1.heap.size, 1, none⟩ = some (.int .i64 2) := by simp
  have hlt1 : w1.heap.size < (w1.alloc (.cells #[.string ⟨nm.toArray⟩, .int .i64 2] 56)).heap.size := by simp
  have hrd := (Read.mk w (.cells #[.int .i64 op, .int .i64 xa, .int .i64 xb, .int .i64 xc] 40)).trans (hr1.trans (Read.mk w1 (.cells #[.string ⟨nm.toArray⟩, .int .i64 2] 56)))
  simp only [Nat.zero_add] at y0 y1 y2 y3
  clear hat hk
  generalize w1.alloc (.cells #[.string ⟨nm.toArray⟩, .int .i64 2] 56) = W at y0 y1 y2 y3 z0 z1 hlt0 hlt1 hrd ⊢
  generalize w.heap.size = B at y0 y1 y2 y3 hlt0 ⊢
  generalize w1.heap.size = C at z0 z1 hlt1 ⊢
  clear hr1
  go_region_held3 (fun w' => w'.cell? ⟨B, 0, none⟩ = some (.int .i64 op) ∧ w'.cell? ⟨B, 1, none⟩ = some (.int .i64 xa) ∧ w'.cell? ⟨B, 2, none⟩ = some (.int .i64 xb) ∧ w'.cell? ⟨B, 3, none⟩ = some (.int .i64 xc) ∧ w'.cell? ⟨C, 1, none⟩ = some (.int .i64 2) ∧ B < w'.heap.size ∧ C < w'.heap.size)
    (first | go_keep | (go_split_ands; refine ⟨hr2.cell ?_ ?_, hr2.cell ?_ ?_, hr2.cell ?_ ?_, hr2.cell ?_ ?_, hr2.cell ?_ ?_, Nat.lt_of_lt_of_le ?_ hr2.size, Nat.lt_of_lt_of_le ?_ hr2.size⟩ <;> assumption))
    (first | (go_at_call 27; refine (hnum _).mono ?_; rintro e w2 ⟨g, rfl, hr2, hn⟩))
  have hfin : Read w w2 := hrd.trans (Read.trans (Read.drew W 1) hr2)
  have tb0 := Lib.hid (hT.out.read hfin)
  have hn0 := Lib.hid hn.out
  obtain ⟨-, n0, n1, n2⟩ := hn.out
  clear y0 y1 y2 y3 z0 z1 hlt0 hlt1 hrd hr2 hn hnum hT
  go_wp2
  refine wp_loop_rounds 3 ?_
  rw [rounds_succ]
  go_wp2_with (go_at_call 28; refine (itoa_any xa hfa.out.1 hfa.out.2 _ tb0.out).mono ?_; rintro e v0 ⟨rfl, hq0⟩)
  clear n0 n1 n2
  have hn1 := Lib.hid (hn0.out.read hq0)
  have tb1 := Lib.hid (tb0.out.read hq0)
  obtain ⟨-, n0, n1, n2⟩ := hn0.out.read hq0
  rw [rounds_succ]
  go_wp2_with (go_at_call 28; refine (itoa_any xb hfb.out.1 hfb.out.2 _ tb1.out).mono ?_; rintro e v1 ⟨rfl, hq1⟩)
  clear n0 n1 n2
  have hn2 := Lib.hid (hn1.out.read hq1)
  have tb2 := Lib.hid (tb1.out.read hq1)
  obtain ⟨-, n0, n1, n2⟩ := hn1.out.read hq1
  rw [rounds_succ]
  go_wp2
  go_ret
  exact ⟨rfl, ((hfin.trans hq0).trans hq1)⟩

set_option maxRecDepth 100000 in
set_option maxHeartbeats 1000000 in
theorem text_3 (op xa xb xc : Int) (hfa : inI xa) (hfb : inI xb) (hfc : inI xc) (nm : List UInt8) (hl : nm.length ≤ 5) (hk : ∀ w, Calls Tryd.prog 26 #[.int .i64 op] w fun e w' => e = .returned (.agg #[.string ⟨nm.toArray⟩, .int .i64 3]) ∧ Read w w') (w : World) (hT : Tab w) :
    Calls Tryd.prog 19 #[.agg #[.int .i64 op, .int .i64 xa, .int .i64 xb, .int .i64 xc]] w fun e w' => e = .returned (.string ⟨(words nm [xa, xb, xc]).toArray⟩) ∧ Read w w' := by
  have mixed := mixed
  have hnum := fun w => numbersOf_nums op xa xb xc w
  simp only [words_cons, words_nil]
  have la := itoa_len xa hfa.1 hfa.2
  have lb := itoa_len xb hfb.1 hfb.2
  have ha0 := fun w => add_words nm xa (by omega) hfa.1 hfa.2 w
  have hb0 := fun w => add_blank xa hfa.1 hfa.2 w
  have ha1 := fun w => add_words (nm ++ (32 :: Lib.itoa xa)) xb (by simp; omega) hfb.1 hfb.2 w
  have hb1 := fun w => add_blank xb hfb.1 hfb.2 w
  have ha2 := fun w => add_words ((nm ++ (32 :: Lib.itoa xa)) ++ (32 :: Lib.itoa xb)) xc (by simp; omega) hfc.1 hfc.2 w
  have hb2 := fun w => add_blank xc hfc.1 hfc.2 w
  clear la lb
  generalize 32 :: Lib.itoa xa = d0 at ha0 hb0 ha1 hb1 ha2 hb2 ⊢
  generalize 32 :: Lib.itoa xb = d1 at ha0 hb0 ha1 hb1 ha2 hb2 ⊢
  generalize 32 :: Lib.itoa xc = d2 at ha0 hb0 ha1 hb1 ha2 hb2 ⊢
  generalize nm ++ d0 = s1 at ha0 hb0 ha1 hb1 ha2 hb2 ⊢
  generalize s1 ++ d1 = s2 at ha0 hb0 ha1 hb1 ha2 hb2 ⊢
  generalize s2 ++ d2 = s3 at ha0 hb0 ha1 hb1 ha2 hb2 ⊢
  replace hfa := Lib.hid hfa
  replace hfb := Lib.hid hfb
  replace hfc := Lib.hid hfc
  replace hT := Lib.hid hT
  have hat := InsAt.mk w op xa xb xc
  go_enter Tryd.func19, Tryd.ntmps19
  go_upto_region 3 with (go_at_call 26; refine (hk _).mono ?_; rintro e w1 ⟨rfl, hr1⟩)
  obtain ⟨hlt0, y0, y1, y2, y3⟩ := (hat.read hr1).read (Read.mk w1 (.cells #[.string ⟨nm.toArray⟩, .int .i64 3] 56))
  have z0 : (w1.alloc (.cells #[.string ⟨nm.toArray⟩, .int .i64 3] 56)).cell? ⟨w1.heap.size, 0, none⟩ = some (.string ⟨nm.toArray⟩) := by simp
  have z1 : (w1.alloc (.cells #[.string ⟨nm.toArray⟩, .int .i64 3] 56)).cell? ⟨w1.heap.size, 1, none⟩ = some (.int .i64 3) := by simp
  have hlt1 : w1.heap.size < (w1.alloc (.cells #[.string ⟨nm.toArray⟩, .int .i64 3] 56)).heap.size := by simp
  have hrd := (Read.mk w (.cells #[.int .i64 op, .int .i64 xa, .int .i64 xb, .int .i64 xc] 40)).trans (hr1.trans (Read.mk w1 (.cells #[.string ⟨nm.toArray⟩, .int .i64 3] 56)))
  simp only [Nat.zero_add] at y0 y1 y2 y3
  clear hat hk
  generalize w1.alloc (.cells #[.string ⟨nm.toArray⟩, .int .i64 3] 56) = W at y0 y1 y2 y3 z0 z1 hlt0 hlt1 hrd ⊢
  generalize w.heap.size = B at y0 y1 y2 y3 hlt0 ⊢
  generalize w1.heap.size = C at z0 z1 hlt1 ⊢
  clear hr1
  go_region_held3 (fun w' => w'.cell? ⟨B, 0, none⟩ = some (.int .i64 op) ∧ w'.cell? ⟨B, 1, none⟩ = some (.int .i64 xa) ∧ w'.cell? ⟨B, 2, none⟩ = some (.int .i64 xb) ∧ w'.cell? ⟨B, 3, none⟩ = some (.int .i64 xc) ∧ w'.cell? ⟨C, 1, none⟩ = some (.int .i64 3) ∧ B < w'.heap.size ∧ C < w'.heap.size)
    (first | go_keep | (go_split_ands; refine ⟨hr2.cell ?_ ?_, hr2.cell ?_ ?_, hr2.cell ?_ ?_, hr2.cell ?_ ?_, hr2.cell ?_ ?_, Nat.lt_of_lt_of_le ?_ hr2.size, Nat.lt_of_lt_of_le ?_ hr2.size⟩ <;> assumption))
    (first | (go_at_call 27; refine (hnum _).mono ?_; rintro e w2 ⟨g, rfl, hr2, hn⟩))
  have hfin : Read w w2 := hrd.trans (Read.trans (Read.drew W 1) hr2)
  have tb0 := Lib.hid (hT.out.read hfin)
  have hn0 := Lib.hid hn.out
  obtain ⟨-, n0, n1, n2⟩ := hn.out
  clear y0 y1 y2 y3 z0 z1 hlt0 hlt1 hrd hr2 hn hnum hT
  go_wp2
  refine wp_loop_rounds 4 ?_
  rw [rounds_succ]
  go_wp2_with (go_at_call 28; refine (itoa_any xa hfa.out.1 hfa.out.2 _ tb0.out).mono ?_; rintro e v0 ⟨rfl, hq0⟩)
  clear n0 n1 n2
  have hn1 := Lib.hid (hn0.out.read hq0)
  have tb1 := Lib.hid (tb0.out.read hq0)
  obtain ⟨-, n0, n1, n2⟩ := hn0.out.read hq0
  rw [rounds_succ]
  go_wp2_with (go_at_call 28; refine (itoa_any xb hfb.out.1 hfb.out.2 _ tb1.out).mono ?_; rintro e v1 ⟨rfl, hq1⟩)
  clear n0 n1 n2
  have hn2 := Lib.hid (hn1.out.read hq1)
  have tb2 := Lib.hid (tb1.out.read hq1)
  obtain ⟨-, n0, n1, n2⟩ := hn1.out.read hq1
  rw [rounds_succ]
  go_wp2_with (go_at_call 28; refine (itoa_any xc hfc.out.1 hfc.out.2 _ tb2.out).mono ?_; rintro e v2 ⟨rfl, hq2⟩)
  clear n0 n1 n2
  have hn3 := Lib.hid (hn2.out.read hq2)
  have tb3 := Lib.hid (tb2.out.read hq2)
  obtain ⟨-, n0, n1, n2⟩ := hn2.out.read hq2
  rw [rounds_succ]
  go_wp2
  go_ret
  exact ⟨rfl, (((hfin.trans hq0).trans hq1).trans hq2)⟩

def nameL (op : Int) : List UInt8 := (nameOf op).data.toList
theorem nameL_mk (op : Int) : (⟨(nameL op).toArray⟩ : ByteArray) = nameOf op := by
  unfold nameL
  cases nameOf op
  simp
theorem nameL_len (op : Int) : (nameL op).length ≤ 5 := by
  by_cases h : op < 0 ∨ 17 ≤ op
  · have e1 : nameOf op = ⟨#[63]⟩ := by unfold nameOf; repeat (rw [if_neg (by omega)])
    unfold nameL
    rw [e1]
    simp
  · rcases op_cases (op := op) (by omega) (by omega) with rfl | rfl | rfl | rfl | rfl | rfl | rfl | rfl | rfl | rfl | rfl | rfl | rfl | rfl | rfl | rfl | rfl
    all_goals decide
/-- The words of an instruction. -/
def textI (i : I) : List UInt8 := words (nameL i.op) ([i.a, i.b, i.c].take (usedOf i.op))
def I.inAll (i : I) : Prop := inI i.a ∧ inI i.b ∧ inI i.c
theorem cText_any (i : I) (hf : i.inAll) (w : World) (hT : Tab w) : Calls Tryd.prog 19 #[i.val] w fun e w' => e = .returned (.string ⟨(textI i).toArray⟩) ∧ Read w w' := by
  obtain ⟨op, a, b, c⟩ := i
  obtain ⟨fa, fb, fc⟩ := hf
  have hk := kindOf_any op
  have hu := usedOf_le op
  have hl := nameL_len op
  unfold textI kindV I.val at *
  rw [← nameL_mk] at hk
  simp only at *
  generalize usedOf op = u at hk hu ⊢
  rcases (by omega : u = 0 ∨ u = 1 ∨ u = 2 ∨ u = 3) with rfl | rfl | rfl | rfl
  · exact text_0 op a b c fa fb fc _ hl hk w hT
  · exact text_1 op a b c fa fb fc _ hl hk w hT
  · exact text_2 op a b c fa fb fc _ hl hk w hT
  · exact text_3 op a b c fa fb fc _ hl hk w hT
theorem awake3_any (w : World) (hT : Tab w) : Calls Tryd.prog 13 #[] w fun e w' => e = .returned (.bool true) ∧ Read w w' := by
  have hc := fun w hT => cText_any ⟨1, 1, 5, 0⟩ ⟨⟨by decide, by decide⟩, ⟨by decide, by decide⟩, ⟨by decide, by decide⟩⟩ w hT
  have ht : textI ⟨1, 1, 5, 0⟩ = [115, 101, 116, 32, 49, 32, 53] := by
    have e1 : Lib.itoa 1 = [49] := by rw [show (1 : Int) = ((1 : Nat) : Int) from rfl, Lib.itoa_nonneg, Lib.decDigits_one (by decide)]; rfl
    have e5 : Lib.itoa 5 = [53] := by rw [show (5 : Int) = ((5 : Nat) : Int) from rfl, Lib.itoa_nonneg, Lib.decDigits_one (by decide)]; rfl
    simp [textI, words, usedOf, nameL, nameOf, e1, e5]
  rw [ht] at hc
  simp only [I.val] at hc
  clear ht
  go_enter Tryd.func13, Tryd.ntmps13
  go_wp2_with (go_at_call 19; refine (hc _ hT).mono ?_; rintro e w1 ⟨rfl, hr1⟩)
  go_ret
  exact ⟨rfl, hr1⟩

end Go.Proofs.YtpbmfhbcnllkaaaDoor
