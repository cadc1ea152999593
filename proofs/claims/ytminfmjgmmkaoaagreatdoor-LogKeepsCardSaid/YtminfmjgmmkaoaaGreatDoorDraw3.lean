/-
  The program's Mix, for every number of 64 bits.
  At and Below, the program's and the document's own, and the law's test that the program computes.
-/
import Derived.Test.YtminfmjgmmkaoaaGreatDoorDraw1
import Derived.Laws.EntriesVeiled
import Derived.Laws.ByValue
import Derived.LoopN
import Derived.RegionCalls
import Derived.Below
import Derived.Lib.Hide
import Derived.Deep.Cut
import Derived.StillTailTactics
namespace Go.Proofs.YtminfmjgmmkaoaaGreatDoor
open Go.ChangeShapes Go.WideShapes Go.ChangeAt Go.RowKit
set_option maxRecDepth 4000

/-- The six steps, flat. -/
def stepsV : Value := .agg #[.func (.methodOf 197 "isochron/draw.plus") #[] #[], .int .u64 11400714819323198485, .func (.methodOf 197 "isochron/draw.folded") #[] #[], .int .u64 30, .func (.methodOf 197 "isochron/draw.times") #[] #[], .int .u64 13787848793156543929, .func (.methodOf 197 "isochron/draw.folded") #[] #[], .int .u64 27, .func (.methodOf 197 "isochron/draw.times") #[] #[], .int .u64 10723151780598845931, .func (.methodOf 197 "isochron/draw.folded") #[] #[], .int .u64 31]
theorem steps_any (w : World) :
    Calls Tryz.prog 120 #[] w fun e w' => e = .returned stepsV ∧ Below w.heap.size w w' := by
  have hmf : ∀ (fn : Fn) (first cap : Array Value) (w : World), (Instr.makeFunc fn first cap).run Tryz.prog w = .ok (.func fn first cap) w := fun _ _ _ _ => rfl
  go_enter Tryz.func120, Tryz.ntmps120
  go_wp2
  exact bodyPost_ret (v := stepsV) (by simp [results, Tryz.results120, go_sem, stepsV]) rfl ⟨rfl, (Below.refl _ _).alloc (Nat.le_refl _) _⟩
theorem leads_plus (m : Value) (w : World) : (method 337 197 (.agg #[m]) "isochron/draw.plus").run Tryz.prog w = .ok (121, m) w := by kernel_rfl
theorem leads_folded (m : Value) (w : World) : (method 337 197 (.agg #[m]) "isochron/draw.folded").run Tryz.prog w = .ok (122, m) w := by kernel_rfl
theorem leads_times (m : Value) (w : World) : (method 337 197 (.agg #[m]) "isochron/draw.times").run Tryz.prog w = .ok (123, m) w := by kernel_rfl
theorem do0 (m m' : Nat) (h : m' = (m + mixC) % two64) (w : World) :
    Calls Tryz.prog 121 #[.int .u64 m, .int .u64 11400714819323198485] w fun e w' => e = .returned (.int .u64 (m' : Nat)) ∧ w = w' := by
  have p := plus_any m mixC w
  rw [← h] at p
  exact p
theorem do1 (m m' : Nat) (hm : m < 18446744073709551616) (h : m' = shx 30 m) (w : World) :
    Calls Tryz.prog 122 #[.int .u64 m, .int .u64 30] w fun e w' => e = .returned (.int .u64 (m' : Nat)) ∧ w = w' := by
  subst h; exact folded_any m 30 hm (by decide) w
theorem do2 (m m' : Nat) (h : m' = m * mixA % two64) (w : World) :
    Calls Tryz.prog 123 #[.int .u64 m, .int .u64 13787848793156543929] w fun e w' => e = .returned (.int .u64 (m' : Nat)) ∧ w = w' := by
  subst h; exact times_any m mixA w
theorem do3 (m m' : Nat) (hm : m < 18446744073709551616) (h : m' = shx 27 m) (w : World) :
    Calls Tryz.prog 122 #[.int .u64 m, .int .u64 27] w fun e w' => e = .returned (.int .u64 (m' : Nat)) ∧ w = w' := by
  subst h; exact folded_any m 27 hm (by decide) w
theorem do4 (m m' : Nat) (h : m' = m * mixB % two64) (w : World) :
    Calls Tryz.prog 123 #[.int .u64 m, .int .u64 10723151780598845931] w fun e w' => e = .returned (.int .u64 (m' : Nat)) ∧ w = w' := by
  subst h; exact times_any m mixB w
theorem do5 (m m' : Nat) (hm : m < 18446744073709551616) (h : m' = shx 31 m) (w : World) :
    Calls Tryz.prog 122 #[.int .u64 m, .int .u64 31] w fun e w' => e = .returned (.int .u64 (m' : Nat)) ∧ w = w' := by
  subst h; exact folded_any m 31 hm (by decide) w
theorem round_ends {w wr : World} {v v' : Value} {C : Array Value} {T : TypeId} (h0 : wr.cell? ⟨w.heap.size, 0, none⟩ = some v)
    (h1 : wr.frozen? ⟨w.heap.size, 0, none⟩ = false) (hb : Below w.heap.size w wr) (hs : w.heap.size < wr.heap.size) :
    ((wr.setCell ⟨w.heap.size, 0, none⟩ v').alloc (.cells C T)).cell? ⟨w.heap.size, 0, none⟩ = some v' ∧
    ((wr.setCell ⟨w.heap.size, 0, none⟩ v').alloc (.cells C T)).frozen? ⟨w.heap.size, 0, none⟩ = false ∧
    Below w.heap.size w ((wr.setCell ⟨w.heap.size, 0, none⟩ v').alloc (.cells C T)) ∧
    w.heap.size < ((wr.setCell ⟨w.heap.size, 0, none⟩ v').alloc (.cells C T)).heap.size := by
  refine ⟨?_, ?_, (hb.setCell (by simp) _).alloc (by simp; omega) _, by simp; omega⟩
  · rw [World.cell?_alloc_past _ _ _ (by simp; omega)]; exact World.cell?_setCell_same _ _ _ h0
  · rw [World.frozen?_alloc_past _ _ _ (by simp; omega)]; simp [h1]
theorem idx0 (w : World) : (Instr.index 201 stepsV (.int .i64 0)).run Tryz.prog w = .ok (.agg #[.func (.methodOf 197 "isochron/draw.plus") #[] #[], .int .u64 11400714819323198485]) w := by kernel_rfl
theorem idx1 (w : World) : (Instr.index 201 stepsV (.int .i64 1)).run Tryz.prog w = .ok (.agg #[.func (.methodOf 197 "isochron/draw.folded") #[] #[], .int .u64 30]) w := by kernel_rfl
theorem idx2 (w : World) : (Instr.index 201 stepsV (.int .i64 2)).run Tryz.prog w = .ok (.agg #[.func (.methodOf 197 "isochron/draw.times") #[] #[], .int .u64 13787848793156543929]) w := by kernel_rfl
theorem idx3 (w : World) : (Instr.index 201 stepsV (.int .i64 3)).run Tryz.prog w = .ok (.agg #[.func (.methodOf 197 "isochron/draw.folded") #[] #[], .int .u64 27]) w := by kernel_rfl
theorem idx4 (w : World) : (Instr.index 201 stepsV (.int .i64 4)).run Tryz.prog w = .ok (.agg #[.func (.methodOf 197 "isochron/draw.times") #[] #[], .int .u64 10723151780598845931]) w := by kernel_rfl
theorem idx5 (w : World) : (Instr.index 201 stepsV (.int .i64 5)).run Tryz.prog w = .ok (.agg #[.func (.methodOf 197 "isochron/draw.folded") #[] #[], .int .u64 31]) w := by kernel_rfl
/-- What is mixed behind k steps. -/
def stN (x k : Nat) : Nat :=
  if k = 0 then x else if k = 1 then (x + mixC) % two64 else if k = 2 then shx 30 ((x + mixC) % two64)
  else if k = 3 then shx 30 ((x + mixC) % two64) * mixA % two64
  else if k = 4 then shx 27 (shx 30 ((x + mixC) % two64) * mixA % two64)
  else if k = 5 then shx 27 (shx 30 ((x + mixC) % two64) * mixA % two64) * mixB % two64
  else mixN x
theorem stN_0 (x : Nat) : stN x 0 = x := by unfold stN; rw [if_pos (by decide)]
theorem stN_1 (x : Nat) : stN x 1 = (stN x 0 + mixC) % two64 := by rw [stN_0]; unfold stN; rw [if_neg (by decide), if_pos (by decide)]
theorem stN_2 (x : Nat) : stN x 2 = shx 30 (stN x 1) := by rw [stN_1, stN_0]; unfold stN; rw [if_neg (by decide), if_neg (by decide), if_pos (by decide)]
theorem stN_3 (x : Nat) : stN x 3 = stN x 2 * mixA % two64 := by rw [stN_2, stN_1, stN_0]; unfold stN; rw [if_neg (by decide), if_neg (by decide), if_neg (by decide), if_pos (by decide)]
theorem stN_4 (x : Nat) : stN x 4 = shx 27 (stN x 3) := by rw [stN_3, stN_2, stN_1, stN_0]; unfold stN; rw [if_neg (by decide), if_neg (by decide), if_neg (by decide), if_neg (by decide), if_pos (by decide)]
theorem stN_5 (x : Nat) : stN x 5 = stN x 4 * mixB % two64 := by rw [stN_4, stN_3, stN_2, stN_1, stN_0]; unfold stN; rw [if_neg (by decide), if_neg (by decide), if_neg (by decide), if_neg (by decide), if_neg (by decide), if_pos (by decide)]
theorem stN_end (x : Nat) : stN x 6 = mixN x := by unfold stN; rw [if_neg (by decide), if_neg (by decide), if_neg (by decide), if_neg (by decide), if_neg (by decide), if_neg (by decide)]
theorem stN_6 (x : Nat) : stN x 6 = shx 31 (stN x 5) := by rw [stN_end, stN_5, stN_4, stN_3, stN_2, stN_1, stN_0]; unfold mixN; rfl
theorem stN_six (x : Nat) : Ending.returned (.int .u64 (stN x 6 : Nat)) = .returned (.int .u64 (mixN x : Nat)) := by rw [stN_end]
theorem stN_lt {x : Nat} (hx : x < 18446744073709551616) (k : Nat) : stN x k < 18446744073709551616 := by
  unfold stN
  repeat' split
  · exact hx
  · exact Nat.mod_lt _ two64_pos
  · exact shx_lt (Nat.mod_lt _ two64_pos)
  · exact Nat.mod_lt _ two64_pos
  · exact shx_lt (Nat.mod_lt _ two64_pos)
  · exact Nat.mod_lt _ two64_pos
  · exact mixN_lt x
set_option maxHeartbeats 1600000 in
theorem mix_any (x : Nat) (hx : x < 18446744073709551616) (w : World) :
    Calls Tryz.prog 119 #[.int .u64 x] w fun e w' => e = .returned (.int .u64 (mixN x : Nat)) ∧ Below w.heap.size w w' := by
  have lP := leads_plus
  have lF := leads_folded
  have lT := leads_times
  go_enter Tryz.func119, Tryz.ntmps119
  go_wp2_with (go_at_call 120; refine (steps_any _).mono ?_; rintro e w1 ⟨rfl, hb⟩)
  have h0 : w1.cell? ⟨w.heap.size, 0, none⟩ = some (.int .u64 x) := by rw [hb.cell (p := ⟨_, 0, none⟩) (by simp)]; simp
  have h1 : w1.frozen? ⟨w.heap.size, 0, none⟩ = false := by rw [hb.frozen (p := ⟨_, 0, none⟩) (by simp)]; simp
  have hbw : Below w.heap.size w w1 := ((Below.refl _ _).alloc (Nat.le_refl _) _).trans (hb.mono (by simp))
  have hsz : w.heap.size < w1.heap.size := by have := hb.size; simp at this; omega
  clear hb
  go_loopw [9] (fun i wr => ∃ k : Nat, k ≤ 6 ∧ i = .int .i64 k ∧ wr.cell? ⟨w.heap.size, 0, none⟩ = some (.int .u64 (stN x k)) ∧ wr.frozen? ⟨w.heap.size, 0, none⟩ = false ∧ Below w.heap.size w wr ∧ w.heap.size < wr.heap.size) (fun i _ => 6 - (intOf i).toNat)
  case atStart => exact ⟨0, by omega, rfl, by rw [stN_0]; exact h0, h1, hbw, hsz⟩
  case round =>
    clear h0 h1 hbw hsz
    obtain ⟨k, hk, rfl, h0, h1, hbw, hsz⟩ := hrel
    by_cases hlt : k < 6
    · have hs := stN_lt hx k
      obtain rfl | rfl | rfl | rfl | rfl | rfl : k = 0 ∨ k = 1 ∨ k = 2 ∨ k = 3 ∨ k = 4 ∨ k = 5 := by omega
      · have ix := idx0
        have nx := stN_1 x
        generalize stN x 0 = m at h0 hs nx
        obtain ⟨m', hm⟩ : ∃ m', m' = stN x 1 := ⟨_, rfl⟩
        rw [← hm] at nx
        have nx' := Lib.hid nx
        have hm' := Lib.hid hm
        clear nx hm hlt hk
        go_upto_region 5 with (fail)
        clear ix
        go_wp2_with (go_at_call 121; refine (do0 _ _ nx'.out _).mono ?_; rintro e w3 ⟨rfl, rfl⟩)
        obtain ⟨g0, g1, g2, g3⟩ := round_ends (v' := .int .u64 (m' : Nat)) (C := #[.func (.methodOf 197 "isochron/draw.plus") #[] #[], .int .u64 11400714819323198485]) (T := 200) h0 h1 hbw hsz
        exact ⟨⟨1, by omega, rfl, by rw [← hm'.out]; exact g0, g1, g2, g3⟩, by simp [intOf]⟩
      · have ix := idx1
        have nx := stN_2 x
        generalize stN x 1 = m at h0 hs nx
        obtain ⟨m', hm⟩ : ∃ m', m' = stN x 2 := ⟨_, rfl⟩
        rw [← hm] at nx
        have nx' := Lib.hid nx
        have hm' := Lib.hid hm
        clear nx hm hlt hk
        go_upto_region 5 with (fail)
        clear ix
        go_wp2_with (go_at_call 122; refine (do1 _ _ hs nx'.out _).mono ?_; rintro e w3 ⟨rfl, rfl⟩)
        obtain ⟨g0, g1, g2, g3⟩ := round_ends (v' := .int .u64 (m' : Nat)) (C := #[.func (.methodOf 197 "isochron/draw.folded") #[] #[], .int .u64 30]) (T := 200) h0 h1 hbw hsz
        exact ⟨⟨2, by omega, rfl, by rw [← hm'.out]; exact g0, g1, g2, g3⟩, by simp [intOf]⟩
      · have ix := idx2
        have nx := stN_3 x
        generalize stN x 2 = m at h0 hs nx
        obtain ⟨m', hm⟩ : ∃ m', m' = stN x 3 := ⟨_, rfl⟩
        rw [← hm] at nx
        have nx' := Lib.hid nx
        have hm' := Lib.hid hm
        clear nx hm hlt hk
        go_upto_region 5 with (fail)
        clear ix
        go_wp2_with (go_at_call 123; refine (do2 _ _ nx'.out _).mono ?_; rintro e w3 ⟨rfl, rfl⟩)
        obtain ⟨g0, g1, g2, g3⟩ := round_ends (v' := .int .u64 (m' : Nat)) (C := #[.func (.methodOf 197 "isochron/draw.times") #[] #[], .int .u64 13787848793156543929]) (T := 200) h0 h1 hbw hsz
        exact ⟨⟨3, by omega, rfl, by rw [← hm'.out]; exact g0, g1, g2, g3⟩, by simp [intOf]⟩
      · have ix := idx3
        have nx := stN_4 x
        generalize stN x 3 = m at h0 hs nx
        obtain ⟨m', hm⟩ : ∃ m', m' = stN x 4 := ⟨_, rfl⟩
        rw [← hm] at nx
        have nx' := Lib.hid nx
        have hm' := Lib.hid hm
        clear nx hm hlt hk
        go_upto_region 5 with (fail)
        clear ix
        go_wp2_with (go_at_call 122; refine (do3 _ _ hs nx'.out _).mono ?_; rintro e w3 ⟨rfl, rfl⟩)
        obtain ⟨g0, g1, g2, g3⟩ := round_ends (v' := .int .u64 (m' : Nat)) (C := #[.func (.methodOf 197 "isochron/draw.folded") #[] #[], .int .u64 27]) (T := 200) h0 h1 hbw hsz
        exact ⟨⟨4, by omega, rfl, by rw [← hm'.out]; exact g0, g1, g2, g3⟩, by simp [intOf]⟩
      · have ix := idx4
        have nx := stN_5 x
        generalize stN x 4 = m at h0 hs nx
        obtain ⟨m', hm⟩ : ∃ m', m' = stN x 5 := ⟨_, rfl⟩
        rw [← hm] at nx
        have nx' := Lib.hid nx
        have hm' := Lib.hid hm
        clear nx hm hlt hk
        go_upto_region 5 with (fail)
        clear ix
        go_wp2_with (go_at_call 123; refine (do4 _ _ nx'.out _).mono ?_; rintro e w3 ⟨rfl, rfl⟩)
        obtain ⟨g0, g1, g2, g3⟩ := round_ends (v' := .int .u64 (m' : Nat)) (C := #[.func (.methodOf 197 "isochron/draw.times") #[] #[], .int .u64 10723151780598845931]) (T := 200) h0 h1 hbw hsz
        exact ⟨⟨5, by omega, rfl, by rw [← hm'.out]; exact g0, g1, g2, g3⟩, by simp [intOf]⟩
      · have ix := idx5
        have nx := stN_6 x
        generalize stN x 5 = m at h0 hs nx
        obtain ⟨m', hm⟩ : ∃ m', m' = stN x 6 := ⟨_, rfl⟩
        rw [← hm] at nx
        have nx' := Lib.hid nx
        have hm' := Lib.hid hm
        clear nx hm hlt hk
        go_upto_region 5 with (fail)
        clear ix
        go_wp2_with (go_at_call 122; refine (do5 _ _ hs nx'.out _).mono ?_; rintro e w3 ⟨rfl, rfl⟩)
        obtain ⟨g0, g1, g2, g3⟩ := round_ends (v' := .int .u64 (m' : Nat)) (C := #[.func (.methodOf 197 "isochron/draw.folded") #[] #[], .int .u64 31]) (T := 200) h0 h1 hbw hsz
        exact ⟨⟨6, by omega, rfl, by rw [← hm'.out]; exact g0, g1, g2, g3⟩, by simp [intOf]⟩
    · obtain rfl : k = 6 := by omega
      clear hlt hk
      have h6 := Lib.hid (stN_six x)
      go_wp2
      go_ret
      exact ⟨h6.out, hbw⟩
end Go.Proofs.YtminfmjgmmkaoaaGreatDoor
namespace Go.Proofs.YtminfmjgmmkaoaaGreatDoor
open Go.ChangeShapes Go.WideShapes Go.ChangeAt Go.RowKit
set_option maxRecDepth 4000

theorem mix_at (x : Nat) (v : Int) (h : v = (x : Nat)) (hx : x < 18446744073709551616) (w : World) :
    Calls Tryz.prog 119 #[.int .u64 v] w fun e w' => e = .returned (.int .u64 (mixN x : Nat)) ∧ Below w.heap.size w w' := by
  rw [h]; exact mix_any x hx w
theorem wrapU_uns (n : Int) : IntKind.u64.wrap n = ((unsN n : Nat) : Int) := by
  rw [IntKind.wrap_u64]; unfold unsN; omega
theorem wrapU_plus (a : Nat) (n : Int) : IntKind.u64.wrap ((a : Int) + IntKind.u64.wrap n) = (((a + unsN n) % two64 : Nat) : Int) := by
  rw [wrapU_uns n]; exact wrapU_add _ _
theorem at_any (seed : Nat) (hs : seed < 18446744073709551616) (self n : Int) (w : World) :
    Calls Tryz.prog 118 #[.int .u64 seed, .int .i64 self, .int .i64 n] w fun e w' => e = .returned (.int .u64 (atN seed self n : Nat)) ∧ Below w.heap.size w w' := by
  go_enter Tryz.func118, Tryz.ntmps118
  go_wp2_with fail
  refine (mix_any seed hs _).mono ?_
  rintro e w1 ⟨rfl, hb1⟩
  go_wp2_with fail
  refine (mix_at _ _ (wrapU_plus _ _) (Nat.mod_lt _ two64_pos) _).mono ?_
  rintro e w2 ⟨rfl, hb2⟩
  go_wp2_with fail
  refine (mix_at _ _ (wrapU_plus _ _) (Nat.mod_lt _ two64_pos) _).mono ?_
  rintro e w3 ⟨rfl, hb3⟩
  go_wp2_with fail
  go_ret
  exact ⟨rfl, (hb1.trans (hb2.mono hb1.size)).trans (hb3.mono (Nat.le_trans hb1.size hb2.size))⟩
theorem below_low (seed : Nat) (self n k : Int) (hk : k < 1) (w : World) :
    Calls Tryz.prog 113 #[.int .u64 seed, .int .i64 self, .int .i64 n, .int .i64 k] w fun e w' => e = .returned (.int .i64 0) ∧ w = w' := by
  go_enter Tryz.func113, Tryz.ntmps113
  go_wp2_with fail
  go_ret
  exact ⟨rfl, rfl⟩
theorem wrap64_rest (a k : Nat) (h1 : 1 ≤ k) (h2 : k ≤ 9223372036854775807) : wrap64 ((a : Int) % (k : Int)) = ((a % k : Nat) : Int) := by
  have h := Nat.mod_lt a (show 0 < k by omega)
  rw [← Int.natCast_emod]
  generalize a % k = r at *
  unfold wrap64
  omega
theorem ret_i64 {a b : Int} (h : a = b) : Ending.returned (.int .i64 a) = .returned (.int .i64 b) := by rw [h]
theorem below_any (seed : Nat) (hs : seed < 18446744073709551616) (self n : Int) (k : Nat) (h1 : 1 ≤ k) (h2 : k ≤ 9223372036854775807) (w : World) :
    Calls Tryz.prog 113 #[.int .u64 seed, .int .i64 self, .int .i64 n, .int .i64 k] w fun e w' => e = .returned (.int .i64 (atN seed self n % k : Nat)) ∧ Below w.heap.size w w' := by
  have hk : ¬ (k : Int) < 1 := by omega
  have hk0 : ¬ (k : Int) = 0 := by omega
  go_enter Tryz.func113, Tryz.ntmps113
  go_wp2_with fail
  refine (at_any seed hs _ _ _).mono ?_
  rintro e w1 ⟨rfl, hb1⟩
  go_wp2_with fail
  go_ret
  exact ⟨ret_i64 (wrap64_rest _ _ h1 h2), hb1⟩
end Go.Proofs.YtminfmjgmmkaoaaGreatDoor
