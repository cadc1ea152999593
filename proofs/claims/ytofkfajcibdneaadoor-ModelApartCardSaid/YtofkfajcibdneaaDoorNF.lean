
/-
  The document's own Starts: a message for each start.
-/
import Derived.Test.YtofkfajcibdneaaDoorND
namespace Go.Proofs.YtofkfajcibdneaaDoor
open Go.ChangeShapes Go.WideShapes Go.ChangeAt Go.Shelf Go.RowKit Go.Lib Go.Sort Go.Deep
set_option linter.unusedVariables false
set_option linter.unusedSimpArgs false
set_option maxRecDepth 4000

/-- The message of start number i, as cells. -/
def msgC (s : Stt) (i : Nat) : List Value := [.int .i64 s.t, .int .i64 (-1), .int .i64 (i : Nat), .int .i64 s.dst, .int .i64 s.v, .int .i64 (i : Nat), .bool false]
def msgsU (ss : List Stt) : Nat → List Value
  | 0 => []
  | i + 1 => msgsU ss i ++ msgC (ss.getD i default) i
theorem msgC_one (s : Stt) (i : Nat) : ∀ u ∈ msgC s i, u.oneCell' = true := by
  intro u hu
  simp only [msgC, List.mem_cons, List.not_mem_nil, or_false] at hu
  rcases hu with rfl | rfl | rfl | rfl | rfl | rfl | rfl <;> rfl
theorem news_of13 {w : World} {g : Nat} {cs : List Value} {T : TypeId} (h : w.heap[g]? = some (.cells cs.toArray T (0, 0))) (j : Nat) (u : Value) (hj : cs[j]? = some u) : w.cell? ((⟨g, 0, none⟩ : Addr).add j) = some u := by
  rw [Addr.add_lit, Nat.zero_add, cell_of_row w g j _ T (0, 0) h]
  simpa using hj
theorem infoM13 : (Tryd.prog.info? 50).map (fun i => (i.zero, i.size, i.bytes)) = some (some (.agg #[.int .i64 0, .int .i64 0, .int .i64 0, .int .i64 0, .int .i64 0, .int .i64 0, .bool false]), 7, 56) := by kernel_rfl
structure StI (w : World) (B : Nat) (v : Mv) (M : Md) (i : Nat) (u : Value) (wr : World) : Prop where
  b : Below w.heap.size w wr
  hp : wr.heap[B]? = some (.cells (v.cells M) 27 (0, 0))
  md : Mds w v M
  base : w.heap.size ≤ B
  row : RowAt wr 50 7 u i (msgsU M.starts i)
  own : ∀ k, u.ownBlock = some k → w.heap.size ≤ k ∧ k ≠ B
section
variable {w wr w' : World} {B : Nat} {v : Mv} {M : Md} {i : Nat} {u : Value}
theorem StI.box (h : StI w B v M i u wr) : MdBox wr B v M := ⟨h.hp, h.md.below h.b⟩
theorem StI.below (h : StI w B v M i u wr) (hb : Below wr.heap.size wr w') : StI w B v M i u w' := ⟨h.b.trans (hb.mono h.b.size), (h.box.below hb).1, h.md, h.base, h.row.kept (S := fun _ => False) (.of_below hb) (fun _ _ e => e), h.own⟩
theorem StI.more (h : StI w B v M i u wr) {g off cap : Nat} (h1 : RowIn w' 50 7 g off (i + 1) cap (msgsU M.starts i ++ msgC (M.starts.getD i default) i)) (h2 : KeptOff (fun k => u.ownBlock = some k) wr w') (h3 : u.ownBlock = some g ∨ wr.heap.size ≤ g) :
    StI w B v M (i + 1) (.slice (some ⟨g, off, none⟩) (i + 1) cap) w' := by
  have hb : Below w.heap.size w w' := h.b.trans (h2.below (fun k _ e => (h.own k e).1) h.b.size)
  refine ⟨hb, (h2.block B h.box.lt (fun e => (h.own B e).2 rfl)).trans h.hp, h.md, h.base, .inr ⟨g, off, cap, rfl, h1⟩, fun k e => ?_⟩
  simp [Value.ownBlock] at e
  subst e
  rcases h3 with h3 | h3
  · exact h.own g h3
  · exact ⟨Nat.le_trans h.b.size h3, fun e => by have := h.box.lt; omega⟩
end
set_option maxHeartbeats 8000000 in
set_option maxRecDepth 100000 in
theorem r13Starts_any {w : World} {v : Mv} {M : Md} (h : Mds w v M) (hbig : v.sl ≤ 1099511627776) : Calls Tryd.prog 15 #[v.val M] w fun e w' => ∃ u, e = .returned u ∧ Hid (∃ B, StI w B v M M.starts.length u w') := by
  have mixed := mixed
  obtain ⟨pa, pl, pc, la, ll, lc, sa, sl, sc⟩ := v
  have hI0 : Hid (StI w w.heap.size ⟨pa, pl, pc, la, ll, lc, sa, sl, sc⟩ M 0 (.slice none 0 0) (w.alloc (.cells (Mv.cells ⟨pa, pl, pc, la, ll, lc, sa, sl, sc⟩ M) 27))) := ⟨(Below.refl _ w).alloc (Nat.le_refl _) _, heap_alloc_new w _, h, Nat.le_refl _, RowAt.nil _ _ _, fun k e => by cases e⟩
  have hsl : Hid (M.starts.length = sl) := h.2.2.1.1
  dsimp only at hbig
  have hmx : sl ≤ 9223372036854775807 := by omega
  obtain ⟨i0, hi0, hz0, hz1, hz2⟩ := info_parts13 infoM13
  clear h
  simp only [Mv.val, Mv.cells] at hI0 ⊢
  go_enter Tryd.func15, Tryd.ntmps15
  go_upto_region 1 with fail
  generalize w.heap.size = B at hI0 ⊢
  generalize w.alloc (.cells #[.slice pa pl pc, .slice la ll lc, .slice sa sl sc, .int .u64 M.seed, .int .i64 M.last, .int .i64 M.bud] 27) = W at *
  go_wp2
  go_loopw [3, 4] (fun s3 s4 wr => ∃ (i : Nat) (u : Value), i ≤ sl ∧ s4 = .int .i64 i ∧ s3 = u ∧ Hid (StI w B ⟨pa, pl, pc, la, ll, lc, sa, sl, sc⟩ M i u wr)) (fun _ s4 _ => sl - (intOf s4).toNat)
  case atStart => exact ⟨0, _, Nat.zero_le _, rfl, rfl, hI0⟩
  case round =>
    obtain ⟨i, u, hil, rfl, hu, hI⟩ := hrel
    obtain rfl := hu.symm
    clear hI0
    have c2 := hI.out.box.c2
    dsimp only at c2
    by_cases hi : i < sl
    · have hiz : (i : Int) < (sl : Int) := by omega
      have hi' := Lib.hid hi
      have hw1 : IntKind.i64.wrap ((i : Int) + 1) = (i : Int) + 1 := IntWalk.i64_in _ (by omega)
      obtain ⟨b, off, hsa, hst⟩ := hI.out.box.2.2.2.1.get hi
      dsimp only at hsa
      rw [hsa] at c2
      obtain ⟨s, hs⟩ : ∃ s, Hid (M.starts.getD i default = s) := ⟨_, Lib.hid rfl⟩
      rw [hs.out] at hst
      obtain ⟨hbl, x0, x1, x2⟩ := hst
      obtain ⟨dst, t, sv⟩ := s
      dsimp only at x0 x1 x2
      clear hi hsa
      go_upto_region 6 with fail
      have hbox := Lib.hid (heap_alloc_new wr (.cells #[.int .i64 dst, .int .i64 t, .int .i64 sv] 56))
      have hI1 := Lib.hid (hI.out.below ((Below.refl _ wr).alloc (Nat.le_refl _) (.cells #[.int .i64 dst, .int .i64 t, .int .i64 sv] 56)))
      generalize wr.heap.size = Bl at *
      generalize wr.alloc (.cells #[.int .i64 dst, .int .i64 t, .int .i64 sv] 56) = W1 at *
      clear x0 x1 x2 c2 hI
      have y0 := cell_of_block (o := 0) hbox.out rfl
      have y1 := cell_of_block (o := 1) hbox.out rfl
      have y2 := cell_of_block (o := 2) hbox.out rfl
      have hI2 := Lib.hid (hI1.out.below ((Below.refl _ W1).alloc (Nat.le_refl _) (.cells (msgC ⟨dst, t, sv⟩ i).toArray 50)))
      have hna := Lib.hid (heap_alloc_new W1 (.cells (msgC ⟨dst, t, sv⟩ i).toArray 50))
      have hnx : Hid (∀ g off cap w4, Hid (RowIn w4 50 7 g off (i + 1) cap (msgsU M.starts i ++ msgC ⟨dst, t, sv⟩ i)) → Hid (KeptOff (fun k => u.ownBlock = some k) (W1.alloc (.cells (msgC ⟨dst, t, sv⟩ i).toArray 50)) w4) → Hid (u.ownBlock = some g ∨ (W1.alloc (.cells (msgC ⟨dst, t, sv⟩ i).toArray 50)).heap.size ≤ g) → Hid (StI w B ⟨pa, pl, pc, la, ll, lc, sa, sl, sc⟩ M (i + 1) (.slice (some ⟨g, off, none⟩) (i + 1) cap) w4)) := Lib.hid (fun g off cap w4 r1 r2 r3 =>
        hI2.out.more (by rw [hs.out]; exact r1.out) r2.out r3.out)
      have hav := Lib.hid hI2.out.row
      have hne := Lib.hid (news_of13 hna.out)
      have hon := Lib.hid (msgC_one ⟨dst, t, sv⟩ i)
      clear hI1 hI2 hna hs hbox
      go_wp2_with (at_builtin; refine wpList_append_row rfl (.tmp 18) (.tmp 29) 45 rfl hav.out i0 _ 56 Tryd.underlying45 hi0 hz0 hz1 hz2 rfl (by omega) rfl ⟨W1.heap.size, 0, none⟩ 1 (msgC ⟨dst, t, sv⟩ i) rfl rfl hne.out hon.out (by have := hi'.out; unfold maxLen; omega) (by have := hi'.out; omega) ?_; intro g off2 cap2 w4 r1 r2 r3; have hn2 := hnx.out g off2 cap2 w4 r1 r2 r3; clear r1 r2 r3)
      go_roundw
      case rel => (repeat apply Exists.intro); first | exact ⟨⟨hi'.out, by go_num, rfl, hn2⟩, rfl⟩ | exact ⟨hi'.out, by go_num, rfl, hn2⟩ | exact ⟨hi'.out, by go_num, rfl, hn2, rfl⟩
      case measure => have := hi'.out; simp [intOf]; omega
    · obtain rfl : i = sl := by omega
      have hiz : ¬ (i : Int) < (i : Int) := by omega
      have hfin : Hid (∃ B, StI w B ⟨pa, pl, pc, la, ll, lc, sa, i, sc⟩ M M.starts.length u wr) := ⟨B, by rw [hsl.out]; exact hI.out⟩
      clear hI hi
      go_wp2
      go_ret
      exact ⟨_, rfl, hfin⟩
end Go.Proofs.YtofkfajcibdneaaDoor
