
/-
  The document's own Ways: the places of the links from a process.
-/
import Derived.Test.YtofkfajcibdneaaDoorNC
namespace Go.Proofs.YtofkfajcibdneaaDoor
open Go.ChangeShapes Go.WideShapes Go.ChangeAt Go.Shelf Go.RowKit Go.Lib Go.Sort Go.Deep
set_option linter.unusedVariables false
set_option linter.unusedSimpArgs false
set_option maxRecDepth 4000

/-- Places as cells. -/
def nats (l : List Nat) : List Value := l.map fun (z : Nat) => .int .i64 z
theorem nats_len (l : List Nat) : (nats l).length = l.length := by simp [nats]
theorem nats_get {l : List Nat} {i : Nat} (h : i < l.length) : (nats l)[i]? = some (.int .i64 (l.getD i 0 : Nat)) := by simp [nats, List.getD_eq_getElem?_getD, h]
theorem nats_snoc (l : List Nat) (z : Nat) : nats (l ++ [z]) = nats l ++ [.int .i64 (z : Nat)] := by simp [nats]
/-- The places among the first i links that end there. -/
def waysU (f : Lk → Int) (ls : List Lk) (n : Int) (i : Nat) : List Nat := (List.range i).filter fun j => decide (f (ls.getD j default) = n)
theorem waysU_yes {f : Lk → Int} {ls : List Lk} {n : Int} {i : Nat} (h : f (ls.getD i default) = n) : waysU f ls n (i + 1) = waysU f ls n i ++ [i] := by
  simp only [waysU, List.range_succ, List.filter_append, List.filter_cons, List.filter_nil, decide_eq_true h, if_true]
theorem waysU_no {f : Lk → Int} {ls : List Lk} {n : Int} {i : Nat} (h : ¬ f (ls.getD i default) = n) : waysU f ls n (i + 1) = waysU f ls n i := by
  simp only [waysU, List.range_succ, List.filter_append, List.filter_cons, List.filter_nil, decide_eq_false h, Bool.false_eq_true, if_false, List.append_nil]
theorem waysU_len (f : Lk → Int) (ls : List Lk) (n : Int) (i : Nat) : (waysU f ls n i).length ≤ i := by
  have := List.length_filter_le (fun j => decide (f (ls.getD j default) = n)) (List.range i)
  simpa [waysU] using this
theorem cell_one_new13 (w : World) (u : Value) (t : TypeId) (j : Nat) (y : Value) (h : [u][j]? = some y) : (w.alloc (.cells #[u] t)).cell? ((⟨w.heap.size, 0, none⟩ : Addr).add j) = some y := by
  have hj : j = 0 := by
    have := (List.getElem?_eq_some_iff.1 h).1
    simpa using this
  subst hj
  simp at h
  subst h
  rw [Addr.add_lit]
  exact cell_of_block (heap_alloc_new w _) rfl
theorem info_parts13 {P : Program} {t : TypeId} {z : Option Value} {a b : Nat} (h : (P.info? t).map (fun i => (i.zero, i.size, i.bytes)) = some (z, a, b)) : ∃ i, P.info? t = some i ∧ i.zero = z ∧ i.size = a ∧ i.bytes = b := by
  cases hq : P.info? t with
  | none => simp [hq] at h
  | some i =>
    simp [hq] at h
    exact ⟨i, rfl, h.1, h.2.1, h.2.2⟩
theorem infoN13 : (Tryd.prog.info? 3).map (fun i => (i.zero, i.size, i.bytes)) = some (some (.int .i64 0), 1, 8) := by kernel_rfl
/-- What stands between two rounds of a list of places. -/
structure WayI (w : World) (f : Lk → Int) (B : Nat) (v : Mv) (M : Md) (n : Int) (i : Nat) (u : Value) (wr : World) : Prop where
  b : Below w.heap.size w wr
  hp : wr.heap[B]? = some (.cells (v.cells M) 27 (0, 0))
  md : Mds w v M
  base : w.heap.size ≤ B
  row : RowAt wr 3 1 u (waysU f M.links n i).length (nats (waysU f M.links n i))
  own : ∀ k, u.ownBlock = some k → w.heap.size ≤ k ∧ k ≠ B
section
variable {w wr w' : World} {f : Lk → Int} {B : Nat} {v : Mv} {M : Md} {n : Int} {i : Nat} {u : Value}
theorem WayI.box (h : WayI w f B v M n i u wr) : MdBox wr B v M := ⟨h.hp, h.md.below h.b⟩
theorem WayI.no (h : WayI w f B v M n i u wr) (hn : ¬ f (M.links.getD i default) = n) : WayI w f B v M n (i + 1) u wr := ⟨h.b, h.hp, h.md, h.base, by rw [waysU_no hn]; exact h.row, h.own⟩
theorem WayI.below (h : WayI w f B v M n i u wr) (hb : Below wr.heap.size wr w') : WayI w f B v M n i u w' := ⟨h.b.trans (hb.mono h.b.size), (h.box.below hb).1, h.md, h.base, h.row.kept (S := fun _ => False) (.of_below hb) (fun _ _ e => e), h.own⟩
theorem WayI.yes (h : WayI w f B v M n i u wr) (hn : f (M.links.getD i default) = n) {g off cap : Nat} (h1 : RowIn w' 3 1 g off ((waysU f M.links n i).length + 1) cap (nats (waysU f M.links n i) ++ [.int .i64 (i : Nat)])) (h2 : KeptOff (fun k => u.ownBlock = some k) wr w') (h3 : u.ownBlock = some g ∨ wr.heap.size ≤ g) :
    WayI w f B v M n (i + 1) (.slice (some ⟨g, off, none⟩) ((waysU f M.links n i).length + 1) cap) w' := by
  have hb : Below w.heap.size w w' := h.b.trans (h2.below (fun k _ e => (h.own k e).1) h.b.size)
  refine ⟨hb, (h2.block B h.box.lt (fun e => (h.own B e).2 rfl)).trans h.hp, h.md, h.base, by rw [waysU_yes hn, nats_snoc, List.length_append]; exact .inr ⟨g, off, cap, rfl, h1⟩, fun k e => ?_⟩
  simp [Value.ownBlock] at e
  subst e
  rcases h3 with h3 | h3
  · exact h.own g h3
  · exact ⟨Nat.le_trans h.b.size h3, fun e => by have := h.box.lt; omega⟩
end
set_option maxHeartbeats 8000000 in
set_option maxRecDepth 100000 in
theorem r13Ways_any {w : World} {v : Mv} {M : Md} (h : Mds w v M) (n : Int) (hbig : v.ll ≤ 17592186044416) : Calls Tryd.prog 26 #[v.val M, .int .i64 n] w fun e w' => ∃ u, e = .returned u ∧ Hid (∃ B, WayI w (·.src) B v M n M.links.length u w') := by
  have mixed := mixed
  have hI0 : Hid (WayI w (·.src) w.heap.size v M n 0 (.slice none 0 0) (w.alloc (.cells (v.cells M) 27))) := ⟨(Below.refl _ w).alloc (Nat.le_refl _) _, heap_alloc_new w _, h, Nat.le_refl _, RowAt.nil _ _ _, fun k e => by cases e⟩
  have hll : Hid (M.links.length = v.ll) := h.2.1.1
  have hmx : v.ll ≤ 9223372036854775807 := by omega
  obtain ⟨i0, hi0, hz0, hz1, hz2⟩ := info_parts13 infoN13
  clear h
  simp only [Mv.val, Mv.cells] at hI0 ⊢
  go_enter Tryd.func26, Tryd.ntmps26
  go_upto_region 1 with fail
  generalize w.heap.size = B at hI0 ⊢
  generalize w.alloc (.cells #[.slice v.pa v.pl v.pc, .slice v.la v.ll v.lc, .slice v.sa v.sl v.sc, .int .u64 M.seed, .int .i64 M.last, .int .i64 M.bud] 27) = W at *
  go_wp2
  go_loopw [5, 6] (fun s5 s6 wr => ∃ (i : Nat) (u : Value), i ≤ v.ll ∧ s6 = .int .i64 i ∧ s5 = u ∧ Hid (WayI w (·.src) B v M n i u wr)) (fun _ s6 _ => v.ll - (intOf s6).toNat)
  case atStart => exact ⟨0, _, Nat.zero_le _, rfl, rfl, hI0⟩
  case round =>
    obtain ⟨i, u, hil, rfl, hu, hI⟩ := hrel
    obtain rfl := hu.symm
    clear hI0
    have c1 := hI.out.box.c1
    by_cases hi : i < v.ll
    · have hiz : (i : Int) < (v.ll : Int) := by omega
      have hi' := Lib.hid hi
      have hw1 : IntKind.i64.wrap ((i : Int) + 1) = (i : Int) + 1 := IntWalk.i64_in _ (by omega)
      obtain ⟨b, off, hla, hlk⟩ := hI.out.box.2.2.1.get hi
      rw [hla] at c1
      obtain ⟨l, hl⟩ : ∃ l, Hid (M.links.getD i default = l) := ⟨_, Lib.hid rfl⟩
      rw [hl.out] at hlk
      obtain ⟨hbl, x0, -, -, -⟩ := hlk
      by_cases hs : l.src = n
      · have hav := Lib.hid ((hI.out.below ((Below.refl _ wr).alloc (Nat.le_refl _) (.cells #[.int .i64 (i : Nat)] 3))).row)
        have hnx : Hid (∀ g off cap w4, Hid (RowIn w4 3 1 g off ((waysU (·.src) M.links n i).length + 1) cap (nats (waysU (·.src) M.links n i) ++ [.int .i64 (i : Nat)])) → Hid (KeptOff (fun k => u.ownBlock = some k) (wr.alloc (.cells #[.int .i64 (i : Nat)] 3)) w4) → Hid (u.ownBlock = some g ∨ (wr.alloc (.cells #[.int .i64 (i : Nat)] 3)).heap.size ≤ g) → Hid (WayI w (·.src) B v M n (i + 1) (.slice (some ⟨g, off, none⟩) ((waysU (·.src) M.links n i).length + 1) cap) w4)) := Lib.hid (fun g off cap w4 r1 r2 r3 =>
          (hI.out.below ((Below.refl _ wr).alloc (Nat.le_refl _) (.cells #[.int .i64 (i : Nat)] 3))).yes (by rw [hl.out]; exact hs) r1.out r2.out r3.out)
        have hwl : Hid ((waysU (·.src) M.links n i).length ≤ i) := waysU_len _ _ _ _
        generalize (waysU (·.src) M.links n i).length = wl at *
        rw [hs] at x0
        clear hI hi hs hla
        go_wp2_with (at_builtin; refine wpList_append_row rfl (.tmp 22) (.tmp 24) 52 rfl hav.out i0 _ 8 Tryd.underlying52 hi0 hz0 hz1 hz2 rfl (by omega) rfl ⟨wr.heap.size, 0, none⟩ 1 [.int .i64 (i : Nat)] rfl rfl (cell_one_new13 _ _ _) (by simp [Value.oneCell']) (by have := hwl.out; have := hi'.out; unfold maxLen; omega) (by have := hwl.out; have := hi'.out; omega) ?_; intro g off2 cap2 w4 r1 r2 r3; have hn2 := hnx.out g off2 cap2 w4 r1 r2 r3; clear r1 r2 r3)
        go_roundw
        case rel => (repeat apply Exists.intro); first | exact ⟨⟨hi'.out, by go_num, rfl, hn2⟩, rfl⟩ | exact ⟨hi'.out, by go_num, rfl, hn2⟩ | exact ⟨hi'.out, by go_num, rfl, hn2, rfl⟩
        case measure => have := hi'.out; simp [intOf]; omega
      · have hs2 : (l.src == n) = false := by simp [hs]
        have hn2 : Hid (WayI w (·.src) B v M n (i + 1) u wr) := hI.out.no (by rw [hl.out]; exact hs)
        generalize l.src = src at *
        clear hI hi hla
        go_wp2
        go_roundw
        case rel => (repeat apply Exists.intro); first | exact ⟨⟨hi'.out, by go_num, rfl, hn2⟩, rfl⟩ | exact ⟨hi'.out, by go_num, rfl, hn2⟩ | exact ⟨hi'.out, by go_num, rfl, hn2, rfl⟩
        case measure => have := hi'.out; simp [intOf]; omega
    · obtain rfl : i = v.ll := by omega
      have hiz : ¬ (v.ll : Int) < (v.ll : Int) := by omega
      have hfin : Hid (∃ B, WayI w (·.src) B v M n M.links.length u wr) := ⟨B, by rw [hll.out]; exact hI.out⟩
      clear hI hi
      go_wp2
      go_ret
      exact ⟨_, rfl, hfin⟩
end Go.Proofs.YtofkfajcibdneaaDoor
