/-
  Slices of a list of entries; a list's blocks are none of a log's; what is dropped twice.
  The law of what is dropped: a world that may not be.
-/
import Derived.Test.YtminfmjgmmkaoaaGreatDoorIT
namespace Go.Proofs.YtminfmjgmmkaoaaGreatDoor
open Go.ChangeShapes Go.WideShapes Go.ChangeAt Go.Shelf Go.RowKit Go.Lib Go.Sort Go.Deep
set_option linter.unusedVariables false
set_option maxRecDepth 4000
set_option linter.unusedSimpArgs false

theorem dropN_take {T : List En} {t : Int} : ∀ e ∈ T.take (dropN T t), e.ev.k.t < t := by
  have h : T.take (dropN T t) = T.takeWhile fun e => decide (e.ev.k.t < t) := by
    unfold dropN
    exact List.prefix_iff_eq_take.1 (List.takeWhile_prefix _) |>.symm
  intro e he
  rw [h] at he
  have : ∀ (l : List En), e ∈ l.takeWhile (fun e => decide (e.ev.k.t < t)) → e.ev.k.t < t := fun l => by
    induction l with
    | nil => intro h; cases h
    | cons a l ih =>
      rw [List.takeWhile_cons]
      split
      · intro h
        rcases List.mem_cons.1 h with rfl | h
        · rename_i h1; simpa using h1
        · exact ih h
      · intro h; cases h
  exact this T he
theorem dropN_head : ∀ {T : List En} {t : Int} {x : En} {r : List En}, T.drop (dropN T t) = x :: r → t ≤ x.ev.k.t
  | [], t, x, r, h => by simp at h
  | a :: T, t, x, r, h => by
    by_cases ha : a.ev.k.t < t
    · have e : dropN (a :: T) t = dropN T t + 1 := by simp [dropN, List.takeWhile_cons, ha]
      rw [e, List.drop_succ_cons] at h
      exact dropN_head h
    · have e : dropN (a :: T) t = 0 := by simp [dropN, List.takeWhile_cons, ha]
      rw [e, List.drop_zero] at h
      obtain ⟨rfl, rfl⟩ : a = x ∧ T = r := by simpa using h
      omega
theorem dropN_again (T : List En) (t : Int) : dropN (T.drop (dropN T t)) t = 0 := by
  cases h : T.drop (dropN T t) with
  | nil => rfl
  | cons x r =>
    have := dropN_head h
    simp [dropN, List.takeWhile_cons, this]
/-- A part of a list of entries. -/
theorem EntsAt.sliced {w : World} {a : Option Addr} {n c : Nat} {L : List (En × Value)} (h : EntsAt w (.slice a n c) L) {l k : Nat} (hl : l ≤ k) (hk : k ≤ n) : EntsAt w (sliced a l k c 19) ((L.drop l).take (k - l)) := by
  refine ⟨?_, fun y hy => h.2 y (List.mem_of_mem_drop (List.mem_of_mem_take hy))⟩
  have hflat : ((L.drop l).take (k - l)).flatMap encE = ((L.flatMap encE).drop (l * 19)).take ((k - l) * 19) := by
    rw [← flatOf_drop encE_length L l]
    have : ∀ (M : List (En × Value)) (p : Nat), (M.take p).flatMap encE = (M.flatMap encE).take (p * 19) := fun M p => by
      have e := flatOf_length encE_length (M.take p)
      conv => rhs; rw [← List.take_append_drop p M]
      rw [List.flatMap_append]
      by_cases hp : p ≤ M.length
      · have e2 : ((M.take p).flatMap encE).length = p * 19 := by rw [e, List.length_take, Nat.min_eq_left hp]
        rw [List.take_left' e2]
      · rw [List.drop_of_length_le (by omega), List.flatMap_nil, List.append_nil]
        refine (List.take_of_length_le ?_).symm
        rw [e, List.length_take]
        exact Nat.mul_le_mul_right _ (Nat.min_le_left _ _)
    exact this _ _
  rcases h.1 with ⟨e, h0, _⟩ | ⟨g, off, cap, e, hr⟩
  · simp at e
    obtain ⟨rfl, rfl, rfl⟩ := e
    have hL : L = [] := List.eq_nil_of_length_eq_zero h0
    subst hL
    obtain rfl : k = 0 := by omega
    obtain rfl : l = 0 := by omega
    exact .inl ⟨by simp [Go.sliced], by simp, by simp⟩
  · simp at e
    obtain ⟨rfl, rfl, rfl⟩ := e
    have hb := hr.bounds
    have hlen : ((L.drop l).take (k - l)).length = k - l := by rw [List.length_take, List.length_drop]; omega
    rw [hflat, hlen]
    by_cases hc : c = l
    · obtain rfl : k = l := by omega
      refine .inr ⟨g, off, 0, by simp [Go.sliced, hc], ?_⟩
      obtain ⟨cur, h1, h2, h3, h4, h5, h6⟩ := hr
      rw [Nat.sub_self, Nat.zero_mul, List.take_zero]
      exact ⟨cur, h1, Nat.le_refl _, Nat.zero_le _, by omega, rfl, fun j u hj => by cases hj⟩
    · refine .inr ⟨g, off + l * 19, c - l, by simp [Go.sliced, hc, Addr.add], hr.part l (k - l) (by omega)⟩
section
variable {P : Program} {ρ : Operand → Value} {o : Oper} {w : World} {t : TypeId} {x y : Operand} {a : Option Addr} {n c h s : Nat} {k : IntKind}
theorem exec_slice_h (ho : o.op = .slice t x none (some y) none) (ht : P.underlying t = some (.slice (P.elem t))) (hs : (sizeOf (P.elem t)).run P w = .ok s w) (hx : ρ x = .slice a n c) (hy : ρ y = .int k (h : Int)) (hh : h ≤ c) : (execOp ρ o).run P w = .ok (.value (sliced a 0 h c s)) w := by
  unfold execOp
  simp only [ho, Option.map, hx, hy]
  simp only [Sem.run_bind, run_sliceAt_slice w t _ _ _ _ ht, run_slice_h w t a n c ht k (h : Int) (by omega) (by omega), hs, Result.andThen, Sem.run_pure, Int.toNat_natCast]
theorem exec_slice_l (ho : o.op = .slice t x (some y) none none) (ht : P.underlying t = some (.slice (P.elem t))) (hs : (sizeOf (P.elem t)).run P w = .ok s w) (hx : ρ x = .slice a n c) (hy : ρ y = .int k (h : Int)) (hh : h ≤ n) : (execOp ρ o).run P w = .ok (.value (sliced a h n c s)) w := by
  unfold execOp
  simp only [ho, Option.map, hx, hy]
  simp only [Sem.run_bind, run_sliceAt_slice w t _ _ _ _ ht, run_slice_l w t a n c ht k (h : Int) (by omega) (by omega), hs, Result.andThen, Sem.run_pure, Int.toNat_natCast]
end
theorem sizeEn (w : World) : (sizeOf (Tryz.prog.elem 47)).run Tryz.prog w = .ok 19 w := by kernel_rfl
theorem undEn : Tryz.prog.underlying 47 = some (.slice (Tryz.prog.elem 47)) := by kernel_rfl
/-- A log's blocks. -/
theorem LogIs.off {b w : World} {lb c : Nat} {v : Wv} {W : Wd} {every : Int} {sv : Value} {ss : List Sth} {st : Sta} {stuck : Bool} (h : LogIs b w lb v W every sv ss st stuck c) {k : Nat} {cur : Array Value} {e : TypeId} (hk : w.heap[k]? = some (.cells cur e (0, 0))) (h1 : e ≠ 71) (h2 : e ≠ 68) (h3 : e ≠ 101) : ¬ LOwn lb sv ss k := fun e0 => by
  rcases e0 with rfl | e0 | ⟨s, hs, e0⟩
  · rw [h.of.row] at hk
    simp at hk
    exact h1 hk.2.symm
  · obtain ⟨c0, h4⟩ := h.of.rd.svt k e0
    rw [h4] at hk
    simp at hk
    exact h2 hk.2.symm
  · obtain ⟨c0, h4⟩ := h.of.rd.stt hs k e0
    rw [h4] at hk
    simp at hk
    exact h3 hk.2.symm
theorem LogIs.offV {b w : World} {lb c : Nat} {v : Wv} {W : Wd} {every : Int} {sv : Value} {ss : List Sth} {st : Sta} {stuck : Bool} (h : LogIs b w lb v W every sv ss st stuck c) {x : Value} {e : TypeId} (hk : TagV w e x) (h1 : e ≠ 71) (h2 : e ≠ 68) (h3 : e ≠ 101) : ∀ k, x.ownBlock = some k → ¬ LOwn lb sv ss k := fun k e0 => by
  obtain ⟨cur, h4⟩ := hk k e0
  exact h.off h4 h1 h2 h3
theorem LogIs.offE {b w : World} {lb c : Nat} {v : Wv} {W : Wd} {every : Int} {sv : Value} {ss : List Sth} {st : Sta} {stuck : Bool} (h : LogIs b w lb v W every sv ss st stuck c) {x : Value} {L : List (En × Value)} (hE : EntsAt w x L) : ∀ k, EOwn x L k → ¬ LOwn lb sv ss k := fun k e0 => by
  rcases e0 with e0 | ⟨y, hy, e0⟩
  · obtain ⟨cur, h4⟩ := RowAt.tag hE.1 e0
    exact h.off h4 (by decide) (by decide) (by decide)
  · exact h.offV (hE.2 y hy).2 (by decide) (by decide) (by decide) k e0
/-- The events' list. -/
def EvsAt (w : World) (a : Option Addr) (n c : Nat) (bs : List Int) : Prop := Mgs w a n c (evs bs n) ∧ TagV w 42 (.slice a n c)
theorem EvsAt.kept {S : Nat → Prop} {w w' : World} {a : Option Addr} {n c : Nat} {bs : List Int} (h : EvsAt w a n c bs) (hk : KeptOff S w w') (hn : ∀ k, (Value.slice a n c).ownBlock = some k → ¬ S k) : EvsAt w' a n c bs := ⟨h.1.keptOff hk hn, h.2.kept hk hn⟩
theorem EvsAt.below {w w' : World} {a : Option Addr} {n c : Nat} {bs : List Int} (h : EvsAt w a n c bs) (hb : Below w.heap.size w w') : EvsAt w' a n c bs := ⟨h.1.below hb, h.2.below hb⟩
theorem EvsAt.of_own {w : World} {base n c : Nat} {a : Option Addr} {bs : List Int} (h : w.ownsRow base 42 7 (.slice a n c) n (flatM (evs bs n))) : EvsAt w a n c bs := by
  refine ⟨mgs_of_own h, fun k e => ?_⟩
  rcases h.2 with ⟨h0, _⟩ | ⟨g, cap, cur, hv, hb, hg, _⟩
  · rw [h0] at e; cases e
  · rw [hv] at e
    simp [Value.ownBlock] at e
    subst e
    exact ⟨cur, hg⟩
theorem evs_get {bs : List Int} {n i : Nat} (h : i < n) : (evs bs n).getD i default = evM bs i := by
  simp [evs, List.getD_eq_getElem?_getD, h]
end Go.Proofs.YtminfmjgmmkaoaaGreatDoor
namespace Go.Proofs.YtminfmjgmmkaoaaGreatDoor
open Go.ChangeShapes Go.WideShapes Go.ChangeAt Go.Shelf Go.RowKit Go.Lib Go.Sort Go.Deep
set_option linter.unusedVariables false
set_option maxRecDepth 4000
set_option linter.unusedSimpArgs false

set_option maxHeartbeats 4000000 in
theorem drops_bad {w : World} {v : Wv} {W : Wd} {t e : Int} {eb : Addr} {kv : Value} (he : 0 ≤ e ∧ e ≤ 255) (hW : Wds w v W) (hE : ErrIs w eb) (hT : ErrT w) (hc : checkW W ≠ 0) :
    Calls Tryz.prog 6 #[v.val W, kv, .int .u8 t, .int .u8 e] w fun e w' => e = .returned (.bool true) ∧ Below w.heap.size w w' := by
  obtain ⟨he0, he1⟩ := he
  have hk0 : 0 ≤ e.tmod 20 ∧ e.tmod 20 < 20 := by rw [Int.tmod_eq_emod_of_nonneg he0]; omega
  obtain ⟨k, hk⟩ : ∃ k, e.tmod 20 = k := ⟨_, rfl⟩
  rw [hk] at hk0
  obtain ⟨hk1, hk2⟩ := hk0
  have hb0 := fun (o1 : Obj) => Lib.hid ((Below.refl _ w).alloc (Nat.le_refl _) o1)
  have hnew := fun (o1 : Obj) => lgNew_bad (every := 1 + k) (hW.below (hb0 o1).out) (hE.below (hb0 o1).out) hc
  have hck := Lib.hid (fun (w' : World) (hb : Below w.heap.size w w') => vmCheck_any (hW.below hb) (hE.below hb))
  have haw := Lib.hid (fun (w' : World) (hb : Below w.heap.size w w') => awake10_any (hE.below hb))
  have hR0 := fun (o1 : Obj) => Lib.hid (heap_alloc_new w o1)
  have hc' : (checkW W != 0) = true := by simpa using hc
  generalize checkW W = z at *
  clear hW hE hT hc
  simp only [Wv.val, Sta.val, Sta.cells, Sta.zero, List.map_cons, List.map_nil, List.cons_append, List.nil_append] at *
  go_enter Tryz.func6, Tryz.ntmps6
  go_wp2_with fail
  refine (hnew _).mono ?_
  rintro e w1 ⟨rfl, hb1⟩
  have hB1 := Lib.hid ((hb0 (.cells #[.slice v.pa v.pl v.pc, .int .i64 W.self, .slice v.la v.ll v.lc, .int .u64 W.seed] 26)).out.trans (hb1.mono (by simp)))
  obtain ⟨c0, c1, c2, c3⟩ := row4 ((hb1.block _ (by simp)).trans (hR0 (.cells #[.slice v.pa v.pl v.pc, .int .i64 W.self, .slice v.la v.ll v.lc, .int .u64 W.seed] 26)).out)
  have hk1 := hck.out w1 hB1.out
  clear hnew hb0 hR0 hb1 hck
  go_wp2_with fail
  refine hk1.mono ?_
  rintro e w2 ⟨rfl, hr2⟩
  have hB2 := Lib.hid (hB1.out.trans (hr2.below.mono hB1.out.size))
  have hk2 := haw.out w2 hB2.out
  clear hk1 hr2 c0 c1 c2 c3 haw hB1
  go_wp2_with fail
  refine hk2.mono ?_
  rintro e w3 ⟨rfl, hb3⟩
  have hB3 := Lib.hid (hB2.out.trans (hb3.mono hB2.out.size))
  clear hk2 hb3 hB2
  go_wp2
  go_ret
  exact ⟨rfl, hB3.out⟩
end Go.Proofs.YtminfmjgmmkaoaaGreatDoor
