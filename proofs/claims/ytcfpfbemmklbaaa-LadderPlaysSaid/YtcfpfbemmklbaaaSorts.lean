
/-
  The contract of the document's Sorted, and the law that the program's is the document's.
-/
import Derived.Test.YtcfpfbemmklbaaaInsert
namespace Go.Proofs.Ytcfpfbemmklbaaa
open Go.ChangeShapes Go.WideShapes Go.ChangeAt Go.RowKit Go.Sort
set_option linter.unusedVariables false

set_option maxRecDepth 100000 in
set_option maxHeartbeats 4000000 in
theorem rInsert_nil (m : M) (w : World) :
    Calls Try.prog 39 #[.slice none 0 0, m.val] w fun e w' => ∃ v, e = .returned v ∧ Aside ((∃ base, w'.ownsRow base 34 7 v 1 (flat [m])) ∧ Below w.heap.size w w') := by
  have mixed := mixed
  obtain ⟨i0, hi, hz0, hz1, hz2⟩ := info_parts infoM
  have hbW : Hid (Below w.heap.size w (w.alloc (.cells m.cells 34))) := (Below.refl _ w).alloc (Nat.le_refl _) _
  have hm0 := Lib.hid (MsgAt.mk w m)
  obtain ⟨⟨mt, mf, ms⟩, mto, mv, mu, man⟩ := m
  simp only [M.val, M.cells] at hbW hm0 ⊢
  have k1 : ∀ w, (Instr.slice 38 (.slice none 0 0) none (some (.int .i64 0)) none).run Try.prog w = .ok (.slice none 0 0) w := fun _ => by kernel_rfl
  have k2 : ∀ w, (Instr.slice 38 (.slice none 0 0) (some (.int .i64 0)) none none).run Try.prog w = .ok (.slice none 0 0) w := fun _ => by kernel_rfl
  go_enter Try.func39, Try.ntmps39
  go_wp2
  generalize w.alloc (.cells #[.int .i64 mt, .int .i64 mf, .int .i64 ms, .int .i64 mto, .int .i64 mv, .int .i64 mu, .bool man] 34) = W0 at hbW hm0 ⊢
  generalize w.heap.size = B at hm0 ⊢
  obtain ⟨m, hm⟩ : ∃ m : M, m = ⟨⟨mt, mf, ms⟩, mto, mv, mu, man⟩ := ⟨_, rfl⟩
  have hm' := Lib.hid hm
  rw [← hm] at hm0
  clear hm
  refine wp_loop_rounds 1 ?_
  rw [rounds_succ]
  go_wp2_with fail
  refine wp_region_quiet_grown (by assumption) (by kernel_rfl) ?_
  repeat (first | go_big_quiet_step (fail) | quiet_step (fail))
  refine wpQuiet_nil ?_
  intro _ hw'
  obtain ⟨⟨nq, osq⟩, hw''⟩ := hw'
  subst hw''
  have hr1 : Read W0 (grow (W0.drewN nq) osq) := ⟨_, _, rfl⟩
  generalize grow (W0.drewN nq) osq = W1 at hr1 ⊢
  have hsz1 := hr1.size
  have hb4 : Hid (Below W0.heap.size W0 (W1.alloc (.cells #[] 34))) := hr1.below.alloc hsz1 _
  have hm4 := hm0.out.keep hb4.out
  obtain ⟨-, y0, y1, y2, y3, y4, y5, y6⟩ := hm4
  simp only [Nat.zero_add] at y0 y1 y2 y3 y4 y5 y6
  have hown4 : Hid ((W1.alloc (.cells #[] 34)).ownsRow W0.heap.size 34 7 (.slice (some ⟨W1.heap.size, 0, none⟩) 0 0) 0 []) := World.ownsRow_made W1 #[] 0 hsz1 (Nat.zero_le _) (by simp)
  have hsz4 := hb4.out.size
  go_upto_region 5 with (at_builtin; refine wpList_append_own_none rfl (.tmp 22) (.tmp 25) 38 rfl W0.heap.size 34 i0 7 Try.underlying38 hi _ 0 [] rfl hown4.out rfl ?_)
  generalize W1.alloc (.cells #[] 34) = w4 at y0 y1 y2 y3 y4 y5 y6 hb4 hown4 hsz4 ⊢
  generalize W1.heap.size = B1 at hown4 ⊢
  go_wp2_with (at_builtin; refine wpM rfl (.tmp 27) (.tmp 29) rfl W0.heap.size _ 0 [] rfl (hown4.out.alloc _) ⟨w4.heap.size, 0, none⟩ 1 1 [m] rfl rfl ?p3 ?p4 ?p5 ?_)
  case p3 => exact World.news_of_block (cs := m.cells) (t := 34) (fr := (0, 0)) (heap_alloc_new w4 _)
  case p4 => omega
  case p5 => simp; omega
  intro v2 w5 hown5 hgrow5
  have hown5' : Hid (w5.ownsRow W0.heap.size 34 7 v2 1 (flat [m])) := by
    have := hown5
    first | exact this | (simp only [Nat.zero_add, List.nil_append] at this; exact this)
  have hb5 : Hid (Below W0.heap.size W0 w5) := (hb4.out.alloc (by omega) _).grown hgrow5.out (by simp; omega) (fun k hk => (hown4.out.lt k hk).1)
  clear hown5 hgrow5 y0 y1 y2 y3 y4 y5 y6
  go_wp2_with (at_builtin; refine wpList_append_own_none rfl (.tmp 31) (.tmp 34) 38 rfl W0.heap.size 34 i0 7 Try.underlying38 hi _ 1 (flat [m]) rfl hown5'.out rfl ?_)
  go_wp2
  go_ret
  refine ⟨_, rfl, ⟨W0.heap.size, ?_⟩, hbW.out.trans (hb5.out.mono hbW.out.size)⟩
  have := hown5'.out
  rw [← hm'.out]
  exact this

/-- What Sorted has gathered. -/
def OutP (w : World) (v : Value) (k : Nat) (T : List M) : Prop := ∃ a c, v = .slice a k c ∧ Msgs w a k c T ∧ (k = 0 → a = none ∧ c = 0)
theorem rins_step {w : World} {v : Value} {ms : List M} {k : Nat} (h : OutP w v k (stab ltM (ms.take k))) (hk : k < ms.length) (hf : ∀ m ∈ ms, m.fits) (hr : ms.length * 56 ≤ 140737488351232) :
    Calls Try.prog 39 #[v, (ms.getD k default).val] w fun e w' => ∃ v', e = .returned v' ∧ Aside (OutP w' v' (k + 1) (stab ltM (ms.take (k + 1))) ∧ Below w.heap.size w w') := by
  have hsu : ms.take (k + 1) = ms.take k ++ [ms.getD k default] := by
    rw [List.take_succ_eq_append_getElem hk]
    simp [List.getD_eq_getElem?_getD, List.getElem?_eq_getElem hk]
  have hf' : ∀ m ∈ stab ltM (ms.take (k + 1)), m.fits := fun m hm => hf m (List.mem_of_mem_take ((stab_perm _).mem_iff.1 hm))
  rw [hsu, stab_snoc] at hf' ⊢
  generalize ms.getD k default = m at hf' ⊢
  obtain ⟨a, c, rfl, hM, hz⟩ := h
  have fin : ∀ v' w', (∃ base, w'.ownsRow base 34 7 v' (k + 1) (flat (mg ltM (stab ltM (ms.take k)) [m]))) → OutP w' v' (k + 1) (mg ltM (stab ltM (ms.take k)) [m]) := by
    rintro v' w' ⟨base, hown⟩
    obtain ⟨a', c', rfl, hM'⟩ := msgs_of_own hown hf'
    exact ⟨a', c', rfl, hM', fun h => by omega⟩
  by_cases h0 : k = 0
  · subst h0
    obtain ⟨rfl, rfl⟩ := hz rfl
    refine (rInsert_nil m w).mono ?_
    rintro e w' ⟨v', rfl, hq⟩
    refine ⟨v', rfl, fin v' w' ?_, hq.out.2⟩
    simpa [stab_nil, mg_nil_left] using hq.out.1
  · obtain ⟨b, off, rfl⟩ : ∃ b off, a = some ⟨b, off, none⟩ := by
      rcases hM.2.2.2.2 with h1 | ⟨b, off, ha, _⟩
      · exact absurd h1 h0
      · exact ⟨b, off, ha⟩
    refine (rInsert_some hM (by omega) (stab_inOrder ordM _) (by omega)).mono ?_
    rintro e w' ⟨v', rfl, hq⟩
    exact ⟨v', rfl, fin v' w' hq.out.1, hq.out.2⟩

end Go.Proofs.Ytcfpfbemmklbaaa
