
/-
  The document's Insert at an empty list that is not nil.
-/
import Derived.Test.YticffeklmhcniaaYPI
import Derived.Test.YticffeklmhcniaaYPB
namespace Go.Proofs.Yticffeklmhcniaa
open Go.ChangeShapes Go.WideShapes Go.ChangeAt Go.Shelf Go.RowKit Go.Lib Go.Sort Go.Deep Go.Maps
set_option linter.unusedVariables false

set_option maxRecDepth 100000 in
set_option maxHeartbeats 4000000 in
theorem rInsertF_empty (m : M) (w : World) (b off cap : Nat) (hcap : cap ≤ 9223372036854775807) :
    Calls Try.prog 37 #[.slice (some ⟨b, off, none⟩) 0 cap, m.val] w fun e w' => ∃ v, e = .returned v ∧ Aside ((∃ base, w.heap.size ≤ base ∧ w'.ownsRow base 34 7 v 1 (flat [m])) ∧ Below w.heap.size w w') := by
  have mixed := mixed
  obtain ⟨i0, hi, hz0, hz1, hz2⟩ := info_parts infoM
  have hbW : Hid (Below w.heap.size w (w.alloc (.cells m.cells 34))) := (Below.refl _ w).alloc (Nat.le_refl _) _
  have hm0 := Lib.hid (MsgAt.mk w m)
  obtain ⟨⟨mt, mf, ms⟩, mto, mv, mu, man⟩ := m
  simp only [M.val, M.cells] at hbW hm0 ⊢
  go_enter Try.func37, Try.ntmps37
  go_wp2
  generalize w.alloc (.cells #[.int .i64 mt, .int .i64 mf, .int .i64 ms, .int .i64 mto, .int .i64 mv, .int .i64 mu, .bool man] 34) = W0 at hbW hm0 ⊢
  generalize w.heap.size = B at hm0 ⊢
  obtain ⟨m, hm⟩ : ∃ m : M, m = ⟨⟨mt, mf, ms⟩, mto, mv, mu, man⟩ := ⟨_, rfl⟩
  have hm' := Lib.hid hm
  rw [← hm] at hm0
  clear hm
  refine wp_loop_rounds 1 ?_
  rw [rounds_succ]
  go_wp2_with fail
  refine wp_region_quiet_grown (by assumption) (by kernel_rfl) ?_
  repeat (first | go_big_quiet_step (fail) | quiet_step (fail))
  refine wpQuiet_nil ?_
  intro _ hw'
  obtain ⟨⟨nq, osq⟩, hw''⟩ := hw'
  subst hw''
  have hr1 : Read W0 (grow (W0.drewN nq) osq) := ⟨_, _, rfl⟩
  generalize grow (W0.drewN nq) osq = W1 at hr1 ⊢
  have hsz1 := hr1.size
  have hb4 : Hid (Below W0.heap.size W0 (W1.alloc (.cells #[] 34))) := hr1.below.alloc hsz1 _
  have hm4 := hm0.out.keep hb4.out
  obtain ⟨-, y0, y1, y2, y3, y4, y5, y6⟩ := hm4
  simp only [Nat.zero_add] at y0 y1 y2 y3 y4 y5 y6
  have hown4 : Hid ((W1.alloc (.cells #[] 34)).ownsRow W0.heap.size 34 7 (.slice (some ⟨W1.heap.size, 0, none⟩) 0 0) 0 []) := World.ownsRow_made W1 #[] 0 hsz1 (Nat.zero_le _) (by simp)
  have hsz4 := hb4.out.size
  go_upto_region 5 with (at_builtin; refine wpM rfl (.tmp 22) (.tmp 25) rfl W0.heap.size _ 0 [] rfl hown4.out ⟨b, off, none⟩ 0 cap [] rfl rfl ?p0 ?p1 ?p2 ?_)
  case p0 => intro j u hj; simp [flat] at hj
  case p1 => omega
  case p2 => exact hsz4
  intro v4 w4 hown4b hgrow4
  have hb4b : Hid (Below W0.heap.size W0 w4) := hb4.out.grown hgrow4.out hsz4 (fun k hk => (hown4.out.lt k hk).1)
  have hown4b' := Lib.hid hown4b
  have hm4b := hm0.out.keep hb4b.out
  clear y0 y1 y2 y3 y4 y5 y6 hb4 hown4 hgrow4 hown4b
  obtain ⟨-, y0, y1, y2, y3, y4, y5, y6⟩ := hm4b
  simp only [Nat.zero_add] at y0 y1 y2 y3 y4 y5 y6
  have hsz5 := hb4b.out.size
  go_wp2_with (at_builtin; refine wpM rfl (.tmp 27) (.tmp 29) rfl W0.heap.size _ 0 [] rfl (hown4b'.out.alloc _) ⟨w4.heap.size, 0, none⟩ 1 1 [m] rfl rfl ?p3 ?p4 ?p5 ?_)
  case p3 => exact World.news_of_block (cs := m.cells) (t := 34) (fr := (0, 0)) (heap_alloc_new w4 _)
  case p4 => omega
  case p5 => simp; omega
  intro v2 w5 hown5 hgrow5
  have hown5' : Hid (w5.ownsRow W0.heap.size 34 7 v2 1 (flat [m])) := by
    have := hown5
    first | exact this | (simp only [Nat.zero_add, List.nil_append] at this; exact this)
  have hb5 : Hid (Below W0.heap.size W0 w5) := (hb4b.out.alloc (by omega) _).grown hgrow5.out (by simp; omega) (fun k hk => (hown4b'.out.lt k hk).1)
  clear hown5 hgrow5 y0 y1 y2 y3 y4 y5 y6
  have hsz6 := hb5.out.size
  go_wp2_with (at_builtin; refine wpM rfl (.tmp 31) (.tmp 34) rfl W0.heap.size _ 1 (flat [m]) rfl hown5'.out ⟨b, off, none⟩ 0 cap [] rfl rfl ?p6 ?p7 ?p8 ?_)
  case p6 => intro j u hj; simp [flat] at hj
  case p7 => omega
  case p8 => exact hsz6
  intro v6 w6 hown6 hgrow6
  have hown6' : Hid (w6.ownsRow W0.heap.size 34 7 v6 1 (flat [m])) := by
    have e : flat [m] ++ flat [] = flat [m] := by simp [flat]
    rw [e] at hown6
    exact hown6
  have hb6 : Hid (Below W0.heap.size W0 w6) := hb5.out.grown hgrow6.out hsz6 (fun k hk => (hown5'.out.lt k hk).1)
  clear hown6 hgrow6
  go_wp2
  go_ret
  refine ⟨_, rfl, ⟨W0.heap.size, hbW.out.size, ?_⟩, hbW.out.trans (hb6.out.mono hbW.out.size)⟩
  have := hown6'.out
  rw [← hm'.out]
  exact this
end Go.Proofs.Yticffeklmhcniaa
