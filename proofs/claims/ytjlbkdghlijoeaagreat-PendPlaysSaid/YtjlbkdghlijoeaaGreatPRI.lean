/-
  The contract of the document's Sorted, and the law that the program's is the document's.
  The document's Insert, with the word that its answer lies in a new block.
-/
import Derived.Test.YtjlbkdghlijoeaaGreatInsert
namespace Go.Proofs.YtjlbkdghlijoeaaGreat
open Go.ChangeShapes Go.WideShapes Go.ChangeAt Go.RowKit Go.Sort
set_option linter.unusedVariables false

set_option maxRecDepth 100000 in
set_option maxHeartbeats 4000000 in
theorem rInsert_nil (m : M) (w : World) :
    Calls Tryz.prog 33 #[.slice none 0 0, m.val] w fun e w' => ∃ v, e = .returned v ∧ Aside ((∃ base, w'.ownsRow base 34 7 v 1 (flat [m])) ∧ Below w.heap.size w w') := by
  have mixed := mixed
  obtain ⟨i0, hi, hz0, hz1, hz2⟩ := info_parts infoM
  have hbW : Hid (Below w.heap.size w (w.alloc (.cells m.cells 34))) := (Below.refl _ w).alloc (Nat.le_refl _) _
  have hm0 := Lib.hid (MsgAt.mk w m)
  obtain ⟨⟨mt, mf, ms⟩, mto, mv, mu, man⟩ := m
  simp only [M.val, M.cells] at hbW hm0 ⊢
  have k1 : ∀ w, (Instr.slice 38 (.slice none 0 0) none (some (.int .i64 0)) none).run Tryz.prog w = .ok (.slice none 0 0) w := fun _ => by kernel_rfl
  have k2 : ∀ w, (Instr.slice 38 (.slice none 0 0) (some (.int .i64 0)) none none).run Tryz.prog w = .ok (.slice none 0 0) w := fun _ => by kernel_rfl
  go_enter Tryz.func33, Tryz.ntmps33
  go_wp2
  generalize w.alloc (.cells #[.int .i64 mt, .int .i64 mf, .int .i64 ms, .int .i64 mto, .int .i64 mv, .int .i64 mu, .bool man] 34) = W0 at hbW hm0 ⊢
  generalize w.heap.size = B at hm0 ⊢
  obtain ⟨m, hm⟩ : ∃ m : M, m = ⟨⟨mt, mf, ms⟩, mto, mv, mu, man⟩ := ⟨_, rfl⟩
  have hm' := Lib.hid hm
  rw [← hm] at hm0
  clear hm
  refine wp_loop_rounds 1 ?_
  rw [rounds_succ]
  go_wp2_with fail
  refine wp_region_quiet_grown (by assumption) (by kernel_rfl) ?_
  repeat (first | go_big_quiet_step (fail) | quiet_step (fail))
  refine wpQuiet_nil ?_
  intro _ hw'
  obtain ⟨⟨nq, osq⟩, hw''⟩ := hw'
  subst hw''
  have hr1 : Read W0 (grow (W0.drewN nq) osq) := ⟨_, _, rfl⟩
  generalize grow (W0.drewN nq) osq = W1 at hr1 ⊢
  have hsz1 := hr1.size
  have hb4 : Hid (Below W0.heap.size W0 (W1.alloc (.cells #[] 34))) := hr1.below.alloc hsz1 _
  have hm4 := hm0.out.keep hb4.out
  obtain ⟨-, y0, y1, y2, y3, y4, y5, y6⟩ := hm4
  simp only [Nat.zero_add] at y0 y1 y2 y3 y4 y5 y6
  have hown4 : Hid ((W1.alloc (.cells #[] 34)).ownsRow W0.heap.size 34 7 (.slice (some ⟨W1.heap.size, 0, none⟩) 0 0) 0 []) := World.ownsRow_made W1 #[] 0 hsz1 (Nat.zero_le _) (by simp)
  have hsz4 := hb4.out.size
  go_upto_region 5 with (at_builtin; refine wpList_append_own_none rfl (.tmp 22) (.tmp 25) 38 rfl W0.heap.size 34 i0 7 Tryz.underlying38 hi _ 0 [] rfl hown4.out rfl ?_)
  generalize W1.alloc (.cells #[] 34) = w4 at y0 y1 y2 y3 y4 y5 y6 hb4 hown4 hsz4 ⊢
  generalize W1.heap.size = B1 at hown4 ⊢
  go_wp2_with (at_builtin; refine wpM rfl (.tmp 27) (.tmp 29) rfl W0.heap.size _ 0 [] rfl (hown4.out.alloc _) ⟨w4.heap.size, 0, none⟩ 1 1 [m] rfl rfl ?p3 ?p4 ?p5 ?_)
  case p3 => exact World.news_of_block (cs := m.cells) (t := 34) (fr := (0, 0)) (heap_alloc_new w4 _)
  case p4 => omega
  case p5 => simp; omega
  intro v2 w5 hown5 hgrow5
  have hown5' : Hid (w5.ownsRow W0.heap.size 34 7 v2 1 (flat [m])) := by
    have := hown5
    first | exact this | (simp only [Nat.zero_add, List.nil_append] at this; exact this)
  have hb5 : Hid (Below W0.heap.size W0 w5) := (hb4.out.alloc (by omega) _).grown hgrow5.out (by simp; omega) (fun k hk => (hown4.out.lt k hk).1)
  clear hown5 hgrow5 y0 y1 y2 y3 y4 y5 y6
  go_wp2_with (at_builtin; refine wpList_append_own_none rfl (.tmp 31) (.tmp 34) 38 rfl W0.heap.size 34 i0 7 Tryz.underlying38 hi _ 1 (flat [m]) rfl hown5'.out rfl ?_)
  go_wp2
  go_ret
  refine ⟨_, rfl, ⟨W0.heap.size, ?_⟩, hbW.out.trans (hb5.out.mono hbW.out.size)⟩
  have := hown5'.out
  rw [← hm'.out]
  exact this

/-- What Sorted has gathered. -/
def OutP (w : World) (v : Value) (k : Nat) (T : List M) : Prop := ∃ a c, v = .slice a k c ∧ Msgs w a k c T ∧ (k = 0 → a = none ∧ c = 0)
theorem rins_step {w : World} {v : Value} {ms : List M} {k : Nat} (h : OutP w v k (stab ltM (ms.take k))) (hk : k < ms.length) (hf : ∀ m ∈ ms, m.fits) (hr : ms.length * 56 ≤ 140737488351232) :
    Calls Tryz.prog 33 #[v, (ms.getD k default).val] w fun e w' => ∃ v', e = .returned v' ∧ Aside (OutP w' v' (k + 1) (stab ltM (ms.take (k + 1))) ∧ Below w.heap.size w w') := by
  have hsu : ms.take (k + 1) = ms.take k ++ [ms.getD k default] := by
    rw [List.take_succ_eq_append_getElem hk]
    simp [List.getD_eq_getElem?_getD, List.getElem?_eq_getElem hk]
  have hf' : ∀ m ∈ stab ltM (ms.take (k + 1)), m.fits := fun m hm => hf m (List.mem_of_mem_take ((stab_perm _).mem_iff.1 hm))
  rw [hsu, stab_snoc] at hf' ⊢
  generalize ms.getD k default = m at hf' ⊢
  obtain ⟨a, c, rfl, hM, hz⟩ := h
  have fin : ∀ v' w', (∃ base, w'.ownsRow base 34 7 v' (k + 1) (flat (mg ltM (stab ltM (ms.take k)) [m]))) → OutP w' v' (k + 1) (mg ltM (stab ltM (ms.take k)) [m]) := by
    rintro v' w' ⟨base, hown⟩
    obtain ⟨a', c', rfl, hM'⟩ := msgs_of_own hown hf'
    exact ⟨a', c', rfl, hM', fun h => by omega⟩
  by_cases h0 : k = 0
  · subst h0
    obtain ⟨rfl, rfl⟩ := hz rfl
    refine (rInsert_nil m w).mono ?_
    rintro e w' ⟨v', rfl, hq⟩
    refine ⟨v', rfl, fin v' w' ?_, hq.out.2⟩
    simpa [stab_nil, mg_nil_left] using hq.out.1
  · obtain ⟨b, off, rfl⟩ : ∃ b off, a = some ⟨b, off, none⟩ := by
      rcases hM.2.2.2.2 with h1 | ⟨b, off, ha, _⟩
      · exact absurd h1 h0
      · exact ⟨b, off, ha⟩
    refine (rInsert_some hM (by omega) (stab_inOrder ordM _) (by omega)).mono ?_
    rintro e w' ⟨v', rfl, hq⟩
    exact ⟨v', rfl, fin v' w' hq.out.1, hq.out.2⟩

end Go.Proofs.YtjlbkdghlijoeaaGreat
namespace Go.Proofs.YtjlbkdghlijoeaaGreat
open Go.ChangeShapes Go.WideShapes Go.ChangeAt Go.RowKit Go.Sort
set_option linter.unusedVariables false

set_option maxRecDepth 100000 in
set_option maxHeartbeats 8000000 in
theorem rInsertF_some {w : World} {b off n cap : Nat} {S : List M} {m : M} (h : Msgs w (some ⟨b, off, none⟩) n cap S) (h1 : 1 ≤ n) (hO : InOrder ltM S) (hr : (n + 1) * 56 ≤ 140737488355328) :
    Calls Tryz.prog 33 #[.slice (some ⟨b, off, none⟩) n cap, m.val] w fun e w' => ∃ v, e = .returned v ∧ Aside ((∃ base, w.heap.size ≤ base ∧ w'.ownsRow base 34 7 v (n + 1) (flat (mg ltM S [m]))) ∧ Below w.heap.size w w') := by
  have mixed := mixed
  have hlen := Lib.hid h.1
  have hnc := h.2.1
  have hcm : cap ≤ 9223372036854775807 := by have := h.2.2.1; unfold maxLen at *; omega
  have hO := Lib.hid hO
  have hbW : Hid (Below w.heap.size w (w.alloc (.cells m.cells 34))) := (Below.refl _ w).alloc (Nat.le_refl _) _
  have hS0 := Lib.hid (h.below hbW.out)
  have hm0 := Lib.hid (MsgAt.mk w m)
  clear h
  have hcon := fun t f s to v u an t' f' s' to' v' u' an' w => rBefore_any ⟨⟨t, f, s⟩, to, v, u, an⟩ ⟨⟨t', f', s'⟩, to', v', u', an'⟩ w
  simp only [M.val] at hcon
  obtain ⟨⟨mt, mf, ms⟩, mto, mv, mu, man⟩ := m
  simp only [M.val, M.cells] at hbW hS0 hm0 ⊢
  go_enter Tryz.func33, Tryz.ntmps33
  go_wp2
  generalize w.alloc (.cells #[.int .i64 mt, .int .i64 mf, .int .i64 ms, .int .i64 mto, .int .i64 mv, .int .i64 mu, .bool man] 34) = W0 at hbW hS0 hm0 ⊢
  generalize w.heap.size = B at hm0 ⊢
  have hBlt := hm0.out.1
  obtain ⟨m, hm⟩ : ∃ m : M, m = ⟨⟨mt, mf, ms⟩, mto, mv, mu, man⟩ := ⟨_, rfl⟩
  have hm' := Lib.hid hm
  rw [← hm] at hm0
  clear hm
  go_loopw [5] (fun i wr => ∃ k : Nat, k ≤ n ∧ i = .int .i64 k ∧ Read W0 wr ∧ Aside (∀ j, k ≤ j → j < n → ltM m (S.getD j default) = true)) (fun i _ => (intOf i).toNat)
  case atStart => exact ⟨n, Nat.le_refl _, rfl, Read.refl _, fun j h1 h2 => by omega⟩
  case round =>
    obtain ⟨k, hk, rfl, hrk, hall⟩ := hrel
    have hm1 := hm0.out.read hrk
    by_cases hk0 : 0 < k
    · have hz0 : (0 : Int) < (k : Int) := by omega
      obtain ⟨km, hkm⟩ : ∃ km : Nat, km = k - 1 := ⟨_, rfl⟩
      have hkz : (k : Int) - 1 = (km : Int) := by omega
      have hkl : km < n := by omega
      clear hkm
      have e3 : (km : Int) < (n : Int) := by omega
      have e4 : IntKind.i64.wrap (km : Int) = (km : Int) := by rw [IntKind.wrap_i64]; omega
      obtain ⟨b', off', hbb, hmm⟩ : ∃ b' off', (some ⟨b, off, none⟩ : Option Addr) = some ⟨b', off', none⟩ ∧ ∀ i, i < n → MsgAt W0 b' (off' + i * 7) (S.getD i default) := by
        rcases hS0.out.2.2.2.2 with h0 | h1
        · omega
        · exact h1
      cases hbb
      have hy := (hmm km hkl).read hrk
      clear hmm
      have hnext : Hid (ltM m (S.getD km default) = true → ∀ j, km ≤ j → j < n → ltM m (S.getD j default) = true) := fun h j h1 h2 => by
        by_cases e : j = km
        · subst e; exact h
        · exact hall.out j (by omega) h2
      have hq : ∀ c, ltM m (S.getD km default) = c → Hid (ltM m (S.getD km default) = c) := fun _ h => h
      cases hc : ltM m (S.getD km default) with
      | true =>
        have hnx := Lib.hid (hnext.out hc)
        clear hnext hq hall
        generalize S.getD km default = y at hy hc
        rw [hm'.out] at hc hm1
        obtain ⟨⟨t1, f1, s1⟩, to1, v1, u1, an1⟩ := y
        have hxa := fun n os => hm1.read ⟨n, os, rfl⟩
        have hya := fun n os => hy.read ⟨n, os, rfl⟩
        simp only [MsgAt, forall_and, Nat.zero_add] at hxa hya
        obtain ⟨-, x0, x1, x2, x3, x4, x5, x6⟩ := hxa
        obtain ⟨-, y0, y1, y2, y3, y4, y5, y6⟩ := hya
        clear hm1 hy
        go_wp2_with fail
        refine wp_region_quiet_grown (by assumption) (by kernel_rfl) ?_
        repeat (first | go_big_quiet_step ((go_at_call 37; exact Calls.read_of (hcon _ _ _ _ _ _ _ _ _ _ _ _ _ _ _))) | quiet_step ((go_at_call 37; exact Calls.read_of (hcon _ _ _ _ _ _ _ _ _ _ _ _ _ _ _))))
        refine wpQuiet_nil ?_
        intro _ hw'
        obtain ⟨⟨nq, osq⟩, hw''⟩ := hw'
        subst hw''
        clear e3 e4
        go_wp2
        go_roundw
        case rel => exact ⟨km, by omega, by rw [← hkz], hrk.trans ⟨_, _, rfl⟩, hnx.out⟩
        case measure => simp [intOf]; omega
      | false =>
        have hcut : Hid (k = 0 ∨ ltM m (S.getD (k - 1) default) = false) := .inr (by rw [show k - 1 = km by omega]; exact hc)
        clear hnext hq
        generalize S.getD km default = y at hy hc
        have hm2 := Lib.hid hm1
        rw [hm'.out] at hc hm1
        obtain ⟨⟨t1, f1, s1⟩, to1, v1, u1, an1⟩ := y
        have hxa := fun n os => hm1.read ⟨n, os, rfl⟩
        have hya := fun n os => hy.read ⟨n, os, rfl⟩
        simp only [MsgAt, forall_and, Nat.zero_add] at hxa hya
        obtain ⟨-, x0, x1, x2, x3, x4, x5, x6⟩ := hxa
        obtain ⟨-, y0, y1, y2, y3, y4, y5, y6⟩ := hya
        clear hm1 hy
        go_wp2_with fail
        refine wp_region_quiet_grown (by assumption) (by kernel_rfl) ?_
        repeat (first | go_big_quiet_step ((go_at_call 37; exact Calls.read_of (hcon _ _ _ _ _ _ _ _ _ _ _ _ _ _ _))) | quiet_step ((go_at_call 37; exact Calls.read_of (hcon _ _ _ _ _ _ _ _ _ _ _ _ _ _ _))))
        refine wpQuiet_nil ?_
        intro _ hw'
        obtain ⟨⟨nq, osq⟩, hw''⟩ := hw'
        subst hw''
        have hr1 : Read W0 (grow (wr.drewN nq) osq) := hrk.trans ⟨_, _, rfl⟩
        generalize grow (wr.drewN nq) osq = W1 at hr1 ⊢
        clear e3 e4 hkz hc hcon x0 x1 x2 x3 x4 x5 x6 y0 y1 y2 y3 y4 y5 y6 hm2 hrk hz0
        have hk' : k ≤ S.length := by rw [hlen.out]; exact hk
        have hmg : Hid (mg ltM S [m] = S.take k ++ [m] ++ S.drop k) := insert_at hO.out hk' (by rw [hlen.out]; exact hall.out) hcut.out
        clear hall hcut
        have hS1 := Lib.hid (hS0.out.read hr1)
        have hm1 := hm0.out.read hr1
        have hsz1 := hr1.size
        have hn7 : Hid (k + 1 ≤ maxLen ∧ n + 1 ≤ maxLen) := ⟨by unfold maxLen; omega, by unfold maxLen; omega⟩
        by_cases hkc : cap = k
        · obtain rfl : n = k := by omega
          obtain rfl : n = cap := by omega
          clear hkc
          go_wp2_with (at_builtin; refine wpM rfl (.tmp 22) (.tmp 25) rfl W0.heap.size _ 0 [] rfl ?o1 ⟨b, off, none⟩ n n (S.take n) rfl ?o2 ?o3 ?o4 ?o5 ?_)
          case o1 => exact World.ownsRow_made W1 #[] 0 hsz1 (Nat.zero_le _) (by simp)
          case o2 => rw [List.length_take, hlen.out]; omega
          case o3 => exact fun j u hj => Lib.cell?_alloc_some _ (take_cells hS1.out n (by omega) j u hj)
          case o4 => omega
          case o5 => first | (simp; done) | (simp; omega)
          intro v1 w4 hown4 hgrow4
          have hown4' : Hid (w4.ownsRow W0.heap.size 34 7 v1 n (flat (S.take n))) := by
            have := hown4
            first | exact this | (simp only [Nat.zero_add, List.nil_append] at this; exact this)
          have hb4 : Hid (Below W0.heap.size W0 w4) := ((hr1.below.alloc hsz1 _)).grown hgrow4.out (by first | (simp; done) | (simp; omega)) (by intro k hk; simp [Value.ownBlock] at hk; omega)
          have hm4 := hm0.out.keep hb4.out
          clear hown4 hgrow4
          obtain ⟨-, y0, y1, y2, y3, y4, y5, y6⟩ := hm4
          simp only [Nat.zero_add] at y0 y1 y2 y3 y4 y5 y6
          go_wp2_with (at_builtin; refine wpM rfl (.tmp 27) (.tmp 29) rfl W0.heap.size _ n (flat (S.take n)) rfl (hown4'.out.alloc _) ⟨w4.heap.size, 0, none⟩ 1 1 [m] rfl rfl ?p3 ?p4 ?p5 ?_)
          case p3 => exact World.news_of_block (cs := m.cells) (t := 34) (fr := (0, 0)) (heap_alloc_new w4 _)
          case p4 => omega
          case p5 => have := hb4.out.size; first | (simp; done) | (simp; omega)
          intro v2 w5 hown5 hgrow5
          rw [← flat_append] at hown5
          have hown5' := Lib.hid hown5
          have hb5 : Hid (Below W0.heap.size W0 w5) := (hb4.out.alloc (by have := hb4.out.size; omega) _).grown hgrow5.out (by have := hb4.out.size; first | (simp; done) | (simp; omega)) (fun k hk => (hown4'.out.lt k hk).1)
          clear hown5 hgrow5 y0 y1 y2 y3 y4 y5 y6
          have hS5 := Lib.hid (hS0.out.keep hb5.out)
          go_wp2_with (at_builtin; refine wpM rfl (.tmp 31) (.tmp 34) rfl W0.heap.size _ (n + 1) (flat (S.take n ++ [m])) rfl hown5'.out ⟨b, off, none⟩ 0 0 (S.drop n) rfl ?q2 ?q3 ?q4 ?q5 ?_)
          case q2 => rw [List.length_drop, hlen.out]; try omega
          case q3 => exact fun j u hj => (by rw [List.drop_of_length_le (by rw [hlen.out]; exact Nat.le_refl _)] at hj; simp [flat] at hj)
          case q4 => omega
          case q5 => exact hb5.out.size
          intro v3 w6 hown6 hgrow6
          rw [← flat_append, ← hmg.out] at hown6
          have hown6' := Lib.hid hown6
          have hb6 : Hid (Below W0.heap.size W0 w6) := hb5.out.grown hgrow6.out hb5.out.size (fun k hk => (hown5'.out.lt k hk).1)
          clear hown6 hgrow6
          go_wp2
          go_ret
          refine ⟨_, rfl, ⟨W0.heap.size, hbW.out.size, ?_⟩, hbW.out.trans (hb6.out.mono hbW.out.size)⟩
          have := hown6'.out
          rw [← hm'.out]
          simpa using this
        · go_wp2_with (at_builtin; refine wpM rfl (.tmp 22) (.tmp 25) rfl W0.heap.size _ 0 [] rfl ?o1 ⟨b, off, none⟩ k cap (S.take k) rfl ?o2 ?o3 ?o4 ?o5 ?_)
          case o1 => exact World.ownsRow_made W1 #[] 0 hsz1 (Nat.zero_le _) (by simp)
          case o2 => rw [List.length_take, hlen.out]; omega
          case o3 => exact fun j u hj => Lib.cell?_alloc_some _ (take_cells hS1.out k (by omega) j u hj)
          case o4 => omega
          case o5 => first | (simp; done) | (simp; omega)
          intro v1 w4 hown4 hgrow4
          have hown4' : Hid (w4.ownsRow W0.heap.size 34 7 v1 k (flat (S.take k))) := by
            have := hown4
            first | exact this | (simp only [Nat.zero_add, List.nil_append] at this; exact this)
          have hb4 : Hid (Below W0.heap.size W0 w4) := ((hr1.below.alloc hsz1 _)).grown hgrow4.out (by first | (simp; done) | (simp; omega)) (by intro k hk; simp [Value.ownBlock] at hk; omega)
          have hm4 := hm0.out.keep hb4.out
          clear hown4 hgrow4
          obtain ⟨-, y0, y1, y2, y3, y4, y5, y6⟩ := hm4
          simp only [Nat.zero_add] at y0 y1 y2 y3 y4 y5 y6
          go_wp2_with (at_builtin; refine wpM rfl (.tmp 27) (.tmp 29) rfl W0.heap.size _ k (flat (S.take k)) rfl (hown4'.out.alloc _) ⟨w4.heap.size, 0, none⟩ 1 1 [m] rfl rfl ?p3 ?p4 ?p5 ?_)
          case p3 => exact World.news_of_block (cs := m.cells) (t := 34) (fr := (0, 0)) (heap_alloc_new w4 _)
          case p4 => omega
          case p5 => have := hb4.out.size; first | (simp; done) | (simp; omega)
          intro v2 w5 hown5 hgrow5
          rw [← flat_append] at hown5
          have hown5' := Lib.hid hown5
          have hb5 : Hid (Below W0.heap.size W0 w5) := (hb4.out.alloc (by have := hb4.out.size; omega) _).grown hgrow5.out (by have := hb4.out.size; first | (simp; done) | (simp; omega)) (fun k hk => (hown4'.out.lt k hk).1)
          clear hown5 hgrow5 y0 y1 y2 y3 y4 y5 y6
          have hS5 := Lib.hid (hS0.out.keep hb5.out)
          go_wp2_with (at_builtin; refine wpM rfl (.tmp 31) (.tmp 34) rfl W0.heap.size _ (k + 1) (flat (S.take k ++ [m])) rfl hown5'.out ⟨b, off + k * 7, none⟩ (n - k) (cap - k) (S.drop k) rfl ?q2 ?q3 ?q4 ?q5 ?_)
          case q2 => rw [List.length_drop, hlen.out]; try omega
          case q3 => exact fun j u hj => drop_cells hS5.out k (by omega) j u hj
          case q4 => omega
          case q5 => exact hb5.out.size
          intro v3 w6 hown6 hgrow6
          rw [← flat_append, ← hmg.out] at hown6
          have hown6' := Lib.hid hown6
          have hb6 : Hid (Below W0.heap.size W0 w6) := hb5.out.grown hgrow6.out hb5.out.size (fun k hk => (hown5'.out.lt k hk).1)
          clear hown6 hgrow6
          go_wp2
          go_ret
          refine ⟨_, rfl, ⟨W0.heap.size, hbW.out.size, ?_⟩, hbW.out.trans (hb6.out.mono hbW.out.size)⟩
          have := hown6'.out
          rw [← hm'.out]
          rwa [show k + 1 + (n - k) = n + 1 by omega] at this

    · obtain rfl : k = 0 := by omega
      have hcut : Hid ((0 : Nat) = 0 ∨ ltM m (S.getD (0 - 1) default) = false) := .inl rfl
      go_wp2_with fail
      refine wp_region_quiet_grown (by assumption) (by kernel_rfl) ?_
      repeat (first | go_big_quiet_step (fail) | quiet_step (fail))
      refine wpQuiet_nil ?_
      intro _ hw'
      obtain ⟨⟨nq, osq⟩, hw''⟩ := hw'
      subst hw''
      have hr1 : Read W0 (grow (wr.drewN nq) osq) := hrk.trans ⟨_, _, rfl⟩
      generalize grow (wr.drewN nq) osq = W1 at hr1 ⊢
      clear hcon hm1 hrk
      have hk' : 0 ≤ S.length := Nat.zero_le _
      have hmg : Hid (mg ltM S [m] = [m] ++ S) := by
        have := insert_at hO.out hk' (by rw [hlen.out]; exact hall.out) (.inl rfl)
        show mg ltM S [m] = [m] ++ S
        simpa using this
      clear hall hcut
      have hS1 := Lib.hid (hS0.out.read hr1)
      have hm1 := hm0.out.read hr1
      have hsz1 := hr1.size
      go_wp2_with (at_builtin; refine wpM rfl (.tmp 22) (.tmp 25) rfl W0.heap.size _ 0 [] rfl ?o1 ⟨b, off, none⟩ 0 cap (S.take 0) rfl ?o2 ?o3 ?o4 ?o5 ?_)
      case o1 => exact World.ownsRow_made W1 #[] 0 hsz1 (Nat.zero_le _) (by simp)
      case o2 => rw [List.length_take, hlen.out]; omega
      case o3 => exact fun j u hj => Lib.cell?_alloc_some _ (take_cells hS1.out 0 (by omega) j u hj)
      case o4 => omega
      case o5 => first | (simp; done) | (simp; omega)
      intro v1 w4 hown4 hgrow4
      have hown4' : Hid (w4.ownsRow W0.heap.size 34 7 v1 0 (flat (S.take 0))) := by
        have := hown4
        first | exact this | (simp only [Nat.zero_add, List.nil_append] at this; exact this)
      have hb4 : Hid (Below W0.heap.size W0 w4) := ((hr1.below.alloc hsz1 _)).grown hgrow4.out (by first | (simp; done) | (simp; omega)) (by intro k hk; simp [Value.ownBlock] at hk; omega)
      have hm4 := hm0.out.keep hb4.out
      clear hown4 hgrow4
      obtain ⟨-, y0, y1, y2, y3, y4, y5, y6⟩ := hm4
      simp only [Nat.zero_add] at y0 y1 y2 y3 y4 y5 y6
      go_wp2_with (at_builtin; refine wpM rfl (.tmp 27) (.tmp 29) rfl W0.heap.size _ 0 (flat (S.take 0)) rfl (hown4'.out.alloc _) ⟨w4.heap.size, 0, none⟩ 1 1 [m] rfl rfl ?p3 ?p4 ?p5 ?_)
      case p3 => exact World.news_of_block (cs := m.cells) (t := 34) (fr := (0, 0)) (heap_alloc_new w4 _)
      case p4 => omega
      case p5 => have := hb4.out.size; first | (simp; done) | (simp; omega)
      intro v2 w5 hown5 hgrow5
      rw [← flat_append] at hown5
      have hown5' := Lib.hid hown5
      have hb5 : Hid (Below W0.heap.size W0 w5) := (hb4.out.alloc (by have := hb4.out.size; omega) _).grown hgrow5.out (by have := hb4.out.size; first | (simp; done) | (simp; omega)) (fun k hk => (hown4'.out.lt k hk).1)
      clear hown5 hgrow5 y0 y1 y2 y3 y4 y5 y6
      have hS5 := Lib.hid (hS0.out.keep hb5.out)
      go_wp2_with (at_builtin; refine wpM rfl (.tmp 31) (.tmp 34) rfl W0.heap.size _ (0 + 1) (flat (S.take 0 ++ [m])) rfl hown5'.out ⟨b, off, none⟩ n cap (S.drop 0) rfl ?q2 ?q3 ?q4 ?q5 ?_)
      case q2 => rw [List.length_drop, hlen.out]; try omega
      case q3 => exact fun j u hj => by have := drop_cells hS5.out 0 (by omega) j u hj; simpa using this
      case q4 => omega
      case q5 => exact hb5.out.size
      intro v3 w6 hown6 hgrow6
      rw [← flat_append, ← hmg.out] at hown6
      have hown6' := Lib.hid hown6
      have hb6 : Hid (Below W0.heap.size W0 w6) := hb5.out.grown hgrow6.out hb5.out.size (fun k hk => (hown5'.out.lt k hk).1)
      clear hown6 hgrow6
      go_wp2
      go_ret
      refine ⟨_, rfl, ⟨W0.heap.size, hbW.out.size, ?_⟩, hbW.out.trans (hb6.out.mono hbW.out.size)⟩
      have := hown6'.out
      rw [← hm'.out]
      rwa [show 1 + n = n + 1 by omega] at this


set_option maxRecDepth 100000 in
set_option maxHeartbeats 4000000 in
theorem rInsertF_nil (m : M) (w : World) :
    Calls Tryz.prog 33 #[.slice none 0 0, m.val] w fun e w' => ∃ v, e = .returned v ∧ Aside ((∃ base, w.heap.size ≤ base ∧ w'.ownsRow base 34 7 v 1 (flat [m])) ∧ Below w.heap.size w w') := by
  have mixed := mixed
  obtain ⟨i0, hi, hz0, hz1, hz2⟩ := info_parts infoM
  have hbW : Hid (Below w.heap.size w (w.alloc (.cells m.cells 34))) := (Below.refl _ w).alloc (Nat.le_refl _) _
  have hm0 := Lib.hid (MsgAt.mk w m)
  obtain ⟨⟨mt, mf, ms⟩, mto, mv, mu, man⟩ := m
  simp only [M.val, M.cells] at hbW hm0 ⊢
  have k1 : ∀ w, (Instr.slice 38 (.slice none 0 0) none (some (.int .i64 0)) none).run Tryz.prog w = .ok (.slice none 0 0) w := fun _ => by kernel_rfl
  have k2 : ∀ w, (Instr.slice 38 (.slice none 0 0) (some (.int .i64 0)) none none).run Tryz.prog w = .ok (.slice none 0 0) w := fun _ => by kernel_rfl
  go_enter Tryz.func33, Tryz.ntmps33
  go_wp2
  generalize w.alloc (.cells #[.int .i64 mt, .int .i64 mf, .int .i64 ms, .int .i64 mto, .int .i64 mv, .int .i64 mu, .bool man] 34) = W0 at hbW hm0 ⊢
  generalize w.heap.size = B at hm0 ⊢
  obtain ⟨m, hm⟩ : ∃ m : M, m = ⟨⟨mt, mf, ms⟩, mto, mv, mu, man⟩ := ⟨_, rfl⟩
  have hm' := Lib.hid hm
  rw [← hm] at hm0
  clear hm
  refine wp_loop_rounds 1 ?_
  rw [rounds_succ]
  go_wp2_with fail
  refine wp_region_quiet_grown (by assumption) (by kernel_rfl) ?_
  repeat (first | go_big_quiet_step (fail) | quiet_step (fail))
  refine wpQuiet_nil ?_
  intro _ hw'
  obtain ⟨⟨nq, osq⟩, hw''⟩ := hw'
  subst hw''
  have hr1 : Read W0 (grow (W0.drewN nq) osq) := ⟨_, _, rfl⟩
  generalize grow (W0.drewN nq) osq = W1 at hr1 ⊢
  have hsz1 := hr1.size
  have hb4 : Hid (Below W0.heap.size W0 (W1.alloc (.cells #[] 34))) := hr1.below.alloc hsz1 _
  have hm4 := hm0.out.keep hb4.out
  obtain ⟨-, y0, y1, y2, y3, y4, y5, y6⟩ := hm4
  simp only [Nat.zero_add] at y0 y1 y2 y3 y4 y5 y6
  have hown4 : Hid ((W1.alloc (.cells #[] 34)).ownsRow W0.heap.size 34 7 (.slice (some ⟨W1.heap.size, 0, none⟩) 0 0) 0 []) := World.ownsRow_made W1 #[] 0 hsz1 (Nat.zero_le _) (by simp)
  have hsz4 := hb4.out.size
  go_upto_region 5 with (at_builtin; refine wpList_append_own_none rfl (.tmp 22) (.tmp 25) 38 rfl W0.heap.size 34 i0 7 Tryz.underlying38 hi _ 0 [] rfl hown4.out rfl ?_)
  generalize W1.alloc (.cells #[] 34) = w4 at y0 y1 y2 y3 y4 y5 y6 hb4 hown4 hsz4 ⊢
  generalize W1.heap.size = B1 at hown4 ⊢
  go_wp2_with (at_builtin; refine wpM rfl (.tmp 27) (.tmp 29) rfl W0.heap.size _ 0 [] rfl (hown4.out.alloc _) ⟨w4.heap.size, 0, none⟩ 1 1 [m] rfl rfl ?p3 ?p4 ?p5 ?_)
  case p3 => exact World.news_of_block (cs := m.cells) (t := 34) (fr := (0, 0)) (heap_alloc_new w4 _)
  case p4 => omega
  case p5 => simp; omega
  intro v2 w5 hown5 hgrow5
  have hown5' : Hid (w5.ownsRow W0.heap.size 34 7 v2 1 (flat [m])) := by
    have := hown5
    first | exact this | (simp only [Nat.zero_add, List.nil_append] at this; exact this)
  have hb5 : Hid (Below W0.heap.size W0 w5) := (hb4.out.alloc (by omega) _).grown hgrow5.out (by simp; omega) (fun k hk => (hown4.out.lt k hk).1)
  clear hown5 hgrow5 y0 y1 y2 y3 y4 y5 y6
  go_wp2_with (at_builtin; refine wpList_append_own_none rfl (.tmp 31) (.tmp 34) 38 rfl W0.heap.size 34 i0 7 Tryz.underlying38 hi _ 1 (flat [m]) rfl hown5'.out rfl ?_)
  go_wp2
  go_ret
  refine ⟨_, rfl, ⟨W0.heap.size, hbW.out.size, ?_⟩, hbW.out.trans (hb5.out.mono hbW.out.size)⟩
  have := hown5'.out
  rw [← hm'.out]
  exact this
end Go.Proofs.YtjlbkdghlijoeaaGreat
