/-
  The law that sorting two lists together puts each message at the place that its own order and the other list's say.
-/
import Derived.Test.YtmfemimnoodpfaaLawS
namespace Go.Proofs.Ytmfemimnoodpfaa
open Go.ChangeShapes Go.WideShapes Go.ChangeAt Go.RowKit Go.Sort Go.Deep
set_option linter.unusedVariables false

theorem drop_cons (X : List M) (i : Nat) (h : i < X.length) : X.drop i = X.getD i default :: X.drop (i + 1) := by
  rw [List.drop_eq_getElem_cons h]
  simp [List.getD_eq_getElem?_getD, List.getElem?_eq_getElem h]
theorem head_of_drop {Z : List M} {n : Nat} {x : M} {l : List M} (h : Z.drop n = x :: l) : Z.getD n default = x ∧ Z.drop (n + 1) = l := by
  have hn : n < Z.length := by
    rcases Nat.lt_or_ge n Z.length with h1 | h1
    · exact h1
    · rw [List.drop_eq_nil_of_le h1] at h; cases h
  rw [drop_cons Z n hn] at h
  injection h with h1 h2
  exact ⟨h1, h2⟩
section
variable {X Y Z : List M} {i k : Nat}
theorem mg_head_A (h : Z.drop (i + k) = mg ltM (X.drop i) (Y.drop k)) (hi : i < X.length) (hk : k = Y.length) : Z.getD (i + k) default = X.getD i default ∧ Z.drop (i + 1 + k) = mg ltM (X.drop (i + 1)) (Y.drop k) := by
  have hy : Y.drop k = [] := List.drop_eq_nil_of_le (by omega)
  rw [hy, mg_nil_right] at h ⊢
  rw [drop_cons X i hi] at h
  obtain ⟨h1, h2⟩ := head_of_drop h
  exact ⟨h1, by rw [show i + 1 + k = i + k + 1 by omega]; exact h2⟩
theorem mg_head_B (h : Z.drop (i + k) = mg ltM (X.drop i) (Y.drop k)) (hi : i < X.length) (hk : k < Y.length) (hlt : ltM (Y.getD k default) (X.getD i default) = false) : Z.getD (i + k) default = X.getD i default ∧ Z.drop (i + 1 + k) = mg ltM (X.drop (i + 1)) (Y.drop k) := by
  rw [drop_cons X i hi, drop_cons Y k hk, mg_no hlt] at h
  obtain ⟨h1, h2⟩ := head_of_drop h
  exact ⟨h1, by rw [show i + 1 + k = i + k + 1 by omega, drop_cons Y k hk]; exact h2⟩
theorem mg_head_C (h : Z.drop (i + k) = mg ltM (X.drop i) (Y.drop k)) (hi : i < X.length) (hk : k < Y.length) (hlt : ltM (Y.getD k default) (X.getD i default) = true) : Z.getD (i + k) default = Y.getD k default ∧ Z.drop (i + (k + 1)) = mg ltM (X.drop i) (Y.drop (k + 1)) := by
  rw [drop_cons X i hi, drop_cons Y k hk, mg_yes hlt] at h
  obtain ⟨h1, h2⟩ := head_of_drop h
  exact ⟨h1, by rw [show i + (k + 1) = i + k + 1 by omega, drop_cons X i hi]; exact h2⟩
theorem mg_head_D (h : Z.drop (i + k) = mg ltM (X.drop i) (Y.drop k)) (hi : i = X.length) (hk : k < Y.length) : Z.getD (i + k) default = Y.getD k default ∧ Z.drop (i + (k + 1)) = mg ltM (X.drop i) (Y.drop (k + 1)) := by
  have hx : X.drop i = [] := List.drop_eq_nil_of_le (by omega)
  rw [hx, mg_nil_left] at h ⊢
  rw [drop_cons Y k hk] at h
  obtain ⟨h1, h2⟩ := head_of_drop h
  exact ⟨h1, by rw [show i + (k + 1) = i + k + 1 by omega]; exact h2⟩
end
/-- The three lists that the loop goes along. -/
def Three (w wr : World) (aA aX aY : Option Addr) (L lx ly cA cX cY : Nat) (Z X Y : List M) : Prop := Msgs wr aA L cA Z ∧ Msgs wr aX lx cX X ∧ Msgs wr aY ly cY Y ∧ Below w.heap.size w wr
theorem Three.read {w wr w' : World} {aA aX aY : Option Addr} {L lx ly cA cX cY : Nat} {Z X Y : List M} (h : Three w wr aA aX aY L lx ly cA cX cY Z X Y) (hr : Read wr w') : Three w w' aA aX aY L lx ly cA cX cY Z X Y :=
  ⟨h.1.read hr, h.2.1.read hr, h.2.2.1.read hr, h.2.2.2.trans (hr.below.mono h.2.2.2.size)⟩

set_option maxRecDepth 100000 in
set_option maxHeartbeats 20000000 in
theorem lawEventMerges {w : World} {a a' : Option Addr} {lx cap ly cap' : Nat} {ms ns : List M} (h : Msgs w a lx cap ms) (hr : lx * 56 ≤ 140737488351232) (hn : NilP a lx cap) (h' : Msgs w a' ly cap' ns) (hr' : ly * 56 ≤ 140737488351232) (hn' : NilP a' ly cap') (hbk : lx + ly ≤ 1048576) :
    Calls Try.prog 12 #[.slice a lx cap, .slice a' ly cap'] w fun e w' => e = .returned (.bool true) ∧ Below w.heap.size w w' := by
  have mixed := mixed
  have hM := Lib.hid h
  have hN := Lib.hid h'
  have hnI := Lib.hid hn
  have hnJ := Lib.hid hn'
  have h3 := awake_any
  have hfit : Hid (∀ m ∈ ms ++ ns, m.fits) := fun m hm => by
    rcases List.mem_append.1 hm with h1 | h1
    · exact h.2.2.2.1 m h1
    · exact h'.2.2.2.1 m h1
  have hlen : Hid ((ms ++ ns).length = lx + ly) := by show _ = _; rw [List.length_append, h.1, h'.1]
  have hX : Hid ((stab ltM ms).length = lx) := by show _ = _; rw [stab_length, h.1]
  have hY : Hid ((stab ltM ns).length = ly) := by show _ = _; rw [stab_length, h'.1]
  have hst := Lib.hid (stab_append ordM ms ns)
  clear h hn h' hn'
  have hcon := fun t f s to v u an t' f' s' to' v' u' an' w => eBefore_any ⟨⟨t, f, s⟩, to, v, u, an⟩ ⟨⟨t', f', s'⟩, to', v', u', an'⟩ w
  simp only [M.val] at hcon
  go_enter Try.func12, Try.ntmps12
  go_wp2_with (at_builtin; refine wpM_any rfl (.tmp 11) (.tmp 12) rfl w.heap.size _ 0 [] rfl ?o1 _ lx cap ms rfl ?o2 hnI.out ?o4 ?o5 ?_)
  case o1 => exact World.ownsRow_made w #[] 0 (Nat.le_refl _) (Nat.zero_le _) (by simp)
  case o2 => exact hM.out.below ((Below.refl _ w).alloc (Nat.le_refl _) _)
  case o4 => omega
  all_goals try (simp; done)
  intro v1 w1 hown1 hgrow1
  have hb1 : Hid (Below w.heap.size w w1) := ((Below.refl _ w).alloc (Nat.le_refl _) _).grown hgrow1.out (by simp) (by intro k hk; simp [Value.ownBlock] at hk; omega)
  have hown1' : Hid (w1.ownsRow w.heap.size 28 7 v1 lx (flat ms)) := by
    have := hown1
    first | exact this | (simp only [Nat.zero_add, List.nil_append] at this; exact this)
  clear hown1 hgrow1
  go_wp2_with (at_builtin; refine wpM_any rfl (.tmp 13) (.tmp 14) rfl w.heap.size _ lx (flat ms) rfl hown1'.out _ ly cap' ns rfl ?p2 hnJ.out ?p4 ?p5 ?_)
  case p2 => exact hN.out.below hb1.out
  case p4 => omega
  case p5 => exact hb1.out.size
  intro v2 w2 hown2 hgrow2
  rw [← flat_append] at hown2
  have hb2 : Hid (Below w.heap.size w w2) := hb1.out.grown hgrow2.out hb1.out.size (fun k hk => (hown1'.out.lt k hk).1)
  obtain ⟨a2, c2, rfl, hM2⟩ := msgs_of_own hown2 hfit.out
  have hM2 := Lib.hid hM2
  clear hown2 hgrow2 hown1' hb1
  have hc1 : Calls Try.prog 27 #[.slice a2 (lx + ly) c2] w2 fun e w3 => ∃ aA cA, e = .returned (.slice aA (lx + ly) cA) ∧ Aside (Msgs w3 aA (lx + ly) cA (stab ltM (ms ++ ns)) ∧ Below w.heap.size w w3) := by
    refine (eSorted_any hM2.out (by omega)).mono ?_
    rintro e w3 ⟨a3, c3, rfl, hq⟩
    exact ⟨a3, c3, rfl, hq.out.1, hb2.out.trans (hq.out.2.mono hb2.out.size)⟩
  have hc2 : ∀ aA cA w3, Aside (Msgs w3 aA (lx + ly) cA (stab ltM (ms ++ ns)) ∧ Below w.heap.size w w3) → Calls Try.prog 27 #[.slice a lx cap] w3 fun e w4 => ∃ aX cX, e = .returned (.slice aX lx cX) ∧ Aside (Msgs w4 aA (lx + ly) cA (stab ltM (ms ++ ns)) ∧ Msgs w4 aX lx cX (stab ltM ms) ∧ Below w.heap.size w w4) := by
    intro aA cA w3 hq
    refine (eSorted_any (hM.out.below hq.out.2) hr).mono ?_
    rintro e w4 ⟨aX, cX, rfl, hq4⟩
    exact ⟨aX, cX, rfl, hq.out.1.below hq4.out.2, hq4.out.1, hq.out.2.trans (hq4.out.2.mono hq.out.2.size)⟩
  have hc3 : ∀ aA cA aX cX w4, Aside (Msgs w4 aA (lx + ly) cA (stab ltM (ms ++ ns)) ∧ Msgs w4 aX lx cX (stab ltM ms) ∧ Below w.heap.size w w4) → Calls Try.prog 27 #[.slice a' ly cap'] w4 fun e w5 => ∃ aY cY, e = .returned (.slice aY ly cY) ∧ Aside (Three w w5 aA aX aY (lx + ly) lx ly cA cX cY (stab ltM (ms ++ ns)) (stab ltM ms) (stab ltM ns)) := by
    intro aA cA aX cX w4 hq
    refine (eSorted_any (hN.out.below hq.out.2.2) hr').mono ?_
    rintro e w5 ⟨aY, cY, rfl, hq5⟩
    exact ⟨aY, cY, rfl, hq.out.1.below hq5.out.2, hq.out.2.1.below hq5.out.2, hq5.out.1, hq.out.2.2.trans (hq5.out.2.mono hq.out.2.2.size)⟩
  clear hM2 hb2
  go_wp2_with (first
    | (go_at_call 27; ((with_reducible refine hc1.mono ?_); rintro e w3 ⟨aA, cA, rfl, hq3⟩))
    | (go_at_call 27; ((with_reducible refine (hc2 _ _ _ hq3).mono ?_); rintro e w4 ⟨aX, cX, rfl, hq4⟩))
    | (go_at_call 27; ((with_reducible refine (hc3 _ _ _ _ _ hq4).mono ?_); rintro e w5 ⟨aY, cY, rfl, hq5⟩)))
  clear hc1 hc2 hc3 hq3 hq4
  rw [hst.out] at hq5
  clear hst hfit hlen
  generalize stab ltM ms = X at hX hq5
  generalize stab ltM ns = Y at hY hq5
  have hmg0 : Hid ((mg ltM X Y).drop 0 = mg ltM (X.drop 0) (Y.drop 0)) := by show _ = _; simp
  generalize mg ltM X Y = Z at hq5 hmg0
  have hlX := hX
  have hlY := hY
  clear hX hY
  obtain ⟨L, hL⟩ : ∃ L, L = lx + ly := ⟨_, rfl⟩
  have hL' := Lib.hid hL
  simp only [← hL] at hq5 ⊢
  clear hL
  go_loopw [8, 9, 10] (fun ti tk tn wr => ∃ i k n : Nat, i ≤ lx ∧ k ≤ ly ∧ n ≤ L ∧ ti = .int .i64 i ∧ tk = .int .i64 k ∧ tn = .int .i64 n ∧ Aside (n = i + k) ∧ Aside (Three w wr aA aX aY L lx ly cA cX cY Z X Y) ∧ Aside (Z.drop (i + k) = mg ltM (X.drop i) (Y.drop k))) (fun _ _ tn _ => L - (intOf tn).toNat)
  case atStart => exact ⟨0, 0, 0, Nat.zero_le _, Nat.zero_le _, Nat.zero_le _, rfl, rfl, rfl, rfl, hq5.out, hmg0.out⟩
  case round =>
    clear hq5 hmg0
    obtain ⟨i, k, n, hile, hkle, hnle, rfl, rfl, rfl, hn, hq, hmg⟩ := hrel
    have hLm : L ≤ 1048576 := by have := hL'.out; omega
    by_cases hnL : n < L
    · obtain ⟨bA, offA, rfl, hmA⟩ : ∃ b off, aA = some ⟨b, off, none⟩ ∧ ∀ j, j < L → MsgAt wr b (off + j * 7) (Z.getD j default) := by
        rcases hq.out.1.2.2.2.2 with h0 | h1
        · omega
        · exact h1
      by_cases hi : i < lx
      · obtain ⟨bX, offX, rfl, hmX⟩ : ∃ b off, aX = some ⟨b, off, none⟩ ∧ ∀ j, j < lx → MsgAt wr b (off + j * 7) (X.getD j default) := by
          rcases hq.out.2.1.2.2.2.2 with h0 | h1
          · omega
          · exact h1
        by_cases hk : k < ly
        · obtain ⟨bY, offY, rfl, hmY⟩ : ∃ b off, aY = some ⟨b, off, none⟩ ∧ ∀ j, j < ly → MsgAt wr b (off + j * 7) (Y.getD j default) := by
            rcases hq.out.2.2.1.2.2.2.2 with h0 | h1
            · omega
            · exact h1
          cases hlt : ltM (Y.getD k default) (X.getD i default) with
          | false =>
            have ez := mg_head_B hmg.out (by rw [hlX.out]; exact hi) (by rw [hlY.out]; exact hk) hlt
            obtain ⟨ez, hmg'⟩ := ez
            have hmg2 := Lib.hid hmg'
            clear hmg' hmg
            have hzA := (hmA n hnL)
            rw [show i + k = n from hn.out.symm] at ez
            rw [ez] at hzA
            have hzX := hmX i hi
            have hzY := hmY k hk
            clear ez
            generalize X.getD i default = x at hzX hzA hlt 
            generalize Y.getD k default = y at hzY hlt 
            have hne := fun w => neqM x x w
            have hd : (!decide (x = x)) = false := by simp
            rw [hd] at hne
            clear hd
            obtain ⟨⟨t1, f1, s1⟩, to1, v1, u1, an1⟩ := x
            obtain ⟨⟨t2, f2, s2⟩, to2, v2, u2, an2⟩ := y
            simp only [M.val] at hne
            have eA : (n : Int) < (L : Int) := by omega
            have eX : (i : Int) < (lx : Int) := by omega
            have eY : (k : Int) < (ly : Int) := by omega
            have eYn : ((k : Int) == (ly : Int)) = false := by simp; omega
            have hrd0 : Read wr wr := Read.refl _
            have hxa := fun n os => hzX.read (w' := grow (wr.drewN n) os) ⟨n, os, rfl⟩
            have hya := fun n os => hzY.read (w' := grow (wr.drewN n) os) ⟨n, os, rfl⟩
            simp only [MsgAt, forall_and] at hxa hya
            obtain ⟨-, x0, x1, x2, x3, x4, x5, x6⟩ := hxa
            obtain ⟨-, y0, y1, y2, y3, y4, y5, y6⟩ := hya
            go_wp2_with fail
            refine wp_region_quiet_grown (by assumption) (by kernel_rfl) ?_
            repeat (first | go_big_quiet_step ((go_at_call 16; exact Calls.read_of (hcon _ _ _ _ _ _ _ _ _ _ _ _ _ _ _))) | quiet_step ((go_at_call 16; exact Calls.read_of (hcon _ _ _ _ _ _ _ _ _ _ _ _ _ _ _))))
            refine wpQuiet_nil ?_
            intro _ hw'
            obtain ⟨⟨nq, osq⟩, hw''⟩ := hw'
            subst hw''
            have hr1 : Read wr (grow (wr.drewN nq) osq) := ⟨_, _, rfl⟩
            generalize grow (wr.drewN nq) osq = W1 at hr1 ⊢
            clear x0 x1 x2 x3 x4 x5 x6 y0 y1 y2 y3 y4 y5 y6 hlt
            have hza := fun n os => (hzA.read hr1).read (w' := grow (W1.drewN n) os) ⟨n, os, rfl⟩
            have hxa := fun n os => (hzX.read hr1).read (w' := grow (W1.drewN n) os) ⟨n, os, rfl⟩
            simp only [MsgAt, forall_and] at hza hxa
            obtain ⟨-, z0, z1, z2, z3, z4, z5, z6⟩ := hza
            obtain ⟨-, x0, x1, x2, x3, x4, x5, x6⟩ := hxa
            go_wp2
            refine wp_region_quiet_grown (by assumption) (by kernel_rfl) ?_
            repeat (first | go_big_quiet_step (fail) | quiet_step (fail))
            refine wpQuiet_nil ?_
            intro _ hw'
            obtain ⟨⟨nq, osq⟩, hw''⟩ := hw'
            subst hw''
            have hr2 : Read W1 (grow (W1.drewN nq) osq) := ⟨_, _, rfl⟩
            generalize grow (W1.drewN nq) osq = W2 at hr2 ⊢
            clear x0 x1 x2 x3 x4 x5 x6 z0 z1 z2 z3 z4 z5 z6 hne
            have hfin := Lib.hid (hq.out.read (hr1.trans hr2))
            clear eA eX eY eYn
            go_wp2
            go_roundw
            case rel => exact ⟨i + 1, k, n + 1, by omega, by omega, by omega, by go_num, rfl, by go_num, by (have := hn.out; show n + 1 = _; omega), hfin.out, hmg2.out⟩
            case measure => simp [intOf]; omega
          | true =>
            have ez := mg_head_C hmg.out (by rw [hlX.out]; exact hi) (by rw [hlY.out]; exact hk) hlt
            obtain ⟨ez, hmg'⟩ := ez
            have hmg2 := Lib.hid hmg'
            clear hmg' hmg
            have hzA := (hmA n hnL)
            rw [show i + k = n from hn.out.symm] at ez
            rw [ez] at hzA
            have hzX := hmX i hi
            have hzY := hmY k hk
            clear ez
            generalize X.getD i default = x at hzX hlt 
            generalize Y.getD k default = y at hzY hzA hlt 
            have hne := fun w => neqM y y w
            have hd : (!decide (y = y)) = false := by simp
            rw [hd] at hne
            clear hd
            obtain ⟨⟨t1, f1, s1⟩, to1, v1, u1, an1⟩ := x
            obtain ⟨⟨t2, f2, s2⟩, to2, v2, u2, an2⟩ := y
            simp only [M.val] at hne
            have eA : (n : Int) < (L : Int) := by omega
            have eX : (i : Int) < (lx : Int) := by omega
            have eY : (k : Int) < (ly : Int) := by omega
            have eYn : ((k : Int) == (ly : Int)) = false := by simp; omega
            have hrd0 : Read wr wr := Read.refl _
            have hxa := fun n os => hzX.read (w' := grow (wr.drewN n) os) ⟨n, os, rfl⟩
            have hya := fun n os => hzY.read (w' := grow (wr.drewN n) os) ⟨n, os, rfl⟩
            simp only [MsgAt, forall_and] at hxa hya
            obtain ⟨-, x0, x1, x2, x3, x4, x5, x6⟩ := hxa
            obtain ⟨-, y0, y1, y2, y3, y4, y5, y6⟩ := hya
            go_wp2_with fail
            refine wp_region_quiet_grown (by assumption) (by kernel_rfl) ?_
            repeat (first | go_big_quiet_step ((go_at_call 16; exact Calls.read_of (hcon _ _ _ _ _ _ _ _ _ _ _ _ _ _ _))) | quiet_step ((go_at_call 16; exact Calls.read_of (hcon _ _ _ _ _ _ _ _ _ _ _ _ _ _ _))))
            refine wpQuiet_nil ?_
            intro _ hw'
            obtain ⟨⟨nq, osq⟩, hw''⟩ := hw'
            subst hw''
            have hr1 : Read wr (grow (wr.drewN nq) osq) := ⟨_, _, rfl⟩
            generalize grow (wr.drewN nq) osq = W1 at hr1 ⊢
            clear x0 x1 x2 x3 x4 x5 x6 y0 y1 y2 y3 y4 y5 y6 hlt
            have hza := fun n os => (hzA.read hr1).read (w' := grow (W1.drewN n) os) ⟨n, os, rfl⟩
            have hxa := fun n os => (hzY.read hr1).read (w' := grow (W1.drewN n) os) ⟨n, os, rfl⟩
            simp only [MsgAt, forall_and] at hza hxa
            obtain ⟨-, z0, z1, z2, z3, z4, z5, z6⟩ := hza
            obtain ⟨-, x0, x1, x2, x3, x4, x5, x6⟩ := hxa
            go_wp2
            refine wp_region_quiet_grown (by assumption) (by kernel_rfl) ?_
            repeat (first | go_big_quiet_step (fail) | quiet_step (fail))
            refine wpQuiet_nil ?_
            intro _ hw'
            obtain ⟨⟨nq, osq⟩, hw''⟩ := hw'
            subst hw''
            have hr2 : Read W1 (grow (W1.drewN nq) osq) := ⟨_, _, rfl⟩
            generalize grow (W1.drewN nq) osq = W2 at hr2 ⊢
            clear x0 x1 x2 x3 x4 x5 x6 z0 z1 z2 z3 z4 z5 z6 hne
            have hfin := Lib.hid (hq.out.read (hr1.trans hr2))
            clear eA eX eY eYn
            go_wp2
            go_roundw
            case rel => exact ⟨i, k + 1, n + 1, by omega, by omega, by omega, rfl, by go_num, by go_num, by (have := hn.out; show n + 1 = _; omega), hfin.out, hmg2.out⟩
            case measure => simp [intOf]; omega
        · obtain rfl : k = ly := by omega
          have ez := mg_head_A hmg.out (by rw [hlX.out]; exact hi) (by rw [hlY.out])
          obtain ⟨ez, hmg'⟩ := ez
          have hmg2 := Lib.hid hmg'
          clear hmg' hmg
          have hzA := (hmA n hnL)
          rw [show i + k = n from hn.out.symm] at ez
          rw [ez] at hzA
          have hzX := hmX i hi
          clear ez
          generalize X.getD i default = x at hzX hzA 
          have hne := fun w => neqM x x w
          have hd : (!decide (x = x)) = false := by simp
          rw [hd] at hne
          clear hd
          obtain ⟨⟨t1, f1, s1⟩, to1, v1, u1, an1⟩ := x
          simp only [M.val] at hne
          have eA : (n : Int) < (L : Int) := by omega
          have eX : (i : Int) < (lx : Int) := by omega
          have hrd0 : Read wr wr := Read.refl _
          go_wp2_with fail
          refine wp_region_quiet_grown (by assumption) (by kernel_rfl) ?_
          repeat (first | go_big_quiet_step (fail) | quiet_step (fail))
          refine wpQuiet_nil ?_
          intro _ hw'
          obtain ⟨⟨nq, osq⟩, hw''⟩ := hw'
          subst hw''
          have hr1 : Read wr (grow (wr.drewN nq) osq) := ⟨_, _, rfl⟩
          generalize grow (wr.drewN nq) osq = W1 at hr1 ⊢
          have hza := fun n os => (hzA.read hr1).read (w' := grow (W1.drewN n) os) ⟨n, os, rfl⟩
          have hxa := fun n os => (hzX.read hr1).read (w' := grow (W1.drewN n) os) ⟨n, os, rfl⟩
          simp only [MsgAt, forall_and] at hza hxa
          obtain ⟨-, z0, z1, z2, z3, z4, z5, z6⟩ := hza
          obtain ⟨-, x0, x1, x2, x3, x4, x5, x6⟩ := hxa
          go_wp2
          refine wp_region_quiet_grown (by assumption) (by kernel_rfl) ?_
          repeat (first | go_big_quiet_step (fail) | quiet_step (fail))
          refine wpQuiet_nil ?_
          intro _ hw'
          obtain ⟨⟨nq, osq⟩, hw''⟩ := hw'
          subst hw''
          have hr2 : Read W1 (grow (W1.drewN nq) osq) := ⟨_, _, rfl⟩
          generalize grow (W1.drewN nq) osq = W2 at hr2 ⊢
          clear x0 x1 x2 x3 x4 x5 x6 z0 z1 z2 z3 z4 z5 z6 hne
          have hfin := Lib.hid (hq.out.read (hr1.trans hr2))
          clear eA eX
          go_wp2
          go_roundw
          case rel => exact ⟨i + 1, k, n + 1, by omega, by omega, by omega, by go_num, rfl, by go_num, by (have := hn.out; show n + 1 = _; omega), hfin.out, hmg2.out⟩
          case measure => simp [intOf]; omega
      · obtain rfl : i = lx := by omega
        have hk : k < ly := by have := hn.out; have := hL'.out; omega
        obtain ⟨bY, offY, rfl, hmY⟩ : ∃ b off, aY = some ⟨b, off, none⟩ ∧ ∀ j, j < ly → MsgAt wr b (off + j * 7) (Y.getD j default) := by
          rcases hq.out.2.2.1.2.2.2.2 with h0 | h1
          · omega
          · exact h1
        have ez := mg_head_D hmg.out (by rw [hlX.out]) (by rw [hlY.out]; exact hk)
        obtain ⟨ez, hmg'⟩ := ez
        have hmg2 := Lib.hid hmg'
        clear hmg' hmg
        have hzA := (hmA n hnL)
        rw [show i + k = n from hn.out.symm] at ez
        rw [ez] at hzA
        have hzY := hmY k hk
        clear ez
        generalize Y.getD k default = y at hzY hzA 
        have hne := fun w => neqM y y w
        have hd : (!decide (y = y)) = false := by simp
        rw [hd] at hne
        clear hd
        obtain ⟨⟨t2, f2, s2⟩, to2, v2, u2, an2⟩ := y
        simp only [M.val] at hne
        have eA : (n : Int) < (L : Int) := by omega
        have eY : (k : Int) < (ly : Int) := by omega
        have eYn : ((k : Int) == (ly : Int)) = false := by simp; omega
        have hrd0 : Read wr wr := Read.refl _
        go_wp2_with fail
        refine wp_region_quiet_grown (by assumption) (by kernel_rfl) ?_
        repeat (first | go_big_quiet_step (fail) | quiet_step (fail))
        refine wpQuiet_nil ?_
        intro _ hw'
        obtain ⟨⟨nq, osq⟩, hw''⟩ := hw'
        subst hw''
        have hr1 : Read wr (grow (wr.drewN nq) osq) := ⟨_, _, rfl⟩
        generalize grow (wr.drewN nq) osq = W1 at hr1 ⊢
        have hza := fun n os => (hzA.read hr1).read (w' := grow (W1.drewN n) os) ⟨n, os, rfl⟩
        have hxa := fun n os => (hzY.read hr1).read (w' := grow (W1.drewN n) os) ⟨n, os, rfl⟩
        simp only [MsgAt, forall_and] at hza hxa
        obtain ⟨-, z0, z1, z2, z3, z4, z5, z6⟩ := hza
        obtain ⟨-, x0, x1, x2, x3, x4, x5, x6⟩ := hxa
        go_wp2
        refine wp_region_quiet_grown (by assumption) (by kernel_rfl) ?_
        repeat (first | go_big_quiet_step (fail) | quiet_step (fail))
        refine wpQuiet_nil ?_
        intro _ hw'
        obtain ⟨⟨nq, osq⟩, hw''⟩ := hw'
        subst hw''
        have hr2 : Read W1 (grow (W1.drewN nq) osq) := ⟨_, _, rfl⟩
        generalize grow (W1.drewN nq) osq = W2 at hr2 ⊢
        clear x0 x1 x2 x3 x4 x5 x6 z0 z1 z2 z3 z4 z5 z6 hne
        have hfin := Lib.hid (hq.out.read (hr1.trans hr2))
        clear eA eY eYn
        go_wp2
        go_roundw
        case rel => exact ⟨i, k + 1, n + 1, by omega, by omega, by omega, rfl, by go_num, by go_num, by (have := hn.out; show n + 1 = _; omega), hfin.out, hmg2.out⟩
        case measure => simp [intOf]; omega
    · obtain rfl : n = L := by omega
      obtain rfl : i = lx := by have := hn.out; have := hL'.out; omega
      obtain rfl : k = ly := by have := hn.out; have := hL'.out; omega
      go_wp2_with (go_at_call 15; refine (h3 _).mono ?_; rintro e w6 ⟨rfl, hr6⟩)
      go_ret
      exact ⟨rfl, hq.out.2.2.2.trans (hr6.below.mono hq.out.2.2.2.size)⟩

end Go.Proofs.Ytmfemimnoodpfaa
