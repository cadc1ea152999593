/-
  The law that what was sorted is not changed by sorting it, and that each message stands at its place: it answers true over every slice of messages that can be read.
-/
import Derived.Test.YtmfemimnoodpfaaSame
import Derived.BigQuiet
namespace Go.Proofs.Ytmfemimnoodpfaa
open Go.ChangeShapes Go.WideShapes Go.ChangeAt Go.RowKit Go.Sort

theorem place_le {S : List M} (hS : InOrder ltM S) (i : Nat) (hi : i < S.length) : placeM S S[i] ≤ i := by
  unfold placeM
  have hz : (S.drop i).countP (fun x => ltM x S[i]) = 0 := by
    rw [List.countP_eq_zero]
    intro x hx
    obtain ⟨j, hj, hij, rfl⟩ := mem_drop_idx hx
    simp [hS.at ordM hij hj]
  have e : S.countP (fun x => ltM x S[i]) = (S.take i).countP (fun x => ltM x S[i]) + (S.drop i).countP (fun x => ltM x S[i]) := by
    rw [← List.countP_append, List.take_append_drop]
  have h1 : (S.take i).countP (fun x => ltM x S[i]) ≤ (S.take i).length := List.countP_le_length
  rw [List.length_take] at h1
  omega
theorem place_at {S : List M} (hS : InOrder ltM S) (i n : Nat) (hi : i < S.length) (hn : placeM S S[i] = n) (hni : n < i) : ltM (S[n]'(by omega)) S[i] = false := by
  cases h : ltM (S[n]'(by omega)) S[i] with
  | false => rfl
  | true =>
    exfalso
    unfold placeM at hn
    have hall : (S.take (n + 1)).countP (fun x => ltM x S[i]) = (S.take (n + 1)).length := by
      rw [List.countP_eq_length]
      intro x hx
      obtain ⟨j, hj, hjn, rfl⟩ := mem_take_idx hx
      cases hc : ltM S[j] S[i] with
      | true => rfl
      | false =>
        have := ordM.trans _ _ _ hc (hS.at ordM (show j ≤ n by omega) (by omega))
        rw [this] at h
        cases h
    have e : S.countP (fun x => ltM x S[i]) = (S.take (n + 1)).countP (fun x => ltM x S[i]) + (S.drop (n + 1)).countP (fun x => ltM x S[i]) := by
      rw [← List.countP_append, List.take_append_drop]
    rw [List.length_take] at hall
    omega

set_option maxHeartbeats 4000000 in
theorem lawEventAgain {w : World} {a : Option Addr} {len cap : Nat} {ms : List M} (h : Msgs w a len cap ms) (hr : len * 56 ≤ 140737488351232) :
    Calls Try.prog 10 #[.slice a len cap] w fun e w' => e = .returned (.bool true) ∧ Below w.heap.size w w' := by
  have mixed := mixed
  have hSl : (stab ltM ms).length = len := by rw [stab_length, h.1]
  have hSo : InOrder ltM (stab ltM ms) := stab_inOrder ordM ms
  have hSS : stab ltM (stab ltM ms) = stab ltM ms := stab_of_inOrder _ hSo
  have hmx : len ≤ 9223372036854775807 := by have := h.2.1; have := h.2.2.1; unfold maxLen at *; omega
  have hc1 := eSorted_any h hr
  generalize stab ltM ms = S at hSl hSo hSS hc1
  have hc2 : ∀ a1 cap1 w1, Aside (Msgs w1 a1 len cap1 S ∧ Below w.heap.size w w1) → Calls Try.prog 27 #[.slice a1 len cap1] w1 fun e w2 => ∃ a2 cap2, e = .returned (.slice a2 len cap2) ∧ Aside (Msgs w2 a1 len cap1 S ∧ Msgs w2 a2 len cap2 S ∧ Below w.heap.size w w2) := by
    intro a1 cap1 w1 hq
    refine (eSorted_any hq.out.1 hr).mono ?_
    rintro e w2 ⟨a2, cap2, rfl, hq2⟩
    rw [hSS] at hq2
    exact ⟨a2, cap2, rfl, hq.out.1.below hq2.out.2, hq2.out.1, hq.out.2.trans (hq2.out.2.mono hq.out.2.size)⟩
  have hc3 : ∀ a1 cap1 a2 cap2 w2, Aside (Msgs w2 a1 len cap1 S ∧ Msgs w2 a2 len cap2 S ∧ Below w.heap.size w w2) → Calls Try.prog 26 #[.slice a2 len cap2, .slice a1 len cap1] w2 fun e w3 => e = .returned (.bool true) ∧ Aside (Msgs w3 a1 len cap1 S ∧ Below w.heap.size w w3) := by
    intro a1 cap1 a2 cap2 w2 hq
    refine (same_eq hq.out.2.1 hq.out.1).mono ?_
    rintro e w3 ⟨rfl, hrd⟩
    exact ⟨rfl, hq.out.1.read hrd, hq.out.2.2.trans (hrd.below.mono hq.out.2.2.size)⟩
  have h3 := awake_any
  have hSl' := Lib.hid hSl
  have hSo' := Lib.hid hSo
  clear h hr hSl hSo hSS
  go_enter Try.func10, Try.ntmps10
  go_upto_region 2 with (go_at_call 27; refine hc1.mono ?_; rintro e w1 ⟨a1, cap1, rfl, hq1⟩)
  go_wp2_with (first | (go_at_call 27; refine (hc2 _ _ _ hq1).mono ?_; rintro e w2 ⟨a2, cap2, rfl, hq2⟩) | (go_at_call 26; refine (hc3 _ _ _ _ _ hq2).mono ?_; rintro e w3 ⟨rfl, hq3⟩))
  go_loopw [4] (fun i wr => ∃ k : Nat, k ≤ len ∧ i = .int .i64 k ∧ Aside (Msgs wr a1 len cap1 S ∧ Below w.heap.size w wr)) (fun i _ => len - (intOf i).toNat)
  case atStart => exact ⟨0, Nat.zero_le _, rfl, hq3⟩
  case round =>
    clear hq1 hq2 hq3 hc1 hc2 hc3
    obtain ⟨k, hk, rfl, hq⟩ := hrel
    by_cases hlt : k < len
    · rcases hq.out.1.2.2.2.2 with h0 | ⟨b, off, ha, hm⟩
      · omega
      · subst ha
        have hkS : k < S.length := by rw [hSl'.out]; exact hlt
        have gx : ∀ j (hj : j < S.length), S.getD j default = S[j] := fun j hj => by simp [List.getD_eq_getElem?_getD, hj]
        obtain ⟨n, hn⟩ : ∃ n, n = placeM S (S.getD k default) := ⟨_, rfl⟩
        have hnk : n ≤ k := by rw [hn, gx k hkS]; exact place_le hSo'.out k hkS
        have hpl := ePlace_any (some ⟨b, off, none⟩) len cap1 S (S.getD k default) wr hq.out.1
        rw [← hn] at hpl
        have p2 : 0 < k → ltM (S.getD k default) (S.getD (k - 1) default) = false := fun h0 => by
          rw [gx k hkS, gx (k - 1) (by omega)]
          exact hSo'.out.at ordM (by omega) hkS
        have p3 : n < k → ltM (S.getD n default) (S.getD k default) = false := fun h0 => by
          rw [gx k hkS, gx n (by omega)]
          exact place_at hSo'.out k n hkS (by rw [hn, gx k hkS]) h0
        have hx := hm k hlt
        have hxp : 0 < k → MsgAt wr b (off + (k - 1) * 7) (S.getD (k - 1) default) := fun h0 => hm (k - 1) (by omega)
        have hxn := hm n (by omega)
        have hbel := hq.out.2
        have hMs := Lib.hid hq.out.1
        have hcon := fun t f s to v u an t' f' s' to' v' u' an' w => eBefore_any ⟨⟨t, f, s⟩, to, v, u, an⟩ ⟨⟨t', f', s'⟩, to', v', u', an'⟩ w
        clear hn gx hq hm hkS
        generalize S.getD k default = x at hpl p2 p3 hx
        generalize S.getD (k - 1) default = y at p2 hxp
        generalize S.getD n default = z at p3 hxn
        have hgt : ¬ (k : Int) < (n : Int) := by omega
        obtain ⟨⟨t, f, s⟩, to, v, u, an⟩ := x
        obtain ⟨⟨t1, f1, s1⟩, to1, v1, u1, an1⟩ := y
        obtain ⟨⟨t2, f2, s2⟩, to2, v2, u2, an2⟩ := z
        simp only [M.val] at hpl hcon
        have hx' := hx
        obtain ⟨_, x0, x1, x2, x3, x4, x5, x6⟩ := hx'
        by_cases hk0 : 0 < k
        · have hz0 : (0 : Int) < (k : Int) := by omega
          have q2 := p2 hk0
          have hy := hxp hk0
          obtain ⟨km, hkm⟩ : ∃ km : Nat, km = k - 1 := ⟨_, rfl⟩
          have hkz : (k : Int) - 1 = (km : Int) := by omega
          have hkl : km < len := by omega
          have e3 : (km : Int) < (len : Int) := by omega
          have e4 : IntKind.i64.wrap (km : Int) = (km : Int) := by rw [IntKind.wrap_i64]; omega
          rw [← hkm] at hy
          clear p2 hxp hkm
          by_cases hnk' : n < k
          · have hz1 : (n : Int) < (k : Int) := by omega
            have q3 := p3 hnk'
            clear p3
            go_wp2_with (go_at_call 29; refine hpl.mono ?_; rintro e w4 ⟨rfl, hr4⟩)
            clear x0 x1 x2 x3 x4 x5 x6
            have hxa := fun n os => (hx.read hr4).read ⟨n, os, rfl⟩
            have hya := fun n os => (hy.read hr4).read ⟨n, os, rfl⟩
            have hza := fun n os => (hxn.read hr4).read ⟨n, os, rfl⟩
            simp only [MsgAt, forall_and] at hxa hya hza
            obtain ⟨-, x0, x1, x2, x3, x4, x5, x6⟩ := hxa
            obtain ⟨-, y0, y1, y2, y3, y4, y5, y6⟩ := hya
            obtain ⟨-, c0, c1, c2, c3, c4, c5, c6⟩ := hza
            have e5 : (n : Int) < (len : Int) := by omega
            have e6 : (k : Int) < (len : Int) := by omega
            refine wp_region_quiet_grown (by assumption) (by kernel_rfl) ?_
            repeat (first | go_big_quiet_step ((go_at_call 16; exact Calls.read_of (hcon _ _ _ _ _ _ _ _ _ _ _ _ _ _ _))) | quiet_step ((go_at_call 16; exact Calls.read_of (hcon _ _ _ _ _ _ _ _ _ _ _ _ _ _ _))))
            refine wpQuiet_nil ?_
            intro _ hw'
            obtain ⟨⟨nq, osq⟩, hw''⟩ := hw'
            subst hw''
            clear e3 e4 hkz
            go_wp2
            go_round
            case rel => exact ⟨k + 1, by omega, by go_num, hMs.out.read (hr4.trans ⟨_, _, rfl⟩), hbel.trans ((hr4.trans ⟨_, _, rfl⟩).below.mono hbel.size)⟩
            case measure => simp [intOf]; omega
          · clear p3 hxn hgt
            have hd : decide (n < k) = false := by simp; omega
            have hd2 : decide (k < n) = false := by simp; omega
            go_wp2_with (go_at_call 29; refine hpl.mono ?_; rintro e w4 ⟨rfl, hr4⟩)
            clear x0 x1 x2 x3 x4 x5 x6
            have hxa := fun n os => (hx.read hr4).read ⟨n, os, rfl⟩
            have hya := fun n os => (hy.read hr4).read ⟨n, os, rfl⟩
            simp only [MsgAt, forall_and] at hxa hya
            obtain ⟨-, x0, x1, x2, x3, x4, x5, x6⟩ := hxa
            obtain ⟨-, y0, y1, y2, y3, y4, y5, y6⟩ := hya
            have e6 : (k : Int) < (len : Int) := by omega
            refine wp_region_quiet_grown (by assumption) (by kernel_rfl) ?_
            repeat (first | go_big_quiet_step ((go_at_call 16; exact Calls.read_of (hcon _ _ _ _ _ _ _ _ _ _ _ _ _ _ _))) | quiet_step ((go_at_call 16; exact Calls.read_of (hcon _ _ _ _ _ _ _ _ _ _ _ _ _ _ _))))
            refine wpQuiet_nil ?_
            intro _ hw'
            obtain ⟨⟨nq, osq⟩, hw''⟩ := hw'
            subst hw''
            clear e3 e4 hkz
            go_wp2
            go_round
            case rel => exact ⟨k + 1, by omega, by go_num, hMs.out.read (hr4.trans ⟨_, _, rfl⟩), hbel.trans ((hr4.trans ⟨_, _, rfl⟩).below.mono hbel.size)⟩
            case measure => simp [intOf]; omega
        · clear p2 p3 hxp hxn hgt
          have hd : decide (n < k) = false := by simp; omega
          have hd2 : decide (k < n) = false := by simp; omega
          have hd0 : decide (0 < k) = false := by simp; omega
          go_wp2_with (go_at_call 29; refine hpl.mono ?_; rintro e w4 ⟨rfl, hr4⟩)
          clear x0 x1 x2 x3 x4 x5 x6
          refine wp_region_quiet_grown (by assumption) (by kernel_rfl) ?_
          repeat (first | go_big_quiet_step (fail) | quiet_step (fail))
          refine wpQuiet_nil ?_
          intro _ hw'
          obtain ⟨⟨nq, osq⟩, hw''⟩ := hw'
          subst hw''
          go_wp2
          go_round
          case rel => exact ⟨k + 1, by omega, by go_num, hMs.out.read (hr4.trans ⟨_, _, rfl⟩), hbel.trans ((hr4.trans ⟨_, _, rfl⟩).below.mono hbel.size)⟩
          case measure => simp [intOf]; omega
    · go_wp2_with (go_at_call 15; refine (h3 _).mono ?_; rintro e w4 ⟨rfl, hrd⟩)
      go_ret
      exact ⟨rfl, hq.out.2.trans (hrd.below.mono hq.out.2.size)⟩

end Go.Proofs.Ytmfemimnoodpfaa
