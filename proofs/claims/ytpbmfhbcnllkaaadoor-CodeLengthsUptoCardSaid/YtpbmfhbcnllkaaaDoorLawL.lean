/-
  The law that the bytes of a program are nine for each instruction, and that programs without jumps, one behind the other, have their bytes one behind the other.
-/
import Derived.Test.YtpbmfhbcnllkaaaDoorLawB
import Derived.Test.YtpbmfhbcnllkaaaDoorLawP
namespace Go.Proofs.YtpbmfhbcnllkaaaDoor
open Go.ChangeShapes Go.WideShapes Go.ChangeAt Go.RowKit Go.Sort
set_option linter.unusedVariables false

/-- An append to a slice of the call's own, of a slice of instructions that came in, nil included. -/
theorem wpList_append_inss {ops : Array Oper} {rest : List Oper} {o : Oper} {t : Act} {w : World} {Q : Exit → Act → World → Prop} (hgd : o.guard = none) (s x : Operand)
    (ho : o.op = .call { callee := .builtin .append, args := #[s, x], argTypes := #[22, 22] }) (base : Nat) (v : Value) (n : Nat) (xs : List Value) (hs : t.eval s = v) (hown : w.ownsRow base 40 4 v n xs)
    (a : Option Addr) (len cap : Nat) (is : List I) (hx : t.eval x = .slice a len cap) (hI : Inss w a len cap is) (hn : NilP a len cap) (h63 : n + len ≤ maxLen) (hbytes : (n + len) * 32 ≤ 140737488355328) (hbase : base ≤ w.heap.size)
    (h : ∀ v' w', w'.ownsRow base 40 4 v' (n + len) (xs ++ flatI is) → Hid (w.grownBy w' v.ownBlock) → wpList Tryd.prog ops Q rest (t.put o.dst v') w') : wpList Tryd.prog ops Q (o :: rest) t w := by
  obtain ⟨i0, hi, hz0, hz1, hz2⟩ := info_parts infoIn
  cases a with
  | none =>
    obtain ⟨rfl, rfl⟩ := hn rfl
    have hnil : is = [] := List.eq_nil_of_length_eq_zero hI.1
    subst hnil
    refine wpList_append_own_none hgd s x 22 ho base 40 i0 4 Tryd.underlying22 hi v n xs hs hown hx ?_
    exact h v w (by simpa [flatI] using hown) ⟨rfl, rfl, rfl, Nat.le_refl _, fun _ _ _ => rfl⟩
  | some ad =>
    exact wpList_append_own w hgd s x 22 ho base 40 i0 _ 4 32 Tryd.underlying22 hi hz0 hz1 hz2 rfl (by omega) v n xs hs hown ad len cap (flatI is) hx (by rw [flatI_length, hI.1]) hI.cells (flatI_one is) h63 hbytes hbase
      fun v' w' h1 h2 _ => h v' w' h1 h2
theorem str_add {w : World} (xs ys : List Int) (hx : xs.length ≤ 2304) (hy : ys.length ≤ 2304) : (Op.stringOp .add (strOfNums xs) (strOfNums ys)).run Tryd.prog w = .ok (.string (strOfNums (xs ++ ys))) w := by
  have := run_string_add_lists (P := Tryd.prog) w (xs.map fun n => UInt8.ofNat n.toNat) (ys.map fun n => UInt8.ofNat n.toNat) (by simp; omega) (by simp; omega)
  unfold strOfNums
  rw [List.map_append]
  exact this
theorem getD_two (is js : List I) (k : Nat) : (is ++ js).getD k default = if k < is.length then is.getD k default else js.getD (k - is.length) default := by
  by_cases h : k < is.length
  · simp [List.getD_eq_getElem?_getD, h, List.getElem?_append_left h]
  · simp [List.getD_eq_getElem?_getD, h, List.getElem?_append_right (show is.length ≤ k by omega)]
theorem encB_two (is js : List I) : encB (is ++ js) = encB is ++ encB js := by simp [encB]
/-- Programs without jumps, one behind the other. -/
theorem two_iff {is js : List I} (hp : Plain (is ++ js) (is.length + js.length)) : checkN (is ++ js) = 0 ↔ checkN is = 0 ∧ checkN js = 0 ∧ is.length + js.length ≤ 256 := by
  have key : ∀ (l : List I), checkN l = 0 ↔ l.length ≤ 256 ∧ ∀ k, k < l.length → mayB (l.getD k default) l.length = true := fun l => by
    constructor
    · intro h
      exact ⟨checkN_small h, fun k hk => checkN_may h k hk⟩
    · intro h
      exact checkN_ok (by omega) h.2
  rw [key, key, key]
  have g := getD_two is js
  have m := fun k (hk : k < is.length + js.length) (n n' : Int) => may_plain (hp k hk) n n'
  constructor
  · rintro ⟨h1, h2⟩
    rw [List.length_append] at h1 h2
    refine ⟨⟨by omega, fun k hk => ?_⟩, ⟨by omega, fun k hk => ?_⟩, h1⟩
    · have := h2 k (by omega)
      rw [m k (by omega) _ (is.length : Int), g k, if_pos hk] at this
      exact this
    · have := h2 (is.length + k) (by omega)
      rw [m (is.length + k) (by omega) _ (js.length : Int), g (is.length + k), if_neg (by omega), show is.length + k - is.length = k by omega] at this
      exact this
  · rintro ⟨⟨h1, h2⟩, ⟨h3, h4⟩, h5⟩
    rw [List.length_append]
    refine ⟨h5, fun k hk => ?_⟩
    by_cases hk1 : k < is.length
    · rw [m k hk _ (is.length : Int), g k, if_pos hk1]
      exact h2 k hk1
    · rw [m k hk _ (js.length : Int), g k, if_neg hk1]
      exact h4 _ (by omega)

/-! The law. -/
theorem len_enc_ok {w : World} {a : Option Addr} {cap : Nat} {is : List I} {eb : Addr} (he : ErrIs w eb) (h : Inss w a is.length cap is) (hz : checkN is = 0) :
    Calls Tryd.prog 14 #[.slice a is.length cap] w fun e w' => ∃ a2 cap2, e = .returned (.tuple #[.slice a2 (encB is).length cap2, .int .i64 0]) ∧ Aside (Byts w' a2 (encB is).length cap2 (encB is) ∧ Below w.heap.size w w') := back_enc he h hz
theorem len_enc_bad {w : World} {a : Option Addr} {cap : Nat} {is : List I} {eb : Addr} (he : ErrIs w eb) (h : Inss w a is.length cap is) (z : Int) (hz : checkN is = z) (hn : z ≠ 0) :
    Calls Tryd.prog 14 #[.slice a is.length cap] w fun e w' => ∃ a2 cap2, e = .returned (.tuple #[.slice a2 0 cap2, .int .i64 z]) ∧ Aside (Byts w' a2 0 cap2 [] ∧ Below w.heap.size w w') := by
  refine (cEncode_bad h he z hz hn).mono ?_
  rintro e w' ⟨v, rfl, hq⟩
  obtain ⟨a2, cap2, rfl, hB, hb⟩ := hq.out
  exact ⟨a2, cap2, rfl, hB, hb⟩
theorem len_next {w w2 : World} {f : FuncId} {args : Array Value} {L1 L2 c1 : Nat} {a1 : Option Addr} {bs1 bs2 : List Int} {z : Int} (h1 : Byts w2 a1 L1 c1 bs1) (hb : Below w.heap.size w w2)
    (h : Calls Tryd.prog f args w2 fun e w' => ∃ a3 cap3, e = .returned (.tuple #[.slice a3 L2 cap3, .int .i64 z]) ∧ Aside (Byts w' a3 L2 cap3 bs2 ∧ Below w2.heap.size w2 w')) :
    Calls Tryd.prog f args w2 fun e w' => ∃ a3 cap3, e = .returned (.tuple #[.slice a3 L2 cap3, .int .i64 z]) ∧ Aside (Byts w' a1 L1 c1 bs1 ∧ Byts w' a3 L2 cap3 bs2 ∧ Below w.heap.size w w') := by
  refine h.mono ?_
  rintro e w' ⟨a3, cap3, rfl, hq⟩
  exact ⟨a3, cap3, rfl, h1.below hq.out.2, hq.out.1, hb.trans (hq.out.2.mono hb.size)⟩
theorem len_third {w w3 w6 : World} {n base : Nat} {is : List I} {v : Value} {a1 a2 : Option Addr} {L1 L2 c1 c2 : Nat} {bs1 bs2 : List Int} {eb : Addr} {z : Int} {bs : List Int} (he : ErrIs w eb) (hf : ∀ i ∈ is, i.fits) (hn : is.length = n) (hown : w6.ownsRow base 40 4 v n (flatI is))
    (hb3 : Below w.heap.size w w3) (hb : Below w3.heap.size w3 w6) (h1 : Byts w3 a1 L1 c1 bs1) (h2 : Byts w3 a2 L2 c2 bs2) (hz : checkN is = z) (hbs : bs = if z = 0 then encB is else []) :
    ∃ a6 cap6, v = .slice a6 n cap6 ∧ Calls Tryd.prog 14 #[.slice a6 n cap6] w6 fun e w' => ∃ a8 cap8, e = .returned (.tuple #[.slice a8 bs.length cap8, .int .i64 z]) ∧ Aside (Byts w' a1 L1 c1 bs1 ∧ Byts w' a2 L2 c2 bs2 ∧ Byts w' a8 bs.length cap8 bs ∧ Below w.heap.size w w') := by
  obtain ⟨a6, cap6, rfl, hI⟩ := inss_of_own hown hf
  refine ⟨a6, cap6, rfl, ?_⟩
  have hb6 := hb3.trans (hb.mono hb3.size)
  have hc := cEncode_any hI (he.below hb6)
  unfold encN at hc
  rw [hz, ← hbs] at hc
  refine hc.mono ?_
  rintro e w' ⟨v, rfl, hq⟩
  obtain ⟨a8, cap8, rfl, hB, hb8⟩ := hq.out
  exact ⟨a8, cap8, rfl, (h1.below hb).below hb8, (h2.below hb).below hb8, hB, hb6.trans (hb8.mono hb6.size)⟩

set_option maxRecDepth 100000 in
set_option maxHeartbeats 8000000 in
theorem lawLen_K4 {w : World} {a a' : Option Addr} {cap cap' : Nat} {is js : List I} {eb : Addr} (hT : Tab w) (he : ErrIs w eb) (h : Inss w a is.length cap is) (hr : is.length * 32 ≤ 140737488351232) (hn : NilP a is.length cap) (h' : Inss w a' js.length cap' js) (hr' : js.length * 32 ≤ 140737488351232) (hn' : NilP a' js.length cap') (hbk : is.length + js.length ≤ 1048576)
    (hz1 : checkN is = 0) (hz2 : checkN js = 0) (hs : is.length + js.length ≤ 256) :
    Calls Tryd.prog 9 #[.slice a is.length cap, .slice a' js.length cap'] w fun e w' => e = .returned (.bool true) ∧ Below w.heap.size w w' := by
  have h3 := fun w' (hb : Below w.heap.size w w') => awake3_any w' (hT.below hb)
  have hI := Lib.hid h
  have hJ := Lib.hid h'
  have hE := Lib.hid he
  have hnI := Lib.hid hn
  have hnJ := Lib.hid hn'
  have hmI : Hid (is.length ≤ maxLen ∧ js.length ≤ maxLen) := ⟨by unfold maxLen; omega, by unfold maxLen; omega⟩
  have hfit : Hid (∀ i ∈ is ++ js, i.fits) := fun i hi => by
    rcases List.mem_append.1 hi with h1 | h1
    · exact h.2.2.2.1 i h1
    · exact h'.2.2.2.1 i h1
  have hti := Lib.hid (@two_iff is js)
  have hg2 := Lib.hid (getD_two is js)
  have hc1 := len_enc_ok he h hz1
  have f1 : (((encB is).length : Int) != 9 * (is.length : Int)) = false := by rw [encB_length]; simp; omega
  have hc2 := fun a2 c2 w2 h1 hb => len_next (w2 := w2) (a1 := a2) (c1 := c2) (bs1 := encB is) (L1 := (encB is).length) h1 hb (len_enc_ok (he.below hb) (h'.below hb) hz2)
  have hyes : Hid (Plain (is ++ js) (is.length + js.length) → checkN (is ++ js) = 0) := fun hp => (two_iff hp).2 ⟨hz1, hz2, hs⟩
  have hadd := fun w => str_add (w := w) (encB is) (encB js) (by rw [encB_length]; omega) (by rw [encB_length]; omega)
  have hB2 := Lib.hid (encB_two is js)
  clear hz1 hz2
  generalize hL1 : (encB is).length = L1 at f1 hc1 hc2
  generalize encB is = bs1 at hc1 hc2 hadd hB2
  clear hL1
  generalize hL2 : (encB js).length = L2 at hc2
  generalize encB js = bs2 at hc2 hadd hB2
  clear hL2
  clear hT he h h' hn hn'
  generalize hni : is.length = n1 at *
  generalize hnj : js.length = n2 at *
  have hni' := Lib.hid hni
  have hnj' := Lib.hid hnj
  clear hni hnj
  go_enter Tryd.func9, Tryd.ntmps9
  go_wp2_with (first
    | (go_at_call 14; ((with_reducible refine hc1.mono ?_); rintro e w2 ⟨a2, cap2, rfl, hq2⟩))
    | (go_at_call 14; ((with_reducible refine (hc2 _ _ _ hq2.out.1 hq2.out.2).mono ?_); rintro e w3 ⟨a3, cap3, rfl, hq3⟩)))
  have hb3 := Lib.hid hq3.out.2.2
  clear hc1 hc2 hq2
  go_loop [9] (fun i => ∃ k : Nat, k ≤ n1 + n2 ∧ i = .int .i64 k ∧ Aside (Plain (is ++ js) k)) (fun i => n1 + n2 - (intOf i).toNat)
  case atStart => exact ⟨0, Nat.zero_le _, rfl, fun j hj => by omega⟩
  case round =>
    obtain ⟨k, hk, rfl, hpl⟩ := hrel
    by_cases hlt : k < n1 + n2
    · have hps : Hid (plainB ((is ++ js).getD k default) = true → Plain (is ++ js) (k + 1)) := fun hp j hj => by
        by_cases e : j = k
        · subst e; exact hp
        · exact hpl.out j (by omega)
      by_cases hk1 : k < n1
      · obtain ⟨b, off, rfl, hm⟩ : ∃ b off, a = some ⟨b, off, none⟩ ∧ ∀ j, j < n1 → InsAt w b (off + j * 4) (is.getD j default) := by
          rcases hI.out.2.2.2.2 with h0 | h1
          · omega
          · exact h1
        have hx := (hm k hk1).below hb3.out
        have e0 : (is ++ js).getD k default = is.getD k default := by rw [hg2.out k, if_pos hk1]
        rw [e0] at hps
        clear hm e0
        generalize is.getD k default = x at hx hps
        obtain ⟨op, xa, xb, xc⟩ := x
        obtain ⟨-, x0, -, -, -⟩ := hx
        by_cases e1 : op = 10
        · subst e1
          go_wp2_with (go_at_call 13; refine (h3 _ hb3.out).mono ?_; rintro e w4 ⟨rfl, hr4⟩)
          go_ret
          exact ⟨rfl, hb3.out.trans (hr4.below.mono hb3.out.size)⟩
        · by_cases e2 : op = 11
          · subst e2
            go_wp2_with (go_at_call 13; refine (h3 _ hb3.out).mono ?_; rintro e w4 ⟨rfl, hr4⟩)
            go_ret
            exact ⟨rfl, hb3.out.trans (hr4.below.mono hb3.out.size)⟩
          · have e1' : (op == 10) = false := by simpa using e1
            have e2' : (op == 11) = false := by simpa using e2
            have hp := Lib.hid (hps.out (by simp [plainB, e1, e2]))
            go_wp2
            go_round
            case rel => exact ⟨k + 1, by omega, by go_num, hp.out⟩
            case measure => simp [intOf]; omega
      · obtain ⟨b, off, rfl, hm⟩ : ∃ b off, a' = some ⟨b, off, none⟩ ∧ ∀ j, j < n2 → InsAt w b (off + j * 4) (js.getD j default) := by
          rcases hJ.out.2.2.2.2 with h0 | h1
          · omega
          · exact h1
        have hx := (hm (k - n1) (by omega)).below hb3.out
        have e0 : (is ++ js).getD k default = js.getD (k - n1) default := by rw [hg2.out k, if_neg hk1]
        rw [e0] at hps
        have hsub : ((k : Int) - (n1 : Int)).toNat = k - n1 := by omega
        clear hm e0
        generalize js.getD (k - n1) default = x at hx hps
        obtain ⟨op, xa, xb, xc⟩ := x
        obtain ⟨-, x0, -, -, -⟩ := hx
        by_cases e1 : op = 10
        · subst e1
          go_wp2_with (go_at_call 13; refine (h3 _ hb3.out).mono ?_; rintro e w4 ⟨rfl, hr4⟩)
          go_ret
          exact ⟨rfl, hb3.out.trans (hr4.below.mono hb3.out.size)⟩
        · by_cases e2 : op = 11
          · subst e2
            go_wp2_with (go_at_call 13; refine (h3 _ hb3.out).mono ?_; rintro e w4 ⟨rfl, hr4⟩)
            go_ret
            exact ⟨rfl, hb3.out.trans (hr4.below.mono hb3.out.size)⟩
          · have e1' : (op == 10) = false := by simpa using e1
            have e2' : (op == 11) = false := by simpa using e2
            have hp := Lib.hid (hps.out (by simp [plainB, e1, e2]))
            go_wp2
            go_round
            case rel => exact ⟨k + 1, by omega, by go_num, hp.out⟩
            case measure => simp [intOf]; omega
    · obtain rfl : k = n1 + n2 := by omega
      have hz3 : checkN (is ++ js) = 0 := hyes.out hpl.out
      have hbs : bs1 ++ bs2 = if (0 : Int) = 0 then encB (is ++ js) else [] := by rw [if_pos rfl, hB2.out]
      have hz3' := Lib.hid hz3
      have hbs' := Lib.hid hbs
      clear hz3 hbs hpl
      have hs3 := hb3.out.size
      have hm12 : Hid (n1 + n2 ≤ maxLen) := by show n1 + n2 ≤ maxLen; unfold maxLen; omega
      go_wp2_with (at_builtin; refine wpList_append_inss rfl (.tmp 76) (.tmp 77) rfl w3.heap.size _ 0 [] rfl ?o1 _ n1 cap is rfl ?o2 hnI.out ?o3 ?o4 ?o5 ?_)
      case o1 => exact World.ownsRow_made w3 #[] 0 (Nat.le_refl _) (Nat.zero_le _) (by simp)
      case o2 => exact (hI.out.below hb3.out).below ((Below.refl _ w3).alloc (Nat.le_refl _) _)
      case o3 => exact hmI.out.1
      case o4 => omega
      intro v1 w4 hown4 hgrow4
      have hown4' : Hid (w4.ownsRow w3.heap.size 40 4 v1 n1 (flatI is)) := by
        exact hown4
      have hb34 : Hid (Below w3.heap.size w3 w4) := ((Below.refl _ w3).alloc (Nat.le_refl _) _).grown hgrow4.out (by simp) (by intro k hk; simp [Value.ownBlock] at hk; omega)
      clear hown4 hgrow4
      go_wp2_with (at_builtin; refine wpList_append_inss rfl (.tmp 78) (.tmp 79) rfl w3.heap.size _ n1 (flatI is) rfl hown4'.out _ n2 cap' js rfl ?p2 hnJ.out ?p3 ?p4 ?p5 ?_)
      case p2 => exact (hJ.out.below hb3.out).below hb34.out
      case p3 => exact hm12.out
      case p4 => omega
      case p5 => exact hb34.out.size
      intro v2 w5 hown5 hgrow5
      rw [← flatI_append] at hown5
      have hb35 := hb34.out.grown hgrow5.out hb34.out.size (fun k hk => (hown4'.out.lt k hk).1)
      obtain ⟨a6, cap6, rfl, hc6⟩ := len_third hE.out hfit.out (by rw [List.length_append, hni'.out, hnj'.out]) hown5 hb3.out hb35 hq3.out.1 hq3.out.2.1 hz3'.out hbs'.out
      clear hown5 hgrow5 hb35 hown4' hb34
      generalize hL3 : (bs1 ++ bs2).length = L3 at hc6
      have hL3' := Lib.hid hL3
      clear hL3
      go_wp2_with (go_at_call 14; refine hc6.mono ?_; rintro e w8 ⟨a8, cap8, rfl, hq8⟩; have k1 := hq8.out.1.conv; have k2 := hq8.out.2.1.conv; have k8 := hq8.out.2.2.1.conv)
      go_ret
      exact ⟨rfl, hq8.out.2.2.2⟩

set_option maxRecDepth 100000 in
set_option maxHeartbeats 8000000 in
theorem lawLen_K3 {w : World} {a a' : Option Addr} {cap cap' : Nat} {is js : List I} {eb : Addr} (hT : Tab w) (he : ErrIs w eb) (h : Inss w a is.length cap is) (hr : is.length * 32 ≤ 140737488351232) (hn : NilP a is.length cap) (h' : Inss w a' js.length cap' js) (hr' : js.length * 32 ≤ 140737488351232) (hn' : NilP a' js.length cap') (hbk : is.length + js.length ≤ 1048576)
    (hz1 : checkN is = 0) (hz2 : checkN js = 0) (hs : 256 < is.length + js.length) :
    Calls Tryd.prog 9 #[.slice a is.length cap, .slice a' js.length cap'] w fun e w' => e = .returned (.bool true) ∧ Below w.heap.size w w' := by
  have h3 := fun w' (hb : Below w.heap.size w w') => awake3_any w' (hT.below hb)
  have hI := Lib.hid h
  have hJ := Lib.hid h'
  have hE := Lib.hid he
  have hnI := Lib.hid hn
  have hnJ := Lib.hid hn'
  have hmI : Hid (is.length ≤ maxLen ∧ js.length ≤ maxLen) := ⟨by unfold maxLen; omega, by unfold maxLen; omega⟩
  have hfit : Hid (∀ i ∈ is ++ js, i.fits) := fun i hi => by
    rcases List.mem_append.1 hi with h1 | h1
    · exact h.2.2.2.1 i h1
    · exact h'.2.2.2.1 i h1
  have hti := Lib.hid (@two_iff is js)
  have hg2 := Lib.hid (getD_two is js)
  have hc1 := len_enc_ok he h hz1
  have f1 : (((encB is).length : Int) != 9 * (is.length : Int)) = false := by rw [encB_length]; simp; omega
  have hc2 := fun a2 c2 w2 h1 hb => len_next (w2 := w2) (a1 := a2) (c1 := c2) (bs1 := encB is) (L1 := (encB is).length) h1 hb (len_enc_ok (he.below hb) (h'.below hb) hz2)
  have hno : Hid (Plain (is ++ js) (is.length + js.length) → checkN (is ++ js) ≠ 0) := fun hp e => by have := ((two_iff hp).1 e).2.2; omega
  clear hz1 hz2
  generalize hL1 : (encB is).length = L1 at f1 hc1 hc2
  generalize encB is = bs1 at hc1 hc2
  clear hL1
  clear hT he h h' hn hn'
  generalize hni : is.length = n1 at *
  generalize hnj : js.length = n2 at *
  have hni' := Lib.hid hni
  have hnj' := Lib.hid hnj
  clear hni hnj
  go_enter Tryd.func9, Tryd.ntmps9
  go_wp2_with (first
    | (go_at_call 14; ((with_reducible refine hc1.mono ?_); rintro e w2 ⟨a2, cap2, rfl, hq2⟩))
    | (go_at_call 14; ((with_reducible refine (hc2 _ _ _ hq2.out.1 hq2.out.2).mono ?_); rintro e w3 ⟨a3, cap3, rfl, hq3⟩)))
  have hb3 := Lib.hid hq3.out.2.2
  clear hc1 hc2 hq2
  go_loop [9] (fun i => ∃ k : Nat, k ≤ n1 + n2 ∧ i = .int .i64 k ∧ Aside (Plain (is ++ js) k)) (fun i => n1 + n2 - (intOf i).toNat)
  case atStart => exact ⟨0, Nat.zero_le _, rfl, fun j hj => by omega⟩
  case round =>
    obtain ⟨k, hk, rfl, hpl⟩ := hrel
    by_cases hlt : k < n1 + n2
    · have hps : Hid (plainB ((is ++ js).getD k default) = true → Plain (is ++ js) (k + 1)) := fun hp j hj => by
        by_cases e : j = k
        · subst e; exact hp
        · exact hpl.out j (by omega)
      by_cases hk1 : k < n1
      · obtain ⟨b, off, rfl, hm⟩ : ∃ b off, a = some ⟨b, off, none⟩ ∧ ∀ j, j < n1 → InsAt w b (off + j * 4) (is.getD j default) := by
          rcases hI.out.2.2.2.2 with h0 | h1
          · omega
          · exact h1
        have hx := (hm k hk1).below hb3.out
        have e0 : (is ++ js).getD k default = is.getD k default := by rw [hg2.out k, if_pos hk1]
        rw [e0] at hps
        clear hm e0
        generalize is.getD k default = x at hx hps
        obtain ⟨op, xa, xb, xc⟩ := x
        obtain ⟨-, x0, -, -, -⟩ := hx
        by_cases e1 : op = 10
        · subst e1
          go_wp2_with (go_at_call 13; refine (h3 _ hb3.out).mono ?_; rintro e w4 ⟨rfl, hr4⟩)
          go_ret
          exact ⟨rfl, hb3.out.trans (hr4.below.mono hb3.out.size)⟩
        · by_cases e2 : op = 11
          · subst e2
            go_wp2_with (go_at_call 13; refine (h3 _ hb3.out).mono ?_; rintro e w4 ⟨rfl, hr4⟩)
            go_ret
            exact ⟨rfl, hb3.out.trans (hr4.below.mono hb3.out.size)⟩
          · have e1' : (op == 10) = false := by simpa using e1
            have e2' : (op == 11) = false := by simpa using e2
            have hp := Lib.hid (hps.out (by simp [plainB, e1, e2]))
            go_wp2
            go_round
            case rel => exact ⟨k + 1, by omega, by go_num, hp.out⟩
            case measure => simp [intOf]; omega
      · obtain ⟨b, off, rfl, hm⟩ : ∃ b off, a' = some ⟨b, off, none⟩ ∧ ∀ j, j < n2 → InsAt w b (off + j * 4) (js.getD j default) := by
          rcases hJ.out.2.2.2.2 with h0 | h1
          · omega
          · exact h1
        have hx := (hm (k - n1) (by omega)).below hb3.out
        have e0 : (is ++ js).getD k default = js.getD (k - n1) default := by rw [hg2.out k, if_neg hk1]
        rw [e0] at hps
        have hsub : ((k : Int) - (n1 : Int)).toNat = k - n1 := by omega
        clear hm e0
        generalize js.getD (k - n1) default = x at hx hps
        obtain ⟨op, xa, xb, xc⟩ := x
        obtain ⟨-, x0, -, -, -⟩ := hx
        by_cases e1 : op = 10
        · subst e1
          go_wp2_with (go_at_call 13; refine (h3 _ hb3.out).mono ?_; rintro e w4 ⟨rfl, hr4⟩)
          go_ret
          exact ⟨rfl, hb3.out.trans (hr4.below.mono hb3.out.size)⟩
        · by_cases e2 : op = 11
          · subst e2
            go_wp2_with (go_at_call 13; refine (h3 _ hb3.out).mono ?_; rintro e w4 ⟨rfl, hr4⟩)
            go_ret
            exact ⟨rfl, hb3.out.trans (hr4.below.mono hb3.out.size)⟩
          · have e1' : (op == 10) = false := by simpa using e1
            have e2' : (op == 11) = false := by simpa using e2
            have hp := Lib.hid (hps.out (by simp [plainB, e1, e2]))
            go_wp2
            go_round
            case rel => exact ⟨k + 1, by omega, by go_num, hp.out⟩
            case measure => simp [intOf]; omega
    · obtain rfl : k = n1 + n2 := by omega
      obtain ⟨z3, hz3⟩ : ∃ z3, checkN (is ++ js) = z3 := ⟨_, rfl⟩
      have hn3 : ¬ z3 = 0 := by rw [← hz3]; exact hno.out hpl.out
      have hbs : ([] : List Int) = if z3 = 0 then encB (is ++ js) else [] := by rw [if_neg hn3]
      have t3 : (z3 != 0) = true := by simpa using hn3
      clear hn3
      have hz3' := Lib.hid hz3
      have hbs' := Lib.hid hbs
      clear hz3 hbs hpl
      have hs3 := hb3.out.size
      have hm12 : Hid (n1 + n2 ≤ maxLen) := by show n1 + n2 ≤ maxLen; unfold maxLen; omega
      go_wp2_with (at_builtin; refine wpList_append_inss rfl (.tmp 76) (.tmp 77) rfl w3.heap.size _ 0 [] rfl ?o1 _ n1 cap is rfl ?o2 hnI.out ?o3 ?o4 ?o5 ?_)
      case o1 => exact World.ownsRow_made w3 #[] 0 (Nat.le_refl _) (Nat.zero_le _) (by simp)
      case o2 => exact (hI.out.below hb3.out).below ((Below.refl _ w3).alloc (Nat.le_refl _) _)
      case o3 => exact hmI.out.1
      case o4 => omega
      intro v1 w4 hown4 hgrow4
      have hown4' : Hid (w4.ownsRow w3.heap.size 40 4 v1 n1 (flatI is)) := by
        exact hown4
      have hb34 : Hid (Below w3.heap.size w3 w4) := ((Below.refl _ w3).alloc (Nat.le_refl _) _).grown hgrow4.out (by simp) (by intro k hk; simp [Value.ownBlock] at hk; omega)
      clear hown4 hgrow4
      go_wp2_with (at_builtin; refine wpList_append_inss rfl (.tmp 78) (.tmp 79) rfl w3.heap.size _ n1 (flatI is) rfl hown4'.out _ n2 cap' js rfl ?p2 hnJ.out ?p3 ?p4 ?p5 ?_)
      case p2 => exact (hJ.out.below hb3.out).below hb34.out
      case p3 => exact hm12.out
      case p4 => omega
      case p5 => exact hb34.out.size
      intro v2 w5 hown5 hgrow5
      rw [← flatI_append] at hown5
      have hb35 := hb34.out.grown hgrow5.out hb34.out.size (fun k hk => (hown4'.out.lt k hk).1)
      obtain ⟨a6, cap6, rfl, hc6⟩ := len_third hE.out hfit.out (by rw [List.length_append, hni'.out, hnj'.out]) hown5 hb3.out hb35 hq3.out.1 hq3.out.2.1 hz3'.out hbs'.out
      clear hown5 hgrow5 hb35 hown4' hb34
      go_wp2_with (first
        | (go_at_call 14; refine hc6.mono ?_; rintro e w8 ⟨a8, cap8, rfl, hq8⟩)
        | (go_at_call 13; refine (h3 _ hq8.out.2.2.2).mono ?_; rintro e w9 ⟨rfl, hr9⟩))
      go_ret
      exact ⟨rfl, hq8.out.2.2.2.trans (hr9.below.mono hq8.out.2.2.2.size)⟩

set_option maxRecDepth 100000 in
set_option maxHeartbeats 8000000 in
theorem lawLen_K2 {w : World} {a a' : Option Addr} {cap cap' : Nat} {is js : List I} {eb : Addr} (hT : Tab w) (he : ErrIs w eb) (h : Inss w a is.length cap is) (hr : is.length * 32 ≤ 140737488351232) (hn : NilP a is.length cap) (h' : Inss w a' js.length cap' js) (hr' : js.length * 32 ≤ 140737488351232) (hn' : NilP a' js.length cap') (hbk : is.length + js.length ≤ 1048576)
    (hz1 : checkN is = 0) (z2 : Int) (hz2 : checkN js = z2) (hn2 : z2 ≠ 0) :
    Calls Tryd.prog 9 #[.slice a is.length cap, .slice a' js.length cap'] w fun e w' => e = .returned (.bool true) ∧ Below w.heap.size w w' := by
  have h3 := fun w' (hb : Below w.heap.size w w') => awake3_any w' (hT.below hb)
  have hI := Lib.hid h
  have hJ := Lib.hid h'
  have hE := Lib.hid he
  have hnI := Lib.hid hn
  have hnJ := Lib.hid hn'
  have hmI : Hid (is.length ≤ maxLen ∧ js.length ≤ maxLen) := ⟨by unfold maxLen; omega, by unfold maxLen; omega⟩
  have hfit : Hid (∀ i ∈ is ++ js, i.fits) := fun i hi => by
    rcases List.mem_append.1 hi with h1 | h1
    · exact h.2.2.2.1 i h1
    · exact h'.2.2.2.1 i h1
  have hti := Lib.hid (@two_iff is js)
  have hg2 := Lib.hid (getD_two is js)
  have hc1 := len_enc_ok he h hz1
  have f1 : (((encB is).length : Int) != 9 * (is.length : Int)) = false := by rw [encB_length]; simp; omega
  have hc2 := fun a2 c2 w2 h1 hb => len_next (w2 := w2) (a1 := a2) (c1 := c2) (bs1 := encB is) (L1 := (encB is).length) h1 hb (len_enc_bad (he.below hb) (h'.below hb) z2 hz2 hn2)
  have hno : Hid (Plain (is ++ js) (is.length + js.length) → checkN (is ++ js) ≠ 0) := fun hp e => hn2 (by rw [← hz2]; exact ((two_iff hp).1 e).2.1)
  have t1 : (z2 != 0) = true := by simpa using hn2
  clear hz1 hz2 hn2
  generalize hL1 : (encB is).length = L1 at f1 hc1 hc2
  generalize encB is = bs1 at hc1 hc2
  clear hL1
  clear hT he h h' hn hn'
  generalize hni : is.length = n1 at *
  generalize hnj : js.length = n2 at *
  have hni' := Lib.hid hni
  have hnj' := Lib.hid hnj
  clear hni hnj
  go_enter Tryd.func9, Tryd.ntmps9
  go_wp2_with (first
    | (go_at_call 14; ((with_reducible refine hc1.mono ?_); rintro e w2 ⟨a2, cap2, rfl, hq2⟩))
    | (go_at_call 14; ((with_reducible refine (hc2 _ _ _ hq2.out.1 hq2.out.2).mono ?_); rintro e w3 ⟨a3, cap3, rfl, hq3⟩)))
  have hb3 := Lib.hid hq3.out.2.2
  clear hc1 hc2 hq2
  go_loop [9] (fun i => ∃ k : Nat, k ≤ n1 + n2 ∧ i = .int .i64 k ∧ Aside (Plain (is ++ js) k)) (fun i => n1 + n2 - (intOf i).toNat)
  case atStart => exact ⟨0, Nat.zero_le _, rfl, fun j hj => by omega⟩
  case round =>
    obtain ⟨k, hk, rfl, hpl⟩ := hrel
    by_cases hlt : k < n1 + n2
    · have hps : Hid (plainB ((is ++ js).getD k default) = true → Plain (is ++ js) (k + 1)) := fun hp j hj => by
        by_cases e : j = k
        · subst e; exact hp
        · exact hpl.out j (by omega)
      by_cases hk1 : k < n1
      · obtain ⟨b, off, rfl, hm⟩ : ∃ b off, a = some ⟨b, off, none⟩ ∧ ∀ j, j < n1 → InsAt w b (off + j * 4) (is.getD j default) := by
          rcases hI.out.2.2.2.2 with h0 | h1
          · omega
          · exact h1
        have hx := (hm k hk1).below hb3.out
        have e0 : (is ++ js).getD k default = is.getD k default := by rw [hg2.out k, if_pos hk1]
        rw [e0] at hps
        clear hm e0
        generalize is.getD k default = x at hx hps
        obtain ⟨op, xa, xb, xc⟩ := x
        obtain ⟨-, x0, -, -, -⟩ := hx
        by_cases e1 : op = 10
        · subst e1
          go_wp2_with (go_at_call 13; refine (h3 _ hb3.out).mono ?_; rintro e w4 ⟨rfl, hr4⟩)
          go_ret
          exact ⟨rfl, hb3.out.trans (hr4.below.mono hb3.out.size)⟩
        · by_cases e2 : op = 11
          · subst e2
            go_wp2_with (go_at_call 13; refine (h3 _ hb3.out).mono ?_; rintro e w4 ⟨rfl, hr4⟩)
            go_ret
            exact ⟨rfl, hb3.out.trans (hr4.below.mono hb3.out.size)⟩
          · have e1' : (op == 10) = false := by simpa using e1
            have e2' : (op == 11) = false := by simpa using e2
            have hp := Lib.hid (hps.out (by simp [plainB, e1, e2]))
            go_wp2
            go_round
            case rel => exact ⟨k + 1, by omega, by go_num, hp.out⟩
            case measure => simp [intOf]; omega
      · obtain ⟨b, off, rfl, hm⟩ : ∃ b off, a' = some ⟨b, off, none⟩ ∧ ∀ j, j < n2 → InsAt w b (off + j * 4) (js.getD j default) := by
          rcases hJ.out.2.2.2.2 with h0 | h1
          · omega
          · exact h1
        have hx := (hm (k - n1) (by omega)).below hb3.out
        have e0 : (is ++ js).getD k default = js.getD (k - n1) default := by rw [hg2.out k, if_neg hk1]
        rw [e0] at hps
        have hsub : ((k : Int) - (n1 : Int)).toNat = k - n1 := by omega
        clear hm e0
        generalize js.getD (k - n1) default = x at hx hps
        obtain ⟨op, xa, xb, xc⟩ := x
        obtain ⟨-, x0, -, -, -⟩ := hx
        by_cases e1 : op = 10
        · subst e1
          go_wp2_with (go_at_call 13; refine (h3 _ hb3.out).mono ?_; rintro e w4 ⟨rfl, hr4⟩)
          go_ret
          exact ⟨rfl, hb3.out.trans (hr4.below.mono hb3.out.size)⟩
        · by_cases e2 : op = 11
          · subst e2
            go_wp2_with (go_at_call 13; refine (h3 _ hb3.out).mono ?_; rintro e w4 ⟨rfl, hr4⟩)
            go_ret
            exact ⟨rfl, hb3.out.trans (hr4.below.mono hb3.out.size)⟩
          · have e1' : (op == 10) = false := by simpa using e1
            have e2' : (op == 11) = false := by simpa using e2
            have hp := Lib.hid (hps.out (by simp [plainB, e1, e2]))
            go_wp2
            go_round
            case rel => exact ⟨k + 1, by omega, by go_num, hp.out⟩
            case measure => simp [intOf]; omega
    · obtain rfl : k = n1 + n2 := by omega
      obtain ⟨z3, hz3⟩ : ∃ z3, checkN (is ++ js) = z3 := ⟨_, rfl⟩
      have hn3 : ¬ z3 = 0 := by rw [← hz3]; exact hno.out hpl.out
      have hbs : ([] : List Int) = if z3 = 0 then encB (is ++ js) else [] := by rw [if_neg hn3]
      have t3 : (z3 != 0) = true := by simpa using hn3
      clear hn3
      have hz3' := Lib.hid hz3
      have hbs' := Lib.hid hbs
      clear hz3 hbs hpl
      have hs3 := hb3.out.size
      have hm12 : Hid (n1 + n2 ≤ maxLen) := by show n1 + n2 ≤ maxLen; unfold maxLen; omega
      go_wp2_with (at_builtin; refine wpList_append_inss rfl (.tmp 76) (.tmp 77) rfl w3.heap.size _ 0 [] rfl ?o1 _ n1 cap is rfl ?o2 hnI.out ?o3 ?o4 ?o5 ?_)
      case o1 => exact World.ownsRow_made w3 #[] 0 (Nat.le_refl _) (Nat.zero_le _) (by simp)
      case o2 => exact (hI.out.below hb3.out).below ((Below.refl _ w3).alloc (Nat.le_refl _) _)
      case o3 => exact hmI.out.1
      case o4 => omega
      intro v1 w4 hown4 hgrow4
      have hown4' : Hid (w4.ownsRow w3.heap.size 40 4 v1 n1 (flatI is)) := by
        exact hown4
      have hb34 : Hid (Below w3.heap.size w3 w4) := ((Below.refl _ w3).alloc (Nat.le_refl _) _).grown hgrow4.out (by simp) (by intro k hk; simp [Value.ownBlock] at hk; omega)
      clear hown4 hgrow4
      go_wp2_with (at_builtin; refine wpList_append_inss rfl (.tmp 78) (.tmp 79) rfl w3.heap.size _ n1 (flatI is) rfl hown4'.out _ n2 cap' js rfl ?p2 hnJ.out ?p3 ?p4 ?p5 ?_)
      case p2 => exact (hJ.out.below hb3.out).below hb34.out
      case p3 => exact hm12.out
      case p4 => omega
      case p5 => exact hb34.out.size
      intro v2 w5 hown5 hgrow5
      rw [← flatI_append] at hown5
      have hb35 := hb34.out.grown hgrow5.out hb34.out.size (fun k hk => (hown4'.out.lt k hk).1)
      obtain ⟨a6, cap6, rfl, hc6⟩ := len_third hE.out hfit.out (by rw [List.length_append, hni'.out, hnj'.out]) hown5 hb3.out hb35 hq3.out.1 hq3.out.2.1 hz3'.out hbs'.out
      clear hown5 hgrow5 hb35 hown4' hb34
      go_wp2_with (first
        | (go_at_call 14; refine hc6.mono ?_; rintro e w8 ⟨a8, cap8, rfl, hq8⟩)
        | (go_at_call 13; refine (h3 _ hq8.out.2.2.2).mono ?_; rintro e w9 ⟨rfl, hr9⟩))
      go_ret
      exact ⟨rfl, hq8.out.2.2.2.trans (hr9.below.mono hq8.out.2.2.2.size)⟩

set_option maxRecDepth 100000 in
set_option maxHeartbeats 8000000 in
theorem lawLen_K1 {w : World} {a a' : Option Addr} {cap cap' : Nat} {is js : List I} {eb : Addr} (hT : Tab w) (he : ErrIs w eb) (h : Inss w a is.length cap is) (hr : is.length * 32 ≤ 140737488351232) (hn : NilP a is.length cap) (h' : Inss w a' js.length cap' js) (hr' : js.length * 32 ≤ 140737488351232) (hn' : NilP a' js.length cap') (hbk : is.length + js.length ≤ 1048576)
    (z1 : Int) (hz1 : checkN is = z1) (hn1 : z1 ≠ 0)  :
    Calls Tryd.prog 9 #[.slice a is.length cap, .slice a' js.length cap'] w fun e w' => e = .returned (.bool true) ∧ Below w.heap.size w w' := by
  have h3 := fun w' (hb : Below w.heap.size w w') => awake3_any w' (hT.below hb)
  have hI := Lib.hid h
  have hJ := Lib.hid h'
  have hE := Lib.hid he
  have hnI := Lib.hid hn
  have hnJ := Lib.hid hn'
  have hmI : Hid (is.length ≤ maxLen ∧ js.length ≤ maxLen) := ⟨by unfold maxLen; omega, by unfold maxLen; omega⟩
  have hfit : Hid (∀ i ∈ is ++ js, i.fits) := fun i hi => by
    rcases List.mem_append.1 hi with h1 | h1
    · exact h.2.2.2.1 i h1
    · exact h'.2.2.2.1 i h1
  have hti := Lib.hid (@two_iff is js)
  have hg2 := Lib.hid (getD_two is js)
  have hc1 := len_enc_bad he h z1 hz1 hn1
  obtain ⟨z2, hz2⟩ : ∃ z2, checkN js = z2 := ⟨_, rfl⟩
  have hc2 : ∀ a2 c2 w2, Byts w2 a2 0 c2 [] → Below w.heap.size w w2 → Calls Tryd.prog 14 #[.slice a' js.length cap'] w2 fun e w' => ∃ a3 cap3 L2 bs2, e = .returned (.tuple #[.slice a3 L2 cap3, .int .i64 z2]) ∧ Aside (Byts w' a2 0 c2 [] ∧ Byts w' a3 L2 cap3 bs2 ∧ Below w.heap.size w w') := fun a2 c2 w2 h1 hb => by
    by_cases e : z2 = 0
    · subst e
      exact (len_next h1 hb (len_enc_ok (he.below hb) (h'.below hb) hz2)).mono fun e w' ⟨a3, c3, h, hq⟩ => ⟨a3, c3, _, _, h, hq⟩
    · exact (len_next h1 hb (len_enc_bad (he.below hb) (h'.below hb) z2 hz2 e)).mono fun e w' ⟨a3, c3, h, hq⟩ => ⟨a3, c3, _, _, h, hq⟩
  have hno : Hid (Plain (is ++ js) (is.length + js.length) → checkN (is ++ js) ≠ 0) := fun hp e => hn1 (by rw [← hz1]; exact ((two_iff hp).1 e).1)
  have t1 : (z1 == 0) = false := by simpa using hn1
  have t2 : (z1 != 0) = true := by simpa using hn1
  clear hz1 hz2 hn1
  clear hT he h h' hn hn'
  generalize hni : is.length = n1 at *
  generalize hnj : js.length = n2 at *
  have hni' := Lib.hid hni
  have hnj' := Lib.hid hnj
  clear hni hnj
  go_enter Tryd.func9, Tryd.ntmps9
  go_wp2_with (first
    | (go_at_call 14; ((with_reducible refine hc1.mono ?_); rintro e w2 ⟨a2, cap2, rfl, hq2⟩))
    | (go_at_call 14; ((with_reducible refine (hc2 _ _ _ hq2.out.1 hq2.out.2).mono ?_); rintro e w3 ⟨a3, cap3, L2, bs2, rfl, hq3⟩)))
  have hb3 := Lib.hid hq3.out.2.2
  clear hc1 hc2 hq2
  go_loop [9] (fun i => ∃ k : Nat, k ≤ n1 + n2 ∧ i = .int .i64 k ∧ Aside (Plain (is ++ js) k)) (fun i => n1 + n2 - (intOf i).toNat)
  case atStart => exact ⟨0, Nat.zero_le _, rfl, fun j hj => by omega⟩
  case round =>
    obtain ⟨k, hk, rfl, hpl⟩ := hrel
    by_cases hlt : k < n1 + n2
    · have hps : Hid (plainB ((is ++ js).getD k default) = true → Plain (is ++ js) (k + 1)) := fun hp j hj => by
        by_cases e : j = k
        · subst e; exact hp
        · exact hpl.out j (by omega)
      by_cases hk1 : k < n1
      · obtain ⟨b, off, rfl, hm⟩ : ∃ b off, a = some ⟨b, off, none⟩ ∧ ∀ j, j < n1 → InsAt w b (off + j * 4) (is.getD j default) := by
          rcases hI.out.2.2.2.2 with h0 | h1
          · omega
          · exact h1
        have hx := (hm k hk1).below hb3.out
        have e0 : (is ++ js).getD k default = is.getD k default := by rw [hg2.out k, if_pos hk1]
        rw [e0] at hps
        clear hm e0
        generalize is.getD k default = x at hx hps
        obtain ⟨op, xa, xb, xc⟩ := x
        obtain ⟨-, x0, -, -, -⟩ := hx
        by_cases e1 : op = 10
        · subst e1
          go_wp2_with (go_at_call 13; refine (h3 _ hb3.out).mono ?_; rintro e w4 ⟨rfl, hr4⟩)
          go_ret
          exact ⟨rfl, hb3.out.trans (hr4.below.mono hb3.out.size)⟩
        · by_cases e2 : op = 11
          · subst e2
            go_wp2_with (go_at_call 13; refine (h3 _ hb3.out).mono ?_; rintro e w4 ⟨rfl, hr4⟩)
            go_ret
            exact ⟨rfl, hb3.out.trans (hr4.below.mono hb3.out.size)⟩
          · have e1' : (op == 10) = false := by simpa using e1
            have e2' : (op == 11) = false := by simpa using e2
            have hp := Lib.hid (hps.out (by simp [plainB, e1, e2]))
            go_wp2
            go_round
            case rel => exact ⟨k + 1, by omega, by go_num, hp.out⟩
            case measure => simp [intOf]; omega
      · obtain ⟨b, off, rfl, hm⟩ : ∃ b off, a' = some ⟨b, off, none⟩ ∧ ∀ j, j < n2 → InsAt w b (off + j * 4) (js.getD j default) := by
          rcases hJ.out.2.2.2.2 with h0 | h1
          · omega
          · exact h1
        have hx := (hm (k - n1) (by omega)).below hb3.out
        have e0 : (is ++ js).getD k default = js.getD (k - n1) default := by rw [hg2.out k, if_neg hk1]
        rw [e0] at hps
        have hsub : ((k : Int) - (n1 : Int)).toNat = k - n1 := by omega
        clear hm e0
        generalize js.getD (k - n1) default = x at hx hps
        obtain ⟨op, xa, xb, xc⟩ := x
        obtain ⟨-, x0, -, -, -⟩ := hx
        by_cases e1 : op = 10
        · subst e1
          go_wp2_with (go_at_call 13; refine (h3 _ hb3.out).mono ?_; rintro e w4 ⟨rfl, hr4⟩)
          go_ret
          exact ⟨rfl, hb3.out.trans (hr4.below.mono hb3.out.size)⟩
        · by_cases e2 : op = 11
          · subst e2
            go_wp2_with (go_at_call 13; refine (h3 _ hb3.out).mono ?_; rintro e w4 ⟨rfl, hr4⟩)
            go_ret
            exact ⟨rfl, hb3.out.trans (hr4.below.mono hb3.out.size)⟩
          · have e1' : (op == 10) = false := by simpa using e1
            have e2' : (op == 11) = false := by simpa using e2
            have hp := Lib.hid (hps.out (by simp [plainB, e1, e2]))
            go_wp2
            go_round
            case rel => exact ⟨k + 1, by omega, by go_num, hp.out⟩
            case measure => simp [intOf]; omega
    · obtain rfl : k = n1 + n2 := by omega
      obtain ⟨z3, hz3⟩ : ∃ z3, checkN (is ++ js) = z3 := ⟨_, rfl⟩
      have hn3 : ¬ z3 = 0 := by rw [← hz3]; exact hno.out hpl.out
      have hbs : ([] : List Int) = if z3 = 0 then encB (is ++ js) else [] := by rw [if_neg hn3]
      have t3 : (z3 != 0) = true := by simpa using hn3
      clear hn3
      have hz3' := Lib.hid hz3
      have hbs' := Lib.hid hbs
      clear hz3 hbs hpl
      have hs3 := hb3.out.size
      have hm12 : Hid (n1 + n2 ≤ maxLen) := by show n1 + n2 ≤ maxLen; unfold maxLen; omega
      go_wp2_with (at_builtin; refine wpList_append_inss rfl (.tmp 76) (.tmp 77) rfl w3.heap.size _ 0 [] rfl ?o1 _ n1 cap is rfl ?o2 hnI.out ?o3 ?o4 ?o5 ?_)
      case o1 => exact World.ownsRow_made w3 #[] 0 (Nat.le_refl _) (Nat.zero_le _) (by simp)
      case o2 => exact (hI.out.below hb3.out).below ((Below.refl _ w3).alloc (Nat.le_refl _) _)
      case o3 => exact hmI.out.1
      case o4 => omega
      intro v1 w4 hown4 hgrow4
      have hown4' : Hid (w4.ownsRow w3.heap.size 40 4 v1 n1 (flatI is)) := by
        exact hown4
      have hb34 : Hid (Below w3.heap.size w3 w4) := ((Below.refl _ w3).alloc (Nat.le_refl _) _).grown hgrow4.out (by simp) (by intro k hk; simp [Value.ownBlock] at hk; omega)
      clear hown4 hgrow4
      go_wp2_with (at_builtin; refine wpList_append_inss rfl (.tmp 78) (.tmp 79) rfl w3.heap.size _ n1 (flatI is) rfl hown4'.out _ n2 cap' js rfl ?p2 hnJ.out ?p3 ?p4 ?p5 ?_)
      case p2 => exact (hJ.out.below hb3.out).below hb34.out
      case p3 => exact hm12.out
      case p4 => omega
      case p5 => exact hb34.out.size
      intro v2 w5 hown5 hgrow5
      rw [← flatI_append] at hown5
      have hb35 := hb34.out.grown hgrow5.out hb34.out.size (fun k hk => (hown4'.out.lt k hk).1)
      obtain ⟨a6, cap6, rfl, hc6⟩ := len_third hE.out hfit.out (by rw [List.length_append, hni'.out, hnj'.out]) hown5 hb3.out hb35 hq3.out.1 hq3.out.2.1 hz3'.out hbs'.out
      clear hown5 hgrow5 hb35 hown4' hb34
      go_wp2_with (first
        | (go_at_call 14; refine hc6.mono ?_; rintro e w8 ⟨a8, cap8, rfl, hq8⟩)
        | (go_at_call 13; refine (h3 _ hq8.out.2.2.2).mono ?_; rintro e w9 ⟨rfl, hr9⟩))
      go_ret
      exact ⟨rfl, hq8.out.2.2.2.trans (hr9.below.mono hq8.out.2.2.2.size)⟩

theorem lawCodeLengths {w : World} {a a' : Option Addr} {len cap len' cap' : Nat} {is js : List I} {eb : Addr} (hT : Tab w) (he : ErrIs w eb) (h : Inss w a len cap is) (hr : len * 32 ≤ 140737488351232) (hn : NilP a len cap) (h' : Inss w a' len' cap' js) (hr' : len' * 32 ≤ 140737488351232) (hn' : NilP a' len' cap') (hbk : len + len' ≤ 1048576) :
    Calls Tryd.prog 9 #[.slice a len cap, .slice a' len' cap'] w fun e w' => e = .returned (.bool true) ∧ Below w.heap.size w w' := by
  obtain rfl := h.1
  obtain rfl := h'.1
  by_cases hz1 : checkN is = 0
  · by_cases hz2 : checkN js = 0
    · by_cases hs : is.length + js.length ≤ 256
      · exact lawLen_K4 hT he h hr hn h' hr' hn' hbk hz1 hz2 hs
      · exact lawLen_K3 hT he h hr hn h' hr' hn' hbk hz1 hz2 (by omega)
    · exact lawLen_K2 hT he h hr hn h' hr' hn' hbk hz1 _ rfl hz2
  · exact lawLen_K1 hT he h hr hn h' hr' hn' hbk _ rfl hz1

end Go.Proofs.YtpbmfhbcnllkaaaDoor
