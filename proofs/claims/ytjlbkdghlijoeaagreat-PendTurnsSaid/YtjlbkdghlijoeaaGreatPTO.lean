/-
  Two Pends in one world: one that is turned, and a heap that is not.
  The law that nobody notices when a queue is turned.
  Bytes that can be read, out of the form.
-/
import Derived.Test.YtjlbkdghlijoeaaGreatPDD
import Derived.Lib.MinMax
import Derived.LoopTactic
namespace Go.Proofs.YtjlbkdghlijoeaaGreat
open Go.ChangeShapes Go.WideShapes Go.ChangeAt Go.Shelf Go.RowKit Go.Lib Go.Sort Go.Deep Go.Maps
set_option linter.unusedVariables false

/-- The one (kind K) holds T, the other D; the blocks of X are another's. -/
def Two (w : World) (pb qb K n : Nat) (X : Nat → Prop) (T D : List M) (wr : World) : Prop :=
  ∃ S R, PAt wr pb K n S T ∧ PAt wr qb 0 n R D ∧ (∀ k, S k → w.heap.size ≤ k ∧ ¬ R k ∧ ¬ X k) ∧ (∀ k, R k → w.heap.size ≤ k ∧ ¬ X k) ∧ Below w.heap.size w wr ∧ ∀ k, X k → w.heap.size ≤ k ∧ k < wr.heap.size
section
variable {w wr w' : World} {pb qb K K2 n n' : Nat} {X X' : Nat → Prop} {T T' D D' : List M}
theorem Two.b (h : Two w pb qb K n X T D wr) : Below w.heap.size w wr := by
  obtain ⟨S, R, h1, h2, h3, h4, h5, h6⟩ := h
  exact h5
theorem Two.below (h : Two w pb qb K n X T D wr) (hb : Below wr.heap.size wr w') : Two w pb qb K n X T D w' := by
  obtain ⟨S, R, h1, h2, h3, h4, h5, h6⟩ := h
  exact ⟨S, R, h1.below hb, h2.below hb, h3, h4, h5.trans (hb.mono h5.size), fun k hk => ⟨(h6 k hk).1, Nat.lt_of_lt_of_le (h6 k hk).2 hb.size⟩⟩
theorem Two.mono (h : Two w pb qb K n X T D wr) (hn : n ≤ n') : Two w pb qb K n' X T D wr := by
  obtain ⟨S, R, h1, h2, h3⟩ := h
  exact ⟨S, R, h1.mono hn, h2.mono hn, h3⟩
/-- New blocks are another's. -/
theorem Two.others (h : Two w pb qb K n X T D wr) (hb : Below wr.heap.size wr w') (hX : ∀ k, X' k → wr.heap.size ≤ k ∧ k < w'.heap.size) : Two w pb qb K n X' T D w' := by
  obtain ⟨S, R, h1, h2, h3, h4, h5, h6⟩ := h
  have hs := h5.size
  exact ⟨S, R, h1.below hb, h2.below hb, fun k hk => ⟨(h3 k hk).1, (h3 k hk).2.1, fun e => by have := (hX k e).1; have := h1.lt hk; omega⟩, fun k hk => ⟨(h4 k hk).1, fun e => by have := (hX k e).1; have := h2.lt hk; omega⟩, h5.trans (hb.mono h5.size), fun k hk => ⟨by have := (hX k hk).1; omega, (hX k hk).2⟩⟩
theorem Two.drop (h : Two w pb qb K n X T D wr) : Two w pb qb K n (fun _ => False) T D wr := h.others (Below.refl _ _) (fun k hk => hk.elim)
theorem Two.order (h : Two w pb qb K n X T D wr) : InOrder ltM T ∧ Unlike T ∧ T.length ≤ 16384 := by
  obtain ⟨S, R, h1, _⟩ := h
  exact ⟨h1.o, h1.u, h1.small⟩
/-- A call on the one. -/
theorem Two.p (h : Two w pb qb K n X T D wr) (hn : n ≤ n') {f : FuncId} {args : Array Value} {r : Value}
    (hc : ∀ S, PAt wr pb K n S T → Calls Tryz.prog f args wr fun e w1 => e = .returned r ∧ ∃ S', PAt w1 pb K2 n' S' T' ∧ CStep wr w1 S S') :
    Calls Tryz.prog f args wr fun e w1 => e = .returned r ∧ Hid (Two w pb qb K2 n' X T' D w1 ∧ KeptOff (fun k => ¬ X k) wr w1) := by
  obtain ⟨S, R, h1, h2, h3, h4, h5, h6⟩ := h
  refine (hc S h1).mono ?_
  rintro e w1 ⟨he, S', hq, hst, hrf⟩
  have hsz := hst.size
  have hs5 := h5.size
  refine ⟨he, ⟨S', R, hq, (h2.kept hst (fun k hk e => (h3 k e).2.1 hk)).mono hn, fun k hk => ?_, h4, h5.trans (hst.below (fun k _ e => (h3 k e).1) h5.size), fun k hk => ⟨(h6 k hk).1, by have := (h6 k hk).2; omega⟩⟩, hst.mono (fun k _ e => (h3 k e).2.2)⟩
  rcases hrf k hk with e | e
  · exact h3 k e
  · exact ⟨by omega, fun e2 => by have := h2.lt e2; omega, fun e2 => by have := (h6 k e2).2; omega⟩
/-- A call on the other. -/
theorem Two.q (h : Two w pb qb K n X T D wr) (hn : n ≤ n') {f : FuncId} {args : Array Value} {r : Value}
    (hc : ∀ S, PAt wr qb 0 n S D → Calls Tryz.prog f args wr fun e w1 => e = .returned r ∧ ∃ S', PAt w1 qb 0 n' S' D' ∧ CStep wr w1 S S') :
    Calls Tryz.prog f args wr fun e w1 => e = .returned r ∧ Hid (Two w pb qb K n' X T D' w1 ∧ KeptOff (fun k => ¬ X k) wr w1) := by
  obtain ⟨S, R, h1, h2, h3, h4, h5, h6⟩ := h
  refine (hc R h2).mono ?_
  rintro e w1 ⟨he, R', hq, hst, hrf⟩
  have hsz := hst.size
  have hs5 := h5.size
  refine ⟨he, ⟨S, R', (h1.kept hst (fun k hk e => (h3 k hk).2.1 e)).mono hn, hq, fun k hk => ⟨(h3 k hk).1, fun e => ?_, (h3 k hk).2.2⟩, fun k hk => ?_, h5.trans (hst.below (fun k _ e => (h4 k e).1) h5.size), fun k hk => ⟨(h6 k hk).1, by have := (h6 k hk).2; omega⟩⟩, hst.mono (fun k _ e => (h4 k e).2)⟩
  · rcases hrf k e with e2 | e2
    · exact (h3 k hk).2.1 e2
    · have := h1.lt hk
      omega
  · rcases hrf k hk with e | e
    · exact h4 k e
    · exact ⟨by omega, fun e2 => by have := (h6 k e2).2; omega⟩
theorem Two.pushP (h : Two w pb qb K n X T D wr) (m : M) (hm : m.fits) (hn : n < maxLen) :
    Calls Tryz.prog 13 #[.pointer (some ⟨pb, 0, none⟩), m.val] wr fun e w1 => e = .returned (.int .i64 (pushC T m)) ∧ Hid (Two w pb qb K (n + 1) X (pushT T m) D w1 ∧ KeptOff (fun k => ¬ X k) wr w1) :=
  h.p (Nat.le_succ n) fun S hq => pdPush_any hq m hm hn
theorem Two.pushQ (h : Two w pb qb K n X T D wr) (m : M) (hm : m.fits) (hn : n < maxLen) :
    Calls Tryz.prog 13 #[.pointer (some ⟨qb, 0, none⟩), m.val] wr fun e w1 => e = .returned (.int .i64 (pushC D m)) ∧ Hid (Two w pb qb K (n + 1) X T (pushT D m) w1 ∧ KeptOff (fun k => ¬ X k) wr w1) :=
  h.q (Nat.le_succ n) fun S hq => pdPush_any hq m hm hn
theorem Two.popP (h : Two w pb qb K n X T D wr) :
    Calls Tryz.prog 15 #[.pointer (some ⟨pb, 0, none⟩)] wr fun e w1 => e = .returned (.tuple #[(T.headD zeroM).val, .int .i64 (if T = [] then 6 else 0)]) ∧ Hid (Two w pb qb K n X T.tail D w1 ∧ KeptOff (fun k => ¬ X k) wr w1) :=
  h.p (Nat.le_refl n) fun S hq => pdPop_any hq
theorem Two.popQ (h : Two w pb qb K n X T D wr) :
    Calls Tryz.prog 15 #[.pointer (some ⟨qb, 0, none⟩)] wr fun e w1 => e = .returned (.tuple #[(D.headD zeroM).val, .int .i64 (if D = [] then 6 else 0)]) ∧ Hid (Two w pb qb K n X T D.tail w1 ∧ KeptOff (fun k => ¬ X k) wr w1) :=
  h.q (Nat.le_refl n) fun S hq => pdPop_any hq
theorem Two.turnP (h : Two w pb qb K n X T D wr) (hn : 16384 ≤ n) {kd : Int} (hk : KindOf kd = some K2) :
    Calls Tryz.prog 14 #[.pointer (some ⟨pb, 0, none⟩), .int .i64 kd] wr fun e w1 => e = .returned (.int .i64 0) ∧ Hid (Two w pb qb K2 n X T D w1 ∧ KeptOff (fun k => ¬ X k) wr w1) :=
  h.p (Nat.le_refl n) fun S hq => by
    have := pdTurn_any hq hk
    rw [Nat.max_eq_left hn] at this
    exact this
theorem Two.kindP (h : Two w pb qb K n X T D wr) : Calls Tryz.prog 9 #[.pointer (some ⟨pb, 0, none⟩)] wr fun e w' => e = .returned (.int .i64 K) ∧ wr = w' := by
  obtain ⟨S, R, h1, _⟩ := h
  exact pdKind_any h1
theorem Two.lenP (h : Two w pb qb K n X T D wr) : Calls Tryz.prog 8 #[.pointer (some ⟨pb, 0, none⟩)] wr fun e w' => e = .returned (.int .i64 T.length) ∧ wr = w' := by
  obtain ⟨S, R, h1, _⟩ := h
  exact pdLen_any h1
end
/-- The k-th message with a number of its own is taken. -/
theorem pushT_inU (ms : List M) {k : Nat} (hk : k < 16384) : pushT (stab ltM (inU ms k)) (nthU ms k) = stab ltM (inU ms (k + 1)) := by
  have hn := inU_new ms k (nthU ms k).k.f
  unfold pushT
  rw [if_neg (by rw [show (nthU ms k).u = (k : Int) from rfl, hn]; simp), if_neg (by rw [stab_length, inU_length]; omega), inU_succ, stab_snoc]
/-- A number below 256, behind 'mod 3'. -/
theorem KindOf_mod (x : Nat) : KindOf ((x % 3 : Nat) : Int) = some (x % 3) := by
  have h : x % 3 < 3 := Nat.mod_lt _ (by omega)
  unfold KindOf
  generalize x % 3 = y at h ⊢
  rcases (by omega : y = 0 ∨ y = 1 ∨ y = 2) with rfl | rfl | rfl <;> simp
end Go.Proofs.YtjlbkdghlijoeaaGreat
namespace Go.Proofs.YtjlbkdghlijoeaaGreat
open Go.ChangeShapes Go.WideShapes Go.ChangeAt Go.Shelf Go.RowKit Go.Lib Go.Sort Go.Deep Go.Maps
set_option linter.unusedVariables false

theorem awake9_two (w : World) : Calls Tryz.prog 12 #[] w fun e w' => e = .returned (.bool true) ∧ Below w.heap.size w w' := by
  have hnew := pdNew_any w (kd := 2) (K := 2) rfl
  have hkd : Hid (∀ pb w1, PAt w1 pb 2 0 (fun k => w.heap.size ≤ k ∧ k < w1.heap.size) [] ∧ Below w.heap.size w w1 → Calls Tryz.prog 9 #[.pointer (some ⟨pb, 0, none⟩)] w1 fun e w2 => e = .returned (.int .i64 2) ∧ w1 = w2) := fun pb w1 h => pdKind_any h.1
  go_enter Tryz.func12, Tryz.ntmps12
  go_wp2_with (first
    | (go_at_call 5; (with_reducible refine hnew.mono ?_); rintro e w1 ⟨pb, rfl, hQ1⟩; have hk := hkd.out pb w1 hQ1.out)
    | (go_at_call 9; (with_reducible refine hk.mono ?_); rintro e w2 ⟨rfl, rfl⟩))
  go_ret
  exact ⟨rfl, hQ1.out.2⟩

/-- Bytes that can be read. -/
def Bys (w : World) (a : Option Addr) (len cap : Nat) : Prop := len ≤ cap ∧ cap ≤ maxLen ∧ (len = 0 ∨ ∃ b off, a = some ⟨b, off, none⟩ ∧ b < w.heap.size ∧ ∀ i, i < len → ∃ x : Nat, x < 256 ∧ w.cell? ⟨b, off + i, none⟩ = some (.int .u8 x))
/-- What stands behind i rounds of the first loop. -/
def Put2 (w : World) (pb qb : Nat) (ms : List M) (i : Nat) (wr : World) : Prop := ∃ K, Two w pb qb K (16384 + 2 * i) (fun _ => False) (stab ltM (inU ms i)) (stab ltM (inU ms i)) wr
/-- What stands behind i rounds of the second. -/
def Take2 (w : World) (pb qb n : Nat) (T : List M) (i : Nat) (wr : World) : Prop := ∃ K, Two w pb qb K n (fun _ => False) (T.drop i) (T.drop i) wr
theorem Take2.next {w wr : World} {pb qb n i : Nat} {T : List M} (h : Take2 w pb qb n T i wr) (hn : 16384 ≤ n) (hi : i < T.length) :
    Calls Tryz.prog 15 #[.pointer (some ⟨pb, 0, none⟩)] wr fun e w1 => e = .returned (.tuple #[(T.getD i default).val, .int .i64 0]) ∧ Hid (∀ W1, Below w1.heap.size w1 W1 → ∀ X1 : Nat → Prop, (∀ k, X1 k → w1.heap.size ≤ k ∧ k < W1.heap.size) →
      Calls Tryz.prog 15 #[.pointer (some ⟨qb, 0, none⟩)] W1 fun e w2 => e = .returned (.tuple #[(T.getD i default).val, .int .i64 0]) ∧ KeptOff (fun k => ¬ X1 k) W1 w2 ∧ Hid (∀ W2, Below w2.heap.size w2 W2 →
        (∃ K, Two w pb qb K n (fun _ => False) (T.drop (i + 1)) (T.drop (i + 1)) W2))) := by
  obtain ⟨K, h⟩ := h
  have e1 : T.drop i = T.getD i default :: T.drop (i + 1) := by
    rw [List.drop_eq_getElem_cons hi]
    simp [List.getD_eq_getElem?_getD, hi]
  rw [e1] at h
  refine h.popP.mono ?_
  rintro e w1 ⟨he, hq⟩
  refine ⟨he, fun W1 hb1 X1 hX1 => ?_⟩
  refine ((hq.out.1.others hb1 hX1).popQ).mono ?_
  rintro e w2 ⟨he2, hq2⟩
  exact ⟨he2, hq2.out.2, fun W2 hb2 => ⟨K, (hq2.out.1.drop.below hb2)⟩⟩

set_option maxHeartbeats 4000000 in
set_option maxRecDepth 100000 in
theorem lawPendTurns (x0 : Nat) (hx0 : x0 < 256) {w : World} {a ta : Option Addr} {len cap tlen tcap : Nat} {ms : List M} (h : Msgs w a len cap ms) (ht : Bys w ta tlen tcap) :
    Calls Tryz.prog 4 #[.int .u8 x0, .slice a len cap, .slice ta tlen tcap] w fun e w' => e = .returned (.bool true) ∧ Below w.heap.size w w' := by
  have mixed := mixed
  have hfit := Lib.hid h.2.2.2.1
  have hlen := Lib.hid h.1
  have hcap1 : len ≤ cap := h.2.1
  have hmx : len ≤ 9223372036854775807 ∧ cap ≤ 9223372036854775807 := by have h1 := h.2.1; have h2 := h.2.2.1; unfold maxLen at h2; omega
  obtain ⟨hmx, hmx2⟩ := hmx
  have hms := Lib.hid h
  have htm : tlen ≤ tcap ∧ tcap ≤ 9223372036854775807 := ⟨ht.1, by have := ht.2.1; unfold maxLen at this; omega⟩
  obtain ⟨htm1, htm2⟩ := htm
  have hts := Lib.hid ht
  obtain ⟨nn, hnn⟩ : ∃ nn, nn = min len 200 := ⟨_, rfl⟩
  have hm : min (len : Int) 200 = (nn : Int) := by rw [hnn]; omega
  have hnn' : nn ≤ len ∧ nn ≤ 200 := by omega
  obtain ⟨hn1, hn2⟩ := hnn'
  have hk0 := KindOf_mod x0
  rw [show ((x0 % 3 : Nat) : Int) = (x0 : Int) % 3 by omega] at hk0
  have hnew1 := pdNew_any w hk0
  have hnew2 := fun w1 => pdNew_any w1 (kd := 0) (K := 0) rfl
  have hnew2' := Lib.hid hnew2
  clear h ht hnn hk0 hnew2
  go_enter Tryz.func4, Tryz.ntmps4
  go_upto_region 3 with (first
    | (go_at_call 5; (with_reducible refine hnew1.mono ?_); rintro e w1 ⟨pb, rfl, hQ1⟩)
    | (go_at_call 5; (with_reducible refine (hnew2'.out w1).mono ?_); rintro e w2 ⟨qb, rfl, hQ2⟩))
  have hF0 : Hid (Put2 w pb qb ms 0 w2) := by
    obtain ⟨q1, b1⟩ := hQ1.out
    obtain ⟨q2, b2⟩ := hQ2.out
    have hs1 := b1.size
    have hs2 := b2.size
    exact ⟨_, _, _, (q1.below b2).mono (Nat.zero_le _), q2.mono (Nat.zero_le _), fun k hk => ⟨hk.1, by omega, fun e => e⟩, fun k hk => ⟨by omega, fun e => e⟩, b1.trans (b2.mono hs1), fun k hk => hk.elim⟩
  clear hQ1 hQ2 hnew1 hnew2'
  go_wp2
  go_loopw [12] (fun s12 wr => ∃ i : Nat, i ≤ nn ∧ s12 = .int .i64 i ∧ Hid (Put2 w pb qb ms i wr)) (fun s12 _ => nn - (intOf s12).toNat)
  case atStart => exact ⟨0, Nat.zero_le _, rfl, hF0⟩
  case round =>
    obtain ⟨i, hi, rfl, hF⟩ := hrel
    clear hF0
    by_cases hin : i < nn
    · have hz : (i : Int) < (nn : Int) := by omega
      have hB : Hid (Below w.heap.size w wr) := by
        obtain ⟨K, hT⟩ := hF.out
        exact hT.b
      obtain ⟨b, off, rfl, hma⟩ : ∃ b off, a = some ⟨b, off, none⟩ ∧ ∀ i, i < len → MsgAt w b (off + i * 7) (ms.getD i default) := by
        rcases hms.out.2.2.2.2 with h0 | hx
        · omega
        · exact hx
      have hmk := (hma i (by omega)).below hB.out
      have hil : i < len := by omega
      have hnk : Hid (nthU ms i = { ms.getD i default with u := (i : Int) }) := rfl
      have hnf := Lib.hid (nthU_fits hfit.out i (by rw [hlen.out]; omega) (by omega))
      generalize ms.getD i default = m at hmk hnk
      obtain ⟨⟨t, f, s⟩, tt, vv, u, an⟩ := m
      obtain ⟨-, x0', x1, x2, x3, x4, x5, x6⟩ := hmk
      simp only at x0' x1 x2 x3 x4 x5 x6 hnk
      clear hma
      have hpush : Hid (∀ W2, W2 = wr.alloc (.cells #[.int .i64 t, .int .i64 f, .int .i64 s, .int .i64 tt, .int .i64 vv, .int .i64 (i : Int), .bool an] 34) → Below w.heap.size w W2 ∧ MsgAt W2 wr.heap.size 0 ⟨⟨t, f, s⟩, tt, vv, (i : Int), an⟩ ∧
          Calls Tryz.prog 13 #[.pointer (some ⟨pb, 0, none⟩), .agg #[.int .i64 t, .int .i64 f, .int .i64 s, .int .i64 tt, .int .i64 vv, .int .i64 (i : Int), .bool an]] W2 fun e w5 => (∃ c, e = .returned (.int .i64 c)) ∧ MsgAt w5 wr.heap.size 0 ⟨⟨t, f, s⟩, tt, vv, (i : Int), an⟩ ∧
            Hid (Calls Tryz.prog 13 #[.pointer (some ⟨qb, 0, none⟩), .agg #[.int .i64 t, .int .i64 f, .int .i64 s, .int .i64 tt, .int .i64 vv, .int .i64 (i : Int), .bool an]] w5 fun e w6 => (∃ c, e = .returned (.int .i64 c)) ∧ Put2 w pb qb ms (i + 1) w6)) := by
        rintro W2 rfl
        obtain ⟨K, hT⟩ := hF.out
        have hbx : BoxM (wr.alloc (.cells #[.int .i64 t, .int .i64 f, .int .i64 s, .int .i64 tt, .int .i64 vv, .int .i64 (i : Int), .bool an] 34)) wr.heap.size ⟨⟨t, f, s⟩, tt, vv, (i : Int), an⟩ := BoxM.mk wr ⟨⟨t, f, s⟩, tt, vv, (i : Int), an⟩
        have hal : Below wr.heap.size wr (wr.alloc (.cells #[.int .i64 t, .int .i64 f, .int .i64 s, .int .i64 tt, .int .i64 vv, .int .i64 (i : Int), .bool an] 34)) := (Below.refl _ wr).alloc (Nat.le_refl _) _
        have hlt := hbx.lt
        generalize wr.alloc (.cells #[.int .i64 t, .int .i64 f, .int .i64 s, .int .i64 tt, .int .i64 vv, .int .i64 (i : Int), .bool an] 34) = W2 at hbx hal hlt ⊢
        have hT2 := hT.others (X' := fun k => k = wr.heap.size) hal (fun k hk => by subst hk; exact ⟨Nat.le_refl _, hlt⟩)
        have hnv : (nthU ms i).val = .agg #[.int .i64 t, .int .i64 f, .int .i64 s, .int .i64 tt, .int .i64 vv, .int .i64 (i : Int), .bool an] := by rw [hnk.out]; rfl
        have hp := hT2.pushP (nthU ms i) hnf.out (by unfold maxLen; omega)
        rw [hnv] at hp
        refine ⟨hT2.b, hbx.at, hp.mono ?_⟩
        rintro e w5 ⟨he, h5⟩
        have hq := h5.out.1.pushQ (nthU ms i) hnf.out (by unfold maxLen; omega)
        rw [hnv] at hq
        refine ⟨⟨_, he⟩, (hbx.kept h5.out.2 (fun e => e rfl)).at, hq.mono ?_⟩
        rintro e w6 ⟨he6, h6⟩
        have h7 := h6.out.1.drop
        rw [pushT_inU ms (by omega)] at h7
        exact ⟨⟨_, he6⟩, K, h7.mono (by omega)⟩
      have hrows : Hid (∀ w6, Put2 w pb qb ms (i + 1) w6 → Below w.heap.size w w6 ∧ ∀ (x : Nat), x < 256 → Calls Tryz.prog 14 #[.pointer (some ⟨pb, 0, none⟩), .int .i64 ((x : Int) % 3)] w6 fun e w7 => e = .returned (.int .i64 0) ∧ Hid (Put2 w pb qb ms (i + 1) w7)) := by
        rintro w6 ⟨K, hT⟩
        refine ⟨hT.b, fun x hx => ?_⟩
        have hk := KindOf_mod x
        rw [show ((x % 3 : Nat) : Int) = (x : Int) % 3 by omega] at hk
        refine (hT.turnP (by omega) hk).mono ?_
        rintro e w7 ⟨he, h7⟩
        exact ⟨he, _, h7.out.1⟩
      clear hF hnf hnk hB
      go_upto_region 11 with (fail)
      obtain ⟨W2, hW2⟩ : ∃ W2, W2 = wr.alloc (.cells #[.int .i64 t, .int .i64 f, .int .i64 s, .int .i64 tt, .int .i64 vv, .int .i64 (i : Int), .bool an] 34) := ⟨_, rfl⟩
      obtain ⟨hb2, hat2, hps⟩ := hpush.out W2 hW2
      rw [← hW2]
      obtain ⟨-, y0, y1, y2, y3, y4, y5, y6⟩ := hat2
      simp only [Nat.zero_add] at y0 y1 y2 y3 y4 y5 y6
      have hps' := Lib.hid hps
      generalize wr.heap.size = Bx at y0 y1 y2 y3 y4 y5 y6 hps' ⊢
      clear hpush hW2 hb2 hps x0' x1 x2 x3 x4 x5 x6
      go_upto_region 12 with ((go_at_call 13; (with_reducible refine hps'.out.mono ?_); rintro e w5 ⟨⟨c5, rfl⟩, hat5, hq5⟩; have hat5' := Lib.hid hat5; clear hat5))
      obtain ⟨-, z0, z1, z2, z3, z4, z5, z6⟩ := hat5'.out
      simp only [Nat.zero_add] at z0 z1 z2 z3 z4 z5 z6
      clear hps' hat5' y0 y1 y2 y3 y4 y5 y6
      go_upto_region 13 with ((go_at_call 13; (with_reducible refine hq5.out.mono ?_); rintro e w6 ⟨⟨c6, rfl⟩, hF6⟩; have hF6' := Lib.hid hF6; clear hF6))
      obtain ⟨hb6, hturn⟩ := hrows.out w6 hF6'.out
      have hturn' := Lib.hid hturn
      clear hq5 z0 z1 z2 z3 z4 z5 z6 hrows hturn
      by_cases hit : i < tlen
      · have hzt : (i : Int) < (tlen : Int) := by omega
        obtain ⟨tb, toff, rfl, htb, hcs⟩ : ∃ b off, ta = some ⟨b, off, none⟩ ∧ b < w.heap.size ∧ ∀ i, i < tlen → ∃ x : Nat, x < 256 ∧ w.cell? ⟨b, off + i, none⟩ = some (.int .u8 x) := by
          rcases hts.out.2.2 with h0 | hx
          · omega
          · exact hx
        obtain ⟨x, hx, hcx⟩ := hcs i hit
        have c6x : w6.cell? ⟨tb, toff + i, none⟩ = some (.int .u8 x) := (hb6.cell (p := ⟨tb, _, none⟩) htb).trans hcx
        have ht6 := hturn'.out x hx
        clear hcs hcx hb6 hturn'
        go_wp2_with (go_at_call 14; (with_reducible refine ht6.mono ?_); rintro e w7 ⟨rfl, hF7⟩)
        go_roundw
        case rel => exact ⟨i + 1, by omega, by go_num, hF7⟩
        case measure => simp [intOf]; omega
      · have hzt : ¬ (i : Int) < (tlen : Int) := by omega
        clear hb6 hturn'
        go_wp2
        go_roundw
        case rel => exact ⟨i + 1, by omega, by go_num, hF6'⟩
        case measure => simp [intOf]; omega
    · obtain rfl : i = nn := by omega
      have hz : ¬ (i : Int) < (i : Int) := by omega
      obtain ⟨T, hT⟩ : ∃ T, T = stab ltM (inU ms i) := ⟨_, rfl⟩
      have hTl : Hid (T.length = i) := by show _ = _; rw [hT, stab_length, inU_length]
      obtain ⟨n2, hn2e⟩ : ∃ n2, n2 = 16384 + 2 * i := ⟨_, rfl⟩
      have hn3 : Hid (16384 ≤ n2) := by show _ ≤ _; omega
      have hE0 : Hid (Take2 w pb qb n2 T 0 wr) := by
        obtain ⟨K, h0⟩ := hF.out
        rw [← hT, ← hn2e] at h0
        exact ⟨K, h0⟩
      clear hF hT hn2e
      go_wp2
      go_loopw [14] (fun s14 wr => ∃ j : Nat, j ≤ i ∧ s14 = .int .i64 j ∧ Hid (Take2 w pb qb n2 T j wr)) (fun s14 _ => i - (intOf s14).toNat)
      case atStart => exact ⟨0, Nat.zero_le _, rfl, hE0⟩
      case round =>
        clear hE0
        obtain ⟨j, hj, rfl, hE⟩ := hrel
        by_cases hji : j < i
        · have hz : (j : Int) < (i : Int) := by omega
          have hps := hE.out.next hn3.out (by rw [hTl.out]; exact hji)
          clear hE
          generalize T.getD j default = m at hps
          have hneq := fun w => neqM m m w
          simp only [decide_true, Bool.not_true] at hneq
          obtain ⟨⟨t, f, s⟩, tt, vv, u, an⟩ := m
          simp only [M.val] at hneq hps
          have hps' := Lib.hid hps
          clear hps
          obtain ⟨jj, hjj⟩ : ∃ jj : Nat, jj = j % 3 := ⟨_, rfl⟩
          have hjj3 : jj < 3 := by omega
          have hmod1 : Int.tmod (j : Int) 3 = (jj : Int) := by rw [hjj]; exact (Int.ofNat_tmod j 3).symm
          have hmod2 : (j : Int) % 3 = (jj : Int) := by omega
          have hkj : Hid (KindOf (jj : Int) = some jj) := by rw [hjj]; exact KindOf_mod j
          clear hjj
          have hpk : Hid (∀ w5, Hid (∀ W1, Below w5.heap.size w5 W1 → ∀ X1 : Nat → Prop, (∀ k, X1 k → w5.heap.size ≤ k ∧ k < W1.heap.size) →
              Calls Tryz.prog 15 #[.pointer (some ⟨qb, 0, none⟩)] W1 fun e w2 => e = .returned (.tuple #[.agg #[.int .i64 t, .int .i64 f, .int .i64 s, .int .i64 tt, .int .i64 vv, .int .i64 u, .bool an], .int .i64 0]) ∧ KeptOff (fun k => ¬ X1 k) W1 w2 ∧ Hid (∀ W2, Below w2.heap.size w2 W2 →
                (∃ K, Two w pb qb K n2 (fun _ => False) (T.drop (j + 1)) (T.drop (j + 1)) W2))) →
              ∀ W1, W1 = w5.alloc (.cells #[.int .i64 t, .int .i64 f, .int .i64 s, .int .i64 tt, .int .i64 vv, .int .i64 u, .bool an] 34) → Calls Tryz.prog 15 #[.pointer (some ⟨qb, 0, none⟩)] W1 fun e w6 => e = .returned (.tuple #[.agg #[.int .i64 t, .int .i64 f, .int .i64 s, .int .i64 tt, .int .i64 vv, .int .i64 u, .bool an], .int .i64 0]) ∧ Hid (∀ W2, W2 = w6.alloc (.cells #[.int .i64 t, .int .i64 f, .int .i64 s, .int .i64 tt, .int .i64 vv, .int .i64 u, .bool an] 34) →
                MsgAt W2 w5.heap.size 0 ⟨⟨t, f, s⟩, tt, vv, u, an⟩ ∧ MsgAt W2 w6.heap.size 0 ⟨⟨t, f, s⟩, tt, vv, u, an⟩ ∧ Hid (Calls Tryz.prog 14 #[.pointer (some ⟨pb, 0, none⟩), .int .i64 (jj : Int)] W2 fun e w7 => e = .returned (.int .i64 0) ∧
                  Hid (Calls Tryz.prog 9 #[.pointer (some ⟨pb, 0, none⟩)] w7 fun e w8 => e = .returned (.int .i64 (jj : Int)) ∧ w7 = w8) ∧ Hid (Take2 w pb qb n2 T (j + 1) w7)))) := by
            rintro w5 hE5 W1 rfl
            have hbx : BoxM (w5.alloc (.cells #[.int .i64 t, .int .i64 f, .int .i64 s, .int .i64 tt, .int .i64 vv, .int .i64 u, .bool an] 34)) w5.heap.size ⟨⟨t, f, s⟩, tt, vv, u, an⟩ := BoxM.mk w5 ⟨⟨t, f, s⟩, tt, vv, u, an⟩
            have hal : Below w5.heap.size w5 (w5.alloc (.cells #[.int .i64 t, .int .i64 f, .int .i64 s, .int .i64 tt, .int .i64 vv, .int .i64 u, .bool an] 34)) := (Below.refl _ w5).alloc (Nat.le_refl _) _
            have hlt := hbx.lt
            refine (hE5.out _ hal (fun k => k = w5.heap.size) (fun k hk => by subst hk; exact ⟨Nat.le_refl _, hlt⟩)).mono ?_
            rintro e w6 ⟨he, hk6, hT6⟩
            refine ⟨he, ?_⟩
            rintro W2 rfl
            have hal2 : Below w6.heap.size w6 (w6.alloc (.cells #[.int .i64 t, .int .i64 f, .int .i64 s, .int .i64 tt, .int .i64 vv, .int .i64 u, .bool an] 34)) := (Below.refl _ w6).alloc (Nat.le_refl _) _
            have hbx6 := hbx.kept hk6 (fun e => e rfl)
            have hby : BoxM (w6.alloc (.cells #[.int .i64 t, .int .i64 f, .int .i64 s, .int .i64 tt, .int .i64 vv, .int .i64 u, .bool an] 34)) w6.heap.size ⟨⟨t, f, s⟩, tt, vv, u, an⟩ := BoxM.mk w6 ⟨⟨t, f, s⟩, tt, vv, u, an⟩
            obtain ⟨K, hT⟩ := hT6.out _ hal2
            refine ⟨(hbx6.kept (S := fun _ => False) (.of_below hal2) (fun e => e)).at, hby.at, (hT.turnP hn3.out hkj.out).mono ?_⟩
            rintro e w7 ⟨he7, h7⟩
            exact ⟨he7, h7.out.1.kindP, _, h7.out.1⟩
          go_upto_region 19 with (go_at_call 15; (with_reducible refine hps'.out.mono ?_); rintro e w5 ⟨rfl, hE5⟩)
          obtain ⟨W1, hW1⟩ : ∃ W1, W1 = w5.alloc (.cells #[.int .i64 t, .int .i64 f, .int .i64 s, .int .i64 tt, .int .i64 vv, .int .i64 u, .bool an] 34) := ⟨_, rfl⟩
          have hpq := Lib.hid (hpk.out w5 hE5 W1 hW1)
          rw [← hW1]
          clear hps' hE5 hpk hW1 hkj
          generalize w5.heap.size = Bx at hpq ⊢
          go_upto_region 20 with (go_at_call 15; (with_reducible refine hpq.out.mono ?_); rintro e w6 ⟨rfl, hE6⟩)
          obtain ⟨W2, hW2⟩ : ∃ W2, W2 = w6.alloc (.cells #[.int .i64 t, .int .i64 f, .int .i64 s, .int .i64 tt, .int .i64 vv, .int .i64 u, .bool an] 34) := ⟨_, rfl⟩
          obtain ⟨hat1, hat2, hlast⟩ := hE6.out W2 hW2
          rw [← hW2]
          clear hpq hE6 hW2
          generalize w6.heap.size = By at hat2 ⊢
          obtain ⟨-, y0, y1, y2, y3, y4, y5, y6⟩ := hat1
          obtain ⟨-, z0, z1, z2, z3, z4, z5, z6⟩ := hat2
          simp only [Nat.zero_add] at y0 y1 y2 y3 y4 y5 y6 z0 z1 z2 z3 z4 z5 z6
          go_wp2_with (first
            | (go_at_call 14; (with_reducible refine hlast.out.mono ?_); rintro e w7 ⟨rfl, hkd, hE7⟩)
            | (go_at_call 9; (with_reducible refine hkd.out.mono ?_); rintro e w8 ⟨rfl, rfl⟩))
          go_roundw
          case rel => exact ⟨j + 1, by omega, by go_num, hE7⟩
          case measure => simp [intOf]; omega
        · obtain rfl : j = i := by omega
          have hz : ¬ (j : Int) < (j : Int) := by omega
          have hfin : Hid (Calls Tryz.prog 8 #[.pointer (some ⟨pb, 0, none⟩)] wr (fun e w' => e = .returned (.int .i64 0) ∧ wr = w') ∧ Calls Tryz.prog 12 #[] wr fun e w' => e = .returned (.bool true) ∧ Below w.heap.size w w') := by
            obtain ⟨K, hT⟩ := hE.out
            have hl := hT.lenP
            rw [List.drop_of_length_le (by rw [hTl.out]; exact Nat.le_refl _)] at hl
            exact ⟨hl, (awake9_two wr).mono fun e w' hh => ⟨hh.1, hT.b.trans (hh.2.mono hT.b.size)⟩⟩
          obtain ⟨hl, haw⟩ := hfin.out
          have haw' := Lib.hid haw
          clear hE hfin haw
          go_wp2_with (first
            | (go_at_call 8; (with_reducible refine hl.mono ?_); rintro e w7 ⟨rfl, rfl⟩)
            | (go_at_call 12; (with_reducible refine haw'.out.mono ?_); rintro e w8 ⟨rfl, hb8⟩; have hb8' := Lib.hid hb8; clear hb8))
          go_ret
          exact ⟨rfl, hb8'.out⟩
end Go.Proofs.YtjlbkdghlijoeaaGreat
namespace Go.Proofs.YtjlbkdghlijoeaaGreat
open Go.ChangeShapes Go.WideShapes Go.ChangeAt Go.Shelf Go.RowKit Go.Lib Go.Sort Go.Deep Go.Maps
set_option linter.unusedVariables false
theorem wf_u8n {n : Int} (h : (Lit.int .u8 n).wf = true) : 0 ≤ n ∧ n ≤ 255 := by
  simpa [Lit.wf, IntKind.min, IntKind.max, IntKind.signed, IntKind.bits] using h
section
variable {H : Type} {enc : TypeId × Value → H} {w : World} {base : Nat} {spare : Nat → Bool} {held : Bool}
theorem openBys {fuel : Nat} {a : Option Addr} {len cap : Nat} {x : DataW H × List MemPlace} (h : DataW.trod enc Tryz.prog w base spare held fuel 48 [.slice a len cap] = some x) (hlt : ∀ y ∈ x.2, y.block < w.heap.size) : Bys w a len cap := by
  rcases open_slice Tryz.underlying48 h with ⟨hcs, _⟩ | ⟨y, l, c, m, n, D, Pl, hcs, _, hl, hm, hmm, hx, hi⟩
  · simp at hcs
    obtain ⟨rfl, rfl, rfl⟩ := hcs
    exact ⟨by omega, by unfold maxLen; omega, .inl rfl⟩
  · simp at hcs
    obtain ⟨rfl, rfl, rfl⟩ := hcs
    have hml : len ≤ m := by rw [hmm]; split <;> omega
    have cellsU8 : Tryz.prog.cellsOf 5 = 1 := by kernel_rfl
    have hM : ∀ i, i < len → ∃ x : Nat, x < 256 ∧ w.cell? (y.add i) = some (.int .u8 x) := by
      intro i hilt
      obtain ⟨cs', hc, ht⟩ := hi i (by omega)
      rw [cellsU8, Nat.mul_one] at hc
      obtain ⟨mm, rfl, _, wm⟩ := DataW.trod_int Tryz.underlying5 ht
      obtain ⟨_, _, hat⟩ := World.cells?_some hc
      have hg := hat 0 (by omega)
      have hw := wf_u8n wm
      refine ⟨mm.toNat, by omega, ?_⟩
      rw [Int.toNat_of_nonneg (by omega)]
      simpa [Addr.add] using hg
    refine ⟨hl, hm, ?_⟩
    by_cases h0 : len = 0
    · exact .inl h0
    · obtain ⟨b, off, spot⟩ := y
      have hspot : spot = none := by
        obtain ⟨x, _, hh⟩ := hM 0 (by omega)
        simpa [Addr.add] using World.cell?_spot hh
      subst hspot
      have hbW : b < w.heap.size := by
        refine hlt (.cell b off) ?_
        rw [hx, cellsU8]
        exact List.mem_append_left _ (MemPlace.mem_row.2 ⟨0, by omega, by simp⟩)
      refine .inr ⟨b, off, rfl, hbW, fun i hilt => ?_⟩
      obtain ⟨x, hxl, hc⟩ := hM i hilt
      exact ⟨x, hxl, by simpa only [add_plain] using hc⟩
end
end Go.Proofs.YtjlbkdghlijoeaaGreat
