/-
  A region that draws its order: all operations but the last ones are quiet (reads; calls that may make memory of their own), the last ones come one behind the other. A class of worlds: what was there stays, draws and new blocks are free. No program in this text.
  A region that draws its order, in which a new variable is made and then laid out: the operations ahead of both are quiet, the making may come up at any time, what stands behind it comes one behind the other. No program in this text.
-/
import Derived.StillTail
import Derived.Deep.QuietTactic
import Derived.Below
import Derived.BigQuiet
namespace Go.Proofs.YtminfmjgmmkaoaaGreatDoor
open Go Go.RowKit
set_option linter.unusedVariables false

section
variable {P : Program} {ops : Array Oper} {md : Region.Mode} {C : World → Prop}

def wpAnyLQ (P : Program) (md : Region.Mode) (ops : Array Oper) (C : World → Prop) (n : Nat) (L : Array Bool → Act → Prop) : Nat → Array Bool → Act → Prop
  | 0, listed, a => L listed a
  | f + 1, listed, a =>
    Region.ready md ops listed ≠ [] ∧ ∀ i ∈ Region.ready md ops listed, i < n ∧ qOp P ops C i (wpAnyLQ P md ops C n L f (listed.setIfInBounds i true)) a
theorem wpAny_of_headQ {n g : Nat} {L : Array Bool → Act → Prop} {Q' : Exit → Act → World → Prop} (hL : ∀ listed a w, C w → L listed a → wpAny P md ops Q' g listed a w) :
    ∀ (f : Nat) (listed : Array Bool) (a : Act) (w : World), C w → wpAnyLQ P md ops C n L f listed a → wpAny P md ops Q' (f + g) listed a w
  | 0, listed, a, w, hw, h => by rw [Nat.zero_add]; exact hL _ _ _ hw h
  | f + 1, listed, a, w, hw, h => by
    rw [show f + 1 + g = (f + g) + 1 by omega]
    exact ⟨fun h0 => absurd h0 h.1, fun i hi => wpOp_of_qOp hw (fun a' w' hw' h' => wpAny_of_headQ hL f _ a' w' hw' h') (h.2 i hi).2⟩
theorem wpAnyLQ_first {n i : Nat} {oi : Oper} {v : Value} {L : Array Bool → Act → Prop} (hi : ops[i]? = some oi) (hsel : ∀ (j : Nat) (o : Oper) cs b, ops[j]? = some o → o.op ≠ .select cs b)
    (hs : Region.sinkB md ops n = true) (hc : Region.chainB md ops n = true) (hn : n < ops.size) (hin : i < n)
    (hdone : ∀ listed a, L listed a → ∀ j ∈ Region.ready md ops listed, n ≤ j) :
    ∀ (f : Nat) (listed : Array Bool) (a : Act), HeadInv md ops n listed →
      (∀ j oj, ops[j]? = some oj → j ≠ i → listed.getD j true = false → (∀ e ∈ oj.after, Region.binds md e = true → e.on ≠ i) → oi.apart ops oj = true) →
      i ∈ Region.ready md ops listed → YieldsIn P ops C oi v a →
      wpAnyLQ P md ops C n L f (listed.setIfInBounds i true) (a.put oi.dst v) → wpAnyLQ P md ops C n L (f + 1) listed a := by
  intro f
  induction f with
  | zero =>
    intro listed a inv _ hr hy H
    have hun := (mem_ready.1 hr).1
    refine ⟨fun h => (by rw [h] at hr; cases hr), fun j hj => ?_⟩
    have hjn : j < n := by
      rcases Nat.lt_or_ge j n with h | h
      · exact h
      · exact absurd hj (tail_waits hs hc hn inv _ i rfl hin hun j h)
    refine ⟨hjn, ?_⟩
    by_cases hji : j = i
    · subst hji; exact hy.qOp hi H
    · have := hdone _ _ H j (ready_mono hj hji)
      omega
  | succ f ih =>
    intro listed a inv hfree hr hy H
    have hun := (mem_ready.1 hr).1
    refine ⟨fun h => (by rw [h] at hr; cases hr), fun j hj => ?_⟩
    have hjn : j < n := by
      rcases Nat.lt_or_ge j n with h | h
      · exact h
      · exact absurd hj (tail_waits hs hc hn inv _ i rfl hin hun j h)
    refine ⟨hjn, ?_⟩
    by_cases hji : j = i
    · subst hji; exact hy.qOp hi H
    · have h1 := (H.2 j (ready_mono hj hji)).2
      obtain ⟨hjun, oj, hoj, hall⟩ := mem_ready.1 hj
      have hnot : ∀ e ∈ oj.after, Region.binds md e = true → e.on ≠ i := fun e he hb heq => by
        have h1 := hall e he hb
        rw [heq, getD_both hun] at h1
        cases h1
      have h2 := qOp_put hoj (hfree j oj hoj hji hjun hnot) (fun cs b => hsel i oi cs b hi) (fun cs b => hsel j oj cs b hoj) hy h1
      have hfree' : ∀ k ok, ops[k]? = some ok → k ≠ i → (listed.setIfInBounds j true).getD k true = false →
          (∀ e ∈ ok.after, Region.binds md e = true → e.on ≠ i) → oi.apart ops ok = true := fun k ok hk hki hun hno => by
        refine hfree k ok hk hki ?_ hno
        by_cases hjk : j = k
        · subst hjk; exact hjun
        · rw [getD_set_ne true hjk] at hun; exact hun
      refine qOp_mono (fun a' h3 => ih (listed.setIfInBounds j true) a' (inv.set hj hjn) hfree' (ready_mono hr (Ne.symm hji)) h3.1 ?_) h2
      rw [Array.setIfInBounds_comm _ _ hji]
      exact h3.2
theorem wpAnyLQ_lex {n g : Nat} {Lq : Act → Prop} (hsel : Region.noSelect ops = true) (hs : Region.sinkB md ops n = true) (hc : Region.chainB md ops n = true) (hn : n < ops.size) :
    ∀ (l : List Oper) (k : Nat) (listed : Array Bool) (a : Act), (∀ j, j < l.length → l[j]? = ops[k + j]?) → k + l.length = n → HeadInv md ops n listed →
    Region.lexHead md ops g l.length k listed = true → wpQuiet P ops C Lq l a →
    wpAnyLQ P md ops C n (fun listed' a' => Region.seqB md ops g n listed' = true ∧ Lq a') l.length listed a
  | [], k, listed, a, _, hk, _, hB, h => by
    have : k = n := by simpa using hk
    subst this
    exact ⟨by simpa [Region.lexHead] using hB, h⟩
  | o :: l, k, listed, a, hl, hk, inv, hB, h => by
    have h0 : ops[k]? = some o := by simpa using (hl 0 (by simp)).symm
    simp only [List.length_cons, Region.lexHead, Bool.and_eq_true] at hB
    obtain ⟨⟨hr, hf⟩, hB'⟩ := hB
    have hkn : k < n := by simp only [List.length_cons] at hk; omega
    have hr' : k ∈ Region.ready md ops listed := by simpa using hr
    have hst : qOp P ops C k (wpQuiet P ops C Lq l) a := by unfold qOp; simp only [h0]; exact h
    obtain ⟨v, hy, hK⟩ := yieldsIn_of_qOp h0 hst
    exact wpAnyLQ_first h0 (Region.noSelect_spec hsel) hs hc hn hkn (fun listed' a' hL => seqB_ready hL.1) l.length listed a inv (Region.free_spec h0 hf) hr' hy
      (wpAnyLQ_lex hsel hs hc hn l (k + 1) _ _ (fun j hj => by have := hl (j + 1) (by simp; omega); simpa [Nat.add_assoc, Nat.add_comm 1 j] using this) (by simp only [List.length_cons] at hk; omega) (inv.set hr' hkn) hB' hK)
theorem wp_region_quiet_tail {id : Nat} {Q : Exit → Act → World → Prop} {a : Act} {w : World} {l : List Oper} (n : Nat) (hm : P.follows .mixedOrders = true) (hB : Region.lexTailB .any l.toArray n = true)
    (hC : C { w with drawn := w.drawn + 1 })
    (h : wpQuiet P l.toArray C (fun a' => ∀ w', C w' → wpList P l.toArray Q (l.drop n) a' w') (l.take n) a) : (Code.region id l.toArray true).wp P Q a w := by
  simp only [Region.lexTailB, Bool.and_eq_true, decide_eq_true_eq] at hB
  obtain ⟨⟨⟨⟨hsel, hn⟩, hs⟩, hc⟩, hlex⟩ := hB
  have hn' : n < l.length := by simpa using hn
  have htl : (l.take n).length = n := by simp; omega
  have hdl : (l.drop n).length = l.toArray.size - n := by simp
  have inv0 : HeadInv .any l.toArray n (Array.replicate l.toArray.size false) :=
    ⟨by simp, fun j oj _ hl => (by rw [getD_replicate_false] at hl; cases hl), fun t _ ht => getD_in (by simpa using ht) (getD_replicate_false _ _)⟩
  have H := wpAnyLQ_lex (P := P) (C := C) (md := .any) (g := l.toArray.size - n) hsel hs hc hn (l.take n) 0 _ a (fun j hj => by
    have hj' : j < n := by rw [htl] at hj; exact hj
    simp [hj']) (by simpa using htl) inv0 (by rw [htl]; exact hlex) h
  refine wp_region_any hm ?_
  have := wpAny_of_headQ (Q' := Q) (g := l.toArray.size - n) (fun listed a' w' hw' hL => by
    have := wpAny_of_seq (md := .any) (Q' := Q) (l.drop n) n listed a' w' (fun j => by simp [List.getElem?_drop]) (by rw [hdl]; exact hL.1) (hL.2 w' hw')
    rwa [hdl] at this) _ _ _ _ hC H
  rw [htl, show n + (l.toArray.size - n) = l.toArray.size by omega] at this
  exact this
end

/-! The class: what was there stays as it was; draws and new blocks are free. -/
structure WB where
  n : Nat
  os : Array Obj
  deriving Inhabited
def wide (w : World) (p : WB) : World := { w with drawn := p.n, heap := w.heap ++ p.os }
theorem wide_block {w : World} (p : WB) {k : Nat} (h : k < w.heap.size) : (wide w p).heap[k]? = w.heap[k]? := by
  show (w.heap ++ p.os)[k]? = _
  rw [Array.getElem?_append_left h]
theorem wide_below (w : World) (p : WB) : Below w.heap.size w (wide w p) :=
  ⟨rfl, rfl, rfl, by simp [wide], fun k hk => wide_block p hk⟩
theorem wide_cell {w : World} (p : WB) {a : Addr} {v : Value} (hb : a.block < w.heap.size) (h : w.cell? a = some v) : (wide w p).cell? a = some v := by
  rw [(wide_below w p).cell hb]; exact h
theorem wide_of_below {w w' : World} (h : Below w.heap.size w w') : ∃ p : WB, w' = wide w p := by
  refine ⟨⟨w'.drawn, w'.heap.extract w.heap.size w'.heap.size⟩, ?_⟩
  obtain ⟨hp, tp, dr, os, out⟩ := w
  obtain ⟨hp', tp', dr', os', out'⟩ := w'
  obtain ⟨h1, h2, h3, h4, h5⟩ := h
  simp only at h1 h2 h3 h4 h5
  subst h1 h2 h3
  simp only [wide, World.mk.injEq, and_true]
  refine Array.ext (by simp; omega) fun i hi hi' => ?_
  by_cases hlt : i < hp.size
  · have := h5 i hlt
    rw [Array.getElem?_eq_getElem hi, Array.getElem?_eq_getElem hlt] at this
    rw [Array.getElem_append_left hlt]
    exact Option.some.inj this
  · rw [Array.getElem_append_right (by omega)]
    simp only [Array.getElem_extract]
    congr 1
    omega
theorem wide_drawn (w : World) : ∃ p : WB, { w with drawn := w.drawn + 1 } = wide w p := wide_of_below ⟨rfl, rfl, rfl, Nat.le_refl _, fun _ _ => rfl⟩
/-- A callee's contract, met in a world of the class. -/
theorem Calls.wide_of {P : Program} {f : FuncId} {args : Array Value} {w : World} {p : WB} {v : Value}
    (h : Calls P f args (wide w p) fun e w' => e = .returned v ∧ Below (wide w p).heap.size (wide w p) w') : Calls P f args (wide w p) fun e w'' => e = .returned v ∧ ∃ p : WB, w'' = wide w p :=
  h.mono fun _ _ ⟨he, hb⟩ => ⟨he, wide_of_below ((wide_below w p).trans (hb.mono (wide_below w p).size))⟩
theorem wp_region_wide_tail {P : Program} {id : Nat} {Q : Exit → Act → World → Prop} {a : Act} {w : World} {l : List Oper} (n : Nat) (hm : P.follows .mixedOrders = true) (hB : Region.lexTailB .any l.toArray n = true)
    (h : wpQuiet P l.toArray (fun w' => ∃ p : WB, w' = wide w p) (fun a' => ∀ w', (∃ p : WB, w' = wide w p) → wpList P l.toArray Q (l.drop n) a' w') (l.take n) a) : (Code.region id l.toArray true).wp P Q a w :=
  wp_region_quiet_tail (C := fun w' => ∃ p : WB, w' = wide w p) n hm hB (wide_drawn w) h
/-- .. behind it: some world in which what was there is as it was. -/
theorem wide_all {w : World} {R : World → Prop} (h : ∀ w', Below w.heap.size w w' → R w') : ∀ w', (∃ p : WB, w' = wide w p) → R w' := by
  rintro w' ⟨p, rfl⟩
  exact h _ (wide_below w p)
end Go.Proofs.YtminfmjgmmkaoaaGreatDoor
namespace Go.Proofs.YtminfmjgmmkaoaaGreatDoor
open Go Go.RowKit
set_option linter.unusedVariables false

section
variable {P : Program} {ops : Array Oper} {md : Region.Mode} {C : World → Prop}

def quietB (P : Program) (o : Oper) (a : Act) (C : World → Prop) (next : Act → Prop) : Prop :=
  ∃ v, (∀ w1, C w1 → o.quietAt P a (fun w'' => ∃ p : WB, w'' = wide w1 p) w1 v) ∧ next (a.put o.dst v)
def wpQuietB (P : Program) (ops : Array Oper) (C : World → Prop) (Q : Act → Prop) : List Oper → Act → Prop
  | [], a => Q a
  | o :: rest, a => if Region.wanted o (yielded ops a.tmps) then quietB P o a C (wpQuietB P ops C Q rest) else wpQuietB P ops C Q rest (a.put o.dst undef)
theorem wpQuietB_nil {Q : Act → Prop} {a : Act} (h : Q a) : wpQuietB P ops C Q [] a := h
theorem wpQuietB_step {Q : Act → Prop} {a : Act} {o : Oper} {rest : List Oper}
    (h : ∀ K : Act → Prop, (∀ a, wpQuietB P ops C Q rest a → K a) → if Region.wanted o (yielded ops a.tmps) then ∃ v, (∀ w1, C w1 → o.quietAt P a (fun w'' => ∃ p : WB, w'' = wide w1 p) w1 v) ∧ K (a.put o.dst v) else K (a.put o.dst undef)) : wpQuietB P ops C Q (o :: rest) a :=
  h _ (fun _ h => h)
def qOpB (P : Program) (ops : Array Oper) (C : World → Prop) (i : Nat) (K : Act → Prop) (a : Act) : Prop :=
  match ops[i]? with
  | none => K a
  | some o => if Region.wanted o (yielded ops a.tmps) then quietB P o a C K else K (a.put o.dst undef)
theorem quietB_mono {o : Oper} {a : Act} {K K' : Act → Prop} (h : ∀ a, K a → K' a) (hh : quietB P o a C K) : quietB P o a C K' :=
  let ⟨v, h1, h2⟩ := hh
  ⟨v, h1, h _ h2⟩
theorem qOpB_mono {i : Nat} {a : Act} {K K' : Act → Prop} (h : ∀ a, K a → K' a) (hh : qOpB P ops C i K a) : qOpB P ops C i K' a := by
  unfold qOpB at *
  split
  · exact h _ (by simpa [*] using hh)
  · rename_i o ho
    simp only [ho] at hh
    split
    · rename_i hw; simp only [hw, if_true] at hh; exact quietB_mono h hh
    · rename_i hw; simp only [hw] at hh; exact h _ hh
theorem wp_of_quietB {o : Oper} {a a0 : Act} {K : Act → Prop} {K' : Act → World → Prop} {Q' : Exit → Act → World → Prop} {w : World} (hC : C w) (he : execOp a0.eval o = execOp a.eval o)
    (h : ∀ v w', Below w.heap.size w w' → K (a.put o.dst v) → K' (a0.put o.dst v) w') (hh : quietB P o a C K) : o.wp P a0 w K' Q' := by
  obtain ⟨v, h1, h2⟩ := hh
  have h3 := h1 w hC
  unfold Oper.quietAt at h3
  unfold Oper.wp
  rw [he]
  generalize (execOp a.eval o).run P w = r at *
  cases r with
  | ok n w' =>
    cases n <;> simp only [Oper.quietUpon] at h3 <;> simp only [Oper.upon]
    case value u =>
      obtain ⟨e1, e2⟩ := h3
      rw [e1, e2]
      exact h _ _ (Below.refl _ _) h2
    case skip =>
      obtain ⟨e1, e2⟩ := h3
      rw [e1]
      rw [e2] at h2
      exact h _ _ (Below.refl _ _) h2
    case enter f args =>
      obtain ⟨e1, hc⟩ := h3
      rw [e1]
      refine hc.mono fun e w'' ⟨he, p, hw''⟩ => ?_
      subst he
      rw [hw'']
      exact h _ _ (wide_below _ _) h2
  | halt x w' => simp only [Oper.quietUpon] at h3
/-- The frame with the new variable's address laid in, and the frame without: an operation that does not look at it goes alike. -/
theorem wpOp_of_qOpB {i : Nat} {a : Act} {d : Option Tmp} {u : Value} {K : Act → Prop} {K' : Act → World → Prop} {Q' : Exit → Act → World → Prop} {w : World} (hC : C w)
    (hsel : ∀ (j : Nat) (o : Oper) cs b, ops[j]? = some o → o.op ≠ .select cs b)
    (hd : ∀ o, ops[i]? = some o → (∀ x, d = some x → x ∉ o.looksAt ops) ∧ (∀ x, d = some x → o.dst ≠ some x))
    (h : ∀ a w', Below w.heap.size w w' → K a → K' (a.put d u) w') (hh : qOpB P ops C i K a) : wpOp P ops Q' i K' (a.put d u) w := by
  unfold qOpB at hh
  unfold wpOp
  split
  · rename_i ho; simp only [ho] at hh; exact h _ _ (Below.refl _ _) hh
  · rename_i o ho
    simp only [ho] at hh
    obtain ⟨h1, h2⟩ := hd o ho
    rw [wanted_put o a d u h1]
    split
    · rename_i hw
      simp only [hw, if_true] at hh
      refine .inl (wp_of_quietB hC (execOp_put o (fun cs b => hsel i o cs b ho) a d u h1) (fun v w' hb hk => ?_) hh)
      rw [Act.put_comm a u v h2]
      exact h _ _ hb hk
    · rename_i hw
      simp only [hw] at hh
      rw [Act.put_comm a u undef h2]
      exact h _ _ (Below.refl _ _) hh
def YieldsB (P : Program) (ops : Array Oper) (C : World → Prop) (o : Oper) (v : Value) (a : Act) : Prop :=
  (Region.wanted o (yielded ops a.tmps) = true ∧ ∀ w1, C w1 → o.quietAt P a (fun w'' => ∃ p : WB, w'' = wide w1 p) w1 v) ∨ (Region.wanted o (yielded ops a.tmps) = false ∧ v = undef)
theorem YieldsB.qOp {i : Nat} {o : Oper} {v : Value} {a : Act} (hi : ops[i]? = some o) (hy : YieldsB P ops C o v a) {K : Act → Prop} (h : K (a.put o.dst v)) : qOpB P ops C i K a := by
  unfold qOpB
  simp only [hi]
  rcases hy with ⟨hw, hv⟩ | ⟨hw, rfl⟩
  · simp only [hw, if_true]; exact ⟨v, hv, h⟩
  · simp only [hw, Bool.false_eq_true, if_false]; exact h
theorem YieldsB.of_same {o : Oper} {v : Value} {a a' : Act} (hy : YieldsB P ops C o v a) (he : execOp a'.eval o = execOp a.eval o)
    (hw : Region.wanted o (yielded ops a'.tmps) = Region.wanted o (yielded ops a.tmps)) : YieldsB P ops C o v a' := by
  unfold YieldsB Oper.quietAt at *
  rw [he, hw]
  exact hy
theorem yieldsB_of_qOp {i : Nat} {o : Oper} {a : Act} {K : Act → Prop} (hi : ops[i]? = some o) (h : qOpB P ops C i K a) : ∃ v, YieldsB P ops C o v a ∧ K (a.put o.dst v) := by
  unfold qOpB at h
  simp only [hi] at h
  by_cases hw : Region.wanted o (yielded ops a.tmps) = true
  · simp only [hw, if_true] at h
    obtain ⟨v, h1, h2⟩ := h
    exact ⟨v, .inl ⟨hw, h1⟩, h2⟩
  · simp only [hw] at h
    exact ⟨undef, .inr ⟨by simpa using hw, rfl⟩, h⟩
theorem qOpB_put {j : Nat} {oi oj : Oper} {v : Value} (hj : ops[j]? = some oj) (hap : oi.apart ops oj = true)
    (hsi : ∀ cs b, oi.op ≠ .select cs b) (hsj : ∀ cs b, oj.op ≠ .select cs b) {K : Act → Prop} {a : Act}
    (hy : YieldsB P ops C oi v a) (h : qOpB P ops C j K (a.put oi.dst v)) :
    qOpB P ops C j (fun a' => YieldsB P ops C oi v a' ∧ K (a'.put oi.dst v)) a := by
  obtain ⟨h1, h2, h3⟩ := Oper.apart_spec hap
  have keep : ∀ (a : Act), YieldsB P ops C oi v a → ∀ u, YieldsB P ops C oi v (a.put oj.dst u) := fun a hy u =>
    hy.of_same (execOp_put oi hsi a oj.dst u h3) (wanted_put oi a oj.dst u h3)
  unfold qOpB at *
  simp only [hj] at *
  rw [wanted_put oj a oi.dst v h1] at h
  split
  · rename_i hw
    simp only [hw, if_true] at h
    obtain ⟨u, hu, hn⟩ := h
    refine ⟨u, fun w hw' => ?_, keep a hy u, by rw [← Act.put_comm a v u h2]; exact hn⟩
    have := hu w hw'
    unfold Oper.quietAt at *
    rwa [execOp_put oj hsj a oi.dst v h1] at this
  · rename_i hw
    simp only [hw] at h
    exact ⟨keep a hy _, by rw [← Act.put_comm a v undef h2]; exact h⟩

def wpAnyLB (P : Program) (md : Region.Mode) (ops : Array Oper) (C : World → Prop) (n : Nat) (L : Array Bool → Act → Prop) : Nat → Array Bool → Act → Prop
  | 0, listed, a => L listed a
  | f + 1, listed, a =>
    Region.ready md ops listed ≠ [] ∧ ∀ i ∈ Region.ready md ops listed, i < n ∧ qOpB P ops C i (wpAnyLB P md ops C n L f (listed.setIfInBounds i true)) a
theorem wpAnyLB_first {n i : Nat} {oi : Oper} {v : Value} {L : Array Bool → Act → Prop} (hi : ops[i]? = some oi) (hsel : ∀ (j : Nat) (o : Oper) cs b, ops[j]? = some o → o.op ≠ .select cs b)
    (hs : Region.sinkB md ops n = true) (hc : Region.chainB md ops n = true) (hn : n < ops.size) (hin : i < n)
    (hdone : ∀ listed a, L listed a → ∀ j ∈ Region.ready md ops listed, n ≤ j) :
    ∀ (f : Nat) (listed : Array Bool) (a : Act), HeadInv md ops n listed →
      (∀ j oj, ops[j]? = some oj → j ≠ i → listed.getD j true = false → (∀ e ∈ oj.after, Region.binds md e = true → e.on ≠ i) → oi.apart ops oj = true) →
      i ∈ Region.ready md ops listed → YieldsB P ops C oi v a →
      wpAnyLB P md ops C n L f (listed.setIfInBounds i true) (a.put oi.dst v) → wpAnyLB P md ops C n L (f + 1) listed a := by
  intro f
  induction f with
  | zero =>
    intro listed a inv _ hr hy H
    have hun := (mem_ready.1 hr).1
    refine ⟨fun h => (by rw [h] at hr; cases hr), fun j hj => ?_⟩
    have hjn : j < n := by
      rcases Nat.lt_or_ge j n with h | h
      · exact h
      · exact absurd hj (tail_waits hs hc hn inv _ i rfl hin hun j h)
    refine ⟨hjn, ?_⟩
    by_cases hji : j = i
    · subst hji; exact hy.qOp hi H
    · have := hdone _ _ H j (ready_mono hj hji)
      omega
  | succ f ih =>
    intro listed a inv hfree hr hy H
    have hun := (mem_ready.1 hr).1
    refine ⟨fun h => (by rw [h] at hr; cases hr), fun j hj => ?_⟩
    have hjn : j < n := by
      rcases Nat.lt_or_ge j n with h | h
      · exact h
      · exact absurd hj (tail_waits hs hc hn inv _ i rfl hin hun j h)
    refine ⟨hjn, ?_⟩
    by_cases hji : j = i
    · subst hji; exact hy.qOp hi H
    · have h1 := (H.2 j (ready_mono hj hji)).2
      obtain ⟨hjun, oj, hoj, hall⟩ := mem_ready.1 hj
      have hnot : ∀ e ∈ oj.after, Region.binds md e = true → e.on ≠ i := fun e he hb heq => by
        have h1 := hall e he hb
        rw [heq, getD_both hun] at h1
        cases h1
      have h2 := qOpB_put hoj (hfree j oj hoj hji hjun hnot) (fun cs b => hsel i oi cs b hi) (fun cs b => hsel j oj cs b hoj) hy h1
      have hfree' : ∀ k ok, ops[k]? = some ok → k ≠ i → (listed.setIfInBounds j true).getD k true = false →
          (∀ e ∈ ok.after, Region.binds md e = true → e.on ≠ i) → oi.apart ops ok = true := fun k ok hk hki hun hno => by
        refine hfree k ok hk hki ?_ hno
        by_cases hjk : j = k
        · subst hjk; exact hjun
        · rw [getD_set_ne true hjk] at hun; exact hun
      refine qOpB_mono (fun a' h3 => ih (listed.setIfInBounds j true) a' (inv.set hj hjn) hfree' (ready_mono hr (Ne.symm hji)) h3.1 ?_) h2
      rw [Array.setIfInBounds_comm _ _ hji]
      exact h3.2
/-- The head, in the order of the text, operation q struck out (as done); behind it one way alone. -/
def lexHeadA (md : Region.Mode) (ops : Array Oper) (g n : Nat) : Nat → Nat → Array Bool → Bool
  | 0, _, listed => Region.seqB md ops g n listed
  | f + 1, k, listed => (Region.ready md ops listed).contains k && Region.free md ops listed k && lexHeadA md ops g n f (k + 1) (listed.setIfInBounds k true)
theorem wpAnyLB_lex {n g q : Nat} {Lq : Act → Prop} (hq : q + 1 = n) (hsel : Region.noSelect ops = true) (hs : Region.sinkB md ops n = true) (hc : Region.chainB md ops n = true) (hn : n < ops.size) :
    ∀ (l : List Oper) (k : Nat) (listed : Array Bool) (a : Act), (∀ j, j < l.length → l[j]? = ops[k + j]?) → k + l.length = q → HeadInv md ops n listed →
    lexHeadA md ops g n l.length k listed = true → wpQuietB P ops C Lq l a →
    wpAnyLB P md ops C n (fun listed' a' => Region.seqB md ops g n listed' = true ∧ Lq a') l.length listed a
  | [], k, listed, a, _, hk, _, hB, h => ⟨by simpa [lexHeadA] using hB, h⟩
  | o :: l, k, listed, a, hl, hk, inv, hB, h => by
    have h0 : ops[k]? = some o := by simpa using (hl 0 (by simp)).symm
    simp only [List.length_cons, lexHeadA, Bool.and_eq_true] at hB
    obtain ⟨⟨hr, hf⟩, hB'⟩ := hB
    have hkn : k < n := by simp only [List.length_cons] at hk; omega
    have hr' : k ∈ Region.ready md ops listed := by simpa using hr
    have hst : qOpB P ops C k (wpQuietB P ops C Lq l) a := by unfold qOpB; simp only [h0]; exact h
    obtain ⟨v, hy, hK⟩ := yieldsB_of_qOp h0 hst
    exact wpAnyLB_first h0 (Region.noSelect_spec hsel) hs hc hn hkn (fun listed' a' hL => seqB_ready hL.1) l.length listed a inv (Region.free_spec h0 hf) hr' hy
      (wpAnyLB_lex hq hsel hs hc hn l (k + 1) _ _ (fun j hj => by have := hl (j + 1) (by simp; omega); simpa [Nat.add_assoc, Nat.add_comm 1 j] using this) (by simp only [List.length_cons] at hk; omega) (inv.set hr' hkn) hB' hK)

/-- Behind the making: block b holds Z. -/
theorem after_made {n g b : Nat} {Z : Obj} {d : Option Tmp} {L : Array Bool → Act → Prop} {Q' : Exit → Act → World → Prop} (hcl : ∀ w1 w2, C w1 → Below w1.heap.size w1 w2 → C w2)
    (hsel : ∀ (j : Nat) (o : Oper) cs b, ops[j]? = some o → o.op ≠ .select cs b)
    (hd : ∀ i, i < n → ∀ o, ops[i]? = some o → (∃ q, i = q ∧ o.dst = d) ∨ ((∀ x, d = some x → x ∉ o.looksAt ops) ∧ (∀ x, d = some x → o.dst ≠ some x)))
    (hdq : ∀ i, i < n → ∀ listed : Array Bool, i ∈ Region.ready md ops listed → listed.getD (n - 1) true = true → i ≠ n - 1)
    (hd2 : ∀ i, i < n → i ≠ n - 1 → ∀ o, ops[i]? = some o → (∀ x, d = some x → x ∉ o.looksAt ops) ∧ (∀ x, d = some x → o.dst ≠ some x))
    (hL : ∀ listed a w, C w → w.heap[b]? = some Z → L listed a → wpAny P md ops Q' g listed (a.put d (.pointer (some ⟨b, 0, none⟩))) w) :
    ∀ (f : Nat) (listed : Array Bool) (a : Act) (w : World), C w → w.heap[b]? = some Z → listed.getD (n - 1) true = true → wpAnyLB P md ops C n L f listed a → wpAny P md ops Q' (f + g) listed (a.put d (.pointer (some ⟨b, 0, none⟩))) w
  | 0, listed, a, w, hw, hb, _, h => by rw [Nat.zero_add]; exact hL _ _ _ hw hb h
  | f + 1, listed, a, w, hw, hb, hq, h => by
    rw [show f + 1 + g = (f + g) + 1 by omega]
    refine ⟨fun h0 => absurd h0 h.1, fun i hi => ?_⟩
    obtain ⟨hin, hop⟩ := h.2 i hi
    have hne := hdq i hin listed hi hq
    refine wpOp_of_qOpB hw hsel (hd2 i hin hne) (fun a' w' hbw hk => ?_) hop
    have hlt : b < w.heap.size := (Array.getElem?_eq_some_iff.1 hb).1
    refine after_made hcl hsel hd hdq hd2 hL f _ a' w' (hcl _ _ hw hbw) ((hbw.block b hlt).trans hb) ?_ hk
    rw [getD_set_ne true hne]; exact hq
/-- Ahead of the making. -/
theorem ahead_made {n g q : Nat} {Z : Obj} {d : Option Tmp} {oq : Oper} {L : Array Bool → Act → Prop} {Q' : Exit → Act → World → Prop} (hqn : q + 1 = n) (hn : n < ops.size) (hoq : ops[q]? = some oq) (hqd : oq.dst = d) (hqa : oq.after = #[]) (hqg : oq.guard = none)
    (hs : Region.sinkB md ops n = true) (hc : Region.chainB md ops n = true)
    (hrun : ∀ (a : Act) (w1 : World), (execOp a.eval oq).run P w1 = .ok (.value (.pointer (some ⟨w1.heap.size, 0, none⟩))) (w1.alloc Z))
    (hcl : ∀ w1 w2, C w1 → Below w1.heap.size w1 w2 → C w2)
    (hsel : ∀ (j : Nat) (o : Oper) cs b, ops[j]? = some o → o.op ≠ .select cs b)
    (hd2 : ∀ i, i < n → i ≠ q → ∀ o, ops[i]? = some o → (∀ x, d = some x → x ∉ o.looksAt ops) ∧ (∀ x, d = some x → o.dst ≠ some x))
    (hdone : ∀ listed a, L listed a → ∀ j ∈ Region.ready md ops listed, n ≤ j)
    {base : Nat} (hbase : ∀ w, C w → base ≤ w.heap.size)
    (hL : ∀ b listed a w, C w → base ≤ b → w.heap[b]? = some Z → L listed a → wpAny P md ops Q' g listed (a.put d (.pointer (some ⟨b, 0, none⟩))) w) :
    ∀ (f : Nat) (listed : Array Bool) (a : Act) (w : World), C w → HeadInv md ops n listed → listed.getD q true = false → wpAnyLB P md ops C n L f (listed.setIfInBounds q true) a → wpAny P md ops Q' (f + 1 + g) listed a w := by
  have hdq : ∀ i, i < n → ∀ listed : Array Bool, i ∈ Region.ready md ops listed → listed.getD (n - 1) true = true → i ≠ n - 1 := fun i _ listed hi hq he => by
    have := (mem_ready.1 hi).1
    rw [he, hq] at this
    cases this
  have hqq : n - 1 = q := by omega
  have made : ∀ (f : Nat) (listed : Array Bool) (a : Act) (w : World), C w → HeadInv md ops n listed → listed.getD q true = false → wpAnyLB P md ops C n L f (listed.setIfInBounds q true) a →
      wpOp P ops Q' q (wpAny P md ops Q' (f + g) (listed.setIfInBounds q true)) a w := by
    intro f listed a w hw inv hun h
    unfold wpOp
    simp only [hoq]
    have hwt : Region.wanted oq (yielded ops a.tmps) = true := by unfold Region.wanted; rw [hqg]
    rw [if_pos hwt]
    refine .inl ?_
    unfold Oper.wp
    rw [hrun a w]
    simp only [Oper.upon]
    rw [hqd]
    refine after_made (b := w.heap.size) hcl hsel (fun i hi o ho => ?_) hdq (fun i hi hne => hd2 i hi (by omega)) (fun listed a w' hC hb hl => hL _ listed a w' hC (hbase _ hw) hb hl) f _ a _ (hcl _ _ hw ((Below.refl _ _).alloc (Nat.le_refl _) _)) (heap_alloc_new w Z) ?_ h
    · by_cases hiq : i = q
      · subst hiq
        have : o = oq := Option.some.inj (ho.symm.trans hoq)
        subst this
        exact .inl ⟨i, rfl, hqd⟩
      · exact .inr (hd2 i hi hiq o ho)
    · rw [hqq]
      have hqs : q < listed.size := by rw [inv.size]; omega
      simp [hqs]
  have qready : ∀ listed : Array Bool, listed.getD q true = false → q ∈ Region.ready md ops listed := fun listed hun => mem_ready.2 ⟨hun, oq, hoq, fun e he => by rw [hqa] at he; simp at he⟩
  intro f
  induction f with
  | zero =>
    intro listed a w hw inv hun h
    rw [show 0 + 1 + g = (0 + g) + 1 by omega]
    refine ⟨fun h0 => (by have := qready listed hun; rw [h0] at this; cases this), fun i hi => ?_⟩
    have hin : i < n := by
      rcases Nat.lt_or_ge i n with h | h
      · exact h
      · exact absurd hi (tail_waits hs hc hn inv _ q rfl (by omega) hun i h)
    by_cases hiq : i = q
    · subst hiq
      exact made 0 listed a w hw inv hun h
    · have := hdone _ _ h i (ready_mono hi hiq)
      omega
  | succ f ih =>
    intro listed a w hw inv hun h
    rw [show f + 1 + 1 + g = (f + 1 + g) + 1 by omega]
    refine ⟨fun h0 => (by have := qready listed hun; rw [h0] at this; cases this), fun i hi => ?_⟩
    have hin : i < n := by
      rcases Nat.lt_or_ge i n with h | h
      · exact h
      · exact absurd hi (tail_waits hs hc hn inv _ q rfl (by omega) hun i h)
    by_cases hiq : i = q
    · subst hiq
      exact made (f + 1) listed a w hw inv hun h
    · obtain ⟨_, hop⟩ := h.2 i (ready_mono hi hiq)
      have hno : ∀ o, ops[i]? = some o → (∀ x, (none : Option Tmp) = some x → x ∉ o.looksAt ops) ∧ (∀ x, (none : Option Tmp) = some x → o.dst ≠ some x) := fun o _ => ⟨(fun x hx => by cases hx), (fun x hx => by cases hx)⟩
      exact wpOp_of_qOpB (P := P) (ops := ops) (C := C) (i := i) (a := a) (d := none) (u := undef) (w := w) (Q' := Q') (K' := wpAny P md ops Q' (f + 1 + g) (listed.setIfInBounds i true)) hw hsel hno (fun a' w' hbw hk => ih (listed.setIfInBounds i true) a' w' (hcl _ _ hw hbw) (inv.set hi hin) (by rw [getD_set_ne true (Ne.symm (Ne.symm hiq))]; exact hun) (by rw [Array.setIfInBounds_comm _ _ hiq]; exact hk)) hop
/-- What the region's form must be. -/
def allocTailB (md : Region.Mode) (ops : Array Oper) (q : Nat) : Bool :=
  Region.noSelect ops && decide (q + 1 < ops.size) && Region.sinkB md ops (q + 1) && Region.chainB md ops (q + 1) &&
  (match ops[q]? with | some o => o.after.isEmpty && o.guard.isNone && (List.range q).all (fun i => match ops[i]? with | some oi => o.apart ops oi | none => true) | none => false) &&
  lexHeadA md ops (ops.size - (q + 1)) (q + 1) q 0 ((Array.replicate ops.size false).setIfInBounds q true)
end
theorem wp_region_alloc_tail {P : Program} {id : Nat} {Q : Exit → Act → World → Prop} {a : Act} {w : World} {l : List Oper} (q : Nat) (Z : Obj) (d : Option Tmp) (hm : P.follows .mixedOrders = true) (hB : allocTailB .any l.toArray q = true)
    (hrun : ∀ (a : Act) (w1 : World), (l.toArray[q]?).map (fun o => (execOp a.eval o).run P w1) = some (.ok (.value (.pointer (some ⟨w1.heap.size, 0, none⟩))) (w1.alloc Z)))
    (hd : (l.toArray[q]?).map (·.dst) = some d)
    (h : wpQuietB P l.toArray (fun w' => ∃ p : WB, w' = wide w p) (fun a' => ∀ b w', Below w.heap.size w w' → w.heap.size ≤ b → w'.heap[b]? = some Z → wpList P l.toArray Q (l.drop (q + 1)) (a'.put d (.pointer (some ⟨b, 0, none⟩))) w') (l.take q) a) : (Code.region id l.toArray true).wp P Q a w := by
  simp only [allocTailB, Bool.and_eq_true, decide_eq_true_eq] at hB
  obtain ⟨⟨⟨⟨⟨hsel, hn⟩, hs⟩, hc⟩, hq⟩, hlex⟩ := hB
  obtain ⟨oq, hoq⟩ : ∃ oq, l.toArray[q]? = some oq := by
    cases ho : l.toArray[q]? with
    | none => rw [ho] at hq; cases hq
    | some o => exact ⟨o, rfl⟩
  rw [hoq] at hq hd
  simp only [Bool.and_eq_true, List.all_eq_true, List.mem_range, Array.isEmpty_iff, Option.isNone_iff_eq_none, Option.map_some, Option.some.injEq] at hq hd
  obtain ⟨⟨hqa, hqg⟩, hap⟩ := hq
  have hn' : q + 1 < l.length := by simpa using hn
  have htl : (l.take q).length = q := by simp; omega
  have hdl : (l.drop (q + 1)).length = l.toArray.size - (q + 1) := by simp
  have inv0 : HeadInv .any l.toArray (q + 1) (Array.replicate l.toArray.size false) :=
    ⟨by simp, fun j oj _ hl => (by rw [getD_replicate_false] at hl; cases hl), fun t _ ht => getD_in (by simpa using ht) (getD_replicate_false _ _)⟩
  have hq0 : (Array.replicate l.toArray.size false).getD q true = false := getD_in (by simp; omega) (getD_replicate_false _ _)
  have qr : q ∈ Region.ready .any l.toArray (Array.replicate l.toArray.size false) := mem_ready.2 ⟨hq0, oq, hoq, fun e he => by rw [hqa] at he; simp at he⟩
  have inv1 := inv0.set qr (by omega)
  have Habs := wpAnyLB_lex (P := P) (C := fun w' => (∃ p : WB, w' = wide w p)) (md := .any) (g := l.toArray.size - (q + 1)) (q := q) rfl hsel hs hc hn (l.take q) 0 _ a (fun j hj => by
    have hj' : j < q := by rw [htl] at hj; exact hj
    simp [hj']) (by rw [htl]; omega) inv1 (by rw [htl]; exact hlex) h
  refine wp_region_any hm ?_
  have hsel' : ∀ (j : Nat) (o : Oper) cs b, l.toArray[j]? = some o → o.op ≠ .select cs b := fun j o cs b ho => Region.noSelect_spec hsel j o cs b ho
  have hcl : ∀ w1 w2 : World, (∃ p : WB, w1 = wide w p) → Below w1.heap.size w1 w2 → ∃ p : WB, w2 = wide w p := fun w1 w2 ⟨p, e⟩ hb => by
    subst e
    exact wide_of_below ((wide_below w p).trans (hb.mono (wide_below w p).size))
  have hd2 : ∀ i, i < q + 1 → i ≠ q → ∀ o, l.toArray[i]? = some o → (∀ x, d = some x → x ∉ o.looksAt l.toArray) ∧ (∀ x, d = some x → o.dst ≠ some x) := fun i hi hne o ho => by
    have h1 := hap i (by omega)
    simp only [ho] at h1
    obtain ⟨g1, g2, _⟩ := Oper.apart_spec h1
    rw [hd] at g1 g2
    exact ⟨g1, g2⟩
  have hrun' : ∀ (a : Act) (w1 : World), (execOp a.eval oq).run P w1 = .ok (.value (.pointer (some ⟨w1.heap.size, 0, none⟩))) (w1.alloc Z) := fun a w1 => by
    have := hrun a w1
    rw [hoq] at this
    exact Option.some.inj this
  have := ahead_made (P := P) (md := .any) (g := l.toArray.size - (q + 1)) (Q' := Q) (Z := Z) (d := d) (base := w.heap.size) rfl hn hoq hd hqa hqg hs hc hrun' hcl hsel' hd2 (fun listed a hl => seqB_ready hl.1)
    (by rintro w1 ⟨p, rfl⟩; exact (wide_below w p).size)
    (fun b listed a' w' hC hbase hb hl => by
      obtain ⟨p, rfl⟩ := hC
      have := wpAny_of_seq (md := .any) (Q' := Q) (l.drop (q + 1)) (q + 1) listed (a'.put d (.pointer (some ⟨b, 0, none⟩))) (wide w p) (fun j => by simp [List.getElem?_drop]) (by rw [hdl]; exact hl.1) (hl.2 b _ (wide_below w p) hbase hb)
      rwa [hdl] at this) _ _ _ _ (wide_drawn w) inv0 hq0 Habs
  rw [htl, show q + 1 + (l.toArray.size - (q + 1)) = l.toArray.size by omega] at this
  exact this
end Go.Proofs.YtminfmjgmmkaoaaGreatDoor
