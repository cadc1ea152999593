/-
  The law that the program's Sorted is the document's, and that it leaves the list that it was given as it was.
-/
import Derived.Test.YtmfemimnoodpfaaSorts
namespace Go.Proofs.Ytmfemimnoodpfaa
open Go.ChangeShapes Go.WideShapes Go.ChangeAt Go.RowKit Go.Sort Go.Deep
set_option linter.unusedVariables false

/-- A slice that came in: where it has no array, it has no room. -/
def NilP (a : Option Addr) (len cap : Nat) : Prop := a = none → len = 0 ∧ cap = 0
theorem openNil {H : Type} {enc : TypeId × Value → H} {w : World} {base : Nat} {spare : Nat → Bool} {held : Bool} {t e : TypeId} {fuel : Nat} {a : Option Addr} {len cap : Nat} {x : DataW H × List MemPlace} (ht : Try.prog.underlying t = some (.slice e)) (h : DataW.trod enc Try.prog w base spare held fuel t [.slice a len cap] = some x) : NilP a len cap := by
  intro ha
  rcases open_slice ht h with ⟨hcs, _⟩ | ⟨y, l, c, m, n, D, Pl, hcs, _⟩
  · simp at hcs
    exact ⟨hcs.2.1, hcs.2.2⟩
  · simp at hcs
    rw [hcs.1] at ha
    cases ha
theorem msgs_cells {w : World} {ad : Addr} {n cap : Nat} {S : List M} (h : Msgs w (some ad) n cap S) (j : Nat) (u : Value) (hj : (flat S)[j]? = some u) : w.cell? (ad.add j) = some u := by
  have hlt := (List.getElem?_eq_some_iff.1 hj).1
  rw [flat_length] at hlt
  have h' := h
  obtain ⟨h1, h2, h3, hf, h4⟩ := h
  rcases h4 with h0 | ⟨b', off', ha, hm⟩
  · omega
  · cases ha
    refine take_cells h' n (Nat.le_refl _) j u ?_
    rwa [List.take_of_length_le (by omega)]
/-- An append to a slice of the call's own, of a slice of messages that came in, nil included. -/
theorem wpM_any {ops : Array Oper} {rest : List Oper} {o : Oper} {t : Act} {w : World} {Q : Exit → Act → World → Prop} (hgd : o.guard = none) (s x : Operand)
    (ho : o.op = .call { callee := .builtin .append, args := #[s, x], argTypes := #[35, 35] }) (base : Nat) (v : Value) (n : Nat) (xs : List Value) (hs : t.eval s = v) (hown : w.ownsRow base 28 7 v n xs)
    (a : Option Addr) (len cap : Nat) (ms : List M) (hx : t.eval x = .slice a len cap) (hI : Msgs w a len cap ms) (hn : NilP a len cap) (hbytes : (n + len) * 56 ≤ 140737488355328) (hbase : base ≤ w.heap.size)
    (h : ∀ v' w', w'.ownsRow base 28 7 v' (n + len) (xs ++ flat ms) → Hid (w.grownBy w' v.ownBlock) → wpList Try.prog ops Q rest (t.put o.dst v') w') : wpList Try.prog ops Q (o :: rest) t w := by
  obtain ⟨i0, hi, hz0, hz1, hz2⟩ := info_parts infoM
  cases a with
  | none =>
    obtain ⟨rfl, rfl⟩ := hn rfl
    have hnil : ms = [] := List.eq_nil_of_length_eq_zero hI.1
    subst hnil
    refine wpList_append_own_none hgd s x 35 ho base 28 i0 7 Try.underlying35 hi v n xs hs hown hx ?_
    exact h v w (by simpa [flat] using hown) ⟨rfl, rfl, rfl, Nat.le_refl _, fun _ _ _ => rfl⟩
  | some ad => exact wpM hgd s x ho base v n xs hs hown ad len cap ms hx hI.1 (msgs_cells hI) hbytes hbase h

set_option maxRecDepth 100000 in
set_option maxHeartbeats 4000000 in
theorem lawEventSorts {w : World} {a : Option Addr} {len cap : Nat} {ms : List M} (h : Msgs w a len cap ms) (hr : len * 56 ≤ 140737488351232) (hn : NilP a len cap) :
    Calls Try.prog 6 #[.slice a len cap] w fun e w' => e = .returned (.bool true) ∧ Below w.heap.size w w' := by
  have hM := Lib.hid h
  have hnI := Lib.hid hn
  have h3 := awake_any
  have hfit := Lib.hid h.2.2.2.1
  clear h hn
  go_enter Try.func6, Try.ntmps6
  go_wp2_with (at_builtin; refine wpM_any rfl (.tmp 4) (.tmp 5) rfl w.heap.size _ 0 [] rfl ?o1 _ len cap ms rfl ?o2 hnI.out ?o4 ?o5 ?_)
  case o1 => exact World.ownsRow_made w #[] 0 (Nat.le_refl _) (Nat.zero_le _) (by simp)
  case o2 => exact hM.out.below ((Below.refl _ w).alloc (Nat.le_refl _) _)
  case o4 => omega
  all_goals try (simp; done)
  intro v1 w1 hown1 hgrow1
  have hb1 : Below w.heap.size w w1 := ((Below.refl _ w).alloc (Nat.le_refl _) _).grown hgrow1.out (by simp) (by intro k hk; simp [Value.ownBlock] at hk; omega)
  have hown1' : w1.ownsRow w.heap.size 28 7 v1 len (flat ms) := by
    have := hown1
    first | exact this | (simp only [Nat.zero_add, List.nil_append] at this; exact this)
  obtain ⟨a1, c1, rfl, hM1⟩ := msgs_of_own hown1' hfit.out
  have hq1 : Aside (Msgs w1 a1 len c1 ms ∧ Below w.heap.size w w1) := ⟨hM1, hb1⟩
  clear hown1 hgrow1 hb1 hown1' hM1
  have hc1 : Calls Try.prog 27 #[.slice a1 len c1] w1 fun e w2 => ∃ a2 c2, e = .returned (.slice a2 len c2) ∧ Aside (Msgs w2 a1 len c1 ms ∧ Msgs w2 a2 len c2 (stab ltM ms) ∧ Below w.heap.size w w2) := by
    refine (eSorted_any hq1.out.1 hr).mono ?_
    rintro e w2 ⟨a2, c2, rfl, hq⟩
    exact ⟨a2, c2, rfl, hq1.out.1.below hq.out.2, hq.out.1, hq1.out.2.trans (hq.out.2.mono hq1.out.2.size)⟩
  have hc2 : ∀ a2 c2 w2, Aside (Msgs w2 a1 len c1 ms ∧ Msgs w2 a2 len c2 (stab ltM ms) ∧ Below w.heap.size w w2) → Calls Try.prog 28 #[.slice a len cap] w2 fun e w3 => ∃ a3 c3, e = .returned (.slice a3 len c3) ∧ Aside (Msgs w3 a1 len c1 ms ∧ Msgs w3 a2 len c2 (stab ltM ms) ∧ Msgs w3 a3 len c3 (stab ltM ms) ∧ Below w.heap.size w w3) := by
    intro a2 c2 w2 hq
    refine (rSorted_any (hM.out.below hq.out.2.2) hr).mono ?_
    rintro e w3 ⟨v3, rfl, hq3⟩
    obtain ⟨a3, c3, rfl, hM3, _⟩ := hq3.out.1
    exact ⟨a3, c3, rfl, hq.out.1.below hq3.out.2, hq.out.2.1.below hq3.out.2, hM3, hq.out.2.2.trans (hq3.out.2.mono hq.out.2.2.size)⟩
  have hc3 : ∀ a2 c2 a3 c3 w3, Aside (Msgs w3 a1 len c1 ms ∧ Msgs w3 a2 len c2 (stab ltM ms) ∧ Msgs w3 a3 len c3 (stab ltM ms) ∧ Below w.heap.size w w3) → Calls Try.prog 26 #[.slice a2 len c2, .slice a3 len c3] w3 fun e w4 => e = .returned (.bool true) ∧ Aside (Msgs w4 a1 len c1 ms ∧ Below w.heap.size w w4) := by
    intro a2 c2 a3 c3 w3 hq
    refine (same_eq hq.out.2.1 hq.out.2.2.1).mono ?_
    rintro e w4 ⟨rfl, hr4⟩
    exact ⟨rfl, hq.out.1.read hr4, hq.out.2.2.2.trans (hr4.below.mono hq.out.2.2.2.size)⟩
  have hc4 : ∀ w4, Aside (Msgs w4 a1 len c1 ms ∧ Below w.heap.size w w4) → Calls Try.prog 26 #[.slice a1 len c1, .slice a len cap] w4 fun e w5 => e = .returned (.bool true) ∧ Aside (Below w.heap.size w w5) := by
    intro w4 hq
    refine (same_eq hq.out.1 (hM.out.below hq.out.2)).mono ?_
    rintro e w5 ⟨rfl, hr5⟩
    exact ⟨rfl, hq.out.2.trans (hr5.below.mono hq.out.2.size)⟩
  clear hq1
  go_wp2_with (first
    | (go_at_call 27; refine hc1.mono ?_; rintro e w2 ⟨a2, c2, rfl, hq2⟩)
    | (go_at_call 28; refine (hc2 _ _ _ hq2).mono ?_; rintro e w3 ⟨a3, c3, rfl, hq3⟩)
    | (go_at_call 26; ((with_reducible refine (hc3 _ _ _ _ _ hq3).mono ?_); rintro e w4 ⟨rfl, hq4⟩))
    | (go_at_call 26; ((with_reducible refine (hc4 _ hq4).mono ?_); rintro e w5 ⟨rfl, hq5⟩))
    | (go_at_call 15; refine (h3 _).mono ?_; rintro e w6 ⟨rfl, hr6⟩))
  go_ret
  exact ⟨rfl, hq5.out.trans (hr6.below.mono hq5.out.size)⟩

end Go.Proofs.Ytmfemimnoodpfaa
