
/-
  A slice of instructions that can be read, and the contract of Check, the program's and the document's, over each.
-/
import Derived.Test.YtofkfajcibdneaaDoorCode5
import Derived.Test.YtofkfajcibdneaaDoorCode6
namespace Go.Proofs.YtofkfajcibdneaaDoor
open Go.ChangeShapes Go.WideShapes Go.ChangeAt Go.RowKit Go.Sort
set_option linter.unusedVariables false

def I.fits (i : I) : Prop := (Lit.int .i64 i.op).wf = true ∧ (Lit.int .i64 i.a).wf = true ∧ (Lit.int .i64 i.b).wf = true ∧ (Lit.int .i64 i.c).wf = true
/-- A slice value reads as the instructions is. -/
def Inss (w : World) (a : Option Addr) (len cap : Nat) (is : List I) : Prop :=
  is.length = len ∧ len ≤ cap ∧ cap ≤ maxLen ∧ (∀ i ∈ is, i.fits) ∧ (len = 0 ∨ ∃ b off, a = some ⟨b, off, none⟩ ∧ ∀ k, k < len → InsAt w b (off + k * 4) (is.getD k default))
theorem Inss.read {w w' : World} {a : Option Addr} {len cap : Nat} {is : List I} (h : Inss w a len cap is) (hr : Read w w') : Inss w' a len cap is := by
  obtain ⟨h1, h2, h3, hf, h4⟩ := h
  refine ⟨h1, h2, h3, hf, h4.imp id ?_⟩
  rintro ⟨b, off, ha, hm⟩
  exact ⟨b, off, ha, fun i hi => (hm i hi).read hr⟩
theorem InsAt.below {w w' : World} {b o : Nat} {i : I} (h : InsAt w b o i) (hb : Below w.heap.size w w') : InsAt w' b o i := by
  obtain ⟨hlt, h0, h1, h2, h3⟩ := h
  have hc : ∀ {c : Nat} {v : Value}, w.cell? ⟨b, c, none⟩ = some v → w'.cell? ⟨b, c, none⟩ = some v := fun h => by rw [hb.cell hlt]; exact h
  exact ⟨Nat.lt_of_lt_of_le hlt hb.size, hc h0, hc h1, hc h2, hc h3⟩
theorem Inss.below {w w' : World} {a : Option Addr} {len cap : Nat} {is : List I} (h : Inss w a len cap is) (hb : Below w.heap.size w w') : Inss w' a len cap is := by
  obtain ⟨h1, h2, h3, hf, h4⟩ := h
  refine ⟨h1, h2, h3, hf, h4.imp id ?_⟩
  rintro ⟨b, off, ha, hm⟩
  exact ⟨b, off, ha, fun i hi => (hm i hi).below hb⟩

/-- What Check answers. -/
def checkN (is : List I) : Int := if 256 < is.length then 2 else if is.all (fun i => mayB i is.length) then 0 else 130
theorem checkN_long {is : List I} (h : 256 < is.length) : checkN is = 2 := by simp [checkN, h]
theorem checkN_bad {is : List I} (h : ¬ 256 < is.length) (k : Nat) (hk : k < is.length) (hb : mayB (is.getD k default) is.length = false) : checkN is = 130 := by
  have : is.all (fun i => mayB i is.length) = false := by
    rw [List.all_eq_false]
    refine ⟨is.getD k default, ?_, by rw [hb]; decide⟩
    simp only [List.getD_eq_getElem?_getD, List.getElem?_eq_getElem hk, Option.getD_some]
    exact List.getElem_mem hk
  unfold checkN
  rw [if_neg h, if_neg (by simp [this])]
theorem checkN_ok {is : List I} (h : ¬ 256 < is.length) (ha : ∀ k, k < is.length → mayB (is.getD k default) is.length = true) : checkN is = 0 := by
  have : is.all (fun i => mayB i is.length) = true := by
    rw [List.all_eq_true]
    intro i hi
    obtain ⟨k, hk, rfl⟩ := List.getElem_of_mem hi
    have := ha k hk
    simpa [List.getD_eq_getElem?_getD, List.getElem?_eq_getElem hk] using this
  unfold checkN
  rw [if_neg h, if_pos this]

/-- All up to k may be. -/
def Upto (is : List I) (k : Nat) : Prop := ∀ j, j < k → mayB (is.getD j default) is.length = true

set_option maxHeartbeats 1000000 in
theorem r3Check_any {w : World} {a : Option Addr} {len cap : Nat} {is : List I} (h : Inss w a len cap is) :
    Calls Tryd.prog 23 #[.slice a len cap] w fun e w' => e = .returned (.int .i64 (checkN is)) ∧ Read w w' := by
  have hlen := h.1
  have hmx : len ≤ 9223372036854775807 := by have := h.2.1; have := h.2.2.1; unfold maxLen at *; omega
  by_cases hl : 256 < len
  · rw [checkN_long (by omega)]
    clear hlen
    go_enter Tryd.func23, Tryd.ntmps23
    go_wp2
    go_ret
    exact ⟨rfl, Read.refl _⟩
  · have hl' : len ≤ 256 := by omega
    have hL : ¬ 256 < is.length := by omega
    have hI := Lib.hid h
    have hlen' := Lib.hid hlen
    clear h hlen
    generalize hz : checkN is = z
    have hz' := Lib.hid hz
    clear hz
    go_enter Tryd.func23, Tryd.ntmps23
    go_wp2
    go_loopw [3] (fun i wr => ∃ k : Nat, k ≤ len ∧ i = .int .i64 k ∧ Read w wr ∧ Aside (Upto is k)) (fun i _ => len - (intOf i).toNat)
    case atStart => exact ⟨0, Nat.zero_le _, rfl, Read.refl _, fun j hj => by omega⟩
    case round =>
      obtain ⟨k, hk, rfl, hrk, hup⟩ := hrel
      by_cases hlt : k < len
      · obtain ⟨b, off, rfl, hm⟩ : ∃ b off, a = some ⟨b, off, none⟩ ∧ ∀ j, j < len → InsAt w b (off + j * 4) (is.getD j default) := by
          rcases hI.out.2.2.2.2 with h0 | h1
          · omega
          · exact h1
        have hx := (hm k hlt).read hrk
        clear hm
        have hcon := fun w => may_any (is.getD k default) len w
        cases hb : mayB (is.getD k default) len with
        | false =>
          have hz : z = 130 := by rw [← hz'.out]; exact checkN_bad hL k (by rw [hlen'.out]; exact hlt) (by rw [hlen'.out]; exact hb)
          subst hz
          rw [hb] at hcon
          clear hb
          generalize is.getD k default = x at hx hcon
          obtain ⟨op, a, b', c⟩ := x
          simp only [I.val] at hcon
          obtain ⟨-, x0, x1, x2, x3⟩ := hx
          go_wp2_with (go_at_call 39; refine (hcon _).mono ?_; rintro e w' ⟨rfl, hr⟩)
          go_ret
          exact ⟨rfl, hrk.trans hr⟩
        | true =>
          have hup' : Upto is (k + 1) := fun j hj => by
            by_cases e : j = k
            · subst e; rw [hlen'.out]; exact hb
            · exact hup.out j (by omega)
          have hup' := Lib.hid hup'
          rw [hb] at hcon
          clear hb hup
          generalize is.getD k default = x at hx hcon
          obtain ⟨op, a, b', c⟩ := x
          simp only [I.val] at hcon
          obtain ⟨-, x0, x1, x2, x3⟩ := hx
          go_wp2_with (go_at_call 39; refine (hcon _).mono ?_; rintro e w' ⟨rfl, hr⟩)
          go_round
          case rel => exact ⟨k + 1, by omega, by go_num, hrk.trans hr, hup'.out⟩
          case measure => simp [intOf]; omega
      · have hz : z = 0 := by
          rw [← hz'.out]
          exact checkN_ok hL fun j hj => hup.out j (by have := hlen'.out; omega)
        subst hz
        go_wp2
        go_ret
        exact ⟨rfl, hrk⟩

theorem flawOf_ok (i : I) (n : Int) (h : mayB i n = true) (w : World) : Calls Tryd.prog 42 #[i.val, .int .i64 n] w fun e w' => e = .returned .nilIface ∧ Read w w' :=
  (flawOf_any i n w).mono fun _ _ ⟨he, hr⟩ => by rw [h] at he; exact ⟨he, hr⟩
theorem flawOf_bad (i : I) (n : Int) (h : mayB i n = false) (w : World) : Calls Tryd.prog 42 #[i.val, .int .i64 n] w fun e w' => ∃ s, e = .returned (.iface 100 (.agg #[.string s])) ∧ Read w w' :=
  (flawOf_any i n w).mono fun _ _ ⟨he, hr⟩ => by rw [h] at he; obtain ⟨s, hs⟩ := he; exact ⟨s, hs, hr⟩
theorem is_flaw_read (s : ByteArray) (b : Addr) (w : World) (h : ErrIs w b) :
    Calls Tryd.prog 37 #[.iface 100 (.agg #[.string s]), .iface 123 (.pointer (some b))] w fun e w' => e = .returned (.bool true) ∧ Read w w' :=
  (is_flaw s b w h).mono fun _ _ ⟨he, hw⟩ => ⟨he, by rw [hw]; exact Read.mk _ _⟩

set_option maxRecDepth 100000 in
set_option maxHeartbeats 2000000 in
theorem cCheck_any {w : World} {a : Option Addr} {len cap : Nat} {is : List I} {eb : Addr} (h : Inss w a len cap is) (he : ErrIs w eb) :
    Calls Tryd.prog 27 #[.slice a len cap] w fun e w' => e = .returned (.int .i64 (checkN is)) ∧ Read w w' := by
  have mixed := mixed
  have hlen := h.1
  have hmx : len ≤ 9223372036854775807 := by have := h.2.1; have := h.2.2.1; unfold maxLen at *; omega
  by_cases hl : 256 < len
  · rw [checkN_long (by omega)]
    clear hlen
    go_enter Tryd.func27, Tryd.ntmps27
    go_wp2
    go_ret
    exact ⟨rfl, Read.refl _⟩
  · have hl' : len ≤ 256 := by omega
    have hL : ¬ 256 < is.length := by omega
    have hI := Lib.hid h
    have hlen' := Lib.hid hlen
    have hE := Lib.hid he
    clear h hlen he
    generalize hz : checkN is = z
    have hz' := Lib.hid hz
    clear hz
    go_enter Tryd.func27, Tryd.ntmps27
    go_wp2
    go_loopw [10] (fun i wr => ∃ k : Nat, k ≤ len ∧ i = .int .i64 k ∧ Read w wr ∧ Aside (Upto is k)) (fun i _ => len - (intOf i).toNat)
    case atStart => exact ⟨0, Nat.zero_le _, rfl, Read.refl _, fun j hj => by omega⟩
    case round =>
      obtain ⟨k, hk, rfl, hrk, hup⟩ := hrel
      by_cases hlt : k < len
      · obtain ⟨b, off, rfl, hm⟩ : ∃ b off, a = some ⟨b, off, none⟩ ∧ ∀ j, j < len → InsAt w b (off + j * 4) (is.getD j default) := by
          rcases hI.out.2.2.2.2 with h0 | h1
          · omega
          · exact h1
        have hx := (hm k hlt).read hrk
        have hEr := hE.out.read hrk
        clear hm
        cases hb : mayB (is.getD k default) len with
        | false =>
          have hcon := fun w => flawOf_bad (is.getD k default) len hb w
          have hz : z = 130 := by rw [← hz'.out]; exact checkN_bad hL k (by rw [hlen'.out]; exact hlt) (by rw [hlen'.out]; exact hb)
          subst hz
          clear hb
          generalize is.getD k default = x at hx hcon
          obtain ⟨op, xa, xb, xc⟩ := x
          simp only [I.val] at hcon
          obtain ⟨-, x0, x1, x2, x3⟩ := hx
          go_upto_region 6 with (fail)
          clear x0 x1 x2 x3
          obtain ⟨hlt0, y0, y1, y2, y3⟩ := InsAt.mk wr op xa xb xc
          obtain ⟨hg0, hg1⟩ := hEr.read (Read.mk wr (.cells #[.int .i64 op, .int .i64 xa, .int .i64 xb, .int .i64 xc] 41))
          have hrd := hrk.trans (Read.mk wr (.cells #[.int .i64 op, .int .i64 xa, .int .i64 xb, .int .i64 xc] 41))
          simp only [Nat.zero_add] at y0 y1 y2 y3
          generalize wr.heap.size = B at y0 y1 y2 y3 hlt0 ⊢
          generalize wr.alloc (.cells #[.int .i64 op, .int .i64 xa, .int .i64 xb, .int .i64 xc] 41) = W at y0 y1 y2 y3 hlt0 hg0 hg1 hrd ⊢
          go_region_held3 (fun w' => w'.cell? ⟨B, 0, none⟩ = some (.int .i64 op) ∧ w'.cell? ⟨B, 1, none⟩ = some (.int .i64 xa) ∧ w'.cell? ⟨B, 2, none⟩ = some (.int .i64 xb) ∧ w'.cell? ⟨B, 3, none⟩ = some (.int .i64 xc) ∧ w'.cell? ⟨1, 0, none⟩ = some (.iface 123 (.pointer (some eb))) ∧ B < w'.heap.size ∧ 1 < w'.heap.size)
            (first | go_keep | (go_split_ands; refine ⟨hr2.cell ?_ ?_, hr2.cell ?_ ?_, hr2.cell ?_ ?_, hr2.cell ?_ ?_, hr2.cell ?_ ?_, Nat.lt_of_lt_of_le ?_ hr2.size, Nat.lt_of_lt_of_le ?_ hr2.size⟩ <;> assumption) | (go_split_ands; refine ⟨hr1.cell ?_ ?_, hr1.cell ?_ ?_, hr1.cell ?_ ?_, hr1.cell ?_ ?_, hr1.cell ?_ ?_, Nat.lt_of_lt_of_le ?_ hr1.size, Nat.lt_of_lt_of_le ?_ hr1.size⟩ <;> assumption))
            (first | (go_at_call 42; refine (hcon _).mono ?_; rintro e w1 ⟨s1, rfl, hr1⟩) | (go_at_call 37; refine (is_flaw_read s1 eb _ ?_).mono ?_; (go_split_ands; exact ⟨by assumption, by assumption⟩); rintro e w2 ⟨rfl, hr2⟩))
          go_wp2
          go_ret
          exact ⟨rfl, hrd.trans (Read.trans (Read.drew W 1) (hr1.trans hr2))⟩
        | true =>
          have hcon := fun w => flawOf_ok (is.getD k default) len hb w
          have hup' : Upto is (k + 1) := fun j hj => by
            by_cases e : j = k
            · subst e; rw [hlen'.out]; exact hb
            · exact hup.out j (by omega)
          have hup' := Lib.hid hup'
          clear hup
          clear hb
          generalize is.getD k default = x at hx hcon
          obtain ⟨op, xa, xb, xc⟩ := x
          simp only [I.val] at hcon
          obtain ⟨-, x0, x1, x2, x3⟩ := hx
          go_upto_region 6 with (fail)
          clear x0 x1 x2 x3
          obtain ⟨hlt0, y0, y1, y2, y3⟩ := InsAt.mk wr op xa xb xc
          obtain ⟨hg0, hg1⟩ := hEr.read (Read.mk wr (.cells #[.int .i64 op, .int .i64 xa, .int .i64 xb, .int .i64 xc] 41))
          have hrd := hrk.trans (Read.mk wr (.cells #[.int .i64 op, .int .i64 xa, .int .i64 xb, .int .i64 xc] 41))
          simp only [Nat.zero_add] at y0 y1 y2 y3
          generalize wr.heap.size = B at y0 y1 y2 y3 hlt0 ⊢
          generalize wr.alloc (.cells #[.int .i64 op, .int .i64 xa, .int .i64 xb, .int .i64 xc] 41) = W at y0 y1 y2 y3 hlt0 hg0 hg1 hrd ⊢
          go_region_held3 (fun w' => w'.cell? ⟨B, 0, none⟩ = some (.int .i64 op) ∧ w'.cell? ⟨B, 1, none⟩ = some (.int .i64 xa) ∧ w'.cell? ⟨B, 2, none⟩ = some (.int .i64 xb) ∧ w'.cell? ⟨B, 3, none⟩ = some (.int .i64 xc) ∧ w'.cell? ⟨1, 0, none⟩ = some (.iface 123 (.pointer (some eb))) ∧ B < w'.heap.size ∧ 1 < w'.heap.size)
            (first | go_keep | (go_split_ands; refine ⟨hr1.cell ?_ ?_, hr1.cell ?_ ?_, hr1.cell ?_ ?_, hr1.cell ?_ ?_, hr1.cell ?_ ?_, Nat.lt_of_lt_of_le ?_ hr1.size, Nat.lt_of_lt_of_le ?_ hr1.size⟩ <;> assumption))
            (first | (go_at_call 42; refine (hcon _).mono ?_; rintro e w1 ⟨rfl, hr1⟩) | (go_at_call 37; refine (is_nil eb _).mono ?_; rintro e w2 ⟨rfl, rfl⟩))
          go_wp2
          go_round
          case rel => exact ⟨k + 1, by omega, by go_num, hrd.trans (Read.trans (Read.drew W 1) hr1), hup'.out⟩
          case measure => simp [intOf]; omega
      · have hz : z = 0 := by
          rw [← hz'.out]
          exact checkN_ok hL fun j hj => hup.out j (by have := hlen'.out; omega)
        subst hz
        go_wp2
        go_ret
        exact ⟨rfl, hrk⟩

end Go.Proofs.YtofkfajcibdneaaDoor
