/-
  errors.Is by its contracts, for what the program hands it: nil, and a flaw, which unwraps to the one sentinel.
  A slice of instructions that can be read, and the contract of Check, the program's and the document's, over each.
-/
import Derived.Test.YtminfmjgmmkaoaaGreatDoorCode5
import Derived.LaidEql
import Derived.Stop.Asserts
import Derived.RowKitTokens
namespace Go.Proofs.YtminfmjgmmkaoaaGreatDoor
open Go.RowKit Go.Extern.Stop Go.Stop Go.Extern Go.Sort

theorem isTypeOf (v : Value) (w : World) : (Extern.ReflectliteType.typeOf #[.iface 204 v]).run Tryz.prog w = .ok (.iface 139 (.agg #[.pointer (some ⟨2, 204, none⟩)])) w := by kernel_rfl
/-- The model's own entry for rtype's Comparable. -/
noncomputable def compM : Array Value → Sem Value := (Extern.find Tryz.f146).getD fun _ => pure undef
theorem isComparable (w : World) : (compM #[.agg #[.pointer (some ⟨2, 204, none⟩)]]).run Tryz.prog w = .ok (.bool true) w := by kernel_rfl
theorem isMethodComparable (v : Value) (w : World) : (Go.method 337 139 v "Comparable").run Tryz.prog w = .ok (146, v) w := by kernel_rfl
theorem isComp : (Tryz.prog.info? 204).map (·.comparable) = some true := by kernel_rfl
theorem isSize : (Tryz.prog.info? 225).map (·.size) = some 1 := by kernel_rfl
theorem noIsE (v : Value) (xT : TypeId) (w : World) : (Instr.typeAssert (.iface 204 v) xT 141 true).run Tryz.prog w = .ok (.tuple #[.nilIface, .bool false]) w := run_typeAssert_lacksB Tryz.underlying141 (by kernel_rfl) (by kernel_rfl) v xT w
theorem noIsW (v : Value) (xT : TypeId) (w : World) : (Instr.typeAssert (.iface 119 v) xT 141 true).run Tryz.prog w = .ok (.tuple #[.nilIface, .bool false]) w := run_typeAssert_lacksB Tryz.underlying141 (by kernel_rfl) (by kernel_rfl) v xT w
theorem hasUnwrapW (v : Value) (xT : TypeId) (w : World) : (Instr.typeAssert (.iface 119 v) xT 144 true).run Tryz.prog w = .ok (.tuple #[.iface 119 v, .bool true]) w := run_typeAssert_hasB Tryz.underlying144 (by kernel_rfl) v xT w
theorem methodUnwrap (v : Value) (w : World) : (Go.method 337 119 v "Unwrap").run Tryz.prog w = .ok (143, v) w := by kernel_rfl

/-- The sentinel lies in its variable. -/
def ErrIs (w : World) (b : Addr) : Prop := 0 < w.heap.size ∧ w.cell? ⟨0, 0, none⟩ = some (.iface 204 (.pointer (some b)))
theorem ErrIs.read {w w' : World} {b : Addr} (h : ErrIs w b) (hr : Read w w') : ErrIs w' b := ⟨Nat.lt_of_lt_of_le h.1 hr.size, hr.cell h.1 h.2⟩
theorem ErrIs.below {w w' : World} {b : Addr} (h : ErrIs w b) (hb : Below w.heap.size w w') : ErrIs w' b := ⟨Nat.lt_of_lt_of_le h.1 hb.size, by rw [hb.cell h.1]; exact h.2⟩

theorem unwrap_flaw (s : ByteArray) (b : Addr) (w : World) (h : ErrIs w b) : Calls Tryz.prog 143 #[.agg #[.string s]] w fun e w' => e = .returned (.iface 204 (.pointer (some b))) ∧ w' = w.alloc (.cells #[.string s] 119) := by
  obtain ⟨h0, h1⟩ := h
  go_enter Tryz.func143, Tryz.ntmps143
  go_wp2
  go_ret
  exact ⟨rfl, rfl⟩
theorem is_nil (b : Addr) (w : World) : Calls Tryz.prog 39 #[.nilIface, .iface 204 (.pointer (some b))] w fun e w' => e = .returned (.bool false) ∧ w = w' := by
  have hn := run_eql_iface_nil_left (P := Tryz.prog) w 204 (.pointer (some b)) Tryz.underlying88
  go_enter Tryz.func39, Tryz.ntmps39
  go_wp2
  go_ret
  exact ⟨rfl, rfl⟩
set_option maxRecDepth 100000 in
theorem is_in (s : ByteArray) (b : Addr) (w : World) (h : ErrIs w b) :
    Calls Tryz.prog 58 #[.iface 119 (.agg #[.string s]), .iface 204 (.pointer (some b)), .bool true] w fun e w' => e = .returned (.bool true) ∧ w' = w.alloc (.cells #[.string s] 119) := by
  obtain ⟨i, hi, hcmp⟩ := Option.map_eq_some_iff.1 isComp
  obtain ⟨j, hj, hjs⟩ := Option.map_eq_some_iff.1 isSize
  have nE := noIsE
  have nW := noIsW
  have uW := hasUnwrapW
  have mU := methodUnwrap
  have heq := fun w => run_eql_iface_ptr_same (P := Tryz.prog) w b Tryz.underlying88 Tryz.underlying204 hi hcmp hj
  have hty := run_eql_iface_types (P := Tryz.prog) 119 204 (.agg #[.string s]) (.pointer (some b)) Tryz.underlying88 (by decide) w
  have hu := unwrap_flaw s b w h
  go_enter Tryz.func58, Tryz.ntmps58
  go_wp2
  refine wp_loop_rounds 2 ?_
  rw [rounds_succ]
  go_wp2_with (go_at_call 143; refine hu.mono ?_; rintro e w' ⟨rfl, rfl⟩)
  rw [rounds_succ]
  go_wp2
  go_ret
  exact ⟨rfl, rfl⟩
set_option maxRecDepth 100000 in
theorem is_flaw (s : ByteArray) (b : Addr) (w : World) (h : ErrIs w b) :
    Calls Tryz.prog 39 #[.iface 119 (.agg #[.string s]), .iface 204 (.pointer (some b))] w fun e w' => e = .returned (.bool true) ∧ w' = w.alloc (.cells #[.string s] 119) := by
  have h8 := @run_callFunc_extern Tryz.prog 57 _ Extern.ReflectliteType.typeOf Tryz.func57 (by kernel_rfl) (by kernel_rfl) (by kernel_rfl) (by kernel_rfl)
  have h32 := @run_callFunc_extern Tryz.prog 146 _ compM Tryz.func146 (by kernel_rfl) (by kernel_rfl) (by kernel_rfl) (by kernel_rfl)
  have tT := isTypeOf
  have cT := isComparable
  have mR := isMethodComparable
  have hi := is_in s b w h
  go_enter Tryz.func39, Tryz.ntmps39
  go_wp2_with (go_at_call 58; refine hi.mono ?_; rintro e w' ⟨rfl, rfl⟩)
  go_ret
  exact ⟨rfl, rfl⟩

end Go.Proofs.YtminfmjgmmkaoaaGreatDoor
namespace Go.Proofs.YtminfmjgmmkaoaaGreatDoor
open Go.ChangeShapes Go.WideShapes Go.ChangeAt Go.RowKit Go.Sort
set_option linter.unusedVariables false

def I.fits (i : I) : Prop := (Lit.int .i64 i.op).wf = true ∧ (Lit.int .i64 i.a).wf = true ∧ (Lit.int .i64 i.b).wf = true ∧ (Lit.int .i64 i.c).wf = true
/-- A slice value reads as the instructions is. -/
def Inss (w : World) (a : Option Addr) (len cap : Nat) (is : List I) : Prop :=
  is.length = len ∧ len ≤ cap ∧ cap ≤ maxLen ∧ (∀ i ∈ is, i.fits) ∧ (len = 0 ∨ ∃ b off, a = some ⟨b, off, none⟩ ∧ ∀ k, k < len → InsAt w b (off + k * 4) (is.getD k default))
theorem Inss.read {w w' : World} {a : Option Addr} {len cap : Nat} {is : List I} (h : Inss w a len cap is) (hr : Read w w') : Inss w' a len cap is := by
  obtain ⟨h1, h2, h3, hf, h4⟩ := h
  refine ⟨h1, h2, h3, hf, h4.imp id ?_⟩
  rintro ⟨b, off, ha, hm⟩
  exact ⟨b, off, ha, fun i hi => (hm i hi).read hr⟩
theorem InsAt.below {w w' : World} {b o : Nat} {i : I} (h : InsAt w b o i) (hb : Below w.heap.size w w') : InsAt w' b o i := by
  obtain ⟨hlt, h0, h1, h2, h3⟩ := h
  have hc : ∀ {c : Nat} {v : Value}, w.cell? ⟨b, c, none⟩ = some v → w'.cell? ⟨b, c, none⟩ = some v := fun h => by rw [hb.cell hlt]; exact h
  exact ⟨Nat.lt_of_lt_of_le hlt hb.size, hc h0, hc h1, hc h2, hc h3⟩
theorem Inss.below {w w' : World} {a : Option Addr} {len cap : Nat} {is : List I} (h : Inss w a len cap is) (hb : Below w.heap.size w w') : Inss w' a len cap is := by
  obtain ⟨h1, h2, h3, hf, h4⟩ := h
  refine ⟨h1, h2, h3, hf, h4.imp id ?_⟩
  rintro ⟨b, off, ha, hm⟩
  exact ⟨b, off, ha, fun i hi => (hm i hi).below hb⟩

/-- What Check answers. -/
def checkN (is : List I) : Int := if 256 < is.length then 2 else if is.all (fun i => mayB i is.length) then 0 else 130
theorem checkN_long {is : List I} (h : 256 < is.length) : checkN is = 2 := by simp [checkN, h]
theorem checkN_bad {is : List I} (h : ¬ 256 < is.length) (k : Nat) (hk : k < is.length) (hb : mayB (is.getD k default) is.length = false) : checkN is = 130 := by
  have : is.all (fun i => mayB i is.length) = false := by
    rw [List.all_eq_false]
    refine ⟨is.getD k default, ?_, by rw [hb]; decide⟩
    simp only [List.getD_eq_getElem?_getD, List.getElem?_eq_getElem hk, Option.getD_some]
    exact List.getElem_mem hk
  unfold checkN
  rw [if_neg h, if_neg (by simp [this])]
theorem checkN_ok {is : List I} (h : ¬ 256 < is.length) (ha : ∀ k, k < is.length → mayB (is.getD k default) is.length = true) : checkN is = 0 := by
  have : is.all (fun i => mayB i is.length) = true := by
    rw [List.all_eq_true]
    intro i hi
    obtain ⟨k, hk, rfl⟩ := List.getElem_of_mem hi
    have := ha k hk
    simpa [List.getD_eq_getElem?_getD, List.getElem?_eq_getElem hk] using this
  unfold checkN
  rw [if_neg h, if_pos this]

/-- All up to k may be. -/
def Upto (is : List I) (k : Nat) : Prop := ∀ j, j < k → mayB (is.getD j default) is.length = true

theorem flawOf_ok (i : I) (n : Int) (h : mayB i n = true) (w : World) : Calls Tryz.prog 40 #[i.val, .int .i64 n] w fun e w' => e = .returned .nilIface ∧ Read w w' :=
  (flawOf_any i n w).mono fun _ _ ⟨he, hr⟩ => by rw [h] at he; exact ⟨he, hr⟩
theorem flawOf_bad (i : I) (n : Int) (h : mayB i n = false) (w : World) : Calls Tryz.prog 40 #[i.val, .int .i64 n] w fun e w' => ∃ s, e = .returned (.iface 119 (.agg #[.string s])) ∧ Read w w' :=
  (flawOf_any i n w).mono fun _ _ ⟨he, hr⟩ => by rw [h] at he; obtain ⟨s, hs⟩ := he; exact ⟨s, hs, hr⟩
theorem is_flaw_read (s : ByteArray) (b : Addr) (w : World) (h : ErrIs w b) :
    Calls Tryz.prog 39 #[.iface 119 (.agg #[.string s]), .iface 204 (.pointer (some b))] w fun e w' => e = .returned (.bool true) ∧ Read w w' :=
  (is_flaw s b w h).mono fun _ _ ⟨he, hw⟩ => ⟨he, by rw [hw]; exact Read.mk _ _⟩

set_option maxRecDepth 100000 in
set_option maxHeartbeats 2000000 in
theorem cCheck_any {w : World} {a : Option Addr} {len cap : Nat} {is : List I} {eb : Addr} (h : Inss w a len cap is) (he : ErrIs w eb) :
    Calls Tryz.prog 26 #[.slice a len cap] w fun e w' => e = .returned (.int .i64 (checkN is)) ∧ Read w w' := by
  have mixed := mixed
  have hlen := h.1
  have hmx : len ≤ 9223372036854775807 := by have := h.2.1; have := h.2.2.1; unfold maxLen at *; omega
  by_cases hl : 256 < len
  · rw [checkN_long (by omega)]
    clear hlen
    go_enter Tryz.func26, Tryz.ntmps26
    go_wp2
    go_ret
    exact ⟨rfl, Read.refl _⟩
  · have hl' : len ≤ 256 := by omega
    have hL : ¬ 256 < is.length := by omega
    have hI := Lib.hid h
    have hlen' := Lib.hid hlen
    have hE := Lib.hid he
    clear h hlen he
    generalize hz : checkN is = z
    have hz' := Lib.hid hz
    clear hz
    go_enter Tryz.func26, Tryz.ntmps26
    go_wp2
    go_loopw [10] (fun i wr => ∃ k : Nat, k ≤ len ∧ i = .int .i64 k ∧ Read w wr ∧ Aside (Upto is k)) (fun i _ => len - (intOf i).toNat)
    case atStart => exact ⟨0, Nat.zero_le _, rfl, Read.refl _, fun j hj => by omega⟩
    case round =>
      obtain ⟨k, hk, rfl, hrk, hup⟩ := hrel
      by_cases hlt : k < len
      · obtain ⟨b, off, rfl, hm⟩ : ∃ b off, a = some ⟨b, off, none⟩ ∧ ∀ j, j < len → InsAt w b (off + j * 4) (is.getD j default) := by
          rcases hI.out.2.2.2.2 with h0 | h1
          · omega
          · exact h1
        have hx := (hm k hlt).read hrk
        have hEr := hE.out.read hrk
        clear hm
        cases hb : mayB (is.getD k default) len with
        | false =>
          have hcon := fun w => flawOf_bad (is.getD k default) len hb w
          have hz : z = 130 := by rw [← hz'.out]; exact checkN_bad hL k (by rw [hlen'.out]; exact hlt) (by rw [hlen'.out]; exact hb)
          subst hz
          clear hb
          generalize is.getD k default = x at hx hcon
          obtain ⟨op, xa, xb, xc⟩ := x
          simp only [I.val] at hcon
          obtain ⟨-, x0, x1, x2, x3⟩ := hx
          go_upto_region 6 with (fail)
          clear x0 x1 x2 x3
          obtain ⟨hlt0, y0, y1, y2, y3⟩ := InsAt.mk wr op xa xb xc
          obtain ⟨hg0, hg1⟩ := hEr.read (Read.mk wr (.cells #[.int .i64 op, .int .i64 xa, .int .i64 xb, .int .i64 xc] 62))
          have hrd := hrk.trans (Read.mk wr (.cells #[.int .i64 op, .int .i64 xa, .int .i64 xb, .int .i64 xc] 62))
          simp only [Nat.zero_add] at y0 y1 y2 y3
          generalize wr.heap.size = B at y0 y1 y2 y3 hlt0 ⊢
          generalize wr.alloc (.cells #[.int .i64 op, .int .i64 xa, .int .i64 xb, .int .i64 xc] 62) = W at y0 y1 y2 y3 hlt0 hg0 hg1 hrd ⊢
          go_region_held3 (fun w' => w'.cell? ⟨B, 0, none⟩ = some (.int .i64 op) ∧ w'.cell? ⟨B, 1, none⟩ = some (.int .i64 xa) ∧ w'.cell? ⟨B, 2, none⟩ = some (.int .i64 xb) ∧ w'.cell? ⟨B, 3, none⟩ = some (.int .i64 xc) ∧ w'.cell? ⟨0, 0, none⟩ = some (.iface 204 (.pointer (some eb))) ∧ B < w'.heap.size ∧ 0 < w'.heap.size)
            (first | go_keep | (go_split_ands; refine ⟨hr2.cell ?_ ?_, hr2.cell ?_ ?_, hr2.cell ?_ ?_, hr2.cell ?_ ?_, hr2.cell ?_ ?_, Nat.lt_of_lt_of_le ?_ hr2.size, Nat.lt_of_lt_of_le ?_ hr2.size⟩ <;> assumption) | (go_split_ands; refine ⟨hr1.cell ?_ ?_, hr1.cell ?_ ?_, hr1.cell ?_ ?_, hr1.cell ?_ ?_, hr1.cell ?_ ?_, Nat.lt_of_lt_of_le ?_ hr1.size, Nat.lt_of_lt_of_le ?_ hr1.size⟩ <;> assumption))
            (first | (go_at_call 40; refine (hcon _).mono ?_; rintro e w1 ⟨s1, rfl, hr1⟩) | (go_at_call 39; refine (is_flaw_read s1 eb _ ?_).mono ?_; (go_split_ands; exact ⟨by assumption, by assumption⟩); rintro e w2 ⟨rfl, hr2⟩))
          go_wp2
          go_ret
          exact ⟨rfl, hrd.trans (Read.trans (Read.drew W 1) (hr1.trans hr2))⟩
        | true =>
          have hcon := fun w => flawOf_ok (is.getD k default) len hb w
          have hup' : Upto is (k + 1) := fun j hj => by
            by_cases e : j = k
            · subst e; rw [hlen'.out]; exact hb
            · exact hup.out j (by omega)
          have hup' := Lib.hid hup'
          clear hup
          clear hb
          generalize is.getD k default = x at hx hcon
          obtain ⟨op, xa, xb, xc⟩ := x
          simp only [I.val] at hcon
          obtain ⟨-, x0, x1, x2, x3⟩ := hx
          go_upto_region 6 with (fail)
          clear x0 x1 x2 x3
          obtain ⟨hlt0, y0, y1, y2, y3⟩ := InsAt.mk wr op xa xb xc
          obtain ⟨hg0, hg1⟩ := hEr.read (Read.mk wr (.cells #[.int .i64 op, .int .i64 xa, .int .i64 xb, .int .i64 xc] 62))
          have hrd := hrk.trans (Read.mk wr (.cells #[.int .i64 op, .int .i64 xa, .int .i64 xb, .int .i64 xc] 62))
          simp only [Nat.zero_add] at y0 y1 y2 y3
          generalize wr.heap.size = B at y0 y1 y2 y3 hlt0 ⊢
          generalize wr.alloc (.cells #[.int .i64 op, .int .i64 xa, .int .i64 xb, .int .i64 xc] 62) = W at y0 y1 y2 y3 hlt0 hg0 hg1 hrd ⊢
          go_region_held3 (fun w' => w'.cell? ⟨B, 0, none⟩ = some (.int .i64 op) ∧ w'.cell? ⟨B, 1, none⟩ = some (.int .i64 xa) ∧ w'.cell? ⟨B, 2, none⟩ = some (.int .i64 xb) ∧ w'.cell? ⟨B, 3, none⟩ = some (.int .i64 xc) ∧ w'.cell? ⟨0, 0, none⟩ = some (.iface 204 (.pointer (some eb))) ∧ B < w'.heap.size ∧ 0 < w'.heap.size)
            (first | go_keep | (go_split_ands; refine ⟨hr1.cell ?_ ?_, hr1.cell ?_ ?_, hr1.cell ?_ ?_, hr1.cell ?_ ?_, hr1.cell ?_ ?_, Nat.lt_of_lt_of_le ?_ hr1.size, Nat.lt_of_lt_of_le ?_ hr1.size⟩ <;> assumption))
            (first | (go_at_call 40; refine (hcon _).mono ?_; rintro e w1 ⟨rfl, hr1⟩) | (go_at_call 39; refine (is_nil eb _).mono ?_; rintro e w2 ⟨rfl, rfl⟩))
          go_wp2
          go_round
          case rel => exact ⟨k + 1, by omega, by go_num, hrd.trans (Read.trans (Read.drew W 1) hr1), hup'.out⟩
          case measure => simp [intOf]; omega
      · have hz : z = 0 := by
          rw [← hz'.out]
          exact checkN_ok hL fun j hj => hup.out j (by have := hlen'.out; omega)
        subst hz
        go_wp2
        go_ret
        exact ⟨rfl, hrk⟩

end Go.Proofs.YtminfmjgmmkaoaaGreatDoor
