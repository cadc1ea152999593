/-
  errors.Is by its contracts, for what the program hands it: nil, and a flaw, which unwraps to the one sentinel.
-/
import Derived.Test.YtpbmfhbcnllkaaaDoorCode4
import Derived.LaidEql
import Derived.Stop.Asserts
import Derived.RowKitTokens
namespace Go.Proofs.YtpbmfhbcnllkaaaDoor
open Go.RowKit Go.Extern.Stop Go.Stop Go.Extern Go.Sort

theorem isTypeOf (v : Value) (w : World) : (Extern.ReflectliteType.typeOf #[.iface 97 v]).run Tryd.prog w = .ok (.iface 72 (.agg #[.pointer (some ⟨4, 97, none⟩)])) w := by kernel_rfl
/-- The model's own entry for rtype's Comparable. -/
noncomputable def compM : Array Value → Sem Value := (Extern.find Tryd.f72).getD fun _ => pure undef
theorem isComparable (w : World) : (compM #[.agg #[.pointer (some ⟨4, 97, none⟩)]]).run Tryd.prog w = .ok (.bool true) w := by kernel_rfl
theorem isMethodComparable (v : Value) (w : World) : (Go.method 234 72 v "Comparable").run Tryd.prog w = .ok (72, v) w := by kernel_rfl
theorem isComp : (Tryd.prog.info? 97).map (·.comparable) = some true := by kernel_rfl
theorem isSize : (Tryd.prog.info? 122).map (·.size) = some 1 := by kernel_rfl
theorem noIsE (v : Value) (xT : TypeId) (w : World) : (Instr.typeAssert (.iface 97 v) xT 74 true).run Tryd.prog w = .ok (.tuple #[.nilIface, .bool false]) w := run_typeAssert_lacksB Tryd.underlying74 (by kernel_rfl) (by kernel_rfl) v xT w
theorem noIsW (v : Value) (xT : TypeId) (w : World) : (Instr.typeAssert (.iface 66 v) xT 74 true).run Tryd.prog w = .ok (.tuple #[.nilIface, .bool false]) w := run_typeAssert_lacksB Tryd.underlying74 (by kernel_rfl) (by kernel_rfl) v xT w
theorem hasUnwrapW (v : Value) (xT : TypeId) (w : World) : (Instr.typeAssert (.iface 66 v) xT 77 true).run Tryd.prog w = .ok (.tuple #[.iface 66 v, .bool true]) w := run_typeAssert_hasB Tryd.underlying77 (by kernel_rfl) v xT w
theorem methodUnwrap (v : Value) (w : World) : (Go.method 234 66 v "Unwrap").run Tryd.prog w = .ok (68, v) w := by kernel_rfl

/-- The sentinel lies in its variable. -/
def ErrIs (w : World) (b : Addr) : Prop := 0 < w.heap.size ∧ w.cell? ⟨0, 0, none⟩ = some (.iface 97 (.pointer (some b)))
theorem ErrIs.read {w w' : World} {b : Addr} (h : ErrIs w b) (hr : Read w w') : ErrIs w' b := ⟨Nat.lt_of_lt_of_le h.1 hr.size, hr.cell h.1 h.2⟩
theorem ErrIs.below {w w' : World} {b : Addr} (h : ErrIs w b) (hb : Below w.heap.size w w') : ErrIs w' b := ⟨Nat.lt_of_lt_of_le h.1 hb.size, by rw [hb.cell h.1]; exact h.2⟩

theorem unwrap_flaw (s : ByteArray) (b : Addr) (w : World) (h : ErrIs w b) : Calls Tryd.prog 68 #[.agg #[.string s]] w fun e w' => e = .returned (.iface 97 (.pointer (some b))) ∧ w' = w.alloc (.cells #[.string s] 66) := by
  obtain ⟨h0, h1⟩ := h
  go_enter Tryd.func68, Tryd.ntmps68
  go_wp2
  go_ret
  exact ⟨rfl, rfl⟩
theorem is_nil (b : Addr) (w : World) : Calls Tryd.prog 21 #[.nilIface, .iface 97 (.pointer (some b))] w fun e w' => e = .returned (.bool false) ∧ w = w' := by
  have hn := run_eql_iface_nil_left (P := Tryd.prog) w 97 (.pointer (some b)) Tryd.underlying47
  go_enter Tryd.func21, Tryd.ntmps21
  go_wp2
  go_ret
  exact ⟨rfl, rfl⟩
set_option maxRecDepth 100000 in
theorem is_in (s : ByteArray) (b : Addr) (w : World) (h : ErrIs w b) :
    Calls Tryd.prog 31 #[.iface 66 (.agg #[.string s]), .iface 97 (.pointer (some b)), .bool true] w fun e w' => e = .returned (.bool true) ∧ w' = w.alloc (.cells #[.string s] 66) := by
  obtain ⟨i, hi, hcmp⟩ := Option.map_eq_some_iff.1 isComp
  obtain ⟨j, hj, hjs⟩ := Option.map_eq_some_iff.1 isSize
  have nE := noIsE
  have nW := noIsW
  have uW := hasUnwrapW
  have mU := methodUnwrap
  have heq := fun w => run_eql_iface_ptr_same (P := Tryd.prog) w b Tryd.underlying47 Tryd.underlying97 hi hcmp hj
  have hty := run_eql_iface_types (P := Tryd.prog) 66 97 (.agg #[.string s]) (.pointer (some b)) Tryd.underlying47 (by decide) w
  have hu := unwrap_flaw s b w h
  go_enter Tryd.func31, Tryd.ntmps31
  go_wp2
  refine wp_loop_rounds 2 ?_
  rw [rounds_succ]
  go_wp2_with (go_at_call 68; refine hu.mono ?_; rintro e w' ⟨rfl, rfl⟩)
  rw [rounds_succ]
  go_wp2
  go_ret
  exact ⟨rfl, rfl⟩
set_option maxRecDepth 100000 in
theorem is_flaw (s : ByteArray) (b : Addr) (w : World) (h : ErrIs w b) :
    Calls Tryd.prog 21 #[.iface 66 (.agg #[.string s]), .iface 97 (.pointer (some b))] w fun e w' => e = .returned (.bool true) ∧ w' = w.alloc (.cells #[.string s] 66) := by
  have h8 := @run_callFunc_extern Tryd.prog 30 _ Extern.ReflectliteType.typeOf Tryd.func30 (by kernel_rfl) (by kernel_rfl) (by kernel_rfl) (by kernel_rfl)
  have h32 := @run_callFunc_extern Tryd.prog 72 _ compM Tryd.func72 (by kernel_rfl) (by kernel_rfl) (by kernel_rfl) (by kernel_rfl)
  have tT := isTypeOf
  have cT := isComparable
  have mR := isMethodComparable
  have hi := is_in s b w h
  go_enter Tryd.func21, Tryd.ntmps21
  go_wp2_with (go_at_call 31; refine hi.mono ?_; rintro e w' ⟨rfl, rfl⟩)
  go_ret
  exact ⟨rfl, rfl⟩

end Go.Proofs.YtpbmfhbcnllkaaaDoor
