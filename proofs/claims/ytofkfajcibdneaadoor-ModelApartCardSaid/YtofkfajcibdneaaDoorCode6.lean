
/-
  errors.Is by its contracts, for what the program hands it: nil, and a flaw, which unwraps to the one sentinel.
-/
import Derived.Test.YtofkfajcibdneaaDoorCode4
import Derived.LaidEql
import Derived.Stop.Asserts
import Derived.RowKitTokens
namespace Go.Proofs.YtofkfajcibdneaaDoor
open Go.RowKit Go.Extern.Stop Go.Stop Go.Extern Go.Sort

theorem isTypeOf (v : Value) (w : World) : (Extern.ReflectliteType.typeOf #[.iface 123 v]).run Tryd.prog w = .ok (.iface 103 (.agg #[.pointer (some ⟨6, 123, none⟩)])) w := by kernel_rfl
/-- The model's own entry for rtype's Comparable. -/
noncomputable def compM : Array Value → Sem Value := (Extern.find Tryd.f90).getD fun _ => pure undef
theorem isComparable (w : World) : (compM #[.agg #[.pointer (some ⟨6, 123, none⟩)]]).run Tryd.prog w = .ok (.bool true) w := by kernel_rfl
theorem isMethodComparable (v : Value) (w : World) : (Go.method 257 103 v "Comparable").run Tryd.prog w = .ok (90, v) w := by kernel_rfl
theorem isComp : (Tryd.prog.info? 123).map (·.comparable) = some true := by kernel_rfl
theorem isSize : (Tryd.prog.info? 145).map (·.size) = some 1 := by kernel_rfl
theorem noIsE (v : Value) (xT : TypeId) (w : World) : (Instr.typeAssert (.iface 123 v) xT 115 true).run Tryd.prog w = .ok (.tuple #[.nilIface, .bool false]) w := run_typeAssert_lacksB Tryd.underlying115 (by kernel_rfl) (by kernel_rfl) v xT w
theorem noIsW (v : Value) (xT : TypeId) (w : World) : (Instr.typeAssert (.iface 100 v) xT 115 true).run Tryd.prog w = .ok (.tuple #[.nilIface, .bool false]) w := run_typeAssert_lacksB Tryd.underlying115 (by kernel_rfl) (by kernel_rfl) v xT w
theorem hasUnwrapW (v : Value) (xT : TypeId) (w : World) : (Instr.typeAssert (.iface 100 v) xT 110 true).run Tryd.prog w = .ok (.tuple #[.iface 100 v, .bool true]) w := run_typeAssert_hasB Tryd.underlying110 (by kernel_rfl) v xT w
theorem methodUnwrap (v : Value) (w : World) : (Go.method 257 100 v "Unwrap").run Tryd.prog w = .ok (87, v) w := by kernel_rfl

/-- The sentinel lies in its variable. -/
def ErrIs (w : World) (b : Addr) : Prop := 1 < w.heap.size ∧ w.cell? ⟨1, 0, none⟩ = some (.iface 123 (.pointer (some b)))
theorem ErrIs.read {w w' : World} {b : Addr} (h : ErrIs w b) (hr : Read w w') : ErrIs w' b := ⟨Nat.lt_of_lt_of_le h.1 hr.size, hr.cell h.1 h.2⟩
theorem ErrIs.below {w w' : World} {b : Addr} (h : ErrIs w b) (hb : Below w.heap.size w w') : ErrIs w' b := ⟨Nat.lt_of_lt_of_le h.1 hb.size, by rw [hb.cell h.1]; exact h.2⟩

theorem unwrap_flaw (s : ByteArray) (b : Addr) (w : World) (h : ErrIs w b) : Calls Tryd.prog 87 #[.agg #[.string s]] w fun e w' => e = .returned (.iface 123 (.pointer (some b))) ∧ w' = w.alloc (.cells #[.string s] 100) := by
  obtain ⟨h0, h1⟩ := h
  go_enter Tryd.func87, Tryd.ntmps87
  go_wp2
  go_ret
  exact ⟨rfl, rfl⟩
theorem is_nil (b : Addr) (w : World) : Calls Tryd.prog 37 #[.nilIface, .iface 123 (.pointer (some b))] w fun e w' => e = .returned (.bool false) ∧ w = w' := by
  have hn := run_eql_iface_nil_left (P := Tryd.prog) w 123 (.pointer (some b)) Tryd.underlying60
  go_enter Tryd.func37, Tryd.ntmps37
  go_wp2
  go_ret
  exact ⟨rfl, rfl⟩
set_option maxRecDepth 100000 in
theorem is_in (s : ByteArray) (b : Addr) (w : World) (h : ErrIs w b) :
    Calls Tryd.prog 48 #[.iface 100 (.agg #[.string s]), .iface 123 (.pointer (some b)), .bool true] w fun e w' => e = .returned (.bool true) ∧ w' = w.alloc (.cells #[.string s] 100) := by
  obtain ⟨i, hi, hcmp⟩ := Option.map_eq_some_iff.1 isComp
  obtain ⟨j, hj, hjs⟩ := Option.map_eq_some_iff.1 isSize
  have nE := noIsE
  have nW := noIsW
  have uW := hasUnwrapW
  have mU := methodUnwrap
  have heq := fun w => run_eql_iface_ptr_same (P := Tryd.prog) w b Tryd.underlying60 Tryd.underlying123 hi hcmp hj
  have hty := run_eql_iface_types (P := Tryd.prog) 100 123 (.agg #[.string s]) (.pointer (some b)) Tryd.underlying60 (by decide) w
  have hu := unwrap_flaw s b w h
  go_enter Tryd.func48, Tryd.ntmps48
  go_wp2
  refine wp_loop_rounds 2 ?_
  rw [rounds_succ]
  go_wp2_with (go_at_call 87; refine hu.mono ?_; rintro e w' ⟨rfl, rfl⟩)
  rw [rounds_succ]
  go_wp2
  go_ret
  exact ⟨rfl, rfl⟩
set_option maxRecDepth 100000 in
theorem is_flaw (s : ByteArray) (b : Addr) (w : World) (h : ErrIs w b) :
    Calls Tryd.prog 37 #[.iface 100 (.agg #[.string s]), .iface 123 (.pointer (some b))] w fun e w' => e = .returned (.bool true) ∧ w' = w.alloc (.cells #[.string s] 100) := by
  have h8 := @run_callFunc_extern Tryd.prog 47 _ Extern.ReflectliteType.typeOf Tryd.func47 (by kernel_rfl) (by kernel_rfl) (by kernel_rfl) (by kernel_rfl)
  have h32 := @run_callFunc_extern Tryd.prog 90 _ compM Tryd.func90 (by kernel_rfl) (by kernel_rfl) (by kernel_rfl) (by kernel_rfl)
  have tT := isTypeOf
  have cT := isComparable
  have mR := isMethodComparable
  have hi := is_in s b w h
  go_enter Tryd.func37, Tryd.ntmps37
  go_wp2_with (go_at_call 48; refine hi.mono ?_; rintro e w' ⟨rfl, rfl⟩)
  go_ret
  exact ⟨rfl, rfl⟩

end Go.Proofs.YtofkfajcibdneaaDoor
