/-
  The map of the sendings of a ladder.
-/
import Derived.Test.YtcfpfbemmklbaaaLDT
import Derived.Test.YtcfpfbemmklbaaaQT
import Derived.Maps.OwnSet
import Derived.DeepKeys4
namespace Go.Proofs.Ytcfpfbemmklbaaa
open Go.ChangeShapes Go.WideShapes Go.ChangeAt Go.Shelf Go.RowKit Go.Lib Go.Sort Go.Deep Go.Maps
set_option linter.unusedVariables false

theorem KeptOff.turned {w w' : World} {b : Nat} (h : w.mapTurned w' b) : KeptOff (fun k => k = b) w w' :=
  ⟨h.grown.os, h.grown.tape, h.grown.output, h.grown.size, fun k hk hn => h.grown.block k hk (fun e => hn (Option.some.inj e))⟩
theorem ownsMap_tight {w : World} {P : Program} {k : TypeId} {b n : Nat} {D : DataW Unit} (h : w.ownsMap P k unitElem b n D) : w.ownsMap P k unitElem b (size D) D := by
  obtain ⟨es, clock, h1, h2, h3, rfl⟩ := h
  refine ⟨es, clock, h1, h2, ?_, rfl⟩
  rw [Go.Maps.size_eq, length_sorted, List.length_map, Array.length_toList]
  exact Nat.le_refl _
theorem sendRow : (65 : TypeId) < Try.prog.types.size := of_decide_eq_true (by kernel_rfl)
theorem sendWide : (match Try.prog.underlying 65 with | some (.array _ _) | some (.struct _) => true | _ => false) = true := by rw [Try.underlying65]
set_option maxRecDepth 100000 in
theorem sendLaw : Keyed Try.prog 65 := Keyed.of_law (deep_law_laid laidOut (m := 2) (by omega) sendRow (by kernel_rfl) sendWide)
theorem cellsSend : Try.prog.cellsOf 65 = 2 := by kernel_rfl
theorem cellsInt : Try.prog.cellsOf 3 = 1 := by kernel_rfl
/-- A sending as a value. -/
def sendV (f u : Int) : Value := .agg #[.int .i64 f, .int .i64 u]
/-- What it reads as. -/
def sendL (f u : Int) : Lit := .string (keyBytes [.int .i64 f, .int .i64 u])
theorem keyTypes : Try.prog.types.size = 126 := by kernel_rfl
theorem keyLits_send (d : Nat) {f u : Int} (hf : (Lit.int .i64 f).wf = true) (hu : (Lit.int .i64 u).wf = true) : Try.prog.keyLits (d + 2) 65 [.int .i64 f, .int .i64 u] = some [.int .i64 f, .int .i64 u] := by
  simp [Program.keyLits, Try.underlying65, Try.underlying3, cellsSend, cellsInt, hf, hu]
theorem keyOf_send {f u : Int} (hf : (Lit.int .i64 f).wf = true) (hu : (Lit.int .i64 u).wf = true) : keyOf Try.prog 65 (sendV f u) = some (sendL f u) := by
  have hk : Try.prog.keyType 65 = true := by kernel_rfl
  have hfm : (sendV f u).formed Try.prog 65 = true := by simp [sendV, Value.formed, Try.underlying65, cellsSend]
  unfold keyOf
  rw [Try.underlying65]
  simp only [hk, hfm, Bool.and_self, if_true]
  rw [keyTypes]
  have e : (sendV f u).cells.toList = [.int .i64 f, .int .i64 u] := rfl
  rw [e, show (126 + 1 : Nat) = (126 - 1) + 2 from rfl, keyLits_send _ hf hu]
  rfl
theorem sendL_ne {f u f' u' : Int} (hf : (Lit.int .i64 f).wf = true) (hu : (Lit.int .i64 u).wf = true) (hf' : (Lit.int .i64 f').wf = true) (hu' : (Lit.int .i64 u').wf = true) (h : ¬ (f' = f ∧ u' = u)) : sendL f' u' ≠ sendL f u := by
  intro e
  have := sendLaw.inj (keyOf_send hf' hu') (e ▸ keyOf_send hf hu)
  simp [sendV] at this
  exact h this
theorem unitZero (w : World) : (zeroValue 68).run Try.prog w = .ok (.agg #[]) w := by kernel_rfl
/-- Block mb is the map of the sendings of T. -/
def KeysAt (w : World) (mb : Nat) (T : List M) : Prop :=
  ∃ D : DataW Unit, w.ownsMap Try.prog 65 unitElem mb (size D) D ∧ size D = T.length ∧ ∀ f u, (Lit.int .i64 f).wf = true → (Lit.int .i64 u).wf = true → has D (sendL f u) = hasS T f u
theorem KeysAt.made (w : World) : KeysAt (w.alloc (.map #[] 0)) w.heap.size [] := ⟨.map [], World.ownsMap_made _ _ _ _, rfl, fun _ _ _ _ => rfl⟩
section
variable {w w' : World} {mb : Nat} {T : List M}
theorem KeysAt.lt (h : KeysAt w mb T) : mb < w.heap.size := by obtain ⟨D, h1, _⟩ := h; exact h1.lt
theorem KeysAt.tag (h : KeysAt w mb T) : ∃ es c, w.heap[mb]? = some (.map es c) := by
  obtain ⟨D, ⟨es, c, h, _⟩, _⟩ := h
  exact ⟨es, c, h⟩
theorem KeysAt.block (h : KeysAt w mb T) (hb : w'.heap[mb]? = w.heap[mb]?) : KeysAt w' mb T := by
  obtain ⟨D, ⟨es, clock, h0, r⟩, h2⟩ := h
  exact ⟨D, ⟨es, clock, hb.trans h0, r⟩, h2⟩
theorem KeysAt.kept {S : Nat → Prop} (h : KeysAt w mb T) (hk : KeptOff S w w') (hn : ¬ S mb) : KeysAt w' mb T := h.block (hk.block mb h.lt hn)
theorem KeysAt.below' (h : KeysAt w mb T) (hb : Below w.heap.size w w') : KeysAt w' mb T := h.block (hb.block mb h.lt)
theorem KeysAt.len (h : KeysAt w mb T) (ty : TypeId) : (Builtin.len_ #[53] ty #[.map (some mb)]).run Try.prog w = .ok (.int .i64 T.length) w := by
  obtain ⟨D, h1, h2, _⟩ := h
  have := h1.len Try.underlying53 ty
  rwa [h2] at this
theorem KeysAt.look_ok (h : KeysAt w mb T) {f u : Int} (hf : (Lit.int .i64 f).wf = true) (hu : (Lit.int .i64 u).wf = true) :
    (Instr.lookup 53 (.map (some mb)) (.agg #[.int .i64 f, .int .i64 u]) true).run Try.prog w = .ok (.tuple #[.agg #[], .bool (hasS T f u)]) w := by
  obtain ⟨D, h1, _, h2⟩ := h
  obtain ⟨v, ps, hrun, hv⟩ := h1.look_ok sendLaw Try.underlying53 (unitZero w) unitElem_mk (keyOf_send hf hu)
  obtain ⟨rfl, _⟩ := unitElem_inv hv
  rw [← h2 f u hf hu]
  exact hrun
/-- A key stored. -/
theorem KeysAt.store (h : KeysAt w mb T) (m : M) (hm : m.fits) (hn : hasS T m.k.f m.u = false) (hl : T.length < 1000000) {T' : List M} (hp : T'.Perm (m :: T)) :
    ∃ w1, (Instr.mapUpdate 53 (.map (some mb)) (.agg #[.int .i64 m.k.f, .int .i64 m.u]) (.agg #[])).run Try.prog w = .ok () w1 ∧ KeysAt w1 mb T' ∧ KeptOff (fun k => k = mb) w w1 := by
  obtain ⟨D, h1, h2, h3⟩ := h
  have htidy := h1.tidy sendLaw
  obtain ⟨w1, hrun, hown, hturn⟩ := h1.store sendLaw Try.underlying53 (by rw [h2]; unfold maxLen; omega) (keyOf_send hm.1.2.1 hm.2.2.2) (d := .agg []) (ps := []) (val := .agg #[]) unitElem_mk
  have hs : ∀ f u, hasS T' f u = ((decide (m.k.f = f) && decide (m.u = u)) || hasS T f u) := fun f u => by rw [hasS_perm hp]; simp [hasS]
  refine ⟨w1, hrun, ⟨_, ownsMap_tight hown, ?_, fun f u hf hu => ?_⟩, .turned hturn⟩
  · rw [size_put htidy, h3 _ _ hm.1.2.1 hm.2.2.2, hn, h2, hp.length_eq, List.length_cons]
    simp
  · rw [hs]
    by_cases e : f = m.k.f ∧ u = m.u
    · obtain ⟨rfl, rfl⟩ := e
      rw [has_put_same h1.isMap (sendLaw.key (keyOf_send hf hu))]
      simp
    · rw [has_put_other (sendL_ne hm.1.2.1 hm.2.2.2 hf hu e), h3 f u hf hu]
      have : (decide (m.k.f = f) && decide (m.u = u)) = false := by
        by_cases a : m.k.f = f <;> by_cases b : m.u = u <;> simp_all
      rw [this, Bool.false_or]
/-- A key taken out. -/
theorem KeysAt.drop (h : KeysAt w mb T) (m : M) (hm : m.fits) {T' : List M} (hp : (m :: T').Perm T) (hU : Unlike T) (ty : TypeId) :
    ∃ w1, (Builtin.delete_ #[53, 65] ty #[.map (some mb), .agg #[.int .i64 m.k.f, .int .i64 m.u]]).run Try.prog w = .ok (.tuple #[]) w1 ∧ KeysAt w1 mb T' ∧ KeptOff (fun k => k = mb) w w1 := by
  obtain ⟨D, h1, h2, h3⟩ := h
  have htidy := h1.tidy sendLaw
  have hs := hasS_erase hp hU
  have hin : hasS T m.k.f m.u = true := hasS_iff.2 ⟨m, hp.mem_iff.1 (List.mem_cons_self ..), rfl, rfl⟩
  obtain ⟨w1, hrun, hown, hturn⟩ := h1.drop sendLaw Try.underlying53 (keyOf_send hm.1.2.1 hm.2.2.2) ty
  refine ⟨w1, hrun, ⟨_, ownsMap_tight hown, ?_, fun f u hf hu => ?_⟩, .turned hturn⟩
  · have := size_del htidy (k := sendL m.k.f m.u)
    rw [h3 _ _ hm.1.2.1 hm.2.2.2, hin, h2, ← hp.length_eq, List.length_cons] at this
    simpa using this
  · rw [hs]
    by_cases e : f = m.k.f ∧ u = m.u
    · obtain ⟨rfl, rfl⟩ := e
      rw [has_del_same]
      simp
    · rw [has_del_other (sendL_ne hm.1.2.1 hm.2.2.2 hf hu e), h3 f u hf hu]
      have : (decide (f = m.k.f) && decide (u = m.u)) = false := by
        by_cases a : f = m.k.f <;> by_cases b : u = m.u <;> simp_all
      rw [this]
      simp
end
section
variable {w : World} {ops : Array Oper} {rest : List Oper} {o : Oper} {a : Act} {Q : Exit → Act → World → Prop}
theorem wpList_delete_keys (hg : o.guard = none) (mo x : Operand) (hop : o.op = Op.call { callee := Callee.builtin Builtin.delete, args := #[mo, x], argTypes := #[53, 65] }) {mb : Nat} {T : List M} (m : M)
    (hmo : a.eval mo = .map (some mb)) (hx : a.eval x = .agg #[.int .i64 m.k.f, .int .i64 m.u]) (h : KeysAt w mb T) (hm : m.fits) {T' : List M} (hp : (m :: T').Perm T) (hU : Unlike T)
    (hK : ∀ w1, Hid (KeysAt w1 mb T') → Hid (KeptOff (fun k => k = mb) w w1) → wpList Try.prog ops Q rest (a.put o.dst (.tuple #[])) w1) : wpList Try.prog ops Q (o :: rest) a w := by
  refine wpList_plain hg fun K' hK' => ?_
  obtain ⟨w', hrun, r1, r2⟩ := h.drop m hm hp hU o.type
  unfold Oper.wp
  simp [execOp, hop, resolve, invoke, builtin, hmo, hx, hrun, Result.andThen]
  exact hK' _ _ (hK w' r1 r2)
theorem wpList_store_keys (hg : o.guard = none) (mo x v : Operand) (hop : o.op = Op.mapUpdate 53 mo x v) {mb : Nat} {T T' : List M} (m : M)
    (hmo : a.eval mo = .map (some mb)) (hx : a.eval x = .agg #[.int .i64 m.k.f, .int .i64 m.u]) (hv : a.eval v = .agg #[]) (h : KeysAt w mb T) (hm : m.fits) (hn : hasS T m.k.f m.u = false) (hl : T.length < 1000000) (hp : T'.Perm (m :: T))
    (hK : ∀ w1, Hid (KeysAt w1 mb T') → Hid (KeptOff (fun k => k = mb) w w1) → wpList Try.prog ops Q rest (a.put o.dst undef) w1) : wpList Try.prog ops Q (o :: rest) a w := by
  refine wpList_plain hg fun K' hK' => ?_
  obtain ⟨w', hrun, r1, r2⟩ := h.store m hm hn hl hp
  unfold Oper.wp
  simp [execOp, hop, hmo, hx, hv, hrun, Result.andThen]
  exact hK' _ _ (hK w' r1 r2)
end
theorem eqlLS (a b c d : Int) (w : World) : Sem.run Try.prog (binOp .eql 65 (.agg #[.int .i64 a, .int .i64 b]) (.agg #[.int .i64 c, .int .i64 d])) w = .ok (.bool (decide (a = c) && decide (b = d))) w := by
  have u3 := Try.underlying3
  have a3 := Try.isAgg3
  have z3 := Try.sizeOf3
  have hS : Try.prog.underlying 65 = some (.struct (Try.prog.fieldsOf 65)) := by kernel_rfl
  have hp : Try.prog.stoodInHeld 65 = false := by kernel_rfl
  rw [run_eql_struct, show (10000 : Nat) = 9999 + 1 from rfl, run_equalIn_agg w 9999 65 _ _ hS hp]
  simp only [Program.fieldsOf, Try.underlying65]
  go_simp
  by_cases h1 : a = c <;> by_cases h2 : b = d <;> simp [h1, h2]
theorem sending_any (m : M) (w : World) : Calls Try.prog 28 #[m.val] w fun e w' => e = .returned (sendV m.k.f m.u) ∧ Read w w' := by
  obtain ⟨⟨t, f, s⟩, tt, v, u, an⟩ := m
  simp only [M.val, sendV]
  go_enter Try.func28, Try.ntmps28
  go_wp2
  refine bodyPost_ret (v := .agg #[.int .i64 f, .int .i64 u]) (by simp [results, Try.results28, go_sem]) rfl ⟨rfl, ?_⟩
  exact Read.two _ _ _
end Go.Proofs.Ytcfpfbemmklbaaa
