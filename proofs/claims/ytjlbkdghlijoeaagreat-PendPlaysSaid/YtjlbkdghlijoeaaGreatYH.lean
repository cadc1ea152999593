/-
  The map of the sendings of a ladder.
  The two maps of a calendar: the lists by their days, the keys by their sendings.
-/
import Derived.Test.YtjlbkdghlijoeaaGreatLDY
import Derived.Test.YtjlbkdghlijoeaaGreatQT
import Derived.Maps.OwnSet
import Derived.DeepKeys4
import Derived.Test.YtjlbkdghlijoeaaGreatHC
namespace Go.Proofs.YtjlbkdghlijoeaaGreat
open Go.ChangeShapes Go.WideShapes Go.ChangeAt Go.Shelf Go.RowKit Go.Lib Go.Sort Go.Deep Go.Maps
set_option linter.unusedVariables false

theorem KeptOff.turned {w w' : World} {b : Nat} (h : w.mapTurned w' b) : KeptOff (fun k => k = b) w w' :=
  ⟨h.grown.os, h.grown.tape, h.grown.output, h.grown.size, fun k hk hn => h.grown.block k hk (fun e => hn (Option.some.inj e))⟩
theorem ownsMap_tight {w : World} {P : Program} {k : TypeId} {b n : Nat} {D : DataW Unit} (h : w.ownsMap P k unitElem b n D) : w.ownsMap P k unitElem b (size D) D := by
  obtain ⟨es, clock, h1, h2, h3, rfl⟩ := h
  refine ⟨es, clock, h1, h2, ?_, rfl⟩
  rw [Go.Maps.size_eq, length_sorted, List.length_map, Array.length_toList]
  exact Nat.le_refl _
theorem sendRow : (169 : TypeId) < Tryz.prog.types.size := of_decide_eq_true (by kernel_rfl)
theorem sendWide : (match Tryz.prog.underlying 169 with | some (.array _ _) | some (.struct _) => true | _ => false) = true := by rw [Tryz.underlying169]
set_option maxRecDepth 100000 in
theorem sendLaw : Keyed Tryz.prog 169 := Keyed.of_law (deep_law_laid laidOut (m := 2) (by omega) sendRow (by kernel_rfl) sendWide)
theorem cellsSend : Tryz.prog.cellsOf 169 = 2 := by kernel_rfl
theorem cellsInt : Tryz.prog.cellsOf 3 = 1 := by kernel_rfl
/-- A sending as a value. -/
def sendV (f u : Int) : Value := .agg #[.int .i64 f, .int .i64 u]
/-- What it reads as. -/
def sendL (f u : Int) : Lit := .string (keyBytes [.int .i64 f, .int .i64 u])
theorem keyTypes : Tryz.prog.types.size = 192 := by kernel_rfl
theorem keyLits_send (d : Nat) {f u : Int} (hf : (Lit.int .i64 f).wf = true) (hu : (Lit.int .i64 u).wf = true) : Tryz.prog.keyLits (d + 2) 169 [.int .i64 f, .int .i64 u] = some [.int .i64 f, .int .i64 u] := by
  simp [Program.keyLits, Tryz.underlying169, Tryz.underlying3, cellsSend, cellsInt, hf, hu]
theorem keyOf_send {f u : Int} (hf : (Lit.int .i64 f).wf = true) (hu : (Lit.int .i64 u).wf = true) : keyOf Tryz.prog 169 (sendV f u) = some (sendL f u) := by
  have hk : Tryz.prog.keyType 169 = true := by kernel_rfl
  have hfm : (sendV f u).formed Tryz.prog 169 = true := by simp [sendV, Value.formed, Tryz.underlying169, cellsSend]
  unfold keyOf
  rw [Tryz.underlying169]
  simp only [hk, hfm, Bool.and_self, if_true]
  rw [keyTypes]
  have e : (sendV f u).cells.toList = [.int .i64 f, .int .i64 u] := rfl
  rw [e, show (192 + 1 : Nat) = (192 - 1) + 2 from rfl, keyLits_send _ hf hu]
  rfl
theorem sendL_ne {f u f' u' : Int} (hf : (Lit.int .i64 f).wf = true) (hu : (Lit.int .i64 u).wf = true) (hf' : (Lit.int .i64 f').wf = true) (hu' : (Lit.int .i64 u').wf = true) (h : ¬ (f' = f ∧ u' = u)) : sendL f' u' ≠ sendL f u := by
  intro e
  have := sendLaw.inj (keyOf_send hf' hu') (e ▸ keyOf_send hf hu)
  simp [sendV] at this
  exact h this
theorem unitZero (w : World) : (zeroValue 140).run Tryz.prog w = .ok (.agg #[]) w := by kernel_rfl
/-- Block mb is the map of the sendings of T. -/
def KeysAt (w : World) (mb : Nat) (T : List M) : Prop :=
  ∃ D : DataW Unit, w.ownsMap Tryz.prog 169 unitElem mb (size D) D ∧ size D = T.length ∧ ∀ f u, (Lit.int .i64 f).wf = true → (Lit.int .i64 u).wf = true → has D (sendL f u) = hasS T f u
theorem KeysAt.made (w : World) : KeysAt (w.alloc (.map #[] 0)) w.heap.size [] := ⟨.map [], World.ownsMap_made _ _ _ _, rfl, fun _ _ _ _ => rfl⟩
section
variable {w w' : World} {mb : Nat} {T : List M}
theorem KeysAt.lt (h : KeysAt w mb T) : mb < w.heap.size := by obtain ⟨D, h1, _⟩ := h; exact h1.lt
theorem KeysAt.tag (h : KeysAt w mb T) : ∃ es c, w.heap[mb]? = some (.map es c) := by
  obtain ⟨D, ⟨es, c, h, _⟩, _⟩ := h
  exact ⟨es, c, h⟩
theorem KeysAt.block (h : KeysAt w mb T) (hb : w'.heap[mb]? = w.heap[mb]?) : KeysAt w' mb T := by
  obtain ⟨D, ⟨es, clock, h0, r⟩, h2⟩ := h
  exact ⟨D, ⟨es, clock, hb.trans h0, r⟩, h2⟩
theorem KeysAt.kept {S : Nat → Prop} (h : KeysAt w mb T) (hk : KeptOff S w w') (hn : ¬ S mb) : KeysAt w' mb T := h.block (hk.block mb h.lt hn)
theorem KeysAt.below' (h : KeysAt w mb T) (hb : Below w.heap.size w w') : KeysAt w' mb T := h.block (hb.block mb h.lt)
theorem KeysAt.len (h : KeysAt w mb T) (ty : TypeId) : (Builtin.len_ #[94] ty #[.map (some mb)]).run Tryz.prog w = .ok (.int .i64 T.length) w := by
  obtain ⟨D, h1, h2, _⟩ := h
  have := h1.len Tryz.underlying94 ty
  rwa [h2] at this
theorem KeysAt.look_ok (h : KeysAt w mb T) {f u : Int} (hf : (Lit.int .i64 f).wf = true) (hu : (Lit.int .i64 u).wf = true) :
    (Instr.lookup 94 (.map (some mb)) (.agg #[.int .i64 f, .int .i64 u]) true).run Tryz.prog w = .ok (.tuple #[.agg #[], .bool (hasS T f u)]) w := by
  obtain ⟨D, h1, _, h2⟩ := h
  obtain ⟨v, ps, hrun, hv⟩ := h1.look_ok sendLaw Tryz.underlying94 (unitZero w) unitElem_mk (keyOf_send hf hu)
  obtain ⟨rfl, _⟩ := unitElem_inv hv
  rw [← h2 f u hf hu]
  exact hrun
/-- A key stored. -/
theorem KeysAt.store (h : KeysAt w mb T) (m : M) (hm : m.fits) (hn : hasS T m.k.f m.u = false) (hl : T.length < 1000000) {T' : List M} (hp : T'.Perm (m :: T)) :
    ∃ w1, (Instr.mapUpdate 94 (.map (some mb)) (.agg #[.int .i64 m.k.f, .int .i64 m.u]) (.agg #[])).run Tryz.prog w = .ok () w1 ∧ KeysAt w1 mb T' ∧ KeptOff (fun k => k = mb) w w1 := by
  obtain ⟨D, h1, h2, h3⟩ := h
  have htidy := h1.tidy sendLaw
  obtain ⟨w1, hrun, hown, hturn⟩ := h1.store sendLaw Tryz.underlying94 (by rw [h2]; unfold maxLen; omega) (keyOf_send hm.1.2.1 hm.2.2.2) (d := .agg []) (ps := []) (val := .agg #[]) unitElem_mk
  have hs : ∀ f u, hasS T' f u = ((decide (m.k.f = f) && decide (m.u = u)) || hasS T f u) := fun f u => by rw [hasS_perm hp]; simp [hasS]
  refine ⟨w1, hrun, ⟨_, ownsMap_tight hown, ?_, fun f u hf hu => ?_⟩, .turned hturn⟩
  · rw [size_put htidy, h3 _ _ hm.1.2.1 hm.2.2.2, hn, h2, hp.length_eq, List.length_cons]
    simp
  · rw [hs]
    by_cases e : f = m.k.f ∧ u = m.u
    · obtain ⟨rfl, rfl⟩ := e
      rw [has_put_same h1.isMap (sendLaw.key (keyOf_send hf hu))]
      simp
    · rw [has_put_other (sendL_ne hm.1.2.1 hm.2.2.2 hf hu e), h3 f u hf hu]
      have : (decide (m.k.f = f) && decide (m.u = u)) = false := by
        by_cases a : m.k.f = f <;> by_cases b : m.u = u <;> simp_all
      rw [this, Bool.false_or]
/-- A key taken out. -/
theorem KeysAt.drop (h : KeysAt w mb T) (m : M) (hm : m.fits) {T' : List M} (hp : (m :: T').Perm T) (hU : Unlike T) (ty : TypeId) :
    ∃ w1, (Builtin.delete_ #[94, 169] ty #[.map (some mb), .agg #[.int .i64 m.k.f, .int .i64 m.u]]).run Tryz.prog w = .ok (.tuple #[]) w1 ∧ KeysAt w1 mb T' ∧ KeptOff (fun k => k = mb) w w1 := by
  obtain ⟨D, h1, h2, h3⟩ := h
  have htidy := h1.tidy sendLaw
  have hs := hasS_erase hp hU
  have hin : hasS T m.k.f m.u = true := hasS_iff.2 ⟨m, hp.mem_iff.1 (List.mem_cons_self ..), rfl, rfl⟩
  obtain ⟨w1, hrun, hown, hturn⟩ := h1.drop sendLaw Tryz.underlying94 (keyOf_send hm.1.2.1 hm.2.2.2) ty
  refine ⟨w1, hrun, ⟨_, ownsMap_tight hown, ?_, fun f u hf hu => ?_⟩, .turned hturn⟩
  · have := size_del htidy (k := sendL m.k.f m.u)
    rw [h3 _ _ hm.1.2.1 hm.2.2.2, hin, h2, ← hp.length_eq, List.length_cons] at this
    simpa using this
  · rw [hs]
    by_cases e : f = m.k.f ∧ u = m.u
    · obtain ⟨rfl, rfl⟩ := e
      rw [has_del_same]
      simp
    · rw [has_del_other (sendL_ne hm.1.2.1 hm.2.2.2 hf hu e), h3 f u hf hu]
      have : (decide (f = m.k.f) && decide (u = m.u)) = false := by
        by_cases a : f = m.k.f <;> by_cases b : u = m.u <;> simp_all
      rw [this]
      simp
end
section
variable {w : World} {ops : Array Oper} {rest : List Oper} {o : Oper} {a : Act} {Q : Exit → Act → World → Prop}
theorem wpList_delete_keys (hg : o.guard = none) (mo x : Operand) (hop : o.op = Op.call { callee := Callee.builtin Builtin.delete, args := #[mo, x], argTypes := #[94, 169] }) {mb : Nat} {T : List M} (m : M)
    (hmo : a.eval mo = .map (some mb)) (hx : a.eval x = .agg #[.int .i64 m.k.f, .int .i64 m.u]) (h : KeysAt w mb T) (hm : m.fits) {T' : List M} (hp : (m :: T').Perm T) (hU : Unlike T)
    (hK : ∀ w1, Hid (KeysAt w1 mb T') → Hid (KeptOff (fun k => k = mb) w w1) → wpList Tryz.prog ops Q rest (a.put o.dst (.tuple #[])) w1) : wpList Tryz.prog ops Q (o :: rest) a w := by
  refine wpList_plain hg fun K' hK' => ?_
  obtain ⟨w', hrun, r1, r2⟩ := h.drop m hm hp hU o.type
  unfold Oper.wp
  simp [execOp, hop, resolve, invoke, builtin, hmo, hx, hrun, Result.andThen]
  exact hK' _ _ (hK w' r1 r2)
theorem wpList_store_keys (hg : o.guard = none) (mo x v : Operand) (hop : o.op = Op.mapUpdate 94 mo x v) {mb : Nat} {T T' : List M} (m : M)
    (hmo : a.eval mo = .map (some mb)) (hx : a.eval x = .agg #[.int .i64 m.k.f, .int .i64 m.u]) (hv : a.eval v = .agg #[]) (h : KeysAt w mb T) (hm : m.fits) (hn : hasS T m.k.f m.u = false) (hl : T.length < 1000000) (hp : T'.Perm (m :: T))
    (hK : ∀ w1, Hid (KeysAt w1 mb T') → Hid (KeptOff (fun k => k = mb) w w1) → wpList Tryz.prog ops Q rest (a.put o.dst undef) w1) : wpList Tryz.prog ops Q (o :: rest) a w := by
  refine wpList_plain hg fun K' hK' => ?_
  obtain ⟨w', hrun, r1, r2⟩ := h.store m hm hn hl hp
  unfold Oper.wp
  simp [execOp, hop, hmo, hx, hv, hrun, Result.andThen]
  exact hK' _ _ (hK w' r1 r2)
end
theorem eqlLS (a b c d : Int) (w : World) : Sem.run Tryz.prog (binOp .eql 169 (.agg #[.int .i64 a, .int .i64 b]) (.agg #[.int .i64 c, .int .i64 d])) w = .ok (.bool (decide (a = c) && decide (b = d))) w := by
  have u3 := Tryz.underlying3
  have a3 := Tryz.isAgg3
  have z3 := Tryz.sizeOf3
  have hS : Tryz.prog.underlying 169 = some (.struct (Tryz.prog.fieldsOf 169)) := by kernel_rfl
  have hp : Tryz.prog.stoodInHeld 169 = false := by kernel_rfl
  rw [run_eql_struct, show (10000 : Nat) = 9999 + 1 from rfl, run_equalIn_agg w 9999 169 _ _ hS hp]
  simp only [Program.fieldsOf, Tryz.underlying169]
  go_simp
  by_cases h1 : a = c <;> by_cases h2 : b = d <;> simp [h1, h2]
theorem sending_any (m : M) (w : World) : Calls Tryz.prog 128 #[m.val] w fun e w' => e = .returned (sendV m.k.f m.u) ∧ Read w w' := by
  obtain ⟨⟨t, f, s⟩, tt, v, u, an⟩ := m
  simp only [M.val, sendV]
  go_enter Tryz.func128, Tryz.ntmps128
  go_wp2
  refine bodyPost_ret (v := .agg #[.int .i64 f, .int .i64 u]) (by simp [results, Tryz.results128, go_sem]) rfl ⟨rfl, ?_⟩
  exact Read.two _ _ _
end Go.Proofs.YtjlbkdghlijoeaaGreat
namespace Go.Proofs.YtjlbkdghlijoeaaGreat
open Go.ChangeShapes Go.WideShapes Go.ChangeAt Go.Shelf Go.RowKit Go.Lib Go.Sort Go.Deep Go.Maps
set_option linter.unusedVariables false

/-- An element read as itself. -/
def tokElem (v : Value) : Option (DataW Value × List MemPlace) := some (.held v, [])
theorem ownsMap_tightC {w : World} {P : Program} {k : TypeId} {b n : Nat} {D : DataW Value} (h : w.ownsMap P k tokElem b n D) : w.ownsMap P k tokElem b (size D) D := by
  obtain ⟨es, clock, h1, h2, h3, rfl⟩ := h
  refine ⟨es, clock, h1, h2, ?_, rfl⟩
  rw [Go.Maps.size_eq, length_sorted, List.length_map, Array.length_toList]
  exact Nat.le_refl _
section
variable {w : World} {P : Program} {k t e : TypeId} {b n : Nat} {D : DataW Value}
/-- A look-up. -/
theorem look_tok (h : w.ownsMap P k tokElem b n D) (K : Keyed P k) (ht : P.underlying t = some (.map k e)) {z : Value} (hz : (zeroValue e).run P w = .ok z w) {key : Value} {kl : Lit} (hkey : keyOf P k key = some kl) {v : Value} (hv : D.atKey kl (.held z) = .held v) :
    (Instr.lookup t (.map (some b)) key false).run P w = .ok v w := by
  obtain ⟨v', ps, hrun, he⟩ := h.lookup K ht hz (zd := .held z) (zp := []) rfl hkey
  rw [hv] at he
  have : v' = v := by simpa [tokElem] using congrArg (fun o => o.map Prod.fst) he
  rw [← this]
  exact hrun
theorem look_tok_ok (h : w.ownsMap P k tokElem b n D) (K : Keyed P k) (ht : P.underlying t = some (.map k e)) {z : Value} (hz : (zeroValue e).run P w = .ok z w) {key : Value} {kl : Lit} (hkey : keyOf P k key = some kl) {v : Value} (hv : D.atKey kl (.held z) = .held v) :
    (Instr.lookup t (.map (some b)) key true).run P w = .ok (.tuple #[v, .bool (has D kl)]) w := by
  obtain ⟨v', ps, hrun, he⟩ := h.look_ok K ht hz (zd := .held z) (zp := []) rfl hkey
  rw [hv] at he
  have : v' = v := by simpa [tokElem] using congrArg (fun o => o.map Prod.fst) he
  rw [← this]
  exact hrun
end

/-! The lists by their days. -/
theorem intKeyed : Keyed Tryz.prog 2 := int_keyed Tryz.underlying2
theorem keyOf_day {d : Int} (hd : (Lit.int .i64 d).wf = true) : keyOf Tryz.prog 2 (.int .i64 d) = some (.int .i64 d) := keyOf_int_mk Tryz.underlying2 hd
theorem zeroMsgs (w : World) : (zeroValue 38).run Tryz.prog w = .ok (.slice none 0 0) w := by kernel_rfl
/-- Block lb is the map of the lists: a list for each day of ds, and no other. -/
def ListsAt (w : World) (lb : Nat) (ds : List Int) (fv : Int → Value) : Prop :=
  ∃ D : DataW Value, w.ownsMap Tryz.prog 2 tokElem lb (size D) D ∧ size D = ds.length ∧ (∀ d, (Lit.int .i64 d).wf = true → has D (.int .i64 d) = decide (d ∈ ds)) ∧ ∀ d ∈ ds, ∀ z, D.atKey (.int .i64 d) z = .held (fv d)
theorem ListsAt.made (w : World) (fv : Int → Value) : ListsAt (w.alloc (.map #[] 0)) w.heap.size [] fv := ⟨.map [], World.ownsMap_made _ _ _ _, rfl, fun _ _ => by simp [has], fun d h => by cases h⟩
section
variable {w w' : World} {lb : Nat} {ds : List Int} {fv : Int → Value}
theorem ListsAt.lt (h : ListsAt w lb ds fv) : lb < w.heap.size := by obtain ⟨D, h1, _⟩ := h; exact h1.lt
theorem ListsAt.block (h : ListsAt w lb ds fv) (hb : w'.heap[lb]? = w.heap[lb]?) : ListsAt w' lb ds fv := by
  obtain ⟨D, ⟨es, clock, h0, r⟩, h2⟩ := h
  exact ⟨D, ⟨es, clock, hb.trans h0, r⟩, h2⟩
theorem ListsAt.kept {S : Nat → Prop} (h : ListsAt w lb ds fv) (hk : KeptOff S w w') (hn : ¬ S lb) : ListsAt w' lb ds fv := h.block (hk.block lb h.lt hn)
theorem ListsAt.below' (h : ListsAt w lb ds fv) (hb : Below w.heap.size w w') : ListsAt w' lb ds fv := h.block (hb.block lb h.lt)
theorem ListsAt.look (h : ListsAt w lb ds fv) {d : Int} (hd : d ∈ ds) (hw : (Lit.int .i64 d).wf = true) : (Instr.lookup 98 (.map (some lb)) (.int .i64 d) false).run Tryz.prog w = .ok (fv d) w := by
  obtain ⟨D, h1, _, _, h4⟩ := h
  exact look_tok h1 intKeyed Tryz.underlying98 (zeroMsgs w) (keyOf_day hw) (h4 d hd _)
theorem ListsAt.look_no (h : ListsAt w lb ds fv) {d : Int} (hd : d ∉ ds) (hw : (Lit.int .i64 d).wf = true) : (Instr.lookup 98 (.map (some lb)) (.int .i64 d) false).run Tryz.prog w = .ok (.slice none 0 0) w := by
  obtain ⟨D, h1, _, h3, _⟩ := h
  have h5 : has D (.int .i64 d) = false := by rw [h3 d hw]; exact decide_eq_false hd
  exact look_tok h1 intKeyed Tryz.underlying98 (zeroMsgs w) (keyOf_day hw) (atKey_of_not_has h5 _)
theorem day_key_ne {d d' : Int} (h : d' ≠ d) : (Lit.int .i64 d') ≠ .int .i64 d := fun e => h (by simpa using e)
/-- A list stored at a day. -/
theorem ListsAt.store (h : ListsAt w lb ds fv) {d : Int} (hw : (Lit.int .i64 d).wf = true) (v : Value) (hl : ds.length < 1000000) (ds' : List Int) (hds : ds'.length = if d ∈ ds then ds.length else ds.length + 1) (hm : ∀ x, x ∈ ds' ↔ x = d ∨ x ∈ ds) :
    ∃ w1, (Instr.mapUpdate 98 (.map (some lb)) (.int .i64 d) v).run Tryz.prog w = .ok () w1 ∧ ListsAt w1 lb ds' (fun x => if x = d then v else fv x) ∧ KeptOff (fun k => k = lb) w w1 := by
  obtain ⟨D, h1, h2, h3, h4⟩ := h
  have htidy := h1.tidy intKeyed
  obtain ⟨w1, hrun, hown, hturn⟩ := h1.store intKeyed Tryz.underlying98 (by rw [h2]; unfold maxLen; omega) (keyOf_day hw) (d := .held v) (ps := []) (val := v) rfl
  refine ⟨w1, hrun, ⟨_, ownsMap_tightC hown, ?_, fun x hx => ?_, fun x hx z => ?_⟩, .turned hturn⟩
  · rw [size_put htidy, h3 d hw, h2, hds]
    by_cases hc : d ∈ ds <;> simp [hc]
  · by_cases e : x = d
    · subst e
      rw [has_put_same h1.isMap (intKeyed.key (keyOf_day hx))]
      simp [hm]
    · rw [has_put_other (day_key_ne e), h3 x hx]
      simp [hm, e]
  · by_cases e : x = d
    · subst e
      rw [atKey_put_same h1.isMap (intKeyed.key (keyOf_day hw))]
      simp
    · rw [atKey_put_other (day_key_ne e), h4 x (((hm x).1 hx).resolve_left e)]
      simp [e]
/-- A day taken out. -/
theorem ListsAt.drop (h : ListsAt w lb ds fv) {d : Int} (hw : (Lit.int .i64 d).wf = true) (hd : d ∈ ds) (ds' : List Int) (hds : ds'.length + 1 = ds.length) (hm : ∀ x, x ∈ ds' ↔ x ≠ d ∧ x ∈ ds) (ty : TypeId) :
    ∃ w1, (Builtin.delete_ #[98, 2] ty #[.map (some lb), .int .i64 d]).run Tryz.prog w = .ok (.tuple #[]) w1 ∧ ListsAt w1 lb ds' fv ∧ KeptOff (fun k => k = lb) w w1 := by
  obtain ⟨D, h1, h2, h3, h4⟩ := h
  have htidy := h1.tidy intKeyed
  obtain ⟨w1, hrun, hown, hturn⟩ := h1.drop intKeyed Tryz.underlying98 (keyOf_day hw) ty
  refine ⟨w1, hrun, ⟨_, ownsMap_tightC hown, ?_, fun x hx => ?_, fun x hx z => ?_⟩, .turned hturn⟩
  · have := size_del htidy (k := .int .i64 d)
    rw [h3 d hw, decide_eq_true hd, h2] at this
    simp at this
    omega
  · by_cases e : x = d
    · subst e
      rw [has_del_same]
      simp [hm]
    · rw [has_del_other (day_key_ne e), h3 x hx]
      simp [hm, e]
  · have := (hm x).1 hx
    rw [atKey_del_other (day_key_ne this.1), h4 x this.2]
end
/-! The keys by their sendings. -/
theorem sendRowC : (150 : TypeId) < Tryz.prog.types.size := of_decide_eq_true (by kernel_rfl)
theorem sendWideC : (match Tryz.prog.underlying 150 with | some (.array _ _) | some (.struct _) => true | _ => false) = true := by rw [Tryz.underlying150]
set_option maxRecDepth 100000 in
theorem sendLawC : Keyed Tryz.prog 150 := Keyed.of_law (deep_law_laid laidOut (m := 2) (by omega) sendRowC (by kernel_rfl) sendWideC)
theorem cellsSendC : Tryz.prog.cellsOf 150 = 2 := by kernel_rfl
theorem keyLits_sendC (d : Nat) {f u : Int} (hf : (Lit.int .i64 f).wf = true) (hu : (Lit.int .i64 u).wf = true) : Tryz.prog.keyLits (d + 2) 150 [.int .i64 f, .int .i64 u] = some [.int .i64 f, .int .i64 u] := by
  simp [Program.keyLits, Tryz.underlying150, Tryz.underlying3, cellsSendC, cellsInt, hf, hu]
theorem keyOf_sendC {f u : Int} (hf : (Lit.int .i64 f).wf = true) (hu : (Lit.int .i64 u).wf = true) : keyOf Tryz.prog 150 (sendV f u) = some (sendL f u) := by
  have hk : Tryz.prog.keyType 150 = true := by kernel_rfl
  have hfm : (sendV f u).formed Tryz.prog 150 = true := by simp [sendV, Value.formed, Tryz.underlying150, cellsSendC]
  unfold keyOf
  rw [Tryz.underlying150]
  simp only [hk, hfm, Bool.and_self, if_true]
  rw [keyTypes]
  have e : (sendV f u).cells.toList = [.int .i64 f, .int .i64 u] := rfl
  rw [e, show (192 + 1 : Nat) = (192 - 1) + 2 from rfl, keyLits_sendC _ hf hu]
  rfl
def keyV0 : Value := .agg #[.int .i64 0, .int .i64 0, .int .i64 0]
theorem zeroKey (w : World) : (zeroValue 32).run Tryz.prog w = .ok (.agg #[.int .i64 0, .int .i64 0, .int .i64 0]) w := by kernel_rfl
/-- Block mb is the map of the keys of T, by their sendings. -/
def KeysAtC (w : World) (mb : Nat) (T : List M) : Prop :=
  ∃ D : DataW Value, w.ownsMap Tryz.prog 150 tokElem mb (size D) D ∧ size D = T.length ∧ (∀ f u, (Lit.int .i64 f).wf = true → (Lit.int .i64 u).wf = true → has D (sendL f u) = hasS T f u) ∧ ∀ m ∈ T, ∀ z, D.atKey (sendL m.k.f m.u) z = .held m.k.val
theorem KeysAtC.made (w : World) : KeysAtC (w.alloc (.map #[] 0)) w.heap.size [] := ⟨.map [], World.ownsMap_made _ _ _ _, rfl, fun _ _ _ _ => rfl, fun m h => by cases h⟩
section
variable {w w' : World} {mb : Nat} {T : List M}
theorem KeysAtC.lt (h : KeysAtC w mb T) : mb < w.heap.size := by obtain ⟨D, h1, _⟩ := h; exact h1.lt
theorem KeysAtC.block (h : KeysAtC w mb T) (hb : w'.heap[mb]? = w.heap[mb]?) : KeysAtC w' mb T := by
  obtain ⟨D, ⟨es, clock, h0, r⟩, h2⟩ := h
  exact ⟨D, ⟨es, clock, hb.trans h0, r⟩, h2⟩
theorem KeysAtC.kept {S : Nat → Prop} (h : KeysAtC w mb T) (hk : KeptOff S w w') (hn : ¬ S mb) : KeysAtC w' mb T := h.block (hk.block mb h.lt hn)
theorem KeysAtC.below' (h : KeysAtC w mb T) (hb : Below w.heap.size w w') : KeysAtC w' mb T := h.block (hb.block mb h.lt)
theorem KeysAtC.len (h : KeysAtC w mb T) (ty : TypeId) : (Builtin.len_ #[89] ty #[.map (some mb)]).run Tryz.prog w = .ok (.int .i64 T.length) w := by
  obtain ⟨D, h1, h2, _⟩ := h
  have := h1.len Tryz.underlying89 ty
  rwa [h2] at this
theorem KeysAtC.look (h : KeysAtC w mb T) {m : M} (hm : m ∈ T) (hf : (Lit.int .i64 m.k.f).wf = true) (hu : (Lit.int .i64 m.u).wf = true) :
    (Instr.lookup 89 (.map (some mb)) (.agg #[.int .i64 m.k.f, .int .i64 m.u]) false).run Tryz.prog w = .ok m.k.val w := by
  obtain ⟨D, h1, _, _, h4⟩ := h
  exact look_tok h1 sendLawC Tryz.underlying89 (zeroKey w) (keyOf_sendC hf hu) (h4 m hm _)
theorem KeysAtC.look_ok (T : List M) (mb : Nat) {f u : Int} (hf : (Lit.int .i64 f).wf = true) (hu : (Lit.int .i64 u).wf = true) :
    ∃ k : K, ∀ w, KeysAtC w mb T → (Instr.lookup 89 (.map (some mb)) (.agg #[.int .i64 f, .int .i64 u]) true).run Tryz.prog w = .ok (.tuple #[k.val, .bool (hasS T f u)]) w := by
  cases hc : hasS T f u with
  | true =>
    obtain ⟨m, hm, rfl, rfl⟩ := hasS_iff.1 hc
    refine ⟨m.k, fun w h => ?_⟩
    obtain ⟨D, h1, _, h3, h4⟩ := h
    have := look_tok_ok h1 sendLawC Tryz.underlying89 (zeroKey w) (keyOf_sendC hf hu) (h4 m hm _)
    rwa [h3 _ _ hf hu, hc] at this
  | false =>
    refine ⟨⟨0, 0, 0⟩, fun w h => ?_⟩
    obtain ⟨D, h1, _, h3, h4⟩ := h
    have h5 : has D (sendL f u) = false := by rw [h3 _ _ hf hu]; exact hc
    have := look_tok_ok h1 sendLawC Tryz.underlying89 (zeroKey w) (keyOf_sendC hf hu) (atKey_of_not_has h5 _)
    rwa [h5] at this
/-- A key stored. -/
theorem KeysAtC.store (h : KeysAtC w mb T) (m : M) (hm : m.fits) (hn : hasS T m.k.f m.u = false) (hfit : ∀ x ∈ T, x.fits) (hl : T.length < 1000000) {T' : List M} (hp : T'.Perm (m :: T)) :
    ∃ w1, (Instr.mapUpdate 89 (.map (some mb)) (.agg #[.int .i64 m.k.f, .int .i64 m.u]) m.k.val).run Tryz.prog w = .ok () w1 ∧ KeysAtC w1 mb T' ∧ KeptOff (fun k => k = mb) w w1 := by
  obtain ⟨D, h1, h2, h3, h4⟩ := h
  have htidy := h1.tidy sendLawC
  obtain ⟨w1, hrun, hown, hturn⟩ := h1.store sendLawC Tryz.underlying89 (by rw [h2]; unfold maxLen; omega) (keyOf_sendC hm.1.2.1 hm.2.2.2) (d := .held m.k.val) (ps := []) (val := m.k.val) rfl
  have hs : ∀ f u, hasS T' f u = ((decide (m.k.f = f) && decide (m.u = u)) || hasS T f u) := fun f u => by rw [hasS_perm hp]; simp [hasS]
  refine ⟨w1, hrun, ⟨_, ownsMap_tightC hown, ?_, fun f u hf hu => ?_, fun x hx z => ?_⟩, .turned hturn⟩
  · rw [size_put htidy, h3 _ _ hm.1.2.1 hm.2.2.2, hn, h2, hp.length_eq, List.length_cons]
    simp
  · rw [hs]
    by_cases e : f = m.k.f ∧ u = m.u
    · obtain ⟨rfl, rfl⟩ := e
      rw [has_put_same h1.isMap (sendLawC.key (keyOf_sendC hf hu))]
      simp
    · rw [has_put_other (sendL_ne hm.1.2.1 hm.2.2.2 hf hu e), h3 f u hf hu]
      have : (decide (m.k.f = f) && decide (m.u = u)) = false := by
        by_cases a : m.k.f = f <;> by_cases b : m.u = u <;> simp_all
      rw [this, Bool.false_or]
  · rcases List.mem_cons.1 (hp.mem_iff.1 hx) with rfl | hx'
    · rw [atKey_put_same h1.isMap (sendLawC.key (keyOf_sendC hm.1.2.1 hm.2.2.2))]
    · have hx2 := hfit x hx'
      have e : ¬ (x.k.f = m.k.f ∧ x.u = m.u) := hasS_no hn x hx'
      rw [atKey_put_other (sendL_ne hm.1.2.1 hm.2.2.2 hx2.1.2.1 hx2.2.2.2 e), h4 x hx']
/-- A key taken out. -/
theorem KeysAtC.drop (h : KeysAtC w mb T) (m : M) (hm : m.fits) (hfit : ∀ x ∈ T, x.fits) {T' : List M} (hp : (m :: T').Perm T) (hU : Unlike T) (ty : TypeId) :
    ∃ w1, (Builtin.delete_ #[89, 150] ty #[.map (some mb), .agg #[.int .i64 m.k.f, .int .i64 m.u]]).run Tryz.prog w = .ok (.tuple #[]) w1 ∧ KeysAtC w1 mb T' ∧ KeptOff (fun k => k = mb) w w1 := by
  obtain ⟨D, h1, h2, h3, h4⟩ := h
  have htidy := h1.tidy sendLawC
  have hs := hasS_erase hp hU
  have hin : hasS T m.k.f m.u = true := hasS_iff.2 ⟨m, hp.mem_iff.1 (List.mem_cons_self ..), rfl, rfl⟩
  obtain ⟨w1, hrun, hown, hturn⟩ := h1.drop sendLawC Tryz.underlying89 (keyOf_sendC hm.1.2.1 hm.2.2.2) ty
  have hU' := List.pairwise_cons.1 (hU.perm hp.symm)
  refine ⟨w1, hrun, ⟨_, ownsMap_tightC hown, ?_, fun f u hf hu => ?_, fun x hx z => ?_⟩, .turned hturn⟩
  · have := size_del htidy (k := sendL m.k.f m.u)
    rw [h3 _ _ hm.1.2.1 hm.2.2.2, hin, h2, ← hp.length_eq, List.length_cons] at this
    simpa using this
  · rw [hs]
    by_cases e : f = m.k.f ∧ u = m.u
    · obtain ⟨rfl, rfl⟩ := e
      rw [has_del_same]
      simp
    · rw [has_del_other (sendL_ne hm.1.2.1 hm.2.2.2 hf hu e), h3 f u hf hu]
      have : (decide (f = m.k.f) && decide (u = m.u)) = false := by
        by_cases a : f = m.k.f <;> by_cases b : u = m.u <;> simp_all
      rw [this]
      simp
  · have hx' : x ∈ T := hp.mem_iff.1 (List.mem_cons_of_mem _ hx)
    have hx2 := hfit x hx'
    have e : ¬ (x.k.f = m.k.f ∧ x.u = m.u) := fun e => hU'.1 x hx ⟨e.1.symm, e.2.symm⟩
    rw [atKey_del_other (sendL_ne hm.1.2.1 hm.2.2.2 hx2.1.2.1 hx2.2.2.2 e), h4 x hx']
end
end Go.Proofs.YtjlbkdghlijoeaaGreat
