/-
  The entry that a message would make: next.
-/
import Derived.Test.YtminfmjgmmkaoaaGreatDoorGI
import Derived.Deep.CutRange
import Derived.Deep.MidRow
import Derived.Deep.RegionHeld3
namespace Go.Proofs.YtminfmjgmmkaoaaGreatDoor
open Go.ChangeShapes Go.WideShapes Go.ChangeAt Go.Shelf Go.RowKit Go.Lib Go.Sort Go.Deep
set_option linter.unusedVariables false
set_option maxRecDepth 4000
set_option linter.unusedSimpArgs false

/-- The cells of an entry. -/
def entC (m : M) (s : Sta) (f : Int) (sv : Value) : List Value := encMs m ++ encSt s ++ [Value.int .i64 f, sv]
def z10 : Array Value := #[.int .i64 0, .int .i64 0, .int .i64 0, .int .i64 0, .int .i64 0, .int .i64 0, .int .i64 0, .int .i64 0, .int .i64 0, .int .i64 0]
def z19 : Array Value := #[.int .i64 0, .int .i64 0, .int .i64 0, .int .i64 0, .int .i64 0, .int .i64 0, .bool false, .int .i64 0, .int .i64 0, .int .i64 0, .int .i64 0, .int .i64 0, .int .i64 0, .int .i64 0, .int .i64 0, .int .i64 0, .int .i64 0, .int .i64 0, .slice none 0 0]
theorem infoEn : (Tryz.prog.info? 44).map (·.size) = some 19 := by kernel_rfl
theorem infoS10 : (Tryz.prog.info? 34).map (·.size) = some 10 := by kernel_rfl
theorem z10_one : z10.all (·.oneCell') = true := by simp [z10, Value.oneCell']
theorem z19_one : z19.all (·.oneCell') = true := by simp [z19, Value.oneCell']
/-! What a function returns: rows. -/
theorem results_row_tmp {P : Program} {fn : Func} {p u : Tmp} {ty : TypeId} (h : fn.results = #[.cell p ty, .tmp u]) (tmps : Array Value) (w : World) (g : Nat) (t : TypeId) (cs : Array Value) (d : TypeDesc)
    (hp : tmps.getD p undef = .pointer (some ⟨g, 0, none⟩)) (hg : w.heap[g]? = some (.cells cs t (0, 0)))
    (hu : P.underlying ty = some d) (hd : (match d with | .struct _ | .array _ _ => true | _ => false) = true) (hi : (P.info? ty).map (·.size) = some cs.size) :
    (results fn tmps).run P w = .ok (.tuple #[.agg cs, tmps.getD u undef]) w := by
  rw [results_cell_tmp h, hp]
  have := run_loadVar_row (P := P) w g t ty cs (0, 0) d hg hu hd hi
  simp [asAddr, Result.andThen, this]
theorem results_row_row_tmp {P : Program} {fn : Func} {p q u : Tmp} {ty ty2 : TypeId} (h : fn.results = #[.cell p ty, .cell q ty2, .tmp u]) (tmps : Array Value) (w : World) (g : Nat) (t : TypeId) (cs : Array Value) (d : TypeDesc) (g2 : Nat) (t2 : TypeId) (cs2 : Array Value) (d2 : TypeDesc)
    (hp : tmps.getD p undef = .pointer (some ⟨g, 0, none⟩)) (hg : w.heap[g]? = some (.cells cs t (0, 0)))
    (hu : P.underlying ty = some d) (hd : (match d with | .struct _ | .array _ _ => true | _ => false) = true) (hi : (P.info? ty).map (·.size) = some cs.size)
    (hp2 : tmps.getD q undef = .pointer (some ⟨g2, 0, none⟩)) (hg2 : w.heap[g2]? = some (.cells cs2 t2 (0, 0)))
    (hu2 : P.underlying ty2 = some d2) (hd2 : (match d2 with | .struct _ | .array _ _ => true | _ => false) = true) (hi2 : (P.info? ty2).map (·.size) = some cs2.size) :
    (results fn tmps).run P w = .ok (.tuple #[.agg cs, .agg cs2, tmps.getD u undef]) w := by
  have h1 := run_loadVar_row (P := P) w g t ty cs (0, 0) d hg hu hd hi
  have h2 := run_loadVar_row (P := P) w g2 t2 ty2 cs2 (0, 0) d2 hg2 hu2 hd2 hi2
  have e1 : tmps[p]?.getD undef = .pointer (some ⟨g, 0, none⟩) := by simpa using hp
  have e2 : tmps[q]?.getD undef = .pointer (some ⟨g2, 0, none⟩) := by simpa using hp2
  simp [results, h, Sem.run_bind, Result.andThen, e1, e2, asAddr, h1, h2]
theorem Tri.kept {S : Nat → Prop} {w w1 w2 : World} {A B C : Obj} (h : Tri w w1 A B C) (hk : KeptOff S w1 w2) (hn : ∀ k, S k → w.heap.size + 3 ≤ k) : Tri w w2 A B C :=
  ⟨(hk.block _ (by have := h.sz; omega) (fun e => by have := hn _ e; omega)).trans h.a, (hk.block _ (by have := h.sz; omega) (fun e => by have := hn _ e; omega)).trans h.s, (hk.block _ (by have := h.sz; omega) (fun e => by have := hn _ e; omega)).trans h.m,
    h.b.trans (hk.below (fun k _ e => by have := hn _ e; omega) (by have := h.sz; omega)), Nat.le_trans h.sz hk.size⟩
set_option maxHeartbeats 8000000 in
theorem lgNext_no {w : World} {lb : Nat} {m : M} {uid e : Int} {kv : Value} (hr : ∀ w', Below w.heap.size w w' → Calls Tryz.prog 42 #[.pointer (some ⟨lb, 0, none⟩), m.val, .int .i64 uid] w' fun x w2 => x = .returned (.int .i64 e) ∧ Below w'.heap.size w' w2) (he : e ≠ 0) :
    Calls Tryz.prog 30 #[.pointer (some ⟨lb, 0, none⟩), m.val, .int .i64 uid, kv] w fun x w' => x = .returned (.tuple #[.agg z19, .agg z10, .int .i64 e]) ∧ Below w.heap.size w w' := by
  have hr' := fun (o1 o2 o3 : Obj) => hr _ (Tri.mk3 w o1 o2 o3).b
  have F0 := Tri.mk3 w (.cells m.cells 42) (.cells z19 44) (.cells z10 34)
  have he' : (e != 0) = true := by simpa using he
  obtain ⟨⟨t, f, q⟩, to', vv, u, an⟩ := m
  simp only [M.val, M.cells, z19, z10] at *
  have F0' := Lib.hid F0
  clear hr he F0
  go_enter Tryz.func30, Tryz.ntmps30
  go_wp2_with fail
  refine (hr' _ _ _).mono ?_
  rintro x w1 ⟨rfl, hb⟩
  have F := F0'.out.below (hb.mono (by simp))
  have F' := Lib.hid F
  have hE := F.s
  have hS := (setRow_other w1 (w.heap.size + 1) (w.heap.size + 1 + 1) z19 (by omega)).trans F.m
  clear hr' F0' F hb
  go_wp2_with (first
    | (refine wpList_store_row rfl 44 (.tmp 8) (.tmp 22) rfl (w.heap.size + 1) z19 rfl rfl 44 z19 hE infoEn rfl z19_one ?_)
    | (refine wpList_store_row rfl 34 (.tmp 9) (.tmp 23) rfl (w.heap.size + 1 + 1) z10 rfl rfl 34 z10 hS infoS10 rfl z10_one ?_))
  have hE2 := (setRow_other (w1.setRow (w.heap.size + 1) z19) (w.heap.size + 1 + 1) (w.heap.size + 1) z10 (by omega)).trans (setRow_heap (new := z19) hE)
  have hS2 := setRow_heap (new := z10) hS
  have hB := Lib.hid (below_row (below_row F'.out.b (g := w.heap.size + 1) (by omega) z19) (g := w.heap.size + 1 + 1) (by omega) z10)
  generalize (w1.setRow (w.heap.size + 1) z19).setRow (w.heap.size + 1 + 1) z10 = W3 at *
  have hE3 := Lib.hid hE2
  have hS3 := Lib.hid hS2
  clear hE hS hE2 hS2 F'
  go_wp2
  exact bodyPost_ret (results_row_row_tmp (fn := Tryz.f30) rfl _ W3 _ 44 z19 _ _ 34 z10 _ rfl hE3.out Tryz.underlying44 rfl infoEn rfl hS3.out Tryz.underlying34 rfl infoS10) rfl ⟨rfl, hB.out⟩
end Go.Proofs.YtminfmjgmmkaoaaGreatDoor
