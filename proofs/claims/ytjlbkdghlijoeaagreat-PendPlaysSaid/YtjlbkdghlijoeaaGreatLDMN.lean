/-
  The bottom's later half let up, to a new rung.
-/
import Derived.Test.YtjlbkdghlijoeaaGreatLDMH
namespace Go.Proofs.YtjlbkdghlijoeaaGreat
open Go.ChangeShapes Go.WideShapes Go.ChangeAt Go.Shelf Go.RowKit Go.Lib Go.Sort Go.Deep
set_option linter.unusedVariables false

/-- Behind the append of a new rung. -/
theorem spill_first {w : World} {rb : Nat} {most : Int} {g off cap : Nat} {av : Value} {B : List M} (h : RungsOf w rb most (.slice (some ⟨g, off, none⟩) B.length cap) B av []) :
    ∀ v' w4, Hid (RowAt w4 178 8 v' (0 + 1) (flatU [] ++ flatU [zeroU])) → Hid (KeptC (vext av 8) (w.alloc (.cells #[Value.slice none 0 0, .int .i64 0, .int .i64 0, .int .i64 0, .int .i64 0, .int .i64 0, .int .i64 0, .bool false] 178)) w4) → Hid (∀ k q, vext v' 8 k q → vext av 8 k q ∨ (w.alloc (.cells #[Value.slice none 0 0, .int .i64 0, .int .i64 0, .int .i64 0, .int .i64 0, .int .i64 0, .int .i64 0, .bool false] 178)).heap.size ≤ k) →
      ∃ ag aoff acap : Nat, v' = .slice (some ⟨ag, aoff, none⟩) 1 acap ∧ w4.cell? ⟨rb, 2, none⟩ = some av ∧ w4.frozen? ⟨rb, 2, none⟩ = false ∧ Hid (RungsRes w rb most (.slice (some ⟨g, off, none⟩) B.length cap) av [] (w4.setCell ⟨rb, 2, none⟩ (.slice (some ⟨ag, aoff, none⟩) 1 acap)) B [zeroU] (.slice (some ⟨g, off, none⟩) B.length cap) (.slice (some ⟨ag, aoff, none⟩) 1 acap)) := by
  intro v' w4 r1 r2 r3
  have hb : Below w.heap.size w (w.alloc (.cells #[Value.slice none 0 0, .int .i64 0, .int .i64 0, .int .i64 0, .int .i64 0, .int .i64 0, .int .i64 0, .bool false] 178)) := (Below.refl _ w).alloc (Nat.le_refl _) _
  generalize w.alloc (.cells #[Value.slice none 0 0, .int .i64 0, .int .i64 0, .int .i64 0, .int .i64 0, .int .i64 0, .int .i64 0, .bool false] 178) = W1 at *
  have h1 := h.below hb
  have hf : AtU w4 v' [zeroU] := r1.out
  obtain ⟨ag, aoff, acap, rfl, hR⟩ := AtU.form hf (by simp)
  obtain ⟨q1, q2⟩ := cell_keptC h1.row h1.c2 r2.out (fun e => h1.av_rb e.own rfl)
  obtain ⟨p1, p2, p3⟩ := h1.pushAv (u := zeroU) r1.out r2.out r3.out (RowAt.nil _ _ _) (fun x _ k o _ e => vext_nil e)
  refine ⟨ag, aoff, acap, rfl, q1, q2, RungsRes.from_below hb ⟨p1, p2, fun k e => ?_⟩⟩
  rcases p3 k e with e | e | e
  · exact .inl e
  · exact .inr e
  · cases e

set_option maxHeartbeats 8000000 in
set_option maxRecDepth 100000 in
theorem spill_new {w : World} {rb : Nat} {most : Int} {g off cap : Nat} {av : Value} {B : List M} (h : RungsOf w rb most (.slice (some ⟨g, off, none⟩) B.length cap) B av []) {half : Nat} (hh : half = (B.length + 1) / 2) (hB : 2 ≤ B.length) (hl : B.length < 900000) :
    Calls Tryz.prog 137 #[.pointer (some ⟨rb, 0, none⟩)] w fun e w' => e = .returned (.tuple #[]) ∧ ∃ av', HalfUp w rb most (.slice (some ⟨g, off, none⟩) B.length cap) av [] B half [] [] av' w' := by
  have mixed := mixed
  obtain ⟨i0, hi, hz0, hz1, hz2⟩ := info_parts infoM
  obtain ⟨i8, hi8, hz80, hz81, hz82⟩ := info_parts infoU
  have hl' := Lib.hid hl
  obtain ⟨aa, acap0, rfl, hacap⟩ := RowAt.shape h.abv
  have c0 := h.c0
  have c2 := h.c2
  have hfst := Lib.hid (spill_first h)
  have hf2 := h.fz 2
  obtain ⟨u, hu⟩ : ∃ u : Up, u = zeroU := ⟨_, rfl⟩
  obtain ⟨X, hX0⟩ : ∃ X : List Up, X = [] := ⟨_, rfl⟩
  have hXl : X.length = 0 := by rw [hX0]; rfl
  have hul0 : u.L.length = 0 := by rw [hu]; rfl
  have hX1 : IntKind.i64.wrap (((X.length + 1 : Nat) : Int) - 1) = (X.length : Int) := by rw [IntKind.wrap_i64]; omega
  have hX1' : IntKind.i64.wrap ((X.length : Int) + 1 - 1) = (X.length : Int) := by rw [IntKind.wrap_i64]; omega
  have hXw : IntKind.i64.wrap (X.length : Int) = (X.length : Int) := IntWalk.i64_in _ (by omega)
  have hX2 : (X.length : Int) < ((X.length + 1 : Nat) : Int) := by omega
  have hX3 : (X.length : Int) < (X.length : Int) + 1 := by omega
  have hw1 := half_wrap (n := B.length) (by omega)
  have hone := flat_one (B.drop half)
  have hhb : half < B.length := by omega
  have hcap : half < cap := by
    rcases h.bot with ⟨e, _⟩ | ⟨g', off', cap', e, hR⟩
    · cases e
    · cases e
      have := RowIn.bounds hR
      omega
  have h63 : u.L.length + (B.length - half) ≤ maxLen := by unfold maxLen; omega
  have hby : (u.L.length + (B.length - half)) * 56 ≤ 140737488355328 := by omega
  have hdiv : ((B.length : Int) + 1) / 2 = (half : Int) := by omega
  have hdiv2 : ((B.length : Int) + 1).tdiv 2 = (half : Int) := by rw [Int.tdiv_eq_ediv_of_nonneg (by omega)]; exact hdiv
  have hwh : IntKind.i64.wrap (half : Int) = (half : Int) := IntWalk.i64_in _ (by omega)
  have hh1 : (half : Int) ≤ (B.length : Int) := by omega
  have hh2 : half ≤ B.length := by omega
  have hh3 : (half : Int) < (B.length : Int) := by omega
  have hh4 : ¬ cap = half := by omega
  have hh5 : (half : Int) ≤ (cap : Int) := by omega
  have hh6 : half ≤ cap := by omega
  have hbel : Below w.heap.size w (w.alloc (.cells #[Value.slice none 0 0, .int .i64 0, .int .i64 0, .int .i64 0, .int .i64 0, .int .i64 0, .int .i64 0, .bool false] 178)) := (Below.refl _ w).alloc (Nat.le_refl _) _
  have habv := Lib.hid (RowAt.below h.abv hbel)
  have hone8 : ∀ x ∈ flatU [zeroU], x.oneCell' = true := flatU_one (fun x hx => by rw [List.mem_singleton.1 hx]; rfl)
  have hnew : Hid (RowAt (w.alloc (.cells #[Value.slice none 0 0, .int .i64 0, .int .i64 0, .int .i64 0, .int .i64 0, .int .i64 0, .int .i64 0, .bool false] 178)) 178 8 (.slice (some ⟨w.heap.size, 0, none⟩) 1 1) 1 (flatU [zeroU])) :=
    (RowIn.of_block (heap_alloc_new w _) rfl).at_
  have h64 : 0 + 1 ≤ maxLen := by unfold maxLen; omega
  have hby8 : (0 + 1) * 80 ≤ 140737488355328 := by omega
  have hz : ¬ w.heap.size = rb := by have := h.rlt; omega
  have c2a : (w.alloc (.cells #[Value.slice none 0 0, .int .i64 0, .int .i64 0, .int .i64 0, .int .i64 0, .int .i64 0, .int .i64 0, .bool false] 178)).cell? ⟨rb, 2, none⟩ = some (.slice aa ([] : List Up).length acap0) := (hbel.cell (p := ⟨rb, 2, none⟩) h.rlt).trans c2
  clear hbel hl hz
  go_enter Tryz.func137, Tryz.ntmps137
  go_upto_region 2 with (refine wpList_append_rowC rfl (.tmp 14) (.tmp 16) 106 rfl habv.out i8 _ 80 Tryz.underlying106 hi8 hz80 hz81 hz82 rfl (by omega) (by rfl) (by rfl) hnew.out hone8 h64 hby8 ?_; intro v1 w1 r1 r2 r3; obtain ⟨ag, aoff, acap, rfl, q1, q2, hres⟩ := hfst.out v1 w1 r1 r2 r3; clear r1 r2 r3)
  obtain ⟨w5, e5⟩ : ∃ w5, w5 = w1.setCell ⟨rb, 2, none⟩ (.slice (some ⟨ag, aoff, none⟩) 1 acap) := ⟨_, rfl⟩
  rw [← e5] at hres ⊢
  clear q1 q2 e5 c2a hfst habv hnew c0 c2
  have h5 : RungsOf w5 rb most (.slice (some ⟨g, off, none⟩) B.length cap) B (.slice (some ⟨ag, aoff, none⟩) (X.length + 1) acap) (X ++ [u]) := by
    rw [hXl, hX0, hu]
    exact hres.out.1
  have c0 := h5.c0
  have c2 := h5.c2
  have hrun0 := Lib.hid (spill_run h5 hh hB)
  have hout : Hid (∀ w', HalfUp w5 rb most (.slice (some ⟨g, off, none⟩) B.length cap) (.slice (some ⟨ag, aoff, none⟩) (X.length + 1) acap) (X ++ [u]) B half X u.L (.slice (some ⟨ag, aoff, none⟩) (X.length + 1) acap) w' → ∃ av', HalfUp w rb most (.slice (some ⟨g, off, none⟩) B.length cap) (.slice aa ([] : List Up).length acap0) [] B half [] [] av' w') := by
    intro w' hw
    rw [hXl, hX0, hu] at hw
    obtain ⟨v', bv', hq⟩ := hw
    exact ⟨_, v', bv', hres.out.trans hq⟩
  clear h5 hB hh hres h hXl hX0 hu hul0
  generalize HalfUp w5 rb most (.slice (some ⟨g, off, none⟩) B.length cap) (.slice (some ⟨ag, aoff, none⟩) (X.length + 1) acap) (X ++ [u]) B half X u.L (.slice (some ⟨ag, aoff, none⟩) (X.length + 1) acap) = R at *
  generalize w5 = w0 at *
  have hsz := rsize_any c0
  go_upto_region 3 with (go_at_call 132; refine hsz.mono ?_; rintro e w2 ⟨rfl, rfl⟩)
  go_quiet (fail)
  obtain ⟨⟨hul, hdr, hst⟩, d0, d1⟩ := hrun0.out (w0.drewN nq) (Read.drew w0 nq).below
  have hul := Lib.hid hul
  have hdr := Lib.hid hdr
  have hst := Lib.hid hst
  clear c0 c2 hsz hrun0
  generalize w0.drewN nq = W at *
  go_upto_region 4 with (fail)
  refine wp_region_any (by kernel_rfl) ?_
  change wpAny _ _ _ _ _ _ _ (World.drew _)
  refine wpAny_take (i := 0) (oi := { dst := some 38, op := Op.move (Operand.tmp 3), type := 182, pos := "rungs.go:89", after := #[], guard := none }) (v := ?vv0_1) rfl (by kernel_rfl) (by kernel_rfl) (by kernel_rfl) (fun _ _ _ h => h) (Or.inl ⟨by rfl, ?hy0_1⟩) ?rest0_1
  case hy0_1 =>
    intro w
    go_simp
    try with_reducible rfl
  try simp only [Act.put, List.setIfInBounds_toArray, List.set_cons_zero, List.set_cons_succ]
  refine wpAny_take (i := 1) (oi := { dst := some 39, op := Op.move (Operand.tmp 3), type := 182, pos := "rungs.go:89", after := #[], guard := none }) (v := ?vv1_2) rfl (by kernel_rfl) (by kernel_rfl) (by kernel_rfl) (fun _ _ _ h => h) (Or.inl ⟨by rfl, ?hy1_2⟩) ?rest1_2
  case hy1_2 =>
    intro w
    go_simp
    try with_reducible rfl
  try simp only [Act.put, List.setIfInBounds_toArray, List.set_cons_zero, List.set_cons_succ]
  refine wpAny_take (i := 2) (oi := { dst := some 40, op := Op.nilCheck (Operand.tmp 39), type := 0, pos := "rungs.go:89", after := #[{ on := 1, ground := Ground.data }], guard := none }) (v := ?vv2_3) rfl (by kernel_rfl) (by kernel_rfl) (by kernel_rfl) (fun _ _ _ h => h) (Or.inl ⟨by rfl, ?hy2_3⟩) ?rest2_3
  case hy2_3 =>
    intro w
    go_simp
    try with_reducible rfl
  try simp only [Act.put, List.setIfInBounds_toArray, List.set_cons_zero, List.set_cons_succ]
  refine wpAny_take (i := 3) (oi := { dst := some 41, op := Op.fieldAddr 178 (Operand.tmp 40) 0, type := 0, pos := "rungs.go:89", after := #[{ on := 2, ground := Ground.data }], guard := none }) (v := ?vv3_4) rfl (by kernel_rfl) (by kernel_rfl) (by kernel_rfl) (fun _ _ _ h => h) (Or.inl ⟨by rfl, ?hy3_4⟩) ?rest3_4
  case hy3_4 =>
    intro w
    go_simp
    try with_reducible rfl
  try simp only [Act.put, List.setIfInBounds_toArray, List.set_cons_zero, List.set_cons_succ]
  refine wpAny_take (i := 4) (oi := { dst := some 42, op := Op.fieldAddr 103 (Operand.tmp 41) 0, type := 0, pos := "rungs.go:89", after := #[{ on := 3, ground := Ground.data }], guard := none }) (v := ?vv4_5) rfl (by kernel_rfl) (by kernel_rfl) (by kernel_rfl) (fun _ _ _ h => h) (Or.inl ⟨by rfl, ?hy4_5⟩) ?rest4_5
  case hy4_5 =>
    intro w
    go_simp
    try with_reducible rfl
  try simp only [Act.put, List.setIfInBounds_toArray, List.set_cons_zero, List.set_cons_succ]
  refine wpAny_take (i := 6) (oi := { dst := some 44, op := Op.move (Operand.tmp 0), type := 92, pos := "rungs.go:89", after := #[], guard := none }) (v := ?vv6_6) rfl (by kernel_rfl) (by kernel_rfl) (by kernel_rfl) (fun _ _ _ h => h) (Or.inl ⟨by rfl, ?hy6_6⟩) ?rest6_6
  case hy6_6 =>
    intro w
    go_simp
    try with_reducible rfl
  try simp only [Act.put, List.setIfInBounds_toArray, List.set_cons_zero, List.set_cons_succ]
  refine wpAny_take (i := 7) (oi := { dst := some 45, op := Op.nilCheck (Operand.tmp 44), type := 0, pos := "rungs.go:89", after := #[{ on := 6, ground := Ground.data }], guard := none }) (v := ?vv7_7) rfl (by kernel_rfl) (by kernel_rfl) (by kernel_rfl) (fun _ _ _ h => h) (Or.inl ⟨by rfl, ?hy7_7⟩) ?rest7_7
  case hy7_7 =>
    intro w
    go_simp
    try with_reducible rfl
  try simp only [Act.put, List.setIfInBounds_toArray, List.set_cons_zero, List.set_cons_succ]
  refine wpAny_take (i := 8) (oi := { dst := some 46, op := Op.fieldAddr 108 (Operand.tmp 45) 0, type := 0, pos := "rungs.go:89", after := #[{ on := 7, ground := Ground.data }], guard := none }) (v := ?vv8_8) rfl (by kernel_rfl) (by kernel_rfl) (by kernel_rfl) (fun _ _ _ h => h) (Or.inl ⟨by rfl, ?hy8_8⟩) ?rest8_8
  case hy8_8 =>
    intro w
    go_simp
    try with_reducible rfl
  try simp only [Act.put, List.setIfInBounds_toArray, List.set_cons_zero, List.set_cons_succ]
  refine wpAny_take (i := 9) (oi := { dst := some 47, op := Op.fieldAddr 105 (Operand.tmp 46) 0, type := 0, pos := "rungs.go:89", after := #[{ on := 8, ground := Ground.data }], guard := none }) (v := ?vv9_9) rfl (by kernel_rfl) (by kernel_rfl) (by kernel_rfl) (fun _ _ _ h => h) (Or.inl ⟨by rfl, ?hy9_9⟩) ?rest9_9
  case hy9_9 =>
    intro w
    go_simp
    try with_reducible rfl
  try simp only [Act.put, List.setIfInBounds_toArray, List.set_cons_zero, List.set_cons_succ]
  refine wpAny_take (i := 10) (oi := { dst := some 48, op := Op.fieldAddr 103 (Operand.tmp 47) 0, type := 0, pos := "rungs.go:89", after := #[{ on := 9, ground := Ground.data }], guard := none }) (v := ?vv10_10) rfl (by kernel_rfl) (by kernel_rfl) (by kernel_rfl) (fun _ _ _ h => h) (Or.inl ⟨by rfl, ?hy10_10⟩) ?rest10_10
  case hy10_10 =>
    intro w
    go_simp
    try with_reducible rfl
  try simp only [Act.put, List.setIfInBounds_toArray, List.set_cons_zero, List.set_cons_succ]
  refine wpAny_take (i := 12) (oi := { dst := some 50, op := Op.move (Operand.tmp 2), type := 3, pos := "rungs.go:89", after := #[], guard := none }) (v := ?vv12_11) rfl (by kernel_rfl) (by kernel_rfl) (by kernel_rfl) (fun _ _ _ h => h) (Or.inl ⟨by rfl, ?hy12_11⟩) ?rest12_11
  case hy12_11 =>
    intro w
    go_simp
    try with_reducible rfl
  try simp only [Act.put, List.setIfInBounds_toArray, List.set_cons_zero, List.set_cons_succ]
  refine wpAny_ready (rs := [5, 11]) (by kernel_rfl) (by simp) ?_
  refine AllReady.cons (o := { dst := some 43, op := Op.load 38 (Operand.tmp 42), type := 38, pos := "rungs.go:89", after := #[{ on := 4, ground := Ground.data }], guard := none }) rfl (fun K hK => ?_) ?_
  · go_simp
    refine hK _ _ ?_
    clear hK K
    try simp only [Act.put, List.setIfInBounds_toArray, List.set_cons_zero, List.set_cons_succ]
    refine wpAny_ready (rs := [11]) (by kernel_rfl) (by simp) ?_
    refine AllReady.cons (o := { dst := some 49, op := Op.load 38 (Operand.tmp 48), type := 38, pos := "rungs.go:89", after := #[{ on := 10, ground := Ground.data }], guard := none }) rfl (fun K hK => ?_) AllReady.nil
    go_simp
    refine hK _ _ ?_
    clear hK K
    try simp only [Act.put, List.setIfInBounds_toArray, List.set_cons_zero, List.set_cons_succ]
    refine wpAny_take (i := 13) (oi := { dst := some 51, op := Op.slice 38 (Operand.tmp 49) (some (Operand.tmp 50)) none none, type := 38, pos := "rungs.go:89", after := #[{ on := 11, ground := Ground.data }, { on := 12, ground := Ground.data }], guard := none }) (v := ?vv13_12) rfl (by kernel_rfl) (by kernel_rfl) (by kernel_rfl) (fun _ _ _ h => h) (Or.inl ⟨by rfl, ?hy13_12⟩) ?rest13_12
    case hy13_12 =>
      intro w
      go_simp
      try with_reducible rfl
    try simp only [Act.put, List.setIfInBounds_toArray, List.set_cons_zero, List.set_cons_succ]
    refine wpAny_ready (rs := [14]) (by kernel_rfl) (by simp) ?_
    refine AllReady.cons (o := { dst := some 52, op := Op.call { callee := Callee.builtin Builtin.append, args := #[Operand.tmp 43, Operand.tmp 51], argTypes := #[38, 38] }, type := 38, pos := "rungs.go:89", after := #[{ on := 5, ground := Ground.data }, { on := 13, ground := Ground.data }], guard := none }) rfl (fun K hK => ?_) AllReady.nil
    refine step_append_rowC (by rfl) _ _ _ (by rfl) hul.out i0 _ 56 Tryz.underlying38 hi hz0 hz1 hz2 rfl (by omega) (by rfl) (by rfl) hdr.out hone h63 hby ?_
    intro v' w4 r1 r2 r3
    obtain ⟨a4, c4, rfl, -⟩ := RowAt.shape r1.out
    obtain ⟨q0, q1, q2, hR4⟩ := hst.out _ w4 r1 r2 r3
    refine hK _ _ ?_
    clear hK K
    try simp only [Act.put, List.setIfInBounds_toArray, List.set_cons_zero, List.set_cons_succ]
    refine wpAny_take (i := 15) (oi := { dst := some 53, op := Op.nilCheck (Operand.tmp 38), type := 0, pos := "rungs.go:89", after := #[{ on := 0, ground := Ground.data }, { on := 0, ground := Ground.phase }, { on := 1, ground := Ground.phase }, { on := 2, ground := Ground.phase }, { on := 3, ground := Ground.phase }, { on := 4, ground := Ground.phase }, { on := 5, ground := Ground.phase }, { on := 6, ground := Ground.phase }, { on := 7, ground := Ground.phase }, { on := 8, ground := Ground.phase }, { on := 9, ground := Ground.phase }, { on := 10, ground := Ground.phase }, { on := 11, ground := Ground.phase }, { on := 12, ground := Ground.phase }, { on := 13, ground := Ground.phase }, { on := 14, ground := Ground.phase }], guard := none }) (v := ?vv15_13) rfl (by kernel_rfl) (by kernel_rfl) (by kernel_rfl) (fun _ _ _ h => h) (Or.inl ⟨by rfl, ?hy15_13⟩) ?rest15_13
    case hy15_13 =>
      intro w
      go_simp
      try with_reducible rfl
    try simp only [Act.put, List.setIfInBounds_toArray, List.set_cons_zero, List.set_cons_succ]
    refine wpAny_take (i := 16) (oi := { dst := some 54, op := Op.fieldAddr 178 (Operand.tmp 53) 0, type := 0, pos := "rungs.go:89", after := #[{ on := 15, ground := Ground.data }, { on := 0, ground := Ground.phase }, { on := 1, ground := Ground.phase }, { on := 2, ground := Ground.phase }, { on := 3, ground := Ground.phase }, { on := 4, ground := Ground.phase }, { on := 5, ground := Ground.phase }, { on := 6, ground := Ground.phase }, { on := 7, ground := Ground.phase }, { on := 8, ground := Ground.phase }, { on := 9, ground := Ground.phase }, { on := 10, ground := Ground.phase }, { on := 11, ground := Ground.phase }, { on := 12, ground := Ground.phase }, { on := 13, ground := Ground.phase }, { on := 14, ground := Ground.phase }], guard := none }) (v := ?vv16_14) rfl (by kernel_rfl) (by kernel_rfl) (by kernel_rfl) (fun _ _ _ h => h) (Or.inl ⟨by rfl, ?hy16_14⟩) ?rest16_14
    case hy16_14 =>
      intro w
      go_simp
      try with_reducible rfl
    try simp only [Act.put, List.setIfInBounds_toArray, List.set_cons_zero, List.set_cons_succ]
    refine wpAny_take (i := 17) (oi := { dst := some 55, op := Op.fieldAddr 103 (Operand.tmp 54) 0, type := 0, pos := "rungs.go:89", after := #[{ on := 16, ground := Ground.data }, { on := 0, ground := Ground.phase }, { on := 1, ground := Ground.phase }, { on := 2, ground := Ground.phase }, { on := 3, ground := Ground.phase }, { on := 4, ground := Ground.phase }, { on := 5, ground := Ground.phase }, { on := 6, ground := Ground.phase }, { on := 7, ground := Ground.phase }, { on := 8, ground := Ground.phase }, { on := 9, ground := Ground.phase }, { on := 10, ground := Ground.phase }, { on := 11, ground := Ground.phase }, { on := 12, ground := Ground.phase }, { on := 13, ground := Ground.phase }, { on := 14, ground := Ground.phase }], guard := none }) (v := ?vv17_15) rfl (by kernel_rfl) (by kernel_rfl) (by kernel_rfl) (fun _ _ _ h => h) (Or.inl ⟨by rfl, ?hy17_15⟩) ?rest17_15
    case hy17_15 =>
      intro w
      go_simp
      try with_reducible rfl
    try simp only [Act.put, List.setIfInBounds_toArray, List.set_cons_zero, List.set_cons_succ]
    refine wpAny_ready (rs := [18]) (by kernel_rfl) (by simp) ?_
    refine AllReady.cons (o := { dst := none, op := Op.store 38 (Operand.tmp 55) (Operand.tmp 52), type := 0, pos := "rungs.go:89", after := #[{ on := 17, ground := Ground.data }, { on := 14, ground := Ground.data }, { on := 14, ground := Ground.chain }, { on := 0, ground := Ground.phase }, { on := 1, ground := Ground.phase }, { on := 2, ground := Ground.phase }, { on := 3, ground := Ground.phase }, { on := 4, ground := Ground.phase }, { on := 5, ground := Ground.phase }, { on := 6, ground := Ground.phase }, { on := 7, ground := Ground.phase }, { on := 8, ground := Ground.phase }, { on := 9, ground := Ground.phase }, { on := 10, ground := Ground.phase }, { on := 11, ground := Ground.phase }, { on := 12, ground := Ground.phase }, { on := 13, ground := Ground.phase }, { on := 14, ground := Ground.phase }], guard := none }) rfl (fun K hK => ?_) AllReady.nil
    go_simp
    refine hK _ _ ?_
    clear hK K
    try simp only [Act.put, List.setIfInBounds_toArray, List.set_cons_zero, List.set_cons_succ]
    refine wpAny_done (by kernel_rfl) ?_ _
    obtain ⟨W5, e5, b0, ⟨-, m0, m1, m2, m3, m4, m5, m6⟩, w6, hrun6, b6, f6, hfin⟩ := hR4.out
    generalize B.getD half default = m at m0 m1 m2 m3 m4 m5 m6 hrun6
    have hfin' := Lib.hid hfin
    have hrun6' := Lib.hid hrun6
    rw [← e5]
    clear e5 hfin q1 q2 d0 d1 hul hdr hst hR4 r1 r2 r3 hrun6
    go_upto_region 5 with (fail)
    refine wp_region_lit ?_
    iterate 36 go_step
    refine wpList_store_run rfl 34 (.tmp 67) (.tmp 65) rfl _ _ rfl rfl hrun6'.out ?_
    go_wp2
    go_end0
    exact ⟨rfl, hout.out _ hfin'.out⟩
  refine AllReady.cons (o := { dst := some 49, op := Op.load 38 (Operand.tmp 48), type := 38, pos := "rungs.go:89", after := #[{ on := 10, ground := Ground.data }], guard := none }) rfl (fun K hK => ?_) ?_
  · go_simp
    refine hK _ _ ?_
    clear hK K
    try simp only [Act.put, List.setIfInBounds_toArray, List.set_cons_zero, List.set_cons_succ]
    refine wpAny_take (i := 13) (oi := { dst := some 51, op := Op.slice 38 (Operand.tmp 49) (some (Operand.tmp 50)) none none, type := 38, pos := "rungs.go:89", after := #[{ on := 11, ground := Ground.data }, { on := 12, ground := Ground.data }], guard := none }) (v := ?vv13_16) rfl (by kernel_rfl) (by kernel_rfl) (by kernel_rfl) (fun _ _ _ h => h) (Or.inl ⟨by rfl, ?hy13_16⟩) ?rest13_16
    case hy13_16 =>
      intro w
      go_simp
      try with_reducible rfl
    try simp only [Act.put, List.setIfInBounds_toArray, List.set_cons_zero, List.set_cons_succ]
    refine wpAny_ready (rs := [5]) (by kernel_rfl) (by simp) ?_
    refine AllReady.cons (o := { dst := some 43, op := Op.load 38 (Operand.tmp 42), type := 38, pos := "rungs.go:89", after := #[{ on := 4, ground := Ground.data }], guard := none }) rfl (fun K hK => ?_) AllReady.nil
    go_simp
    refine hK _ _ ?_
    clear hK K
    try simp only [Act.put, List.setIfInBounds_toArray, List.set_cons_zero, List.set_cons_succ]
    refine wpAny_ready (rs := [14]) (by kernel_rfl) (by simp) ?_
    refine AllReady.cons (o := { dst := some 52, op := Op.call { callee := Callee.builtin Builtin.append, args := #[Operand.tmp 43, Operand.tmp 51], argTypes := #[38, 38] }, type := 38, pos := "rungs.go:89", after := #[{ on := 5, ground := Ground.data }, { on := 13, ground := Ground.data }], guard := none }) rfl (fun K hK => ?_) AllReady.nil
    refine step_append_rowC (by rfl) _ _ _ (by rfl) hul.out i0 _ 56 Tryz.underlying38 hi hz0 hz1 hz2 rfl (by omega) (by rfl) (by rfl) hdr.out hone h63 hby ?_
    intro v' w4 r1 r2 r3
    obtain ⟨a4, c4, rfl, -⟩ := RowAt.shape r1.out
    obtain ⟨q0, q1, q2, hR4⟩ := hst.out _ w4 r1 r2 r3
    refine hK _ _ ?_
    clear hK K
    try simp only [Act.put, List.setIfInBounds_toArray, List.set_cons_zero, List.set_cons_succ]
    refine wpAny_take (i := 15) (oi := { dst := some 53, op := Op.nilCheck (Operand.tmp 38), type := 0, pos := "rungs.go:89", after := #[{ on := 0, ground := Ground.data }, { on := 0, ground := Ground.phase }, { on := 1, ground := Ground.phase }, { on := 2, ground := Ground.phase }, { on := 3, ground := Ground.phase }, { on := 4, ground := Ground.phase }, { on := 5, ground := Ground.phase }, { on := 6, ground := Ground.phase }, { on := 7, ground := Ground.phase }, { on := 8, ground := Ground.phase }, { on := 9, ground := Ground.phase }, { on := 10, ground := Ground.phase }, { on := 11, ground := Ground.phase }, { on := 12, ground := Ground.phase }, { on := 13, ground := Ground.phase }, { on := 14, ground := Ground.phase }], guard := none }) (v := ?vv15_17) rfl (by kernel_rfl) (by kernel_rfl) (by kernel_rfl) (fun _ _ _ h => h) (Or.inl ⟨by rfl, ?hy15_17⟩) ?rest15_17
    case hy15_17 =>
      intro w
      go_simp
      try with_reducible rfl
    try simp only [Act.put, List.setIfInBounds_toArray, List.set_cons_zero, List.set_cons_succ]
    refine wpAny_take (i := 16) (oi := { dst := some 54, op := Op.fieldAddr 178 (Operand.tmp 53) 0, type := 0, pos := "rungs.go:89", after := #[{ on := 15, ground := Ground.data }, { on := 0, ground := Ground.phase }, { on := 1, ground := Ground.phase }, { on := 2, ground := Ground.phase }, { on := 3, ground := Ground.phase }, { on := 4, ground := Ground.phase }, { on := 5, ground := Ground.phase }, { on := 6, ground := Ground.phase }, { on := 7, ground := Ground.phase }, { on := 8, ground := Ground.phase }, { on := 9, ground := Ground.phase }, { on := 10, ground := Ground.phase }, { on := 11, ground := Ground.phase }, { on := 12, ground := Ground.phase }, { on := 13, ground := Ground.phase }, { on := 14, ground := Ground.phase }], guard := none }) (v := ?vv16_18) rfl (by kernel_rfl) (by kernel_rfl) (by kernel_rfl) (fun _ _ _ h => h) (Or.inl ⟨by rfl, ?hy16_18⟩) ?rest16_18
    case hy16_18 =>
      intro w
      go_simp
      try with_reducible rfl
    try simp only [Act.put, List.setIfInBounds_toArray, List.set_cons_zero, List.set_cons_succ]
    refine wpAny_take (i := 17) (oi := { dst := some 55, op := Op.fieldAddr 103 (Operand.tmp 54) 0, type := 0, pos := "rungs.go:89", after := #[{ on := 16, ground := Ground.data }, { on := 0, ground := Ground.phase }, { on := 1, ground := Ground.phase }, { on := 2, ground := Ground.phase }, { on := 3, ground := Ground.phase }, { on := 4, ground := Ground.phase }, { on := 5, ground := Ground.phase }, { on := 6, ground := Ground.phase }, { on := 7, ground := Ground.phase }, { on := 8, ground := Ground.phase }, { on := 9, ground := Ground.phase }, { on := 10, ground := Ground.phase }, { on := 11, ground := Ground.phase }, { on := 12, ground := Ground.phase }, { on := 13, ground := Ground.phase }, { on := 14, ground := Ground.phase }], guard := none }) (v := ?vv17_19) rfl (by kernel_rfl) (by kernel_rfl) (by kernel_rfl) (fun _ _ _ h => h) (Or.inl ⟨by rfl, ?hy17_19⟩) ?rest17_19
    case hy17_19 =>
      intro w
      go_simp
      try with_reducible rfl
    try simp only [Act.put, List.setIfInBounds_toArray, List.set_cons_zero, List.set_cons_succ]
    refine wpAny_ready (rs := [18]) (by kernel_rfl) (by simp) ?_
    refine AllReady.cons (o := { dst := none, op := Op.store 38 (Operand.tmp 55) (Operand.tmp 52), type := 0, pos := "rungs.go:89", after := #[{ on := 17, ground := Ground.data }, { on := 14, ground := Ground.data }, { on := 14, ground := Ground.chain }, { on := 0, ground := Ground.phase }, { on := 1, ground := Ground.phase }, { on := 2, ground := Ground.phase }, { on := 3, ground := Ground.phase }, { on := 4, ground := Ground.phase }, { on := 5, ground := Ground.phase }, { on := 6, ground := Ground.phase }, { on := 7, ground := Ground.phase }, { on := 8, ground := Ground.phase }, { on := 9, ground := Ground.phase }, { on := 10, ground := Ground.phase }, { on := 11, ground := Ground.phase }, { on := 12, ground := Ground.phase }, { on := 13, ground := Ground.phase }, { on := 14, ground := Ground.phase }], guard := none }) rfl (fun K hK => ?_) AllReady.nil
    go_simp
    refine hK _ _ ?_
    clear hK K
    try simp only [Act.put, List.setIfInBounds_toArray, List.set_cons_zero, List.set_cons_succ]
    refine wpAny_done (by kernel_rfl) ?_ _
    obtain ⟨W5, e5, b0, ⟨-, m0, m1, m2, m3, m4, m5, m6⟩, w6, hrun6, b6, f6, hfin⟩ := hR4.out
    generalize B.getD half default = m at m0 m1 m2 m3 m4 m5 m6 hrun6
    have hfin' := Lib.hid hfin
    have hrun6' := Lib.hid hrun6
    rw [← e5]
    clear e5 hfin q1 q2 d0 d1 hul hdr hst hR4 r1 r2 r3 hrun6
    go_upto_region 5 with (fail)
    refine wp_region_lit ?_
    iterate 36 go_step
    refine wpList_store_run rfl 34 (.tmp 67) (.tmp 65) rfl _ _ rfl rfl hrun6'.out ?_
    go_wp2
    go_end0
    exact ⟨rfl, hout.out _ hfin'.out⟩
  exact AllReady.nil
end Go.Proofs.YtjlbkdghlijoeaaGreat
