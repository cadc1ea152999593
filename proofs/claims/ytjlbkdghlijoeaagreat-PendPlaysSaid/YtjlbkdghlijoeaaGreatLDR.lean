/-
  Rungs: the lowest one above let down to the bottom.
-/
import Derived.Test.YtjlbkdghlijoeaaGreatLDP
namespace Go.Proofs.YtjlbkdghlijoeaaGreat
open Go.ChangeShapes Go.WideShapes Go.ChangeAt Go.Shelf Go.RowKit Go.Lib Go.Sort Go.Deep
set_option linter.unusedVariables false

def RefSt (w : World) (rb : Nat) (most : Int) (bv av : Value) (us0 : List Up) (Bw : List M) (wr : World) (g off n cap : Nat) : Prop :=
  ∃ l X av', n = l.length ∧ RefIn w wr rb most bv av us0 Bw (.slice (some ⟨g, off, none⟩) n cap) l X av'
def lenOf : Value → Nat
  | .slice _ n _ => n
  | _ => 0
section
variable {w wr : World} {rb : Nat} {most : Int} {bv av : Value} {us0 : List Up} {Bw : List M} {g off n cap : Nat}
theorem RefSt.c (h : RefSt w rb most bv av us0 Bw wr g off n cap) : wr.cell? ⟨rb, 1, none⟩ = some (.int .i64 most) ∧ wr.cell? ⟨rb, 0, none⟩ = some bv ∧ wr.frozen? ⟨rb, 0, none⟩ = false := by
  obtain ⟨l, X, av', hn, h⟩ := h
  exact ⟨h.res.1.c1, h.res.1.c0, h.res.1.fz 0⟩
theorem RefSt.done (h : RefSt w rb most bv av us0 Bw wr g off n cap) (B : List M) : Spilt w rb most bv av us0 B Bw (wr.setCell ⟨rb, 0, none⟩ (.slice (some ⟨g, off, none⟩) n cap)) := by
  obtain ⟨l, X, av', hn, h⟩ := h
  exact h.done
theorem RefSt.round (h : RefSt w rb most bv av us0 Bw wr g off n cap) (hU : Unlike Bw) (h2 : 2 ≤ n) {half : Nat} (hh : half = (n + 1) / 2) (hl : Bw.length < 300000) :
    ∃ (m : M) (aa : Option Addr) (N acap : Nat) (xs ys : List Value), wr.cell? ⟨rb, 2, none⟩ = some (.slice aa N acap) ∧ MsgAt wr g (off + half * 7) m ∧ n ≤ cap ∧ N < 300000 ∧ n < 300000 ∧ (∀ u ∈ ys, u.oneCell' = true) ∧
      ∀ OB, OB = wr.drew.alloc (.cells #[.slice (some ⟨g, off + half * 7, none⟩) (n - half) (cap - half), .int .i64 m.k.t, .int .i64 m.k.f, .int .i64 m.k.s, .int .i64 m.to, .int .i64 m.v, .int .i64 m.u, .bool m.anti] 178) → RowAt OB 178 8 (.slice aa N acap) N xs ∧ RowAt OB 178 8 (.slice (some ⟨wr.drew.heap.size, 0, none⟩) 1 1) 1 ys ∧
        ∀ v' w4, Hid (RowAt w4 178 8 v' (N + 1) (xs ++ ys)) → Hid (KeptC (vext (.slice aa N acap) 8) OB w4) → Hid (∀ k q, vext v' 8 k q → vext (.slice aa N acap) 8 k q ∨ OB.heap.size ≤ k) →
          w4.cell? ⟨rb, 2, none⟩ = some (.slice aa N acap) ∧ w4.frozen? ⟨rb, 2, none⟩ = false ∧ Hid (RefSt w rb most bv av us0 Bw (w4.setCell ⟨rb, 2, none⟩ v') g off half half) := by
  obtain ⟨l, X, av', rfl, h⟩ := h
  have hR : RowM wr g off cap l := by
    obtain ⟨g', off', cap', e, hR⟩ := AtM.form h.at_ (by omega)
    obtain ⟨⟨rfl, rfl⟩, rfl⟩ : (g = g' ∧ off = off') ∧ cap = cap' := by simpa using e
    exact hR
  obtain ⟨aa, acap, hav, -⟩ := RowAt.shape h.res.1.abv
  subst hav
  have hlen := h.same.length_eq
  have hXl := held_rungs (B := l) h.stairs.up.full
  have hll := held_len l X
  have hs : ∀ x ∈ [(⟨.slice (some ⟨g, off + half * 7, none⟩) (l.length - half) (cap - half), l.drop half, l.getD half default⟩ : Up)], x.v.oneCell' = true := fun x hx => by rw [List.mem_singleton.1 hx]; rfl
  refine ⟨l.getD half default, aa, X.length, acap, flatU X, flatU [⟨.slice (some ⟨g, off + half * 7, none⟩) (l.length - half) (cap - half), l.drop half, l.getD half default⟩], h.res.1.c2, RowM.at hR half (by omega), (RowIn.bounds hR).1, by omega, by omega, flatU_one hs, fun OB hOB => ?_⟩
  have hb : Below wr.heap.size wr OB := by
    rw [hOB]
    exact ((Below.refl _ wr).drew).alloc (Nat.le_refl _) _
  refine ⟨RowAt.below h.res.1.abv hb, ?_, fun v' w4 r1 r2 r3 => ?_⟩
  · rw [hOB]
    exact (RowIn.of_block (heap_alloc_new wr.drew _) rfl).at_
  · obtain ⟨q1, q2, q3⟩ := h.push hU hh h2 hb v' w4 r1 r2 r3
    exact ⟨q1, q2, _, _, _, by rw [List.length_take]; omega, q3.out⟩
end
theorem RefSt.start {w : World} {rb : Nat} {most : Int} {bv : Value} {X : List Up} {u : Up} {ag aoff acap : Nat} (h : RungsOf w rb most bv [] (.slice (some ⟨ag, aoff, none⟩) (X.length + 1) acap) (X ++ [u])) (hS : Steps (X ++ [u])) :
    ∀ g cap w1, Hid (w.heap.size ≤ g) → Hid (RowM w1 g 0 cap (stab ltM u.L)) → Hid (Below w.heap.size w w1) → w1.cell? ⟨rb, 2, none⟩ = some (.slice (some ⟨ag, aoff, none⟩) (X.length + 1) acap) ∧ w1.frozen? ⟨rb, 2, none⟩ = false ∧
      Hid (RefSt w rb most bv (.slice (some ⟨ag, aoff, none⟩) (X.length + 1) acap) (X ++ [u]) (held [] (X ++ [u])) (w1.setCell ⟨rb, 2, none⟩ (.slice (some ⟨ag, aoff, none⟩) X.length acap)) g 0 u.L.length cap) := by
  intro g cap w1 hg hR hb
  have h1 := h.below hb.out
  exact ⟨h1.c2, h1.fz 2, _, _, _, (stab_length _).symm, RefIn.start h hS hb.out hg.out hR.out⟩

set_option maxHeartbeats 8000000 in
set_option maxRecDepth 100000 in
theorem refill_any {w : World} {rb : Nat} {most : Int} {bv av : Value} {X : List Up} {u : Up} (h : RungsOf w rb most bv [] av (X ++ [u])) (hS : Steps (X ++ [u])) (hU : Unlike (held [] (X ++ [u]))) (hm1 : 1 ≤ most) (hl : (held [] (X ++ [u])).length < 300000) (B : List M) :
    Calls Tryz.prog 119 #[.pointer (some ⟨rb, 0, none⟩)] w fun e w' => e = .returned (.tuple #[]) ∧ Spilt w rb most bv av (X ++ [u]) B (held [] (X ++ [u])) w' := by
  have mixed := mixed
  obtain ⟨i8, hi8, hz80, hz81, hz82⟩ := info_parts infoU
  obtain ⟨ag, aoff, acap, hav, hRU⟩ := AtU.form h.abv (by simp)
  have hXl1 : (X ++ [u]).length = X.length + 1 := by simp
  rw [hXl1] at hav
  subst hav
  have hu : u ∈ X ++ [u] := List.mem_append_right _ (List.mem_cons_self ..)
  have hrl := held_rungs (B := []) hS.full
  have hul := held_mem (B := []) hu
  have hu0 : 0 < u.L.length := List.length_pos_iff.2 (hS.full u hu)
  have c2 := h.c2
  have hslot : w.cell? ⟨ag, aoff + X.length * 8, none⟩ = some u.v := by
    have := hRU.slot X.length (by simp)
    rw [this]
    congr 1
    simp [List.getD_eq_getElem?_getD]
  have hso := sorted_row (h.each u hu) hu0 (by omega)
  have hst := Lib.hid (RefSt.start h hS)
  have hX1 : IntKind.i64.wrap (((X.length + 1 : Nat) : Int) - 1) = (X.length : Int) := by rw [IntKind.wrap_i64]; omega
  have hX1' : IntKind.i64.wrap ((X.length : Int) + 1 - 1) = (X.length : Int) := by rw [IntKind.wrap_i64]; omega
  have hXw : IntKind.i64.wrap (X.length : Int) = (X.length : Int) := IntWalk.i64_in _ (by omega)
  have hX2 : (X.length : Int) < ((X.length + 1 : Nat) : Int) := by omega
  have hX3 : (X.length : Int) < (X.length : Int) + 1 := by omega
  have hX5 : X.length < X.length + 1 := by omega
  have hX6 : (X.length : Int) ≤ (X.length : Int) + 1 := by omega
  have hXc : X.length ≤ acap := by
    have := RowIn.bounds hRU
    omega
  have hXc2 : X.length + 1 ≤ acap := by
    have := RowIn.bounds hRU
    omega
  have hround := Lib.hid (fun wr g off n cap (hR : Hid (RefSt w rb most bv (.slice (some ⟨ag, aoff, none⟩) (X.length + 1) acap) (X ++ [u]) (held [] (X ++ [u])) wr g off n cap)) (h2 : 2 ≤ n) => RefSt.round hR.out hU h2 (half := (n + 1) / 2) rfl hl)
  have hdone := Lib.hid (fun wr g off n cap (hR : Hid (RefSt w rb most bv (.slice (some ⟨ag, aoff, none⟩) (X.length + 1) acap) (X ++ [u]) (held [] (X ++ [u])) wr g off n cap)) => RefSt.done hR.out B)
  have hcc := Lib.hid (fun wr g off n cap (hR : Hid (RefSt w rb most bv (.slice (some ⟨ag, aoff, none⟩) (X.length + 1) acap) (X ++ [u]) (held [] (X ++ [u])) wr g off n cap)) => RefSt.c hR.out)
  clear h hS hU hl hrl hul hRU hXl1 hu
  generalize Spilt w rb most bv (.slice (some ⟨ag, aoff, none⟩) (X.length + 1) acap) (X ++ [u]) B (held [] (X ++ [u])) = R at *
  generalize hRS : RefSt w rb most bv (.slice (some ⟨ag, aoff, none⟩) (X.length + 1) acap) (X ++ [u]) (held [] (X ++ [u])) = S at *
  clear hRS
  go_enter Tryz.func119, Tryz.ntmps119
  go_upto_region 1 with (fail)
  go_upto_region 2 with (go_at_call 131; refine hso.mono ?_; rintro e w1 ⟨g, cap, rfl, hg, hR, hb⟩)
  obtain ⟨q1, q2, hS0⟩ := hst.out g cap w1 hg hR hb
  clear c2 hslot hso hst hg hR hb
  go_wp2
  generalize w1.setCell ⟨rb, 2, none⟩ (.slice (some ⟨ag, aoff, none⟩) X.length acap) = w2 at *
  go_loopw [3] (fun s3 wr => ∃ g off n cap : Nat, s3 = .slice (some ⟨g, off, none⟩) n cap ∧ 1 ≤ n ∧ Hid (S wr g off n cap)) (fun s3 _ => lenOf s3)
  case atStart => exact ⟨g, 0, _, cap, rfl, hu0, hS0⟩
  case round =>
    clear hS0 q1 q2 hXw hX1 hX1' hX2 hX3 hX5 hX6 hXc hXc2 hu0
    obtain ⟨g, off, n, cap, rfl, hn1, hSt⟩ := hrel
    obtain ⟨c1, c0, f0⟩ := hcc.out wr g off n cap hSt
    by_cases hm : most < (n : Int)
    · have hn2 : 2 ≤ n := by omega
      obtain ⟨m, aa, N, ac, xs, ys, c2, hmm, hnc, hN, hn3, hone, hob⟩ := hround.out wr g off n cap hSt hn2
      obtain ⟨half, hh⟩ : ∃ half, half = (n + 1) / 2 := ⟨_, rfl⟩
      rw [← hh] at hmm hob
      have hob := Lib.hid hob
      have hw1 := half_wrap (n := n) (by omega)
      have hdiv : ((n : Int) + 1) / 2 = (half : Int) := by omega
      have hdiv2 : ((n : Int) + 1).tdiv 2 = (half : Int) := by rw [Int.tdiv_eq_ediv_of_nonneg (by omega)]; exact hdiv
      have hwh : IntKind.i64.wrap (half : Int) = (half : Int) := IntWalk.i64_in _ (by omega)
      have hh1 : (half : Int) ≤ (n : Int) := by omega
      have hh2 : half ≤ n := by omega
      have hh3 : (half : Int) < (n : Int) := by omega
      have hh4 : ¬ cap = half := by omega
      have hh5 : (half : Int) ≤ (cap : Int) := by omega
      have hh6 : half ≤ cap := by omega
      have hh7 : half < n := by omega
      have hh8 : 1 ≤ half := by omega
      have h64 : N + 1 ≤ maxLen := by unfold maxLen; omega
      have hby8 : (N + 1) * 80 ≤ 140737488355328 := by omega
      obtain ⟨-, m0, m1, m2, m3, m4, m5, m6⟩ := hmm
      clear hround hdone hcc hh
      go_upto_region 5 with (fail)
      obtain ⟨habv, hnew, hstep⟩ := hob.out _ rfl
      have habv := Lib.hid habv
      have hnew := Lib.hid hnew
      have hstep := Lib.hid hstep
      have c2a := fun ob => Lib.cell?_alloc_some ob c2
      clear hob
      refine wp_region_any (by kernel_rfl) ?_
      change wpAny _ _ _ _ _ _ _ (World.drew _)
      refine wpAny_take (i := 0) (oi := { dst := some 42, op := Op.move (Operand.tmp 0), type := 92, pos := "rungs.go:101", after := #[], guard := none }) (v := ?vv0_1) rfl (by kernel_rfl) (by kernel_rfl) (by kernel_rfl) (fun _ _ _ h => h) (Or.inl ⟨by rfl, ?hy0_1⟩) ?rest0_1
      case hy0_1 =>
        intro w
        go_simp
        try with_reducible rfl
      try simp only [Act.put, List.setIfInBounds_toArray, List.set_cons_zero, List.set_cons_succ]
      refine wpAny_take (i := 1) (oi := { dst := some 43, op := Op.move (Operand.tmp 0), type := 92, pos := "rungs.go:101", after := #[], guard := none }) (v := ?vv1_2) rfl (by kernel_rfl) (by kernel_rfl) (by kernel_rfl) (fun _ _ _ h => h) (Or.inl ⟨by rfl, ?hy1_2⟩) ?rest1_2
      case hy1_2 =>
        intro w
        go_simp
        try with_reducible rfl
      try simp only [Act.put, List.setIfInBounds_toArray, List.set_cons_zero, List.set_cons_succ]
      refine wpAny_take (i := 2) (oi := { dst := some 44, op := Op.nilCheck (Operand.tmp 43), type := 0, pos := "rungs.go:101", after := #[{ on := 1, ground := Ground.data }], guard := none }) (v := ?vv2_3) rfl (by kernel_rfl) (by kernel_rfl) (by kernel_rfl) (fun _ _ _ h => h) (Or.inl ⟨by rfl, ?hy2_3⟩) ?rest2_3
      case hy2_3 =>
        intro w
        go_simp
        try with_reducible rfl
      try simp only [Act.put, List.setIfInBounds_toArray, List.set_cons_zero, List.set_cons_succ]
      refine wpAny_take (i := 3) (oi := { dst := some 45, op := Op.fieldAddr 108 (Operand.tmp 44) 1, type := 0, pos := "rungs.go:101", after := #[{ on := 2, ground := Ground.data }], guard := none }) (v := ?vv3_4) rfl (by kernel_rfl) (by kernel_rfl) (by kernel_rfl) (fun _ _ _ h => h) (Or.inl ⟨by rfl, ?hy3_4⟩) ?rest3_4
      case hy3_4 =>
        intro w
        go_simp
        try with_reducible rfl
      try simp only [Act.put, List.setIfInBounds_toArray, List.set_cons_zero, List.set_cons_succ]
      refine wpAny_take (i := 5) (oi := { dst := some 47, op := Op.move (Operand.tmp 3), type := 38, pos := "rungs.go:101", after := #[], guard := none }) (v := ?vv5_5) rfl (by kernel_rfl) (by kernel_rfl) (by kernel_rfl) (fun _ _ _ h => h) (Or.inl ⟨by rfl, ?hy5_5⟩) ?rest5_5
      case hy5_5 =>
        intro w
        go_simp
        try with_reducible rfl
      try simp only [Act.put, List.setIfInBounds_toArray, List.set_cons_zero, List.set_cons_succ]
      refine wpAny_take (i := 6) (oi := { dst := some 48, op := Op.move (Operand.tmp 4), type := 3, pos := "rungs.go:101", after := #[], guard := none }) (v := ?vv6_6) rfl (by kernel_rfl) (by kernel_rfl) (by kernel_rfl) (fun _ _ _ h => h) (Or.inl ⟨by rfl, ?hy6_6⟩) ?rest6_6
      case hy6_6 =>
        intro w
        go_simp
        try with_reducible rfl
      try simp only [Act.put, List.setIfInBounds_toArray, List.set_cons_zero, List.set_cons_succ]
      refine wpAny_take (i := 7) (oi := { dst := some 49, op := Op.slice 38 (Operand.tmp 47) (some (Operand.tmp 48)) none none, type := 38, pos := "rungs.go:101", after := #[{ on := 5, ground := Ground.data }, { on := 6, ground := Ground.data }], guard := none }) (v := ?vv7_7) rfl (by kernel_rfl) (by kernel_rfl) (by kernel_rfl) (fun _ _ _ h => h) (Or.inl ⟨by rfl, ?hy7_7⟩) ?rest7_7
      case hy7_7 =>
        intro w
        go_simp
        try with_reducible rfl
      try simp only [Act.put, List.setIfInBounds_toArray, List.set_cons_zero, List.set_cons_succ]
      refine wpAny_take (i := 8) (oi := { dst := some 50, op := Op.build 103 #[(0, Operand.tmp 49)], type := 103, pos := "rungs.go:101", after := #[{ on := 7, ground := Ground.data }], guard := none }) (v := ?vv8_8) rfl (by kernel_rfl) (by kernel_rfl) (by kernel_rfl) (fun _ _ _ h => h) (Or.inl ⟨by rfl, ?hy8_8⟩) ?rest8_8
      case hy8_8 =>
        intro w
        go_simp
        try with_reducible rfl
      try simp only [Act.put, List.setIfInBounds_toArray, List.set_cons_zero, List.set_cons_succ]
      refine wpAny_take (i := 9) (oi := { dst := some 51, op := Op.move (Operand.tmp 3), type := 38, pos := "rungs.go:101", after := #[], guard := none }) (v := ?vv9_9) rfl (by kernel_rfl) (by kernel_rfl) (by kernel_rfl) (fun _ _ _ h => h) (Or.inl ⟨by rfl, ?hy9_9⟩) ?rest9_9
      case hy9_9 =>
        intro w
        go_simp
        try with_reducible rfl
      try simp only [Act.put, List.setIfInBounds_toArray, List.set_cons_zero, List.set_cons_succ]
      refine wpAny_take (i := 10) (oi := { dst := some 52, op := Op.move (Operand.tmp 4), type := 3, pos := "rungs.go:101", after := #[], guard := none }) (v := ?vv10_10) rfl (by kernel_rfl) (by kernel_rfl) (by kernel_rfl) (fun _ _ _ h => h) (Or.inl ⟨by rfl, ?hy10_10⟩) ?rest10_10
      case hy10_10 =>
        intro w
        go_simp
        try with_reducible rfl
      try simp only [Act.put, List.setIfInBounds_toArray, List.set_cons_zero, List.set_cons_succ]
      refine wpAny_take (i := 11) (oi := { dst := some 53, op := Op.indexAddr 38 (Operand.tmp 51) (Operand.tmp 52), type := 0, pos := "rungs.go:101", after := #[{ on := 9, ground := Ground.data }, { on := 10, ground := Ground.data }], guard := none }) (v := ?vv11_11) rfl (by kernel_rfl) (by kernel_rfl) (by kernel_rfl) (fun _ _ _ h => h) (Or.inl ⟨by rfl, ?hy11_11⟩) ?rest11_11
      case hy11_11 =>
        intro w
        go_simp
        try with_reducible rfl
      try simp only [Act.put, List.setIfInBounds_toArray, List.set_cons_zero, List.set_cons_succ]
      refine wpAny_ready (rs := [4, 12]) (by kernel_rfl) (by simp) ?_
      refine AllReady.cons (o := { dst := some 46, op := Op.load 106 (Operand.tmp 45), type := 106, pos := "rungs.go:101", after := #[{ on := 3, ground := Ground.data }], guard := none }) rfl (fun K hK => ?_) ?_
      · go_simp
        refine hK _ _ ?_
        clear hK K
        try simp only [Act.put, List.setIfInBounds_toArray, List.set_cons_zero, List.set_cons_succ]
        refine wpAny_ready (rs := [12]) (by kernel_rfl) (by simp) ?_
        refine AllReady.cons (o := { dst := some 54, op := Op.load 34 (Operand.tmp 53), type := 34, pos := "rungs.go:101", after := #[{ on := 11, ground := Ground.data }], guard := none }) rfl (fun K hK => ?_) AllReady.nil
        go_simp
        refine hK _ _ ?_
        clear hK K
        try simp only [Act.put, List.setIfInBounds_toArray, List.set_cons_zero, List.set_cons_succ]
        refine wpAny_take (i := 13) (oi := { dst := some 55, op := Op.build 178 #[(0, Operand.tmp 50), (1, Operand.tmp 54)], type := 178, pos := "rungs.go:101", after := #[{ on := 8, ground := Ground.data }, { on := 12, ground := Ground.data }], guard := none }) (v := ?vv13_12) rfl (by kernel_rfl) (by kernel_rfl) (by kernel_rfl) (fun _ _ _ h => h) (Or.inl ⟨by rfl, ?hy13_12⟩) ?rest13_12
        case hy13_12 =>
          intro w
          go_simp
          try with_reducible rfl
        try simp only [Act.put, List.setIfInBounds_toArray, List.set_cons_zero, List.set_cons_succ]
        refine wpAny_ready (rs := [14]) (by kernel_rfl) (by simp) ?_
        refine AllReady.cons (o := { dst := some 56, op := Op.buildSlice 106 1 #[(0, Operand.tmp 55)], type := 106, pos := "rungs.go:101", after := #[{ on := 13, ground := Ground.data }], guard := none }) rfl (fun K hK => ?_) AllReady.nil
        go_simp
        refine hK _ _ ?_
        clear hK K
        try simp only [Act.put, List.setIfInBounds_toArray, List.set_cons_zero, List.set_cons_succ]
        refine wpAny_ready (rs := [15]) (by kernel_rfl) (by simp) ?_
        refine AllReady.cons (o := { dst := some 57, op := Op.call { callee := Callee.builtin Builtin.append, args := #[Operand.tmp 46, Operand.tmp 56], argTypes := #[106, 106] }, type := 106, pos := "rungs.go:101", after := #[{ on := 4, ground := Ground.data }, { on := 14, ground := Ground.data }], guard := none }) rfl (fun K hK => ?_) AllReady.nil
        refine step_append_rowC (by rfl) _ _ _ (by rfl) habv.out i8 _ 80 Tryz.underlying106 hi8 hz80 hz81 hz82 rfl (by omega) (by rfl) (by rfl) hnew.out hone h64 hby8 ?_
        intro v' w4 r1 r2 r3
        obtain ⟨a4, c4, rfl, -⟩ := RowAt.shape r1.out
        obtain ⟨p1, p2, hS5⟩ := hstep.out _ w4 r1 r2 r3
        refine hK _ _ ?_
        clear hK K
        try simp only [Act.put, List.setIfInBounds_toArray, List.set_cons_zero, List.set_cons_succ]
        refine wpAny_take (i := 16) (oi := { dst := some 58, op := Op.nilCheck (Operand.tmp 42), type := 0, pos := "rungs.go:101", after := #[{ on := 0, ground := Ground.data }, { on := 0, ground := Ground.phase }, { on := 1, ground := Ground.phase }, { on := 2, ground := Ground.phase }, { on := 3, ground := Ground.phase }, { on := 4, ground := Ground.phase }, { on := 5, ground := Ground.phase }, { on := 6, ground := Ground.phase }, { on := 7, ground := Ground.phase }, { on := 8, ground := Ground.phase }, { on := 9, ground := Ground.phase }, { on := 10, ground := Ground.phase }, { on := 11, ground := Ground.phase }, { on := 12, ground := Ground.phase }, { on := 13, ground := Ground.phase }, { on := 14, ground := Ground.phase }, { on := 15, ground := Ground.phase }], guard := none }) (v := ?vv16_13) rfl (by kernel_rfl) (by kernel_rfl) (by kernel_rfl) (fun _ _ _ h => h) (Or.inl ⟨by rfl, ?hy16_13⟩) ?rest16_13
        case hy16_13 =>
          intro w
          go_simp
          try with_reducible rfl
        try simp only [Act.put, List.setIfInBounds_toArray, List.set_cons_zero, List.set_cons_succ]
        refine wpAny_take (i := 17) (oi := { dst := some 59, op := Op.fieldAddr 108 (Operand.tmp 58) 1, type := 0, pos := "rungs.go:101", after := #[{ on := 16, ground := Ground.data }, { on := 0, ground := Ground.phase }, { on := 1, ground := Ground.phase }, { on := 2, ground := Ground.phase }, { on := 3, ground := Ground.phase }, { on := 4, ground := Ground.phase }, { on := 5, ground := Ground.phase }, { on := 6, ground := Ground.phase }, { on := 7, ground := Ground.phase }, { on := 8, ground := Ground.phase }, { on := 9, ground := Ground.phase }, { on := 10, ground := Ground.phase }, { on := 11, ground := Ground.phase }, { on := 12, ground := Ground.phase }, { on := 13, ground := Ground.phase }, { on := 14, ground := Ground.phase }, { on := 15, ground := Ground.phase }], guard := none }) (v := ?vv17_14) rfl (by kernel_rfl) (by kernel_rfl) (by kernel_rfl) (fun _ _ _ h => h) (Or.inl ⟨by rfl, ?hy17_14⟩) ?rest17_14
        case hy17_14 =>
          intro w
          go_simp
          try with_reducible rfl
        try simp only [Act.put, List.setIfInBounds_toArray, List.set_cons_zero, List.set_cons_succ]
        refine wpAny_ready (rs := [18]) (by kernel_rfl) (by simp) ?_
        refine AllReady.cons (o := { dst := none, op := Op.store 106 (Operand.tmp 59) (Operand.tmp 57), type := 0, pos := "rungs.go:101", after := #[{ on := 17, ground := Ground.data }, { on := 15, ground := Ground.data }, { on := 15, ground := Ground.chain }, { on := 0, ground := Ground.phase }, { on := 1, ground := Ground.phase }, { on := 2, ground := Ground.phase }, { on := 3, ground := Ground.phase }, { on := 4, ground := Ground.phase }, { on := 5, ground := Ground.phase }, { on := 6, ground := Ground.phase }, { on := 7, ground := Ground.phase }, { on := 8, ground := Ground.phase }, { on := 9, ground := Ground.phase }, { on := 10, ground := Ground.phase }, { on := 11, ground := Ground.phase }, { on := 12, ground := Ground.phase }, { on := 13, ground := Ground.phase }, { on := 14, ground := Ground.phase }, { on := 15, ground := Ground.phase }], guard := none }) rfl (fun K hK => ?_) AllReady.nil
        go_simp
        refine hK _ _ ?_
        clear hK K
        try simp only [Act.put, List.setIfInBounds_toArray, List.set_cons_zero, List.set_cons_succ]
        refine wpAny_done (by kernel_rfl) ?_ _
        clear p1 p2 r1 r2 r3 habv hnew hstep
        go_upto_region 6 with (fail)
        go_wp2
        go_roundw
        case rel => exact ⟨g, off, half, half, rfl, by omega, hS5⟩
        case measure => simp [lenOf]; omega
      refine AllReady.cons (o := { dst := some 54, op := Op.load 34 (Operand.tmp 53), type := 34, pos := "rungs.go:101", after := #[{ on := 11, ground := Ground.data }], guard := none }) rfl (fun K hK => ?_) ?_
      · go_simp
        refine hK _ _ ?_
        clear hK K
        try simp only [Act.put, List.setIfInBounds_toArray, List.set_cons_zero, List.set_cons_succ]
        refine wpAny_take (i := 13) (oi := { dst := some 55, op := Op.build 178 #[(0, Operand.tmp 50), (1, Operand.tmp 54)], type := 178, pos := "rungs.go:101", after := #[{ on := 8, ground := Ground.data }, { on := 12, ground := Ground.data }], guard := none }) (v := ?vv13_15) rfl (by kernel_rfl) (by kernel_rfl) (by kernel_rfl) (fun _ _ _ h => h) (Or.inl ⟨by rfl, ?hy13_15⟩) ?rest13_15
        case hy13_15 =>
          intro w
          go_simp
          try with_reducible rfl
        try simp only [Act.put, List.setIfInBounds_toArray, List.set_cons_zero, List.set_cons_succ]
        refine wpAny_ready (rs := [4, 14]) (by kernel_rfl) (by simp) ?_
        refine AllReady.cons (o := { dst := some 46, op := Op.load 106 (Operand.tmp 45), type := 106, pos := "rungs.go:101", after := #[{ on := 3, ground := Ground.data }], guard := none }) rfl (fun K hK => ?_) ?_
        · go_simp
          refine hK _ _ ?_
          clear hK K
          try simp only [Act.put, List.setIfInBounds_toArray, List.set_cons_zero, List.set_cons_succ]
          refine wpAny_ready (rs := [14]) (by kernel_rfl) (by simp) ?_
          refine AllReady.cons (o := { dst := some 56, op := Op.buildSlice 106 1 #[(0, Operand.tmp 55)], type := 106, pos := "rungs.go:101", after := #[{ on := 13, ground := Ground.data }], guard := none }) rfl (fun K hK => ?_) AllReady.nil
          go_simp
          refine hK _ _ ?_
          clear hK K
          try simp only [Act.put, List.setIfInBounds_toArray, List.set_cons_zero, List.set_cons_succ]
          refine wpAny_ready (rs := [15]) (by kernel_rfl) (by simp) ?_
          refine AllReady.cons (o := { dst := some 57, op := Op.call { callee := Callee.builtin Builtin.append, args := #[Operand.tmp 46, Operand.tmp 56], argTypes := #[106, 106] }, type := 106, pos := "rungs.go:101", after := #[{ on := 4, ground := Ground.data }, { on := 14, ground := Ground.data }], guard := none }) rfl (fun K hK => ?_) AllReady.nil
          refine step_append_rowC (by rfl) _ _ _ (by rfl) habv.out i8 _ 80 Tryz.underlying106 hi8 hz80 hz81 hz82 rfl (by omega) (by rfl) (by rfl) hnew.out hone h64 hby8 ?_
          intro v' w4 r1 r2 r3
          obtain ⟨a4, c4, rfl, -⟩ := RowAt.shape r1.out
          obtain ⟨p1, p2, hS5⟩ := hstep.out _ w4 r1 r2 r3
          refine hK _ _ ?_
          clear hK K
          try simp only [Act.put, List.setIfInBounds_toArray, List.set_cons_zero, List.set_cons_succ]
          refine wpAny_take (i := 16) (oi := { dst := some 58, op := Op.nilCheck (Operand.tmp 42), type := 0, pos := "rungs.go:101", after := #[{ on := 0, ground := Ground.data }, { on := 0, ground := Ground.phase }, { on := 1, ground := Ground.phase }, { on := 2, ground := Ground.phase }, { on := 3, ground := Ground.phase }, { on := 4, ground := Ground.phase }, { on := 5, ground := Ground.phase }, { on := 6, ground := Ground.phase }, { on := 7, ground := Ground.phase }, { on := 8, ground := Ground.phase }, { on := 9, ground := Ground.phase }, { on := 10, ground := Ground.phase }, { on := 11, ground := Ground.phase }, { on := 12, ground := Ground.phase }, { on := 13, ground := Ground.phase }, { on := 14, ground := Ground.phase }, { on := 15, ground := Ground.phase }], guard := none }) (v := ?vv16_16) rfl (by kernel_rfl) (by kernel_rfl) (by kernel_rfl) (fun _ _ _ h => h) (Or.inl ⟨by rfl, ?hy16_16⟩) ?rest16_16
          case hy16_16 =>
            intro w
            go_simp
            try with_reducible rfl
          try simp only [Act.put, List.setIfInBounds_toArray, List.set_cons_zero, List.set_cons_succ]
          refine wpAny_take (i := 17) (oi := { dst := some 59, op := Op.fieldAddr 108 (Operand.tmp 58) 1, type := 0, pos := "rungs.go:101", after := #[{ on := 16, ground := Ground.data }, { on := 0, ground := Ground.phase }, { on := 1, ground := Ground.phase }, { on := 2, ground := Ground.phase }, { on := 3, ground := Ground.phase }, { on := 4, ground := Ground.phase }, { on := 5, ground := Ground.phase }, { on := 6, ground := Ground.phase }, { on := 7, ground := Ground.phase }, { on := 8, ground := Ground.phase }, { on := 9, ground := Ground.phase }, { on := 10, ground := Ground.phase }, { on := 11, ground := Ground.phase }, { on := 12, ground := Ground.phase }, { on := 13, ground := Ground.phase }, { on := 14, ground := Ground.phase }, { on := 15, ground := Ground.phase }], guard := none }) (v := ?vv17_17) rfl (by kernel_rfl) (by kernel_rfl) (by kernel_rfl) (fun _ _ _ h => h) (Or.inl ⟨by rfl, ?hy17_17⟩) ?rest17_17
          case hy17_17 =>
            intro w
            go_simp
            try with_reducible rfl
          try simp only [Act.put, List.setIfInBounds_toArray, List.set_cons_zero, List.set_cons_succ]
          refine wpAny_ready (rs := [18]) (by kernel_rfl) (by simp) ?_
          refine AllReady.cons (o := { dst := none, op := Op.store 106 (Operand.tmp 59) (Operand.tmp 57), type := 0, pos := "rungs.go:101", after := #[{ on := 17, ground := Ground.data }, { on := 15, ground := Ground.data }, { on := 15, ground := Ground.chain }, { on := 0, ground := Ground.phase }, { on := 1, ground := Ground.phase }, { on := 2, ground := Ground.phase }, { on := 3, ground := Ground.phase }, { on := 4, ground := Ground.phase }, { on := 5, ground := Ground.phase }, { on := 6, ground := Ground.phase }, { on := 7, ground := Ground.phase }, { on := 8, ground := Ground.phase }, { on := 9, ground := Ground.phase }, { on := 10, ground := Ground.phase }, { on := 11, ground := Ground.phase }, { on := 12, ground := Ground.phase }, { on := 13, ground := Ground.phase }, { on := 14, ground := Ground.phase }, { on := 15, ground := Ground.phase }], guard := none }) rfl (fun K hK => ?_) AllReady.nil
          go_simp
          refine hK _ _ ?_
          clear hK K
          try simp only [Act.put, List.setIfInBounds_toArray, List.set_cons_zero, List.set_cons_succ]
          refine wpAny_done (by kernel_rfl) ?_ _
          clear p1 p2 r1 r2 r3 habv hnew hstep
          go_upto_region 6 with (fail)
          go_wp2
          go_roundw
          case rel => exact ⟨g, off, half, half, rfl, by omega, hS5⟩
          case measure => simp [lenOf]; omega
        refine AllReady.cons (o := { dst := some 56, op := Op.buildSlice 106 1 #[(0, Operand.tmp 55)], type := 106, pos := "rungs.go:101", after := #[{ on := 13, ground := Ground.data }], guard := none }) rfl (fun K hK => ?_) ?_
        · go_simp
          refine hK _ _ ?_
          clear hK K
          try simp only [Act.put, List.setIfInBounds_toArray, List.set_cons_zero, List.set_cons_succ]
          refine wpAny_ready (rs := [4]) (by kernel_rfl) (by simp) ?_
          refine AllReady.cons (o := { dst := some 46, op := Op.load 106 (Operand.tmp 45), type := 106, pos := "rungs.go:101", after := #[{ on := 3, ground := Ground.data }], guard := none }) rfl (fun K hK => ?_) AllReady.nil
          go_simp
          refine hK _ _ ?_
          clear hK K
          try simp only [Act.put, List.setIfInBounds_toArray, List.set_cons_zero, List.set_cons_succ]
          refine wpAny_ready (rs := [15]) (by kernel_rfl) (by simp) ?_
          refine AllReady.cons (o := { dst := some 57, op := Op.call { callee := Callee.builtin Builtin.append, args := #[Operand.tmp 46, Operand.tmp 56], argTypes := #[106, 106] }, type := 106, pos := "rungs.go:101", after := #[{ on := 4, ground := Ground.data }, { on := 14, ground := Ground.data }], guard := none }) rfl (fun K hK => ?_) AllReady.nil
          refine step_append_rowC (by rfl) _ _ _ (by rfl) habv.out i8 _ 80 Tryz.underlying106 hi8 hz80 hz81 hz82 rfl (by omega) (by rfl) (by rfl) hnew.out hone h64 hby8 ?_
          intro v' w4 r1 r2 r3
          obtain ⟨a4, c4, rfl, -⟩ := RowAt.shape r1.out
          obtain ⟨p1, p2, hS5⟩ := hstep.out _ w4 r1 r2 r3
          refine hK _ _ ?_
          clear hK K
          try simp only [Act.put, List.setIfInBounds_toArray, List.set_cons_zero, List.set_cons_succ]
          refine wpAny_take (i := 16) (oi := { dst := some 58, op := Op.nilCheck (Operand.tmp 42), type := 0, pos := "rungs.go:101", after := #[{ on := 0, ground := Ground.data }, { on := 0, ground := Ground.phase }, { on := 1, ground := Ground.phase }, { on := 2, ground := Ground.phase }, { on := 3, ground := Ground.phase }, { on := 4, ground := Ground.phase }, { on := 5, ground := Ground.phase }, { on := 6, ground := Ground.phase }, { on := 7, ground := Ground.phase }, { on := 8, ground := Ground.phase }, { on := 9, ground := Ground.phase }, { on := 10, ground := Ground.phase }, { on := 11, ground := Ground.phase }, { on := 12, ground := Ground.phase }, { on := 13, ground := Ground.phase }, { on := 14, ground := Ground.phase }, { on := 15, ground := Ground.phase }], guard := none }) (v := ?vv16_18) rfl (by kernel_rfl) (by kernel_rfl) (by kernel_rfl) (fun _ _ _ h => h) (Or.inl ⟨by rfl, ?hy16_18⟩) ?rest16_18
          case hy16_18 =>
            intro w
            go_simp
            try with_reducible rfl
          try simp only [Act.put, List.setIfInBounds_toArray, List.set_cons_zero, List.set_cons_succ]
          refine wpAny_take (i := 17) (oi := { dst := some 59, op := Op.fieldAddr 108 (Operand.tmp 58) 1, type := 0, pos := "rungs.go:101", after := #[{ on := 16, ground := Ground.data }, { on := 0, ground := Ground.phase }, { on := 1, ground := Ground.phase }, { on := 2, ground := Ground.phase }, { on := 3, ground := Ground.phase }, { on := 4, ground := Ground.phase }, { on := 5, ground := Ground.phase }, { on := 6, ground := Ground.phase }, { on := 7, ground := Ground.phase }, { on := 8, ground := Ground.phase }, { on := 9, ground := Ground.phase }, { on := 10, ground := Ground.phase }, { on := 11, ground := Ground.phase }, { on := 12, ground := Ground.phase }, { on := 13, ground := Ground.phase }, { on := 14, ground := Ground.phase }, { on := 15, ground := Ground.phase }], guard := none }) (v := ?vv17_19) rfl (by kernel_rfl) (by kernel_rfl) (by kernel_rfl) (fun _ _ _ h => h) (Or.inl ⟨by rfl, ?hy17_19⟩) ?rest17_19
          case hy17_19 =>
            intro w
            go_simp
            try with_reducible rfl
          try simp only [Act.put, List.setIfInBounds_toArray, List.set_cons_zero, List.set_cons_succ]
          refine wpAny_ready (rs := [18]) (by kernel_rfl) (by simp) ?_
          refine AllReady.cons (o := { dst := none, op := Op.store 106 (Operand.tmp 59) (Operand.tmp 57), type := 0, pos := "rungs.go:101", after := #[{ on := 17, ground := Ground.data }, { on := 15, ground := Ground.data }, { on := 15, ground := Ground.chain }, { on := 0, ground := Ground.phase }, { on := 1, ground := Ground.phase }, { on := 2, ground := Ground.phase }, { on := 3, ground := Ground.phase }, { on := 4, ground := Ground.phase }, { on := 5, ground := Ground.phase }, { on := 6, ground := Ground.phase }, { on := 7, ground := Ground.phase }, { on := 8, ground := Ground.phase }, { on := 9, ground := Ground.phase }, { on := 10, ground := Ground.phase }, { on := 11, ground := Ground.phase }, { on := 12, ground := Ground.phase }, { on := 13, ground := Ground.phase }, { on := 14, ground := Ground.phase }, { on := 15, ground := Ground.phase }], guard := none }) rfl (fun K hK => ?_) AllReady.nil
          go_simp
          refine hK _ _ ?_
          clear hK K
          try simp only [Act.put, List.setIfInBounds_toArray, List.set_cons_zero, List.set_cons_succ]
          refine wpAny_done (by kernel_rfl) ?_ _
          clear p1 p2 r1 r2 r3 habv hnew hstep
          go_upto_region 6 with (fail)
          go_wp2
          go_roundw
          case rel => exact ⟨g, off, half, half, rfl, by omega, hS5⟩
          case measure => simp [lenOf]; omega
        exact AllReady.nil
      exact AllReady.nil
    · have hd := Lib.hid (hdone.out wr g off n cap hSt)
      clear hround hdone hcc
      go_wp2
      go_end0
      exact ⟨rfl, hd.out⟩
end Go.Proofs.YtjlbkdghlijoeaaGreat
