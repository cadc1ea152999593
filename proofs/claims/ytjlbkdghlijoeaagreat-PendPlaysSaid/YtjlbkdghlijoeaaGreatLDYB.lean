/-
  Rungs: the message of a sending taken out.
-/
import Derived.Test.YtjlbkdghlijoeaaGreatYP
import Derived.Deep.LoopGhost
namespace Go.Proofs.YtjlbkdghlijoeaaGreat
open Go.ChangeShapes Go.WideShapes Go.ChangeAt Go.Shelf Go.RowKit Go.Lib Go.Sort Go.Deep
set_option linter.unusedVariables false

theorem RungsRes.rowAt {w W1 w4 : World} {rb : Nat} {most : Int} {bv bv' av av' : Value} {B B' : List M} {us us' : List Up} {A : Nat} (hb : Below w.heap.size w W1) (hA : w.heap.size ≤ A) (hs : A < W1.heap.size) (h0 : RungsOf w rb most bv B av us) (h : RungsRes W1 rb most bv av us w4 B' us' bv' av') (cs : Array Value) : RungsRes w rb most bv av us (w4.setRow A cs) B' us' bv' av' := by
  have hno : ∀ k, ROwn rb bv' av' us' k → k ≠ A := fun k hk e => by
    rcases h.2.2 k hk with e2 | e2
    · have := h0.own_lt e2
      omega
    · omega
  have hk := KeptOff.row w4 A cs
  have hsz := hb.size
  refine ⟨h.1.kept hk hno, ((KeptOff.of_below hb).trans h.2.1).then_new hk (fun k hk e => by omega), fun k e => (h.2.2 k e).imp id (fun e => by omega)⟩
/-- No message of the sending among the first ones of a list. -/
def NoneTo (l : List M) (f u : Int) (q : Nat) : Prop := ∀ j, j < q → ¬ ((l.getD j default).k.f = f ∧ (l.getD j default).u = u)
theorem NoneTo.succ {l : List M} {f u : Int} {q : Nat} (h : NoneTo l f u q) (hq : ¬ ((l.getD q default).k.f = f ∧ (l.getD q default).u = u)) : NoneTo l f u (q + 1) := fun j hj => by
  by_cases e : j = q
  · subst e; exact hq
  · exact h j (by omega)
theorem NoneTo.mem {l : List M} {f u : Int} (h : NoneTo l f u l.length) : ∀ m ∈ l, ¬ (m.k.f = f ∧ m.u = u) := fun m hm => by
  obtain ⟨j, hj, rfl⟩ := List.getElem_of_mem hm
  have := h j hj
  rwa [getD_at l j hj] at this
/-- Nor in the first rungs. -/
def NoneIn (L : Nat → List M) (f u : Int) (k : Nat) : Prop := ∀ i, i < k → NoneTo (L i) f u (L i).length
theorem NoneIn.succ {L : Nat → List M} {f u : Int} {k : Nat} (h : NoneIn L f u k) (hk : NoneTo (L k) f u (L k).length) : NoneIn L f u (k + 1) := fun i hi => by
  by_cases e : i = k
  · subst e; exact hk
  · exact h i (by omega)
theorem NoneIn.mem {L : Nat → List M} {f u : Int} {k : Nat} (h : NoneIn L f u k) : ∀ m ∈ upTo L k, ¬ (m.k.f = f ∧ m.u = u) := fun m hm => by
  simp only [upTo, List.mem_flatMap, List.mem_range] at hm
  obtain ⟨i, hi, hm⟩ := hm
  exact (h i hi).mem m hm
theorem same_mem {T : List M} (hU : Unlike T) {a b : M} (ha : a ∈ T) (hb : b ∈ T) (h : sameS a b) : a = b := by
  obtain ⟨i, hi, rfl⟩ := List.getElem_of_mem ha
  obtain ⟨j, hj, rfl⟩ := List.getElem_of_mem hb
  rcases Nat.lt_trichotomy i j with e | e | e
  · exact absurd h (List.pairwise_iff_getElem.1 hU i j hi hj e)
  · subst e; rfl
  · exact absurd h.symm (List.pairwise_iff_getElem.1 hU j i hj hi e)
theorem mem_upTo {L : Nat → List M} {k n : Nat} (hk : k < n) {m : M} (hm : m ∈ L k) : m ∈ upTo L n := by
  simp only [upTo, List.mem_flatMap, List.mem_range]
  exact ⟨k, hk, hm⟩

set_option maxHeartbeats 8000000 in
set_option maxRecDepth 100000 in
theorem drop_any {w : World} {hb rb mb : Nat} {most : Int} {bv av : Value} {B : List M} {us : List Up} {T : List M} (h : LadOf w hb rb mb most bv av B us T) {x : M} (hx : x ∈ T) :
    Calls Tryz.prog 124 #[.pointer (some ⟨rb, 0, none⟩), .agg #[.int .i64 x.k.f, .int .i64 x.u]] w fun e w' => e = .returned x.val ∧ Taken w rb most bv av us (held B us) x w' := by
  have mixed := mixed
  obtain ⟨kb, ko, V, L, hR, hL1, hL2⟩ := rungs_by h.rungs
  have hall := rungs_all hL1 hL2
  have hperm : (upTo L (us.length + 1)).Perm T := by
    rw [hall]
    refine List.Perm.trans ?_ h.same
    unfold held
    exact List.perm_append_comm
  have hlen := hperm.length_eq
  have hsm := h.small
  have hrl := held_rungs (B := B) h.stairs.up.full
  have hhl := h.hlen
  obtain ⟨W1, hW1⟩ : ∃ W1, W1 = w.alloc (.cells #[.int .i64 x.k.f, .int .i64 x.u] 169) := ⟨_, rfl⟩
  obtain ⟨W2, hW2⟩ : ∃ W2, W2 = W1.alloc (.cells zeroM.cells 34) := ⟨_, rfl⟩
  have s1 : W1.heap.size = w.heap.size + 1 := by rw [hW1]; simp
  have s2 : W2.heap.size = w.heap.size + 2 := by rw [hW2]; simp [s1]
  have hb1 : Below w.heap.size w W1 := by rw [hW1]; exact (Below.refl _ w).alloc (Nat.le_refl _) _
  have hb2 : Below w.heap.size w W2 := by rw [hW2]; exact hb1.alloc hb1.size _
  have hz2 : BoxM W2 (w.heap.size + 1) zeroM := by rw [hW2, ← s1]; exact BoxM.mk W1 zeroM
  have hx2 : W2.heap[w.heap.size]? = some (.cells #[.int .i64 x.k.f, .int .i64 x.u] 169 (0, 0)) := by
    rw [hW2, Below.heap_alloc W1 _ w.heap.size (by omega), hW1]
    exact heap_alloc_new w _
  have hbox : Hid (∀ W, Below W2.heap.size W2 W → W.cell? ⟨w.heap.size, 0, none⟩ = some (.int .i64 x.k.f) ∧ W.cell? ⟨w.heap.size, 1, none⟩ = some (.int .i64 x.u)) := fun W hW => by
    have : W.heap[w.heap.size]? = some (.cells #[.int .i64 x.k.f, .int .i64 x.u] 169 (0, 0)) := (hW.block w.heap.size (by omega)).trans hx2
    exact ⟨by simp [World.cell?, this], by simp [World.cell?, this]⟩
  have hR2 : Hid (∀ k, k ≤ us.length → ∀ W, Below W2.heap.size W2 W → Calls Tryz.prog 130 #[.pointer (some ⟨rb, 0, none⟩), .int .i64 k] W (fun e w' => e = .returned (.pointer (some ⟨kb k, ko k, none⟩)) ∧ W = w') ∧ W.cell? ⟨kb k, ko k, none⟩ = some (V k) ∧ AtM W (V k) (L k)) :=
    fun k hk W hW => hR k hk W (hb2.trans (hW.mono hb2.size))
  have hbd : ∀ k, k ≤ us.length → (L k).length ≤ 16384 := fun k hk => by
    have := upTo_mono L (k + 1) (us.length + 1) (by omega)
    rw [upTo_succ, List.length_append] at this
    omega
  have hno : Hid (¬ NoneIn L x.k.f x.u (us.length + 1)) := fun hn => hn.mem x (hperm.mem_iff.2 hx) ⟨rfl, rfl⟩
  have htk : Hid (∀ k q W, k ≤ us.length → q < (L k).length → ((L k).getD q default).k.f = x.k.f ∧ ((L k).getD q default).u = x.u → Below W2.heap.size W2 W → Calls Tryz.prog 133 #[.pointer (some ⟨rb, 0, none⟩), .int .i64 k, .int .i64 q] W fun e w3 => e = .returned x.val ∧
      Hid (BoxM w3 (w.heap.size + 1) zeroM ∧ Taken w rb most bv av us (held B us) x (w3.setRow (w.heap.size + 1) x.cells))) := by
    intro k q W hk hq hsame hW
    have hbW := hb2.trans (hW.mono hb2.size)
    have hWs := hW.size
    have h2 := h.below hbW
    have hm : ((L k).getD q default) = x := by
      refine same_mem h.u (hperm.mem_iff.1 (mem_upTo (k := k) (by omega) ?_)) hx ⟨hsame.1, hsame.2⟩
      rw [getD_at _ q hq]
      exact List.getElem_mem hq
    have hfin : ∀ {e : Ending} {w3 : World}, e = .returned x.val ∧ Taken W rb most bv av us (held B us) x w3 → e = .returned x.val ∧ Hid (BoxM w3 (w.heap.size + 1) zeroM ∧ Taken w rb most bv av us (held B us) x (w3.setRow (w.heap.size + 1) x.cells)) := by
      rintro e w3 ⟨he, B', us', bv', av', r, t1, t2⟩
      exact ⟨he, (hz2.below hW).kept r.2.1 (fun e => by have := h.own_lt (.inr (.inr e)); omega), B', us', bv', av', RungsRes.rowAt hbW (by omega) (by omega) h.rungs r _, t1, t2⟩
    by_cases hlt : k < us.length
    · rw [hL1 k hlt] at hq hm
      have := take_up h2.rungs h2.stairs (by omega) k q hlt hq
      rw [hm] at this
      exact this.mono fun e w3 hh => hfin hh
    · obtain rfl : k = us.length := by omega
      rw [hL2] at hq hm
      have := take_bot h2.rungs h2.stairs h2.hU h2.most1 (by omega) q hq
      rw [hm] at this
      exact this.mono fun e w3 hh => hfin hh
  obtain ⟨aa, acap, hav, -⟩ := RowAt.shape h.rungs.abv
  have c2 := (h.rungs.below hb2).c2
  rw [hav] at c2
  have hN : us.length ≤ 16384 := by omega
  have hw1 : IntKind.i64.wrap ((us.length : Int) + 1) = (us.length : Int) + 1 := half_wrap (n := us.length) (by omega)
  have hbd' := Lib.hid hbd
  have hW2z : Hid ((w.alloc (.cells #[.int .i64 x.k.f, .int .i64 x.u] 169)).alloc (.cells #[.int .i64 0, .int .i64 0, .int .i64 0, .int .i64 0, .int .i64 0, .int .i64 0, .bool false] 34) = W2) := by
    rw [hW2, hW1]
    rfl
  have hs1 : Hid ((w.alloc (.cells #[.int .i64 x.k.f, .int .i64 x.u] 169)).heap.size = w.heap.size + 1) := by
    show _ = _
    simp
  have hsend := fun (m : M) w => sending_any m w
  simp only [M.val, sendV] at hsend
  have heq := fun a b w => eqlLS a b x.k.f x.u w
  clear h hx hall hL1 hL2 hrl hhl hlen hsm hav hR hbd hperm hW1 hW2 s1 s2 hb1 hb2 hz2 hx2
  generalize Taken w rb most bv av us (held B us) x = R at *
  generalize us.length = N at *
  rw [show x.val = .agg #[.int .i64 x.k.t, .int .i64 x.k.f, .int .i64 x.k.s, .int .i64 x.to, .int .i64 x.v, .int .i64 x.u, .bool x.anti] from rfl] at htk
  go_enter Tryz.func124, Tryz.ntmps124
  go_upto_region 1 with (fail)
  rw [hW2z.out]
  go_wp2
  go_step3
  go_wp2
  go_step3
  go_wp2
  have hB0 : Hid (Below W2.heap.size W2 W2) := Below.refl _ _
  clear hW2z c2 hw1
  go_loopg [13] (N + 1) (fun g s13 wx => ∃ k : Nat, k + g = N + 1 ∧ s13 = .int .i64 k ∧ Hid (NoneIn L x.k.f x.u k) ∧ Hid (Below W2.heap.size W2 wx))
  case atStart => exact ⟨0, by omega, rfl, fun i hi => absurd hi (Nat.not_lt_zero i), hB0⟩
  case round =>
    obtain ⟨k, hkg, rfl, hnone, hbx⟩ := hrel
    clear hB0
    cases gk with
    | zero =>
      obtain rfl : k = N + 1 := by omega
      exact absurd hnone.out hno.out
    | succ g =>
      have hkN : k ≤ N := by omega
      have hz : (k : Int) < (N : Int) + 1 := by omega
      have hwk : IntKind.i64.wrap ((k : Int) + 1) = (k : Int) + 1 := half_wrap (n := k) (by omega)
      obtain ⟨hat, hc, hA⟩ := hR2.out k hkN wr hbx.out
      obtain ⟨va, vc, hv, -⟩ := RowAt.shape hA
      rw [hv] at hc
      have hsz := rsize_any hc
      have hnb := hbd'.out k hkN
      obtain ⟨n, hn⟩ : ∃ n, n = (L k).length := ⟨_, rfl⟩
      rw [← hn] at hsz hnb
      have hn' := Lib.hid hn
      have hv' := Lib.hid hv
      have hS0 : Hid (NoneTo (L k) x.k.f x.u 0) := fun j hj => absurd hj (Nat.not_lt_zero j)
      clear hA hn hv
      go_wp2_with (first
        | (go_at_call 130; refine hat.mono ?_; rintro e w1 ⟨rfl, rfl⟩)
        | (go_at_call 132; refine hsz.mono ?_; rintro e w1 ⟨rfl, rfl⟩))
      clear hat hc hsz
      go_loopg [20] n (fun g2 s20 wy => ∃ q : Nat, q + g2 = n ∧ s20 = .int .i64 q ∧ Hid (NoneTo (L k) x.k.f x.u q) ∧ Hid (Below W2.heap.size W2 wy))
      case atStart => exact ⟨0, by omega, rfl, hS0, hbx⟩
      case round =>
        obtain ⟨q, hqg, rfl, hnq, hby⟩ := hrel
        clear hS0 hbx
        cases gk with
        | zero =>
          obtain rfl : q = n := by omega
          have hz2 : ¬ (q : Int) < (q : Int) := by omega
          have hnone2 : Hid (NoneIn L x.k.f x.u (k + 1)) := hnone.out.succ (by rw [← hn'.out]; exact hnq.out)
          go_wp2
          go_roundg g
          case rel => exact ⟨k + 1, by omega, by go_num, hnone2, hby⟩
          case measure => omega
        | succ g2 =>
          have hqn : q < n := by omega
          have hz2 : (q : Int) < (n : Int) := by omega
          have hwq : IntKind.i64.wrap ((q : Int) + 1) = (q : Int) + 1 := half_wrap (n := q) (by omega)
          have hbd2 : Hid (Below W2.heap.size W2 wr.drew) := hby.out.drew
          obtain ⟨-, hc0, hA0⟩ := hR2.out k hkN wr hby.out
          obtain ⟨g', off, cap, hvs, -⟩ := AtM.form hA0 (by rw [← hn'.out]; omega)
          obtain ⟨m, hm⟩ : ∃ m, m = (L k).getD q default := ⟨_, rfl⟩
          have hS : Hid (∀ w', Below W2.heap.size W2 w' → Below W2.heap.size W2 w' ∧ w'.cell? ⟨kb k, ko k, none⟩ = some (.slice (some ⟨g', off, none⟩) n cap) ∧
              (w'.cell? ⟨g', off + q * 7, none⟩ = some (.int .i64 m.k.t) ∧ w'.cell? ⟨g', off + q * 7 + 1, none⟩ = some (.int .i64 m.k.f) ∧ w'.cell? ⟨g', off + q * 7 + 2, none⟩ = some (.int .i64 m.k.s) ∧ w'.cell? ⟨g', off + q * 7 + 3, none⟩ = some (.int .i64 m.to) ∧
                w'.cell? ⟨g', off + q * 7 + 4, none⟩ = some (.int .i64 m.v) ∧ w'.cell? ⟨g', off + q * 7 + 5, none⟩ = some (.int .i64 m.u) ∧ w'.cell? ⟨g', off + q * 7 + 6, none⟩ = some (.bool m.anti)) ∧
              (w'.cell? ⟨w.heap.size, 0, none⟩ = some (.int .i64 x.k.f) ∧ w'.cell? ⟨w.heap.size, 1, none⟩ = some (.int .i64 x.u))) := by
            intro w' hw'
            obtain ⟨-, hc, hA⟩ := hR2.out k hkN w' hw'
            rw [hvs] at hc hA
            have hR : RowM w' g' off cap (L k) := by
              obtain ⟨g2, off2, cap2, e, hR⟩ := AtM.form hA (by rw [← hn'.out]; omega)
              obtain ⟨⟨rfl, rfl⟩, rfl⟩ : (g' = g2 ∧ off = off2) ∧ cap = cap2 := by simpa using e
              exact hR
            obtain ⟨-, y0, y1, y2, y3, y4, y5, y6⟩ := hR.at q (by rw [← hn'.out]; exact hqn)
            rw [← hm] at y0 y1 y2 y3 y4 y5 y6
            rw [← hn'.out] at hc
            exact ⟨hw', hc, ⟨y0, y1, y2, y3, y4, y5, y6⟩, hbox.out w' hw'⟩
          have hat := Lib.hid (fun w' (hw' : Below W2.heap.size W2 w') => (hR2.out k hkN w' hw').1)
          have hsd := hsend m
          have hm' := Lib.hid hm
          by_cases hsame : m.k.f = x.k.f ∧ m.u = x.u
          · have hq0 : ∀ w, Sem.run Tryz.prog (binOp .eql 169 (.agg #[.int .i64 m.k.f, .int .i64 m.u]) (.agg #[.int .i64 x.k.f, .int .i64 x.u])) w = .ok (.bool true) w := fun w => by rw [heq, hsame.1, hsame.2]; simp
            have htk2 := Lib.hid (fun W hW => htk.out k q W hkN (by rw [← hn'.out]; exact hqn) (by rw [← hm]; exact hsame) hW)
            clear hm hvs hA0 hc0 hsend heq htk hno hnone hnq hsame hbd'
            go_upto_region 8 with (fail)
            go_region_held3 (fun w' => Below W2.heap.size W2 w' ∧ w'.cell? ⟨kb k, ko k, none⟩ = some (.slice (some ⟨g', off, none⟩) n cap) ∧
                (w'.cell? ⟨g', off + q * 7, none⟩ = some (.int .i64 m.k.t) ∧ w'.cell? ⟨g', off + q * 7 + 1, none⟩ = some (.int .i64 m.k.f) ∧ w'.cell? ⟨g', off + q * 7 + 2, none⟩ = some (.int .i64 m.k.s) ∧ w'.cell? ⟨g', off + q * 7 + 3, none⟩ = some (.int .i64 m.to) ∧
                  w'.cell? ⟨g', off + q * 7 + 4, none⟩ = some (.int .i64 m.v) ∧ w'.cell? ⟨g', off + q * 7 + 5, none⟩ = some (.int .i64 m.u) ∧ w'.cell? ⟨g', off + q * 7 + 6, none⟩ = some (.bool m.anti)) ∧
                (w'.cell? ⟨w.heap.size, 0, none⟩ = some (.int .i64 x.k.f) ∧ w'.cell? ⟨w.heap.size, 1, none⟩ = some (.int .i64 x.u)))
              (first | exact hS.out _ hbd2.out | exact hS.out _ (hbd2.out.trans (hr1.below.mono hbd2.out.size)))
              (first | (go_at_call 130; refine (hat.out _ ?_).mono ?_; (go_split_ands; assumption); rintro e w1 ⟨rfl, rfl⟩) | (go_at_call 128; refine (hsd _).mono ?_; rintro e w1 ⟨rfl, hr1⟩))
            have hb3 : Hid (Below W2.heap.size W2 w1) := hbd2.out.trans (hr1.below.mono hbd2.out.size)
            have hcall := Lib.hid (htk2.out w1 hb3.out)
            clear hS hat hsd hr1 htk2 hR2 hbox
            go_wp2_with (first
              | (go_at_call 133; refine hcall.out.mono ?_; rintro e w3 ⟨rfl, hQ⟩)
              | (refine wpList_store_row rfl 34 (.tmp 4) (.tmp 40) rfl (w.heap.size + 1) x.cells rfl rfl 34 zeroM.cells hQ.out.1 infoS rfl (M.cells_one x) ?_))
            obtain ⟨-, s0, s1, s2, s3, s4, s5, s6⟩ := (hQ.out.1.row x).at
            simp only [Nat.zero_add] at s0 s1 s2 s3 s4 s5 s6
            try rw [Exit.noGoto_ret]
            exact bodyPost_ret (v := x.val) (by simp [results, Tryz.results124, go_sem, s0, s1, s2, s3, s4, s5, s6, M.val]) rfl ⟨rfl, hQ.out.2⟩
          · have hq0 : ∀ w, Sem.run Tryz.prog (binOp .eql 169 (.agg #[.int .i64 m.k.f, .int .i64 m.u]) (.agg #[.int .i64 x.k.f, .int .i64 x.u])) w = .ok (.bool false) w := fun w => by
              rw [heq]
              by_cases a : m.k.f = x.k.f <;> by_cases b : m.u = x.u <;> simp_all
            have hnq2 : Hid (NoneTo (L k) x.k.f x.u (q + 1)) := hnq.out.succ (by rw [← hm]; exact hsame)
            clear hm hvs hA0 hc0 hsend heq htk hno hnq hsame hbd'
            go_upto_region 8 with (fail)
            go_region_held3 (fun w' => Below W2.heap.size W2 w' ∧ w'.cell? ⟨kb k, ko k, none⟩ = some (.slice (some ⟨g', off, none⟩) n cap) ∧
                (w'.cell? ⟨g', off + q * 7, none⟩ = some (.int .i64 m.k.t) ∧ w'.cell? ⟨g', off + q * 7 + 1, none⟩ = some (.int .i64 m.k.f) ∧ w'.cell? ⟨g', off + q * 7 + 2, none⟩ = some (.int .i64 m.k.s) ∧ w'.cell? ⟨g', off + q * 7 + 3, none⟩ = some (.int .i64 m.to) ∧
                  w'.cell? ⟨g', off + q * 7 + 4, none⟩ = some (.int .i64 m.v) ∧ w'.cell? ⟨g', off + q * 7 + 5, none⟩ = some (.int .i64 m.u) ∧ w'.cell? ⟨g', off + q * 7 + 6, none⟩ = some (.bool m.anti)) ∧
                (w'.cell? ⟨w.heap.size, 0, none⟩ = some (.int .i64 x.k.f) ∧ w'.cell? ⟨w.heap.size, 1, none⟩ = some (.int .i64 x.u)))
              (first | exact hS.out _ hbd2.out | exact hS.out _ (hbd2.out.trans (hr1.below.mono hbd2.out.size)))
              (first | (go_at_call 130; refine (hat.out _ ?_).mono ?_; (go_split_ands; assumption); rintro e w1 ⟨rfl, rfl⟩) | (go_at_call 128; refine (hsd _).mono ?_; rintro e w1 ⟨rfl, hr1⟩))
            have hb3 : Hid (Below W2.heap.size W2 w1) := hbd2.out.trans (hr1.below.mono hbd2.out.size)
            clear hS hat hsd hr1
            go_wp2
            go_roundg g2
            case rel => exact ⟨q + 1, by omega, by go_num, hnq2, hb3⟩
            case measure => omega
end Go.Proofs.YtjlbkdghlijoeaaGreat
