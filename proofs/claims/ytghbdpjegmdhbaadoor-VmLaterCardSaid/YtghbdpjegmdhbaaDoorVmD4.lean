/-
  The contract of the document's own send.
-/
import Derived.Test.YtghbdpjegmdhbaaDoorVmD3
import Derived.Deep.AppendLies
import Derived.Deep.RegionLaw
import Derived.Deep.RegionHeld3
namespace Go.Proofs.YtghbdpjegmdhbaaDoor
open Go.ChangeShapes Go.WideShapes Go.ChangeAt Go.RowKit Go.Sort
set_option linter.unusedVariables false
set_option maxRecDepth 4000

theorem own_slice {w : World} {base : Nat} {e : TypeId} {size : Nat} {v : Value} {n : Nat} {xs : List Value} (h : w.ownsRow base e size v n xs) : ∃ a cap, v = .slice a n cap := by
  rcases h.2 with ⟨rfl, rfl⟩ | ⟨g, cap, cur, rfl, _⟩
  · exact ⟨none, 0, rfl⟩
  · exact ⟨_, cap, rfl⟩
theorem infoOut : (Tryd.prog.info? 47).map (fun i => (i.zero, i.size, i.bytes)) = some (some (.agg #[.int .i64 0, .int .i64 0, .int .i64 0]), 3, 24) := by kernel_rfl
section
variable {b1 : Nat} {w : World} {x rb : Nat} {v : Wv} {W : Wd} {ev : M} {ov : Value} {m : Mc}
/-- No links: nothing is sent. -/
theorem send_links (h : DM b1 w x rb v W ev ov m) (h0 : v.ll = 0) (op a b c : Int) :
    Calls Tryd.prog 38 #[.pointer (some ⟨x, 0, none⟩), .agg #[.int .i64 op, .int .i64 a, .int .i64 b, .int .i64 c]] w fun e w' => e = .returned (.int .i64 0) ∧ Read w w' := by
  have c2 : ∀ (o : Obj), (w.alloc o).cell? ⟨x, 2, none⟩ = some (.slice v.la v.ll v.lc) := fun o => (h.alloc o).cell 2 rfl
  rw [h0] at c2
  have h' := Lib.hid h
  clear h h0
  go_enter Tryd.func38, Tryd.ntmps38
  go_wp2
  go_ret
  exact ⟨rfl, Read.mk _ _⟩
/-- As many as may be were sent: nothing is sent. -/
theorem send_full (h : DM b1 w x rb v W ev ov m) (h0 : 0 < v.ll) (hl : v.ll ≤ 1024) (h8 : 8 ≤ m.o.length) (hm : m.o.length ≤ 8) (op a b c : Int) :
    Calls Tryd.prog 38 #[.pointer (some ⟨x, 0, none⟩), .agg #[.int .i64 op, .int .i64 a, .int .i64 b, .int .i64 c]] w fun e w' => e = .returned (.int .i64 0) ∧ Read w w' := by
  obtain ⟨oa, oc, ho⟩ := own_slice h.own
  have c2 : ∀ (o : Obj), (w.alloc o).cell? ⟨x, 2, none⟩ = some (.slice v.la v.ll v.lc) := fun o => (h.alloc o).cell 2 rfl
  have c13 : ∀ (o : Obj), (w.alloc o).cell? ⟨x, 13, none⟩ = some (.slice oa m.o.length oc) := fun o => ho ▸ (h.alloc o).cell 13 rfl
  have h' := Lib.hid h
  clear h ho
  generalize v.ll = n at *
  generalize m.o.length = k at *
  have hn0 : ((n : Int) == 0) = false := by simp; omega
  go_enter Tryd.func38, Tryd.ntmps38
  go_wp2
  go_ret
  exact ⟨rfl, Read.mk _ _⟩
/-! The ways of send. -/
set_option maxHeartbeats 1000000 in
theorem send_look_p (h : DM b1 w x rb v W ev ov m) (hw : Wds w v W) (h0 : 0 < v.ll) (hl : v.ll ≤ 1024) (h8 : m.o.length < 8) (ht : 0 ≤ ev.k.t ∧ ev.k.t ≤ 4611686018427387903) (op : Int) (a b c : Nat) (ha : a < 16) (hb : b < 16) (hc : c < 16)
    (kk : Nat) (hkl : kk < v.ll) (hk : (m.reg a).tmod (v.ll : Int) = (kk : Int)) (src dst look : Int) (loose : Bool) (hlk : W.links.getD kk default = ⟨src, dst, look, loose⟩) (hB : m.reg b < look) :
    Calls Tryd.prog 38 #[.pointer (some ⟨x, 0, none⟩), .agg #[.int .i64 op, .int .i64 a, .int .i64 b, .int .i64 c]] w fun e w' => e = .returned (.int .i64 50) ∧ Read w w' := by
  obtain ⟨oa, oc, ho⟩ := own_slice h.own
  have c2 : ∀ (o : Obj), (w.alloc o).cell? ⟨x, 2, none⟩ = some (.slice v.la v.ll v.lc) := fun o => (h.alloc o).cell 2 rfl
  have c11 : ∀ (o : Obj), (w.alloc o).cell? ⟨x, 11, none⟩ = some (.slice (some ⟨rb, 0, none⟩) 16 16) := fun o => (h.alloc o).cell 11 rfl
  have c13 : ∀ (o : Obj), (w.alloc o).cell? ⟨x, 13, none⟩ = some (.slice oa m.o.length oc) := fun o => ho ▸ (h.alloc o).cell 13 rfl
  have ra : ∀ (o : Obj), (w.alloc o).cell? ⟨rb, a, none⟩ = some (.int .i64 (m.reg a)) := fun o => (h.alloc o).reg a ha
  obtain ⟨lb, lo, hla, hlm⟩ : ∃ lb lo, v.la = some ⟨lb, lo, none⟩ ∧ ∀ j, j < v.ll → LkAt w lb (lo + j * 4) (W.links.getD j default) := by
    rcases hw.2.1.2.2.2 with g | g
    · omega
    · exact g
  have hlx : Hid (LkAt w lb (lo + kk * 4) ⟨src, dst, look, loose⟩) := by have := hlm kk hkl; rw [hlk] at this; exact this
  have h' := Lib.hid h
  have ho' := Lib.hid ho
  have hla' := Lib.hid hla
  have hB' := Lib.hid hB
  clear h ho hw hlm hlk hla hB
  have hn0 : ((v.ll : Int) == 0) = false := by simp; omega
  have h8' : decide ((8 : Int) ≤ (m.o.length : Int)) = false := by simp; omega
  go_enter Tryd.func38, Tryd.ntmps38
  go_wp2_with fail
  go_quiet (fail)
  have hr1 : Read w ((w.alloc (.cells #[.int .i64 op, .int .i64 a, .int .i64 b, .int .i64 c] 56)).drewN nq) := Read.alloc _ (Read.drew _ _)
  have hi1 : InsAt ((w.alloc (.cells #[.int .i64 op, .int .i64 a, .int .i64 b, .int .i64 c] 56)).drewN nq) w.heap.size 0 ⟨op, a, b, c⟩ := (InsAt.mk w op a b c).read (Read.drew _ _)
  generalize (w.alloc (.cells #[.int .i64 op, .int .i64 a, .int .i64 b, .int .i64 c] 56)).drewN nq = W1 at hr1 hi1 ⊢
  clear c2 c11 c13 ra
  have hD1 := h'.out.below hr1.below
  have d11 : W1.cell? ⟨x, 11, none⟩ = some (.slice (some ⟨rb, 0, none⟩) 16 16) := hD1.cell 11 rfl
  have rb1 : W1.cell? ⟨rb, b, none⟩ = some (.int .i64 (m.reg b)) := hD1.reg b hb
  have hi1' := Lib.hid hi1
  obtain ⟨-, -, -, i2, i3⟩ := hi1
  simp only [Nat.zero_add] at i2 i3
  have hD1' := Lib.hid hD1
  clear hD1
  go_wp2_with fail
  go_quiet (fail)
  have hr2 : Read W1 (W1.drewN nq) := Read.drew _ _
  have hi2 := hi1'.out.read hr2
  have hD2 := hD1'.out.below hr2.below
  have hl2 := (hlx.out.below hr1.below).below hr2.below
  generalize W1.drewN nq = W2 at hr2 hi2 hD2 hl2 ⊢
  clear d11 rb1 i2 i3 hi1' hD1' hlx
  have e2 : W2.cell? ⟨x, 2, none⟩ = some (.slice (some ⟨lb, lo, none⟩) v.ll v.lc) := hla'.out ▸ hD2.cell 2 rfl
  have e4 : W2.cell? ⟨x, 4, none⟩ = some (.int .i64 ev.k.t) := hD2.cell 4 rfl
  have e11 : W2.cell? ⟨x, 11, none⟩ = some (.slice (some ⟨rb, 0, none⟩) 16 16) := hD2.cell 11 rfl
  have e13 : W2.cell? ⟨x, 13, none⟩ = some (.slice oa m.o.length oc) := ho'.out ▸ hD2.cell 13 rfl
  have rc2 : W2.cell? ⟨rb, c, none⟩ = some (.int .i64 (m.reg c)) := hD2.reg c hc
  have fx2 := hD2.fx 13
  have hDb := hD2.hb
  have hxb := hD2.xb
  have hrbb := hD2.rbb
  have hD2' := Lib.hid hD2
  obtain ⟨-, -, i1, i2, i3⟩ := hi2
  obtain ⟨-, -, -, l2, -⟩ := hl2
  simp only [Nat.zero_add] at i1 i2 i3
  have hr12 := Lib.hid (hr1.trans hr2)
  clear hD2 hr1 hr2 hla'
  have hB := hB'.out
  go_wp2
  go_ret
  exact ⟨rfl, hr12.out⟩
set_option maxHeartbeats 1000000 in
theorem send_time_p (h : DM b1 w x rb v W ev ov m) (hw : Wds w v W) (h0 : 0 < v.ll) (hl : v.ll ≤ 1024) (h8 : m.o.length < 8) (ht : 0 ≤ ev.k.t ∧ ev.k.t ≤ 4611686018427387903) (op : Int) (a b c : Nat) (ha : a < 16) (hb : b < 16) (hc : c < 16)
    (kk : Nat) (hkl : kk < v.ll) (hk : (m.reg a).tmod (v.ll : Int) = (kk : Int)) (src dst look : Int) (loose : Bool) (hlk : W.links.getD kk default = ⟨src, dst, look, loose⟩) (hB : ¬ m.reg b < look) (hT : 4611686018427387903 - ev.k.t < m.reg b) :
    Calls Tryd.prog 38 #[.pointer (some ⟨x, 0, none⟩), .agg #[.int .i64 op, .int .i64 a, .int .i64 b, .int .i64 c]] w fun e w' => e = .returned (.int .i64 10) ∧ Read w w' := by
  obtain ⟨oa, oc, ho⟩ := own_slice h.own
  have c2 : ∀ (o : Obj), (w.alloc o).cell? ⟨x, 2, none⟩ = some (.slice v.la v.ll v.lc) := fun o => (h.alloc o).cell 2 rfl
  have c11 : ∀ (o : Obj), (w.alloc o).cell? ⟨x, 11, none⟩ = some (.slice (some ⟨rb, 0, none⟩) 16 16) := fun o => (h.alloc o).cell 11 rfl
  have c13 : ∀ (o : Obj), (w.alloc o).cell? ⟨x, 13, none⟩ = some (.slice oa m.o.length oc) := fun o => ho ▸ (h.alloc o).cell 13 rfl
  have ra : ∀ (o : Obj), (w.alloc o).cell? ⟨rb, a, none⟩ = some (.int .i64 (m.reg a)) := fun o => (h.alloc o).reg a ha
  obtain ⟨lb, lo, hla, hlm⟩ : ∃ lb lo, v.la = some ⟨lb, lo, none⟩ ∧ ∀ j, j < v.ll → LkAt w lb (lo + j * 4) (W.links.getD j default) := by
    rcases hw.2.1.2.2.2 with g | g
    · omega
    · exact g
  have hlx : Hid (LkAt w lb (lo + kk * 4) ⟨src, dst, look, loose⟩) := by have := hlm kk hkl; rw [hlk] at this; exact this
  have h' := Lib.hid h
  have ho' := Lib.hid ho
  have hla' := Lib.hid hla
  have hB' := Lib.hid hB
  have hT' := Lib.hid hT
  clear h ho hw hlm hlk hla hB hT
  have hn0 : ((v.ll : Int) == 0) = false := by simp; omega
  have h8' : decide ((8 : Int) ≤ (m.o.length : Int)) = false := by simp; omega
  go_enter Tryd.func38, Tryd.ntmps38
  go_wp2_with fail
  go_quiet (fail)
  have hr1 : Read w ((w.alloc (.cells #[.int .i64 op, .int .i64 a, .int .i64 b, .int .i64 c] 56)).drewN nq) := Read.alloc _ (Read.drew _ _)
  have hi1 : InsAt ((w.alloc (.cells #[.int .i64 op, .int .i64 a, .int .i64 b, .int .i64 c] 56)).drewN nq) w.heap.size 0 ⟨op, a, b, c⟩ := (InsAt.mk w op a b c).read (Read.drew _ _)
  generalize (w.alloc (.cells #[.int .i64 op, .int .i64 a, .int .i64 b, .int .i64 c] 56)).drewN nq = W1 at hr1 hi1 ⊢
  clear c2 c11 c13 ra
  have hD1 := h'.out.below hr1.below
  have d11 : W1.cell? ⟨x, 11, none⟩ = some (.slice (some ⟨rb, 0, none⟩) 16 16) := hD1.cell 11 rfl
  have rb1 : W1.cell? ⟨rb, b, none⟩ = some (.int .i64 (m.reg b)) := hD1.reg b hb
  have hi1' := Lib.hid hi1
  obtain ⟨-, -, -, i2, i3⟩ := hi1
  simp only [Nat.zero_add] at i2 i3
  have hD1' := Lib.hid hD1
  clear hD1
  go_wp2_with fail
  go_quiet (fail)
  have hr2 : Read W1 (W1.drewN nq) := Read.drew _ _
  have hi2 := hi1'.out.read hr2
  have hD2 := hD1'.out.below hr2.below
  have hl2 := (hlx.out.below hr1.below).below hr2.below
  generalize W1.drewN nq = W2 at hr2 hi2 hD2 hl2 ⊢
  clear d11 rb1 i2 i3 hi1' hD1' hlx
  have e2 : W2.cell? ⟨x, 2, none⟩ = some (.slice (some ⟨lb, lo, none⟩) v.ll v.lc) := hla'.out ▸ hD2.cell 2 rfl
  have e4 : W2.cell? ⟨x, 4, none⟩ = some (.int .i64 ev.k.t) := hD2.cell 4 rfl
  have e11 : W2.cell? ⟨x, 11, none⟩ = some (.slice (some ⟨rb, 0, none⟩) 16 16) := hD2.cell 11 rfl
  have e13 : W2.cell? ⟨x, 13, none⟩ = some (.slice oa m.o.length oc) := ho'.out ▸ hD2.cell 13 rfl
  have rc2 : W2.cell? ⟨rb, c, none⟩ = some (.int .i64 (m.reg c)) := hD2.reg c hc
  have fx2 := hD2.fx 13
  have hDb := hD2.hb
  have hxb := hD2.xb
  have hrbb := hD2.rbb
  have hD2' := Lib.hid hD2
  obtain ⟨-, -, i1, i2, i3⟩ := hi2
  obtain ⟨-, -, -, l2, -⟩ := hl2
  simp only [Nat.zero_add] at i1 i2 i3
  have hr12 := Lib.hid (hr1.trans hr2)
  clear hD2 hr1 hr2 hla'
  have hB := hB'.out
  have hT := hT'.out
  go_wp2
  go_ret
  exact ⟨rfl, hr12.out⟩
set_option maxHeartbeats 1000000 in
theorem send_ok_p (h : DM b1 w x rb v W ev ov m) (hw : Wds w v W) {b0 : Nat} (hb0x : b0 ≤ x) (hb01 : b0 ≤ b1) (h0 : 0 < v.ll) (hl : v.ll ≤ 1024) (h8 : m.o.length < 8) (ht : 0 ≤ ev.k.t ∧ ev.k.t ≤ 4611686018427387903) (op : Int) (a b c : Nat) (ha : a < 16) (hb : b < 16) (hc : c < 16)
    (kk : Nat) (hkl : kk < v.ll) (hk : (m.reg a).tmod (v.ll : Int) = (kk : Int)) (src dst look : Int) (loose : Bool) (hlk : W.links.getD kk default = ⟨src, dst, look, loose⟩) (hB : ¬ m.reg b < look) (hT : ¬ 4611686018427387903 - ev.k.t < m.reg b) :
    Calls Tryd.prog 38 #[.pointer (some ⟨x, 0, none⟩), .agg #[.int .i64 op, .int .i64 a, .int .i64 b, .int .i64 c]] w fun e w' => e = .returned (.int .i64 0) ∧ Aside (∃ ov', DM b1 w' x rb v W ev ov' { m with o := m.o ++ [⟨kk, m.reg b, m.reg c⟩] } ∧ Below b0 w w') := by
  obtain ⟨i0, hi, hz0, hz1, hz2⟩ := info_parts infoOut
  obtain ⟨oa, oc, ho⟩ := own_slice h.own
  have c2 : ∀ (o : Obj), (w.alloc o).cell? ⟨x, 2, none⟩ = some (.slice v.la v.ll v.lc) := fun o => (h.alloc o).cell 2 rfl
  have c11 : ∀ (o : Obj), (w.alloc o).cell? ⟨x, 11, none⟩ = some (.slice (some ⟨rb, 0, none⟩) 16 16) := fun o => (h.alloc o).cell 11 rfl
  have c13 : ∀ (o : Obj), (w.alloc o).cell? ⟨x, 13, none⟩ = some (.slice oa m.o.length oc) := fun o => ho ▸ (h.alloc o).cell 13 rfl
  have ra : ∀ (o : Obj), (w.alloc o).cell? ⟨rb, a, none⟩ = some (.int .i64 (m.reg a)) := fun o => (h.alloc o).reg a ha
  obtain ⟨lb, lo, hla, hlm⟩ : ∃ lb lo, v.la = some ⟨lb, lo, none⟩ ∧ ∀ j, j < v.ll → LkAt w lb (lo + j * 4) (W.links.getD j default) := by
    rcases hw.2.1.2.2.2 with g | g
    · omega
    · exact g
  have hlx : Hid (LkAt w lb (lo + kk * 4) ⟨src, dst, look, loose⟩) := by have := hlm kk hkl; rw [hlk] at this; exact this
  have h' := Lib.hid h
  have ho' := Lib.hid ho
  have hla' := Lib.hid hla
  have hB' := Lib.hid hB
  have hT' := Lib.hid hT
  clear h ho hw hlm hlk hla hB hT
  have hn0 : ((v.ll : Int) == 0) = false := by simp; omega
  have h8' : decide ((8 : Int) ≤ (m.o.length : Int)) = false := by simp; omega
  go_enter Tryd.func38, Tryd.ntmps38
  go_wp2_with fail
  go_quiet (fail)
  have hr1 : Read w ((w.alloc (.cells #[.int .i64 op, .int .i64 a, .int .i64 b, .int .i64 c] 56)).drewN nq) := Read.alloc _ (Read.drew _ _)
  have hi1 : InsAt ((w.alloc (.cells #[.int .i64 op, .int .i64 a, .int .i64 b, .int .i64 c] 56)).drewN nq) w.heap.size 0 ⟨op, a, b, c⟩ := (InsAt.mk w op a b c).read (Read.drew _ _)
  generalize (w.alloc (.cells #[.int .i64 op, .int .i64 a, .int .i64 b, .int .i64 c] 56)).drewN nq = W1 at hr1 hi1 ⊢
  clear c2 c11 c13 ra
  have hD1 := h'.out.below hr1.below
  have d11 : W1.cell? ⟨x, 11, none⟩ = some (.slice (some ⟨rb, 0, none⟩) 16 16) := hD1.cell 11 rfl
  have rb1 : W1.cell? ⟨rb, b, none⟩ = some (.int .i64 (m.reg b)) := hD1.reg b hb
  have hi1' := Lib.hid hi1
  obtain ⟨-, -, -, i2, i3⟩ := hi1
  simp only [Nat.zero_add] at i2 i3
  have hD1' := Lib.hid hD1
  clear hD1
  go_wp2_with fail
  go_quiet (fail)
  have hr2 : Read W1 (W1.drewN nq) := Read.drew _ _
  have hi2 := hi1'.out.read hr2
  have hD2 := hD1'.out.below hr2.below
  have hl2 := (hlx.out.below hr1.below).below hr2.below
  generalize W1.drewN nq = W2 at hr2 hi2 hD2 hl2 ⊢
  clear d11 rb1 i2 i3 hi1' hD1' hlx
  have e2 : W2.cell? ⟨x, 2, none⟩ = some (.slice (some ⟨lb, lo, none⟩) v.ll v.lc) := hla'.out ▸ hD2.cell 2 rfl
  have e4 : W2.cell? ⟨x, 4, none⟩ = some (.int .i64 ev.k.t) := hD2.cell 4 rfl
  have e11 : W2.cell? ⟨x, 11, none⟩ = some (.slice (some ⟨rb, 0, none⟩) 16 16) := hD2.cell 11 rfl
  have e13 : W2.cell? ⟨x, 13, none⟩ = some (.slice oa m.o.length oc) := ho'.out ▸ hD2.cell 13 rfl
  have rc2 : W2.cell? ⟨rb, c, none⟩ = some (.int .i64 (m.reg c)) := hD2.reg c hc
  have fx2 := hD2.fx 13
  have hDb := hD2.hb
  have hxb := hD2.xb
  have hrbb := hD2.rbb
  have hD2' := Lib.hid hD2
  obtain ⟨-, -, i1, i2, i3⟩ := hi2
  obtain ⟨-, -, -, l2, -⟩ := hl2
  simp only [Nat.zero_add] at i1 i2 i3
  have hr12 := Lib.hid (hr1.trans hr2)
  clear hD2 hr1 hr2 hla'
  have hB := hB'.out
  have hT := hT'.out
  go_wp2_with fail
  have hown' := Lib.hid hD2'.out.own
  have hoe := ho'.out
  have ag : Value.ownBlock (.slice oa m.o.length oc) ≠ some x := by
    intro e
    rw [← ho'.out] at e
    have := (hown'.out.lt x e).1
    omega
  have ag2 : Value.ownBlock (.slice oa m.o.length oc) ≠ some rb := by
    intro e
    rw [← ho'.out] at e
    have := (hown'.out.lt rb e).1
    omega
  rw [hoe] at hown'
  clear hoe
  have hc' : (c : Int) < 16 := by omega
  have hxW : x < W2.heap.size := by omega
  have hfz := fx2
  go_region_law (first
    | (refine step_append_lies _ (by rfl) _ _ _ (by rfl) b1 47 i0 _ 3 24 Tryd.underlying34 hi hz0 hz1 hz2 rfl (by omega) (.slice oa m.o.length oc) m.o.length (flatO m.o) (by rfl) ((hown'.out.alloc _).drew) ⟨W2.heap.size, 0, none⟩ 1 1 (flatO [⟨kk, m.reg b, m.reg c⟩]) (by rfl) (by rfl) (World.news_of_block (cs := (Ot.cells ⟨kk, m.reg b, m.reg c⟩)) (t := 47) (fr := (0, 0)) (heap_alloc_new W2 _)) (by simp [Value.oneCell', flatO_one]) (by omega) (by unfold maxLen; omega) (by omega) (by simp; omega) (W2.heap.size + 1) (by simp) ?_; intro gg cap w4 hown4 hgrow hat hlt4; have q13 : w4.cell? ⟨x, 13, none⟩ = some (.slice oa m.o.length oc) := (hgrow.cell_far _ (by simp; omega) (Ne.symm ag)).trans (Lib.cell?_alloc_some _ e13); have q13f : w4.frozen? ⟨x, 13, none⟩ = false := (hgrow.frozen_far _ (by simp; omega) (Ne.symm ag)).trans (by rw [← hfz]; exact World.frozen?_alloc_past _ _ _ hxW)))
  all_goals
    have hown5 : w4.ownsRow b1 47 3 (.slice (some ⟨gg, 0, none⟩) (m.o.length + 1) cap) (m.o ++ [(⟨kk, m.reg b, m.reg c⟩ : Ot)]).length (flatO (m.o ++ [(⟨kk, m.reg b, m.reg c⟩ : Ot)])) := by
      rw [flatO_append, List.length_append]; exact hown4
    have hD4 := ((hD2'.out.alloc _).drew).setO hgrow (fun k hk => (hown'.out.lt k hk).1) hown5
    have hB4 := (((((hr12.out.below).mono (Nat.le_trans hb01 h'.out.hb)).alloc (Nat.le_trans hb01 hDb) _).drew).grown hgrow (by have := hDb; simp; omega) (fun k hk => Nat.le_trans hb01 (hown'.out.lt k hk).1)).setCell (p := ⟨x, 13, none⟩) hb0x (.slice (some ⟨gg, 0, none⟩) (m.o.length + 1) cap)
    have hQ := Lib.hid (And.intro hD4 hB4)
    clear hown4 hgrow hat hlt4 q13 q13f hown5 hD4 hB4 ag ag2
    generalize w4.setCell ⟨x, 13, none⟩ (.slice (some ⟨gg, 0, none⟩) (m.o.length + 1) cap) = W5 at hQ ⊢
    go_wp2
    go_ret
    exact ⟨rfl, _, hQ.out⟩
set_option maxHeartbeats 1000000 in
theorem send_look_n (h : DM b1 w x rb v W ev ov m) (hw : Wds w v W) (h0 : 0 < v.ll) (hl : v.ll ≤ 1024) (h8 : m.o.length < 8) (ht : 0 ≤ ev.k.t ∧ ev.k.t ≤ 4611686018427387903) (op : Int) (a b c : Nat) (ha : a < 16) (hb : b < 16) (hc : c < 16)
    (kk : Nat) (hkl : kk < v.ll) (T : Int) (hT0 : (m.reg a).tmod (v.ll : Int) = T) (hn : T < 0) (hk : T + (v.ll : Int) = (kk : Int)) (src dst look : Int) (loose : Bool) (hlk : W.links.getD kk default = ⟨src, dst, look, loose⟩) (hB : m.reg b < look) :
    Calls Tryd.prog 38 #[.pointer (some ⟨x, 0, none⟩), .agg #[.int .i64 op, .int .i64 a, .int .i64 b, .int .i64 c]] w fun e w' => e = .returned (.int .i64 50) ∧ Read w w' := by
  obtain ⟨oa, oc, ho⟩ := own_slice h.own
  have c2 : ∀ (o : Obj), (w.alloc o).cell? ⟨x, 2, none⟩ = some (.slice v.la v.ll v.lc) := fun o => (h.alloc o).cell 2 rfl
  have c11 : ∀ (o : Obj), (w.alloc o).cell? ⟨x, 11, none⟩ = some (.slice (some ⟨rb, 0, none⟩) 16 16) := fun o => (h.alloc o).cell 11 rfl
  have c13 : ∀ (o : Obj), (w.alloc o).cell? ⟨x, 13, none⟩ = some (.slice oa m.o.length oc) := fun o => ho ▸ (h.alloc o).cell 13 rfl
  have ra : ∀ (o : Obj), (w.alloc o).cell? ⟨rb, a, none⟩ = some (.int .i64 (m.reg a)) := fun o => (h.alloc o).reg a ha
  obtain ⟨lb, lo, hla, hlm⟩ : ∃ lb lo, v.la = some ⟨lb, lo, none⟩ ∧ ∀ j, j < v.ll → LkAt w lb (lo + j * 4) (W.links.getD j default) := by
    rcases hw.2.1.2.2.2 with g | g
    · omega
    · exact g
  have hlx : Hid (LkAt w lb (lo + kk * 4) ⟨src, dst, look, loose⟩) := by have := hlm kk hkl; rw [hlk] at this; exact this
  have h' := Lib.hid h
  have ho' := Lib.hid ho
  have hla' := Lib.hid hla
  have hB' := Lib.hid hB
  clear h ho hw hlm hlk hla hB
  have hn0 : ((v.ll : Int) == 0) = false := by simp; omega
  have h8' : decide ((8 : Int) ≤ (m.o.length : Int)) = false := by simp; omega
  go_enter Tryd.func38, Tryd.ntmps38
  go_wp2_with fail
  go_quiet (fail)
  have hr1 : Read w ((w.alloc (.cells #[.int .i64 op, .int .i64 a, .int .i64 b, .int .i64 c] 56)).drewN nq) := Read.alloc _ (Read.drew _ _)
  have hi1 : InsAt ((w.alloc (.cells #[.int .i64 op, .int .i64 a, .int .i64 b, .int .i64 c] 56)).drewN nq) w.heap.size 0 ⟨op, a, b, c⟩ := (InsAt.mk w op a b c).read (Read.drew _ _)
  generalize (w.alloc (.cells #[.int .i64 op, .int .i64 a, .int .i64 b, .int .i64 c] 56)).drewN nq = W1 at hr1 hi1 ⊢
  clear c2 c11 c13 ra
  have hD1 := h'.out.below hr1.below
  have d11 : W1.cell? ⟨x, 11, none⟩ = some (.slice (some ⟨rb, 0, none⟩) 16 16) := hD1.cell 11 rfl
  have rb1 : W1.cell? ⟨rb, b, none⟩ = some (.int .i64 (m.reg b)) := hD1.reg b hb
  have hi1' := Lib.hid hi1
  obtain ⟨-, -, -, i2, i3⟩ := hi1
  simp only [Nat.zero_add] at i2 i3
  have hD1' := Lib.hid hD1
  clear hD1
  go_wp2_with fail
  go_quiet (fail)
  have hr2 : Read W1 (W1.drewN nq) := Read.drew _ _
  have hi2 := hi1'.out.read hr2
  have hD2 := hD1'.out.below hr2.below
  have hl2 := (hlx.out.below hr1.below).below hr2.below
  generalize W1.drewN nq = W2 at hr2 hi2 hD2 hl2 ⊢
  clear d11 rb1 i2 i3 hi1' hD1' hlx
  have e2 : W2.cell? ⟨x, 2, none⟩ = some (.slice (some ⟨lb, lo, none⟩) v.ll v.lc) := hla'.out ▸ hD2.cell 2 rfl
  have e4 : W2.cell? ⟨x, 4, none⟩ = some (.int .i64 ev.k.t) := hD2.cell 4 rfl
  have e11 : W2.cell? ⟨x, 11, none⟩ = some (.slice (some ⟨rb, 0, none⟩) 16 16) := hD2.cell 11 rfl
  have e13 : W2.cell? ⟨x, 13, none⟩ = some (.slice oa m.o.length oc) := ho'.out ▸ hD2.cell 13 rfl
  have rc2 : W2.cell? ⟨rb, c, none⟩ = some (.int .i64 (m.reg c)) := hD2.reg c hc
  have fx2 := hD2.fx 13
  have hDb := hD2.hb
  have hxb := hD2.xb
  have hrbb := hD2.rbb
  have hD2' := Lib.hid hD2
  obtain ⟨-, -, i1, i2, i3⟩ := hi2
  obtain ⟨-, -, -, l2, -⟩ := hl2
  simp only [Nat.zero_add] at i1 i2 i3
  have hr12 := Lib.hid (hr1.trans hr2)
  clear hD2 hr1 hr2 hla'
  have hB := hB'.out
  go_wp2
  go_ret
  exact ⟨rfl, hr12.out⟩
set_option maxHeartbeats 1000000 in
theorem send_time_n (h : DM b1 w x rb v W ev ov m) (hw : Wds w v W) (h0 : 0 < v.ll) (hl : v.ll ≤ 1024) (h8 : m.o.length < 8) (ht : 0 ≤ ev.k.t ∧ ev.k.t ≤ 4611686018427387903) (op : Int) (a b c : Nat) (ha : a < 16) (hb : b < 16) (hc : c < 16)
    (kk : Nat) (hkl : kk < v.ll) (T : Int) (hT0 : (m.reg a).tmod (v.ll : Int) = T) (hn : T < 0) (hk : T + (v.ll : Int) = (kk : Int)) (src dst look : Int) (loose : Bool) (hlk : W.links.getD kk default = ⟨src, dst, look, loose⟩) (hB : ¬ m.reg b < look) (hT : 4611686018427387903 - ev.k.t < m.reg b) :
    Calls Tryd.prog 38 #[.pointer (some ⟨x, 0, none⟩), .agg #[.int .i64 op, .int .i64 a, .int .i64 b, .int .i64 c]] w fun e w' => e = .returned (.int .i64 10) ∧ Read w w' := by
  obtain ⟨oa, oc, ho⟩ := own_slice h.own
  have c2 : ∀ (o : Obj), (w.alloc o).cell? ⟨x, 2, none⟩ = some (.slice v.la v.ll v.lc) := fun o => (h.alloc o).cell 2 rfl
  have c11 : ∀ (o : Obj), (w.alloc o).cell? ⟨x, 11, none⟩ = some (.slice (some ⟨rb, 0, none⟩) 16 16) := fun o => (h.alloc o).cell 11 rfl
  have c13 : ∀ (o : Obj), (w.alloc o).cell? ⟨x, 13, none⟩ = some (.slice oa m.o.length oc) := fun o => ho ▸ (h.alloc o).cell 13 rfl
  have ra : ∀ (o : Obj), (w.alloc o).cell? ⟨rb, a, none⟩ = some (.int .i64 (m.reg a)) := fun o => (h.alloc o).reg a ha
  obtain ⟨lb, lo, hla, hlm⟩ : ∃ lb lo, v.la = some ⟨lb, lo, none⟩ ∧ ∀ j, j < v.ll → LkAt w lb (lo + j * 4) (W.links.getD j default) := by
    rcases hw.2.1.2.2.2 with g | g
    · omega
    · exact g
  have hlx : Hid (LkAt w lb (lo + kk * 4) ⟨src, dst, look, loose⟩) := by have := hlm kk hkl; rw [hlk] at this; exact this
  have h' := Lib.hid h
  have ho' := Lib.hid ho
  have hla' := Lib.hid hla
  have hB' := Lib.hid hB
  have hT' := Lib.hid hT
  clear h ho hw hlm hlk hla hB hT
  have hn0 : ((v.ll : Int) == 0) = false := by simp; omega
  have h8' : decide ((8 : Int) ≤ (m.o.length : Int)) = false := by simp; omega
  go_enter Tryd.func38, Tryd.ntmps38
  go_wp2_with fail
  go_quiet (fail)
  have hr1 : Read w ((w.alloc (.cells #[.int .i64 op, .int .i64 a, .int .i64 b, .int .i64 c] 56)).drewN nq) := Read.alloc _ (Read.drew _ _)
  have hi1 : InsAt ((w.alloc (.cells #[.int .i64 op, .int .i64 a, .int .i64 b, .int .i64 c] 56)).drewN nq) w.heap.size 0 ⟨op, a, b, c⟩ := (InsAt.mk w op a b c).read (Read.drew _ _)
  generalize (w.alloc (.cells #[.int .i64 op, .int .i64 a, .int .i64 b, .int .i64 c] 56)).drewN nq = W1 at hr1 hi1 ⊢
  clear c2 c11 c13 ra
  have hD1 := h'.out.below hr1.below
  have d11 : W1.cell? ⟨x, 11, none⟩ = some (.slice (some ⟨rb, 0, none⟩) 16 16) := hD1.cell 11 rfl
  have rb1 : W1.cell? ⟨rb, b, none⟩ = some (.int .i64 (m.reg b)) := hD1.reg b hb
  have hi1' := Lib.hid hi1
  obtain ⟨-, -, -, i2, i3⟩ := hi1
  simp only [Nat.zero_add] at i2 i3
  have hD1' := Lib.hid hD1
  clear hD1
  go_wp2_with fail
  go_quiet (fail)
  have hr2 : Read W1 (W1.drewN nq) := Read.drew _ _
  have hi2 := hi1'.out.read hr2
  have hD2 := hD1'.out.below hr2.below
  have hl2 := (hlx.out.below hr1.below).below hr2.below
  generalize W1.drewN nq = W2 at hr2 hi2 hD2 hl2 ⊢
  clear d11 rb1 i2 i3 hi1' hD1' hlx
  have e2 : W2.cell? ⟨x, 2, none⟩ = some (.slice (some ⟨lb, lo, none⟩) v.ll v.lc) := hla'.out ▸ hD2.cell 2 rfl
  have e4 : W2.cell? ⟨x, 4, none⟩ = some (.int .i64 ev.k.t) := hD2.cell 4 rfl
  have e11 : W2.cell? ⟨x, 11, none⟩ = some (.slice (some ⟨rb, 0, none⟩) 16 16) := hD2.cell 11 rfl
  have e13 : W2.cell? ⟨x, 13, none⟩ = some (.slice oa m.o.length oc) := ho'.out ▸ hD2.cell 13 rfl
  have rc2 : W2.cell? ⟨rb, c, none⟩ = some (.int .i64 (m.reg c)) := hD2.reg c hc
  have fx2 := hD2.fx 13
  have hDb := hD2.hb
  have hxb := hD2.xb
  have hrbb := hD2.rbb
  have hD2' := Lib.hid hD2
  obtain ⟨-, -, i1, i2, i3⟩ := hi2
  obtain ⟨-, -, -, l2, -⟩ := hl2
  simp only [Nat.zero_add] at i1 i2 i3
  have hr12 := Lib.hid (hr1.trans hr2)
  clear hD2 hr1 hr2 hla'
  have hB := hB'.out
  have hT := hT'.out
  go_wp2
  go_ret
  exact ⟨rfl, hr12.out⟩
set_option maxHeartbeats 1000000 in
theorem send_ok_n (h : DM b1 w x rb v W ev ov m) (hw : Wds w v W) {b0 : Nat} (hb0x : b0 ≤ x) (hb01 : b0 ≤ b1) (h0 : 0 < v.ll) (hl : v.ll ≤ 1024) (h8 : m.o.length < 8) (ht : 0 ≤ ev.k.t ∧ ev.k.t ≤ 4611686018427387903) (op : Int) (a b c : Nat) (ha : a < 16) (hb : b < 16) (hc : c < 16)
    (kk : Nat) (hkl : kk < v.ll) (T : Int) (hT0 : (m.reg a).tmod (v.ll : Int) = T) (hn : T < 0) (hk : T + (v.ll : Int) = (kk : Int)) (src dst look : Int) (loose : Bool) (hlk : W.links.getD kk default = ⟨src, dst, look, loose⟩) (hB : ¬ m.reg b < look) (hT : ¬ 4611686018427387903 - ev.k.t < m.reg b) :
    Calls Tryd.prog 38 #[.pointer (some ⟨x, 0, none⟩), .agg #[.int .i64 op, .int .i64 a, .int .i64 b, .int .i64 c]] w fun e w' => e = .returned (.int .i64 0) ∧ Aside (∃ ov', DM b1 w' x rb v W ev ov' { m with o := m.o ++ [⟨kk, m.reg b, m.reg c⟩] } ∧ Below b0 w w') := by
  obtain ⟨i0, hi, hz0, hz1, hz2⟩ := info_parts infoOut
  obtain ⟨oa, oc, ho⟩ := own_slice h.own
  have c2 : ∀ (o : Obj), (w.alloc o).cell? ⟨x, 2, none⟩ = some (.slice v.la v.ll v.lc) := fun o => (h.alloc o).cell 2 rfl
  have c11 : ∀ (o : Obj), (w.alloc o).cell? ⟨x, 11, none⟩ = some (.slice (some ⟨rb, 0, none⟩) 16 16) := fun o => (h.alloc o).cell 11 rfl
  have c13 : ∀ (o : Obj), (w.alloc o).cell? ⟨x, 13, none⟩ = some (.slice oa m.o.length oc) := fun o => ho ▸ (h.alloc o).cell 13 rfl
  have ra : ∀ (o : Obj), (w.alloc o).cell? ⟨rb, a, none⟩ = some (.int .i64 (m.reg a)) := fun o => (h.alloc o).reg a ha
  obtain ⟨lb, lo, hla, hlm⟩ : ∃ lb lo, v.la = some ⟨lb, lo, none⟩ ∧ ∀ j, j < v.ll → LkAt w lb (lo + j * 4) (W.links.getD j default) := by
    rcases hw.2.1.2.2.2 with g | g
    · omega
    · exact g
  have hlx : Hid (LkAt w lb (lo + kk * 4) ⟨src, dst, look, loose⟩) := by have := hlm kk hkl; rw [hlk] at this; exact this
  have h' := Lib.hid h
  have ho' := Lib.hid ho
  have hla' := Lib.hid hla
  have hB' := Lib.hid hB
  have hT' := Lib.hid hT
  clear h ho hw hlm hlk hla hB hT
  have hn0 : ((v.ll : Int) == 0) = false := by simp; omega
  have h8' : decide ((8 : Int) ≤ (m.o.length : Int)) = false := by simp; omega
  go_enter Tryd.func38, Tryd.ntmps38
  go_wp2_with fail
  go_quiet (fail)
  have hr1 : Read w ((w.alloc (.cells #[.int .i64 op, .int .i64 a, .int .i64 b, .int .i64 c] 56)).drewN nq) := Read.alloc _ (Read.drew _ _)
  have hi1 : InsAt ((w.alloc (.cells #[.int .i64 op, .int .i64 a, .int .i64 b, .int .i64 c] 56)).drewN nq) w.heap.size 0 ⟨op, a, b, c⟩ := (InsAt.mk w op a b c).read (Read.drew _ _)
  generalize (w.alloc (.cells #[.int .i64 op, .int .i64 a, .int .i64 b, .int .i64 c] 56)).drewN nq = W1 at hr1 hi1 ⊢
  clear c2 c11 c13 ra
  have hD1 := h'.out.below hr1.below
  have d11 : W1.cell? ⟨x, 11, none⟩ = some (.slice (some ⟨rb, 0, none⟩) 16 16) := hD1.cell 11 rfl
  have rb1 : W1.cell? ⟨rb, b, none⟩ = some (.int .i64 (m.reg b)) := hD1.reg b hb
  have hi1' := Lib.hid hi1
  obtain ⟨-, -, -, i2, i3⟩ := hi1
  simp only [Nat.zero_add] at i2 i3
  have hD1' := Lib.hid hD1
  clear hD1
  go_wp2_with fail
  go_quiet (fail)
  have hr2 : Read W1 (W1.drewN nq) := Read.drew _ _
  have hi2 := hi1'.out.read hr2
  have hD2 := hD1'.out.below hr2.below
  have hl2 := (hlx.out.below hr1.below).below hr2.below
  generalize W1.drewN nq = W2 at hr2 hi2 hD2 hl2 ⊢
  clear d11 rb1 i2 i3 hi1' hD1' hlx
  have e2 : W2.cell? ⟨x, 2, none⟩ = some (.slice (some ⟨lb, lo, none⟩) v.ll v.lc) := hla'.out ▸ hD2.cell 2 rfl
  have e4 : W2.cell? ⟨x, 4, none⟩ = some (.int .i64 ev.k.t) := hD2.cell 4 rfl
  have e11 : W2.cell? ⟨x, 11, none⟩ = some (.slice (some ⟨rb, 0, none⟩) 16 16) := hD2.cell 11 rfl
  have e13 : W2.cell? ⟨x, 13, none⟩ = some (.slice oa m.o.length oc) := ho'.out ▸ hD2.cell 13 rfl
  have rc2 : W2.cell? ⟨rb, c, none⟩ = some (.int .i64 (m.reg c)) := hD2.reg c hc
  have fx2 := hD2.fx 13
  have hDb := hD2.hb
  have hxb := hD2.xb
  have hrbb := hD2.rbb
  have hD2' := Lib.hid hD2
  obtain ⟨-, -, i1, i2, i3⟩ := hi2
  obtain ⟨-, -, -, l2, -⟩ := hl2
  simp only [Nat.zero_add] at i1 i2 i3
  have hr12 := Lib.hid (hr1.trans hr2)
  clear hD2 hr1 hr2 hla'
  have hB := hB'.out
  have hT := hT'.out
  go_wp2_with fail
  have hown' := Lib.hid hD2'.out.own
  have hoe := ho'.out
  have ag : Value.ownBlock (.slice oa m.o.length oc) ≠ some x := by
    intro e
    rw [← ho'.out] at e
    have := (hown'.out.lt x e).1
    omega
  have ag2 : Value.ownBlock (.slice oa m.o.length oc) ≠ some rb := by
    intro e
    rw [← ho'.out] at e
    have := (hown'.out.lt rb e).1
    omega
  rw [hoe] at hown'
  clear hoe
  have hc' : (c : Int) < 16 := by omega
  have hxW : x < W2.heap.size := by omega
  have hfz := fx2
  go_region_law (first
    | (refine step_append_lies _ (by rfl) _ _ _ (by rfl) b1 47 i0 _ 3 24 Tryd.underlying34 hi hz0 hz1 hz2 rfl (by omega) (.slice oa m.o.length oc) m.o.length (flatO m.o) (by rfl) ((hown'.out.alloc _).drew) ⟨W2.heap.size, 0, none⟩ 1 1 (flatO [⟨kk, m.reg b, m.reg c⟩]) (by rfl) (by rfl) (World.news_of_block (cs := (Ot.cells ⟨kk, m.reg b, m.reg c⟩)) (t := 47) (fr := (0, 0)) (heap_alloc_new W2 _)) (by simp [Value.oneCell', flatO_one]) (by omega) (by unfold maxLen; omega) (by omega) (by simp; omega) (W2.heap.size + 1) (by simp) ?_; intro gg cap w4 hown4 hgrow hat hlt4; have q13 : w4.cell? ⟨x, 13, none⟩ = some (.slice oa m.o.length oc) := (hgrow.cell_far _ (by simp; omega) (Ne.symm ag)).trans (Lib.cell?_alloc_some _ e13); have q13f : w4.frozen? ⟨x, 13, none⟩ = false := (hgrow.frozen_far _ (by simp; omega) (Ne.symm ag)).trans (by rw [← hfz]; exact World.frozen?_alloc_past _ _ _ hxW)))
  all_goals
    have hown5 : w4.ownsRow b1 47 3 (.slice (some ⟨gg, 0, none⟩) (m.o.length + 1) cap) (m.o ++ [(⟨kk, m.reg b, m.reg c⟩ : Ot)]).length (flatO (m.o ++ [(⟨kk, m.reg b, m.reg c⟩ : Ot)])) := by
      rw [flatO_append, List.length_append]; exact hown4
    have hD4 := ((hD2'.out.alloc _).drew).setO hgrow (fun k hk => (hown'.out.lt k hk).1) hown5
    have hB4 := (((((hr12.out.below).mono (Nat.le_trans hb01 h'.out.hb)).alloc (Nat.le_trans hb01 hDb) _).drew).grown hgrow (by have := hDb; simp; omega) (fun k hk => Nat.le_trans hb01 (hown'.out.lt k hk).1)).setCell (p := ⟨x, 13, none⟩) hb0x (.slice (some ⟨gg, 0, none⟩) (m.o.length + 1) cap)
    have hQ := Lib.hid (And.intro hD4 hB4)
    clear hown4 hgrow hat hlt4 q13 q13f hown5 hD4 hB4 ag ag2
    generalize w4.setCell ⟨x, 13, none⟩ (.slice (some ⟨gg, 0, none⟩) (m.o.length + 1) cap) = W5 at hQ ⊢
    go_wp2
    go_ret
    exact ⟨rfl, _, hQ.out⟩
end
end Go.Proofs.YtghbdpjegmdhbaaDoor
