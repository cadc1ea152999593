/-
  The contracts of the program's Place and of the document's own answer for it: over every slice of messages that can be read both count the messages that are ahead.
-/
import Derived.Test.YtmfemimnoodpfaaLawsM
import Derived.LoopTactic
namespace Go.Proofs.Ytmfemimnoodpfaa
open Go.ChangeShapes Go.WideShapes Go.ChangeAt Go.RowKit Go.Sort

theorem ret_int {k : IntKind} {a b : Int} (h : a = b) : Ending.returned (.int k a) = .returned (.int k b) := by rw [h]
/-- How many are ahead of m. -/
def placeM (ms : List M) (m : M) : Nat := ms.countP fun x => ltM x m
theorem placeM_take (ms : List M) (m : M) (k : Nat) (h : k < ms.length) : placeM (ms.take (k + 1)) m = placeM (ms.take k) m + (if ltM (ms.getD k default) m then 1 else 0) := by
  unfold placeM
  rw [List.take_succ_eq_append_getElem h, List.countP_append]
  simp [List.getD_eq_getElem?_getD, h, List.countP_cons]
theorem placeM_le (ms : List M) (m : M) : placeM ms m ≤ ms.length := List.countP_le_length

theorem ePlace_any (a : Option Addr) (len cap : Nat) (ms : List M) (m : M) (w : World) (h : Msgs w a len cap ms) :
    Calls Try.prog 29 #[.slice a len cap, m.val] w fun e w' => e = .returned (.int .i64 (placeM ms m)) ∧ Read w w' := by
  obtain ⟨hz, hlc, hmx, -, h⟩ := h
  unfold maxLen at hmx
  rcases h with h0 | ⟨b, off, rfl, hc⟩
  · subst h0
    have hz' : Hid (ms = []) := List.eq_nil_of_length_eq_zero hz
    clear hz
    obtain ⟨⟨t, f, s⟩, to, v, u, an⟩ := m
    simp only [M.val]
    go_enter Try.func29, Try.ntmps29
    go_wp2
    go_loop [5, 10] (fun n i => n = .int .i64 0 ∧ i = .int .i64 0) (fun _ i => 0)
    case atStart => exact ⟨rfl, rfl⟩
    case round =>
      obtain ⟨rfl, rfl⟩ := hrel
      go_wp2
      go_ret
      exact ⟨by rw [hz'.out]; rfl, Read.mk _ _⟩
  · have hz' := Lib.hid hz
    have hc' := Lib.hid hc
    clear hz hc
    have hbox := MsgAt.mk w m
    have hrd0 := Read.mk w (.cells m.cells 28)
    have hcon := fun x w => eBefore_any x m w
    have hpl := fun k hk => placeM_take ms m k hk
    have hps : placeM (ms.take 0) m = 0 := rfl
    have hpe : placeM (ms.take len) m = placeM ms m := by rw [List.take_of_length_le (by rw [hz'.out]; omega)]
    have hpb : ∀ k, k ≤ len → placeM (ms.take k) m ≤ k := fun k hk => by
      have := placeM_le (ms.take k) m
      rw [List.length_take] at this
      omega
    rw [← hpe]
    rw [hz'.out] at hpl
    clear hpe
    obtain ⟨P, hP⟩ : ∃ P : Nat → Nat, ∀ k, placeM (ms.take k) m = P k := ⟨_, fun _ => rfl⟩
    simp only [hP] at hpl hps hpb ⊢
    clear hP
    replace hpl := Lib.hid hpl
    replace hps := Lib.hid hps
    replace hpb := Lib.hid hpb
    obtain ⟨⟨t, f, s⟩, to, v, u, an⟩ := m
    simp only [M.val, M.cells] at hbox hcon hrd0 ⊢
    go_enter Try.func29, Try.ntmps29
    go_wp2
    generalize World.alloc w _ = W at hbox hrd0 ⊢
    go_loopw [5, 10] (fun n i wr => ∃ k : Nat, k ≤ len ∧ i = .int .i64 k ∧ n = .int .i64 (P k) ∧ Read W wr) (fun _ i _ => len - (intOf i).toNat)
    case atStart => exact ⟨0, Nat.zero_le _, rfl, by rw [hps.out]; rfl, Read.refl _⟩
    case round =>
      obtain ⟨k, hk, rfl, rfl, hrk⟩ := hrel
      by_cases hlt : k < len
      · have hstep := Lib.hid (hpl.out k hlt)
        have hb := Lib.hid (hpb.out k hk)
        have hx := (hc'.out k hlt).read (hrd0.trans hrk)
        generalize ms.getD k default = x at hx hstep
        have hbx := (hbox.read hrk).read (Read.mk _ (.cells x.cells 28))
        have hrx := hrk.trans (Read.mk _ (.cells x.cells 28))
        replace hcon := fun w => hcon x w
        generalize ltM x _ = lt at hcon hstep
        obtain ⟨⟨t', f', s'⟩, to', v', u', an'⟩ := x
        simp only [M.cells] at hcon hbx hrx
        obtain ⟨_, x0, x1, x2, x3, x4, x5, x6⟩ := hx
        obtain ⟨_, y0, y1, y2, y3, y4, y5, y6⟩ := hbx
        simp only [Nat.zero_add] at y0 y1 y2 y3 y4 y5 y6
        have hb' : P k ≤ k := hb.out
        cases lt
        · go_wp2_with (go_at_call 16; refine (hcon _).mono ?_; rintro e w1 ⟨rfl, hr1⟩)
          go_round
          case rel => exact ⟨k + 1, by omega, by go_num, by rw [hstep.out]; simp, hrx.trans hr1⟩
          case measure => simp [intOf]; omega
        · go_wp2_with (go_at_call 16; refine (hcon _).mono ?_; rintro e w1 ⟨rfl, hr1⟩)
          go_round
          case rel => exact ⟨k + 1, by omega, by go_num, by rw [hstep.out]; simp only [if_true]; go_num, hrx.trans hr1⟩
          case measure => simp [intOf]; omega
      · have hkl : Hid (k = len) := by show k = len; omega
        go_wp2
        go_ret
        exact ⟨ret_int (by rw [hkl.out]), hrd0.trans hrk⟩

theorem rPlace_any (a : Option Addr) (len cap : Nat) (ms : List M) (m : M) (w : World) (h : Msgs w a len cap ms) :
    Calls Try.prog 30 #[.slice a len cap, m.val] w fun e w' => e = .returned (.int .i64 (placeM ms m)) ∧ Read w w' := by
  obtain ⟨hz, hlc, hmx, -, h⟩ := h
  unfold maxLen at hmx
  rcases h with h0 | ⟨b, off, rfl, hc⟩
  · subst h0
    have hz' : Hid (ms = []) := List.eq_nil_of_length_eq_zero hz
    clear hz
    obtain ⟨⟨t, f, s⟩, to, v, u, an⟩ := m
    simp only [M.val]
    go_enter Try.func30, Try.ntmps30
    go_wp2
    go_loop [5, 6] (fun n i => n = .int .i64 0 ∧ i = .int .i64 0) (fun _ i => 0)
    case atStart => exact ⟨rfl, rfl⟩
    case round =>
      obtain ⟨rfl, rfl⟩ := hrel
      go_wp2
      go_ret
      exact ⟨by rw [hz'.out]; rfl, Read.mk _ _⟩
  · have mixed := mixed
    have hz' := Lib.hid hz
    have hc' := Lib.hid hc
    clear hz hc
    have hbox := MsgAt.mk w m
    have hrd0 := Read.mk w (.cells m.cells 28)
    have hcon := fun x w => rBefore_any x m w
    have hpl := fun k hk => placeM_take ms m k hk
    have hps : placeM (ms.take 0) m = 0 := rfl
    have hpe : placeM (ms.take len) m = placeM ms m := by rw [List.take_of_length_le (by rw [hz'.out]; omega)]
    have hpb : ∀ k, k ≤ len → placeM (ms.take k) m ≤ k := fun k hk => by
      have := placeM_le (ms.take k) m
      rw [List.length_take] at this
      omega
    rw [← hpe]
    rw [hz'.out] at hpl
    clear hpe
    obtain ⟨P, hP⟩ : ∃ P : Nat → Nat, ∀ k, placeM (ms.take k) m = P k := ⟨_, fun _ => rfl⟩
    simp only [hP] at hpl hps hpb ⊢
    clear hP
    replace hpl := Lib.hid hpl
    replace hps := Lib.hid hps
    replace hpb := Lib.hid hpb
    obtain ⟨⟨t, f, s⟩, to, v, u, an⟩ := m
    simp only [M.val, M.cells] at hbox hcon hrd0 ⊢
    go_enter Try.func30, Try.ntmps30
    go_wp2
    generalize World.alloc w _ = W at hbox hrd0 ⊢
    go_loopw [5, 6] (fun n i wr => ∃ k : Nat, k ≤ len ∧ i = .int .i64 k ∧ n = .int .i64 (P k) ∧ Read W wr) (fun _ i _ => len - (intOf i).toNat)
    case atStart => exact ⟨0, Nat.zero_le _, rfl, by rw [hps.out]; rfl, Read.refl _⟩
    case round =>
      obtain ⟨k, hk, rfl, rfl, hrk⟩ := hrel
      by_cases hlt : k < len
      · have hstep := Lib.hid (hpl.out k hlt)
        have hb := Lib.hid (hpb.out k hk)
        have hx := (hc'.out k hlt).read (hrd0.trans hrk)
        generalize ms.getD k default = x at hx hstep
        have hbx := hbox.read hrk
        replace hcon := fun w => hcon x w
        generalize ltM x _ = lt at hcon hstep
        obtain ⟨⟨t', f', s'⟩, to', v', u', an'⟩ := x
        simp only at hcon hbx
        replace hx := fun n os => hx.read ⟨n, os, rfl⟩
        replace hbx := fun n os => hbx.read ⟨n, os, rfl⟩
        simp only [MsgAt, forall_and, Nat.zero_add] at hx hbx
        obtain ⟨-, x0, x1, x2, x3, x4, x5, x6⟩ := hx
        obtain ⟨-, y0, y1, y2, y3, y4, y5, y6⟩ := hbx
        have hb' : P k ≤ k := hb.out
        cases lt
        · go_wp2
          go_quiet_grown ((go_at_call 17; exact Calls.read_of (hcon _)))
          go_wp2
          go_round
          case rel => exact ⟨k + 1, by omega, by go_num, by rw [hstep.out]; simp, hrk.trans ⟨_, _, rfl⟩⟩
          case measure => simp [intOf]; omega
        · go_wp2
          go_quiet_grown ((go_at_call 17; exact Calls.read_of (hcon _)))
          go_wp2
          go_round
          case rel => exact ⟨k + 1, by omega, by go_num, by rw [hstep.out]; simp only [if_true]; go_num, hrk.trans ⟨_, _, rfl⟩⟩
          case measure => simp [intOf]; omega
      · have hkl : Hid (k = len) := by show k = len; omega
        go_wp2
        go_ret
        exact ⟨ret_int (by rw [hkl.out]), hrd0.trans hrk⟩


theorem lawEventPlaces {w : World} {a : Option Addr} {len cap : Nat} {ms : List M} (h : Msgs w a len cap ms) (_ : len * 56 ≤ 140737488351232) (m : M) (_ : m.fits) :
    Calls Try.prog 7 #[.slice a len cap, m.val] w fun e w' => e = .returned (.bool true) ∧ Below w.heap.size w w' := by
  have mixed := mixed
  have hr0 := Read.mk w (.cells m.cells 28)
  have h1 := fun n os => ePlace_any a len cap ms m _ (h.read (hr0.trans ⟨n, os, rfl⟩))
  have h2 := fun n os => rPlace_any a len cap ms m _ (h.read (hr0.trans ⟨n, os, rfl⟩))
  have h3 := awake_any
  generalize placeM ms m = r at h1 h2
  have hl := MsgAt.mk w m
  obtain ⟨⟨t, f, s⟩, to, v, u, an⟩ := m
  simp only [M.val, M.cells] at h1 h2 hl hr0 ⊢
  go_enter Try.func7, Try.ntmps7
  go_wp2
  generalize World.alloc w _ = W at hl hr0 h1 h2 ⊢
  have hl' := fun n os => hl.read ⟨n, os, rfl⟩
  simp only [MsgAt, forall_and, Nat.zero_add] at hl'
  obtain ⟨-, l0, l1, l2, l3, l4, l5, l6⟩ := hl'
  clear hl
  go_quiet_grown (first | (go_at_call 29; exact Calls.read_of (h1 _ _)) | (go_at_call 30; exact Calls.read_of (h2 _ _)) | (go_at_call 15; exact Calls.read_of (h3 _)))
  go_wp2
  go_ret
  exact ⟨rfl, (hr0.trans ⟨_, _, rfl⟩).below⟩

end Go.Proofs.Ytmfemimnoodpfaa
