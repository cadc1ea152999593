/-
  The tree's iterator over its places: what it hands to whatever loop goes over it.
-/
import Derived.Test.YtbalbachmeiehaaHZ
import Derived.RangeFuncNested
import Derived.RangeFuncLeaves
import Derived.Shelf.Abstract
import Derived.OwnWalkIn
import Derived.TacticsInMore
import Derived.LoopNIn
import Derived.LoopIn
namespace Go.Proofs.Ytbalbachmeiehaa
open Go.ChangeShapes Go.WideShapes Go.ChangeAt Go.Shelf Go.RowKit Go.Lib Go.Sort Go.Deep Go.Maps
set_option linter.unusedVariables false
attribute [local go_sem] Oper.semAt_some

/-- The first k places. -/
def places (ms : List M) (k : Nat) : List (Fin ms.length) := (List.finRange ms.length).take k
theorem places_succ (ms : List M) (k : Nat) (hk : k < ms.length) : places ms (k + 1) = places ms k ++ [⟨k, hk⟩] := by
  unfold places
  rw [List.take_succ_eq_append_getElem (by simpa using hk)]
  simp
theorem places_length (ms : List M) (k : Nat) (hk : k ≤ ms.length) : (places ms k).length = k := by simp [places, hk]
theorem places_all (ms : List M) (x : Fin ms.length) : x ∈ places ms ms.length := by
  unfold places
  rw [List.take_of_length_le (by simp)]
  exact List.mem_finRange x
/-- What a place is handed over as, with what lies there. -/
def placeV (ms : List M) (x : Fin ms.length) : Array Value := #[.int .i64 ((x.val : Nat) : Int), (ms.getD x.val default).val]

theorem tall_any (tb : Nat) (w : World) : Calls Try.prog 35 #[.pointer (some ⟨tb, 0, none⟩)] w fun e w' => e = .returned (.func (.func 45) #[] #[.pointer (some ⟨w.heap.size, 0, none⟩)]) ∧ w' = w.alloc (.cells #[.pointer (some ⟨tb, 0, none⟩)] 50) := by
  go_enter Try.func35, Try.ntmps35
  go_wp2
  go_ret
  exact ⟨rfl, rfl⟩

set_option maxRecDepth 100000 in
set_option maxHeartbeats 2000000 in
theorem tall1_in (F : Fence) (n : Nat) (hF : F.fn 45) (hro : F.round = none) (hn : 1 ≤ n) (l Bt n₀ tb g cap : Nat) (ms : List M) (hsm : ms.length ≤ 16384) (hg : g < n₀) (J Jx : List (Fin ms.length) → World → Prop)
    (hY : ∀ pre x W, J pre W → pre.length < ms.length → YieldAt F (n - 1) Try.prog l (placeV ms x) W fun e W' =>
      (e = .returned (.bool true) ∧ J (pre ++ [x]) W' ∧ Below n₀ W W') ∨ (e = .returned (.bool false) ∧ Jx (pre ++ [x]) W'))
    (W : World) (hJ : AbidesFrom W.heap.size J) (hBt : W.cell? ⟨Bt, 0, none⟩ = some (.pointer (some ⟨tb, 0, none⟩))) (ht : W.cell? ⟨tb, 0, none⟩ = some (.slice (some ⟨g, 0, none⟩) ms.length cap)) (hcap : ms.length ≤ cap)
    (hc : ∀ j, j < ms.length → MsgAt W g (0 + j * 7) (ms.getD j default)) (hn₀ : n₀ ≤ W.heap.size) (h0 : J [] W) :
    CallsIn F n Try.prog 45 #[.func (.yield l) #[] #[], .pointer (some ⟨Bt, 0, none⟩)] W fun e W' => (∃ v, e = .returned v) ∧
      ((∃ ys, ys = places ms ms.length ∧ J ys W') ∨ (∃ pre, (∃ k, k ≤ ms.length ∧ pre = places ms k) ∧ Jx pre W')) := by
  have hJ' := Lib.hid hJ
  have hY' := Lib.hid hY
  have hc' := Lib.hid hc
  obtain ⟨len, hlen⟩ : ∃ len, len = ms.length := ⟨_, rfl⟩
  have hlen' := Lib.hid hlen
  rw [← hlen] at hsm ht hcap
  clear hJ hY hc hlen
  refine callsIn_of_wp Try.func45 rfl hF ?_ hro
  simp only [Try.ntmps45, List.size_toArray, List.length_cons, List.length_nil, Nat.reduceAdd, Nat.reduceSub, Array.replicate_succ, Array.replicate_zero, List.push_toArray, List.append_toArray, List.nil_append, List.cons_append]
  gi_wp2
  gi_loopw [10] (fun i wr => ∃ k : Nat, k ≤ len ∧ i = .int .i64 k ∧ Hid (J (places ms k) wr) ∧ Below n₀ W wr ∧ W.heap.size ≤ wr.heap.size)
    (fun i _ => len - (intOf i).toNat)
  case atStart => exact ⟨0, Nat.zero_le _, rfl, h0, Below.refl _ _, Nat.le_refl _⟩
  case round =>
    obtain ⟨k, hk, rfl, hJs, hnx, hsz⟩ := hrel
    by_cases hlt : k < len
    · have hz : (k : Int) < (len : Int) := by omega
      have hkl : k < ms.length := by rw [← hlen'.out]; exact hlt
      have hm := hc'.out k hkl
      obtain ⟨m, hme⟩ : ∃ m, m = ms.getD k default := ⟨_, rfl⟩
      rw [← hme] at hm
      have hme' := Lib.hid hme
      clear hme
      have hm1 : MsgAt wr g (0 + k * 7) m := by
        obtain ⟨q, c0, c1, c2, c3, c4, c5, c6⟩ := hm
        have hcc : ∀ {o : Nat} {v : Value}, W.cell? ⟨g, o, none⟩ = some v → wr.cell? ⟨g, o, none⟩ = some v := fun h => (hnx.cell (p := ⟨g, _, none⟩) hg).trans h
        exact ⟨Nat.lt_of_lt_of_le q hsz, hcc c0, hcc c1, hcc c2, hcc c3, hcc c4, hcc c5, hcc c6⟩
      obtain ⟨-, x0, x1, x2, x3, x4, x5, x6⟩ := hm1
      simp only [Nat.zero_add] at x0 x1 x2 x3 x4 x5 x6
      have hJa := hJ'.out _ _ _ _ hJs.out (World.grownBy_alloc wr (.cells m.cells 31) none) (fun r e => by cases e)
      have hy0 := hY'.out _ ⟨k, hkl⟩ (wr.alloc (.cells m.cells 31)) hJa (by rw [places_length ms k (Nat.le_of_lt hkl)]; exact hkl)
      obtain ⟨fn, tmps, assign, body, hy, hR⟩ := hy0
      simp only [placeV] at hy hR
      rw [← hme'.out] at hy
      simp only [M.val, M.cells] at hy hR
      have hR' := Lib.hid hR
      clear hm hJa hR
      gi_wp2
      refine hR'.out.mono ?_
      rintro e W3 (⟨rfl, hJ3, hk3⟩ | ⟨rfl, hJx3⟩)
      · have hJ3' : Hid (J (places ms (k + 1)) W3) := by rw [places_succ ms k hkl]; exact hJ3
        have hb3 : Below n₀ W W3 := (hnx.alloc (Nat.le_trans hn₀ hsz) _).trans hk3
        have hs3 : W.heap.size ≤ W3.heap.size := hb3.size
        clear hJ3 hk3 hR' hy x0 x1 x2 x3 x4 x5 x6
        gi_wp2
        go_roundw
        case rel => exact ⟨k + 1, by omega, by simp, hJ3', hb3, hs3⟩
        case measure => simp [intOf]; omega
      · have hJx3' : Hid (Jx (places ms (k + 1)) W3) := by rw [places_succ ms k hkl]; exact hJx3
        clear hJx3 hR' hy x0 x1 x2 x3 x4 x5 x6
        gi_wp2
        refine bodyPost_ret (results_none rfl _ _ _) rfl ?_
        exact ⟨⟨_, rfl⟩, .inr ⟨_, ⟨k + 1, by have := hlen'.out; omega, rfl⟩, hJx3'.out⟩⟩
    · obtain rfl : k = len := by omega
      have hz : ¬ (k : Int) < (k : Int) := by omega
      gi_wp2
      go_end0
      have hfin := hJs.out
      rw [hlen'.out] at hfin
      exact ⟨⟨_, rfl⟩, .inl hfin⟩
theorem tall1_stops (n : Nat) (hn : 1 ≤ n) {w : World} {b0 tb g cap n₀ Bt : Nat} {ms : List M} (h : TreeAt w b0 tb (.slice (some ⟨g, 0, none⟩) ms.length cap) ms) (hBt : Bt < w.heap.size) (hc : w.cell? ⟨Bt, 0, none⟩ = some (.pointer (some ⟨tb, 0, none⟩))) (hg : g < n₀) (hn₀ : n₀ ≤ w.heap.size) :
    SeqStopsK Fence.wide n Try.prog 45 #[.pointer (some ⟨Bt, 0, none⟩)] (placeV ms) (Below n₀) (fun ys => ys = places ms ms.length) (fun pre => ∃ k, k ≤ ms.length ∧ pre = places ms k) ms.length w := fun l J Jx W hW hJ hJx hY h0 => by
  have h1 := h.kept (S := fun _ => False) (.of_below hW) (fun e => e) (fun _ _ e => e)
  have hcap : ms.length ≤ cap := by
    rcases h.own.2 with ⟨h0, _⟩ | ⟨g', cap', cur, hv, _, _, h1, h2, _⟩
    · cases h0
    · cases hv; exact h1
  have hho := own_holds h1.own
  exact tall1_in Fence.wide n trivial rfl hn l Bt n₀ tb g cap ms h.small hg J Jx hY W hJ ((hW.cell (p := ⟨Bt, 0, none⟩) hBt).trans hc) h1.t.c0 hcap (fun j hj => msgs_of_holds hho.1 hho.2 j hj) (Nat.le_trans hn₀ hW.size) h0
end Go.Proofs.Ytbalbachmeiehaa
