
/-
  Rungs: which one, by its number; the places of feet.
-/
import Derived.Test.YtcfpfbemmklbaaaLDJ
namespace Go.Proofs.Ytcfpfbemmklbaaa
open Go.ChangeShapes Go.WideShapes Go.ChangeAt Go.Shelf Go.RowKit Go.Lib Go.Sort Go.Deep
set_option linter.unusedVariables false

theorem at_up {w : World} {rb ag aoff n acap : Nat} (c2 : w.cell? ⟨rb, 2, none⟩ = some (.slice (some ⟨ag, aoff, none⟩) n acap)) (i : Nat) (hi : i < n) : Calls Try.prog 40 #[.pointer (some ⟨rb, 0, none⟩), .int .i64 i] w fun e w' => e = .returned (.pointer (some ⟨ag, aoff + i * 8, none⟩)) ∧ w = w' := by
  have h1 : (i : Int) < (n : Int) := by omega
  go_enter Try.func40, Try.ntmps40
  go_wp2
  go_ret
  exact ⟨rfl, rfl⟩
theorem at_bot {w : World} {rb n acap : Nat} {a : Option Addr} (c2 : w.cell? ⟨rb, 2, none⟩ = some (.slice a n acap)) : Calls Try.prog 40 #[.pointer (some ⟨rb, 0, none⟩), .int .i64 n] w fun e w' => e = .returned (.pointer (some ⟨rb, 0, none⟩)) ∧ w = w' := by
  have h1 : ¬ (n : Int) < (n : Int) := by omega
  go_enter Try.func40, Try.ntmps40
  go_wp2
  go_ret
  exact ⟨rfl, rfl⟩

theorem flatU_get (us : List Up) (i : Nat) (hi : i < us.length) (c : Nat) (hc : c < 8) : (flatU us)[i * 8 + c]? = (encU (us.getD i default))[c]? := by
  have e := List.drop_eq_getElem_cons hi
  have h1 : flatU us = flatU (us.take i) ++ flatU (us.drop i) := by rw [← flatU_append, List.take_append_drop]
  have h2 : (flatU (us.take i)).length = i * 8 := by rw [flatU_length, List.length_take, Nat.min_eq_left (by omega)]
  rw [h1, ← h2, get_behind, e, getD_at us i hi]
  show (encU us[i] ++ _)[c]? = _
  rw [List.getElem?_append_left (by rw [encU_length]; omega)]
theorem RowU.foot {w : World} {g off cap : Nat} {us : List Up} (h : RowU w g off cap us) (i : Nat) (hi : i < us.length) : MsgAt w g (off + i * 8 + 1) (us.getD i default).foot := by
  have hc : ∀ c, c < 7 → ∀ u, (encM (us.getD i default).foot)[c]? = some u → w.cell? ⟨g, off + i * 8 + 1 + c, none⟩ = some u := fun c hc u hu => by
    rw [Nat.add_assoc, Nat.add_assoc, Nat.add_comm 1 c]
    exact RowIn.cell h (by rw [flatU_get us i hi (c + 1) (by omega)]; exact hu)
  exact ⟨RowIn.lt h, hc 0 (by omega) _ rfl, hc 1 (by omega) _ rfl, hc 2 (by omega) _ rfl, hc 3 (by omega) _ rfl, hc 4 (by omega) _ rfl, hc 5 (by omega) _ rfl, hc 6 (by omega) _ rfl⟩
theorem RowU.slot {w : World} {g off cap : Nat} {us : List Up} (h : RowU w g off cap us) (i : Nat) (hi : i < us.length) : w.cell? ⟨g, off + i * 8, none⟩ = some (us.getD i default).v := by
  refine RowIn.cell h ?_
  have := flatU_get us i hi 0 (by omega)
  rw [Nat.add_zero] at this
  rw [this]
  rfl
theorem AtU.form {w : World} {v : Value} {us : List Up} (h : AtU w v us) (h0 : 0 < us.length) : ∃ g off cap, v = .slice (some ⟨g, off, none⟩) us.length cap ∧ RowU w g off cap us := RowAt.form h h0

set_option maxHeartbeats 4000000 in
set_option maxRecDepth 100000 in
theorem lput1_any {W : World} {A B rb ag aoff acap : Nat} {us : List Up} (m : M) (hA : W.cell? ⟨A, 0, none⟩ = some (.pointer (some ⟨rb, 0, none⟩))) (hb : W.cell? ⟨rb, 2, none⟩ = some (.slice (some ⟨ag, aoff, none⟩) us.length acap)) (hB : MsgAt W B 0 m) (hR : RowU W ag aoff acap us) (k : Nat) (hk : k < us.length) :
    Calls Try.prog 42 #[.int .i64 k, .pointer (some ⟨B, 0, none⟩), .pointer (some ⟨A, 0, none⟩)] W fun e w' => e = .returned (.bool (!ltM m (us.getD k default).foot)) ∧ Read W w' := by
  have mixed := mixed
  have hx := hR.foot k hk
  have hAl : A < W.heap.size := World.block_lt_of_cell? W _ hA
  have hbl : rb < W.heap.size := World.block_lt_of_cell? W _ hb
  have hkI : (k : Int) < (us.length : Int) := by omega
  clear hR hk
  generalize (us.getD k default).foot = x at hx ⊢
  generalize us.length = n at hb hkI ⊢
  have hcon := fun w => eBefore_any m x w
  obtain ⟨hBl, y0, y1, y2, y3, y4, y5, y6⟩ := hB
  obtain ⟨hgl, x0, x1, x2, x3, x4, x5, x6⟩ := hx
  simp only [Nat.zero_add] at y0 y1 y2 y3 y4 y5 y6
  simp only [Nat.add_assoc] at x0 x1 x2 x3 x4 x5 x6
  simp only [Nat.reduceAdd] at x0 x1 x2 x3 x4 x5 x6
  simp only [← Nat.add_assoc] at x0 x1 x2 x3 x4 x5 x6
  simp only [M.val] at hcon
  have hS : ∀ w', Read W w' → w'.cell? ⟨A, 0, none⟩ = some (.pointer (some ⟨rb, 0, none⟩)) ∧ w'.cell? ⟨rb, 2, none⟩ = some (.slice (some ⟨ag, aoff, none⟩) n acap) ∧
      (w'.cell? ⟨ag, aoff + k * 8 + 1, none⟩ = some (.int .i64 x.k.t) ∧ w'.cell? ⟨ag, aoff + k * 8 + 2, none⟩ = some (.int .i64 x.k.f) ∧ w'.cell? ⟨ag, aoff + k * 8 + 3, none⟩ = some (.int .i64 x.k.s) ∧ w'.cell? ⟨ag, aoff + k * 8 + 4, none⟩ = some (.int .i64 x.to) ∧
        w'.cell? ⟨ag, aoff + k * 8 + 5, none⟩ = some (.int .i64 x.v) ∧ w'.cell? ⟨ag, aoff + k * 8 + 6, none⟩ = some (.int .i64 x.u) ∧ w'.cell? ⟨ag, aoff + k * 8 + 7, none⟩ = some (.bool x.anti)) ∧
      (w'.cell? ⟨B, 0, none⟩ = some (.int .i64 m.k.t) ∧ w'.cell? ⟨B, 1, none⟩ = some (.int .i64 m.k.f) ∧ w'.cell? ⟨B, 2, none⟩ = some (.int .i64 m.k.s) ∧ w'.cell? ⟨B, 3, none⟩ = some (.int .i64 m.to) ∧
        w'.cell? ⟨B, 4, none⟩ = some (.int .i64 m.v) ∧ w'.cell? ⟨B, 5, none⟩ = some (.int .i64 m.u) ∧ w'.cell? ⟨B, 6, none⟩ = some (.bool m.anti)) := fun w' hr =>
    ⟨hr.cell hAl hA, hr.cell hbl hb, ⟨hr.cell hgl x0, hr.cell hgl x1, hr.cell hgl x2, hr.cell hgl x3, hr.cell hgl x4, hr.cell hgl x5, hr.cell hgl x6⟩, hr.cell hBl y0, hr.cell hBl y1, hr.cell hBl y2, hr.cell hBl y3, hr.cell hBl y4, hr.cell hBl y5, hr.cell hBl y6⟩
  clear hA hb x0 x1 x2 x3 x4 x5 x6 y0 y1 y2 y3 y4 y5 y6 hAl hgl hbl hBl
  generalize ltM m x = lt at hcon ⊢
  have hd := Read.drew W 1
  go_enter Try.func42, Try.ntmps42
  go_upto_region 1 with (fail)
  go_region_held3 (fun w' => w'.cell? ⟨A, 0, none⟩ = some (.pointer (some ⟨rb, 0, none⟩)) ∧ w'.cell? ⟨rb, 2, none⟩ = some (.slice (some ⟨ag, aoff, none⟩) n acap) ∧
      (w'.cell? ⟨ag, aoff + k * 8 + 1, none⟩ = some (.int .i64 x.k.t) ∧ w'.cell? ⟨ag, aoff + k * 8 + 2, none⟩ = some (.int .i64 x.k.f) ∧ w'.cell? ⟨ag, aoff + k * 8 + 3, none⟩ = some (.int .i64 x.k.s) ∧ w'.cell? ⟨ag, aoff + k * 8 + 4, none⟩ = some (.int .i64 x.to) ∧
        w'.cell? ⟨ag, aoff + k * 8 + 5, none⟩ = some (.int .i64 x.v) ∧ w'.cell? ⟨ag, aoff + k * 8 + 6, none⟩ = some (.int .i64 x.u) ∧ w'.cell? ⟨ag, aoff + k * 8 + 7, none⟩ = some (.bool x.anti)) ∧
      (w'.cell? ⟨B, 0, none⟩ = some (.int .i64 m.k.t) ∧ w'.cell? ⟨B, 1, none⟩ = some (.int .i64 m.k.f) ∧ w'.cell? ⟨B, 2, none⟩ = some (.int .i64 m.k.s) ∧ w'.cell? ⟨B, 3, none⟩ = some (.int .i64 m.to) ∧
        w'.cell? ⟨B, 4, none⟩ = some (.int .i64 m.v) ∧ w'.cell? ⟨B, 5, none⟩ = some (.int .i64 m.u) ∧ w'.cell? ⟨B, 6, none⟩ = some (.bool m.anti)))
    (first | exact hS _ hd | exact hS _ (hd.trans hr1))
    (first | (go_at_call 32; refine (hcon _).mono ?_; rintro e w1 ⟨rfl, hr1⟩))
  go_wp2
  go_ret
  exact ⟨rfl, hd.trans hr1⟩
end Go.Proofs.Ytcfpfbemmklbaaa
