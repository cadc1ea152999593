
/-
  Messages as cells: a row of messages, its order, what an append makes of it.
-/
import Derived.Test.YtobfjfmaicmkdaaOpen
import Derived.Test.YtobfjfmaicmkdaaStab
import Derived.Shelf.SlSortCmp.KitK
import Derived.OwnWalk
import Derived.Lib.OwnBridge
import Derived.Deep.AppendLies
import Derived.Laws.AppendOwnNone
import Derived.BigQuiet
namespace Go.Proofs.Ytobfjfmaicmkdaa
open Go.ChangeShapes Go.WideShapes Go.ChangeAt Go.Shelf Go.RowKit Go.Lib Go.Sort Go.Deep
set_option linter.unusedVariables false

/-- A message's seven cells. -/
def encM (m : M) : List Value := [.int .i64 m.k.t, .int .i64 m.k.f, .int .i64 m.k.s, .int .i64 m.to, .int .i64 m.v, .int .i64 m.u, .bool m.anti]
theorem encM_length (m : M) : (encM m).length = 7 := rfl
theorem encM_one (m : M) : ∀ v ∈ encM m, v.oneCell' = true := by
  intro v hv
  simp only [encM, List.mem_cons, List.not_mem_nil, or_false] at hv
  rcases hv with rfl | rfl | rfl | rfl | rfl | rfl | rfl <;> rfl

theorem ltM_iff {a b : M} : ltM a b = true ↔ a.k.t < b.k.t ∨ (a.k.t = b.k.t ∧ (a.k.f < b.k.f ∨ (a.k.f = b.k.f ∧ (a.k.s < b.k.s ∨ (a.k.s = b.k.s ∧ a.u < b.u))))) := by
  obtain ⟨⟨t, f, s⟩, to, v, u, an⟩ := a
  obtain ⟨⟨t', f', s'⟩, to', v', u', an'⟩ := b
  simp only [ltM, Bool.or_eq_true, Bool.and_eq_true, decide_eq_true_eq, beq_iff_eq]
  unfold cmpK sgn
  simp only
  repeat' split
  all_goals omega
theorem ltM_no {a b : M} : ltM a b = false ↔ ¬ (a.k.t < b.k.t ∨ (a.k.t = b.k.t ∧ (a.k.f < b.k.f ∨ (a.k.f = b.k.f ∧ (a.k.s < b.k.s ∨ (a.k.s = b.k.s ∧ a.u < b.u)))))) := by
  rw [← ltM_iff]; simp
theorem ordM : Ord ltM where
  asymm x y h := by rw [ltM_iff] at h; rw [ltM_no]; omega
  trans x y z h h' := by rw [ltM_no] at *; omega
theorem swoM : SWO ltM where
  irrefl x := by rw [ltM_no]; omega
  trans x y z h h' := by rw [ltM_iff] at *; omega
  ntrans x y z h h' := by rw [ltM_no] at *; omega

/-- The cells of messages, one behind the other. -/
def flat (ms : List M) : List Value := ms.flatMap encM
theorem flat_length (ms : List M) : (flat ms).length = ms.length * 7 := by
  induction ms with
  | nil => rfl
  | cons m ms ih => unfold flat at *; rw [List.flatMap_cons, List.length_append, ih, encM_length, List.length_cons]; omega
theorem flat_one (ms : List M) : ∀ u ∈ flat ms, u.oneCell' = true := by
  intro u hu
  unfold flat at hu
  obtain ⟨m, _, hm⟩ := List.mem_flatMap.1 hu
  exact encM_one m u hm
theorem flat_get : ∀ (ms : List M) (i c : Nat), i < ms.length → c < 7 → (flat ms)[i * 7 + c]? = (encM (ms.getD i default))[c]?
  | [], i, c, h, _ => by simp at h
  | m :: ms, 0, c, _, hc => by
    unfold flat
    rw [List.flatMap_cons, Nat.zero_mul, Nat.zero_add, List.getElem?_append_left (by rw [encM_length]; exact hc)]
    rfl
  | m :: ms, i + 1, c, h, hc => by
    have ih := flat_get ms i c (by simpa using h) hc
    unfold flat at *
    rw [List.flatMap_cons, List.getElem?_append_right (by rw [encM_length]; omega), encM_length, show (i + 1) * 7 + c - 7 = i * 7 + c by omega, ih]
    rfl
theorem enc_cell {w : World} {b o : Nat} {m : M} (h : MsgAt w b o m) (c : Nat) (u : Value) (hc : (encM m)[c]? = some u) : w.cell? ⟨b, o + c, none⟩ = some u := by
  obtain ⟨_, h0, h1, h2, h3, h4, h5, h6⟩ := h
  have hlt : c < 7 := by
    have := (List.getElem?_eq_some_iff.1 hc).1
    rwa [encM_length] at this
  rcases (by omega : c = 0 ∨ c = 1 ∨ c = 2 ∨ c = 3 ∨ c = 4 ∨ c = 5 ∨ c = 6) with rfl | rfl | rfl | rfl | rfl | rfl | rfl
  all_goals (simp [encM] at hc; subst hc; first | exact h0 | exact h1 | exact h2 | exact h3 | exact h4 | exact h5 | exact h6)
theorem flat_cells {w : World} {b off : Nat} {ms : List M} (h : ∀ i, i < ms.length → MsgAt w b (off + i * 7) (ms.getD i default)) (j : Nat) (u : Value) (hj : (flat ms)[j]? = some u) : w.cell? ⟨b, off + j, none⟩ = some u := by
  have hlt : j < ms.length * 7 := by
    have := (List.getElem?_eq_some_iff.1 hj).1
    rwa [flat_length] at this
  have e : j = j / 7 * 7 + j % 7 := by omega
  rw [e, flat_get ms (j / 7) (j % 7) (by omega) (by omega)] at hj
  have := enc_cell (h (j / 7) (by omega)) (j % 7) u hj
  rwa [Nat.add_assoc, ← e] at this
/-- A block of the call's own that holds the cells of messages holds them as the sort's kit asks. -/
theorem holds_of_block {w : World} {g n : Nat} {cur : Array Value} {e : TypeId} {ms : List M} (hg : w.heap[g]? = some (.cells cur e (0, 0))) (hn : ms.length = n) (ht : cur.toList.take (n * 7) = flat ms) : HoldsK encM 7 w g 0 ms.toArray := by
  intro t ht'
  rw [size_flatK, List.size_toArray] at ht'
  rw [get_flatK _ _ _ _ (by rw [List.size_toArray]; exact ht')]
  have hf := flat_get ms (t / 7) (t % 7) (by omega) (by omega)
  rw [show t / 7 * 7 + t % 7 = t by omega] at hf
  have hc : cur[t]? = (flat ms)[t]? := by
    rw [← ht, List.getElem?_take_of_lt (by omega), Array.getElem?_toList]
  have hv : (encM ms.toArray[t / 7]!)[t % 7]? = some (encM ms.toArray[t / 7]!)[t % 7]! := by
    generalize ms.toArray[t / 7]! = m0
    rw [List.getElem?_eq_getElem (by rw [encM_length]; omega), getElem!_pos (encM m0) (t % 7) (by rw [encM_length]; omega)]
  have hd : ms.toArray[t / 7]! = ms.getD (t / 7) default := by
    have hlt : t / 7 < ms.length := by omega
    rw [getElem!_pos _ _ (by rw [List.size_toArray]; exact hlt)]
    simp [List.getD_eq_getElem?_getD, hlt]
  refine ⟨?_, ?_⟩
  · have : w.cell? ⟨g, 0 + t, none⟩ = cur[t]? := by simp [World.cell?, hg]
    rw [this, hc, hf, ← hd, hv]
    rfl
  · simp [World.frozen?, hg]
theorem msgs_of_holds {w : World} {g off : Nat} {ms : List M} (h : HoldsK encM 7 w g off ms.toArray) (hg : g < w.heap.size) (i : Nat) (hi : i < ms.length) : MsgAt w g (off + i * 7) (ms.getD i default) := by
  have hd : ms.toArray[i]! = ms.getD i default := by
    rw [getElem!_pos _ _ (by rw [List.size_toArray]; exact hi)]
    simp [List.getD_eq_getElem?_getD, hi]
  have hc := fun c (hc : c < 7) => (h.cell (i := i) (c := c) (by rw [List.size_toArray]; exact hi) hc).1
  rw [hd] at hc
  exact ⟨hg, hc 0 (by omega), hc 1 (by omega), hc 2 (by omega), hc 3 (by omega), hc 4 (by omega), hc 5 (by omega), hc 6 (by omega)⟩
theorem MsgAt.below {w w' : World} {b o : Nat} {m : M} (h : MsgAt w b o m) (hb : Below w.heap.size w w') : MsgAt w' b o m := by
  obtain ⟨hlt, h0, h1, h2, h3, h4, h5, h6⟩ := h
  have hc : ∀ {c : Nat} {v : Value}, w.cell? ⟨b, c, none⟩ = some v → w'.cell? ⟨b, c, none⟩ = some v := fun h => by rw [hb.cell hlt]; exact h
  exact ⟨Nat.lt_of_lt_of_le hlt hb.size, hc h0, hc h1, hc h2, hc h3, hc h4, hc h5, hc h6⟩
theorem Msgs.below {w w' : World} {a : Option Addr} {len cap : Nat} {ms : List M} (h : Msgs w a len cap ms) (hb : Below w.heap.size w w') : Msgs w' a len cap ms := by
  obtain ⟨h1, h2, h3, hf, h4⟩ := h
  refine ⟨h1, h2, h3, hf, h4.imp id ?_⟩
  rintro ⟨b, off, ha, hm⟩
  exact ⟨b, off, ha, fun i hi => (hm i hi).below hb⟩
theorem SWK.belowM {w0 w W : World} {B g : Nat} {d : Array M} (h : SWK encM 7 w g 0 d W) (hb : Below B w0 w) (hg : B ≤ g) (hw : B ≤ w.heap.size) : Below B w0 W := by
  obtain ⟨n, os, rfl⟩ := h
  have h1 : Below B w0 (putRow id (Sort.ahead w n) g 0 (flatK encM 7 d)) := below_putRow hb hg
  have h2 : B ≤ (putRow id (Sort.ahead w n) g 0 (flatK encM 7 d)).heap.size := by rw [Go.Sort.size_putRow]; exact hw
  refine h1.trans ⟨rfl, rfl, rfl, by simp [sortWorldK, grow, putRowK], fun i hi => ?_⟩
  show ((putRow id (Sort.ahead w n) g 0 (flatK encM 7 d)).heap ++ os)[i]? = _
  rw [Array.getElem?_append_left (by omega)]

theorem flat_append (a b : List M) : flat (a ++ b) = flat a ++ flat b := by simp [flat]
theorem take_cells {w : World} {b off n cap : Nat} {S : List M} (h : Msgs w (some ⟨b, off, none⟩) n cap S) (k : Nat) (hk : k ≤ n) (j : Nat) (u : Value) (hj : (flat (S.take k))[j]? = some u) : w.cell? ((⟨b, off, none⟩ : Addr).add j) = some u := by
  obtain ⟨h1, h2, h3, hf, h4⟩ := h
  rw [add_plain]
  refine flat_cells (fun i hi => ?_) j u hj
  rw [List.length_take] at hi
  rcases h4 with h0 | ⟨b', off', ha, hm⟩
  · omega
  · cases ha
    have := hm i (by omega)
    rwa [show (S.take k).getD i default = S.getD i default by simp [List.getD_eq_getElem?_getD, List.getElem?_take_of_lt (show i < k by omega)]]
theorem drop_cells {w : World} {b off n cap : Nat} {S : List M} (h : Msgs w (some ⟨b, off, none⟩) n cap S) (k : Nat) (hk : k ≤ n) (j : Nat) (u : Value) (hj : (flat (S.drop k))[j]? = some u) : w.cell? ((⟨b, off + k * 7, none⟩ : Addr).add j) = some u := by
  obtain ⟨h1, h2, h3, hf, h4⟩ := h
  rw [add_plain]
  refine flat_cells (fun i hi => ?_) j u hj
  rw [List.length_drop] at hi
  rcases h4 with h0 | ⟨b', off', ha, hm⟩
  · omega
  · cases ha
    have := hm (k + i) (by omega)
    rw [show (S.drop k).getD i default = S.getD (k + i) default by simp [List.getD_eq_getElem?_getD]]
    rwa [show off + k * 7 + i * 7 = off + (k + i) * 7 by omega]
theorem MsgAt.keep {w w' : World} {b o : Nat} {m : M} (h : MsgAt w b o m) (hb : Below w.heap.size w w') : MsgAt w' b o m := h.below hb
theorem Msgs.keep {w w' : World} {a : Option Addr} {n cap : Nat} {S : List M} (h : Msgs w a n cap S) (hb : Below w.heap.size w w') : Msgs w' a n cap S := h.below hb
/-- A slice that came in: where it has no array, it has no room. -/
def NilP (a : Option Addr) (len cap : Nat) : Prop := a = none → len = 0 ∧ cap = 0
theorem openNil {H : Type} {enc : TypeId × Value → H} {w : World} {base : Nat} {spare : Nat → Bool} {held : Bool} {t e : TypeId} {fuel : Nat} {a : Option Addr} {len cap : Nat} {x : DataW H × List MemPlace} (ht : Try.prog.underlying t = some (.slice e)) (h : DataW.trod enc Try.prog w base spare held fuel t [.slice a len cap] = some x) : NilP a len cap := by
  intro ha
  rcases open_slice ht h with ⟨hcs, _⟩ | ⟨y, l, c, m, n, D, Pl, hcs, _⟩
  · simp at hcs
    exact ⟨hcs.2.1, hcs.2.2⟩
  · simp at hcs
    rw [hcs.1] at ha
    cases ha
theorem msgs_cells {w : World} {ad : Addr} {n cap : Nat} {S : List M} (h : Msgs w (some ad) n cap S) (j : Nat) (u : Value) (hj : (flat S)[j]? = some u) : w.cell? (ad.add j) = some u := by
  have hlt := (List.getElem?_eq_some_iff.1 hj).1
  rw [flat_length] at hlt
  have h' := h
  obtain ⟨h1, h2, h3, hf, h4⟩ := h
  rcases h4 with h0 | ⟨b', off', ha, hm⟩
  · omega
  · cases ha
    refine take_cells h' n (Nat.le_refl _) j u ?_
    rwa [List.take_of_length_le (by omega)]
end Go.Proofs.Ytobfjfmaicmkdaa
