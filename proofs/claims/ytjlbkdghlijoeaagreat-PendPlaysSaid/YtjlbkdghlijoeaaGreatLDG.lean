/-
  Messages as cells: a row of messages, its order, what an append makes of it.
  Plain lists of messages, of unlike sendings; the message of zero values. No model in this text but that.
-/
import Derived.Test.YtjlbkdghlijoeaaGreatOpen
import Derived.Test.YtjlbkdghlijoeaaGreatHP
import Derived.Shelf.SlSortCmp.KitK
import Derived.OwnWalk
import Derived.Lib.OwnBridge
import Derived.Deep.AppendLies
import Derived.Laws.AppendOwnNone
import Derived.BigQuiet
namespace Go.Proofs.YtjlbkdghlijoeaaGreat
open Go.ChangeShapes Go.WideShapes Go.ChangeAt Go.Shelf Go.RowKit Go.Lib Go.Sort Go.Deep
set_option linter.unusedVariables false

/-- A message's seven cells. -/
def encM (m : M) : List Value := [.int .i64 m.k.t, .int .i64 m.k.f, .int .i64 m.k.s, .int .i64 m.to, .int .i64 m.v, .int .i64 m.u, .bool m.anti]
theorem encM_length (m : M) : (encM m).length = 7 := rfl
theorem encM_one (m : M) : ∀ v ∈ encM m, v.oneCell' = true := by
  intro v hv
  simp only [encM, List.mem_cons, List.not_mem_nil, or_false] at hv
  rcases hv with rfl | rfl | rfl | rfl | rfl | rfl | rfl <;> rfl

theorem ltM_iff {a b : M} : ltM a b = true ↔ a.k.t < b.k.t ∨ (a.k.t = b.k.t ∧ (a.k.f < b.k.f ∨ (a.k.f = b.k.f ∧ (a.k.s < b.k.s ∨ (a.k.s = b.k.s ∧ a.u < b.u))))) := by
  obtain ⟨⟨t, f, s⟩, to, v, u, an⟩ := a
  obtain ⟨⟨t', f', s'⟩, to', v', u', an'⟩ := b
  simp only [ltM, Bool.or_eq_true, Bool.and_eq_true, decide_eq_true_eq, beq_iff_eq]
  unfold cmpK sgn
  simp only
  repeat' split
  all_goals omega
theorem ltM_no {a b : M} : ltM a b = false ↔ ¬ (a.k.t < b.k.t ∨ (a.k.t = b.k.t ∧ (a.k.f < b.k.f ∨ (a.k.f = b.k.f ∧ (a.k.s < b.k.s ∨ (a.k.s = b.k.s ∧ a.u < b.u)))))) := by
  rw [← ltM_iff]; simp
theorem ordM : Ord ltM where
  asymm x y h := by rw [ltM_iff] at h; rw [ltM_no]; omega
  trans x y z h h' := by rw [ltM_no] at *; omega
theorem swoM : SWO ltM where
  irrefl x := by rw [ltM_no]; omega
  trans x y z h h' := by rw [ltM_iff] at *; omega
  ntrans x y z h h' := by rw [ltM_no] at *; omega

theorem infoM : (Tryz.prog.info? 34).map (fun i => (i.zero, i.size, i.bytes)) = some (some (.agg #[.int .i64 0, .int .i64 0, .int .i64 0, .int .i64 0, .int .i64 0, .int .i64 0, .bool false]), 7, 56) := by kernel_rfl

/-- The cells of messages, one behind the other. -/
def flat (ms : List M) : List Value := ms.flatMap encM
theorem flat_length (ms : List M) : (flat ms).length = ms.length * 7 := by
  induction ms with
  | nil => rfl
  | cons m ms ih => unfold flat at *; rw [List.flatMap_cons, List.length_append, ih, encM_length, List.length_cons]; omega
theorem flat_one (ms : List M) : ∀ u ∈ flat ms, u.oneCell' = true := by
  intro u hu
  unfold flat at hu
  obtain ⟨m, _, hm⟩ := List.mem_flatMap.1 hu
  exact encM_one m u hm
theorem flat_get : ∀ (ms : List M) (i c : Nat), i < ms.length → c < 7 → (flat ms)[i * 7 + c]? = (encM (ms.getD i default))[c]?
  | [], i, c, h, _ => by simp at h
  | m :: ms, 0, c, _, hc => by
    unfold flat
    rw [List.flatMap_cons, Nat.zero_mul, Nat.zero_add, List.getElem?_append_left (by rw [encM_length]; exact hc)]
    rfl
  | m :: ms, i + 1, c, h, hc => by
    have ih := flat_get ms i c (by simpa using h) hc
    unfold flat at *
    rw [List.flatMap_cons, List.getElem?_append_right (by rw [encM_length]; omega), encM_length, show (i + 1) * 7 + c - 7 = i * 7 + c by omega, ih]
    rfl
theorem enc_cell {w : World} {b o : Nat} {m : M} (h : MsgAt w b o m) (c : Nat) (u : Value) (hc : (encM m)[c]? = some u) : w.cell? ⟨b, o + c, none⟩ = some u := by
  obtain ⟨_, h0, h1, h2, h3, h4, h5, h6⟩ := h
  have hlt : c < 7 := by
    have := (List.getElem?_eq_some_iff.1 hc).1
    rwa [encM_length] at this
  rcases (by omega : c = 0 ∨ c = 1 ∨ c = 2 ∨ c = 3 ∨ c = 4 ∨ c = 5 ∨ c = 6) with rfl | rfl | rfl | rfl | rfl | rfl | rfl
  all_goals (simp [encM] at hc; subst hc; first | exact h0 | exact h1 | exact h2 | exact h3 | exact h4 | exact h5 | exact h6)
theorem flat_cells {w : World} {b off : Nat} {ms : List M} (h : ∀ i, i < ms.length → MsgAt w b (off + i * 7) (ms.getD i default)) (j : Nat) (u : Value) (hj : (flat ms)[j]? = some u) : w.cell? ⟨b, off + j, none⟩ = some u := by
  have hlt : j < ms.length * 7 := by
    have := (List.getElem?_eq_some_iff.1 hj).1
    rwa [flat_length] at this
  have e : j = j / 7 * 7 + j % 7 := by omega
  rw [e, flat_get ms (j / 7) (j % 7) (by omega) (by omega)] at hj
  have := enc_cell (h (j / 7) (by omega)) (j % 7) u hj
  rwa [Nat.add_assoc, ← e] at this
/-- A block of the call's own that holds the cells of messages holds them as the sort's kit asks. -/
theorem holds_of_block {w : World} {g n : Nat} {cur : Array Value} {e : TypeId} {ms : List M} (hg : w.heap[g]? = some (.cells cur e (0, 0))) (hn : ms.length = n) (ht : cur.toList.take (n * 7) = flat ms) : HoldsK encM 7 w g 0 ms.toArray := by
  intro t ht'
  rw [size_flatK, List.size_toArray] at ht'
  rw [get_flatK _ _ _ _ (by rw [List.size_toArray]; exact ht')]
  have hf := flat_get ms (t / 7) (t % 7) (by omega) (by omega)
  rw [show t / 7 * 7 + t % 7 = t by omega] at hf
  have hc : cur[t]? = (flat ms)[t]? := by
    rw [← ht, List.getElem?_take_of_lt (by omega), Array.getElem?_toList]
  have hv : (encM ms.toArray[t / 7]!)[t % 7]? = some (encM ms.toArray[t / 7]!)[t % 7]! := by
    generalize ms.toArray[t / 7]! = m0
    rw [List.getElem?_eq_getElem (by rw [encM_length]; omega), getElem!_pos (encM m0) (t % 7) (by rw [encM_length]; omega)]
  have hd : ms.toArray[t / 7]! = ms.getD (t / 7) default := by
    have hlt : t / 7 < ms.length := by omega
    rw [getElem!_pos _ _ (by rw [List.size_toArray]; exact hlt)]
    simp [List.getD_eq_getElem?_getD, hlt]
  refine ⟨?_, ?_⟩
  · have : w.cell? ⟨g, 0 + t, none⟩ = cur[t]? := by simp [World.cell?, hg]
    rw [this, hc, hf, ← hd, hv]
    rfl
  · simp [World.frozen?, hg]
theorem msgs_of_holds {w : World} {g off : Nat} {ms : List M} (h : HoldsK encM 7 w g off ms.toArray) (hg : g < w.heap.size) (i : Nat) (hi : i < ms.length) : MsgAt w g (off + i * 7) (ms.getD i default) := by
  have hd : ms.toArray[i]! = ms.getD i default := by
    rw [getElem!_pos _ _ (by rw [List.size_toArray]; exact hi)]
    simp [List.getD_eq_getElem?_getD, hi]
  have hc := fun c (hc : c < 7) => (h.cell (i := i) (c := c) (by rw [List.size_toArray]; exact hi) hc).1
  rw [hd] at hc
  exact ⟨hg, hc 0 (by omega), hc 1 (by omega), hc 2 (by omega), hc 3 (by omega), hc 4 (by omega), hc 5 (by omega), hc 6 (by omega)⟩
theorem MsgAt.below {w w' : World} {b o : Nat} {m : M} (h : MsgAt w b o m) (hb : Below w.heap.size w w') : MsgAt w' b o m := by
  obtain ⟨hlt, h0, h1, h2, h3, h4, h5, h6⟩ := h
  have hc : ∀ {c : Nat} {v : Value}, w.cell? ⟨b, c, none⟩ = some v → w'.cell? ⟨b, c, none⟩ = some v := fun h => by rw [hb.cell hlt]; exact h
  exact ⟨Nat.lt_of_lt_of_le hlt hb.size, hc h0, hc h1, hc h2, hc h3, hc h4, hc h5, hc h6⟩
theorem Msgs.below {w w' : World} {a : Option Addr} {len cap : Nat} {ms : List M} (h : Msgs w a len cap ms) (hb : Below w.heap.size w w') : Msgs w' a len cap ms := by
  obtain ⟨h1, h2, h3, hf, h4⟩ := h
  refine ⟨h1, h2, h3, hf, h4.imp id ?_⟩
  rintro ⟨b, off, ha, hm⟩
  exact ⟨b, off, ha, fun i hi => (hm i hi).below hb⟩
theorem SWK.belowM {w0 w W : World} {B g : Nat} {d : Array M} (h : SWK encM 7 w g 0 d W) (hb : Below B w0 w) (hg : B ≤ g) (hw : B ≤ w.heap.size) : Below B w0 W := by
  obtain ⟨n, os, rfl⟩ := h
  have h1 : Below B w0 (putRow id (Sort.ahead w n) g 0 (flatK encM 7 d)) := below_putRow hb hg
  have h2 : B ≤ (putRow id (Sort.ahead w n) g 0 (flatK encM 7 d)).heap.size := by rw [Go.Sort.size_putRow]; exact hw
  refine h1.trans ⟨rfl, rfl, rfl, by simp [sortWorldK, grow, putRowK], fun i hi => ?_⟩
  show ((putRow id (Sort.ahead w n) g 0 (flatK encM 7 d)).heap ++ os)[i]? = _
  rw [Array.getElem?_append_left (by omega)]

theorem flat_append (a b : List M) : flat (a ++ b) = flat a ++ flat b := by simp [flat]
theorem wpM {ops : Array Oper} {rest : List Oper} {o : Oper} {t : Act} {w : World} {Q : Exit → Act → World → Prop} (hgd : o.guard = none) (s x : Operand)
    (ho : o.op = .call { callee := .builtin .append, args := #[s, x], argTypes := #[38, 38] }) (base : Nat) (v : Value) (n : Nat) (xs : List Value) (hs : t.eval s = v) (hown : w.ownsRow base 34 7 v n xs)
    (ad : Addr) (k c : Nat) (ms : List M) (hx : t.eval x = .slice (some ad) k c) (hl : ms.length = k) (hc : ∀ j u, (flat ms)[j]? = some u → w.cell? (ad.add j) = some u) (hbytes : (n + k) * 56 ≤ 140737488355328) (hbase : base ≤ w.heap.size)
    (h : ∀ v' w', w'.ownsRow base 34 7 v' (n + k) (xs ++ flat ms) → Hid (w.grownBy w' v.ownBlock) → wpList Tryz.prog ops Q rest (t.put o.dst v') w') : wpList Tryz.prog ops Q (o :: rest) t w := by
  obtain ⟨i0, hi, hz0, hz1, hz2⟩ := info_parts infoM
  exact wpList_append_own w hgd s x 38 ho base 34 i0 _ 7 56 Tryz.underlying38 hi hz0 hz1 hz2 rfl (by omega) v n xs hs hown ad k c (flat ms) hx (by rw [flat_length, hl]) hc (flat_one ms) (by unfold maxLen; omega) hbytes hbase
    fun v' w' h1 h2 _ => h v' w' h1 h2
theorem take_cells {w : World} {b off n cap : Nat} {S : List M} (h : Msgs w (some ⟨b, off, none⟩) n cap S) (k : Nat) (hk : k ≤ n) (j : Nat) (u : Value) (hj : (flat (S.take k))[j]? = some u) : w.cell? ((⟨b, off, none⟩ : Addr).add j) = some u := by
  obtain ⟨h1, h2, h3, hf, h4⟩ := h
  rw [add_plain]
  refine flat_cells (fun i hi => ?_) j u hj
  rw [List.length_take] at hi
  rcases h4 with h0 | ⟨b', off', ha, hm⟩
  · omega
  · cases ha
    have := hm i (by omega)
    rwa [show (S.take k).getD i default = S.getD i default by simp [List.getD_eq_getElem?_getD, List.getElem?_take_of_lt (show i < k by omega)]]
theorem drop_cells {w : World} {b off n cap : Nat} {S : List M} (h : Msgs w (some ⟨b, off, none⟩) n cap S) (k : Nat) (hk : k ≤ n) (j : Nat) (u : Value) (hj : (flat (S.drop k))[j]? = some u) : w.cell? ((⟨b, off + k * 7, none⟩ : Addr).add j) = some u := by
  obtain ⟨h1, h2, h3, hf, h4⟩ := h
  rw [add_plain]
  refine flat_cells (fun i hi => ?_) j u hj
  rw [List.length_drop] at hi
  rcases h4 with h0 | ⟨b', off', ha, hm⟩
  · omega
  · cases ha
    have := hm (k + i) (by omega)
    rw [show (S.drop k).getD i default = S.getD (k + i) default by simp [List.getD_eq_getElem?_getD]]
    rwa [show off + k * 7 + i * 7 = off + (k + i) * 7 by omega]
theorem MsgAt.keep {w w' : World} {b o : Nat} {m : M} (h : MsgAt w b o m) (hb : Below w.heap.size w w') : MsgAt w' b o m := h.below hb
theorem Msgs.keep {w w' : World} {a : Option Addr} {n cap : Nat} {S : List M} (h : Msgs w a n cap S) (hb : Below w.heap.size w w') : Msgs w' a n cap S := h.below hb
theorem msgs_of_own {w : World} {base : Nat} {v : Value} {n : Nat} {ms : List M} (h : w.ownsRow base 34 7 v n (flat ms)) (hf : ∀ m ∈ ms, m.fits) : ∃ a cap, v = .slice a n cap ∧ Msgs w a n cap ms := by
  obtain ⟨hl, hv⟩ := h
  rw [flat_length] at hl
  have hl' : ms.length = n := by omega
  rcases hv with ⟨rfl, rfl⟩ | ⟨g, cap, cur, rfl, _, hg, hn, hm, hs, ht⟩
  · exact ⟨none, 0, rfl, hl', Nat.le_refl _, by unfold maxLen; omega, hf, .inl rfl⟩
  · exact ⟨some ⟨g, 0, none⟩, cap, rfl, hl', hn, hm, hf, .inr ⟨g, 0, rfl, fun i hi => msgs_of_holds (holds_of_block hg hl' ht) (Array.getElem?_eq_some_iff.1 hg).1 i (by omega)⟩⟩

/-- A slice that came in: where it has no array, it has no room. -/
def NilP (a : Option Addr) (len cap : Nat) : Prop := a = none → len = 0 ∧ cap = 0
theorem openNil {H : Type} {enc : TypeId × Value → H} {w : World} {base : Nat} {spare : Nat → Bool} {held : Bool} {t e : TypeId} {fuel : Nat} {a : Option Addr} {len cap : Nat} {x : DataW H × List MemPlace} (ht : Tryz.prog.underlying t = some (.slice e)) (h : DataW.trod enc Tryz.prog w base spare held fuel t [.slice a len cap] = some x) : NilP a len cap := by
  intro ha
  rcases open_slice ht h with ⟨hcs, _⟩ | ⟨y, l, c, m, n, D, Pl, hcs, _⟩
  · simp at hcs
    exact ⟨hcs.2.1, hcs.2.2⟩
  · simp at hcs
    rw [hcs.1] at ha
    cases ha
theorem msgs_cells {w : World} {ad : Addr} {n cap : Nat} {S : List M} (h : Msgs w (some ad) n cap S) (j : Nat) (u : Value) (hj : (flat S)[j]? = some u) : w.cell? (ad.add j) = some u := by
  have hlt := (List.getElem?_eq_some_iff.1 hj).1
  rw [flat_length] at hlt
  have h' := h
  obtain ⟨h1, h2, h3, hf, h4⟩ := h
  rcases h4 with h0 | ⟨b', off', ha, hm⟩
  · omega
  · cases ha
    refine take_cells h' n (Nat.le_refl _) j u ?_
    rwa [List.take_of_length_le (by omega)]
/-- An append to a slice of the call's own, of a slice of messages that came in, nil included. -/
theorem wpM_any {ops : Array Oper} {rest : List Oper} {o : Oper} {t : Act} {w : World} {Q : Exit → Act → World → Prop} (hgd : o.guard = none) (s x : Operand)
    (ho : o.op = .call { callee := .builtin .append, args := #[s, x], argTypes := #[38, 38] }) (base : Nat) (v : Value) (n : Nat) (xs : List Value) (hs : t.eval s = v) (hown : w.ownsRow base 34 7 v n xs)
    (a : Option Addr) (len cap : Nat) (ms : List M) (hx : t.eval x = .slice a len cap) (hI : Msgs w a len cap ms) (hn : NilP a len cap) (hbytes : (n + len) * 56 ≤ 140737488355328) (hbase : base ≤ w.heap.size)
    (h : ∀ v' w', w'.ownsRow base 34 7 v' (n + len) (xs ++ flat ms) → Hid (w.grownBy w' v.ownBlock) → wpList Tryz.prog ops Q rest (t.put o.dst v') w') : wpList Tryz.prog ops Q (o :: rest) t w := by
  obtain ⟨i0, hi, hz0, hz1, hz2⟩ := info_parts infoM
  cases a with
  | none =>
    obtain ⟨rfl, rfl⟩ := hn rfl
    have hnil : ms = [] := List.eq_nil_of_length_eq_zero hI.1
    subst hnil
    refine wpList_append_own_none hgd s x 38 ho base 34 i0 7 Tryz.underlying38 hi v n xs hs hown hx ?_
    exact h v w (by simpa [flat] using hown) ⟨rfl, rfl, rfl, Nat.le_refl _, fun _ _ _ => rfl⟩
  | some ad => exact wpM hgd s x ho base v n xs hs hown ad len cap ms hx hI.1 (msgs_cells hI) hbytes hbase h

end Go.Proofs.YtjlbkdghlijoeaaGreat
namespace Go.Proofs.YtjlbkdghlijoeaaGreat
open Go.Sort
set_option linter.unusedVariables false

/-- The message of zero values. -/
def zeroM : M := ⟨⟨0, 0, 0⟩, 0, 0, 0, false⟩

/-! Of unlike sendings there is one order. -/
/-- Is the sending among them? -/
def hasS (T : List M) (f u : Int) : Bool := T.any fun m => decide (m.k.f = f) && decide (m.u = u)
/-- Of one sending. -/
def sameS (a b : M) : Prop := a.k.f = b.k.f ∧ a.u = b.u
/-- No two of one sending. -/
def Unlike (T : List M) : Prop := T.Pairwise fun a b => ¬ sameS a b
theorem sameS.symm {a b : M} (h : sameS a b) : sameS b a := ⟨h.1.symm, h.2.symm⟩
theorem Unlike.perm {A B : List M} (h : Unlike A) (hp : A.Perm B) : Unlike B := (hp.pairwise_iff (fun {a b} (h : ¬ sameS a b) (h' : sameS b a) => h h'.symm)).1 h
theorem same_of_no {a b : M} (h : ltM a b = false) (h' : ltM b a = false) : sameS a b := by
  rw [ltM_no] at h h'
  unfold sameS
  omega
theorem sorted_unique : ∀ {A B : List M}, A.Perm B → InOrder ltM A → InOrder ltM B → Unlike A → A = B
  | [], B, hp, _, _, _ => hp.nil_eq
  | a :: A, [], hp, _, _, _ => by have := hp.length_eq; simp at this
  | a :: A, b :: B, hp, hA, hB, hU => by
    have hA' := List.pairwise_cons.1 hA
    have hB' := List.pairwise_cons.1 hB
    have hU' := List.pairwise_cons.1 hU
    have e : a = b := by
      have ha : a ∈ b :: B := hp.mem_iff.1 (List.mem_cons_self ..)
      have hb : b ∈ a :: A := hp.mem_iff.2 (List.mem_cons_self ..)
      rcases List.mem_cons.1 ha with h | ha
      · exact h
      · rcases List.mem_cons.1 hb with h | hb
        · exact h.symm
        · exact absurd (same_of_no (hB'.1 a ha) (hA'.1 b hb)) (hU'.1 b hb)
    subst e
    rw [sorted_unique hp.cons_inv hA'.2 hB'.2 hU'.2]
theorem stab_unique {A B : List M} (hp : A.Perm B) (hB : InOrder ltM B) (hU : Unlike A) : stab ltM A = B :=
  sorted_unique ((stab_perm A).trans hp) (stab_inOrder ordM A) hB (hU.perm (stab_perm A).symm)

theorem hasS_iff {T : List M} {f u : Int} : hasS T f u = true ↔ ∃ m ∈ T, m.k.f = f ∧ m.u = u := by
  simp [hasS, List.any_eq_true, Bool.and_eq_true]
theorem hasS_no {T : List M} {f u : Int} (h : hasS T f u = false) : ∀ m ∈ T, ¬ (m.k.f = f ∧ m.u = u) := fun m hm e => by
  rw [hasS_iff.2 ⟨m, hm, e⟩] at h
  cases h
theorem hasS_perm {A B : List M} (hp : A.Perm B) (f u : Int) : hasS A f u = hasS B f u := by
  rw [Bool.eq_iff_iff, hasS_iff, hasS_iff]
  exact ⟨fun ⟨m, hm, e⟩ => ⟨m, hp.mem_iff.1 hm, e⟩, fun ⟨m, hm, e⟩ => ⟨m, hp.mem_iff.2 hm, e⟩⟩
theorem unlike_snoc {T : List M} {m : M} (h : Unlike T) (hn : hasS T m.k.f m.u = false) : Unlike (T ++ [m]) := by
  refine List.pairwise_append.2 ⟨h, List.pairwise_singleton _ _, fun a ha b hb => ?_⟩
  rw [List.mem_singleton.1 hb]
  exact hasS_no hn a ha
/-- One more, in order. -/
theorem put_list {T : List M} {m : M} (hO : InOrder ltM T) (hU : Unlike T) (hn : hasS T m.k.f m.u = false) :
    InOrder ltM (mg ltM T [m]) ∧ Unlike (mg ltM T [m]) ∧ (mg ltM T [m]).Perm (T ++ [m]) ∧ (mg ltM T [m]).length = T.length + 1 :=
  ⟨mg_inOrder ordM _ _ hO (one_inOrder m), (unlike_snoc hU hn).perm (mg_perm T [m]).symm, mg_perm T [m], by rw [mg_length]; rfl⟩
/-- The first one taken. -/
theorem pop_list {l l' T : List M} {m : M} (hl : l.Perm T) (hp : (m :: l').Perm l) (hmin : ∀ x ∈ l, ltM x m = false) (hT : InOrder ltM T) (hU : Unlike T) : ∃ T', T = m :: T' ∧ l'.Perm T' := by
  refine ⟨stab ltM l', ?_, (stab_perm l').symm⟩
  refine sorted_unique (hl.symm.trans (hp.symm.trans ((stab_perm l').symm.cons m))) hT ?_ hU
  refine List.pairwise_cons.2 ⟨fun x hx => hmin x ?_, stab_inOrder ordM l'⟩
  exact hp.mem_iff.1 (List.mem_cons_of_mem _ ((stab_perm l').mem_iff.1 hx))
/-- One taken out. -/
theorem erase_perm {T : List M} {i : Nat} (hi : i < T.length) : (T[i] :: T.eraseIdx i).Perm T := by
  have h := List.perm_middle (a := T[i]) (l₁ := T.take i) (l₂ := T.drop (i + 1))
  rw [← List.drop_eq_getElem_cons hi, List.take_append_drop] at h
  rw [List.eraseIdx_eq_take_drop_succ]
  exact h.symm
theorem cut_list {l l' T : List M} {i : Nat} (hi : i < T.length) (hl : l.Perm T) (hp : (T[i] :: l').Perm l) : l'.Perm (T.eraseIdx i) :=
  List.Perm.cons_inv ((hp.trans hl).trans (erase_perm hi).symm)
theorem erase_keeps {T : List M} (i : Nat) (hO : InOrder ltM T) (hU : Unlike T) : InOrder ltM (T.eraseIdx i) ∧ Unlike (T.eraseIdx i) :=
  ⟨List.Pairwise.sublist (List.eraseIdx_sublist ..) hO, List.Pairwise.sublist (List.eraseIdx_sublist ..) hU⟩
theorem hasS_erase {T R : List M} {m : M} (hp : (m :: R).Perm T) (hU : Unlike T) (f u : Int) : hasS R f u = (hasS T f u && !(decide (f = m.k.f) && decide (u = m.u))) := by
  have hU' := List.pairwise_cons.1 (hU.perm hp.symm)
  rw [← hasS_perm hp]
  have e : hasS (m :: R) f u = ((decide (m.k.f = f) && decide (m.u = u)) || hasS R f u) := by simp [hasS]
  rw [e]
  by_cases h : m.k.f = f ∧ m.u = u
  · obtain ⟨rfl, rfl⟩ := h
    have : hasS R m.k.f m.u = false := by
      cases h : hasS R m.k.f m.u with
      | false => rfl
      | true =>
        obtain ⟨x, hx, e1, e2⟩ := hasS_iff.1 h
        exact absurd ⟨e1.symm, e2.symm⟩ (hU'.1 x hx)
    simp [this]
  · have h1 : (decide (m.k.f = f) && decide (m.u = u)) = false := by
      by_cases a : m.k.f = f <;> by_cases b : m.u = u <;> simp_all
    have h2 : (decide (f = m.k.f) && decide (u = m.u)) = false := by
      by_cases a : f = m.k.f <;> by_cases b : u = m.u <;> simp_all
    rw [h1, h2]
    simp

end Go.Proofs.YtjlbkdghlijoeaaGreat
