
/-
  Parcels and ways: plain data, and how they lie in memory.
-/
import Derived.Test.YtjbammgnkegecaaYA
import Derived.Test.YtjbammgnkegecaaEvent4
import Derived.Deep.MidRow
import Derived.Deep.RegionHeld3
import Derived.Deep.RegionHeld
namespace Go.Proofs.Ytjbammgnkegecaa
open Go.ChangeShapes Go.WideShapes Go.ChangeAt Go.Shelf Go.RowKit Go.Lib Go.Sort Go.Deep
set_option linter.unusedVariables false
set_option maxRecDepth 4000

/-! Elements of one size, one behind the other. -/
theorem flatOf_length {α : Type} {enc : α → List Value} {sz : Nat} (h : ∀ x, (enc x).length = sz) : ∀ L : List α, (L.flatMap enc).length = L.length * sz
  | [] => by simp
  | a :: L => by rw [List.flatMap_cons, List.length_append, h, flatOf_length h L, List.length_cons, Nat.add_mul]; omega
theorem flatOf_get {α : Type} {enc : α → List Value} {sz : Nat} (h : ∀ x, (enc x).length = sz) : ∀ (L : List α) (k c : Nat) (x : α), L[k]? = some x → c < sz → (L.flatMap enc)[k * sz + c]? = (enc x)[c]?
  | [], k, c, x, hk, hc => by simp at hk
  | a :: L, 0, c, x, hk, hc => by
    simp at hk
    subst hk
    rw [List.flatMap_cons, Nat.zero_mul, Nat.zero_add, List.getElem?_append_left (by rw [h]; exact hc)]
  | a :: L, k + 1, c, x, hk, hc => by
    rw [List.flatMap_cons, List.getElem?_append_right (by rw [h, Nat.add_mul]; omega), h, show (k + 1) * sz + c - sz = k * sz + c by rw [Nat.add_mul]; omega]
    exact flatOf_get h L k c x (by simpa using hk) hc
theorem flatOf_one {α : Type} {enc : α → List Value} (h : ∀ x, ∀ u ∈ enc x, u.oneCell' = true) (L : List α) : ∀ u ∈ L.flatMap enc, u.oneCell' = true := by
  intro u hu
  obtain ⟨x, _, hx⟩ := List.mem_flatMap.1 hu
  exact h x u hx
theorem flatOf_drop {α : Type} {enc : α → List Value} {sz : Nat} (h : ∀ x, (enc x).length = sz) (l : List α) (p : Nat) : (l.drop p).flatMap enc = (l.flatMap enc).drop (p * sz) := by
  induction l generalizing p with
  | nil => simp
  | cons a l ih =>
    cases p with
    | zero => simp
    | succ p =>
      rw [List.drop_succ_cons, ih, List.flatMap_cons, Nat.add_mul, Nat.one_mul, Nat.add_comm, ← List.drop_drop]
      congr 1
      rw [List.drop_left' (h a)]
theorem flatOf_take {α : Type} {enc : α → List Value} {sz : Nat} (h : ∀ x, (enc x).length = sz) (l : List α) (p : Nat) : (l.take p).flatMap enc = (l.flatMap enc).take (p * sz) := by
  induction l generalizing p with
  | nil => simp
  | cons a l ih =>
    cases p with
    | zero => simp
    | succ p =>
      rw [List.take_succ_cons, List.flatMap_cons, ih, List.flatMap_cons, Nat.add_mul, Nat.one_mul, Nat.add_comm, List.take_append, h, Nat.add_sub_cancel_left]
      congr 1
      exact (List.take_of_length_le (by rw [h]; omega)).symm

/-! Plain data. -/
/-- A parcel. -/
structure Pc where
  m : M
  c : Int
  deriving DecidableEq, Inhabited
def encP (p : Pc) : List Value := [.int .i64 p.m.k.t, .int .i64 p.m.k.f, .int .i64 p.m.k.s, .int .i64 p.m.to, .int .i64 p.m.v, .int .i64 p.m.u, .bool p.m.anti, .int .i64 p.c]
def Pc.cells (p : Pc) : Array Value := #[.int .i64 p.m.k.t, .int .i64 p.m.k.f, .int .i64 p.m.k.s, .int .i64 p.m.to, .int .i64 p.m.v, .int .i64 p.m.u, .bool p.m.anti, .int .i64 p.c]
def Pc.val (p : Pc) : Value := .agg #[.int .i64 p.m.k.t, .int .i64 p.m.k.f, .int .i64 p.m.k.s, .int .i64 p.m.to, .int .i64 p.m.v, .int .i64 p.m.u, .bool p.m.anti, .int .i64 p.c]
def zeroP : Pc := ⟨⟨⟨0, 0, 0⟩, 0, 0, 0, false⟩, 0⟩
def Pc.fits (p : Pc) : Prop := p.m.fits ∧ (Lit.int .i64 p.c).wf = true
theorem encP_length (p : Pc) : (encP p).length = 8 := rfl
theorem encP_one (p : Pc) : ∀ u ∈ encP p, u.oneCell' = true := by
  intro v hv
  simp only [encP, List.mem_cons, List.not_mem_nil, or_false] at hv
  rcases hv with rfl | rfl | rfl | rfl | rfl | rfl | rfl | rfl <;> rfl
theorem Pc.cells_eq (p : Pc) : p.cells = (encP p).toArray := rfl
theorem Pc.cells_one (p : Pc) : p.cells.all (·.oneCell') = true := by simp [Pc.cells, Value.oneCell']
theorem Pc.cells_size (p : Pc) : p.cells.size = 8 := rfl
def flatP (L : List Pc) : List Value := L.flatMap encP
theorem flatP_length (L : List Pc) : (flatP L).length = L.length * 8 := flatOf_length encP_length L
theorem flatP_one (L : List Pc) : ∀ u ∈ flatP L, u.oneCell' = true := flatOf_one encP_one L
theorem flatP_append (a b : List Pc) : flatP (a ++ b) = flatP a ++ flatP b := by simp [flatP]
theorem flatP_single (p : Pc) : flatP [p] = encP p := by simp [flatP]
theorem flatP_drop (l : List Pc) (p : Nat) : flatP (l.drop p) = (flatP l).drop (p * 8) := flatOf_drop encP_length l p
theorem flatP_take (l : List Pc) (p : Nat) : flatP (l.take p) = (flatP l).take (p * 8) := flatOf_take encP_length l p
theorem flatP_get (L : List Pc) (k c : Nat) (p : Pc) (h : L[k]? = some p) (hc : c < 8) : (flatP L)[k * 8 + c]? = (encP p)[c]? := flatOf_get encP_length L k c p h hc

theorem infoP : (Try.prog.info? 37).map (fun i => (i.zero, i.size, i.bytes)) = some (some (.agg #[.int .i64 0, .int .i64 0, .int .i64 0, .int .i64 0, .int .i64 0, .int .i64 0, .bool false, .int .i64 0]), 8, 64) := by kernel_rfl
theorem infoPs : (Try.prog.info? 37).map (·.size) = some 8 := by kernel_rfl

/-- The model's comparison of two parcels. -/
theorem eqInP (d : Nat) (a b : Pc) (w : World) : Sem.run Try.prog (Op.equalIn (d + 4) 37 a.val b.val) w = .ok (decide (a = b)) w := by
  have u3 := Try.underlying3
  have a3 := Try.isAgg3
  have z3 := Try.sizeOf3
  have aM := Try.isAgg35
  have zM := Try.sizeOf35
  have hS : Try.prog.underlying 37 = some (.struct (Try.prog.fieldsOf 37)) := by kernel_rfl
  have hp : Try.prog.stoodInHeld 37 = false := by kernel_rfl
  obtain ⟨⟨⟨t, f, s⟩, to, v, u, an⟩, c⟩ := a
  obtain ⟨⟨⟨t', f', s'⟩, to', v', u', an'⟩, c'⟩ := b
  have hk := fun w => eqInM d ⟨⟨t, f, s⟩, to, v, u, an⟩ ⟨⟨t', f', s'⟩, to', v', u', an'⟩ w
  simp only [Pc.val, M.val] at hk ⊢
  rw [run_equalIn_agg w (d + 3) 37 _ _ hS hp]
  simp only [Program.fieldsOf, Try.underlying37]
  go_simp
  by_cases h1 : t = t' <;> by_cases h2 : f = f' <;> by_cases h3 : s = s' <;> by_cases h4 : to = to' <;> by_cases h5 : v = v' <;> by_cases h6 : u = u' <;> by_cases h7 : an = an' <;> by_cases h8 : c = c' <;> simp [h1, h2, h3, h4, h5, h6, h7, h8]
theorem eqlP (a b : Pc) (w : World) : Sem.run Try.prog (binOp .eql 37 a.val b.val) w = .ok (.bool (decide (a = b))) w := by
  have h := eqInP 9996 a b w
  simp only [Pc.val] at h ⊢
  rw [run_eql_struct, h]
  rfl
theorem neqP (a b : Pc) (w : World) : Sem.run Try.prog (binOp .neq 37 a.val b.val) w = .ok (.bool (!decide (a = b))) w := by
  have h := eqInP 9996 a b w
  simp only [Pc.val] at h ⊢
  rw [run_neq_struct, h]
  rfl

/-! Rows. -/
theorem cell_of_block {w : World} {b o : Nat} {cs : Array Value} {t : TypeId} {u : Value} (h : w.heap[b]? = some (.cells cs t (0, 0))) (hu : cs[o]? = some u) : w.cell? ⟨b, o, none⟩ = some u := by
  simp [World.cell?, h, hu]
theorem frozen_of_cells {w : World} {b o : Nat} {cs : Array Value} {t : TypeId} (h : w.heap[b]? = some (.cells cs t (0, 0))) : w.frozen? ⟨b, o, none⟩ = false := by simp [World.frozen?, h]
theorem range_block {w : World} {g : Nat} {cs : Array Value} {T : TypeId} (h : w.heap[g]? = some (.cells cs T (0, 0))) : w.rangeAt g 0 cs.toList := fun j v hv => by
  rw [Nat.zero_add, cell_of_row w g j cs T (0, 0) h]
  simpa using hv
theorem news_of {w : World} {g : Nat} {cs : List Value} {T : TypeId} (h : w.heap[g]? = some (.cells cs.toArray T (0, 0))) (j : Nat) (u : Value) (hj : cs[j]? = some u) : w.cell? ((⟨g, 0, none⟩ : Addr).add j) = some u := by
  rw [Addr.add_lit, Nat.zero_add, cell_of_row w g j _ T (0, 0) h]
  simpa using hj
theorem RowAt.tag {w : World} {e : TypeId} {sz n : Nat} {v : Value} {xs : List Value} (h : RowAt w e sz v n xs) {k : Nat} (hk : v.ownBlock = some k) : ∃ cur, w.heap[k]? = some (.cells cur e (0, 0)) := by
  rcases h with ⟨rfl, _⟩ | ⟨g, off, cap, rfl, cur, h, _⟩
  · cases hk
  · simp [Value.ownBlock] at hk
    subst hk
    exact ⟨cur, h⟩
def AtP (w : World) (v : Value) (L : List Pc) : Prop := RowAt w 37 8 v L.length (flatP L)
def RowP (w : World) (g off cap : Nat) (L : List Pc) : Prop := RowIn w 37 8 g off L.length cap (flatP L)
theorem RowP.parcel {w : World} {g off cap : Nat} {L : List Pc} (h : RowP w g off cap L) {k : Nat} {p : Pc} (hk : L[k]? = some p) : w.rangeAt g (off + k * 8) (encP p) := fun j u hj => by
  have hlt : j < 8 := by have := (List.getElem?_eq_some_iff.1 hj).1; rwa [encP_length] at this
  have := RowIn.cell h (j := k * 8 + j) (u := u) (by rw [flatP_get L k j p hk hlt]; exact hj)
  rwa [← Nat.add_assoc] at this
theorem AtP.kept {S : Nat → Prop} {w w' : World} {v : Value} {L : List Pc} (h : AtP w v L) (hk : KeptOff S w w') (hn : ∀ k, v.ownBlock = some k → ¬ S k) : AtP w' v L := RowAt.kept h hk hn

/-! Ways. -/
/-- What a way is told: whence, whither, how many, whether in order. -/
structure Wy where
  fr : Int
  to : Int
  most : Int
  loose : Bool
def Wy.ok (y : Wy) : Prop := 1 ≤ y.most ∧ y.most ≤ 1024
/-- The function that a kind's place is. -/
def kfn (b : Bool) : FuncId := if b then 41 else 40
def kfV (b : Bool) : Value := .func (.func (kfn b)) #[] #[]
/-- What a link's place is, of a number. -/
def placeN (loose : Bool) (n : Int) (k : Nat) : Nat := if loose then (n % (k : Int)).toNat else 0
theorem placeN_lt (loose : Bool) (n : Int) {k : Nat} (h : 0 < k) : placeN loose n k < k := by
  unfold placeN
  split
  · have h1 := Int.emod_lt_of_pos n (show (0 : Int) < k by omega)
    have h2 := Int.emod_nonneg n (show (k : Int) ≠ 0 by omega)
    omega
  · exact h
/-- What Put answers. -/
def putC (y : Wy) (k : Nat) (p : Pc) : Int := if chkM p.m ≠ 0 ∨ p.m.k.f ≠ y.fr ∨ p.m.to ≠ y.to then 1 else if p.m.anti = false ∧ y.most ≤ (k : Int) then 9 else 0
def putL (y : Wy) (L : List Pc) (p : Pc) : List Pc := if putC y L.length p = 0 then L ++ [p] else L
def peekC (L : List Pc) : Int := if L = [] then 6 else 0
def peekP (y : Wy) (L : List Pc) (n : Int) : Pc := if L = [] then zeroP else L.getD (placeN y.loose n L.length) default
def takeL (y : Wy) (L : List Pc) (n : Int) : List Pc := L.eraseIdx (placeN y.loose n L.length)
def roomN (y : Wy) (k : Nat) : Int := max (y.most - (k : Int)) 0
def leastT (L : List Pc) : Int := L.foldl (fun a p => min a p.m.k.t) 4611686018427387904

/-- The program's way in memory. -/
def WyRow (w : World) (hb : Nat) (y : Wy) (v : Value) : Prop := w.heap[hb]? = some (.cells #[.int .i64 y.fr, .int .i64 y.to, .int .i64 y.most, kfV y.loose, v] 66 (0, 0))
/-- A way that has the parcels of L; its blocks are among those of S. -/
structure WyOf (w : World) (hb : Nat) (S : Nat → Prop) (y : Wy) (v : Value) (L : List Pc) : Prop where
  row : WyRow w hb y v
  list : AtP w v L
  ok : y.ok
  own : S hb
  owns : ∀ k, v.ownBlock = some k → S k
  lt : ∀ k, S k → k < w.heap.size
def WyAt (w : World) (hb : Nat) (S : Nat → Prop) (y : Wy) (L : List Pc) : Prop := ∃ v, WyOf w hb S y v L
/-- The document's way in memory. -/
def DyRow (w : World) (hb : Nat) (y : Wy) (lk : Int) (v : Value) : Prop := w.heap[hb]? = some (.cells #[.int .i64 y.fr, .int .i64 y.to, .int .i64 lk, .bool y.loose, .int .i64 y.most, v] 50 (0, 0))
structure DyOf (w : World) (hb : Nat) (S : Nat → Prop) (y : Wy) (lk : Int) (v : Value) (L : List Pc) : Prop where
  row : DyRow w hb y lk v
  list : AtP w v L
  ok : y.ok
  own : S hb
  owns : ∀ k, v.ownBlock = some k → S k
  lt : ∀ k, S k → k < w.heap.size
def DyAt (w : World) (hb : Nat) (S : Nat → Prop) (y : Wy) (L : List Pc) : Prop := ∃ lk v, DyOf w hb S y lk v L
/-- What a step turns. -/
def CStep (w w' : World) (S S' : Nat → Prop) : Prop := KeptOff S w w' ∧ ∀ k, S' k → S k ∨ w.heap.size ≤ k
theorem CStep.of_below {w w' : World} {S : Nat → Prop} (h : Below w.heap.size w w') : CStep w w' S S := ⟨.of_below h, fun _ h => .inl h⟩
theorem CStep.trans {w w' w'' : World} {S S' S'' : Nat → Prop} (h : CStep w w' S S') (h' : CStep w' w'' S' S'') : CStep w w'' S S'' :=
  ⟨h.1.then_new h'.1 (fun k hk e => (h.2 k e).resolve_right (by omega)), fun k hk => by
    rcases h'.2 k hk with e | e
    · exact h.2 k e
    · exact .inr (Nat.le_trans h.1.size e)⟩
section
variable {w w' : World} {hb : Nat} {S X : Nat → Prop} {y : Wy} {lk : Int} {v : Value} {L : List Pc}
theorem WyOf.ne (h : WyOf w hb S y v L) {k : Nat} (hk : v.ownBlock = some k) : k ≠ hb := fun e => by
  obtain ⟨c, h1⟩ := RowAt.tag h.list hk
  have h2 := h.row
  unfold WyRow at h2
  rw [e, h2] at h1
  simp at h1
theorem WyOf.kept (h : WyOf w hb S y v L) (hk : KeptOff X w w') (hn : ∀ k, S k → ¬ X k) : WyOf w' hb S y v L :=
  ⟨(hk.block hb (h.lt hb h.own) (hn hb h.own)).trans h.row, h.list.kept hk (fun k e => hn k (h.owns k e)), h.ok, h.own, h.owns, fun k e => Nat.lt_of_lt_of_le (h.lt k e) hk.size⟩
theorem WyOf.below (h : WyOf w hb S y v L) (hb' : Below w.heap.size w w') : WyOf w' hb S y v L := h.kept (X := fun _ => False) (.of_below hb') (fun _ _ e => e)
theorem WyAt.kept (h : WyAt w hb S y L) (hk : KeptOff X w w') (hn : ∀ k, S k → ¬ X k) : WyAt w' hb S y L := by obtain ⟨v, h⟩ := h; exact ⟨v, h.kept hk hn⟩
theorem WyAt.below (h : WyAt w hb S y L) (hb' : Below w.heap.size w w') : WyAt w' hb S y L := by obtain ⟨v, h⟩ := h; exact ⟨v, h.below hb'⟩
theorem WyAt.lt (h : WyAt w hb S y L) {k : Nat} (hk : S k) : k < w.heap.size := by obtain ⟨v, h⟩ := h; exact h.lt k hk
theorem WyAt.own (h : WyAt w hb S y L) : S hb := by obtain ⟨v, h⟩ := h; exact h.own
theorem WyOf.c0 (h : WyOf w hb S y v L) : w.cell? ⟨hb, 0, none⟩ = some (.int .i64 y.fr) := cell_of_block h.row rfl
theorem WyOf.c1 (h : WyOf w hb S y v L) : w.cell? ⟨hb, 1, none⟩ = some (.int .i64 y.to) := cell_of_block h.row rfl
theorem WyOf.c2 (h : WyOf w hb S y v L) : w.cell? ⟨hb, 2, none⟩ = some (.int .i64 y.most) := cell_of_block h.row rfl
theorem WyOf.c3 (h : WyOf w hb S y v L) : w.cell? ⟨hb, 3, none⟩ = some (kfV y.loose) := cell_of_block h.row rfl
theorem WyOf.c4 (h : WyOf w hb S y v L) : w.cell? ⟨hb, 4, none⟩ = some v := cell_of_block h.row rfl
theorem WyOf.fz (h : WyOf w hb S y v L) (o : Nat) : w.frozen? ⟨hb, o, none⟩ = false := frozen_of_cells h.row
theorem DyOf.ne (h : DyOf w hb S y lk v L) {k : Nat} (hk : v.ownBlock = some k) : k ≠ hb := fun e => by
  obtain ⟨c, h1⟩ := RowAt.tag h.list hk
  have h2 := h.row
  unfold DyRow at h2
  rw [e, h2] at h1
  simp at h1
theorem DyOf.kept (h : DyOf w hb S y lk v L) (hk : KeptOff X w w') (hn : ∀ k, S k → ¬ X k) : DyOf w' hb S y lk v L :=
  ⟨(hk.block hb (h.lt hb h.own) (hn hb h.own)).trans h.row, h.list.kept hk (fun k e => hn k (h.owns k e)), h.ok, h.own, h.owns, fun k e => Nat.lt_of_lt_of_le (h.lt k e) hk.size⟩
theorem DyOf.below (h : DyOf w hb S y lk v L) (hb' : Below w.heap.size w w') : DyOf w' hb S y lk v L := h.kept (X := fun _ => False) (.of_below hb') (fun _ _ e => e)
theorem DyAt.kept (h : DyAt w hb S y L) (hk : KeptOff X w w') (hn : ∀ k, S k → ¬ X k) : DyAt w' hb S y L := by obtain ⟨lk, v, h⟩ := h; exact ⟨lk, v, h.kept hk hn⟩
theorem DyAt.below (h : DyAt w hb S y L) (hb' : Below w.heap.size w w') : DyAt w' hb S y L := by obtain ⟨lk, v, h⟩ := h; exact ⟨lk, v, h.below hb'⟩
theorem DyAt.lt (h : DyAt w hb S y L) {k : Nat} (hk : S k) : k < w.heap.size := by obtain ⟨lk, v, h⟩ := h; exact h.lt k hk
theorem DyAt.own (h : DyAt w hb S y L) : S hb := by obtain ⟨lk, v, h⟩ := h; exact h.own
theorem DyOf.c0 (h : DyOf w hb S y lk v L) : w.cell? ⟨hb, 0, none⟩ = some (.int .i64 y.fr) := cell_of_block h.row rfl
theorem DyOf.c1 (h : DyOf w hb S y lk v L) : w.cell? ⟨hb, 1, none⟩ = some (.int .i64 y.to) := cell_of_block h.row rfl
theorem DyOf.c3 (h : DyOf w hb S y lk v L) : w.cell? ⟨hb, 3, none⟩ = some (.bool y.loose) := cell_of_block h.row rfl
theorem DyOf.c4 (h : DyOf w hb S y lk v L) : w.cell? ⟨hb, 4, none⟩ = some (.int .i64 y.most) := cell_of_block h.row rfl
theorem DyOf.c5 (h : DyOf w hb S y lk v L) : w.cell? ⟨hb, 5, none⟩ = some v := cell_of_block h.row rfl
theorem DyOf.fz (h : DyOf w hb S y lk v L) (o : Nat) : w.frozen? ⟨hb, o, none⟩ = false := frozen_of_cells h.row
end

/-- A box that holds a parcel. -/
def BoxP (w : World) (B : Nat) (p : Pc) : Prop := w.heap[B]? = some (.cells p.cells 37 (0, 0))
theorem BoxP.mk (w : World) (p : Pc) : BoxP (w.alloc (.cells p.cells 37)) w.heap.size p := heap_alloc_new w _
theorem BoxP.kept {S : Nat → Prop} {w w' : World} {B : Nat} {p : Pc} (h : BoxP w B p) (hk : KeptOff S w w') (hn : ¬ S B) : BoxP w' B p := (hk.block B (Array.getElem?_eq_some_iff.1 h).1 hn).trans h
theorem BoxP.below {w w' : World} {B : Nat} {p : Pc} (h : BoxP w B p) (hb : Below w.heap.size w w') : BoxP w' B p := h.kept (S := fun _ => False) (.of_below hb) (fun e => e)
theorem BoxP.lt {w : World} {B : Nat} {p : Pc} (h : BoxP w B p) : B < w.heap.size := (Array.getElem?_eq_some_iff.1 h).1
theorem BoxP.row {w : World} {B : Nat} {q : Pc} (h : BoxP w B q) (p : Pc) : BoxP (w.setRow B p.cells) B p := setRow_heap w B _ _ _ _ h
theorem KeptOff.setRow (w : World) (g : Nat) (cs : Array Value) : KeptOff (fun k => k = g) w (w.setRow g cs) := KeptOff.row w g cs
/-- The cells of a parcel that lies at o. -/
def PcAt (w : World) (b o : Nat) (p : Pc) : Prop := w.cell? ⟨b, o, none⟩ = some (.int .i64 p.m.k.t) ∧ w.cell? ⟨b, o + 1, none⟩ = some (.int .i64 p.m.k.f) ∧ w.cell? ⟨b, o + 2, none⟩ = some (.int .i64 p.m.k.s) ∧ w.cell? ⟨b, o + 3, none⟩ = some (.int .i64 p.m.to) ∧
  w.cell? ⟨b, o + 4, none⟩ = some (.int .i64 p.m.v) ∧ w.cell? ⟨b, o + 5, none⟩ = some (.int .i64 p.m.u) ∧ w.cell? ⟨b, o + 6, none⟩ = some (.bool p.m.anti) ∧ w.cell? ⟨b, o + 7, none⟩ = some (.int .i64 p.c)
theorem PcAt.of_range {w : World} {b o : Nat} {p : Pc} (h : w.rangeAt b o (encP p)) : PcAt w b o p :=
  ⟨h 0 _ rfl, h 1 _ rfl, h 2 _ rfl, h 3 _ rfl, h 4 _ rfl, h 5 _ rfl, h 6 _ rfl, h 7 _ rfl⟩
theorem BoxP.range {w : World} {B : Nat} {p : Pc} (h : BoxP w B p) : w.rangeAt B 0 (encP p) := range_block h
theorem BoxP.at {w : World} {B : Nat} {p : Pc} (h : BoxP w B p) : PcAt w B 0 p := .of_range h.range
theorem RowP.at {w : World} {g off cap : Nat} {L : List Pc} (h : RowP w g off cap L) {k : Nat} {p : Pc} (hk : L[k]? = some p) : PcAt w g (off + k * 8) p := .of_range (h.parcel hk)
end Go.Proofs.Ytjbammgnkegecaa
