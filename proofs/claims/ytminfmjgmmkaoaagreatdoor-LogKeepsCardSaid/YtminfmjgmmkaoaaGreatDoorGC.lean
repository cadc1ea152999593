/-
  A log in memory: its steps, its stretches, the log itself; plain data and rows.
  Copies of slices: of instructions, links, messages.
-/
import Derived.Test.YtminfmjgmmkaoaaGreatDoorGA
import Derived.Test.YtminfmjgmmkaoaaGreatDoorVmS
namespace Go.Proofs.YtminfmjgmmkaoaaGreatDoor
open Go.ChangeShapes Go.WideShapes Go.ChangeAt Go.Shelf Go.RowKit Go.Lib Go.Sort Go.Deep
set_option linter.unusedVariables false
set_option maxRecDepth 4000

/-! Elements of one size, one behind the other. -/
theorem flatOf_length {α : Type} {enc : α → List Value} {sz : Nat} (h : ∀ x, (enc x).length = sz) : ∀ L : List α, (L.flatMap enc).length = L.length * sz
  | [] => by simp
  | a :: L => by rw [List.flatMap_cons, List.length_append, h, flatOf_length h L, List.length_cons, Nat.add_mul]; omega
theorem flatOf_get {α : Type} {enc : α → List Value} {sz : Nat} (h : ∀ x, (enc x).length = sz) : ∀ (L : List α) (k c : Nat) (x : α), L[k]? = some x → c < sz → (L.flatMap enc)[k * sz + c]? = (enc x)[c]?
  | [], k, c, x, hk, hc => by simp at hk
  | a :: L, 0, c, x, hk, hc => by
    simp at hk
    subst hk
    rw [List.flatMap_cons, Nat.zero_mul, Nat.zero_add, List.getElem?_append_left (by rw [h]; exact hc)]
  | a :: L, k + 1, c, x, hk, hc => by
    rw [List.flatMap_cons, List.getElem?_append_right (by rw [h, Nat.add_mul]; omega), h, show (k + 1) * sz + c - sz = k * sz + c by rw [Nat.add_mul]; omega]
    exact flatOf_get h L k c x (by simpa using hk) hc
/-! Plain data. -/
/-- An entry. -/
structure En where
  ev : M
  bf : Sta
  fl : Int
  sent : List M
  deriving DecidableEq
/-- A step: an entry without the state ahead of it; sv is the slice of what it sent. -/
structure Stp where
  ev : M
  fl : Int
  sv : Value
  sent : List M
/-- A stretch; v is the slice of its steps. -/
structure Sth where
  kept : Sta
  v : Value
  L : List Stp
def encMs (m : M) : List Value := [.int .i64 m.k.t, .int .i64 m.k.f, .int .i64 m.k.s, .int .i64 m.to, .int .i64 m.v, .int .i64 m.u, .bool m.anti]
def encSt (s : Sta) : List Value := [.int .i64 (s.r.getD 0 0), .int .i64 (s.r.getD 1 0), .int .i64 (s.r.getD 2 0), .int .i64 (s.r.getD 3 0), .int .i64 (s.r.getD 4 0), .int .i64 (s.r.getD 5 0), .int .i64 (s.r.getD 6 0), .int .i64 (s.r.getD 7 0), .int .i64 s.d, .int .i64 s.s]
def encP (p : Stp) : List Value := encMs p.ev ++ [.int .i64 p.fl, p.sv]
def encT (s : Sth) : List Value := encSt s.kept ++ [s.v]
theorem encSt_length (s : Sta) : (encSt s).length = 10 := rfl
theorem encP_length (p : Stp) : (encP p).length = 9 := rfl
theorem encT_length (s : Sth) : (encT s).length = 11 := rfl
theorem Sta.cells_eq {s : Sta} (h : s.r.length = 8) : s.cells = (encSt s).toArray := by
  obtain ⟨r, d, n⟩ := s
  obtain ⟨r0, r1, r2, r3, r4, r5, r6, r7, rfl⟩ := eight h
  rfl
theorem Sta.val_eq {s : Sta} (h : s.r.length = 8) : s.val = .agg (encSt s).toArray := by rw [Sta.val, Sta.cells_eq h]
theorem M.val_eq (m : M) : m.val = .agg (encMs m).toArray := rfl

/-! What a state may be. -/
structure StaOk (s : Sta) : Prop where
  len : s.r.length = 8
  reg : ∀ z ∈ s.r, In64 z
theorem StaOk.zero : StaOk Sta.zero := ⟨rfl, zero_in⟩
theorem run_ok {W : Wd} {ev : M} (hc : checkN W.prog = 0) (hv : In64 ev.v) (ht : In64 ev.k.t) (hs : In64 W.self) : ∀ (f : Nat) (m : Mc), McOk m → match runP W ev f m with
    | .fault _ => True
    | .on m' => McOk m'
    | .stop m' => McOk m'
  | 0, m, h => by simpa [runP] using h
  | f + 1, m, h => by
    by_cases hp : m.pc < (W.prog.length : Int)
    · have hk : m.pc.toNat < W.prog.length := by have := h.pc; omega
      have hmay := checkN_mayAll hc m.pc.toNat hk
      have h1 : McOk { m with pc := m.pc + 1 } := ⟨h.r, by have := h.pc; show 0 ≤ m.pc + 1; omega, h.o⟩
      cases hst : stepP W ev (W.prog.getD m.pc.toNat default) { m with pc := m.pc + 1 } with
      | on m' => rw [runP_on hp hst]; exact run_ok hc hv ht hs f m' (step_inv hmay h1 hv ht hs (.inl hst)).1
      | stop m' => rw [runP_stop hp hst]; exact (step_inv hmay h1 hv ht hs (.inr hst)).1
      | fault e => rw [runP_fault hp hst]; trivial
    · rw [runP_end hp]; exact h
theorem runW_ok {W : Wd} {s : Sta} {ev : M} (h : StaOk s) (hv : In64 ev.v) : StaOk (runW W s ev).1 := by
  refine ⟨runW_len h.len, ?_⟩
  by_cases hc : checkW W = 0
  · by_cases hm : chkM ev = 0 ∧ s.mayB = true
    · rw [runW_go hc hm.1 hm.2]
      have ht : In64 ev.k.t := by have := chkM_time hm.1; unfold In64; omega
      have hs : In64 W.self := by have := (checkW_zero hc).2.1; unfold In64; omega
      have hok : McOk (firstP s) := ⟨fun y hy => by
        simp only [firstP, List.mem_append] at hy
        rcases hy with hy | hy
        · exact h.reg y hy
        · simp at hy
          obtain rfl := hy
          omega, by simp [firstP], by simp [firstP]⟩
      have hr := run_ok (checkW_zero hc).1 hv ht hs 4096 (firstP s) hok
      have tk : ∀ m' : Mc, McOk m' → ∀ z ∈ m'.r.take 8, In64 z := fun m' hm' z hz => hm'.r z (List.mem_of_mem_take hz)
      cases hq : runP W ev 4096 (firstP s) with
      | fault e => exact h.reg
      | on m => rw [hq] at hr; exact tk m hr
      | stop m => rw [hq] at hr; exact tk m hr
    · rw [runW_msg hc hm]; exact zero_in
  · rw [runW_chk hc]; exact zero_in

/-! What the steps come to. -/
def behind (W : Wd) : Sta → List Stp → Sta
  | s, [] => s
  | s, p :: L => behind W (runW W s p.ev).1 L
def told (W : Wd) : Sta → List Stp → List En
  | _, [] => []
  | s, p :: L => ⟨p.ev, s, p.fl, p.sent⟩ :: told W (runW W s p.ev).1 L
theorem behind_append (W : Wd) : ∀ (a b : List Stp) (s : Sta), behind W s (a ++ b) = behind W (behind W s a) b
  | [], b, s => rfl
  | p :: a, b, s => behind_append W a b _
theorem told_append (W : Wd) : ∀ (a b : List Stp) (s : Sta), told W s (a ++ b) = told W s a ++ told W (behind W s a) b
  | [], b, s => rfl
  | p :: a, b, s => by simp only [List.cons_append, told, behind]; rw [told_append W a b]
theorem told_length (W : Wd) : ∀ (L : List Stp) (s : Sta), (told W s L).length = L.length
  | [], s => rfl
  | p :: L, s => by simp [told, told_length W L]
theorem behind_ok {W : Wd} : ∀ (L : List Stp) (s : Sta), StaOk s → (∀ p ∈ L, In64 p.ev.v) → StaOk (behind W s L)
  | [], s, h, _ => h
  | p :: L, s, h, hv => behind_ok L _ (runW_ok h (hv p (List.mem_cons_self ..))) (fun q hq => hv q (List.mem_cons_of_mem _ hq))
/-- The state ahead of the k-th step. -/
def stAt (W : Wd) (s : Sta) (L : List Stp) (k : Nat) : Sta := behind W s (L.take k)
theorem stAt_succ {W : Wd} {s : Sta} {L : List Stp} {k : Nat} {p : Stp} (h : L[k]? = some p) : stAt W s L (k + 1) = (runW W (stAt W s L k) p.ev).1 := by
  unfold stAt
  rw [List.take_add_one, h]
  simp [behind_append, behind]
theorem told_get {W : Wd} : ∀ {L : List Stp} {s : Sta} {k : Nat} {p : Stp}, L[k]? = some p → (told W s L)[k]? = some ⟨p.ev, stAt W s L k, p.fl, p.sent⟩
  | [], s, k, p, h => by simp at h
  | q :: L, s, 0, p, h => by simp at h; subst h; rfl
  | q :: L, s, k + 1, p, h => by
    have := told_get (W := W) (s := (runW W s q.ev).1) (L := L) (k := k) (p := p) (by simpa using h)
    simpa [told, stAt, behind] using this
/-- All entries. -/
def toldAll (W : Wd) (ss : List Sth) : List En := ss.flatMap fun s => told W s.kept s.L
/-- Each kept state is the one behind the stretch ahead of it; st is behind all. -/
def Chain (W : Wd) : List Sth → Sta → Prop
  | [], _ => True
  | [s], st => behind W s.kept s.L = st
  | s :: t :: r, st => behind W s.kept s.L = t.kept ∧ Chain W (t :: r) st
def total (ss : List Sth) : Nat := (ss.map fun s => s.L.length).sum
theorem toldAll_length (W : Wd) : ∀ ss : List Sth, (toldAll W ss).length = total ss
  | [] => rfl
  | s :: ss => by
    have := toldAll_length W ss
    unfold toldAll total at *
    simp [told_length, this]
theorem toldAll_append (W : Wd) (a b : List Sth) : toldAll W (a ++ b) = toldAll W a ++ toldAll W b := by simp [toldAll]

/-! In memory. -/
/-- A slice that reads as messages. -/
def Sent (w : World) (v : Value) (ms : List M) : Prop := ∃ a cap, v = .slice a ms.length cap ∧ Mgs w a ms.length cap ms
theorem Mgs.keptOff {S : Nat → Prop} {w w' : World} {a : Option Addr} {len cap : Nat} {ms : List M} (h : Mgs w a len cap ms) (hk : KeptOff S w w') (hn : ∀ k, (Value.slice a len cap).ownBlock = some k → ¬ S k) : Mgs w' a len cap ms := by
  obtain ⟨h1, h2, h3, h4⟩ := h
  refine ⟨h1, h2, h3, h4.imp id ?_⟩
  rintro ⟨b, off, ha, hm⟩
  subst ha
  refine ⟨b, off, rfl, fun i hi => ?_⟩
  obtain ⟨hlt, h0⟩ := hm i hi
  have e : ∀ o, w'.cell? ⟨b, o, none⟩ = w.cell? ⟨b, o, none⟩ := fun o => by simp [World.cell?, hk.block b hlt (hn b rfl)]
  unfold MsgAt
  simp only [e]
  exact ⟨Nat.lt_of_lt_of_le hlt hk.size, h0⟩
theorem Sent.kept {S : Nat → Prop} {w w' : World} {v : Value} {ms : List M} (h : Sent w v ms) (hk : KeptOff S w w') (hn : ∀ k, v.ownBlock = some k → ¬ S k) : Sent w' v ms := by
  obtain ⟨a, cap, rfl, hm⟩ := h
  exact ⟨a, cap, rfl, hm.keptOff hk hn⟩
theorem Sent.below {w w' : World} {v : Value} {ms : List M} (h : Sent w v ms) (hb : Below w.heap.size w w') : Sent w' v ms := by
  obtain ⟨a, cap, rfl, hm⟩ := h
  exact ⟨a, cap, rfl, hm.below hb⟩
/-- The cells of a log. -/
def logC (v : Wv) (W : Wd) (every : Int) (sv : Value) (len : Int) (st : Sta) (stuck : Bool) : Array Value :=
  ([Value.slice v.pa v.pl v.pc, .int .i64 W.self, .slice v.la v.ll v.lc, .int .u64 W.seed, .int .i64 every, sv, .int .i64 len] ++ encSt st ++ [Value.bool stuck]).toArray
/-- The steps in memory. -/
def AtP (w : World) (v : Value) (L : List Stp) : Prop := RowAt w 101 9 v L.length (L.flatMap encP)
def AtT (w : World) (v : Value) (ss : List Sth) : Prop := RowAt w 68 11 v ss.length (ss.flatMap encT)
def apartV (a b : Value) : Prop := ∀ k, a.ownBlock = some k → b.ownBlock = some k → False
/-- A slice's block is one of elements of that type. -/
def TagV (w : World) (e : TypeId) (v : Value) : Prop := ∀ k, v.ownBlock = some k → ∃ cur, w.heap[k]? = some (.cells cur e (0, 0))
theorem TagV.lt {w : World} {e : TypeId} {v : Value} (h : TagV w e v) : ∀ k, v.ownBlock = some k → k < w.heap.size := fun k hk => by
  obtain ⟨cur, h1⟩ := h k hk
  exact (Array.getElem?_eq_some_iff.1 h1).1
theorem TagV.kept {S : Nat → Prop} {w w' : World} {e : TypeId} {v : Value} (h : TagV w e v) (hk : KeptOff S w w') (hn : ∀ k, v.ownBlock = some k → ¬ S k) : TagV w' e v := fun k e => by
  obtain ⟨cur, h1⟩ := h k e
  exact ⟨cur, (hk.block k (Array.getElem?_eq_some_iff.1 h1).1 (hn k e)).trans h1⟩
theorem TagV.below {w w' : World} {e : TypeId} {v : Value} (h : TagV w e v) (hb : Below w.heap.size w w') : TagV w' e v := h.kept (S := fun _ => False) (.of_below hb) (fun _ _ e => e)
/-- Blocks of two types are two. -/
theorem TagV.ne {w : World} {e e' : TypeId} {v v' : Value} (h : TagV w e v) (h' : TagV w e' v') (hne : e ≠ e') : ∀ k, v.ownBlock = some k → v'.ownBlock = some k → False := fun k a b => by
  obtain ⟨c, h1⟩ := h k a
  obtain ⟨c', h2⟩ := h' k b
  rw [h1] at h2
  simp at h2
  exact hne h2.2
/-- What of a log in memory is but read on the way over its entries. -/
structure LogRd (w : World) (v : Wv) (W : Wd) (sv : Value) (ss : List Sth) : Prop where
  wds : Wds w v W
  wtag : TagV w 62 (.slice v.pa v.pl v.pc) ∧ TagV w 65 (.slice v.la v.ll v.lc)
  abv : AtT w sv ss
  each : ∀ s ∈ ss, AtP w s.v s.L
  sents : ∀ s ∈ ss, ∀ p ∈ s.L, Sent w p.sv p.sent ∧ TagV w 42 p.sv
/-- A log in memory. -/
structure LogOf (w : World) (lb : Nat) (v : Wv) (W : Wd) (every : Int) (sv : Value) (ss : List Sth) (st : Sta) (stuck : Bool) : Prop where
  row : w.heap[lb]? = some (.cells (logC v W every sv (total ss) st stuck) 71 (0, 0))
  rd : LogRd w v W sv ss
  every : 1 ≤ every ∧ every ≤ 1024
  pos : 0 < ss.length
  apart : (ss.map Sth.v).Pairwise apartV
/-- The blocks that a log writes. -/
def LOwn (lb : Nat) (sv : Value) (ss : List Sth) (k : Nat) : Prop := k = lb ∨ sv.ownBlock = some k ∨ ∃ s ∈ ss, s.v.ownBlock = some k
theorem RowAt.tag {e : TypeId} {sz n : Nat} {v : Value} {xs : List Value} {w : World} (h : RowAt w e sz v n xs) {k : Nat} (hk : v.ownBlock = some k) : ∃ cur, w.heap[k]? = some (.cells cur e (0, 0)) := by
  rcases h with ⟨rfl, _⟩ | ⟨g, off, cap, rfl, cur, h, _⟩
  · cases hk
  · simp [Value.ownBlock] at hk
    subst hk
    exact ⟨cur, h⟩
end Go.Proofs.YtminfmjgmmkaoaaGreatDoor
namespace Go.Proofs.YtminfmjgmmkaoaaGreatDoor
open Go.ChangeShapes Go.WideShapes Go.ChangeAt Go.Shelf Go.RowKit Go.Lib Go.Sort Go.Deep
set_option linter.unusedVariables false
set_option maxRecDepth 4000

def flatL (os : List Lk) : List Value := (os.map fun o => o.cells.toList).flatten
theorem flatL_append (a b : List Lk) : flatL (a ++ b) = flatL a ++ flatL b := by simp [flatL]
theorem flatL_one (o : Lk) : flatL [o] = [.int .i64 o.src, .int .i64 o.dst, .int .i64 o.look, .bool o.loose] := rfl
theorem flatL_length (os : List Lk) : (flatL os).length = os.length * 4 := by
  induction os with
  | nil => rfl
  | cons o t ih =>
    have : flatL (o :: t) = flatL [o] ++ flatL t := flatL_append [o] t
    rw [this, List.length_append, ih, flatL_one, List.length_cons]
    simp only [List.length_cons, List.length_nil]
    omega
theorem flatL_get : ∀ (os : List Lk) (i c : Nat), i < os.length → c < 4 → (flatL os)[i * 4 + c]? = (os.getD i default).cells[c]?
  | [], i, c, h, _ => by simp at h
  | m :: ms, 0, c, _, hc => by
    have : flatL (m :: ms) = flatL [m] ++ flatL ms := flatL_append [m] ms
    rw [this, List.getElem?_append_left (by rw [flatL_one]; simp; omega)]
    simp [flatL, Lk.cells]
  | m :: ms, i + 1, c, h, hc => by
    have ih := flatL_get ms i c (by simpa using h) hc
    have : flatL (m :: ms) = flatL [m] ++ flatL ms := flatL_append [m] ms
    rw [this, List.getElem?_append_right (by rw [flatL_one]; simp; omega), flatL_one]
    have e : (i + 1) * 4 + c - [Value.int .i64 m.src, Value.int .i64 m.dst, Value.int .i64 m.look, Value.bool m.loose].length = i * 4 + c := by simp; omega
    rw [e, ih]
    simp
theorem lks_of_own {w : World} {base : Nat} {a : Option Addr} {n cap : Nat} {os : List Lk} (h : w.ownsRow base 65 4 (.slice a n cap) n (flatL os)) : Lks w a n cap os := by
  obtain ⟨hl, hv⟩ := h
  rw [flatL_length] at hl
  have hn : os.length = n := by omega
  rcases hv with ⟨e, rfl⟩ | ⟨g, cap', cur, e, _, hg, hn', hm, hs, ht⟩
  · cases e
    exact ⟨hn, Nat.le_refl _, by unfold maxLen; omega, .inl rfl⟩
  · cases e
    refine ⟨hn, hn', hm, .inr ⟨g, 0, rfl, fun k hk => ?_⟩⟩
    have hc : ∀ c, c < 4 → w.cell? ⟨g, 0 + k * 4 + c, none⟩ = (os.getD k default).cells[c]? := by
      intro c hc
      have h1 : w.cell? ⟨g, 0 + k * 4 + c, none⟩ = cur[k * 4 + c]? := by simp [World.cell?, hg]
      rw [h1]
      have h2 : (cur.toList.take (n * 4))[k * 4 + c]? = cur[k * 4 + c]? := by rw [List.getElem?_take_of_lt (by omega), Array.getElem?_toList]
      rw [← h2, ht]
      exact flatL_get os k c (by omega) hc
    refine ⟨(Array.getElem?_eq_some_iff.1 hg).1, ?_, ?_, ?_, ?_⟩
    · exact hc 0 (by omega)
    · exact hc 1 (by omega)
    · exact hc 2 (by omega)
    · exact hc 3 (by omega)
theorem infoLk : (Tryz.prog.info? 65).map (fun i => (i.zero, i.size, i.bytes)) = some (some (.agg #[.int .i64 0, .int .i64 0, .int .i64 0, .bool false]), 4, 32) := by kernel_rfl

theorem flatL_ones (is : List Lk) : ∀ u ∈ flatL is, u.oneCell' = true := by
  intro u hu
  unfold flatL at hu
  obtain ⟨l, hl, hm⟩ := List.mem_flatten.1 hu
  obtain ⟨m, _, rfl⟩ := List.mem_map.1 hl
  simp only [Lk.cells, List.mem_cons, List.not_mem_nil, or_false] at hm
  rcases hm with rfl | rfl | rfl | rfl <;> rfl
theorem flatM_ones (is : List M) : ∀ u ∈ flatM is, u.oneCell' = true := by
  intro u hu
  unfold flatM at hu
  obtain ⟨l, hl, hm⟩ := List.mem_flatten.1 hu
  obtain ⟨m, _, rfl⟩ := List.mem_map.1 hl
  simp only [M.cells, List.mem_cons, List.not_mem_nil, or_false] at hm
  rcases hm with rfl | rfl | rfl | rfl | rfl | rfl | rfl <;> rfl
theorem Lks.cells {w : World} {ad : Addr} {len cap : Nat} {is : List Lk} (h : Lks w (some ad) len cap is) (j : Nat) (u : Value) (hj : (flatL is)[j]? = some u) : w.cell? (ad.add j) = some u := by
  obtain ⟨h1, h2, h3, h4⟩ := h
  have hlt : j < is.length * 4 := by
    have := (List.getElem?_eq_some_iff.1 hj).1
    rwa [flatL_length] at this
  rcases h4 with h0 | ⟨b, off, ha, hm⟩
  · omega
  · cases ha
    rw [show (⟨b, off, none⟩ : Addr).add j = ⟨b, off + j, none⟩ from Addr.add_lit _ _ _]
    have e : j = j / 4 * 4 + j % 4 := by omega
    rw [e, flatL_get is (j / 4) (j % 4) (by omega) (by omega)] at hj
    obtain ⟨_, m0, m1, m2, m3⟩ := hm (j / 4) (by omega)
    rw [e, ← Nat.add_assoc]
    rcases (by omega : j % 4 = 0 ∨ j % 4 = 1 ∨ j % 4 = 2 ∨ j % 4 = 3) with g | g | g | g
    all_goals (rw [g] at hj ⊢; simp [Lk.cells] at hj; subst hj; assumption)
theorem Mgs.cells {w : World} {ad : Addr} {len cap : Nat} {is : List M} (h : Mgs w (some ad) len cap is) (j : Nat) (u : Value) (hj : (flatM is)[j]? = some u) : w.cell? (ad.add j) = some u := by
  obtain ⟨h1, h2, h3, h4⟩ := h
  have hlt : j < is.length * 7 := by
    have := (List.getElem?_eq_some_iff.1 hj).1
    rwa [flatM_length] at this
  rcases h4 with h0 | ⟨b, off, ha, hm⟩
  · omega
  · cases ha
    rw [show (⟨b, off, none⟩ : Addr).add j = ⟨b, off + j, none⟩ from Addr.add_lit _ _ _]
    have e : j = j / 7 * 7 + j % 7 := by omega
    rw [e, flatM_get is (j / 7) (j % 7) (by omega) (by omega)] at hj
    obtain ⟨_, m0, m1, m2, m3, m4, m5, m6⟩ := hm (j / 7) (by omega)
    rw [e, ← Nat.add_assoc]
    rcases (by omega : j % 7 = 0 ∨ j % 7 = 1 ∨ j % 7 = 2 ∨ j % 7 = 3 ∨ j % 7 = 4 ∨ j % 7 = 5 ∨ j % 7 = 6) with g | g | g | g | g | g | g
    all_goals (rw [g] at hj ⊢; simp [M.cells] at hj; subst hj; assumption)

set_option maxHeartbeats 1000000 in
theorem cloneI_some (ad : Addr) (n c : Nat) (news : List Value) (w : World) (hl : news.length = n * 4) (hn : n ≤ maxLen) (hbig : n * 32 ≤ 140737488355328)
    (hc : ∀ j u, news[j]? = some u → w.cell? (ad.add j) = some u) (h1 : ∀ u ∈ news, u.oneCell' = true) :
    Calls Tryz.prog 24 #[.slice (some ad) n c] w fun e w' => ∃ v', e = .returned v' ∧ w'.ownsRow w.heap.size 62 4 v' n news ∧ Below w.heap.size w w' := by
  obtain ⟨i0, hi, hz0, hz1, hz2⟩ := info_parts infoIn
  have q22 : ∀ (w : World) (a : Option Addr) (n c n' c' : Nat), (binOp .eql 22 (.slice a n c) (.slice none n' c')).run Tryz.prog w = .ok (.bool a.isNone) w := fun w a n c n' c' => Lib.run_eql_slice_nil w _ _ a n c n' c' Tryz.underlying22
  have A : Aside (∀ j u, news[j]? = some u → w.cell? (ad.add j) = some u) := hc
  clear hc
  go_enter Tryz.func24, Tryz.ntmps24
  go_wp2_with (at_builtin; refine wpList_append_own _ rfl _ _ 22 rfl w.heap.size 62 i0 _ 4 32 Tryz.underlying22 hi hz0 hz1 hz2 rfl (by omega) _ _ _ rfl (World.ownsRow_made w #[] 0 (Nat.le_refl _) (Nat.zero_le _) (by simp)) ad n c news rfl ?qc1 ?qc2 ?qc3 ?qc4 ?qc5 ?qc6 ?_)
  case qc1 => exact hl
  case qc2 =>
    intro j u hj
    exact Lib.cell?_alloc_some _ (A.out j u hj)
  case qc3 => exact h1
  case qc4 => rw [Nat.zero_add]; exact hn
  case qc5 => rw [Nat.zero_add]; exact hbig
  case qc6 => simp
  intro v' w1 hown hgrow hnil
  go_wp2
  go_ret
  refine ⟨v', rfl, by simpa using hown, ?_⟩
  exact ((Below.refl _ w).alloc (Nat.le_refl _) _).grown hgrow (by simp) (by intro k hk; simp [Value.ownBlock] at hk; omega)
theorem cloneI_nil (n c : Nat) (w : World) : Calls Tryz.prog 24 #[.slice none n c] w fun e w' => e = .returned (.slice none 0 0) ∧ w' = w := by
  have q22 : ∀ (w : World) (a : Option Addr) (n c n' c' : Nat), (binOp .eql 22 (.slice a n c) (.slice none n' c')).run Tryz.prog w = .ok (.bool a.isNone) w := fun w a n c n' c' => Lib.run_eql_slice_nil w _ _ a n c n' c' Tryz.underlying22
  go_enter Tryz.func24, Tryz.ntmps24
  go_wp2
  go_ret
  exact ⟨rfl, rfl⟩

set_option maxHeartbeats 1000000 in
theorem cloneL_some (ad : Addr) (n c : Nat) (news : List Value) (w : World) (hl : news.length = n * 4) (hn : n ≤ maxLen) (hbig : n * 32 ≤ 140737488355328)
    (hc : ∀ j u, news[j]? = some u → w.cell? (ad.add j) = some u) (h1 : ∀ u ∈ news, u.oneCell' = true) :
    Calls Tryz.prog 25 #[.slice (some ad) n c] w fun e w' => ∃ v', e = .returned v' ∧ w'.ownsRow w.heap.size 65 4 v' n news ∧ Below w.heap.size w w' := by
  obtain ⟨i0, hi, hz0, hz1, hz2⟩ := info_parts infoLk
  have q22 : ∀ (w : World) (a : Option Addr) (n c n' c' : Nat), (binOp .eql 23 (.slice a n c) (.slice none n' c')).run Tryz.prog w = .ok (.bool a.isNone) w := fun w a n c n' c' => Lib.run_eql_slice_nil w _ _ a n c n' c' Tryz.underlying23
  have A : Aside (∀ j u, news[j]? = some u → w.cell? (ad.add j) = some u) := hc
  clear hc
  go_enter Tryz.func25, Tryz.ntmps25
  go_wp2_with (at_builtin; refine wpList_append_own _ rfl _ _ 23 rfl w.heap.size 65 i0 _ 4 32 Tryz.underlying23 hi hz0 hz1 hz2 rfl (by omega) _ _ _ rfl (World.ownsRow_made w #[] 0 (Nat.le_refl _) (Nat.zero_le _) (by simp)) ad n c news rfl ?qc1 ?qc2 ?qc3 ?qc4 ?qc5 ?qc6 ?_)
  case qc1 => exact hl
  case qc2 =>
    intro j u hj
    exact Lib.cell?_alloc_some _ (A.out j u hj)
  case qc3 => exact h1
  case qc4 => rw [Nat.zero_add]; exact hn
  case qc5 => rw [Nat.zero_add]; exact hbig
  case qc6 => simp
  intro v' w1 hown hgrow hnil
  go_wp2
  go_ret
  refine ⟨v', rfl, by simpa using hown, ?_⟩
  exact ((Below.refl _ w).alloc (Nat.le_refl _) _).grown hgrow (by simp) (by intro k hk; simp [Value.ownBlock] at hk; omega)
theorem cloneL_nil (n c : Nat) (w : World) : Calls Tryz.prog 25 #[.slice none n c] w fun e w' => e = .returned (.slice none 0 0) ∧ w' = w := by
  have q22 : ∀ (w : World) (a : Option Addr) (n c n' c' : Nat), (binOp .eql 23 (.slice a n c) (.slice none n' c')).run Tryz.prog w = .ok (.bool a.isNone) w := fun w a n c n' c' => Lib.run_eql_slice_nil w _ _ a n c n' c' Tryz.underlying23
  go_enter Tryz.func25, Tryz.ntmps25
  go_wp2
  go_ret
  exact ⟨rfl, rfl⟩

set_option maxHeartbeats 1000000 in
theorem cloneM_some (ad : Addr) (n c : Nat) (news : List Value) (w : World) (hl : news.length = n * 7) (hn : n ≤ maxLen) (hbig : n * 56 ≤ 140737488355328)
    (hc : ∀ j u, news[j]? = some u → w.cell? (ad.add j) = some u) (h1 : ∀ u ∈ news, u.oneCell' = true) :
    Calls Tryz.prog 47 #[.slice (some ad) n c] w fun e w' => ∃ v', e = .returned v' ∧ w'.ownsRow w.heap.size 42 7 v' n news ∧ Below w.heap.size w w' := by
  obtain ⟨i0, hi, hz0, hz1, hz2⟩ := info_parts infoMsg
  have q22 : ∀ (w : World) (a : Option Addr) (n c n' c' : Nat), (binOp .eql 37 (.slice a n c) (.slice none n' c')).run Tryz.prog w = .ok (.bool a.isNone) w := fun w a n c n' c' => Lib.run_eql_slice_nil w _ _ a n c n' c' Tryz.underlying37
  have A : Aside (∀ j u, news[j]? = some u → w.cell? (ad.add j) = some u) := hc
  clear hc
  go_enter Tryz.func47, Tryz.ntmps47
  go_wp2_with (at_builtin; refine wpList_append_own _ rfl _ _ 37 rfl w.heap.size 42 i0 _ 7 56 Tryz.underlying37 hi hz0 hz1 hz2 rfl (by omega) _ _ _ rfl (World.ownsRow_made w #[] 0 (Nat.le_refl _) (Nat.zero_le _) (by simp)) ad n c news rfl ?qc1 ?qc2 ?qc3 ?qc4 ?qc5 ?qc6 ?_)
  case qc1 => exact hl
  case qc2 =>
    intro j u hj
    exact Lib.cell?_alloc_some _ (A.out j u hj)
  case qc3 => exact h1
  case qc4 => rw [Nat.zero_add]; exact hn
  case qc5 => rw [Nat.zero_add]; exact hbig
  case qc6 => simp
  intro v' w1 hown hgrow hnil
  go_wp2
  go_ret
  refine ⟨v', rfl, by simpa using hown, ?_⟩
  exact ((Below.refl _ w).alloc (Nat.le_refl _) _).grown hgrow (by simp) (by intro k hk; simp [Value.ownBlock] at hk; omega)
theorem cloneM_nil (n c : Nat) (w : World) : Calls Tryz.prog 47 #[.slice none n c] w fun e w' => e = .returned (.slice none 0 0) ∧ w' = w := by
  have q22 : ∀ (w : World) (a : Option Addr) (n c n' c' : Nat), (binOp .eql 37 (.slice a n c) (.slice none n' c')).run Tryz.prog w = .ok (.bool a.isNone) w := fun w a n c n' c' => Lib.run_eql_slice_nil w _ _ a n c n' c' Tryz.underlying37
  go_enter Tryz.func47, Tryz.ntmps47
  go_wp2
  go_ret
  exact ⟨rfl, rfl⟩

theorem own_tag {w : World} {base : Nat} {e : TypeId} {sz n : Nat} {v : Value} {xs : List Value} (h : w.ownsRow base e sz v n xs) : TagV w e v := by
  intro k hk
  rcases h.2 with ⟨rfl, rfl⟩ | ⟨g, cap, cur, rfl, hb, hg, _⟩
  · cases hk
  · simp [Value.ownBlock] at hk
    subst hk
    exact ⟨cur, hg⟩
theorem own_new {w : World} {base : Nat} {e : TypeId} {sz n : Nat} {v : Value} {xs : List Value} (h : w.ownsRow base e sz v n xs) : ∃ a c, v = .slice a n c ∧ ∀ k, v.ownBlock = some k → base ≤ k := by
  rcases h.2 with ⟨rfl, rfl⟩ | ⟨g, cap, cur, rfl, hb, _⟩
  · exact ⟨none, 0, rfl, fun k hk => by cases hk⟩
  · exact ⟨_, cap, rfl, fun k hk => by simp [Value.ownBlock] at hk; omega⟩
def CloneQ (w w' : World) (v : Value) (R : World → Prop) : Prop := R w' ∧ Below w.heap.size w w' ∧ ∀ k, v.ownBlock = some k → w.heap.size ≤ k
theorem cloneIs_any {w : World} {a : Option Addr} {len cap : Nat} {is : List I} (h : Inss w a len cap is) (hs : len ≤ 16384) :
    Calls Tryz.prog 24 #[.slice a len cap] w fun e w' => ∃ a' c', e = .returned (.slice a' len c') ∧ Hid (CloneQ w w' (.slice a' len c') fun w' => Inss w' a' len c' is ∧ TagV w' 62 (.slice a' len c')) := by
  have hl : is.length = len := h.1
  cases a with
  | none =>
    obtain rfl : len = 0 := by
      rcases h.2.2.2.2 with h0 | ⟨b, off, ha, _⟩
      · exact h0
      · cases ha
    refine (cloneI_nil 0 cap w).mono ?_
    rintro e w' ⟨rfl, rfl⟩
    exact ⟨none, 0, rfl, ⟨⟨hl, Nat.le_refl _, by unfold maxLen; omega, h.2.2.2.1, .inl rfl⟩, fun k hk => by cases hk⟩, Below.refl _ _, fun k hk => by cases hk⟩
  | some ad =>
    refine (cloneI_some ad len cap (flatI is) w (by rw [flatI_length, hl]) (by unfold maxLen; omega) (by omega) (fun j u hj => h.cells j u hj) (flatI_one is)).mono ?_
    rintro e w' ⟨v', rfl, ho, hb⟩
    obtain ⟨a', c', rfl, hk⟩ := own_new ho
    obtain ⟨a2, c2, e2, hI⟩ := inss_of_own ho h.2.2.2.1
    cases e2
    exact ⟨a', c', rfl, ⟨hI, own_tag ho⟩, hb, hk⟩
theorem cloneLs_any {w : World} {a : Option Addr} {len cap : Nat} {is : List Lk} (h : Lks w a len cap is) (hs : len ≤ 16384) :
    Calls Tryz.prog 25 #[.slice a len cap] w fun e w' => ∃ a' c', e = .returned (.slice a' len c') ∧ Hid (CloneQ w w' (.slice a' len c') fun w' => Lks w' a' len c' is ∧ TagV w' 65 (.slice a' len c')) := by
  have hl : is.length = len := h.1
  cases a with
  | none =>
    obtain rfl : len = 0 := by
      rcases h.2.2.2 with h0 | ⟨b, off, ha, _⟩
      · exact h0
      · cases ha
    refine (cloneL_nil 0 cap w).mono ?_
    rintro e w' ⟨rfl, rfl⟩
    exact ⟨none, 0, rfl, ⟨⟨hl, Nat.le_refl _, by unfold maxLen; omega, .inl rfl⟩, fun k hk => by cases hk⟩, Below.refl _ _, fun k hk => by cases hk⟩
  | some ad =>
    refine (cloneL_some ad len cap (flatL is) w (by rw [flatL_length, hl]) (by unfold maxLen; omega) (by omega) (fun j u hj => h.cells j u hj) (flatL_ones is)).mono ?_
    rintro e w' ⟨v', rfl, ho, hb⟩
    obtain ⟨a', c', rfl, hk⟩ := own_new ho
    exact ⟨a', c', rfl, ⟨lks_of_own ho, own_tag ho⟩, hb, hk⟩
theorem cloneMs_any {w : World} {a : Option Addr} {len cap : Nat} {is : List M} (h : Mgs w a len cap is) (hs : len ≤ 16384) :
    Calls Tryz.prog 47 #[.slice a len cap] w fun e w' => ∃ a' c', e = .returned (.slice a' len c') ∧ Hid (CloneQ w w' (.slice a' len c') fun w' => Mgs w' a' len c' is ∧ TagV w' 42 (.slice a' len c')) := by
  have hl : is.length = len := h.1
  cases a with
  | none =>
    obtain rfl : len = 0 := by
      rcases h.2.2.2 with h0 | ⟨b, off, ha, _⟩
      · exact h0
      · cases ha
    refine (cloneM_nil 0 cap w).mono ?_
    rintro e w' ⟨rfl, rfl⟩
    exact ⟨none, 0, rfl, ⟨⟨hl, Nat.le_refl _, by unfold maxLen; omega, .inl rfl⟩, fun k hk => by cases hk⟩, Below.refl _ _, fun k hk => by cases hk⟩
  | some ad =>
    refine (cloneM_some ad len cap (flatM is) w (by rw [flatM_length, hl]) (by unfold maxLen; omega) (by omega) (fun j u hj => h.cells j u hj) (flatM_ones is)).mono ?_
    rintro e w' ⟨v', rfl, ho, hb⟩
    obtain ⟨a', c', rfl, hk⟩ := own_new ho
    exact ⟨a', c', rfl, ⟨mgs_of_own ho, own_tag ho⟩, hb, hk⟩
end Go.Proofs.YtminfmjgmmkaoaaGreatDoor
