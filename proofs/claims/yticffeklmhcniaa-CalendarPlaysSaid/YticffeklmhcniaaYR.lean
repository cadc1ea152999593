/-
  A calendar: taking one out.
-/
import Derived.Test.YticffeklmhcniaaYQ
namespace Go.Proofs.Yticffeklmhcniaa
open Go.ChangeShapes Go.WideShapes Go.ChangeAt Go.Shelf Go.RowKit Go.Lib Go.Sort Go.Deep Go.Maps
set_option linter.unusedVariables false

theorem KeptOff.setc {S : Nat → Prop} {a b : World} (h : KeptOff S a b) (p : Addr) (u : Value) (hp : a.heap.size ≤ p.block) : KeptOff S a (b.setCell p u) := h.then_new (KeptOff.set b p u) (fun k hk e => by omega)
theorem KeptOff.dr {S : Nat → Prop} {a b : World} (h : KeptOff S a b) : KeptOff S a b.drew := ⟨h.os, h.tape, h.output, h.size, h.block⟩
theorem KeptOff.setr {S : Nat → Prop} {a b : World} (h : KeptOff S a b) (G : Nat) (cs : Array Value) (hp : a.heap.size ≤ G) : KeptOff S a (b.setRow G cs) := h.then_new (KeptOff.row b G cs) (fun k hk e => by omega)
theorem KeptOff.al {S : Nat → Prop} {a b : World} (h : KeptOff S a b) (o : Obj) : KeptOff S a (b.alloc o) := h.trans (.of_below ((Below.refl _ b).alloc (Nat.le_refl _) _))
/-- A message laid into a box, cell by cell. -/
theorem BoxM.lay {w : World} {G : Nat} {m0 : M} (h : BoxM w G m0) (x : M) : BoxM (World.setCell (World.setCell (World.setCell (World.setCell (World.setCell (World.setCell (World.setCell w ⟨G, 0, none⟩ (.int .i64 x.k.t)) ⟨G, 1, none⟩ (.int .i64 x.k.f)) ⟨G, 2, none⟩ (.int .i64 x.k.s)) ⟨G, 3, none⟩ (.int .i64 x.to)) ⟨G, 4, none⟩ (.int .i64 x.v)) ⟨G, 5, none⟩ (.int .i64 x.u)) ⟨G, 6, none⟩ (.bool x.anti)) G x := by
  unfold BoxM at h ⊢
  simp [World.setCell, Array.getElem?_modify, h, M.cells]

/-- A calendar whose days have one message less, its keys not yet. -/
def TakeMid (w : World) (hb db mb : Nat) (W : Int) (lb : Nat) (ov : Value) (ds : List Int) (L : Int → List M) (fv : Int → Value) (x : M) (B0 B : Nat) (w' : World) : Prop :=
  ∃ ov' ds' L' fv', CalRow w' hb db mb ∧ DaysOf w' db W lb ov' ds' L' fv' ∧ (x :: ds'.flatMap L').Perm (ds.flatMap L) ∧ KeysAt w' mb (ds.flatMap L) ∧ KeptOff (COwn hb db mb lb ov ds fv) w w' ∧ (∀ k, DOwn db lb ov' ds' fv' k → DOwn db lb ov ds fv k) ∧
    BoxM w' B zeroM ∧ w'.heap[B0]? = some (.cells #[.int .i64 x.k.f, .int .i64 x.u] 66 (0, 0))
section
variable {w w1 w2 : World} {hb db mb lb : Nat} {W : Int} {ov : Value} {ds : List Int} {L : Int → List M} {fv : Int → Value} {x : M} {B0 B G : Nat}
theorem TakeMid.new (h : CalOf w hb db mb W lb ov ds L fv) (hm : TakeMid w hb db mb W lb ov ds L fv x B0 B w1) {X : Nat → Prop} (hk : KeptOff X w1 w2) (hX : ∀ k, X k → w.heap.size + 2 ≤ k) (hB : B < w.heap.size + 2) (hB0 : B0 < w.heap.size + 2) : TakeMid w hb db mb W lb ov ds L fv x B0 B w2 := by
  obtain ⟨ov', ds', L', fv', h1, h2, h3, h4, h5, h6, h7, h8⟩ := hm
  have hn : ∀ k, k < w.heap.size + 2 → ¬ X k := fun k hk' e => by have := hX k e; omega
  have hlt := fun k (e : COwn hb db mb lb ov ds fv k) => h.own_lt e
  refine ⟨ov', ds', L', fv', (hk.block hb h1.lt (hn hb (by have := h.row.lt; omega))).trans h1, h2.kept hk (fun k e => hn k (by have := hlt k (.inr (.inr (h6 k e))); omega)), h3, h4.kept hk (hn mb (by have := h.keys.lt; omega)), h5.then_new hk (fun k hk' e => by have := hX k e; omega), h6, h7.kept hk (hn B hB), (hk.block B0 (Array.getElem?_eq_some_iff.1 h8).1 (hn B0 hB0)).trans h8⟩
/-- Behind the cut of the days. -/
theorem take_mid (h : CalOf w hb db mb W lb ov ds L fv) (hb1 : Below w.heap.size w w1) (hc : CutRes w1 db W lb ov ds L fv x w2) (h1 : CalOf w1 hb db mb W lb ov ds L fv) (hB : BoxM w1 B zeroM) (hB0 : w1.heap[B0]? = some (.cells #[.int .i64 x.k.f, .int .i64 x.u] 66 (0, 0))) (hBw : w.heap.size ≤ B) (hB0w : w.heap.size ≤ B0) :
    TakeMid w hb db mb W lb ov ds L fv x B0 B w2 ∧ KeptOff (DOwn db lb ov ds fv) w1 w2 := by
  obtain ⟨ov', ds', L', fv', hD, hp, hk, ho⟩ := hc
  have hnew : ∀ k, w.heap.size ≤ k → ¬ DOwn db lb ov ds fv k := fun k hk' e => by have := h.own_lt (.inr (.inr e)); omega
  refine ⟨⟨ov', ds', L', fv', (hk.block hb h1.row.lt (fun e => (h.off e).1 rfl)).trans h1.row, hD, hp, h1.keys.kept hk (fun e => (h.off e).2 rfl), (KeptOff.of_below hb1).trans (hk.mono (fun k _ e => .inr (.inr e))), ho, hB.kept hk (hnew B hBw), (hk.block B0 (Array.getElem?_eq_some_iff.1 hB0).1 (hnew B0 hB0w)).trans hB0⟩, hk⟩
/-- Behind the delete of the key, and the result's store. -/
theorem take_end (h : CalOf w hb db mb W lb ov ds L fv) {S : Nat → Prop} (hS : ∀ k, COwn hb db mb lb ov ds fv k → S k) (hSl : ∀ k, S k → k < w.heap.size) (hm : TakeMid w hb db mb W lb ov ds L fv x B0 B w1) (hk2 : KeptOff (fun k => k = mb) w1 w2) (hB : B ≠ mb) :
    BoxM w2 B zeroM ∧ ∀ T', (x :: T').Perm (ds.flatMap L) → KeysAt w2 mb T' → (∀ T'', (x :: T'').Perm (ds.flatMap L) → InOrder ltM T'' → T' = T'') → w.heap.size ≤ B → CalAt (w2.setRow B x.cells) hb S T' ∧ CStep w (w2.setRow B x.cells) S S := by
  obtain ⟨ov', ds', L', fv', h1, h2, h3, h4, h5, h6, h7, h8⟩ := hm
  refine ⟨h7.kept hk2 hB, fun T' hp hK huq hBw => ?_⟩
  have k3 := KeptOff.row w2 B x.cells
  have hmb : ∀ k, DOwn db lb ov' ds' fv' k → k ≠ mb := fun k e => (h.off (h6 k e)).2
  have hD2 := (h2.kept hk2 hmb).kept k3 (fun k e e2 => by have := h.own_lt (.inr (.inr (h6 k e))); omega)
  have e : T' = ds'.flatMap L' := huq _ h3 (days_order h2.width h2.days)
  subst e
  have hsz := h5.size
  have hl := fun k (e : S k) => hSl k e
  refine ⟨⟨db, mb, W, lb, ov', ds', L', fv', ⟨?_, hD2, hK.kept k3 (Ne.symm hB), h.apart⟩, rfl, ?_, ?_⟩, ?_, fun k e => .inl e⟩
  · exact ((k3.block hb (Nat.lt_of_lt_of_le h1.lt hk2.size) (fun e => by have := h.row.lt; omega)).trans (hk2.block hb h1.lt h.hb_mb)).trans h1
  · rintro k (e | e | e)
    · exact hS k (.inl e)
    · exact hS k (.inr (.inl e))
    · exact hS k (.inr (.inr (h6 k e)))
  · intro k e
    have := hl k e
    exact Nat.lt_of_lt_of_le (Nat.lt_of_lt_of_le (Nat.lt_of_lt_of_le this hsz) hk2.size) k3.size
  · exact ((h5.mono (fun k _ e => hS k e)).trans (hk2.mono (fun k _ e => hS k (.inr (.inl e))))).then_new k3 (fun k hk e => by omega)
end
end Go.Proofs.Yticffeklmhcniaa
