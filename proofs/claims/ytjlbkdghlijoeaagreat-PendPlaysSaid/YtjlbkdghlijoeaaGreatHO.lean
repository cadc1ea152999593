/-
  The law that what is put into a queue is popped in order, each once.
-/
import Derived.Test.YtjlbkdghlijoeaaGreatYP
import Derived.Test.YtjlbkdghlijoeaaGreatHLZ
import Derived.Test.YtjlbkdghlijoeaaGreatSortedC
import Derived.Lib.MinMax
namespace Go.Proofs.YtjlbkdghlijoeaaGreat
open Go.ChangeShapes Go.WideShapes Go.ChangeAt Go.Shelf Go.RowKit Go.Lib Go.Sort Go.Deep Go.Maps
set_option linter.unusedVariables false

theorem Msgs.kept {S : Nat → Prop} {w w' : World} {a : Option Addr} {len cap : Nat} {ms : List M} (h : Msgs w a len cap ms) (hk : KeptOff S w w') (hn : len = 0 ∨ ∃ b off, a = some ⟨b, off, none⟩ ∧ ¬ S b) : Msgs w' a len cap ms := by
  obtain ⟨h1, h2, h3, hf, h4⟩ := h
  refine ⟨h1, h2, h3, hf, ?_⟩
  rcases h4 with h0 | ⟨b, off, rfl, hm⟩
  · exact .inl h0
  · rcases hn with h0 | ⟨b', off', e, hb⟩
    · exact .inl h0
    · cases e
      refine .inr ⟨b, off, rfl, fun i hi => ?_⟩
      obtain ⟨hlt, c0, c1, c2, c3, c4, c5, c6⟩ := hm i hi
      have hc : ∀ {c : Nat} {v : Value}, w.cell? ⟨b, c, none⟩ = some v → w'.cell? ⟨b, c, none⟩ = some v := fun h => (World.cell?_of_block (hk.block b hlt hb)).trans h
      exact ⟨Nat.lt_of_lt_of_le hlt hk.size, hc c0, hc c1, hc c2, hc c3, hc c4, hc c5, hc c6⟩

/-- The k-th message with a number of its own. -/
def nthU (ms : List M) (k : Nat) : M := { ms.getD k default with u := (k : Int) }
def inU (ms : List M) (k : Nat) : List M := (List.range k).map (nthU ms)
theorem inU_succ (ms : List M) (k : Nat) : inU ms (k + 1) = inU ms k ++ [nthU ms k] := by simp [inU, List.range_succ]
theorem inU_length (ms : List M) (k : Nat) : (inU ms k).length = k := by simp [inU]
theorem inU_mem {ms : List M} {k : Nat} {m : M} (h : m ∈ inU ms k) : ∃ i, i < k ∧ m = nthU ms i := by
  simp only [inU, List.mem_map, List.mem_range] at h
  obtain ⟨i, hi, rfl⟩ := h
  exact ⟨i, hi, rfl⟩
theorem inU_new (ms : List M) (k : Nat) (f : Int) : hasS (stab ltM (inU ms k)) f (k : Int) = false := by
  rw [hasS_perm (stab_perm _)]
  cases h : hasS (inU ms k) f (k : Int) with
  | false => rfl
  | true =>
    obtain ⟨m, hm, _, hu⟩ := hasS_iff.1 h
    obtain ⟨i, hi, rfl⟩ := inU_mem hm
    simp [nthU] at hu
    omega
theorem nthU_fits {ms : List M} (hf : ∀ m ∈ ms, m.fits) (k : Nat) (hk : k < ms.length) (h5 : k < 500) : (nthU ms k).fits := by
  have hm : (ms.getD k default).fits := hf _ (by rw [List.getD_eq_getElem?_getD, List.getElem?_eq_getElem hk]; exact List.getElem_mem hk)
  refine ⟨hm.1, hm.2.1, hm.2.2.1, ?_⟩
  show (Lit.int .i64 (k : Int)).wf = true
  exact WalkArith.wf_i64 (by omega)
theorem inU_fits {ms : List M} (hf : ∀ m ∈ ms, m.fits) (k : Nat) (hk : k ≤ ms.length) (h5 : k ≤ 500) : ∀ m ∈ inU ms k, m.fits := by
  intro m hm
  obtain ⟨i, hi, rfl⟩ := inU_mem hm
  exact nthU_fits hf i (by omega) (by omega)
/-- What stands behind k rounds of the filling loop. -/
def Filled (w wr : World) (ms : List M) (k : Nat) (inv : Value) : Prop :=
  ∃ v, QAt wr (w.heap.size + 3) (w.heap.size + 2) w.heap.size (w.heap.size + 1) k v (stab ltM (inU ms k)) ∧ wr.ownsRow (w.heap.size + 3) 34 7 inv k (flat (inU ms k)) ∧ (∀ g, v.ownBlock = some g → inv.ownBlock ≠ some g) ∧ Below w.heap.size w wr
/-- One more is appended and pushed. -/
theorem filled_step {w wr : World} {ms : List M} {k : Nat} {inv : Value} (h : Filled w wr ms k inv) (hf : (nthU ms k).fits) (hk : k < 500) :
    ∀ w3 inv' Bx, BoxM w3 Bx (nthU ms k) → KeptOff (fun x => inv.ownBlock = some x) wr w3 → w3.ownsRow (w.heap.size + 3) 34 7 inv' (k + 1) (flat (inU ms k) ++ flat [nthU ms k]) → (inv'.ownBlock = inv.ownBlock ∨ ∃ g, inv'.ownBlock = some g ∧ wr.heap.size ≤ g) → wr.heap.size ≤ Bx → inv'.ownBlock ≠ some Bx →
      Calls Tryz.prog 67 #[.pointer (some ⟨w.heap.size + 2, 0, none⟩), (nthU ms k).val] w3 fun e w' => e = .returned (.int .i64 0) ∧ Filled w w' ms (k + 1) inv' := by
  obtain ⟨v, hQ, hI, hd, hB⟩ := h
  intro w3 inv' Bx hb hk3 ho hl hBx hBn
  have hrl := hI.lt
  have hQ3 := hQ.kept hk3 (fun e => by have := (hrl _ e).1; omega) (fun e => by have := (hrl _ e).1; omega) (fun e => by have := (hrl _ e).1; omega) (fun x hx e => hd x hx e)
  obtain ⟨l, hl3, hlp⟩ := hQ3.t
  have hvl : ∀ g, v.ownBlock = some g → w.heap.size + 3 ≤ g ∧ g < wr.heap.size := by
    obtain ⟨l0, hl0, _⟩ := hQ.t
    exact fun g hg => hl0.own.lt g hg
  have hnew := inU_new ms k (nthU ms k).k.f
  refine (hPush_takesH hQ3 (nthU ms k) hf hnew (by rw [stab_length, inU_length]; omega) (by unfold maxLen; omega)).mono ?_
  rintro e w' ⟨he, v', hQ', hst, hrf⟩
  have hne : ∀ g, v.ownBlock = some g → inv'.ownBlock ≠ some g := by
    intro g hg e
    rcases hl with e2 | ⟨g2, e2, hg2⟩
    · exact hd g hg (e2 ▸ e)
    · have := (hvl g hg).2
      rw [e] at e2
      cases e2
      omega
  refine ⟨he, v', ?_, ?_, ?_, ?_⟩
  · rw [inU_succ, stab_snoc]
    exact hQ'
  · rw [inU_succ, flat_append]
    refine own_kept ho hst (fun x hx e => ?_)
    have hxb := (ho.lt x hx).1
    rcases e with e | e | e
    · omega
    · omega
    · exact hne x e hx
  · intro g hg e
    rcases hrf g hg with e2 | e2
    · exact hne g e2 e
    · have := (ho.lt g e).2
      omega
  · refine hB.trans ((hk3.below (fun x _ e => by have := (hrl x e).1; omega) hB.size).trans (hst.below (fun x _ e => ?_) (Nat.le_trans hB.size hk3.size)))
    rcases e with e | e | e
    · omega
    · omega
    · have := (hvl x e).1; omega
/-- What stands behind k rounds of the emptying loop. -/
def Emptied (w wr : World) (T : List M) (k nn : Nat) (a : Option Addr) (len cap : Nat) : Prop :=
  ∃ v, QAt wr (w.heap.size + 3) (w.heap.size + 2) w.heap.size (w.heap.size + 1) nn v (T.drop k) ∧ Msgs wr a len cap T ∧ (∀ g, v.ownBlock = some g → len = 0 ∨ ∃ b, a = some ⟨b, 0, none⟩ ∧ b ≠ g) ∧ (len = 0 ∨ ∃ b, a = some ⟨b, 0, none⟩ ∧ w.heap.size + 3 ≤ b) ∧ Below w.heap.size w wr
theorem emptied_step {w wr : World} {T : List M} {k nn : Nat} {a : Option Addr} {len cap : Nat} (h : Emptied w wr T k nn a len cap) (hk : k < T.length) :
    Calls Tryz.prog 66 #[.pointer (some ⟨w.heap.size + 2, 0, none⟩)] wr fun e w' => e = .returned (.tuple #[(T.getD k default).val, .int .i64 0]) ∧ Emptied w w' T (k + 1) nn a len cap := by
  obtain ⟨v, hQ, hM, hd, ha, hB⟩ := h
  have e1 : T.drop k = T.getD k default :: T.drop (k + 1) := by
    rw [List.drop_eq_getElem_cons hk]
    simp [List.getD_eq_getElem?_getD, hk]
  rw [e1] at hQ
  have hvl : ∀ g, v.ownBlock = some g → w.heap.size + 3 ≤ g ∧ g < wr.heap.size := by
    obtain ⟨l0, hl0, _⟩ := hQ.t
    exact fun g hg => hl0.own.lt g hg
  refine (hPop_someH hQ).mono ?_
  rintro e w' ⟨he, v', hQ', hst, hrf⟩
  refine ⟨he, v', hQ', hM.kept hst ?_, ?_, ha, ?_⟩
  · rcases ha with h0 | ⟨b, hb, hb3⟩
    · exact .inl h0
    · refine .inr ⟨b, 0, hb, fun e => ?_⟩
      rcases e with e | e | e
      · omega
      · omega
      · rcases hd b e with h0 | ⟨b2, hb2, hne⟩
        · have := hM.1
          omega
        · rw [hb] at hb2
          cases hb2
          exact hne rfl
  · intro g hg
    rcases hrf g hg with e2 | e2
    · exact hd g e2
    · rcases ha with h0 | ⟨b, hb, hb3⟩
      · exact .inl h0
      · rcases hM.2.2.2.2 with h0 | ⟨b3, o3, e3, hm3⟩
        · exact .inl h0
        · rw [hb] at e3
          cases e3
          by_cases hl0 : len = 0
          · exact .inl hl0
          · have := (hm3 0 (by omega)).1
            exact .inr ⟨b, hb, by omega⟩
  · refine hB.trans (hst.below (fun x _ e => ?_) hB.size)
    rcases e with e | e | e
    · omega
    · omega
    · have := (hvl x e).1; omega

/-- How many are put in. -/
theorem min_len (n : Nat) : min (n : Int) 500 = ((min n 500 : Nat) : Int) := by omega

end Go.Proofs.YtjlbkdghlijoeaaGreat
