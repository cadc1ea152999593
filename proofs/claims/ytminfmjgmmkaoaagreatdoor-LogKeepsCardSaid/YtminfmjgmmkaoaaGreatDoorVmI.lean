/-
  Slices of instructions that a call has made itself; slices of bytes that come in (the same as at stage 3).
-/
import Derived.Test.YtminfmjgmmkaoaaGreatDoorVmE
import Derived.Laws.AppendOwnNone
namespace Go.Proofs.YtminfmjgmmkaoaaGreatDoor
open Go.ChangeShapes Go.WideShapes Go.ChangeAt Go.RowKit Go.Sort Go.Deep
set_option linter.unusedVariables false

/-- A slice value reads as the bytes bs. -/
def Byts (w : World) (a : Option Addr) (len cap : Nat) (bs : List Int) : Prop :=
  bs.length = len ∧ len ≤ cap ∧ cap ≤ maxLen ∧ (∀ x ∈ bs, 0 ≤ x ∧ x ≤ 255) ∧ (len = 0 ∨ ∃ b off, a = some ⟨b, off, none⟩ ∧ b < w.heap.size ∧ ∀ k, k < len → w.cell? ⟨b, off + k, none⟩ = some (.int .u8 (bs.getD k 0)))
theorem Byts.below {w w' : World} {a : Option Addr} {len cap : Nat} {bs : List Int} (h : Byts w a len cap bs) (hb : Below w.heap.size w w') : Byts w' a len cap bs := by
  obtain ⟨h1, h2, h3, hf, h4⟩ := h
  refine ⟨h1, h2, h3, hf, h4.imp id ?_⟩
  rintro ⟨b, off, ha, hlt, hm⟩
  exact ⟨b, off, ha, Nat.lt_of_lt_of_le hlt hb.size, fun k hk => by rw [hb.cell hlt]; exact hm k hk⟩
theorem Byts.read {w w' : World} {a : Option Addr} {len cap : Nat} {bs : List Int} (h : Byts w a len cap bs) (hr : Read w w') : Byts w' a len cap bs := h.below hr.below
theorem infoIn : (Tryz.prog.info? 62).map (fun i => (i.zero, i.size, i.bytes)) = some (some (.agg #[.int .i64 0, .int .i64 0, .int .i64 0, .int .i64 0]), 4, 32) := by kernel_rfl
def cellsOfI (i : I) : List Value := [.int .i64 i.op, .int .i64 i.a, .int .i64 i.b, .int .i64 i.c]
/-- The cells of instructions, one behind the other. -/
def flatI (is : List I) : List Value := is.flatMap cellsOfI
theorem flatI_length (is : List I) : (flatI is).length = is.length * 4 := by
  induction is with
  | nil => rfl
  | cons m ms ih => unfold flatI at *; rw [List.flatMap_cons, List.length_append, ih, List.length_cons]; simp [cellsOfI]; omega
theorem flatI_one (is : List I) : ∀ u ∈ flatI is, u.oneCell' = true := by
  intro u hu
  unfold flatI at hu
  obtain ⟨m, _, hm⟩ := List.mem_flatMap.1 hu
  simp only [cellsOfI, List.mem_cons, List.not_mem_nil, or_false] at hm
  rcases hm with rfl | rfl | rfl | rfl <;> rfl
theorem flatI_get : ∀ (is : List I) (i c : Nat), i < is.length → c < 4 → (flatI is)[i * 4 + c]? = (cellsOfI (is.getD i default))[c]?
  | [], i, c, h, _ => by simp at h
  | m :: ms, 0, c, _, hc => by
    unfold flatI
    rw [List.flatMap_cons, Nat.zero_mul, Nat.zero_add, List.getElem?_append_left (by simp [cellsOfI]; exact hc)]
    rfl
  | m :: ms, i + 1, c, h, hc => by
    have ih := flatI_get ms i c (by simpa using h) hc
    unfold flatI at *
    rw [List.flatMap_cons, List.getElem?_append_right (by simp [cellsOfI]; omega), show (i + 1) * 4 + c - (cellsOfI m).length = i * 4 + c by simp [cellsOfI]; omega, ih]
    rfl
theorem InsAt.cell {w : World} {b o : Nat} {m : I} (h : InsAt w b o m) (c : Nat) (u : Value) (hc : (cellsOfI m)[c]? = some u) : w.cell? ⟨b, o + c, none⟩ = some u := by
  obtain ⟨_, h0, h1, h2, h3⟩ := h
  have hlt : c < 4 := (List.getElem?_eq_some_iff.1 hc).1
  rcases (by omega : c = 0 ∨ c = 1 ∨ c = 2 ∨ c = 3) with rfl | rfl | rfl | rfl
  all_goals (simp [cellsOfI] at hc; subst hc; first | exact h0 | exact h1 | exact h2 | exact h3)
theorem Inss.cells {w : World} {ad : Addr} {len cap : Nat} {is : List I} (h : Inss w (some ad) len cap is) (j : Nat) (u : Value) (hj : (flatI is)[j]? = some u) : w.cell? (ad.add j) = some u := by
  obtain ⟨h1, h2, h3, hf, h4⟩ := h
  have hlt : j < is.length * 4 := by
    have := (List.getElem?_eq_some_iff.1 hj).1
    rwa [flatI_length] at this
  rcases h4 with h0 | ⟨b, off, ha, hm⟩
  · omega
  · cases ha
    rw [show (⟨b, off, none⟩ : Addr).add j = ⟨b, off + j, none⟩ from add_plain _ _ _]
    have e : j = j / 4 * 4 + j % 4 := by omega
    rw [e, flatI_get is (j / 4) (j % 4) (by omega) (by omega)] at hj
    have := (hm (j / 4) (by omega)).cell (j % 4) u hj
    rwa [Nat.add_assoc, ← e] at this
theorem insAt_of_block {w : World} {g n : Nat} {cur : Array Value} {e : TypeId} {is : List I} (hg : w.heap[g]? = some (.cells cur e (0, 0))) (hn : is.length = n) (ht : cur.toList.take (n * 4) = flatI is) (k : Nat) (hk : k < n) : InsAt w g (k * 4) (is.getD k default) := by
  have hc : ∀ c, c < 4 → w.cell? ⟨g, k * 4 + c, none⟩ = (cellsOfI (is.getD k default))[c]? := fun c hc => by
    have : w.cell? ⟨g, k * 4 + c, none⟩ = cur[k * 4 + c]? := by simp [World.cell?, hg]
    rw [this, ← flatI_get is k c (by omega) hc, ← ht, List.getElem?_take_of_lt (by omega), Array.getElem?_toList]
  exact ⟨(Array.getElem?_eq_some_iff.1 hg).1, hc 0 (by omega), hc 1 (by omega), hc 2 (by omega), hc 3 (by omega)⟩
theorem inss_of_own {w : World} {base : Nat} {v : Value} {n : Nat} {is : List I} (h : w.ownsRow base 62 4 v n (flatI is)) (hf : ∀ i ∈ is, i.fits) : ∃ a cap, v = .slice a n cap ∧ Inss w a n cap is := by
  obtain ⟨hl, hv⟩ := h
  rw [flatI_length] at hl
  have hl' : is.length = n := by omega
  rcases hv with ⟨rfl, rfl⟩ | ⟨g, cap, cur, rfl, _, hg, hn, hm, hs, ht⟩
  · exact ⟨none, 0, rfl, hl', Nat.le_refl _, by unfold maxLen; omega, hf, .inl rfl⟩
  · refine ⟨some ⟨g, 0, none⟩, cap, rfl, hl', hn, hm, hf, .inr ⟨g, 0, rfl, fun k hk => ?_⟩⟩
    have := insAt_of_block hg hl' ht k hk
    rwa [Nat.zero_add]

section
variable {H : Type} {enc : TypeId × Value → H} {w : World} {base : Nat} {spare : Nat → Bool} {held : Bool}
/-- A slice that came in: where it has no array, it has no room. -/
def NilP (a : Option Addr) (len cap : Nat) : Prop := a = none → len = 0 ∧ cap = 0
theorem openNil {t e : TypeId} {fuel : Nat} {a : Option Addr} {len cap : Nat} {x : DataW H × List MemPlace} (ht : Tryz.prog.underlying t = some (.slice e)) (h : DataW.trod enc Tryz.prog w base spare held fuel t [.slice a len cap] = some x) : NilP a len cap := by
  intro ha
  rcases open_slice ht h with ⟨hcs, _⟩ | ⟨y, l, c, m, n, D, Pl, hcs, _⟩
  · simp at hcs
    exact ⟨hcs.2.1, hcs.2.2⟩
  · simp at hcs
    rw [hcs.1] at ha
    cases ha
theorem wf_u8 {n : Int} (h : (Lit.int .u8 n).wf = true) : 0 ≤ n ∧ n ≤ 255 := by
  simp [Lit.wf] at h
  exact h
theorem openBs {fuel : Nat} {a : Option Addr} {len cap : Nat} {x : DataW H × List MemPlace} (h : DataW.trod enc Tryz.prog w base spare held fuel 27 [.slice a len cap] = some x) (hlt : ∀ y ∈ x.2, y.block < w.heap.size) :
    ∃ bs : List Int, Byts w a len cap bs := by
  rcases open_slice Tryz.underlying27 h with ⟨hcs, _⟩ | ⟨y, l, c, m, n, D, Pl, hcs, _, hl, hm, hmm, hx, hi⟩
  · simp at hcs
    obtain ⟨rfl, rfl, rfl⟩ := hcs
    exact ⟨[], rfl, by omega, by unfold maxLen; omega, by simp, .inl rfl⟩
  · simp at hcs
    obtain ⟨rfl, rfl, rfl⟩ := hcs
    have hml : len ≤ m := by rw [hmm]; split <;> omega
    have cellsU8 : Tryz.prog.cellsOf 5 = 1 := by kernel_rfl
    have hM : ∀ i, i < len → ∃ mm : Int, (0 ≤ mm ∧ mm ≤ 255) ∧ w.cell? (y.add i) = some (.int .u8 mm) := by
      intro i hilt
      obtain ⟨cs', hc, ht⟩ := hi i (by omega)
      rw [cellsU8, Nat.mul_one] at hc
      obtain ⟨mm, rfl, _, wm⟩ := DataW.trod_int Tryz.underlying5 ht
      obtain ⟨_, _, hat⟩ := World.cells?_some hc
      have := hat 0 (by omega)
      exact ⟨mm, wf_u8 wm, by simpa [Addr.add] using this⟩
    refine ⟨(List.range len).map fun i => if hilt : i < len then (hM i hilt).choose else default, by simp, hl, hm, ?_, ?_⟩
    · intro mm hmem
      simp only [List.mem_map, List.mem_range] at hmem
      obtain ⟨i, hilt, rfl⟩ := hmem
      rw [dif_pos hilt]
      exact (hM i hilt).choose_spec.1
    · by_cases h0 : len = 0
      · exact .inl h0
      · obtain ⟨b, off, spot⟩ := y
        have hspot : spot = none := by
          have := (hM 0 (by omega)).choose_spec.2
          simpa [Addr.add] using World.cell?_spot this
        subst hspot
        have hbW : b < w.heap.size := by
          refine hlt (.cell b off) ?_
          rw [hx, cellsU8]
          exact List.mem_append_left _ (MemPlace.mem_row.2 ⟨0, by omega, by simp⟩)
        refine .inr ⟨b, off, rfl, hbW, fun i hilt => ?_⟩
        have hc := (hM i hilt).choose_spec.2
        have hg : ((List.range len).map fun i => if hilt : i < len then (hM i hilt).choose else default).getD i 0 = (hM i hilt).choose := by
          simp [List.getD_eq_getElem?_getD, hilt]
        rw [hg]
        simpa only [add_plain] using hc
theorem openBs_len {ts : List TypeId} {ds : List (DataW H)} (h : (DataW.weightsEach Tryz.prog ts ds).all (· ≤ reachBytes) = true) {j : Nat} {d : DataW H} {a : Option Addr} {len cap : Nat} {p : List MemPlace} (ht : ts[j]? = some 27) (hd : ds[j]? = some d)
    (hk : DataW.Trod enc Tryz.prog w base spare held 27 (.slice a len cap) d p) : len ≤ 140737488351232 := by
  have bytesU8 : Tryz.prog.bytesOf 5 = 1 := by kernel_rfl
  obtain ⟨fuel, hf⟩ := hk
  simp [Value.cells] at hf
  rcases open_slice Tryz.underlying27 hf with ⟨hcs, _⟩ | ⟨y, l, c, m, n, D, Pl, hcs, _, hl, hm, hmm, hx, hi⟩
  · simp at hcs
    omega
  · simp at hcs
    obtain ⟨rfl, rfl, rfl⟩ := hcs
    simp only [Prod.mk.injEq] at hx
    have := sized_slice h ht (hd.trans (by rw [hx.1])) Tryz.underlying27
    rw [bytesU8] at this
    simp only [List.length_map, List.length_range, reachBytes] at this
    omega
end

end Go.Proofs.YtminfmjgmmkaoaaGreatDoor
