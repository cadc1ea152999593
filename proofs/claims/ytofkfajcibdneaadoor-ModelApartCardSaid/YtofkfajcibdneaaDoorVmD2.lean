
/-
  Links that can be read, worlds that can be read, and the contract of the document's own Check of a world.
-/
import Derived.Test.YtofkfajcibdneaaDoorVmD1
namespace Go.Proofs.YtofkfajcibdneaaDoor
open Go.ChangeShapes Go.WideShapes Go.ChangeAt Go.RowKit Go.Sort
set_option linter.unusedVariables false
set_option maxRecDepth 4000

/-- Where a link lies. -/
def LkAt (w : World) (b o : Nat) (l : Lk) : Prop :=
  b < w.heap.size ∧ w.cell? ⟨b, o, none⟩ = some (.int .i64 l.src) ∧ w.cell? ⟨b, o + 1, none⟩ = some (.int .i64 l.dst) ∧ w.cell? ⟨b, o + 2, none⟩ = some (.int .i64 l.look) ∧ w.cell? ⟨b, o + 3, none⟩ = some (.bool l.loose)
theorem LkAt.below {w w' : World} {b o : Nat} {i : Lk} (h : LkAt w b o i) (hb : Below w.heap.size w w') : LkAt w' b o i := by
  obtain ⟨hlt, h0, h1, h2, h3⟩ := h
  have hc : ∀ {c : Nat} {v : Value}, w.cell? ⟨b, c, none⟩ = some v → w'.cell? ⟨b, c, none⟩ = some v := fun h => by rw [hb.cell hlt]; exact h
  exact ⟨Nat.lt_of_lt_of_le hlt hb.size, hc h0, hc h1, hc h2, hc h3⟩
/-- A slice value reads as the links ls. -/
def Lks (w : World) (a : Option Addr) (len cap : Nat) (ls : List Lk) : Prop :=
  ls.length = len ∧ len ≤ cap ∧ cap ≤ maxLen ∧ (len = 0 ∨ ∃ b off, a = some ⟨b, off, none⟩ ∧ ∀ k, k < len → LkAt w b (off + k * 4) (ls.getD k default))
theorem Lks.below {w w' : World} {a : Option Addr} {len cap : Nat} {is : List Lk} (h : Lks w a len cap is) (hb : Below w.heap.size w w') : Lks w' a len cap is := by
  obtain ⟨h1, h2, h3, h4⟩ := h
  refine ⟨h1, h2, h3, h4.imp id ?_⟩
  rintro ⟨b, off, ha, hm⟩
  exact ⟨b, off, ha, fun i hi => (hm i hi).below hb⟩
/-- A world's four parts, as they lie. -/
structure Wv where
  pa : Option Addr
  pl : Nat
  pc : Nat
  la : Option Addr
  ll : Nat
  lc : Nat
  deriving Inhabited
def Wv.val (v : Wv) (W : Wd) : Value := .agg #[.slice v.pa v.pl v.pc, .int .i64 W.self, .slice v.la v.ll v.lc, .int .u64 W.seed]
def Wds (w : World) (v : Wv) (W : Wd) : Prop := Inss w v.pa v.pl v.pc W.prog ∧ Lks w v.la v.ll v.lc W.links ∧ W.seed < 18446744073709551616 ∧ (Lit.int .i64 W.self).wf = true
theorem Wds.below {w w' : World} {v : Wv} {W : Wd} (h : Wds w v W) (hb : Below w.heap.size w w') : Wds w' v W := ⟨h.1.below hb, h.2.1.below hb, h.2.2⟩
theorem checkW_prog {W : Wd} (h : ¬ checkN W.prog = 0) : checkW W = checkN W.prog := by simp [checkW, h]
theorem checkW_lane {W : Wd} (h : checkN W.prog = 0) (h' : ¬ (0 ≤ W.self ∧ W.self < 16) ∨ 1024 < W.links.length) : checkW W = 1 := by
  unfold checkW; rw [if_neg (by simp [h]), if_pos h']
theorem checkW_bad {W : Wd} (h : checkN W.prog = 0) (k : Nat) (hk : k < W.links.length) (hb : (W.links.getD k default).mayB = false) : checkW W = 1 := by
  have : W.links.all Lk.mayB = false := by
    rw [List.all_eq_false]
    refine ⟨W.links.getD k default, ?_, by rw [hb]; decide⟩
    simp only [List.getD_eq_getElem?_getD, List.getElem?_eq_getElem hk, Option.getD_some]
    exact List.getElem_mem hk
  unfold checkW
  rw [if_neg (by simp [h])]
  by_cases h' : ¬ (0 ≤ W.self ∧ W.self < 16) ∨ 1024 < W.links.length
  · rw [if_pos h']
  · rw [if_neg h', if_neg (by simp [this])]
theorem checkW_ok {W : Wd} (h : checkN W.prog = 0) (h' : 0 ≤ W.self ∧ W.self < 16) (h2 : W.links.length ≤ 1024) (ha : ∀ k, k < W.links.length → (W.links.getD k default).mayB = true) : checkW W = 0 := by
  have : W.links.all Lk.mayB = true := by
    rw [List.all_eq_true]
    intro i hi
    obtain ⟨k, hk, rfl⟩ := List.getElem_of_mem hi
    have := ha k hk
    simpa [List.getD_eq_getElem?_getD, List.getElem?_eq_getElem hk] using this
  unfold checkW
  rw [if_neg (by simp [h]), if_neg (by omega), if_pos this]
def LkUpto (ls : List Lk) (k : Nat) : Prop := ∀ j, j < k → (ls.getD j default).mayB = true
/-- What a new block holds is still there behind a function that only reads. -/
theorem Read.new {w w1 : World} {C : Array Value} {T : TypeId} (hr : Read (w.alloc (.cells C T)) w1) (k : Nat) {v : Value} (h : C[k]? = some v) : w1.cell? ⟨w.heap.size, k, none⟩ = some v :=
  hr.cell (by simp) (by rw [World.cell?_alloc_new]; exact h)
theorem Lk.mayB_eq (l : Lk) : l.mayB = decide (0 ≤ l.dst ∧ l.dst < 16 ∧ 1 ≤ l.look ∧ l.look ≤ 4611686018427387903) := rfl
end Go.Proofs.YtofkfajcibdneaaDoor
