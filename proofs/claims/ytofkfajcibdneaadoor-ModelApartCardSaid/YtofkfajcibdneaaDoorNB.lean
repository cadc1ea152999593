
/-
  A model as plain data, and where it lies: programs, links, starts.
-/
import Derived.Test.YtofkfajcibdneaaDoorVmD2
import Derived.Test.YtofkfajcibdneaaDoorNA
import Derived.LoopTactic
import Derived.Deep.RegionLaw
import Derived.Deep.DeepCutAuto
import Derived.Outline
import Derived.BigRegion
namespace Go.Proofs.YtofkfajcibdneaaDoor
open Go.ChangeShapes Go.WideShapes Go.ChangeAt Go.Shelf Go.RowKit Go.Lib Go.Sort Go.Deep
set_option linter.unusedVariables false
set_option maxRecDepth 4000

/-- A start: to whom, when, what. -/
structure Stt where
  dst : Int
  t : Int
  v : Int
  deriving DecidableEq, Inhabited
structure Md where
  progs : List (List I)
  links : List Lk
  starts : List Stt
  seed : Nat
  last : Int
  bud : Int
def SttAt (w : World) (b o : Nat) (s : Stt) : Prop := b < w.heap.size ∧ w.cell? ⟨b, o, none⟩ = some (.int .i64 s.dst) ∧ w.cell? ⟨b, o + 1, none⟩ = some (.int .i64 s.t) ∧ w.cell? ⟨b, o + 2, none⟩ = some (.int .i64 s.v)
theorem SttAt.below {w w' : World} {b o : Nat} {i : Stt} (h : SttAt w b o i) (hb : Below w.heap.size w w') : SttAt w' b o i := by
  obtain ⟨hlt, h0, h1, h2⟩ := h
  have hc : ∀ {c : Nat} {v : Value}, w.cell? ⟨b, c, none⟩ = some v → w'.cell? ⟨b, c, none⟩ = some v := fun h => by rw [hb.cell hlt]; exact h
  exact ⟨Nat.lt_of_lt_of_le hlt hb.size, hc h0, hc h1, hc h2⟩
/-- A slice value reads as these starts. -/
def Stts (w : World) (a : Option Addr) (len cap : Nat) (ss : List Stt) : Prop :=
  ss.length = len ∧ len ≤ cap ∧ cap ≤ maxLen ∧ (len = 0 ∨ ∃ b off, a = some ⟨b, off, none⟩ ∧ ∀ k, k < len → SttAt w b (off + k * 3) (ss.getD k default))
theorem Stts.below {w w' : World} {a : Option Addr} {len cap : Nat} {is : List Stt} (h : Stts w a len cap is) (hb : Below w.heap.size w w') : Stts w' a len cap is := by
  obtain ⟨h1, h2, h3, h4⟩ := h
  refine ⟨h1, h2, h3, h4.imp id ?_⟩
  rintro ⟨b, off, ha, hm⟩
  exact ⟨b, off, ha, fun i hi => (hm i hi).below hb⟩
/-- A program's slice lies there. -/
def PrAt (w : World) (b o : Nat) (a : Option Addr) (len cap : Nat) (is : List I) : Prop := b < w.heap.size ∧ w.cell? ⟨b, o, none⟩ = some (.slice a len cap) ∧ Inss w a len cap is
theorem PrAt.below {w w' : World} {b o : Nat} {a : Option Addr} {len cap : Nat} {is : List I} (h : PrAt w b o a len cap is) (hb : Below w.heap.size w w') : PrAt w' b o a len cap is :=
  ⟨Nat.lt_of_lt_of_le h.1 hb.size, by rw [hb.cell h.1]; exact h.2.1, h.2.2.below hb⟩
/-- A slice value reads as these programs. -/
def Prs (w : World) (a : Option Addr) (len cap : Nat) (ps : List (List I)) : Prop :=
  ps.length = len ∧ len ≤ cap ∧ cap ≤ maxLen ∧ (len = 0 ∨ ∃ b off, a = some ⟨b, off, none⟩ ∧ ∀ k, k < len → ∃ a' len' cap', PrAt w b (off + k) a' len' cap' (ps.getD k []))
theorem Prs.below {w w' : World} {a : Option Addr} {len cap : Nat} {ps : List (List I)} (h : Prs w a len cap ps) (hb : Below w.heap.size w w') : Prs w' a len cap ps := by
  obtain ⟨h1, h2, h3, h4⟩ := h
  refine ⟨h1, h2, h3, h4.imp id ?_⟩
  rintro ⟨b, off, ha, hm⟩
  exact ⟨b, off, ha, fun i hi => let ⟨a', l', c', h⟩ := hm i hi; ⟨a', l', c', h.below hb⟩⟩
/-- A model's six parts, as they lie. -/
structure Mv where
  pa : Option Addr
  pl : Nat
  pc : Nat
  la : Option Addr
  ll : Nat
  lc : Nat
  sa : Option Addr
  sl : Nat
  sc : Nat
def Mv.cells (v : Mv) (M : Md) : Array Value := #[.slice v.pa v.pl v.pc, .slice v.la v.ll v.lc, .slice v.sa v.sl v.sc, .int .u64 M.seed, .int .i64 M.last, .int .i64 M.bud]
def Mv.val (v : Mv) (M : Md) : Value := .agg (v.cells M)
def Mds (w : World) (v : Mv) (M : Md) : Prop := Prs w v.pa v.pl v.pc M.progs ∧ Lks w v.la v.ll v.lc M.links ∧ Stts w v.sa v.sl v.sc M.starts ∧ M.seed < 18446744073709551616
theorem Mds.below {w w' : World} {v : Mv} {M : Md} (h : Mds w v M) (hb : Below w.heap.size w w') : Mds w' v M := ⟨h.1.below hb, h.2.1.below hb, h.2.2.1.below hb, h.2.2.2⟩

/-! Which models may be. -/
def validT (t : Int) : Prop := 0 ≤ t ∧ t ≤ 4611686018427387903
def okArg (M : Md) : Prop := (0 < M.progs.length ∧ M.progs.length ≤ 16) ∧ validT M.last ∧ 0 ≤ M.bud ∧ M.bud ≤ 4096
def okProgs (M : Md) : Prop := ∀ k, k < M.progs.length → checkN (M.progs.getD k []) = 0
def lkMay (n : Int) (l : Lk) : Prop := (0 ≤ l.src ∧ l.src < n) ∧ (0 ≤ l.dst ∧ l.dst < n) ∧ 1 ≤ l.look ∧ l.look ≤ 4611686018427387903
def okLinks (M : Md) : Prop := M.links.length ≤ 1024 ∧ ∀ i, i < M.links.length → lkMay M.progs.length (M.links.getD i default) ∧ ∀ k, k < i → ¬ ((M.links.getD k default).src = (M.links.getD i default).src ∧ (M.links.getD k default).dst = (M.links.getD i default).dst)
def sttMay (n : Int) (s : Stt) : Prop := (0 ≤ s.dst ∧ s.dst < n) ∧ validT s.t
def okStarts (M : Md) : Prop := M.starts.length ≤ 4096 ∧ ∀ i, i < M.starts.length → sttMay M.progs.length (M.starts.getD i default)
open Classical in
/-- What Check answers. -/
noncomputable def checkM (M : Md) : Int := if ¬ okArg M then 1 else if ¬ okProgs M then 130 else if ¬ okLinks M then 131 else if ¬ okStarts M then 132 else 0
end Go.Proofs.YtofkfajcibdneaaDoor
