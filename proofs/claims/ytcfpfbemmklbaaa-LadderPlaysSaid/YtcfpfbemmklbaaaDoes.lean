
/-
  The library's merge in place, at elements of k cells, from a world of the sort's to a world of the sort's: both of two or more.
-/
import Derived.Test.YtcfpfbemmklbaaaSym1
namespace Go.Proofs.Ytcfpfbemmklbaaa
open Go.Shelf Go.RowKit Go.Lib Go.Sort
variable {P : Program} {α : Type} [Inhabited α] {k : Nat}

/-- A call that answers nothing leads from worlds of X to worlds of Y. -/
def Does (P : Program) (f : FuncId) (args : Array Value) (X Y : World → Prop) : Prop := ∀ w, X w → Calls P f args w fun e w' => e = .returned (.tuple #[]) ∧ Y w'

/-- What comes behind the search, at s: the rotation and the two merges, each where it is called at all. -/
def SymCont (P : Program) (enc : α → List Value) (k : Nat) (w0 : World) (blk off cap N g : Nat) (cb : Array Value) (a m b mid s en : Nat) (d dT : Array α) : Prop :=
  ∃ d2 d3 : Array α,
    ((s < m ∧ m < en) → Does P 71 #[.slice (some ⟨blk, off, none⟩) N cap, .int .i64 s, .int .i64 m, .int .i64 en, .func (.func g) #[] cb] (fun w => Aside (SWK enc k w0 blk off d w)) (fun w => Aside (SWK enc k w0 blk off d2 w))) ∧
    (¬ (s < m ∧ m < en) → d2 = d) ∧
    ((a < s ∧ s < mid) → Does P 63 #[.slice (some ⟨blk, off, none⟩) N cap, .int .i64 a, .int .i64 s, .int .i64 mid, .func (.func g) #[] cb] (fun w => Aside (SWK enc k w0 blk off d2 w)) (fun w => Aside (SWK enc k w0 blk off d3 w))) ∧
    (¬ (a < s ∧ s < mid) → d3 = d2) ∧
    ((mid < en ∧ en < b) → Does P 63 #[.slice (some ⟨blk, off, none⟩) N cap, .int .i64 mid, .int .i64 en, .int .i64 b, .func (.func g) #[] cb] (fun w => Aside (SWK enc k w0 blk off d3 w)) (fun w => Aside (SWK enc k w0 blk off dT w))) ∧
    (¬ (mid < en ∧ en < b) → dT = d3)


end Go.Proofs.Ytcfpfbemmklbaaa
