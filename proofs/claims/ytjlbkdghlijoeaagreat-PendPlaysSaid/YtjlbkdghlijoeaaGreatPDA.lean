/-
  A queue of any of the three kinds, by its kind.
-/
import Derived.Test.YtjlbkdghlijoeaaGreatPQ
import Derived.Handy
namespace Go.Proofs.YtjlbkdghlijoeaaGreat
open Go.ChangeShapes Go.WideShapes Go.ChangeAt Go.Shelf Go.RowKit Go.Lib Go.Sort Go.Deep Go.Maps
set_option linter.unusedVariables false

/-- A queue of the kind K (0 a heap, 1 a calendar, 2 a ladder) at the block hb that holds T; a heap's map was handed at most n. -/
def QK (w : World) (K : Nat) (hb n : Nat) (S : Nat → Prop) (T : List M) : Prop := (K = 0 ∧ HAt w hb n S T) ∨ (K = 1 ∧ CalAtC w hb S T) ∨ (K = 2 ∧ CalAt w hb S T)
/-- Its type, its functions. -/
def tyK : Nat → TypeId | 0 => 70 | 1 => 72 | _ => 75
def fPush : Nat → FuncId | 0 => 67 | 1 => 91 | _ => 118
def fPop : Nat → FuncId | 0 => 66 | 1 => 90 | _ => 117
def fFirst : Nat → FuncId | 0 => 64 | 1 => 88 | _ => 115
def fCut : Nat → FuncId | 0 => 63 | 1 => 87 | _ => 114
def fAll : Nat → FuncId | 0 => 62 | 1 => 86 | _ => 113
def fLen : Nat → FuncId | 0 => 65 | 1 => 89 | _ => 116
section
variable {w w' : World} {K hb n n' : Nat} {S : Nat → Prop} {T : List M}
theorem QK.kept {X : Nat → Prop} (h : QK w K hb n S T) (hk : KeptOff X w w') (hn : ∀ k, S k → ¬ X k) : QK w' K hb n S T :=
  h.imp (fun ⟨e, x⟩ => ⟨e, x.kept hk hn⟩) (.imp (fun ⟨e, x⟩ => ⟨e, x.kept hk hn⟩) (fun ⟨e, x⟩ => ⟨e, x.kept hk hn⟩))
theorem QK.below (h : QK w K hb n S T) (hb' : Below w.heap.size w w') : QK w' K hb n S T := h.kept (X := fun _ => False) (.of_below hb') (fun _ _ e => e)
theorem QK.mono (h : QK w K hb n S T) (hn : n ≤ n') : QK w K hb n' S T := h.imp (fun ⟨e, x⟩ => ⟨e, x.mono hn⟩) id
theorem QK.lt (h : QK w K hb n S T) {k : Nat} (hk : S k) : k < w.heap.size := by
  rcases h with ⟨_, x⟩ | ⟨_, x⟩ | ⟨_, x⟩ <;> exact x.lt hk
theorem QK.own (h : QK w K hb n S T) : S hb := by rcases h with ⟨_, x⟩ | ⟨_, x⟩ | ⟨_, x⟩ <;> exact x.own
theorem QK.o (h : QK w K hb n S T) : InOrder ltM T := by rcases h with ⟨_, x⟩ | ⟨_, x⟩ | ⟨_, x⟩ <;> exact x.o
theorem QK.u (h : QK w K hb n S T) : Unlike T := by rcases h with ⟨_, x⟩ | ⟨_, x⟩ | ⟨_, x⟩ <;> exact x.u
theorem QK.fits (h : QK w K hb n S T) : ∀ m ∈ T, m.fits := by rcases h with ⟨_, x⟩ | ⟨_, x⟩ | ⟨_, x⟩ <;> exact x.fits
theorem QK.small (h : QK w K hb n S T) : T.length ≤ 16384 := by rcases h with ⟨_, x⟩ | ⟨_, x⟩ | ⟨_, x⟩ <;> exact x.small
theorem QK.kind (h : QK w K hb n S T) : K = 0 ∨ K = 1 ∨ K = 2 := by rcases h with ⟨e, _⟩ | ⟨e, _⟩ | ⟨e, _⟩ <;> omega
end
section
variable {w : World} {K hb n : Nat} {S : Nat → Prop} {T : List M}
theorem kLen (h : QK w K hb n S T) : Calls Tryz.prog (fLen K) #[.pointer (some ⟨hb, 0, none⟩)] w fun e w' => e = .returned (.int .i64 T.length) ∧ w = w' := by
  rcases h with ⟨rfl, x⟩ | ⟨rfl, x⟩ | ⟨rfl, x⟩
  · exact pLen_any x
  · exact hLen_anyC x
  · exact hLen_any x
theorem kAll (h : QK w K hb n S T) : Calls Tryz.prog (fAll K) #[.pointer (some ⟨hb, 0, none⟩)] w fun e w' => ∃ (a' : Option Addr) (c' : Nat), e = .returned (.slice a' T.length c') ∧ Hid (Msgs w' a' T.length c' T ∧ Below w.heap.size w w' ∧ FreshA w.heap.size T.length a') := by
  rcases h with ⟨rfl, x⟩ | ⟨rfl, x⟩ | ⟨rfl, x⟩
  · exact pAll_any x
  · exact hAll_anyC x
  · exact hAll_any x
theorem kFirst (h : QK w K hb n S T) : Calls Tryz.prog (fFirst K) #[.pointer (some ⟨hb, 0, none⟩)] w fun e w' => e = .returned (.tuple #[(T.headD zeroM).val, .int .i64 (if T = [] then 6 else 0)]) ∧ Below w.heap.size w w' := by
  rcases h with ⟨rfl, x⟩ | ⟨rfl, x⟩ | ⟨rfl, x⟩ <;> cases T with
  | nil => first | exact pFirst_none x | exact hFirst_noneC x | exact hFirst_none x
  | cons m T => first | exact pFirst_some x | exact hFirst_someC x | exact hFirst_some x
theorem kPop (h : QK w K hb n S T) : Calls Tryz.prog (fPop K) #[.pointer (some ⟨hb, 0, none⟩)] w fun e w' => e = .returned (.tuple #[(T.headD zeroM).val, .int .i64 (if T = [] then 6 else 0)]) ∧ ∃ S', QK w' K hb n S' T.tail ∧ CStep w w' S S' := by
  cases T with
  | nil =>
    refine (?_ : Calls Tryz.prog (fPop K) #[.pointer (some ⟨hb, 0, none⟩)] w fun e w' => e = .returned (.tuple #[zeroM.val, .int .i64 6]) ∧ Below w.heap.size w w').mono fun e w' hh => ⟨hh.1, S, h.below hh.2, .of_below hh.2⟩
    rcases h with ⟨rfl, x⟩ | ⟨rfl, x⟩ | ⟨rfl, x⟩
    · exact pPop_none x
    · exact hPop_noneC x
    · exact hPop_none x
  | cons m T =>
    rcases h with ⟨rfl, x⟩ | ⟨rfl, x⟩ | ⟨rfl, x⟩
    · exact (pPop_some x).mono fun e w' ⟨he, S', h1, h2⟩ => ⟨he, S', .inl ⟨rfl, h1⟩, h2⟩
    · exact (hPop_someC x).mono fun e w' ⟨he, h1, h2⟩ => ⟨he, S, .inr (.inl ⟨rfl, h1⟩), h2⟩
    · exact (hPop_some x).mono fun e w' ⟨he, S', h1, h2⟩ => ⟨he, S', .inr (.inr ⟨rfl, h1⟩), h2⟩
theorem kCut_none (h : QK w K hb n S T) {f u : Int} (hf : (Lit.int .i64 f).wf = true) (hu : (Lit.int .i64 u).wf = true) (hs : hasS T f u = false) : Calls Tryz.prog (fCut K) #[.pointer (some ⟨hb, 0, none⟩), .int .i64 f, .int .i64 u] w fun e w' => e = .returned (.tuple #[zeroM.val, .int .i64 6]) ∧ Below w.heap.size w w' := by
  rcases h with ⟨rfl, x⟩ | ⟨rfl, x⟩ | ⟨rfl, x⟩
  · exact pCut_none x hf hu hs
  · exact hCut_noneC x hf hu hs
  · exact hCut_none x hf hu hs
theorem kCut_some {x : M} {T' : List M} (h : QK w K hb n S T) (hp : (x :: T').Perm T) (hO : InOrder ltM T') : Calls Tryz.prog (fCut K) #[.pointer (some ⟨hb, 0, none⟩), .int .i64 x.k.f, .int .i64 x.u] w fun e w' => e = .returned (.tuple #[x.val, .int .i64 0]) ∧ ∃ S', QK w' K hb n S' T' ∧ CStep w w' S S' := by
  rcases h with ⟨rfl, y⟩ | ⟨rfl, y⟩ | ⟨rfl, y⟩
  · exact (pCut_some y hp hO).mono fun e w' ⟨he, S', h1, h2⟩ => ⟨he, S', .inl ⟨rfl, h1⟩, h2⟩
  · exact (hCut_someC y hp hO).mono fun e w' ⟨he, h1, h2⟩ => ⟨he, S, .inr (.inl ⟨rfl, h1⟩), h2⟩
  · exact (hCut_some y hp hO).mono fun e w' ⟨he, S', h1, h2⟩ => ⟨he, S', .inr (.inr ⟨rfl, h1⟩), h2⟩
theorem kPush (h : QK w K hb n S T) (m : M) (hm : m.fits) (hn : n < maxLen) : Calls Tryz.prog (fPush K) #[.pointer (some ⟨hb, 0, none⟩), m.val] w fun e w' => e = .returned (.int .i64 (pushC T m)) ∧ ∃ S', QK w' K hb (n + 1) S' (pushT T m) ∧ CStep w w' S S' := by
  rcases h with ⟨rfl, x⟩ | ⟨rfl, x⟩ | ⟨rfl, x⟩
  · exact (pPush_any x m hm hn).mono fun e w' ⟨he, S', h1, h2⟩ => ⟨he, S', .inl ⟨rfl, h1⟩, h2⟩
  · exact (hPush_anyC x m hm).mono fun e w' ⟨he, S', h1, h2⟩ => ⟨he, S', .inr (.inl ⟨rfl, h1⟩), h2⟩
  · exact (hPush_any x m hm).mono fun e w' ⟨he, S', h1, h2⟩ => ⟨he, S', .inr (.inr ⟨rfl, h1⟩), h2⟩
end

/-- empty: a queue of that kind. -/
def KindOf (kd : Int) : Option Nat := if kd = 0 then some 0 else if kd = 1 then some 1 else if kd = 2 then some 2 else none
theorem kEmpty (w : World) {kd : Int} {K : Nat} (hk : KindOf kd = some K) : Calls Tryz.prog 16 #[.int .i64 kd] w fun e w' => ∃ hb S, e = .returned (.tuple #[.iface (tyK K) (.pointer (some ⟨hb, 0, none⟩)), .int .i64 0]) ∧ Hid (QK w' K hb 0 S [] ∧ Below w.heap.size w w' ∧ ∀ k, S k → w.heap.size ≤ k) := by
  unfold KindOf at hk
  by_cases h0 : kd = 0
  · subst h0
    simp at hk
    subst hk
    have hn := pNew_any w
    go_enter Tryz.func16, Tryz.ntmps16
    go_wp2_with (go_at_call 29; (with_reducible refine hn.mono ?_); rintro e w1 ⟨rfl, hq⟩)
    go_ret2
    exact ⟨_, _, rfl, .inl ⟨rfl, hq.out.1⟩, hq.out.2, fun k hk => hk.1⟩
  · by_cases h1 : kd = 1
    · subst h1
      simp at hk
      subst hk
      have hn := hNew_anyC w (W := 16) (by omega) rfl
      go_enter Tryz.func16, Tryz.ntmps16
      go_wp2_with (go_at_call 30; (with_reducible refine hn.mono ?_); rintro e w1 ⟨rfl, hq⟩)
      go_ret2
      exact ⟨_, _, rfl, .inr (.inl ⟨rfl, hq.out.1⟩), hq.out.2, fun k hk => hk.1⟩
    · by_cases h2 : kd = 2
      · subst h2
        simp at hk
        subst hk
        have hn := hNew_any w (W := 32) (by omega) rfl
        go_enter Tryz.func16, Tryz.ntmps16
        go_wp2_with (go_at_call 31; (with_reducible refine hn.mono ?_); rintro e w1 ⟨rfl, hq⟩)
        go_ret2
        exact ⟨_, _, rfl, .inr (.inr ⟨rfl, hq.out.1⟩), hq.out.2, fun k hk => hk.1⟩
      · simp [h0, h1, h2] at hk
theorem kEmpty_no (w : World) {kd : Int} (hk : KindOf kd = none) : Calls Tryz.prog 16 #[.int .i64 kd] w fun e w' => e = .returned (.tuple #[.nilIface, .int .i64 1]) ∧ w = w' := by
  unfold KindOf at hk
  have h0 : ¬ kd = 0 := by rintro rfl; simp at hk
  have h1 : ¬ kd = 1 := by rintro rfl; simp at hk
  have h2 : ¬ kd = 2 := by rintro rfl; simp at hk
  clear hk
  go_enter Tryz.func16, Tryz.ntmps16
  go_wp2
  go_ret2
  exact ⟨rfl, rfl⟩
end Go.Proofs.YtjlbkdghlijoeaaGreat
