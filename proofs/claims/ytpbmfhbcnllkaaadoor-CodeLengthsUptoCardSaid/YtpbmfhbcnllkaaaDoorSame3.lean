/-
  The law's own comparison of two slices of instructions: it answers true where both read as the same instructions.
-/
import Derived.Test.YtpbmfhbcnllkaaaDoorCodeO
import Derived.LoopTactic
namespace Go.Proofs.YtpbmfhbcnllkaaaDoor
open Go.ChangeShapes Go.WideShapes Go.ChangeAt Go.RowKit Go.Sort
set_option linter.unusedVariables false

theorem eqInI (d : Nat) (a b : I) (w : World) : Sem.run Tryd.prog (Op.equalIn (d + 2) 40 a.val b.val) w = .ok (decide (a = b)) w := by
  have u3 := Tryd.underlying3
  have a3 := Tryd.isAgg3
  have z3 := Tryd.sizeOf3
  have hS : Tryd.prog.underlying 40 = some (.struct (Tryd.prog.fieldsOf 40)) := by kernel_rfl
  have hp : Tryd.prog.stoodInHeld 40 = false := by kernel_rfl
  obtain ⟨t, f, s, u⟩ := a
  obtain ⟨t', f', s', u'⟩ := b
  simp only [I.val]
  rw [run_equalIn_agg w (d + 1) 40 _ _ hS hp]
  simp only [Program.fieldsOf, Tryd.underlying40]
  go_simp
  by_cases h1 : t = t' <;> by_cases h2 : f = f' <;> by_cases h3 : s = s' <;> by_cases h4 : u = u' <;> simp [h1, h2, h3, h4]
theorem neqI (x : I) (w : World) : (binOp .neq 40 x.val x.val).run Tryd.prog w = .ok (.bool false) w := by
  have h := eqInI 9998 x x w
  simp only [I.val] at h ⊢
  rw [run_neq_struct, h]
  simp

theorem same3_eq {w : World} {a a' : Option Addr} {len cap cap' : Nat} {ms : List I} (h : Inss w a len cap ms) (h' : Inss w a' len cap' ms) :
    Calls Tryd.prog 18 #[.slice a len cap, .slice a' len cap'] w fun e w' => e = .returned (.bool true) ∧ Read w w' := by
  have mixed := mixed
  obtain ⟨hz, hlc, hmx, -, h⟩ := h
  obtain ⟨-, -, -, -, h'⟩ := h'
  unfold maxLen at hmx
  rcases h with h0 | ⟨b, off, rfl, hc⟩
  · subst h0
    clear hz h'
    go_enter Tryd.func18, Tryd.ntmps18
    go_wp2
    go_loop [5] (fun i => i = .int .i64 0) (fun i => 0)
    case atStart => rfl
    case round =>
      obtain rfl := hrel
      go_wp2
      go_ret
      exact ⟨rfl, Read.refl _⟩
  · rcases h' with h0 | ⟨b', off', rfl, hc2⟩
    · subst h0
      clear hz hc
      go_enter Tryd.func18, Tryd.ntmps18
      go_wp2
      go_loop [5] (fun i => i = .int .i64 0) (fun i => 0)
      case atStart => rfl
      case round =>
        obtain rfl := hrel
        go_wp2
        go_ret
        exact ⟨rfl, Read.refl _⟩
    · have hc' := Lib.hid hc
      have hc2' := Lib.hid hc2
      clear hz hc hc2
      go_enter Tryd.func18, Tryd.ntmps18
      go_wp2
      go_loopw [5] (fun i wr => ∃ k : Nat, k ≤ len ∧ i = .int .i64 k ∧ Read w wr) (fun i _ => len - (intOf i).toNat)
      case atStart => exact ⟨0, Nat.zero_le _, rfl, Read.refl _⟩
      case round =>
        obtain ⟨k, hk, rfl, hrk⟩ := hrel
        by_cases hlt : k < len
        · have hx := (hc'.out k hlt).read hrk
          have hy := (hc2'.out k hlt).read hrk
          generalize ms.getD k default = x at hx hy
          have hne := fun w => neqI x w
          obtain ⟨t, f, s, u⟩ := x
          simp only [I.val] at hne
          replace hx := fun n os => hx.read ⟨n, os, rfl⟩
          replace hy := fun n os => hy.read ⟨n, os, rfl⟩
          simp only [InsAt, forall_and] at hx hy
          obtain ⟨-, x0, x1, x2, x3⟩ := hx
          obtain ⟨-, y0, y1, y2, y3⟩ := hy
          go_wp2
          go_quiet_grown (fail)
          go_wp2
          go_round
          case rel => exact ⟨k + 1, by omega, by go_num, hrk.trans ⟨_, _, rfl⟩⟩
          case measure => simp [intOf]; omega
        · go_wp2
          go_ret
          exact ⟨rfl, hrk⟩

end Go.Proofs.YtpbmfhbcnllkaaaDoor
