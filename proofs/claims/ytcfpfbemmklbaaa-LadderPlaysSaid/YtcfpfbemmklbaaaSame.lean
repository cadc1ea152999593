
/-
  The law's own comparison of two slices of messages: it answers true where both read as the same messages.
-/
import Derived.Test.YtcfpfbemmklbaaaSortedC
import Derived.LoopTactic
namespace Go.Proofs.Ytcfpfbemmklbaaa
open Go.ChangeShapes Go.WideShapes Go.ChangeAt Go.RowKit Go.Sort

theorem same_eq {w : World} {a a' : Option Addr} {len cap cap' : Nat} {ms : List M} (h : Msgs w a len cap ms) (h' : Msgs w a' len cap' ms) :
    Calls Try.prog 12 #[.slice a len cap, .slice a' len cap'] w fun e w' => e = .returned (.bool true) ∧ Read w w' := by
  have mixed := mixed
  obtain ⟨hz, hlc, hmx, -, h⟩ := h
  obtain ⟨-, -, -, -, h'⟩ := h'
  unfold maxLen at hmx
  rcases h with h0 | ⟨b, off, rfl, hc⟩
  · subst h0
    clear hz h'
    go_enter Try.func12, Try.ntmps12
    go_wp2
    go_loop [5] (fun i => i = .int .i64 0) (fun i => 0)
    case atStart => rfl
    case round =>
      obtain rfl := hrel
      go_wp2
      go_ret
      exact ⟨rfl, Read.refl _⟩
  · rcases h' with h0 | ⟨b', off', rfl, hc2⟩
    · subst h0
      clear hz hc
      go_enter Try.func12, Try.ntmps12
      go_wp2
      go_loop [5] (fun i => i = .int .i64 0) (fun i => 0)
      case atStart => rfl
      case round =>
        obtain rfl := hrel
        go_wp2
        go_ret
        exact ⟨rfl, Read.refl _⟩
    · have hc' := Lib.hid hc
      have hc2' := Lib.hid hc2
      clear hz hc hc2
      go_enter Try.func12, Try.ntmps12
      go_wp2
      go_loopw [5] (fun i wr => ∃ k : Nat, k ≤ len ∧ i = .int .i64 k ∧ Read w wr) (fun i _ => len - (intOf i).toNat)
      case atStart => exact ⟨0, Nat.zero_le _, rfl, Read.refl _⟩
      case round =>
        obtain ⟨k, hk, rfl, hrk⟩ := hrel
        by_cases hlt : k < len
        · have hx := (hc'.out k hlt).read hrk
          have hy := (hc2'.out k hlt).read hrk
          generalize ms.getD k default = x at hx hy
          have hne := fun w => neqM x x w
          have hd : (!decide (x = x)) = false := by simp
          rw [hd] at hne
          clear hd
          obtain ⟨⟨t, f, s⟩, to, v, u, an⟩ := x
          simp only [M.val] at hne
          replace hx := fun n os => hx.read ⟨n, os, rfl⟩
          replace hy := fun n os => hy.read ⟨n, os, rfl⟩
          simp only [MsgAt, forall_and] at hx hy
          obtain ⟨-, x0, x1, x2, x3, x4, x5, x6⟩ := hx
          obtain ⟨-, y0, y1, y2, y3, y4, y5, y6⟩ := hy
          go_wp2
          go_quiet_grown (fail)
          go_wp2
          go_round
          case rel => exact ⟨k + 1, by omega, by go_num, hrk.trans ⟨_, _, rfl⟩⟩
          case measure => simp [intOf]; omega
        · go_wp2
          go_ret
          exact ⟨rfl, hrk⟩

end Go.Proofs.Ytcfpfbemmklbaaa
