/-
  Links that can be read, worlds that can be read, and the contract of the document's own Check of a world.
-/
import Derived.Test.YtghbdpjegmdhbaaDoorVmD1
namespace Go.Proofs.YtghbdpjegmdhbaaDoor
open Go.ChangeShapes Go.WideShapes Go.ChangeAt Go.RowKit Go.Sort
set_option linter.unusedVariables false
set_option maxRecDepth 4000

/-- Where a link lies. -/
def LkAt (w : World) (b o : Nat) (l : Lk) : Prop :=
  b < w.heap.size ∧ w.cell? ⟨b, o, none⟩ = some (.int .i64 l.src) ∧ w.cell? ⟨b, o + 1, none⟩ = some (.int .i64 l.dst) ∧ w.cell? ⟨b, o + 2, none⟩ = some (.int .i64 l.look) ∧ w.cell? ⟨b, o + 3, none⟩ = some (.bool l.loose)
theorem LkAt.below {w w' : World} {b o : Nat} {i : Lk} (h : LkAt w b o i) (hb : Below w.heap.size w w') : LkAt w' b o i := by
  obtain ⟨hlt, h0, h1, h2, h3⟩ := h
  have hc : ∀ {c : Nat} {v : Value}, w.cell? ⟨b, c, none⟩ = some v → w'.cell? ⟨b, c, none⟩ = some v := fun h => by rw [hb.cell hlt]; exact h
  exact ⟨Nat.lt_of_lt_of_le hlt hb.size, hc h0, hc h1, hc h2, hc h3⟩
/-- A slice value reads as the links ls. -/
def Lks (w : World) (a : Option Addr) (len cap : Nat) (ls : List Lk) : Prop :=
  ls.length = len ∧ len ≤ cap ∧ cap ≤ maxLen ∧ (len = 0 ∨ ∃ b off, a = some ⟨b, off, none⟩ ∧ ∀ k, k < len → LkAt w b (off + k * 4) (ls.getD k default))
theorem Lks.below {w w' : World} {a : Option Addr} {len cap : Nat} {is : List Lk} (h : Lks w a len cap is) (hb : Below w.heap.size w w') : Lks w' a len cap is := by
  obtain ⟨h1, h2, h3, h4⟩ := h
  refine ⟨h1, h2, h3, h4.imp id ?_⟩
  rintro ⟨b, off, ha, hm⟩
  exact ⟨b, off, ha, fun i hi => (hm i hi).below hb⟩
/-- A world's four parts, as they lie. -/
structure Wv where
  pa : Option Addr
  pl : Nat
  pc : Nat
  la : Option Addr
  ll : Nat
  lc : Nat
  deriving Inhabited
def Wv.val (v : Wv) (W : Wd) : Value := .agg #[.slice v.pa v.pl v.pc, .int .i64 W.self, .slice v.la v.ll v.lc, .int .u64 W.seed]
def Wds (w : World) (v : Wv) (W : Wd) : Prop := Inss w v.pa v.pl v.pc W.prog ∧ Lks w v.la v.ll v.lc W.links ∧ W.seed < 18446744073709551616 ∧ (Lit.int .i64 W.self).wf = true
theorem Wds.below {w w' : World} {v : Wv} {W : Wd} (h : Wds w v W) (hb : Below w.heap.size w w') : Wds w' v W := ⟨h.1.below hb, h.2.1.below hb, h.2.2⟩
theorem checkW_prog {W : Wd} (h : ¬ checkN W.prog = 0) : checkW W = checkN W.prog := by simp [checkW, h]
theorem checkW_lane {W : Wd} (h : checkN W.prog = 0) (h' : ¬ (0 ≤ W.self ∧ W.self < 16) ∨ 1024 < W.links.length) : checkW W = 1 := by
  unfold checkW; rw [if_neg (by simp [h]), if_pos h']
theorem checkW_bad {W : Wd} (h : checkN W.prog = 0) (k : Nat) (hk : k < W.links.length) (hb : (W.links.getD k default).mayB = false) : checkW W = 1 := by
  have : W.links.all Lk.mayB = false := by
    rw [List.all_eq_false]
    refine ⟨W.links.getD k default, ?_, by rw [hb]; decide⟩
    simp only [List.getD_eq_getElem?_getD, List.getElem?_eq_getElem hk, Option.getD_some]
    exact List.getElem_mem hk
  unfold checkW
  rw [if_neg (by simp [h])]
  by_cases h' : ¬ (0 ≤ W.self ∧ W.self < 16) ∨ 1024 < W.links.length
  · rw [if_pos h']
  · rw [if_neg h', if_neg (by simp [this])]
theorem checkW_ok {W : Wd} (h : checkN W.prog = 0) (h' : 0 ≤ W.self ∧ W.self < 16) (h2 : W.links.length ≤ 1024) (ha : ∀ k, k < W.links.length → (W.links.getD k default).mayB = true) : checkW W = 0 := by
  have : W.links.all Lk.mayB = true := by
    rw [List.all_eq_true]
    intro i hi
    obtain ⟨k, hk, rfl⟩ := List.getElem_of_mem hi
    have := ha k hk
    simpa [List.getD_eq_getElem?_getD, List.getElem?_eq_getElem hk] using this
  unfold checkW
  rw [if_neg (by simp [h]), if_neg (by omega), if_pos this]
def LkUpto (ls : List Lk) (k : Nat) : Prop := ∀ j, j < k → (ls.getD j default).mayB = true
/-- What a new block holds is still there behind a function that only reads. -/
theorem Read.new {w w1 : World} {C : Array Value} {T : TypeId} (hr : Read (w.alloc (.cells C T)) w1) (k : Nat) {v : Value} (h : C[k]? = some v) : w1.cell? ⟨w.heap.size, k, none⟩ = some v :=
  hr.cell (by simp) (by rw [World.cell?_alloc_new]; exact h)
theorem Lk.mayB_eq (l : Lk) : l.mayB = decide (0 ≤ l.dst ∧ l.dst < 16 ∧ 1 ≤ l.look ∧ l.look ≤ 4611686018427387903) := rfl
set_option maxHeartbeats 2000000 in
theorem r5Check_any {w : World} {v : Wv} {W : Wd} (h : Wds w v W) :
    Calls Tryd.prog 16 #[v.val W] w fun e w' => e = .returned (.int .i64 (checkW W)) ∧ Read w w' := by
  obtain ⟨prog, self, links, seed⟩ := W
  obtain ⟨pa, pl, pc, la, ll, lc⟩ := v
  simp only [Wv.val]
  obtain ⟨hI, hL, -, -⟩ := h
  simp only at hI hL
  have hcall := fun (o : Obj) => r3Check_any (hI.below ((Below.refl _ w).alloc (Nat.le_refl _) o))
  have hlen := hL.1
  have hmx : ll ≤ 9223372036854775807 := by have := hL.2.1; have := hL.2.2.1; unfold maxLen at *; omega
  by_cases hp : checkN prog = 0
  · rw [hp] at hcall
    have hL' := Lib.hid hL
    clear hL hI
    by_cases s0 : 0 ≤ self
    · by_cases s1 : self < 16
      · have s1' : ¬ 16 ≤ self := by omega
        by_cases s2 : ll ≤ 1024
        · have s2' : ¬ 1024 < ll := by omega
          have hz : Hid ((∀ k, k < ll → (links.getD k default).mayB = false → checkW ⟨prog, self, links, seed⟩ = 1) ∧ (LkUpto links ll → checkW ⟨prog, self, links, seed⟩ = 0)) := by
            refine ⟨fun k hk hb => checkW_bad hp k (by simpa only [hlen] using hk) hb, fun hu => checkW_ok hp ⟨s0, s1⟩ (by simpa only [hlen] using s2) (fun k hk => hu k (by simpa only [hlen] using hk))⟩
          generalize checkW ⟨prog, self, links, seed⟩ = z at hz ⊢
          clear hp hlen
          go_enter Tryd.func16, Tryd.ntmps16
          go_wp2_with fail
          refine (hcall _).mono ?_
          rintro e w1 ⟨rfl, hr1⟩
          have c1 : w1.cell? ⟨w.heap.size, 1, none⟩ = some (.int .i64 self) := hr1.new 1 rfl
          have c2 : w1.cell? ⟨w.heap.size, 2, none⟩ = some (.slice la ll lc) := hr1.new 2 rfl
          have hsz := hr1.size
          simp only [World.size_alloc] at hsz
          clear hcall
          go_wp2_with fail
          go_loopw [4] (fun i wr => ∃ k : Nat, k ≤ ll ∧ i = .int .i64 k ∧ Read w1 wr ∧ Aside (LkUpto links k)) (fun i _ => ll - (intOf i).toNat)
          case atStart => exact ⟨0, Nat.zero_le _, rfl, Read.refl _, fun j hj => by omega⟩
          case round =>
            obtain ⟨k, hk, rfl, hrk, hup⟩ := hrel
            have d2 : wr.cell? ⟨w.heap.size, 2, none⟩ = some (.slice la ll lc) := hrk.cell hsz c2
            by_cases hlt : k < ll
            · obtain ⟨b, off, rfl, hm⟩ : ∃ b off, la = some ⟨b, off, none⟩ ∧ ∀ j, j < ll → LkAt w b (off + j * 4) (links.getD j default) := by
                rcases hL'.out.2.2.2 with h0 | h1
                · omega
                · exact h1
              have hx := ((hm k hlt).below ((Below.refl _ w).alloc (Nat.le_refl _) _)).below hr1.below |>.below hrk.below
              clear hm
              have hk1 : LkUpto links (k + 1) ∨ (links.getD k default).mayB = false := by
                cases hb : (links.getD k default).mayB with
                | false => exact .inr rfl
                | true =>
                  refine .inl fun j hj => ?_
                  by_cases e : j = k
                  · subst e; exact hb
                  · exact hup.out j (by omega)
              rcases hk1 with hu | hb
              · have hok : (links.getD k default).mayB = true := hu k (by omega)
                have hu' := Lib.hid hu
                clear hu hup
                generalize links.getD k default = x at hx hok
                obtain ⟨src, dst, look, loose⟩ := x
                obtain ⟨-, x0, x1, x2, x3⟩ := hx
                rw [Lk.mayB_eq, decide_eq_true_eq] at hok
                obtain ⟨o1, o2, o3, o4⟩ := hok
                simp only at o1 o2 o3 o4 x0 x1 x2 x3
                have o2' : ¬ 16 ≤ dst := by omega
                have o3' : ¬ look < 1 := by omega
                have o4' : ¬ 4611686018427387903 < look := by omega
                have o1' : ¬ dst < 0 := by omega
                go_wp2
                go_round
                case rel => exact ⟨k + 1, by omega, by go_num, hrk.trans (Read.mk _ _), hu'.out⟩
                case measure => simp [intOf]; omega
              · have hz : z = 1 := hz.out.1 k hlt hb
                subst hz
                clear hup
                generalize links.getD k default = x at hx hb
                obtain ⟨src, dst, look, loose⟩ := x
                obtain ⟨-, x0, x1, x2, x3⟩ := hx
                rw [Lk.mayB_eq, decide_eq_false_iff_not] at hb
                simp only at hb x0 x1 x2 x3
                have hb' := Lib.hid hb
                clear hb
                by_cases o1 : dst < 0
                · go_wp2
                  go_ret
                  exact ⟨rfl, Read.alloc _ (hr1.trans (hrk.trans (Read.mk _ _)))⟩
                · by_cases o2 : 16 ≤ dst
                  · go_wp2
                    go_ret
                    exact ⟨rfl, Read.alloc _ (hr1.trans (hrk.trans (Read.mk _ _)))⟩
                  · by_cases o3 : look < 1
                    · go_wp2
                      go_ret
                      exact ⟨rfl, Read.alloc _ (hr1.trans (hrk.trans (Read.mk _ _)))⟩
                    · have o4 : 4611686018427387903 < look := by have := hb'.out; omega
                      clear hb'
                      go_wp2
                      go_ret
                      exact ⟨rfl, Read.alloc _ (hr1.trans (hrk.trans (Read.mk _ _)))⟩
            · have hz : z = 0 := hz.out.2 (fun j hj => hup.out j (by omega))
              subst hz
              go_wp2
              go_ret
              exact ⟨rfl, Read.alloc _ (hr1.trans hrk)⟩
        · have s2' : 1024 < ll := by omega
          have hz : checkW ⟨prog, self, links, seed⟩ = 1 := checkW_lane hp (.inr (by simpa only [hlen] using s2'))
          rw [hz]
          clear hz hp hlen s2
          go_enter Tryd.func16, Tryd.ntmps16
          go_wp2_with fail
          refine (hcall _).mono ?_
          rintro e w1 ⟨rfl, hr1⟩
          have c1 : w1.cell? ⟨w.heap.size, 1, none⟩ = some (.int .i64 self) := hr1.new 1 rfl
          have c2 : w1.cell? ⟨w.heap.size, 2, none⟩ = some (.slice la ll lc) := hr1.new 2 rfl
          clear hcall
          go_wp2
          go_ret
          exact ⟨rfl, Read.alloc _ hr1⟩
      · have s1' : 16 ≤ self := by omega
        have hz : checkW ⟨prog, self, links, seed⟩ = 1 := checkW_lane hp (.inl (fun h => s1 h.2))
        rw [hz]
        clear hz hp hlen s1
        go_enter Tryd.func16, Tryd.ntmps16
        go_wp2_with fail
        refine (hcall _).mono ?_
        rintro e w1 ⟨rfl, hr1⟩
        have c1 : w1.cell? ⟨w.heap.size, 1, none⟩ = some (.int .i64 self) := hr1.new 1 rfl
        have c2 : w1.cell? ⟨w.heap.size, 2, none⟩ = some (.slice la ll lc) := hr1.new 2 rfl
        clear hcall
        go_wp2
        go_ret
        exact ⟨rfl, Read.alloc _ hr1⟩
    · have s0' : self < 0 := by omega
      have hz : checkW ⟨prog, self, links, seed⟩ = 1 := checkW_lane hp (.inl (fun h => s0 h.1))
      rw [hz]
      clear hz hp hlen s0
      go_enter Tryd.func16, Tryd.ntmps16
      go_wp2_with fail
      refine (hcall _).mono ?_
      rintro e w1 ⟨rfl, hr1⟩
      have c1 : w1.cell? ⟨w.heap.size, 1, none⟩ = some (.int .i64 self) := hr1.new 1 rfl
      have c2 : w1.cell? ⟨w.heap.size, 2, none⟩ = some (.slice la ll lc) := hr1.new 2 rfl
      clear hcall
      go_wp2
      go_ret
      exact ⟨rfl, Read.alloc _ hr1⟩
  · rw [checkW_prog hp]
    simp only
    have hp' : (checkN prog == 0) = false := by simpa using hp
    generalize checkN prog = z at hp' hcall
    clear hp hlen hL hI
    go_enter Tryd.func16, Tryd.ntmps16
    go_wp2_with fail
    refine (hcall _).mono ?_
    rintro e w1 ⟨rfl, hr1⟩
    clear hcall
    go_wp2
    go_ret
    exact ⟨rfl, Read.alloc _ hr1⟩
end Go.Proofs.YtghbdpjegmdhbaaDoor
