/-
  The contract of the document's Decode, over each slice of bytes that can be read.
-/
import Derived.Test.YtpbmfhbcnllkaaaDoorCodeU
import Derived.IntWalk
namespace Go.Proofs.YtpbmfhbcnllkaaaDoor
open Go.ChangeShapes Go.WideShapes Go.ChangeAt Go.RowKit Go.Sort
set_option linter.unusedVariables false

theorem setCell2_insAt {W : World} {B : Nat} {a0 a1 a2 a3 X Y : Int} (h1 : W.heap[B]? = some (.cells #[.int .i64 a0, .int .i64 a1, .int .i64 a2, .int .i64 a3] 40 (0, 0))) :
    InsAt ((W.setCell ⟨B, 1, none⟩ (.int .i64 X)).setCell ⟨B, 2, none⟩ (.int .i64 Y)) B 0 ⟨a0, X, Y, a3⟩ :=
  insAt_block ⟨a0, X, Y, a3⟩ (by simp [World.setCell, Array.getElem?_modify, h1, I.cells])
theorem cell_setCell2 {W : World} {b B o : Nat} {u v : Value} (h : b ≠ B) : ((W.setCell ⟨B, 1, none⟩ u).setCell ⟨B, 2, none⟩ v).cell? ⟨b, o, none⟩ = W.cell? ⟨b, o, none⟩ :=
  World.cell?_of_block (w := W) ((Below.heap_setCell _ _ _ _ (by simpa using h)).trans (Below.heap_setCell _ _ _ _ (by simpa using h)))
theorem owns_setCell2 {W wr : World} {base B : Nat} {e : TypeId} {size : Nat} {v : Value} {n : Nat} {xs : List Value} {u1 u2 : Value} (h : W.ownsRow base e size v n xs) (hlt : ∀ k, v.ownBlock = some k → base ≤ k ∧ k < wr.heap.size) (hB : wr.heap.size ≤ B) :
    ((W.setCell ⟨B, 1, none⟩ u1).setCell ⟨B, 2, none⟩ u2).ownsRow base e size v n xs := by
  refine h.kept (row := some B) ⟨rfl, rfl, rfl, by simp [World.setCell], fun k hk hne => ?_⟩ ?_
  · have hne' : k ≠ B := fun e => hne (by rw [e])
    exact (Below.heap_setCell _ _ _ _ (by simpa using hne')).trans (Below.heap_setCell _ _ _ _ (by simpa using hne'))
  · cases hv : v.ownBlock with
    | none => exact .inl rfl
    | some k => exact .inr (by have := hlt k hv; intro e; cases e; omega)
theorem wrapWord (p q r s : Int) (hp : byteP p) (hq : byteP q) (hr : byteP r) (hs : byteP s) : IntKind.i32.wrap (p * 16777216 + q * 65536 + r * 256 + s) = wordOf p q r s := by
  have h : IntKind.i32.wrap (p * 16777216 + q * 65536 + r * 256 + s) = wrap32 (p * 16777216 + q * 65536 + r * 256 + s) := IntWalk.i32_left _
  rw [h]
  unfold byteP at *
  unfold wrap32 wordOf
  split <;> omega

set_option maxRecDepth 100000 in
set_option maxHeartbeats 20000000 in
theorem r3Decode_any {w : World} {a : Option Addr} {len cap : Nat} {bs : List Int} (h : Byts w a len cap bs) :
    Calls Tryd.prog 17 #[.slice a len cap] w fun e w' => ∃ v p er, e = .returned (.tuple #[v, .int .i64 p, .int .i64 er]) ∧ Aside (DecQ w w' bs v p er) := by
  have mixed := mixed
  obtain ⟨i0, hi, hz0, hz1, hz2⟩ := info_parts infoIn
  have hmx : len ≤ 9223372036854775807 := by have := h.2.1; have := h.2.2.1; unfold maxLen at *; omega
  have hlc := h.2.1
  have hcm : cap ≤ 9223372036854775807 := by have := h.2.2.1; unfold maxLen at *; omega
  have hlen := Lib.hid h.1
  have hB := Lib.hid h
  clear h
  by_cases hl : 2304 < len
  · go_enter Tryd.func17, Tryd.ntmps17
    go_wp2
    go_ret3
    exact ⟨_, _, _, rfl, decQ_nil (.long (by rw [hlen.out]; exact hl)) (Below.refl _ _)⟩
  · have hl' : len ≤ 2304 := by omega
    by_cases hm : len % 9 = 0
    · have hm1 : ((len : Int) % 9 != 0) = false := by simp; omega
      have hmod := Lib.hid hm
      clear hm
      go_enter Tryd.func17, Tryd.ntmps17
      go_wp2
      go_loopw [5, 6] (fun v i wr => ∃ k : Nat, k * 9 ≤ len ∧ i = .int .i64 ((k * 9 : Nat) : Int) ∧ Below w.heap.size w wr ∧ wr.ownsRow w.heap.size 40 4 v k (flatI (decL bs k)) ∧ Aside (Taken bs k)) (fun _ i _ => len - (intOf i).toNat)
      case atStart => exact ⟨0, by omega, by simp, Below.refl _ _, World.ownsRow_nil _ _ _ _, fun j hj => by omega⟩
      case round =>
        clear hm1
        obtain ⟨k, hk, rfl, hbk, hown, htk⟩ := hrel
        by_cases hlt : k * 9 < len
        · have hk9 : k * 9 + 9 ≤ len := by have := hmod.out; omega
          obtain ⟨b, off, rfl, hbw⟩ : ∃ b off, a = some ⟨b, off, none⟩ ∧ b < w.heap.size := by
            rcases hB.out.2.2.2.2 with h0 | ⟨b, off, ha, h1, _⟩
            · omega
            · exact ⟨b, off, ha, h1⟩
          have hnine := (hB.out.below hbk).nineAt k hk9
          have hdl := Lib.hid (decL_succ bs k)
          have hnn : ((bs.length / 9 : Nat) : Int) = (len : Int) / 9 := by rw [hlen.out]; omega
          have hbs := hbk.size
          have hown' := Lib.hid hown
          have hbk' := Lib.hid hbk
          clear hown hbk
          have hf : Hid (decAt bs k).fits := decAt_fits hB.out.2.2.2.1 k
          have hte : Hid (takeAt bs k (bs.length / 9 : Nat) = (!(at9 bs k 0 == 10 && at9 bs k 1 != 0) && (at9 bs k 7 == 0 && (at9 bs k 8 == 0 && mayB (decAt bs k) ((len : Int) / 9))))) := by
            rw [hnn]
            obtain ⟨-, -, q0, q1, q2, q3, q4, q5, q6, -, -⟩ := hnine
            exact take9_eq _ _ _ _ _ _ _ _ _ _ q0 q1 q2 q3 q4 q5 q6
          have htk' : Hid (takeAt bs k (bs.length / 9 : Nat) = true → Taken bs (k + 1)) := fun ht j hj => by
            by_cases e : j = k
            · subst e; exact ht
            · exact htk.out j (by omega)
          have hno : Hid (takeAt bs k (bs.length / 9 : Nat) = false → DecP bs [] ((k * 9 : Nat) : Int) 4) := fun ht => .form k (by rw [hlen.out]; exact hl) (by rw [hlen.out]; exact hmod.out) (by rw [hlen.out]; omega) htk.out ht
          have hmy := fun w => may_any (decAt bs k) ((len : Int) / 9) w
          have hde : Hid (decAt bs k = dec9 (at9 bs k 0) (at9 bs k 1) (at9 bs k 2) (at9 bs k 3) (at9 bs k 4) (at9 bs k 5) (at9 bs k 6)) := rfl
          clear hnn htk
          generalize takeAt bs k (bs.length / 9 : Nat) = tk at hte htk' hno
          generalize decAt bs k = x at hdl hf hte hmy hde
          generalize at9 bs k 0 = x0 at hnine hte hde
          generalize at9 bs k 1 = x1 at hnine hte hde
          generalize at9 bs k 2 = x2 at hnine hte hde
          generalize at9 bs k 3 = x3 at hnine hte hde
          generalize at9 bs k 4 = x4 at hnine hte hde
          generalize at9 bs k 5 = x5 at hnine hte hde
          generalize at9 bs k 6 = x6 at hnine hte hde
          generalize at9 bs k 7 = x7 at hnine hte
          generalize at9 bs k 8 = x8 at hnine hte
          simp only [Nat.add_assoc, NineAt] at hnine
          obtain ⟨hbr, ⟨c0, c1, c2, c3, c4, c5, c6, c7, c8⟩, b0, b1, b2, b3, b4, b5, b6, b7, b8⟩ := hnine
          have hor := Lib.hid (orBits x2 x3 x4 x5 b2 b3 b4 b5)
          have wY := wrapWord x2 x3 x4 x5 b2 b3 b4 b5
          have wX : IntKind.i64.wrap (wordOf x2 x3 x4 x5) = wordOf x2 x3 x4 x5 := by have := wordOf_in b2 b3 b4 b5; exact IntWalk.i64_in _ (by omega)
          obtain ⟨b0, b0'⟩ := b0
          obtain ⟨b1, b1'⟩ := b1
          obtain ⟨b2, b2'⟩ := b2
          obtain ⟨b3, b3'⟩ := b3
          obtain ⟨b4, b4'⟩ := b4
          obtain ⟨b5, b5'⟩ := b5
          obtain ⟨b6, b6'⟩ := b6
          have wx0 : IntKind.i64.wrap x0 = x0 := IntWalk.i64_in _ (by omega)
          have wx1 : IntKind.i64.wrap x1 = x1 := IntWalk.i64_in _ (by omega)
          have wx6 : IntKind.i64.wrap x6 = x6 := IntWalk.i64_in _ (by omega)
          generalize mayB x ((len : Int) / 9) = mv at hte hmy
          by_cases hop : x0 = 10
          · subst hop
            obtain rfl : x = ⟨10, wordOf x2 x3 x4 x5, 0, x6⟩ := by rw [hde.out]; simp [dec9]
            clear hde hf
            simp only [I.val] at hmy
            by_cases g1 : x1 = 0
            · skip
              by_cases g7 : x7 = 0
              · by_cases g8 : x8 = 0
                · cases mv with
                  | true =>
                    have htk0 : tk = true := by rw [hte.out]; simp [g1, g7, g8]
                    have htkv := Lib.hid htk0
                    clear htk0
                    have hk1 : (x1 != 0) = false := by simp [g1]
                    have hk7 : (x7 != 0) = false := by simp [g7]
                    have hk8 : (x8 != 0) = false := by simp [g8]
                    clear hte g1 g7 g8 hno
                    have hodd : (x1 != 0) = false := hk1
                    have h7 : (x7 != 0) = false := hk7
                    have h8 : (x8 != 0) = false := hk8
                    have s2 : IntKind.i64.wrap ((k : Int) * 9 + 2) = (k : Int) * 9 + 2 := IntWalk.i64_in _ (by omega)
                    have n2 : 0 ≤ (k : Int) * 9 + 2 := by omega
                    have l2 : (k : Int) * 9 + 2 < (len : Int) := by omega
                    have t2 : ((k : Int) * 9 + 2).toNat = k * 9 + 2 := by omega
                    have s3 : IntKind.i64.wrap ((k : Int) * 9 + 3) = (k : Int) * 9 + 3 := IntWalk.i64_in _ (by omega)
                    have n3 : 0 ≤ (k : Int) * 9 + 3 := by omega
                    have l3 : (k : Int) * 9 + 3 < (len : Int) := by omega
                    have t3 : ((k : Int) * 9 + 3).toNat = k * 9 + 3 := by omega
                    have s4 : IntKind.i64.wrap ((k : Int) * 9 + 4) = (k : Int) * 9 + 4 := IntWalk.i64_in _ (by omega)
                    have n4 : 0 ≤ (k : Int) * 9 + 4 := by omega
                    have l4 : (k : Int) * 9 + 4 < (len : Int) := by omega
                    have t4 : ((k : Int) * 9 + 4).toNat = k * 9 + 4 := by omega
                    have s5 : IntKind.i64.wrap ((k : Int) * 9 + 5) = (k : Int) * 9 + 5 := IntWalk.i64_in _ (by omega)
                    have n5 : 0 ≤ (k : Int) * 9 + 5 := by omega
                    have l5 : (k : Int) * 9 + 5 < (len : Int) := by omega
                    have t5 : ((k : Int) * 9 + 5).toNat = k * 9 + 5 := by omega
                    go_wp2_with fail
                    go_quiet (fail)
                    clear s2 s3 s4 s5 n2 n3 n4 n5 l2 l3 l4 l5 t2 t3 t4 t5
                    go_wp2
                    rw [hor.out]
                    clear hor
                    generalize x2 * 16777216 + x3 * 65536 + x4 * 256 + x5 = Y at wY ⊢
                    generalize wordOf x2 x3 x4 x5 = X at wY wX hmy hdl ⊢
                    have hrd := Read.drew wr nq
                    have d0 := hrd.cell hbr c0
                    have d1 := hrd.cell hbr c1
                    have d6 := hrd.cell hbr c6
                    have d7 := hrd.cell hbr c7
                    have d8 := hrd.cell hbr c8
                    clear c0 c1 c2 c3 c4 c5 c6 c7 c8
                    generalize wr.drewN nq = W1 at hrd d0 d1 d6 d7 d8 ⊢
                    have s1 : IntKind.i64.wrap ((k : Int) * 9 + 1) = (k : Int) * 9 + 1 := IntWalk.i64_in _ (by omega)
                    have n1 : 0 ≤ (k : Int) * 9 + 1 := by omega
                    have l1 : (k : Int) * 9 + 1 < (len : Int) := by omega
                    have t1 : ((k : Int) * 9 + 1).toNat = k * 9 + 1 := by omega
                    have s6 : IntKind.i64.wrap ((k : Int) * 9 + 6) = (k : Int) * 9 + 6 := IntWalk.i64_in _ (by omega)
                    have n6 : 0 ≤ (k : Int) * 9 + 6 := by omega
                    have l6 : (k : Int) * 9 + 6 < (len : Int) := by omega
                    have t6 : ((k : Int) * 9 + 6).toNat = k * 9 + 6 := by omega
                    have n0 : 0 ≤ (k : Int) * 9 := by omega
                    have l0 : (k : Int) * 9 < (len : Int) := by omega
                    have t0 : ((k : Int) * 9).toNat = k * 9 := by omega
                    go_region_held3 (fun w' => w'.cell? ⟨b, off + k * 9, none⟩ = some (.int .u8 10) ∧ w'.cell? ⟨b, off + (k * 9 + 1), none⟩ = some (.int .u8 x1) ∧ w'.cell? ⟨b, off + (k * 9 + 6), none⟩ = some (.int .u8 x6))
                      (first | exact ⟨d0, d1, d6⟩ | exact ⟨Lib.cell?_alloc_some _ d0, Lib.cell?_alloc_some _ d1, Lib.cell?_alloc_some _ d6⟩ | go_keep)
                      (fail)
                    rename_i hHeld
                    clear s1 s6 n0 n1 n6 l0 l1 l6 t0 t1 t6 wx0 wx1 wx6 wY wX d0 d1 d6 hHeld
                    go_upto_region 12 with (fail)
                    have hA : InsAt (W1.alloc (.cells #[.int .i64 10, .int .i64 x1, .int .i64 X, .int .i64 x6] 40)).drew W1.heap.size 0 ⟨10, x1, X, x6⟩ := InsAt.mk W1 10 x1 X x6
                    have e7 : ((W1.alloc (.cells #[.int .i64 10, .int .i64 x1, .int .i64 X, .int .i64 x6] 40)).drew).cell? ⟨b, off + (k * 9 + 7), none⟩ = some (.int .u8 x7) := Lib.cell?_alloc_some _ d7
                    have e8 : ((W1.alloc (.cells #[.int .i64 10, .int .i64 x1, .int .i64 X, .int .i64 x6] 40)).drew).cell? ⟨b, off + (k * 9 + 8), none⟩ = some (.int .u8 x8) := Lib.cell?_alloc_some _ d8
                    have hs1 := hrd.size
                    have hbW : Hid (Below w.heap.size w (W1.alloc (.cells #[.int .i64 10, .int .i64 x1, .int .i64 X, .int .i64 x6] 40)).drew) := ((hbk'.out.trans (hrd.below.mono hbs)).alloc (by omega) _).drew
                    have hownW : Hid (World.ownsRow (W1.alloc (.cells #[.int .i64 10, .int .i64 x1, .int .i64 X, .int .i64 x6] 40)).drew w.heap.size 40 4 u5 k (flatI (decL bs k))) := ((ownsRow_below hown'.out hrd.below).alloc _).drew
                    have hsB : w.heap.size ≤ W1.heap.size := by omega
                    have hrB : wr.heap.size ≤ W1.heap.size := hs1
                    clear d7 d8 hrd hs1
                    have hg1 : ((W1.alloc (.cells #[.int .i64 10, .int .i64 x1, .int .i64 X, .int .i64 x6] 40)).drew).heap[W1.heap.size]? = some (.cells #[.int .i64 10, .int .i64 x1, .int .i64 X, .int .i64 x6] 40 (0, 0)) := heap_alloc_new W1 _
                    obtain ⟨hA0, a0, a1, a2, a3⟩ := hA
                    simp only [Nat.zero_add] at a0 a1 a2 a3
                    generalize (W1.alloc (.cells #[.int .i64 10, .int .i64 x1, .int .i64 X, .int .i64 x6] 40)).drew = W at e7 e8 hbW hownW hA0 a0 a1 a2 a3 hg1 ⊢
                    generalize W1.heap.size = B at hsB hrB hA0 a0 a1 a2 a3 hg1 ⊢
                    have fz1 : W.frozen? ⟨B, 1, none⟩ = false := by simp [World.frozen?, hg1]
                    have fz2 : W.frozen? ⟨B, 2, none⟩ = false := by simp [World.frozen?, hg1]
                    have hbB : b ≠ B := by omega
                    go_upto_region 16 with (fail)
                    have hA2 := setCell2_insAt (X := X) (Y := 0) hg1
                    have e7' : ((W.setCell ⟨B, 1, none⟩ (.int .i64 X)).setCell ⟨B, 2, none⟩ (.int .i64 0)).cell? ⟨b, off + (k * 9 + 7), none⟩ = some (.int .u8 x7) := by rw [cell_setCell2 hbB]; exact e7
                    have e8' : ((W.setCell ⟨B, 1, none⟩ (.int .i64 X)).setCell ⟨B, 2, none⟩ (.int .i64 0)).cell? ⟨b, off + (k * 9 + 8), none⟩ = some (.int .u8 x8) := by rw [cell_setCell2 hbB]; exact e8
                    have hbW' : Hid (Below w.heap.size w ((W.setCell ⟨B, 1, none⟩ (.int .i64 X)).setCell ⟨B, 2, none⟩ (.int .i64 0))) := (hbW.out.setCell (by simpa using hsB) _).setCell (by simpa using hsB) _
                    have hownW' : Hid (World.ownsRow ((W.setCell ⟨B, 1, none⟩ (.int .i64 X)).setCell ⟨B, 2, none⟩ (.int .i64 0)) w.heap.size 40 4 u5 k (flatI (decL bs k))) := owns_setCell2 hownW.out hown'.out.lt hrB
                    clear e7 e8 hbW hownW hA0 a0 a1 a2 a3 hg1 fz1 fz2 hbB
                    obtain ⟨hA0, a0, a1, a2, a3⟩ := hA2
                    simp only [Nat.zero_add] at a0 a1 a2 a3
                    generalize ((W.setCell ⟨B, 1, none⟩ (.int .i64 X)).setCell ⟨B, 2, none⟩ (.int .i64 0)) = W at e7' e8' hbW' hownW' hA0 a0 a1 a2 a3 ⊢
                    have e7 := e7'
                    have e8 := e8'
                    have hbW := hbW'
                    have hownW := hownW'
                    clear e7' e8' hbW' hownW'
                    have hsW := hbW.out.size
                    go_wp2_with (first
                      | (go_at_call 23; refine (hmy _).mono ?_; rintro e w2 ⟨rfl, hr2⟩; have f0 := hr2.cell hA0 a0; have f1 := hr2.cell hA0 a1; have f2 := hr2.cell hA0 a2; have f3 := hr2.cell hA0 a3)
                      | (at_builtin; refine wpList_append_own _ rfl _ _ 22 rfl w.heap.size 40 i0 _ 4 32 Tryd.underlying22 hi hz0 hz1 hz2 rfl (by omega) _ _ _ rfl ((ownsRow_below hownW.out hr2.below).alloc _) ⟨w2.heap.size, 0, none⟩ 1 1 (flatI [⟨10, X, 0, x6⟩]) rfl rfl ?c1 ?c2 ?c3 ?c4 ?c5 ?_))
                    case c1 => exact World.news_of_block (cs := #[.int .i64 10, .int .i64 X, .int .i64 0, .int .i64 x6]) (t := 40) (fr := (0, 0)) (heap_alloc_new w2 _)
                    case c2 => exact flatI_one _
                    case c3 => unfold maxLen; omega
                    case c4 => omega
                    case c5 => have := hr2.size; simp; omega
                    intro v' w4 hown4 hgrow4 hnil4
                    clear hnil4
                    have hown5 : Hid (w4.ownsRow w.heap.size 40 4 v' (k + 1) (flatI (decL bs (k + 1)))) := by rw [hdl.out, flatI_append]; exact hown4
                    have hb4 : Hid (Below w.heap.size w w4) := ((hbW.out.trans (hr2.below.mono hsW)).alloc (by have := hr2.size; omega) _).grown hgrow4 (by have := hr2.size; simp; omega) (fun k hk => (hown'.out.lt k hk).1)
                    clear hown4 hgrow4 hr2 e7 e8 hA0 a0 a1 a2 a3 f0 f1 f2 f3 hmy
                    go_wp2
                    go_roundw
                    case rel => exact ⟨k + 1, by omega, by go_num, hb4.out, hown5.out, htk'.out htkv.out⟩
                    case measure => simp [intOf]; omega
                  | false =>
                    have htk0 : tk = false := by rw [hte.out]; simp
                    have htkv := Lib.hid htk0
                    clear htk0
                    have hk1 : (x1 != 0) = false := by simp [g1]
                    have hk7 : (x7 != 0) = false := by simp [g7]
                    have hk8 : (x8 != 0) = false := by simp [g8]
                    clear hte g1 g7 g8 htk'
                    have hodd : (x1 != 0) = false := hk1
                    have h7 : (x7 != 0) = false := hk7
                    have h8 : (x8 != 0) = false := hk8
                    have s2 : IntKind.i64.wrap ((k : Int) * 9 + 2) = (k : Int) * 9 + 2 := IntWalk.i64_in _ (by omega)
                    have n2 : 0 ≤ (k : Int) * 9 + 2 := by omega
                    have l2 : (k : Int) * 9 + 2 < (len : Int) := by omega
                    have t2 : ((k : Int) * 9 + 2).toNat = k * 9 + 2 := by omega
                    have s3 : IntKind.i64.wrap ((k : Int) * 9 + 3) = (k : Int) * 9 + 3 := IntWalk.i64_in _ (by omega)
                    have n3 : 0 ≤ (k : Int) * 9 + 3 := by omega
                    have l3 : (k : Int) * 9 + 3 < (len : Int) := by omega
                    have t3 : ((k : Int) * 9 + 3).toNat = k * 9 + 3 := by omega
                    have s4 : IntKind.i64.wrap ((k : Int) * 9 + 4) = (k : Int) * 9 + 4 := IntWalk.i64_in _ (by omega)
                    have n4 : 0 ≤ (k : Int) * 9 + 4 := by omega
                    have l4 : (k : Int) * 9 + 4 < (len : Int) := by omega
                    have t4 : ((k : Int) * 9 + 4).toNat = k * 9 + 4 := by omega
                    have s5 : IntKind.i64.wrap ((k : Int) * 9 + 5) = (k : Int) * 9 + 5 := IntWalk.i64_in _ (by omega)
                    have n5 : 0 ≤ (k : Int) * 9 + 5 := by omega
                    have l5 : (k : Int) * 9 + 5 < (len : Int) := by omega
                    have t5 : ((k : Int) * 9 + 5).toNat = k * 9 + 5 := by omega
                    go_wp2_with fail
                    go_quiet (fail)
                    clear s2 s3 s4 s5 n2 n3 n4 n5 l2 l3 l4 l5 t2 t3 t4 t5
                    go_wp2
                    rw [hor.out]
                    clear hor
                    generalize x2 * 16777216 + x3 * 65536 + x4 * 256 + x5 = Y at wY ⊢
                    generalize wordOf x2 x3 x4 x5 = X at wY wX hmy hdl ⊢
                    have hrd := Read.drew wr nq
                    have d0 := hrd.cell hbr c0
                    have d1 := hrd.cell hbr c1
                    have d6 := hrd.cell hbr c6
                    have d7 := hrd.cell hbr c7
                    have d8 := hrd.cell hbr c8
                    clear c0 c1 c2 c3 c4 c5 c6 c7 c8
                    generalize wr.drewN nq = W1 at hrd d0 d1 d6 d7 d8 ⊢
                    have s1 : IntKind.i64.wrap ((k : Int) * 9 + 1) = (k : Int) * 9 + 1 := IntWalk.i64_in _ (by omega)
                    have n1 : 0 ≤ (k : Int) * 9 + 1 := by omega
                    have l1 : (k : Int) * 9 + 1 < (len : Int) := by omega
                    have t1 : ((k : Int) * 9 + 1).toNat = k * 9 + 1 := by omega
                    have s6 : IntKind.i64.wrap ((k : Int) * 9 + 6) = (k : Int) * 9 + 6 := IntWalk.i64_in _ (by omega)
                    have n6 : 0 ≤ (k : Int) * 9 + 6 := by omega
                    have l6 : (k : Int) * 9 + 6 < (len : Int) := by omega
                    have t6 : ((k : Int) * 9 + 6).toNat = k * 9 + 6 := by omega
                    have n0 : 0 ≤ (k : Int) * 9 := by omega
                    have l0 : (k : Int) * 9 < (len : Int) := by omega
                    have t0 : ((k : Int) * 9).toNat = k * 9 := by omega
                    go_region_held3 (fun w' => w'.cell? ⟨b, off + k * 9, none⟩ = some (.int .u8 10) ∧ w'.cell? ⟨b, off + (k * 9 + 1), none⟩ = some (.int .u8 x1) ∧ w'.cell? ⟨b, off + (k * 9 + 6), none⟩ = some (.int .u8 x6))
                      (first | exact ⟨d0, d1, d6⟩ | exact ⟨Lib.cell?_alloc_some _ d0, Lib.cell?_alloc_some _ d1, Lib.cell?_alloc_some _ d6⟩ | go_keep)
                      (fail)
                    rename_i hHeld
                    clear s1 s6 n0 n1 n6 l0 l1 l6 t0 t1 t6 wx0 wx1 wx6 wY wX d0 d1 d6 hHeld
                    go_upto_region 12 with (fail)
                    have hA : InsAt (W1.alloc (.cells #[.int .i64 10, .int .i64 x1, .int .i64 X, .int .i64 x6] 40)).drew W1.heap.size 0 ⟨10, x1, X, x6⟩ := InsAt.mk W1 10 x1 X x6
                    have e7 : ((W1.alloc (.cells #[.int .i64 10, .int .i64 x1, .int .i64 X, .int .i64 x6] 40)).drew).cell? ⟨b, off + (k * 9 + 7), none⟩ = some (.int .u8 x7) := Lib.cell?_alloc_some _ d7
                    have e8 : ((W1.alloc (.cells #[.int .i64 10, .int .i64 x1, .int .i64 X, .int .i64 x6] 40)).drew).cell? ⟨b, off + (k * 9 + 8), none⟩ = some (.int .u8 x8) := Lib.cell?_alloc_some _ d8
                    have hs1 := hrd.size
                    have hbW : Hid (Below w.heap.size w (W1.alloc (.cells #[.int .i64 10, .int .i64 x1, .int .i64 X, .int .i64 x6] 40)).drew) := ((hbk'.out.trans (hrd.below.mono hbs)).alloc (by omega) _).drew
                    have hownW : Hid (World.ownsRow (W1.alloc (.cells #[.int .i64 10, .int .i64 x1, .int .i64 X, .int .i64 x6] 40)).drew w.heap.size 40 4 u5 k (flatI (decL bs k))) := ((ownsRow_below hown'.out hrd.below).alloc _).drew
                    have hsB : w.heap.size ≤ W1.heap.size := by omega
                    have hrB : wr.heap.size ≤ W1.heap.size := hs1
                    clear d7 d8 hrd hs1
                    have hg1 : ((W1.alloc (.cells #[.int .i64 10, .int .i64 x1, .int .i64 X, .int .i64 x6] 40)).drew).heap[W1.heap.size]? = some (.cells #[.int .i64 10, .int .i64 x1, .int .i64 X, .int .i64 x6] 40 (0, 0)) := heap_alloc_new W1 _
                    obtain ⟨hA0, a0, a1, a2, a3⟩ := hA
                    simp only [Nat.zero_add] at a0 a1 a2 a3
                    generalize (W1.alloc (.cells #[.int .i64 10, .int .i64 x1, .int .i64 X, .int .i64 x6] 40)).drew = W at e7 e8 hbW hownW hA0 a0 a1 a2 a3 hg1 ⊢
                    generalize W1.heap.size = B at hsB hrB hA0 a0 a1 a2 a3 hg1 ⊢
                    have fz1 : W.frozen? ⟨B, 1, none⟩ = false := by simp [World.frozen?, hg1]
                    have fz2 : W.frozen? ⟨B, 2, none⟩ = false := by simp [World.frozen?, hg1]
                    have hbB : b ≠ B := by omega
                    go_upto_region 16 with (fail)
                    have hA2 := setCell2_insAt (X := X) (Y := 0) hg1
                    have e7' : ((W.setCell ⟨B, 1, none⟩ (.int .i64 X)).setCell ⟨B, 2, none⟩ (.int .i64 0)).cell? ⟨b, off + (k * 9 + 7), none⟩ = some (.int .u8 x7) := by rw [cell_setCell2 hbB]; exact e7
                    have e8' : ((W.setCell ⟨B, 1, none⟩ (.int .i64 X)).setCell ⟨B, 2, none⟩ (.int .i64 0)).cell? ⟨b, off + (k * 9 + 8), none⟩ = some (.int .u8 x8) := by rw [cell_setCell2 hbB]; exact e8
                    have hbW' : Hid (Below w.heap.size w ((W.setCell ⟨B, 1, none⟩ (.int .i64 X)).setCell ⟨B, 2, none⟩ (.int .i64 0))) := (hbW.out.setCell (by simpa using hsB) _).setCell (by simpa using hsB) _
                    have hownW' : Hid (World.ownsRow ((W.setCell ⟨B, 1, none⟩ (.int .i64 X)).setCell ⟨B, 2, none⟩ (.int .i64 0)) w.heap.size 40 4 u5 k (flatI (decL bs k))) := owns_setCell2 hownW.out hown'.out.lt hrB
                    clear e7 e8 hbW hownW hA0 a0 a1 a2 a3 hg1 fz1 fz2 hbB
                    obtain ⟨hA0, a0, a1, a2, a3⟩ := hA2
                    simp only [Nat.zero_add] at a0 a1 a2 a3
                    generalize ((W.setCell ⟨B, 1, none⟩ (.int .i64 X)).setCell ⟨B, 2, none⟩ (.int .i64 0)) = W at e7' e8' hbW' hownW' hA0 a0 a1 a2 a3 ⊢
                    have e7 := e7'
                    have e8 := e8'
                    have hbW := hbW'
                    have hownW := hownW'
                    clear e7' e8' hbW' hownW'
                    have hsW := hbW.out.size
                    go_wp2_with (go_at_call 23; refine (hmy _).mono ?_; rintro e w2 ⟨rfl, hr2⟩)
                    go_ret3
                    exact ⟨_, _, _, rfl, decQ_nil (hno.out htkv.out) (hbW.out.trans (hr2.below.mono hsW))⟩
                · skip
                  have htk0 : tk = false := by rw [hte.out]; simp [g8]
                  have htkv := Lib.hid htk0
                  clear htk0
                  have hk1 : (x1 != 0) = false := by simp [g1]
                  have hk7 : (x7 != 0) = false := by simp [g7]
                  have hk8 : (x8 != 0) = true := by simp [g8]
                  clear hte g1 g7 g8 htk'
                  have hodd : (x1 != 0) = false := hk1
                  have h7 : (x7 != 0) = false := hk7
                  have h8 : (x8 != 0) = true := hk8
                  have s2 : IntKind.i64.wrap ((k : Int) * 9 + 2) = (k : Int) * 9 + 2 := IntWalk.i64_in _ (by omega)
                  have n2 : 0 ≤ (k : Int) * 9 + 2 := by omega
                  have l2 : (k : Int) * 9 + 2 < (len : Int) := by omega
                  have t2 : ((k : Int) * 9 + 2).toNat = k * 9 + 2 := by omega
                  have s3 : IntKind.i64.wrap ((k : Int) * 9 + 3) = (k : Int) * 9 + 3 := IntWalk.i64_in _ (by omega)
                  have n3 : 0 ≤ (k : Int) * 9 + 3 := by omega
                  have l3 : (k : Int) * 9 + 3 < (len : Int) := by omega
                  have t3 : ((k : Int) * 9 + 3).toNat = k * 9 + 3 := by omega
                  have s4 : IntKind.i64.wrap ((k : Int) * 9 + 4) = (k : Int) * 9 + 4 := IntWalk.i64_in _ (by omega)
                  have n4 : 0 ≤ (k : Int) * 9 + 4 := by omega
                  have l4 : (k : Int) * 9 + 4 < (len : Int) := by omega
                  have t4 : ((k : Int) * 9 + 4).toNat = k * 9 + 4 := by omega
                  have s5 : IntKind.i64.wrap ((k : Int) * 9 + 5) = (k : Int) * 9 + 5 := IntWalk.i64_in _ (by omega)
                  have n5 : 0 ≤ (k : Int) * 9 + 5 := by omega
                  have l5 : (k : Int) * 9 + 5 < (len : Int) := by omega
                  have t5 : ((k : Int) * 9 + 5).toNat = k * 9 + 5 := by omega
                  go_wp2_with fail
                  go_quiet (fail)
                  clear s2 s3 s4 s5 n2 n3 n4 n5 l2 l3 l4 l5 t2 t3 t4 t5
                  go_wp2
                  rw [hor.out]
                  clear hor
                  generalize x2 * 16777216 + x3 * 65536 + x4 * 256 + x5 = Y at wY ⊢
                  generalize wordOf x2 x3 x4 x5 = X at wY wX hmy hdl ⊢
                  have hrd := Read.drew wr nq
                  have d0 := hrd.cell hbr c0
                  have d1 := hrd.cell hbr c1
                  have d6 := hrd.cell hbr c6
                  have d7 := hrd.cell hbr c7
                  have d8 := hrd.cell hbr c8
                  clear c0 c1 c2 c3 c4 c5 c6 c7 c8
                  generalize wr.drewN nq = W1 at hrd d0 d1 d6 d7 d8 ⊢
                  have s1 : IntKind.i64.wrap ((k : Int) * 9 + 1) = (k : Int) * 9 + 1 := IntWalk.i64_in _ (by omega)
                  have n1 : 0 ≤ (k : Int) * 9 + 1 := by omega
                  have l1 : (k : Int) * 9 + 1 < (len : Int) := by omega
                  have t1 : ((k : Int) * 9 + 1).toNat = k * 9 + 1 := by omega
                  have s6 : IntKind.i64.wrap ((k : Int) * 9 + 6) = (k : Int) * 9 + 6 := IntWalk.i64_in _ (by omega)
                  have n6 : 0 ≤ (k : Int) * 9 + 6 := by omega
                  have l6 : (k : Int) * 9 + 6 < (len : Int) := by omega
                  have t6 : ((k : Int) * 9 + 6).toNat = k * 9 + 6 := by omega
                  have n0 : 0 ≤ (k : Int) * 9 := by omega
                  have l0 : (k : Int) * 9 < (len : Int) := by omega
                  have t0 : ((k : Int) * 9).toNat = k * 9 := by omega
                  go_region_held3 (fun w' => w'.cell? ⟨b, off + k * 9, none⟩ = some (.int .u8 10) ∧ w'.cell? ⟨b, off + (k * 9 + 1), none⟩ = some (.int .u8 x1) ∧ w'.cell? ⟨b, off + (k * 9 + 6), none⟩ = some (.int .u8 x6))
                    (first | exact ⟨d0, d1, d6⟩ | exact ⟨Lib.cell?_alloc_some _ d0, Lib.cell?_alloc_some _ d1, Lib.cell?_alloc_some _ d6⟩ | go_keep)
                    (fail)
                  rename_i hHeld
                  clear s1 s6 n0 n1 n6 l0 l1 l6 t0 t1 t6 wx0 wx1 wx6 wY wX d0 d1 d6 hHeld
                  go_upto_region 12 with (fail)
                  have hA : InsAt (W1.alloc (.cells #[.int .i64 10, .int .i64 x1, .int .i64 X, .int .i64 x6] 40)).drew W1.heap.size 0 ⟨10, x1, X, x6⟩ := InsAt.mk W1 10 x1 X x6
                  have e7 : ((W1.alloc (.cells #[.int .i64 10, .int .i64 x1, .int .i64 X, .int .i64 x6] 40)).drew).cell? ⟨b, off + (k * 9 + 7), none⟩ = some (.int .u8 x7) := Lib.cell?_alloc_some _ d7
                  have e8 : ((W1.alloc (.cells #[.int .i64 10, .int .i64 x1, .int .i64 X, .int .i64 x6] 40)).drew).cell? ⟨b, off + (k * 9 + 8), none⟩ = some (.int .u8 x8) := Lib.cell?_alloc_some _ d8
                  have hs1 := hrd.size
                  have hbW : Hid (Below w.heap.size w (W1.alloc (.cells #[.int .i64 10, .int .i64 x1, .int .i64 X, .int .i64 x6] 40)).drew) := ((hbk'.out.trans (hrd.below.mono hbs)).alloc (by omega) _).drew
                  have hownW : Hid (World.ownsRow (W1.alloc (.cells #[.int .i64 10, .int .i64 x1, .int .i64 X, .int .i64 x6] 40)).drew w.heap.size 40 4 u5 k (flatI (decL bs k))) := ((ownsRow_below hown'.out hrd.below).alloc _).drew
                  have hsB : w.heap.size ≤ W1.heap.size := by omega
                  have hrB : wr.heap.size ≤ W1.heap.size := hs1
                  clear d7 d8 hrd hs1
                  have hg1 : ((W1.alloc (.cells #[.int .i64 10, .int .i64 x1, .int .i64 X, .int .i64 x6] 40)).drew).heap[W1.heap.size]? = some (.cells #[.int .i64 10, .int .i64 x1, .int .i64 X, .int .i64 x6] 40 (0, 0)) := heap_alloc_new W1 _
                  obtain ⟨hA0, a0, a1, a2, a3⟩ := hA
                  simp only [Nat.zero_add] at a0 a1 a2 a3
                  generalize (W1.alloc (.cells #[.int .i64 10, .int .i64 x1, .int .i64 X, .int .i64 x6] 40)).drew = W at e7 e8 hbW hownW hA0 a0 a1 a2 a3 hg1 ⊢
                  generalize W1.heap.size = B at hsB hrB hA0 a0 a1 a2 a3 hg1 ⊢
                  have fz1 : W.frozen? ⟨B, 1, none⟩ = false := by simp [World.frozen?, hg1]
                  have fz2 : W.frozen? ⟨B, 2, none⟩ = false := by simp [World.frozen?, hg1]
                  have hbB : b ≠ B := by omega
                  go_upto_region 16 with (fail)
                  have hA2 := setCell2_insAt (X := X) (Y := 0) hg1
                  have e7' : ((W.setCell ⟨B, 1, none⟩ (.int .i64 X)).setCell ⟨B, 2, none⟩ (.int .i64 0)).cell? ⟨b, off + (k * 9 + 7), none⟩ = some (.int .u8 x7) := by rw [cell_setCell2 hbB]; exact e7
                  have e8' : ((W.setCell ⟨B, 1, none⟩ (.int .i64 X)).setCell ⟨B, 2, none⟩ (.int .i64 0)).cell? ⟨b, off + (k * 9 + 8), none⟩ = some (.int .u8 x8) := by rw [cell_setCell2 hbB]; exact e8
                  have hbW' : Hid (Below w.heap.size w ((W.setCell ⟨B, 1, none⟩ (.int .i64 X)).setCell ⟨B, 2, none⟩ (.int .i64 0))) := (hbW.out.setCell (by simpa using hsB) _).setCell (by simpa using hsB) _
                  have hownW' : Hid (World.ownsRow ((W.setCell ⟨B, 1, none⟩ (.int .i64 X)).setCell ⟨B, 2, none⟩ (.int .i64 0)) w.heap.size 40 4 u5 k (flatI (decL bs k))) := owns_setCell2 hownW.out hown'.out.lt hrB
                  clear e7 e8 hbW hownW hA0 a0 a1 a2 a3 hg1 fz1 fz2 hbB
                  obtain ⟨hA0, a0, a1, a2, a3⟩ := hA2
                  simp only [Nat.zero_add] at a0 a1 a2 a3
                  generalize ((W.setCell ⟨B, 1, none⟩ (.int .i64 X)).setCell ⟨B, 2, none⟩ (.int .i64 0)) = W at e7' e8' hbW' hownW' hA0 a0 a1 a2 a3 ⊢
                  have e7 := e7'
                  have e8 := e8'
                  have hbW := hbW'
                  have hownW := hownW'
                  clear e7' e8' hbW' hownW'
                  go_wp2
                  go_ret3
                  exact ⟨_, _, _, rfl, decQ_nil (hno.out htkv.out) hbW.out⟩
              · skip
                have htk0 : tk = false := by rw [hte.out]; simp [g7]
                have htkv := Lib.hid htk0
                clear htk0
                have hk1 : (x1 != 0) = false := by simp [g1]
                have hk7 : (x7 != 0) = true := by simp [g7]
                clear hte g1 g7 htk'
                have hodd : (x1 != 0) = false := hk1
                have h7 : (x7 != 0) = true := hk7
                have s2 : IntKind.i64.wrap ((k : Int) * 9 + 2) = (k : Int) * 9 + 2 := IntWalk.i64_in _ (by omega)
                have n2 : 0 ≤ (k : Int) * 9 + 2 := by omega
                have l2 : (k : Int) * 9 + 2 < (len : Int) := by omega
                have t2 : ((k : Int) * 9 + 2).toNat = k * 9 + 2 := by omega
                have s3 : IntKind.i64.wrap ((k : Int) * 9 + 3) = (k : Int) * 9 + 3 := IntWalk.i64_in _ (by omega)
                have n3 : 0 ≤ (k : Int) * 9 + 3 := by omega
                have l3 : (k : Int) * 9 + 3 < (len : Int) := by omega
                have t3 : ((k : Int) * 9 + 3).toNat = k * 9 + 3 := by omega
                have s4 : IntKind.i64.wrap ((k : Int) * 9 + 4) = (k : Int) * 9 + 4 := IntWalk.i64_in _ (by omega)
                have n4 : 0 ≤ (k : Int) * 9 + 4 := by omega
                have l4 : (k : Int) * 9 + 4 < (len : Int) := by omega
                have t4 : ((k : Int) * 9 + 4).toNat = k * 9 + 4 := by omega
                have s5 : IntKind.i64.wrap ((k : Int) * 9 + 5) = (k : Int) * 9 + 5 := IntWalk.i64_in _ (by omega)
                have n5 : 0 ≤ (k : Int) * 9 + 5 := by omega
                have l5 : (k : Int) * 9 + 5 < (len : Int) := by omega
                have t5 : ((k : Int) * 9 + 5).toNat = k * 9 + 5 := by omega
                go_wp2_with fail
                go_quiet (fail)
                clear s2 s3 s4 s5 n2 n3 n4 n5 l2 l3 l4 l5 t2 t3 t4 t5
                go_wp2
                rw [hor.out]
                clear hor
                generalize x2 * 16777216 + x3 * 65536 + x4 * 256 + x5 = Y at wY ⊢
                generalize wordOf x2 x3 x4 x5 = X at wY wX hmy hdl ⊢
                have hrd := Read.drew wr nq
                have d0 := hrd.cell hbr c0
                have d1 := hrd.cell hbr c1
                have d6 := hrd.cell hbr c6
                have d7 := hrd.cell hbr c7
                have d8 := hrd.cell hbr c8
                clear c0 c1 c2 c3 c4 c5 c6 c7 c8
                generalize wr.drewN nq = W1 at hrd d0 d1 d6 d7 d8 ⊢
                have s1 : IntKind.i64.wrap ((k : Int) * 9 + 1) = (k : Int) * 9 + 1 := IntWalk.i64_in _ (by omega)
                have n1 : 0 ≤ (k : Int) * 9 + 1 := by omega
                have l1 : (k : Int) * 9 + 1 < (len : Int) := by omega
                have t1 : ((k : Int) * 9 + 1).toNat = k * 9 + 1 := by omega
                have s6 : IntKind.i64.wrap ((k : Int) * 9 + 6) = (k : Int) * 9 + 6 := IntWalk.i64_in _ (by omega)
                have n6 : 0 ≤ (k : Int) * 9 + 6 := by omega
                have l6 : (k : Int) * 9 + 6 < (len : Int) := by omega
                have t6 : ((k : Int) * 9 + 6).toNat = k * 9 + 6 := by omega
                have n0 : 0 ≤ (k : Int) * 9 := by omega
                have l0 : (k : Int) * 9 < (len : Int) := by omega
                have t0 : ((k : Int) * 9).toNat = k * 9 := by omega
                go_region_held3 (fun w' => w'.cell? ⟨b, off + k * 9, none⟩ = some (.int .u8 10) ∧ w'.cell? ⟨b, off + (k * 9 + 1), none⟩ = some (.int .u8 x1) ∧ w'.cell? ⟨b, off + (k * 9 + 6), none⟩ = some (.int .u8 x6))
                  (first | exact ⟨d0, d1, d6⟩ | exact ⟨Lib.cell?_alloc_some _ d0, Lib.cell?_alloc_some _ d1, Lib.cell?_alloc_some _ d6⟩ | go_keep)
                  (fail)
                rename_i hHeld
                clear s1 s6 n0 n1 n6 l0 l1 l6 t0 t1 t6 wx0 wx1 wx6 wY wX d0 d1 d6 hHeld
                go_upto_region 12 with (fail)
                have hA : InsAt (W1.alloc (.cells #[.int .i64 10, .int .i64 x1, .int .i64 X, .int .i64 x6] 40)).drew W1.heap.size 0 ⟨10, x1, X, x6⟩ := InsAt.mk W1 10 x1 X x6
                have e7 : ((W1.alloc (.cells #[.int .i64 10, .int .i64 x1, .int .i64 X, .int .i64 x6] 40)).drew).cell? ⟨b, off + (k * 9 + 7), none⟩ = some (.int .u8 x7) := Lib.cell?_alloc_some _ d7
                have e8 : ((W1.alloc (.cells #[.int .i64 10, .int .i64 x1, .int .i64 X, .int .i64 x6] 40)).drew).cell? ⟨b, off + (k * 9 + 8), none⟩ = some (.int .u8 x8) := Lib.cell?_alloc_some _ d8
                have hs1 := hrd.size
                have hbW : Hid (Below w.heap.size w (W1.alloc (.cells #[.int .i64 10, .int .i64 x1, .int .i64 X, .int .i64 x6] 40)).drew) := ((hbk'.out.trans (hrd.below.mono hbs)).alloc (by omega) _).drew
                have hownW : Hid (World.ownsRow (W1.alloc (.cells #[.int .i64 10, .int .i64 x1, .int .i64 X, .int .i64 x6] 40)).drew w.heap.size 40 4 u5 k (flatI (decL bs k))) := ((ownsRow_below hown'.out hrd.below).alloc _).drew
                have hsB : w.heap.size ≤ W1.heap.size := by omega
                have hrB : wr.heap.size ≤ W1.heap.size := hs1
                clear d7 d8 hrd hs1
                have hg1 : ((W1.alloc (.cells #[.int .i64 10, .int .i64 x1, .int .i64 X, .int .i64 x6] 40)).drew).heap[W1.heap.size]? = some (.cells #[.int .i64 10, .int .i64 x1, .int .i64 X, .int .i64 x6] 40 (0, 0)) := heap_alloc_new W1 _
                obtain ⟨hA0, a0, a1, a2, a3⟩ := hA
                simp only [Nat.zero_add] at a0 a1 a2 a3
                generalize (W1.alloc (.cells #[.int .i64 10, .int .i64 x1, .int .i64 X, .int .i64 x6] 40)).drew = W at e7 e8 hbW hownW hA0 a0 a1 a2 a3 hg1 ⊢
                generalize W1.heap.size = B at hsB hrB hA0 a0 a1 a2 a3 hg1 ⊢
                have fz1 : W.frozen? ⟨B, 1, none⟩ = false := by simp [World.frozen?, hg1]
                have fz2 : W.frozen? ⟨B, 2, none⟩ = false := by simp [World.frozen?, hg1]
                have hbB : b ≠ B := by omega
                go_upto_region 16 with (fail)
                have hA2 := setCell2_insAt (X := X) (Y := 0) hg1
                have e7' : ((W.setCell ⟨B, 1, none⟩ (.int .i64 X)).setCell ⟨B, 2, none⟩ (.int .i64 0)).cell? ⟨b, off + (k * 9 + 7), none⟩ = some (.int .u8 x7) := by rw [cell_setCell2 hbB]; exact e7
                have e8' : ((W.setCell ⟨B, 1, none⟩ (.int .i64 X)).setCell ⟨B, 2, none⟩ (.int .i64 0)).cell? ⟨b, off + (k * 9 + 8), none⟩ = some (.int .u8 x8) := by rw [cell_setCell2 hbB]; exact e8
                have hbW' : Hid (Below w.heap.size w ((W.setCell ⟨B, 1, none⟩ (.int .i64 X)).setCell ⟨B, 2, none⟩ (.int .i64 0))) := (hbW.out.setCell (by simpa using hsB) _).setCell (by simpa using hsB) _
                have hownW' : Hid (World.ownsRow ((W.setCell ⟨B, 1, none⟩ (.int .i64 X)).setCell ⟨B, 2, none⟩ (.int .i64 0)) w.heap.size 40 4 u5 k (flatI (decL bs k))) := owns_setCell2 hownW.out hown'.out.lt hrB
                clear e7 e8 hbW hownW hA0 a0 a1 a2 a3 hg1 fz1 fz2 hbB
                obtain ⟨hA0, a0, a1, a2, a3⟩ := hA2
                simp only [Nat.zero_add] at a0 a1 a2 a3
                generalize ((W.setCell ⟨B, 1, none⟩ (.int .i64 X)).setCell ⟨B, 2, none⟩ (.int .i64 0)) = W at e7' e8' hbW' hownW' hA0 a0 a1 a2 a3 ⊢
                have e7 := e7'
                have e8 := e8'
                have hbW := hbW'
                have hownW := hownW'
                clear e7' e8' hbW' hownW'
                go_wp2
                go_ret3
                exact ⟨_, _, _, rfl, decQ_nil (hno.out htkv.out) hbW.out⟩
            · skip
              have htk0 : tk = false := by rw [hte.out]; simp [g1]
              have htkv := Lib.hid htk0
              clear htk0
              have hk1 : (x1 != 0) = true := by simp [g1]
              clear hte g1 htk'
              have hodd : (x1 != 0) = true := hk1
              have s2 : IntKind.i64.wrap ((k : Int) * 9 + 2) = (k : Int) * 9 + 2 := IntWalk.i64_in _ (by omega)
              have n2 : 0 ≤ (k : Int) * 9 + 2 := by omega
              have l2 : (k : Int) * 9 + 2 < (len : Int) := by omega
              have t2 : ((k : Int) * 9 + 2).toNat = k * 9 + 2 := by omega
              have s3 : IntKind.i64.wrap ((k : Int) * 9 + 3) = (k : Int) * 9 + 3 := IntWalk.i64_in _ (by omega)
              have n3 : 0 ≤ (k : Int) * 9 + 3 := by omega
              have l3 : (k : Int) * 9 + 3 < (len : Int) := by omega
              have t3 : ((k : Int) * 9 + 3).toNat = k * 9 + 3 := by omega
              have s4 : IntKind.i64.wrap ((k : Int) * 9 + 4) = (k : Int) * 9 + 4 := IntWalk.i64_in _ (by omega)
              have n4 : 0 ≤ (k : Int) * 9 + 4 := by omega
              have l4 : (k : Int) * 9 + 4 < (len : Int) := by omega
              have t4 : ((k : Int) * 9 + 4).toNat = k * 9 + 4 := by omega
              have s5 : IntKind.i64.wrap ((k : Int) * 9 + 5) = (k : Int) * 9 + 5 := IntWalk.i64_in _ (by omega)
              have n5 : 0 ≤ (k : Int) * 9 + 5 := by omega
              have l5 : (k : Int) * 9 + 5 < (len : Int) := by omega
              have t5 : ((k : Int) * 9 + 5).toNat = k * 9 + 5 := by omega
              go_wp2_with fail
              go_quiet (fail)
              clear s2 s3 s4 s5 n2 n3 n4 n5 l2 l3 l4 l5 t2 t3 t4 t5
              go_wp2
              rw [hor.out]
              clear hor
              generalize x2 * 16777216 + x3 * 65536 + x4 * 256 + x5 = Y at wY ⊢
              generalize wordOf x2 x3 x4 x5 = X at wY wX hmy hdl ⊢
              have hrd := Read.drew wr nq
              have d0 := hrd.cell hbr c0
              have d1 := hrd.cell hbr c1
              have d6 := hrd.cell hbr c6
              have d7 := hrd.cell hbr c7
              have d8 := hrd.cell hbr c8
              clear c0 c1 c2 c3 c4 c5 c6 c7 c8
              generalize wr.drewN nq = W1 at hrd d0 d1 d6 d7 d8 ⊢
              have s1 : IntKind.i64.wrap ((k : Int) * 9 + 1) = (k : Int) * 9 + 1 := IntWalk.i64_in _ (by omega)
              have n1 : 0 ≤ (k : Int) * 9 + 1 := by omega
              have l1 : (k : Int) * 9 + 1 < (len : Int) := by omega
              have t1 : ((k : Int) * 9 + 1).toNat = k * 9 + 1 := by omega
              have s6 : IntKind.i64.wrap ((k : Int) * 9 + 6) = (k : Int) * 9 + 6 := IntWalk.i64_in _ (by omega)
              have n6 : 0 ≤ (k : Int) * 9 + 6 := by omega
              have l6 : (k : Int) * 9 + 6 < (len : Int) := by omega
              have t6 : ((k : Int) * 9 + 6).toNat = k * 9 + 6 := by omega
              have n0 : 0 ≤ (k : Int) * 9 := by omega
              have l0 : (k : Int) * 9 < (len : Int) := by omega
              have t0 : ((k : Int) * 9).toNat = k * 9 := by omega
              go_region_held3 (fun w' => w'.cell? ⟨b, off + k * 9, none⟩ = some (.int .u8 10) ∧ w'.cell? ⟨b, off + (k * 9 + 1), none⟩ = some (.int .u8 x1) ∧ w'.cell? ⟨b, off + (k * 9 + 6), none⟩ = some (.int .u8 x6))
                (first | exact ⟨d0, d1, d6⟩ | exact ⟨Lib.cell?_alloc_some _ d0, Lib.cell?_alloc_some _ d1, Lib.cell?_alloc_some _ d6⟩ | go_keep)
                (fail)
              rename_i hHeld
              clear s1 s6 n0 n1 n6 l0 l1 l6 t0 t1 t6 wx0 wx1 wx6 wY wX d0 d1 d6 hHeld
              go_upto_region 12 with (fail)
              have hA : InsAt (W1.alloc (.cells #[.int .i64 10, .int .i64 x1, .int .i64 X, .int .i64 x6] 40)).drew W1.heap.size 0 ⟨10, x1, X, x6⟩ := InsAt.mk W1 10 x1 X x6
              have e7 : ((W1.alloc (.cells #[.int .i64 10, .int .i64 x1, .int .i64 X, .int .i64 x6] 40)).drew).cell? ⟨b, off + (k * 9 + 7), none⟩ = some (.int .u8 x7) := Lib.cell?_alloc_some _ d7
              have e8 : ((W1.alloc (.cells #[.int .i64 10, .int .i64 x1, .int .i64 X, .int .i64 x6] 40)).drew).cell? ⟨b, off + (k * 9 + 8), none⟩ = some (.int .u8 x8) := Lib.cell?_alloc_some _ d8
              have hs1 := hrd.size
              have hbW : Hid (Below w.heap.size w (W1.alloc (.cells #[.int .i64 10, .int .i64 x1, .int .i64 X, .int .i64 x6] 40)).drew) := ((hbk'.out.trans (hrd.below.mono hbs)).alloc (by omega) _).drew
              have hownW : Hid (World.ownsRow (W1.alloc (.cells #[.int .i64 10, .int .i64 x1, .int .i64 X, .int .i64 x6] 40)).drew w.heap.size 40 4 u5 k (flatI (decL bs k))) := ((ownsRow_below hown'.out hrd.below).alloc _).drew
              have hsB : w.heap.size ≤ W1.heap.size := by omega
              have hrB : wr.heap.size ≤ W1.heap.size := hs1
              clear d7 d8 hrd hs1
              have hg1 : ((W1.alloc (.cells #[.int .i64 10, .int .i64 x1, .int .i64 X, .int .i64 x6] 40)).drew).heap[W1.heap.size]? = some (.cells #[.int .i64 10, .int .i64 x1, .int .i64 X, .int .i64 x6] 40 (0, 0)) := heap_alloc_new W1 _
              obtain ⟨hA0, a0, a1, a2, a3⟩ := hA
              simp only [Nat.zero_add] at a0 a1 a2 a3
              generalize (W1.alloc (.cells #[.int .i64 10, .int .i64 x1, .int .i64 X, .int .i64 x6] 40)).drew = W at e7 e8 hbW hownW hA0 a0 a1 a2 a3 hg1 ⊢
              generalize W1.heap.size = B at hsB hrB hA0 a0 a1 a2 a3 hg1 ⊢
              have fz1 : W.frozen? ⟨B, 1, none⟩ = false := by simp [World.frozen?, hg1]
              have fz2 : W.frozen? ⟨B, 2, none⟩ = false := by simp [World.frozen?, hg1]
              have hbB : b ≠ B := by omega
              go_upto_region 16 with (fail)
              have hA2 := setCell2_insAt (X := X) (Y := 0) hg1
              have e7' : ((W.setCell ⟨B, 1, none⟩ (.int .i64 X)).setCell ⟨B, 2, none⟩ (.int .i64 0)).cell? ⟨b, off + (k * 9 + 7), none⟩ = some (.int .u8 x7) := by rw [cell_setCell2 hbB]; exact e7
              have e8' : ((W.setCell ⟨B, 1, none⟩ (.int .i64 X)).setCell ⟨B, 2, none⟩ (.int .i64 0)).cell? ⟨b, off + (k * 9 + 8), none⟩ = some (.int .u8 x8) := by rw [cell_setCell2 hbB]; exact e8
              have hbW' : Hid (Below w.heap.size w ((W.setCell ⟨B, 1, none⟩ (.int .i64 X)).setCell ⟨B, 2, none⟩ (.int .i64 0))) := (hbW.out.setCell (by simpa using hsB) _).setCell (by simpa using hsB) _
              have hownW' : Hid (World.ownsRow ((W.setCell ⟨B, 1, none⟩ (.int .i64 X)).setCell ⟨B, 2, none⟩ (.int .i64 0)) w.heap.size 40 4 u5 k (flatI (decL bs k))) := owns_setCell2 hownW.out hown'.out.lt hrB
              clear e7 e8 hbW hownW hA0 a0 a1 a2 a3 hg1 fz1 fz2 hbB
              obtain ⟨hA0, a0, a1, a2, a3⟩ := hA2
              simp only [Nat.zero_add] at a0 a1 a2 a3
              generalize ((W.setCell ⟨B, 1, none⟩ (.int .i64 X)).setCell ⟨B, 2, none⟩ (.int .i64 0)) = W at e7' e8' hbW' hownW' hA0 a0 a1 a2 a3 ⊢
              have e7 := e7'
              have e8 := e8'
              have hbW := hbW'
              have hownW := hownW'
              clear e7' e8' hbW' hownW'
              go_wp2
              go_ret3
              exact ⟨_, _, _, rfl, decQ_nil (hno.out htkv.out) hbW.out⟩
          · obtain rfl : x = ⟨x0, x1, wordOf x2 x3 x4 x5, x6⟩ := by rw [hde.out]; simp [dec9, hop]
            clear hde hf
            simp only [I.val] at hmy
            by_cases g7 : x7 = 0
            · by_cases g8 : x8 = 0
              · cases mv with
                | true =>
                  have htk0 : tk = true := by rw [hte.out]; simp [hop, g7, g8]
                  have htkv := Lib.hid htk0
                  clear htk0
                  have hop' : (x0 == 10) = false := by simpa using hop
                  have hk7 : (x7 != 0) = false := by simp [g7]
                  have hk8 : (x8 != 0) = false := by simp [g8]
                  clear hte hop g7 g8 hno
                  have h7 : (x7 != 0) = false := hk7
                  have h8 : (x8 != 0) = false := hk8
                  have s2 : IntKind.i64.wrap ((k : Int) * 9 + 2) = (k : Int) * 9 + 2 := IntWalk.i64_in _ (by omega)
                  have n2 : 0 ≤ (k : Int) * 9 + 2 := by omega
                  have l2 : (k : Int) * 9 + 2 < (len : Int) := by omega
                  have t2 : ((k : Int) * 9 + 2).toNat = k * 9 + 2 := by omega
                  have s3 : IntKind.i64.wrap ((k : Int) * 9 + 3) = (k : Int) * 9 + 3 := IntWalk.i64_in _ (by omega)
                  have n3 : 0 ≤ (k : Int) * 9 + 3 := by omega
                  have l3 : (k : Int) * 9 + 3 < (len : Int) := by omega
                  have t3 : ((k : Int) * 9 + 3).toNat = k * 9 + 3 := by omega
                  have s4 : IntKind.i64.wrap ((k : Int) * 9 + 4) = (k : Int) * 9 + 4 := IntWalk.i64_in _ (by omega)
                  have n4 : 0 ≤ (k : Int) * 9 + 4 := by omega
                  have l4 : (k : Int) * 9 + 4 < (len : Int) := by omega
                  have t4 : ((k : Int) * 9 + 4).toNat = k * 9 + 4 := by omega
                  have s5 : IntKind.i64.wrap ((k : Int) * 9 + 5) = (k : Int) * 9 + 5 := IntWalk.i64_in _ (by omega)
                  have n5 : 0 ≤ (k : Int) * 9 + 5 := by omega
                  have l5 : (k : Int) * 9 + 5 < (len : Int) := by omega
                  have t5 : ((k : Int) * 9 + 5).toNat = k * 9 + 5 := by omega
                  go_wp2_with fail
                  go_quiet (fail)
                  clear s2 s3 s4 s5 n2 n3 n4 n5 l2 l3 l4 l5 t2 t3 t4 t5
                  go_wp2
                  rw [hor.out]
                  clear hor
                  generalize x2 * 16777216 + x3 * 65536 + x4 * 256 + x5 = Y at wY ⊢
                  generalize wordOf x2 x3 x4 x5 = X at wY wX hmy hdl ⊢
                  have hrd := Read.drew wr nq
                  have d0 := hrd.cell hbr c0
                  have d1 := hrd.cell hbr c1
                  have d6 := hrd.cell hbr c6
                  have d7 := hrd.cell hbr c7
                  have d8 := hrd.cell hbr c8
                  clear c0 c1 c2 c3 c4 c5 c6 c7 c8
                  generalize wr.drewN nq = W1 at hrd d0 d1 d6 d7 d8 ⊢
                  have s1 : IntKind.i64.wrap ((k : Int) * 9 + 1) = (k : Int) * 9 + 1 := IntWalk.i64_in _ (by omega)
                  have n1 : 0 ≤ (k : Int) * 9 + 1 := by omega
                  have l1 : (k : Int) * 9 + 1 < (len : Int) := by omega
                  have t1 : ((k : Int) * 9 + 1).toNat = k * 9 + 1 := by omega
                  have s6 : IntKind.i64.wrap ((k : Int) * 9 + 6) = (k : Int) * 9 + 6 := IntWalk.i64_in _ (by omega)
                  have n6 : 0 ≤ (k : Int) * 9 + 6 := by omega
                  have l6 : (k : Int) * 9 + 6 < (len : Int) := by omega
                  have t6 : ((k : Int) * 9 + 6).toNat = k * 9 + 6 := by omega
                  have n0 : 0 ≤ (k : Int) * 9 := by omega
                  have l0 : (k : Int) * 9 < (len : Int) := by omega
                  have t0 : ((k : Int) * 9).toNat = k * 9 := by omega
                  go_region_held3 (fun w' => w'.cell? ⟨b, off + k * 9, none⟩ = some (.int .u8 x0) ∧ w'.cell? ⟨b, off + (k * 9 + 1), none⟩ = some (.int .u8 x1) ∧ w'.cell? ⟨b, off + (k * 9 + 6), none⟩ = some (.int .u8 x6))
                    (first | exact ⟨d0, d1, d6⟩ | exact ⟨Lib.cell?_alloc_some _ d0, Lib.cell?_alloc_some _ d1, Lib.cell?_alloc_some _ d6⟩ | go_keep)
                    (fail)
                  rename_i hHeld
                  clear s1 s6 n0 n1 n6 l0 l1 l6 t0 t1 t6 wx0 wx1 wx6 wY wX d0 d1 d6 hHeld
                  go_upto_region 12 with (fail)
                  have hA : InsAt (W1.alloc (.cells #[.int .i64 x0, .int .i64 x1, .int .i64 X, .int .i64 x6] 40)).drew W1.heap.size 0 ⟨x0, x1, X, x6⟩ := InsAt.mk W1 x0 x1 X x6
                  have e7 : ((W1.alloc (.cells #[.int .i64 x0, .int .i64 x1, .int .i64 X, .int .i64 x6] 40)).drew).cell? ⟨b, off + (k * 9 + 7), none⟩ = some (.int .u8 x7) := Lib.cell?_alloc_some _ d7
                  have e8 : ((W1.alloc (.cells #[.int .i64 x0, .int .i64 x1, .int .i64 X, .int .i64 x6] 40)).drew).cell? ⟨b, off + (k * 9 + 8), none⟩ = some (.int .u8 x8) := Lib.cell?_alloc_some _ d8
                  have hs1 := hrd.size
                  have hbW : Hid (Below w.heap.size w (W1.alloc (.cells #[.int .i64 x0, .int .i64 x1, .int .i64 X, .int .i64 x6] 40)).drew) := ((hbk'.out.trans (hrd.below.mono hbs)).alloc (by omega) _).drew
                  have hownW : Hid (World.ownsRow (W1.alloc (.cells #[.int .i64 x0, .int .i64 x1, .int .i64 X, .int .i64 x6] 40)).drew w.heap.size 40 4 u5 k (flatI (decL bs k))) := ((ownsRow_below hown'.out hrd.below).alloc _).drew
                  have hsB : w.heap.size ≤ W1.heap.size := by omega
                  have hrB : wr.heap.size ≤ W1.heap.size := hs1
                  clear d7 d8 hrd hs1
                  obtain ⟨hA0, a0, a1, a2, a3⟩ := hA
                  simp only [Nat.zero_add] at a0 a1 a2 a3
                  generalize (W1.alloc (.cells #[.int .i64 x0, .int .i64 x1, .int .i64 X, .int .i64 x6] 40)).drew = W at e7 e8 hbW hownW hA0 a0 a1 a2 a3 ⊢
                  generalize W1.heap.size = B at hsB hrB hA0 a0 a1 a2 a3 ⊢
                  have hsW := hbW.out.size
                  go_wp2_with (first
                    | (go_at_call 23; refine (hmy _).mono ?_; rintro e w2 ⟨rfl, hr2⟩; have f0 := hr2.cell hA0 a0; have f1 := hr2.cell hA0 a1; have f2 := hr2.cell hA0 a2; have f3 := hr2.cell hA0 a3)
                    | (at_builtin; refine wpList_append_own _ rfl _ _ 22 rfl w.heap.size 40 i0 _ 4 32 Tryd.underlying22 hi hz0 hz1 hz2 rfl (by omega) _ _ _ rfl ((ownsRow_below hownW.out hr2.below).alloc _) ⟨w2.heap.size, 0, none⟩ 1 1 (flatI [⟨x0, x1, X, x6⟩]) rfl rfl ?c1 ?c2 ?c3 ?c4 ?c5 ?_))
                  case c1 => exact World.news_of_block (cs := #[.int .i64 x0, .int .i64 x1, .int .i64 X, .int .i64 x6]) (t := 40) (fr := (0, 0)) (heap_alloc_new w2 _)
                  case c2 => exact flatI_one _
                  case c3 => unfold maxLen; omega
                  case c4 => omega
                  case c5 => have := hr2.size; simp; omega
                  intro v' w4 hown4 hgrow4 hnil4
                  clear hnil4
                  have hown5 : Hid (w4.ownsRow w.heap.size 40 4 v' (k + 1) (flatI (decL bs (k + 1)))) := by rw [hdl.out, flatI_append]; exact hown4
                  have hb4 : Hid (Below w.heap.size w w4) := ((hbW.out.trans (hr2.below.mono hsW)).alloc (by have := hr2.size; omega) _).grown hgrow4 (by have := hr2.size; simp; omega) (fun k hk => (hown'.out.lt k hk).1)
                  clear hown4 hgrow4 hr2 e7 e8 hA0 a0 a1 a2 a3 f0 f1 f2 f3 hmy
                  go_wp2
                  go_roundw
                  case rel => exact ⟨k + 1, by omega, by go_num, hb4.out, hown5.out, htk'.out htkv.out⟩
                  case measure => simp [intOf]; omega
                | false =>
                  have htk0 : tk = false := by rw [hte.out]; simp
                  have htkv := Lib.hid htk0
                  clear htk0
                  have hop' : (x0 == 10) = false := by simpa using hop
                  have hk7 : (x7 != 0) = false := by simp [g7]
                  have hk8 : (x8 != 0) = false := by simp [g8]
                  clear hte hop g7 g8 htk'
                  have h7 : (x7 != 0) = false := hk7
                  have h8 : (x8 != 0) = false := hk8
                  have s2 : IntKind.i64.wrap ((k : Int) * 9 + 2) = (k : Int) * 9 + 2 := IntWalk.i64_in _ (by omega)
                  have n2 : 0 ≤ (k : Int) * 9 + 2 := by omega
                  have l2 : (k : Int) * 9 + 2 < (len : Int) := by omega
                  have t2 : ((k : Int) * 9 + 2).toNat = k * 9 + 2 := by omega
                  have s3 : IntKind.i64.wrap ((k : Int) * 9 + 3) = (k : Int) * 9 + 3 := IntWalk.i64_in _ (by omega)
                  have n3 : 0 ≤ (k : Int) * 9 + 3 := by omega
                  have l3 : (k : Int) * 9 + 3 < (len : Int) := by omega
                  have t3 : ((k : Int) * 9 + 3).toNat = k * 9 + 3 := by omega
                  have s4 : IntKind.i64.wrap ((k : Int) * 9 + 4) = (k : Int) * 9 + 4 := IntWalk.i64_in _ (by omega)
                  have n4 : 0 ≤ (k : Int) * 9 + 4 := by omega
                  have l4 : (k : Int) * 9 + 4 < (len : Int) := by omega
                  have t4 : ((k : Int) * 9 + 4).toNat = k * 9 + 4 := by omega
                  have s5 : IntKind.i64.wrap ((k : Int) * 9 + 5) = (k : Int) * 9 + 5 := IntWalk.i64_in _ (by omega)
                  have n5 : 0 ≤ (k : Int) * 9 + 5 := by omega
                  have l5 : (k : Int) * 9 + 5 < (len : Int) := by omega
                  have t5 : ((k : Int) * 9 + 5).toNat = k * 9 + 5 := by omega
                  go_wp2_with fail
                  go_quiet (fail)
                  clear s2 s3 s4 s5 n2 n3 n4 n5 l2 l3 l4 l5 t2 t3 t4 t5
                  go_wp2
                  rw [hor.out]
                  clear hor
                  generalize x2 * 16777216 + x3 * 65536 + x4 * 256 + x5 = Y at wY ⊢
                  generalize wordOf x2 x3 x4 x5 = X at wY wX hmy hdl ⊢
                  have hrd := Read.drew wr nq
                  have d0 := hrd.cell hbr c0
                  have d1 := hrd.cell hbr c1
                  have d6 := hrd.cell hbr c6
                  have d7 := hrd.cell hbr c7
                  have d8 := hrd.cell hbr c8
                  clear c0 c1 c2 c3 c4 c5 c6 c7 c8
                  generalize wr.drewN nq = W1 at hrd d0 d1 d6 d7 d8 ⊢
                  have s1 : IntKind.i64.wrap ((k : Int) * 9 + 1) = (k : Int) * 9 + 1 := IntWalk.i64_in _ (by omega)
                  have n1 : 0 ≤ (k : Int) * 9 + 1 := by omega
                  have l1 : (k : Int) * 9 + 1 < (len : Int) := by omega
                  have t1 : ((k : Int) * 9 + 1).toNat = k * 9 + 1 := by omega
                  have s6 : IntKind.i64.wrap ((k : Int) * 9 + 6) = (k : Int) * 9 + 6 := IntWalk.i64_in _ (by omega)
                  have n6 : 0 ≤ (k : Int) * 9 + 6 := by omega
                  have l6 : (k : Int) * 9 + 6 < (len : Int) := by omega
                  have t6 : ((k : Int) * 9 + 6).toNat = k * 9 + 6 := by omega
                  have n0 : 0 ≤ (k : Int) * 9 := by omega
                  have l0 : (k : Int) * 9 < (len : Int) := by omega
                  have t0 : ((k : Int) * 9).toNat = k * 9 := by omega
                  go_region_held3 (fun w' => w'.cell? ⟨b, off + k * 9, none⟩ = some (.int .u8 x0) ∧ w'.cell? ⟨b, off + (k * 9 + 1), none⟩ = some (.int .u8 x1) ∧ w'.cell? ⟨b, off + (k * 9 + 6), none⟩ = some (.int .u8 x6))
                    (first | exact ⟨d0, d1, d6⟩ | exact ⟨Lib.cell?_alloc_some _ d0, Lib.cell?_alloc_some _ d1, Lib.cell?_alloc_some _ d6⟩ | go_keep)
                    (fail)
                  rename_i hHeld
                  clear s1 s6 n0 n1 n6 l0 l1 l6 t0 t1 t6 wx0 wx1 wx6 wY wX d0 d1 d6 hHeld
                  go_upto_region 12 with (fail)
                  have hA : InsAt (W1.alloc (.cells #[.int .i64 x0, .int .i64 x1, .int .i64 X, .int .i64 x6] 40)).drew W1.heap.size 0 ⟨x0, x1, X, x6⟩ := InsAt.mk W1 x0 x1 X x6
                  have e7 : ((W1.alloc (.cells #[.int .i64 x0, .int .i64 x1, .int .i64 X, .int .i64 x6] 40)).drew).cell? ⟨b, off + (k * 9 + 7), none⟩ = some (.int .u8 x7) := Lib.cell?_alloc_some _ d7
                  have e8 : ((W1.alloc (.cells #[.int .i64 x0, .int .i64 x1, .int .i64 X, .int .i64 x6] 40)).drew).cell? ⟨b, off + (k * 9 + 8), none⟩ = some (.int .u8 x8) := Lib.cell?_alloc_some _ d8
                  have hs1 := hrd.size
                  have hbW : Hid (Below w.heap.size w (W1.alloc (.cells #[.int .i64 x0, .int .i64 x1, .int .i64 X, .int .i64 x6] 40)).drew) := ((hbk'.out.trans (hrd.below.mono hbs)).alloc (by omega) _).drew
                  have hownW : Hid (World.ownsRow (W1.alloc (.cells #[.int .i64 x0, .int .i64 x1, .int .i64 X, .int .i64 x6] 40)).drew w.heap.size 40 4 u5 k (flatI (decL bs k))) := ((ownsRow_below hown'.out hrd.below).alloc _).drew
                  have hsB : w.heap.size ≤ W1.heap.size := by omega
                  have hrB : wr.heap.size ≤ W1.heap.size := hs1
                  clear d7 d8 hrd hs1
                  obtain ⟨hA0, a0, a1, a2, a3⟩ := hA
                  simp only [Nat.zero_add] at a0 a1 a2 a3
                  generalize (W1.alloc (.cells #[.int .i64 x0, .int .i64 x1, .int .i64 X, .int .i64 x6] 40)).drew = W at e7 e8 hbW hownW hA0 a0 a1 a2 a3 ⊢
                  generalize W1.heap.size = B at hsB hrB hA0 a0 a1 a2 a3 ⊢
                  have hsW := hbW.out.size
                  go_wp2_with (go_at_call 23; refine (hmy _).mono ?_; rintro e w2 ⟨rfl, hr2⟩)
                  go_ret3
                  exact ⟨_, _, _, rfl, decQ_nil (hno.out htkv.out) (hbW.out.trans (hr2.below.mono hsW))⟩
              · skip
                have htk0 : tk = false := by rw [hte.out]; simp [g8]
                have htkv := Lib.hid htk0
                clear htk0
                have hop' : (x0 == 10) = false := by simpa using hop
                have hk7 : (x7 != 0) = false := by simp [g7]
                have hk8 : (x8 != 0) = true := by simp [g8]
                clear hte hop g7 g8 htk'
                have h7 : (x7 != 0) = false := hk7
                have h8 : (x8 != 0) = true := hk8
                have s2 : IntKind.i64.wrap ((k : Int) * 9 + 2) = (k : Int) * 9 + 2 := IntWalk.i64_in _ (by omega)
                have n2 : 0 ≤ (k : Int) * 9 + 2 := by omega
                have l2 : (k : Int) * 9 + 2 < (len : Int) := by omega
                have t2 : ((k : Int) * 9 + 2).toNat = k * 9 + 2 := by omega
                have s3 : IntKind.i64.wrap ((k : Int) * 9 + 3) = (k : Int) * 9 + 3 := IntWalk.i64_in _ (by omega)
                have n3 : 0 ≤ (k : Int) * 9 + 3 := by omega
                have l3 : (k : Int) * 9 + 3 < (len : Int) := by omega
                have t3 : ((k : Int) * 9 + 3).toNat = k * 9 + 3 := by omega
                have s4 : IntKind.i64.wrap ((k : Int) * 9 + 4) = (k : Int) * 9 + 4 := IntWalk.i64_in _ (by omega)
                have n4 : 0 ≤ (k : Int) * 9 + 4 := by omega
                have l4 : (k : Int) * 9 + 4 < (len : Int) := by omega
                have t4 : ((k : Int) * 9 + 4).toNat = k * 9 + 4 := by omega
                have s5 : IntKind.i64.wrap ((k : Int) * 9 + 5) = (k : Int) * 9 + 5 := IntWalk.i64_in _ (by omega)
                have n5 : 0 ≤ (k : Int) * 9 + 5 := by omega
                have l5 : (k : Int) * 9 + 5 < (len : Int) := by omega
                have t5 : ((k : Int) * 9 + 5).toNat = k * 9 + 5 := by omega
                go_wp2_with fail
                go_quiet (fail)
                clear s2 s3 s4 s5 n2 n3 n4 n5 l2 l3 l4 l5 t2 t3 t4 t5
                go_wp2
                rw [hor.out]
                clear hor
                generalize x2 * 16777216 + x3 * 65536 + x4 * 256 + x5 = Y at wY ⊢
                generalize wordOf x2 x3 x4 x5 = X at wY wX hmy hdl ⊢
                have hrd := Read.drew wr nq
                have d0 := hrd.cell hbr c0
                have d1 := hrd.cell hbr c1
                have d6 := hrd.cell hbr c6
                have d7 := hrd.cell hbr c7
                have d8 := hrd.cell hbr c8
                clear c0 c1 c2 c3 c4 c5 c6 c7 c8
                generalize wr.drewN nq = W1 at hrd d0 d1 d6 d7 d8 ⊢
                have s1 : IntKind.i64.wrap ((k : Int) * 9 + 1) = (k : Int) * 9 + 1 := IntWalk.i64_in _ (by omega)
                have n1 : 0 ≤ (k : Int) * 9 + 1 := by omega
                have l1 : (k : Int) * 9 + 1 < (len : Int) := by omega
                have t1 : ((k : Int) * 9 + 1).toNat = k * 9 + 1 := by omega
                have s6 : IntKind.i64.wrap ((k : Int) * 9 + 6) = (k : Int) * 9 + 6 := IntWalk.i64_in _ (by omega)
                have n6 : 0 ≤ (k : Int) * 9 + 6 := by omega
                have l6 : (k : Int) * 9 + 6 < (len : Int) := by omega
                have t6 : ((k : Int) * 9 + 6).toNat = k * 9 + 6 := by omega
                have n0 : 0 ≤ (k : Int) * 9 := by omega
                have l0 : (k : Int) * 9 < (len : Int) := by omega
                have t0 : ((k : Int) * 9).toNat = k * 9 := by omega
                go_region_held3 (fun w' => w'.cell? ⟨b, off + k * 9, none⟩ = some (.int .u8 x0) ∧ w'.cell? ⟨b, off + (k * 9 + 1), none⟩ = some (.int .u8 x1) ∧ w'.cell? ⟨b, off + (k * 9 + 6), none⟩ = some (.int .u8 x6))
                  (first | exact ⟨d0, d1, d6⟩ | exact ⟨Lib.cell?_alloc_some _ d0, Lib.cell?_alloc_some _ d1, Lib.cell?_alloc_some _ d6⟩ | go_keep)
                  (fail)
                rename_i hHeld
                clear s1 s6 n0 n1 n6 l0 l1 l6 t0 t1 t6 wx0 wx1 wx6 wY wX d0 d1 d6 hHeld
                go_upto_region 12 with (fail)
                have hA : InsAt (W1.alloc (.cells #[.int .i64 x0, .int .i64 x1, .int .i64 X, .int .i64 x6] 40)).drew W1.heap.size 0 ⟨x0, x1, X, x6⟩ := InsAt.mk W1 x0 x1 X x6
                have e7 : ((W1.alloc (.cells #[.int .i64 x0, .int .i64 x1, .int .i64 X, .int .i64 x6] 40)).drew).cell? ⟨b, off + (k * 9 + 7), none⟩ = some (.int .u8 x7) := Lib.cell?_alloc_some _ d7
                have e8 : ((W1.alloc (.cells #[.int .i64 x0, .int .i64 x1, .int .i64 X, .int .i64 x6] 40)).drew).cell? ⟨b, off + (k * 9 + 8), none⟩ = some (.int .u8 x8) := Lib.cell?_alloc_some _ d8
                have hs1 := hrd.size
                have hbW : Hid (Below w.heap.size w (W1.alloc (.cells #[.int .i64 x0, .int .i64 x1, .int .i64 X, .int .i64 x6] 40)).drew) := ((hbk'.out.trans (hrd.below.mono hbs)).alloc (by omega) _).drew
                have hownW : Hid (World.ownsRow (W1.alloc (.cells #[.int .i64 x0, .int .i64 x1, .int .i64 X, .int .i64 x6] 40)).drew w.heap.size 40 4 u5 k (flatI (decL bs k))) := ((ownsRow_below hown'.out hrd.below).alloc _).drew
                have hsB : w.heap.size ≤ W1.heap.size := by omega
                have hrB : wr.heap.size ≤ W1.heap.size := hs1
                clear d7 d8 hrd hs1
                obtain ⟨hA0, a0, a1, a2, a3⟩ := hA
                simp only [Nat.zero_add] at a0 a1 a2 a3
                generalize (W1.alloc (.cells #[.int .i64 x0, .int .i64 x1, .int .i64 X, .int .i64 x6] 40)).drew = W at e7 e8 hbW hownW hA0 a0 a1 a2 a3 ⊢
                generalize W1.heap.size = B at hsB hrB hA0 a0 a1 a2 a3 ⊢
                go_wp2
                go_ret3
                exact ⟨_, _, _, rfl, decQ_nil (hno.out htkv.out) hbW.out⟩
            · skip
              have htk0 : tk = false := by rw [hte.out]; simp [g7]
              have htkv := Lib.hid htk0
              clear htk0
              have hop' : (x0 == 10) = false := by simpa using hop
              have hk7 : (x7 != 0) = true := by simp [g7]
              clear hte hop g7 htk'
              have h7 : (x7 != 0) = true := hk7
              have s2 : IntKind.i64.wrap ((k : Int) * 9 + 2) = (k : Int) * 9 + 2 := IntWalk.i64_in _ (by omega)
              have n2 : 0 ≤ (k : Int) * 9 + 2 := by omega
              have l2 : (k : Int) * 9 + 2 < (len : Int) := by omega
              have t2 : ((k : Int) * 9 + 2).toNat = k * 9 + 2 := by omega
              have s3 : IntKind.i64.wrap ((k : Int) * 9 + 3) = (k : Int) * 9 + 3 := IntWalk.i64_in _ (by omega)
              have n3 : 0 ≤ (k : Int) * 9 + 3 := by omega
              have l3 : (k : Int) * 9 + 3 < (len : Int) := by omega
              have t3 : ((k : Int) * 9 + 3).toNat = k * 9 + 3 := by omega
              have s4 : IntKind.i64.wrap ((k : Int) * 9 + 4) = (k : Int) * 9 + 4 := IntWalk.i64_in _ (by omega)
              have n4 : 0 ≤ (k : Int) * 9 + 4 := by omega
              have l4 : (k : Int) * 9 + 4 < (len : Int) := by omega
              have t4 : ((k : Int) * 9 + 4).toNat = k * 9 + 4 := by omega
              have s5 : IntKind.i64.wrap ((k : Int) * 9 + 5) = (k : Int) * 9 + 5 := IntWalk.i64_in _ (by omega)
              have n5 : 0 ≤ (k : Int) * 9 + 5 := by omega
              have l5 : (k : Int) * 9 + 5 < (len : Int) := by omega
              have t5 : ((k : Int) * 9 + 5).toNat = k * 9 + 5 := by omega
              go_wp2_with fail
              go_quiet (fail)
              clear s2 s3 s4 s5 n2 n3 n4 n5 l2 l3 l4 l5 t2 t3 t4 t5
              go_wp2
              rw [hor.out]
              clear hor
              generalize x2 * 16777216 + x3 * 65536 + x4 * 256 + x5 = Y at wY ⊢
              generalize wordOf x2 x3 x4 x5 = X at wY wX hmy hdl ⊢
              have hrd := Read.drew wr nq
              have d0 := hrd.cell hbr c0
              have d1 := hrd.cell hbr c1
              have d6 := hrd.cell hbr c6
              have d7 := hrd.cell hbr c7
              have d8 := hrd.cell hbr c8
              clear c0 c1 c2 c3 c4 c5 c6 c7 c8
              generalize wr.drewN nq = W1 at hrd d0 d1 d6 d7 d8 ⊢
              have s1 : IntKind.i64.wrap ((k : Int) * 9 + 1) = (k : Int) * 9 + 1 := IntWalk.i64_in _ (by omega)
              have n1 : 0 ≤ (k : Int) * 9 + 1 := by omega
              have l1 : (k : Int) * 9 + 1 < (len : Int) := by omega
              have t1 : ((k : Int) * 9 + 1).toNat = k * 9 + 1 := by omega
              have s6 : IntKind.i64.wrap ((k : Int) * 9 + 6) = (k : Int) * 9 + 6 := IntWalk.i64_in _ (by omega)
              have n6 : 0 ≤ (k : Int) * 9 + 6 := by omega
              have l6 : (k : Int) * 9 + 6 < (len : Int) := by omega
              have t6 : ((k : Int) * 9 + 6).toNat = k * 9 + 6 := by omega
              have n0 : 0 ≤ (k : Int) * 9 := by omega
              have l0 : (k : Int) * 9 < (len : Int) := by omega
              have t0 : ((k : Int) * 9).toNat = k * 9 := by omega
              go_region_held3 (fun w' => w'.cell? ⟨b, off + k * 9, none⟩ = some (.int .u8 x0) ∧ w'.cell? ⟨b, off + (k * 9 + 1), none⟩ = some (.int .u8 x1) ∧ w'.cell? ⟨b, off + (k * 9 + 6), none⟩ = some (.int .u8 x6))
                (first | exact ⟨d0, d1, d6⟩ | exact ⟨Lib.cell?_alloc_some _ d0, Lib.cell?_alloc_some _ d1, Lib.cell?_alloc_some _ d6⟩ | go_keep)
                (fail)
              rename_i hHeld
              clear s1 s6 n0 n1 n6 l0 l1 l6 t0 t1 t6 wx0 wx1 wx6 wY wX d0 d1 d6 hHeld
              go_upto_region 12 with (fail)
              have hA : InsAt (W1.alloc (.cells #[.int .i64 x0, .int .i64 x1, .int .i64 X, .int .i64 x6] 40)).drew W1.heap.size 0 ⟨x0, x1, X, x6⟩ := InsAt.mk W1 x0 x1 X x6
              have e7 : ((W1.alloc (.cells #[.int .i64 x0, .int .i64 x1, .int .i64 X, .int .i64 x6] 40)).drew).cell? ⟨b, off + (k * 9 + 7), none⟩ = some (.int .u8 x7) := Lib.cell?_alloc_some _ d7
              have e8 : ((W1.alloc (.cells #[.int .i64 x0, .int .i64 x1, .int .i64 X, .int .i64 x6] 40)).drew).cell? ⟨b, off + (k * 9 + 8), none⟩ = some (.int .u8 x8) := Lib.cell?_alloc_some _ d8
              have hs1 := hrd.size
              have hbW : Hid (Below w.heap.size w (W1.alloc (.cells #[.int .i64 x0, .int .i64 x1, .int .i64 X, .int .i64 x6] 40)).drew) := ((hbk'.out.trans (hrd.below.mono hbs)).alloc (by omega) _).drew
              have hownW : Hid (World.ownsRow (W1.alloc (.cells #[.int .i64 x0, .int .i64 x1, .int .i64 X, .int .i64 x6] 40)).drew w.heap.size 40 4 u5 k (flatI (decL bs k))) := ((ownsRow_below hown'.out hrd.below).alloc _).drew
              have hsB : w.heap.size ≤ W1.heap.size := by omega
              have hrB : wr.heap.size ≤ W1.heap.size := hs1
              clear d7 d8 hrd hs1
              obtain ⟨hA0, a0, a1, a2, a3⟩ := hA
              simp only [Nat.zero_add] at a0 a1 a2 a3
              generalize (W1.alloc (.cells #[.int .i64 x0, .int .i64 x1, .int .i64 X, .int .i64 x6] 40)).drew = W at e7 e8 hbW hownW hA0 a0 a1 a2 a3 ⊢
              generalize W1.heap.size = B at hsB hrB hA0 a0 a1 a2 a3 ⊢
              go_wp2
              go_ret3
              exact ⟨_, _, _, rfl, decQ_nil (hno.out htkv.out) hbW.out⟩
        · have hk' : k = len / 9 := by omega
          subst hk'
          obtain ⟨a', cap', rfl, hI⟩ := inss_of_own hown (decL_fits hB.out.2.2.2.1 _)
          have hQ : Hid (DecQ w wr bs (.slice a' (len / 9) cap') (len : Nat) 0) := by
            have hD : DecP bs (decL bs (bs.length / 9)) (bs.length : Nat) 0 := .ok (by rw [hlen.out]; exact hl) (by rw [hlen.out]; exact hmod.out) (by rw [hlen.out]; exact htk.out)
            rw [hlen.out] at hD
            refine ⟨_, a', cap', hD, ?_, ?_, hbk⟩
            · rw [decL_length]
            · rw [decL_length]; exact hI
          clear hI hown hbk htk
          go_wp2
          go_ret3
          exact ⟨_, _, _, rfl, hQ.out⟩
    · have hm1 : ((len : Int) % 9 != 0) = true := by simp; omega
      go_enter Tryd.func17, Tryd.ntmps17
      go_wp2
      go_ret3
      exact ⟨_, _, _, ret_dec (by rw [hlen.out]; omega), decQ_nil (.short (by rw [hlen.out]; exact hl) (by rw [hlen.out]; exact hm)) (Below.refl _ _)⟩

end Go.Proofs.YtpbmfhbcnllkaaaDoor
