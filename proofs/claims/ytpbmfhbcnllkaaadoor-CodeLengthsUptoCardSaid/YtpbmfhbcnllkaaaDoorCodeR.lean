/-
  The contract of the program's read, at every nine bytes.
-/
import Derived.Test.YtpbmfhbcnllkaaaDoorCodeO
import Derived.Test.YtpbmfhbcnllkaaaDoorShelf
import Derived.Laws.BitsAllLaws
import Derived.IntWalk
namespace Go.Proofs.YtpbmfhbcnllkaaaDoor
open Go.ChangeShapes Go.WideShapes Go.ChangeAt Go.RowKit Go.Sort
set_option linter.unusedVariables false

theorem or_mulR (a b i m : Nat) (hm : m = 2 ^ i) (h : a < m) : (b * m) ||| a = b * m + a := by
  subst hm
  rw [← Nat.shiftLeft_eq, Nat.shiftLeft_add_eq_or_of_lt h]
/-- The four bytes, as the texts work them out. -/
theorem orBits (p q r s : Int) (hp : byteP p) (hq : byteP q) (hr : byteP r) (hs : byteP s) :
    bits .or .u32 (bits .or .u32 (bits .or .u32 (p * 16777216) (q * 65536)) (r * 256)) s = p * 16777216 + q * 65536 + r * 256 + s := by
  unfold byteP at *
  obtain ⟨n0, rfl⟩ := Int.eq_ofNat_of_zero_le hp.1
  obtain ⟨n1, rfl⟩ := Int.eq_ofNat_of_zero_le hq.1
  obtain ⟨n2, rfl⟩ := Int.eq_ofNat_of_zero_le hr.1
  obtain ⟨n3, rfl⟩ := Int.eq_ofNat_of_zero_le hs.1
  have e2 : ((n2 : Int) * 256) = ((n2 * 256 : Nat) : Int) := by omega
  have e1 : ((n1 : Int) * 65536) = ((n1 * 65536 : Nat) : Int) := by omega
  have e0 : ((n0 : Int) * 16777216) = ((n0 * 16777216 : Nat) : Int) := by omega
  rw [e2, e1, e0, u32_or_nat (n0 * 16777216) (n1 * 65536) (by omega) (by omega), or_mulR (n1 * 65536) n0 24 16777216 (by decide) (by omega)]
  rw [u32_or_nat _ (n2 * 256) (by omega) (by omega), show n0 * 16777216 + n1 * 65536 = (n0 * 256 + n1) * 65536 by omega, or_mulR (n2 * 256) _ 16 65536 (by decide) (by omega)]
  rw [u32_or_nat _ n3 (by omega) (by omega), show (n0 * 256 + n1) * 65536 + n2 * 256 = ((n0 * 256 + n1) * 256 + n2) * 256 by omega, or_mulR n3 _ 8 256 (by decide) (by omega)]
  omega
theorem wordBits (p q r s : Int) (hp : byteP p) (hq : byteP q) (hr : byteP r) (hs : byteP s) :
    wrap64 (wrap32 (bits .or .u32 (bits .or .u32 (bits .or .u32 (p * 16777216) (q * 65536)) (r * 256)) s)) = wordOf p q r s := by
  rw [orBits p q r s hp hq hr hs]
  unfold byteP at *
  unfold wrap64 wrap32 wordOf
  split <;> omega
theorem infoI : (Tryd.prog.info? 40).map (·.size) = some 4 := by kernel_rfl
theorem insAt_block {W : World} {B : Nat} (i : I) (h : W.heap[B]? = some (.cells i.cells 40 (0, 0))) : InsAt W B 0 i := by
  refine ⟨(Array.getElem?_eq_some_iff.1 h).1, ?_, ?_, ?_, ?_⟩ <;> simp [World.cell?, h, I.cells]
/-- What a whole store into a block of an instruction leaves. -/
theorem setRow_insAt {W : World} {B : Nat} {old : Array Value} (i : I) (h : W.heap[B]? = some (.cells old 40 (0, 0))) : InsAt (W.setRow B i.cells) B 0 i := insAt_block i (setRow_heap W B old i.cells _ _ h)
theorem below_setRow {B0 B : Nat} {w W : World} (h : Below B0 w W) (hB : B0 ≤ B) (c : Array Value) : Below B0 w (W.setRow B c) :=
  h.trans ⟨rfl, rfl, rfl, by simp [World.setRow], fun k hk => setRow_other W B k c (by omega)⟩
theorem Read.block {w w' : World} {b : Nat} {o : Obj} (h : Read w w') (hb : w.heap[b]? = some o) : w'.heap[b]? = some o := by
  rw [h.below.block b (Array.getElem?_eq_some_iff.1 hb).1]; exact hb
theorem one4 (a b c d : Int) : (#[.int .i64 a, .int .i64 b, .int .i64 c, .int .i64 d] : Array Value).all (·.oneCell') = true := by simp [Value.oneCell']
theorem byts_nine {w : World} {b off cap : Nat} {x0 x1 x2 x3 x4 x5 x6 x7 x8 : Int} (hlt : b < w.heap.size)
    (c0 : w.cell? ⟨b, off, none⟩ = some (.int .u8 x0)) (c1 : w.cell? ⟨b, off + 1, none⟩ = some (.int .u8 x1)) (c2 : w.cell? ⟨b, off + 2, none⟩ = some (.int .u8 x2)) (c3 : w.cell? ⟨b, off + 3, none⟩ = some (.int .u8 x3))
    (c4 : w.cell? ⟨b, off + 4, none⟩ = some (.int .u8 x4)) (c5 : w.cell? ⟨b, off + 5, none⟩ = some (.int .u8 x5)) (c6 : w.cell? ⟨b, off + 6, none⟩ = some (.int .u8 x6)) (c7 : w.cell? ⟨b, off + 7, none⟩ = some (.int .u8 x7)) (c8 : w.cell? ⟨b, off + 8, none⟩ = some (.int .u8 x8))
    (b0 : byteP x0) (b1 : byteP x1) (b2 : byteP x2) (b3 : byteP x3) (b4 : byteP x4) (b5 : byteP x5) (b6 : byteP x6) (b7 : byteP x7) (b8 : byteP x8) (hc : 9 ≤ cap) (hm : cap ≤ maxLen) :
    Byts w (some ⟨b, off, none⟩) 9 cap [x0, x1, x2, x3, x4, x5, x6, x7, x8] := by
  refine ⟨rfl, hc, hm, ?_, .inr ⟨b, off, rfl, hlt, fun k hk => ?_⟩⟩
  · intro x hx
    simp only [List.mem_cons, List.not_mem_nil, or_false] at hx
    rcases hx with rfl | rfl | rfl | rfl | rfl | rfl | rfl | rfl | rfl <;> assumption
  · rcases (by omega : k = 0 ∨ k = 1 ∨ k = 2 ∨ k = 3 ∨ k = 4 ∨ k = 5 ∨ k = 6 ∨ k = 7 ∨ k = 8) with rfl | rfl | rfl | rfl | rfl | rfl | rfl | rfl | rfl <;> simpa
/-- Two fields of an instruction's block written. -/
theorem setCell2_blocks {W : World} {B : Nat} {o : Obj} {a0 a1 a2 a3 v1 v2 : Value} (h0 : W.heap[B]? = some o) (h1 : W.heap[B + 1]? = some (.cells #[a0, a1, a2, a3] 40 (0, 0))) :
    ((W.setCell ⟨B + 1, 1, none⟩ v1).setCell ⟨B + 1, 2, none⟩ v2).heap[B]? = some o ∧ ((W.setCell ⟨B + 1, 1, none⟩ v1).setCell ⟨B + 1, 2, none⟩ v2).heap[B + 1]? = some (.cells #[a0, v1, v2, a3] 40 (0, 0)) := by
  constructor
  · rw [Below.heap_setCell _ _ _ _ (by simp), Below.heap_setCell _ _ _ _ (by simp)]; exact h0
  · simp [World.setCell, Array.getElem?_modify, h1]
/-- The world with the result's block and the instruction's. -/
theorem two_blocks (w : World) (n : Nat) (z c : Array Value) : (((w.alloc (.cells z 40)).drewN n).alloc (.cells c 40)).heap[w.heap.size]? = some (.cells z 40 (0, 0)) ∧ (((w.alloc (.cells z 40)).drewN n).alloc (.cells c 40)).heap[w.heap.size + 1]? = some (.cells c 40 (0, 0)) := by
  constructor
  · show ((w.heap.push _).push _)[w.heap.size]? = _
    rw [Array.getElem?_push, if_neg (by simp), Array.getElem?_push, if_pos rfl]
  · show ((w.heap.push _).push _)[w.heap.size + 1]? = _
    rw [Array.getElem?_push, if_pos (by simp)]

set_option maxRecDepth 100000 in
set_option maxHeartbeats 2000000 in
theorem cread_other_bad (b off cap : Nat) (x0 x1 x2 x3 x4 x5 x6 : Int) (n : Int) (w : World) (hlt : b < w.heap.size)
    (c0 : w.cell? ⟨b, off, none⟩ = some (.int .u8 x0)) (c1 : w.cell? ⟨b, off + 1, none⟩ = some (.int .u8 x1)) (c2 : w.cell? ⟨b, off + 2, none⟩ = some (.int .u8 x2)) (c3 : w.cell? ⟨b, off + 3, none⟩ = some (.int .u8 x3))
    (c4 : w.cell? ⟨b, off + 4, none⟩ = some (.int .u8 x4)) (c5 : w.cell? ⟨b, off + 5, none⟩ = some (.int .u8 x5)) (c6 : w.cell? ⟨b, off + 6, none⟩ = some (.int .u8 x6))
    (b0 : byteP x0) (b1 : byteP x1) (b2 : byteP x2) (b3 : byteP x3) (b4 : byteP x4) (b5 : byteP x5) (b6 : byteP x6)
    (hop : (x0 == 10) = false) (hfl : ∀ w, Calls Tryd.prog 22 #[.agg #[.int .i64 x0, .int .i64 x1, .int .i64 (wordOf x2 x3 x4 x5), .int .i64 x6], .int .i64 n] w fun e w' => ∃ s, e = .returned (.iface 66 (.agg #[.string s])) ∧ Read w w') :
    Calls Tryd.prog 25 #[.slice (some ⟨b, off, none⟩) 9 cap, .int .i64 n] w fun e w' => ∃ s, e = .returned (.tuple #[I.val ⟨0, 0, 0, 0⟩, .iface 66 (.agg #[.string s])]) ∧ Below w.heap.size w w' := by
  have mixed := mixed
  have hwd := Lib.hid (wordBits x2 x3 x4 x5 b2 b3 b4 b5)
  obtain ⟨b0, b0'⟩ := b0
  obtain ⟨b1, b1'⟩ := b1
  obtain ⟨b2, b2'⟩ := b2
  obtain ⟨b3, b3'⟩ := b3
  obtain ⟨b4, b4'⟩ := b4
  obtain ⟨b5, b5'⟩ := b5
  obtain ⟨b6, b6'⟩ := b6
  go_enter Tryd.func25, Tryd.ntmps25
  go_wp2
  go_quiet (fail)
  go_wp2
  rw [hwd.out]
  clear hwd b2 b2' b3 b3' b4 b4' b5 b5'
  generalize hX : wordOf x2 x3 x4 x5 = X at hfl ⊢
  have hX' := Lib.hid hX
  clear hX
  have hrd : Read w ((w.alloc (.cells #[.int .i64 0, .int .i64 0, .int .i64 0, .int .i64 0] 40)).drewN nq) := (Read.mk _ _).trans (Read.drew _ _)
  have d0 := hrd.cell hlt c0
  have d1 := hrd.cell hlt c1
  have d6 := hrd.cell hlt c6
  clear c0 c1 c2 c3 c4 c5 c6
  have wx0 : IntKind.i64.wrap x0 = x0 := IntWalk.i64_in _ (by omega)
  have wx1 : IntKind.i64.wrap x1 = x1 := IntWalk.i64_in _ (by omega)
  have wx6 : IntKind.i64.wrap x6 = x6 := IntWalk.i64_in _ (by omega)
  go_region_held3 (fun w' => w'.cell? ⟨b, off, none⟩ = some (.int .u8 x0) ∧ w'.cell? ⟨b, off + 1, none⟩ = some (.int .u8 x1) ∧ w'.cell? ⟨b, off + 6, none⟩ = some (.int .u8 x6))
    (first | exact ⟨d0, d1, d6⟩ | exact ⟨Lib.cell?_alloc_some _ d0, Lib.cell?_alloc_some _ d1, Lib.cell?_alloc_some _ d6⟩ | go_keep)
    (fail)
  rename_i hHeld
  clear wx0 wx1 wx6 d0 d1 d6 hrd hHeld
  have hb0 : Below w.heap.size w (((w.alloc (.cells #[.int .i64 0, .int .i64 0, .int .i64 0, .int .i64 0] 40)).drewN (nq + 1)).alloc (.cells #[.int .i64 x0, .int .i64 x1, .int .i64 X, .int .i64 x6] 40)) := ((Below.refl _ w).alloc (Nat.le_refl _) _).trans ((Read.drew _ (nq + 1)).below.mono (by simp) |>.trans ((Below.refl _ _).alloc (by simp) _))
  obtain ⟨hB0, hB1⟩ := two_blocks w (nq + 1) #[.int .i64 0, .int .i64 0, .int .i64 0, .int .i64 0] #[.int .i64 x0, .int .i64 x1, .int .i64 X, .int .i64 x6]
  have hlt1 := hb0.size
  generalize (((w.alloc (.cells #[.int .i64 0, .int .i64 0, .int .i64 0, .int .i64 0] 40)).drewN (nq + 1)).alloc (.cells #[.int .i64 x0, .int .i64 x1, .int .i64 X, .int .i64 x6] 40)) = W at hB0 hB1 hb0 hlt1 ⊢
  generalize hg : w.heap.size = B at hB0 hB1 hlt1 ⊢
  have hbW : Hid (Below w.heap.size w W) := hb0
  rw [hg] at hb0
  have hgB := Lib.hid hg
  clear hg
  clear hb0 hlt1
  have hA := insAt_block ⟨x0, x1, X, x6⟩ hB1
  obtain ⟨hA0, a0, a1, a2, a3⟩ := hA
  simp only [Nat.zero_add] at a0 a1 a2 a3
  have hbWs := hbW.out.size
  go_wp2_with (first
    | (go_at_call 22; refine (hfl _).mono ?_; rintro e w1 ⟨s, rfl, hr1⟩)
    | (refine wpList_store_row rfl 40 (.tmp 4) (.tmp 58) rfl B #[.int .i64 0, .int .i64 0, .int .i64 0, .int .i64 0] rfl rfl 40 #[.int .i64 0, .int .i64 0, .int .i64 0, .int .i64 0] (hr1.block hB0) infoI rfl (one4 _ _ _ _) ?_))
  have hI0 : InsAt (w1.setRow B #[.int .i64 0, .int .i64 0, .int .i64 0, .int .i64 0]) B 0 ⟨0, 0, 0, 0⟩ := setRow_insAt ⟨0, 0, 0, 0⟩ (hr1.block hB0)
  obtain ⟨-, s0, s1, s2, s3⟩ := hI0
  simp only [Nat.zero_add] at s0 s1 s2 s3
  exact bodyPost_ret (v := .tuple #[.agg #[.int .i64 0, .int .i64 0, .int .i64 0, .int .i64 0], .iface 66 (.agg #[.string s])]) (by simp [results, Tryd.results25, go_sem, s0, s1, s2, s3]) rfl ⟨_, rfl, below_setRow (hbW.out.trans (hr1.below.mono hbWs)) (by rw [hgB.out]; exact Nat.le_refl _) _⟩

set_option maxRecDepth 100000 in
set_option maxHeartbeats 2000000 in
theorem cread_other_odd (b off cap : Nat) (x0 x1 x2 x3 x4 x5 x6 x7 x8 : Int) (n : Int) (w : World) (hlt : b < w.heap.size)
    (c0 : w.cell? ⟨b, off, none⟩ = some (.int .u8 x0)) (c1 : w.cell? ⟨b, off + 1, none⟩ = some (.int .u8 x1)) (c2 : w.cell? ⟨b, off + 2, none⟩ = some (.int .u8 x2)) (c3 : w.cell? ⟨b, off + 3, none⟩ = some (.int .u8 x3))
    (c4 : w.cell? ⟨b, off + 4, none⟩ = some (.int .u8 x4)) (c5 : w.cell? ⟨b, off + 5, none⟩ = some (.int .u8 x5)) (c6 : w.cell? ⟨b, off + 6, none⟩ = some (.int .u8 x6))
    (b0 : byteP x0) (b1 : byteP x1) (b2 : byteP x2) (b3 : byteP x3) (b4 : byteP x4) (b5 : byteP x5) (b6 : byteP x6)
    (hop : (x0 == 10) = false) (c7 : w.cell? ⟨b, off + 7, none⟩ = some (.int .u8 x7)) (c8 : w.cell? ⟨b, off + 8, none⟩ = some (.int .u8 x8)) (b7 : byteP x7) (b8 : byteP x8) (hcap : 9 ≤ cap) (hcap' : cap ≤ maxLen)
    (hfl : ∀ w, Calls Tryd.prog 22 #[.agg #[.int .i64 x0, .int .i64 x1, .int .i64 (wordOf x2 x3 x4 x5), .int .i64 x6], .int .i64 n] w fun e w' => e = .returned .nilIface ∧ Read w w') (heq : (Lib.bytesOf (enc9 ⟨x0, x1, (wordOf x2 x3 x4 x5), x6⟩) == Lib.bytesOf [x0, x1, x2, x3, x4, x5, x6, x7, x8]) = false) :
    Calls Tryd.prog 25 #[.slice (some ⟨b, off, none⟩) 9 cap, .int .i64 n] w fun e w' => ∃ s, e = .returned (.tuple #[I.val ⟨0, 0, 0, 0⟩, .iface 66 (.agg #[.string s])]) ∧ Below w.heap.size w w' := by
  have mixed := mixed
  have hwd := Lib.hid (wordBits x2 x3 x4 x5 b2 b3 b4 b5)
  have hBy := Lib.hid (byts_nine hlt c0 c1 c2 c3 c4 c5 c6 c7 c8 b0 b1 b2 b3 b4 b5 b6 b7 b8 hcap hcap')
  have hbo := fun w => bytesOf_any ⟨x0, x1, (wordOf x2 x3 x4 x5), x6⟩ w
  obtain ⟨ys, hys⟩ : ∃ ys, ys = [x0, x1, x2, x3, x4, x5, x6, x7, x8] := ⟨_, rfl⟩
  rw [← hys] at hBy heq
  clear hys c7 c8 b7 b8 hcap hcap'
  obtain ⟨zs, hzs⟩ : ∃ zs, zs = enc9 ⟨x0, x1, (wordOf x2 x3 x4 x5), x6⟩ := ⟨_, rfl⟩
  rw [← hzs] at heq hbo
  clear hzs
  simp only [I.val] at hbo
  obtain ⟨b0, b0'⟩ := b0
  obtain ⟨b1, b1'⟩ := b1
  obtain ⟨b2, b2'⟩ := b2
  obtain ⟨b3, b3'⟩ := b3
  obtain ⟨b4, b4'⟩ := b4
  obtain ⟨b5, b5'⟩ := b5
  obtain ⟨b6, b6'⟩ := b6
  go_enter Tryd.func25, Tryd.ntmps25
  go_wp2
  go_quiet (fail)
  go_wp2
  rw [hwd.out]
  clear hwd b2 b2' b3 b3' b4 b4' b5 b5'
  generalize hX : wordOf x2 x3 x4 x5 = X at hfl hbo ⊢
  have hX' := Lib.hid hX
  clear hX
  have hrd : Read w ((w.alloc (.cells #[.int .i64 0, .int .i64 0, .int .i64 0, .int .i64 0] 40)).drewN nq) := (Read.mk _ _).trans (Read.drew _ _)
  have d0 := hrd.cell hlt c0
  have d1 := hrd.cell hlt c1
  have d6 := hrd.cell hlt c6
  clear c0 c1 c2 c3 c4 c5 c6
  have wx0 : IntKind.i64.wrap x0 = x0 := IntWalk.i64_in _ (by omega)
  have wx1 : IntKind.i64.wrap x1 = x1 := IntWalk.i64_in _ (by omega)
  have wx6 : IntKind.i64.wrap x6 = x6 := IntWalk.i64_in _ (by omega)
  go_region_held3 (fun w' => w'.cell? ⟨b, off, none⟩ = some (.int .u8 x0) ∧ w'.cell? ⟨b, off + 1, none⟩ = some (.int .u8 x1) ∧ w'.cell? ⟨b, off + 6, none⟩ = some (.int .u8 x6))
    (first | exact ⟨d0, d1, d6⟩ | exact ⟨Lib.cell?_alloc_some _ d0, Lib.cell?_alloc_some _ d1, Lib.cell?_alloc_some _ d6⟩ | go_keep)
    (fail)
  rename_i hHeld
  clear wx0 wx1 wx6 d0 d1 d6 hrd hHeld
  have hb0 : Below w.heap.size w (((w.alloc (.cells #[.int .i64 0, .int .i64 0, .int .i64 0, .int .i64 0] 40)).drewN (nq + 1)).alloc (.cells #[.int .i64 x0, .int .i64 x1, .int .i64 X, .int .i64 x6] 40)) := ((Below.refl _ w).alloc (Nat.le_refl _) _).trans ((Read.drew _ (nq + 1)).below.mono (by simp) |>.trans ((Below.refl _ _).alloc (by simp) _))
  obtain ⟨hB0, hB1⟩ := two_blocks w (nq + 1) #[.int .i64 0, .int .i64 0, .int .i64 0, .int .i64 0] #[.int .i64 x0, .int .i64 x1, .int .i64 X, .int .i64 x6]
  have hlt1 := hb0.size
  generalize (((w.alloc (.cells #[.int .i64 0, .int .i64 0, .int .i64 0, .int .i64 0] 40)).drewN (nq + 1)).alloc (.cells #[.int .i64 x0, .int .i64 x1, .int .i64 X, .int .i64 x6] 40)) = W at hB0 hB1 hb0 hlt1 ⊢
  generalize hg : w.heap.size = B at hB0 hB1 hlt1 ⊢
  have hbW : Hid (Below w.heap.size w W) := hb0
  rw [hg] at hb0
  have hgB := Lib.hid hg
  clear hg
  clear hb0 hlt1
  have hA := insAt_block ⟨x0, x1, X, x6⟩ hB1
  obtain ⟨hA0, a0, a1, a2, a3⟩ := hA
  simp only [Nat.zero_add] at a0 a1 a2 a3
  have hbWs := hbW.out.size
  have hconv : Hid (∀ w', Read W w' → (convert 28 9 (.slice (some ⟨b, off, none⟩) 9 cap)).run Tryd.prog w' = .ok (.string (strOfNums ys)) w') := fun w' hr => (hBy.out.below (hbW.out.trans (hr.below.mono hbWs))).conv
  have hEq : ∀ v1 v2 w', (convert 28 9 v1).run Tryd.prog w' = .ok (.string (strOfNums zs)) w' → (convert 28 9 v2).run Tryd.prog w' = .ok (.string (strOfNums ys)) w' → Calls Tryd.prog 37 #[v1, v2] w' fun e w'' => e = .returned (.bool false) ∧ w' = w'' := by
    intro v1 v2 w' k1 k2
    have := Tryd.bytes_Equal v1 v2 zs ys w' k1 k2
    rw [heq] at this
    exact this.mono fun e w'' ⟨h1, h2⟩ => ⟨h1, h2.symm⟩
  clear heq
  go_wp2_with (first
    | (go_at_call 22; refine (hfl _).mono ?_; rintro e w1 ⟨rfl, hr1⟩; have e0 := hr1.cell hA0 a0; have e1 := hr1.cell hA0 a1; have e2 := hr1.cell hA0 a2; have e3 := hr1.cell hA0 a3)
    | (go_at_call 24; refine (hbo _).mono ?_; rintro e w2 ⟨g, rfl, hr2, hB2⟩; have hr12 := hr1.trans hr2; have f0 := hr12.cell hA0 a0; have f1 := hr12.cell hA0 a1; have f2 := hr12.cell hA0 a2; have f3 := hr12.cell hA0 a3)
    | (go_at_call 37; refine (hEq _ _ _ hB2.out.conv (hconv.out _ hr12)).mono ?_; rintro e w3 ⟨rfl, rfl⟩)
    | (refine wpList_store_row rfl 40 (.tmp 4) (.tmp 65) rfl B #[.int .i64 0, .int .i64 0, .int .i64 0, .int .i64 0] rfl rfl 40 #[.int .i64 0, .int .i64 0, .int .i64 0, .int .i64 0] (hr12.block hB0) infoI rfl (one4 _ _ _ _) ?_))
  have hI0 : InsAt (w2.setRow B #[.int .i64 0, .int .i64 0, .int .i64 0, .int .i64 0]) B 0 ⟨0, 0, 0, 0⟩ := setRow_insAt ⟨0, 0, 0, 0⟩ (hr12.block hB0)
  obtain ⟨-, s0, s1, s2, s3⟩ := hI0
  simp only [Nat.zero_add] at s0 s1 s2 s3
  exact bodyPost_ret (v := .tuple #[.agg #[.int .i64 0, .int .i64 0, .int .i64 0, .int .i64 0], .iface 66 (.agg #[.string ⟨#[98, 121, 116, 101, 115, 32, 98, 101, 115, 105, 100, 101, 32, 105, 116, 115, 32, 102, 105, 101, 108, 100, 115]⟩])]) (by simp [results, Tryd.results25, go_sem, s0, s1, s2, s3]) rfl ⟨_, rfl, below_setRow (hbW.out.trans (hr12.below.mono hbWs)) (by rw [hgB.out]; exact Nat.le_refl _) _⟩

set_option maxRecDepth 100000 in
set_option maxHeartbeats 2000000 in
theorem cread_other_ok (b off cap : Nat) (x0 x1 x2 x3 x4 x5 x6 x7 x8 : Int) (n : Int) (w : World) (hlt : b < w.heap.size)
    (c0 : w.cell? ⟨b, off, none⟩ = some (.int .u8 x0)) (c1 : w.cell? ⟨b, off + 1, none⟩ = some (.int .u8 x1)) (c2 : w.cell? ⟨b, off + 2, none⟩ = some (.int .u8 x2)) (c3 : w.cell? ⟨b, off + 3, none⟩ = some (.int .u8 x3))
    (c4 : w.cell? ⟨b, off + 4, none⟩ = some (.int .u8 x4)) (c5 : w.cell? ⟨b, off + 5, none⟩ = some (.int .u8 x5)) (c6 : w.cell? ⟨b, off + 6, none⟩ = some (.int .u8 x6))
    (b0 : byteP x0) (b1 : byteP x1) (b2 : byteP x2) (b3 : byteP x3) (b4 : byteP x4) (b5 : byteP x5) (b6 : byteP x6)
    (hop : (x0 == 10) = false) (c7 : w.cell? ⟨b, off + 7, none⟩ = some (.int .u8 x7)) (c8 : w.cell? ⟨b, off + 8, none⟩ = some (.int .u8 x8)) (b7 : byteP x7) (b8 : byteP x8) (hcap : 9 ≤ cap) (hcap' : cap ≤ maxLen)
    (hfl : ∀ w, Calls Tryd.prog 22 #[.agg #[.int .i64 x0, .int .i64 x1, .int .i64 (wordOf x2 x3 x4 x5), .int .i64 x6], .int .i64 n] w fun e w' => e = .returned .nilIface ∧ Read w w') (heq : (Lib.bytesOf (enc9 ⟨x0, x1, (wordOf x2 x3 x4 x5), x6⟩) == Lib.bytesOf [x0, x1, x2, x3, x4, x5, x6, x7, x8]) = true) :
    Calls Tryd.prog 25 #[.slice (some ⟨b, off, none⟩) 9 cap, .int .i64 n] w fun e w' => e = .returned (.tuple #[I.val ⟨x0, x1, (wordOf x2 x3 x4 x5), x6⟩, .nilIface]) ∧ Below w.heap.size w w' := by
  have mixed := mixed
  have hwd := Lib.hid (wordBits x2 x3 x4 x5 b2 b3 b4 b5)
  have hBy := Lib.hid (byts_nine hlt c0 c1 c2 c3 c4 c5 c6 c7 c8 b0 b1 b2 b3 b4 b5 b6 b7 b8 hcap hcap')
  have hbo := fun w => bytesOf_any ⟨x0, x1, (wordOf x2 x3 x4 x5), x6⟩ w
  obtain ⟨ys, hys⟩ : ∃ ys, ys = [x0, x1, x2, x3, x4, x5, x6, x7, x8] := ⟨_, rfl⟩
  rw [← hys] at hBy heq
  clear hys c7 c8 b7 b8 hcap hcap'
  obtain ⟨zs, hzs⟩ : ∃ zs, zs = enc9 ⟨x0, x1, (wordOf x2 x3 x4 x5), x6⟩ := ⟨_, rfl⟩
  rw [← hzs] at heq hbo
  clear hzs
  simp only [I.val] at hbo
  obtain ⟨b0, b0'⟩ := b0
  obtain ⟨b1, b1'⟩ := b1
  obtain ⟨b2, b2'⟩ := b2
  obtain ⟨b3, b3'⟩ := b3
  obtain ⟨b4, b4'⟩ := b4
  obtain ⟨b5, b5'⟩ := b5
  obtain ⟨b6, b6'⟩ := b6
  go_enter Tryd.func25, Tryd.ntmps25
  go_wp2
  go_quiet (fail)
  go_wp2
  rw [hwd.out]
  clear hwd b2 b2' b3 b3' b4 b4' b5 b5'
  generalize hX : wordOf x2 x3 x4 x5 = X at hfl hbo ⊢
  have hX' := Lib.hid hX
  clear hX
  have hrd : Read w ((w.alloc (.cells #[.int .i64 0, .int .i64 0, .int .i64 0, .int .i64 0] 40)).drewN nq) := (Read.mk _ _).trans (Read.drew _ _)
  have d0 := hrd.cell hlt c0
  have d1 := hrd.cell hlt c1
  have d6 := hrd.cell hlt c6
  clear c0 c1 c2 c3 c4 c5 c6
  have wx0 : IntKind.i64.wrap x0 = x0 := IntWalk.i64_in _ (by omega)
  have wx1 : IntKind.i64.wrap x1 = x1 := IntWalk.i64_in _ (by omega)
  have wx6 : IntKind.i64.wrap x6 = x6 := IntWalk.i64_in _ (by omega)
  go_region_held3 (fun w' => w'.cell? ⟨b, off, none⟩ = some (.int .u8 x0) ∧ w'.cell? ⟨b, off + 1, none⟩ = some (.int .u8 x1) ∧ w'.cell? ⟨b, off + 6, none⟩ = some (.int .u8 x6))
    (first | exact ⟨d0, d1, d6⟩ | exact ⟨Lib.cell?_alloc_some _ d0, Lib.cell?_alloc_some _ d1, Lib.cell?_alloc_some _ d6⟩ | go_keep)
    (fail)
  rename_i hHeld
  clear wx0 wx1 wx6 d0 d1 d6 hrd hHeld
  have hb0 : Below w.heap.size w (((w.alloc (.cells #[.int .i64 0, .int .i64 0, .int .i64 0, .int .i64 0] 40)).drewN (nq + 1)).alloc (.cells #[.int .i64 x0, .int .i64 x1, .int .i64 X, .int .i64 x6] 40)) := ((Below.refl _ w).alloc (Nat.le_refl _) _).trans ((Read.drew _ (nq + 1)).below.mono (by simp) |>.trans ((Below.refl _ _).alloc (by simp) _))
  obtain ⟨hB0, hB1⟩ := two_blocks w (nq + 1) #[.int .i64 0, .int .i64 0, .int .i64 0, .int .i64 0] #[.int .i64 x0, .int .i64 x1, .int .i64 X, .int .i64 x6]
  have hlt1 := hb0.size
  generalize (((w.alloc (.cells #[.int .i64 0, .int .i64 0, .int .i64 0, .int .i64 0] 40)).drewN (nq + 1)).alloc (.cells #[.int .i64 x0, .int .i64 x1, .int .i64 X, .int .i64 x6] 40)) = W at hB0 hB1 hb0 hlt1 ⊢
  generalize hg : w.heap.size = B at hB0 hB1 hlt1 ⊢
  have hbW : Hid (Below w.heap.size w W) := hb0
  rw [hg] at hb0
  have hgB := Lib.hid hg
  clear hg
  clear hb0 hlt1
  have hA := insAt_block ⟨x0, x1, X, x6⟩ hB1
  obtain ⟨hA0, a0, a1, a2, a3⟩ := hA
  simp only [Nat.zero_add] at a0 a1 a2 a3
  have hbWs := hbW.out.size
  have hconv : Hid (∀ w', Read W w' → (convert 28 9 (.slice (some ⟨b, off, none⟩) 9 cap)).run Tryd.prog w' = .ok (.string (strOfNums ys)) w') := fun w' hr => (hBy.out.below (hbW.out.trans (hr.below.mono hbWs))).conv
  have hEq : ∀ v1 v2 w', (convert 28 9 v1).run Tryd.prog w' = .ok (.string (strOfNums zs)) w' → (convert 28 9 v2).run Tryd.prog w' = .ok (.string (strOfNums ys)) w' → Calls Tryd.prog 37 #[v1, v2] w' fun e w'' => e = .returned (.bool true) ∧ w' = w'' := by
    intro v1 v2 w' k1 k2
    have := Tryd.bytes_Equal v1 v2 zs ys w' k1 k2
    rw [heq] at this
    exact this.mono fun e w'' ⟨h1, h2⟩ => ⟨h1, h2.symm⟩
  clear heq
  go_wp2_with (first
    | (go_at_call 22; refine (hfl _).mono ?_; rintro e w1 ⟨rfl, hr1⟩; have e0 := hr1.cell hA0 a0; have e1 := hr1.cell hA0 a1; have e2 := hr1.cell hA0 a2; have e3 := hr1.cell hA0 a3)
    | (go_at_call 24; refine (hbo _).mono ?_; rintro e w2 ⟨g, rfl, hr2, hB2⟩; have hr12 := hr1.trans hr2; have f0 := hr12.cell hA0 a0; have f1 := hr12.cell hA0 a1; have f2 := hr12.cell hA0 a2; have f3 := hr12.cell hA0 a3)
    | (go_at_call 37; refine (hEq _ _ _ hB2.out.conv (hconv.out _ hr12)).mono ?_; rintro e w3 ⟨rfl, rfl⟩)
    | (refine wpList_store_row rfl 40 (.tmp 4) (.tmp 68) rfl B #[.int .i64 x0, .int .i64 x1, .int .i64 X, .int .i64 x6] rfl rfl 40 #[.int .i64 0, .int .i64 0, .int .i64 0, .int .i64 0] (hr12.block hB0) infoI rfl (one4 _ _ _ _) ?_))
  have hI0 : InsAt (w2.setRow B #[.int .i64 x0, .int .i64 x1, .int .i64 X, .int .i64 x6]) B 0 ⟨x0, x1, X, x6⟩ := setRow_insAt ⟨x0, x1, X, x6⟩ (hr12.block hB0)
  obtain ⟨-, s0, s1, s2, s3⟩ := hI0
  simp only [Nat.zero_add] at s0 s1 s2 s3
  exact bodyPost_ret (v := .tuple #[.agg #[.int .i64 x0, .int .i64 x1, .int .i64 X, .int .i64 x6], .nilIface]) (by simp [results, Tryd.results25, go_sem, s0, s1, s2, s3]) rfl ⟨by rw [hX'.out]; rfl, below_setRow (hbW.out.trans (hr12.below.mono hbWs)) (by rw [hgB.out]; exact Nat.le_refl _) _⟩

set_option maxRecDepth 100000 in
set_option maxHeartbeats 2000000 in
theorem cread_jump_bad (b off cap : Nat) (x1 x2 x3 x4 x5 x6 : Int) (n : Int) (w : World) (hlt : b < w.heap.size)
    (c0 : w.cell? ⟨b, off, none⟩ = some (.int .u8 10)) (c1 : w.cell? ⟨b, off + 1, none⟩ = some (.int .u8 x1)) (c2 : w.cell? ⟨b, off + 2, none⟩ = some (.int .u8 x2)) (c3 : w.cell? ⟨b, off + 3, none⟩ = some (.int .u8 x3))
    (c4 : w.cell? ⟨b, off + 4, none⟩ = some (.int .u8 x4)) (c5 : w.cell? ⟨b, off + 5, none⟩ = some (.int .u8 x5)) (c6 : w.cell? ⟨b, off + 6, none⟩ = some (.int .u8 x6))
    (b0 : byteP 10) (b1 : byteP x1) (b2 : byteP x2) (b3 : byteP x3) (b4 : byteP x4) (b5 : byteP x5) (b6 : byteP x6)
     (hfl : ∀ w, Calls Tryd.prog 22 #[.agg #[.int .i64 10, .int .i64 (wordOf x2 x3 x4 x5), .int .i64 0, .int .i64 x6], .int .i64 n] w fun e w' => ∃ s, e = .returned (.iface 66 (.agg #[.string s])) ∧ Read w w') :
    Calls Tryd.prog 25 #[.slice (some ⟨b, off, none⟩) 9 cap, .int .i64 n] w fun e w' => ∃ s, e = .returned (.tuple #[I.val ⟨0, 0, 0, 0⟩, .iface 66 (.agg #[.string s])]) ∧ Below w.heap.size w w' := by
  have mixed := mixed
  have hwd := Lib.hid (wordBits x2 x3 x4 x5 b2 b3 b4 b5)
  obtain ⟨b0, b0'⟩ := b0
  obtain ⟨b1, b1'⟩ := b1
  obtain ⟨b2, b2'⟩ := b2
  obtain ⟨b3, b3'⟩ := b3
  obtain ⟨b4, b4'⟩ := b4
  obtain ⟨b5, b5'⟩ := b5
  obtain ⟨b6, b6'⟩ := b6
  go_enter Tryd.func25, Tryd.ntmps25
  go_wp2
  go_quiet (fail)
  go_wp2
  rw [hwd.out]
  clear hwd b2 b2' b3 b3' b4 b4' b5 b5'
  generalize hX : wordOf x2 x3 x4 x5 = X at hfl ⊢
  have hX' := Lib.hid hX
  clear hX
  have hrd : Read w ((w.alloc (.cells #[.int .i64 0, .int .i64 0, .int .i64 0, .int .i64 0] 40)).drewN nq) := (Read.mk _ _).trans (Read.drew _ _)
  have d0 := hrd.cell hlt c0
  have d1 := hrd.cell hlt c1
  have d6 := hrd.cell hlt c6
  clear c0 c1 c2 c3 c4 c5 c6
  have wx0 : IntKind.i64.wrap 10 = 10 := IntWalk.i64_in _ (by omega)
  have wx1 : IntKind.i64.wrap x1 = x1 := IntWalk.i64_in _ (by omega)
  have wx6 : IntKind.i64.wrap x6 = x6 := IntWalk.i64_in _ (by omega)
  go_region_held3 (fun w' => w'.cell? ⟨b, off, none⟩ = some (.int .u8 10) ∧ w'.cell? ⟨b, off + 1, none⟩ = some (.int .u8 x1) ∧ w'.cell? ⟨b, off + 6, none⟩ = some (.int .u8 x6))
    (first | exact ⟨d0, d1, d6⟩ | exact ⟨Lib.cell?_alloc_some _ d0, Lib.cell?_alloc_some _ d1, Lib.cell?_alloc_some _ d6⟩ | go_keep)
    (fail)
  rename_i hHeld
  clear wx0 wx1 wx6 d0 d1 d6 hrd hHeld
  have hb0 : Below w.heap.size w (((w.alloc (.cells #[.int .i64 0, .int .i64 0, .int .i64 0, .int .i64 0] 40)).drewN (nq + 1)).alloc (.cells #[.int .i64 10, .int .i64 x1, .int .i64 X, .int .i64 x6] 40)) := ((Below.refl _ w).alloc (Nat.le_refl _) _).trans ((Read.drew _ (nq + 1)).below.mono (by simp) |>.trans ((Below.refl _ _).alloc (by simp) _))
  obtain ⟨hB0, hB1⟩ := two_blocks w (nq + 1) #[.int .i64 0, .int .i64 0, .int .i64 0, .int .i64 0] #[.int .i64 10, .int .i64 x1, .int .i64 X, .int .i64 x6]
  have hlt1 := hb0.size
  generalize (((w.alloc (.cells #[.int .i64 0, .int .i64 0, .int .i64 0, .int .i64 0] 40)).drewN (nq + 1)).alloc (.cells #[.int .i64 10, .int .i64 x1, .int .i64 X, .int .i64 x6] 40)) = W at hB0 hB1 hb0 hlt1 ⊢
  generalize hg : w.heap.size = B at hB0 hB1 hlt1 ⊢
  have hbW : Hid (Below w.heap.size w W) := hb0
  rw [hg] at hb0
  have hgB := Lib.hid hg
  clear hg
  have hA := insAt_block ⟨10, x1, X, x6⟩ hB1
  obtain ⟨hA0, a0, a1, a2, a3⟩ := hA
  simp only [Nat.zero_add] at a0 a1 a2 a3
  have fz1 : W.frozen? ⟨B + 1, 1, none⟩ = false := by simp [World.frozen?, hB1]
  have fz2 : W.frozen? ⟨B + 1, 2, none⟩ = false := by simp [World.frozen?, hB1]
  go_upto_region 5 with (fail)
  clear a0 a1 a2 a3 fz1 fz2
  obtain ⟨q0, q1⟩ := setCell2_blocks (v1 := .int .i64 X) (v2 := .int .i64 0) hB0 hB1
  have hbW2 : Hid (Below w.heap.size w ((W.setCell ⟨B + 1, 1, none⟩ (.int .i64 X)).setCell ⟨B + 1, 2, none⟩ (.int .i64 0))) := (hbW.out.setCell (by rw [hgB.out]; simp) _).setCell (by rw [hgB.out]; simp) _
  clear hb0 hlt1 hbW hB0 hB1 hA0
  generalize (W.setCell ⟨B + 1, 1, none⟩ (.int .i64 X)).setCell ⟨B + 1, 2, none⟩ (.int .i64 0) = W2 at q0 q1 hbW2 ⊢
  have hbW := hbW2
  have hB0 := q0
  have hB1 := q1
  clear q0 q1 hbW2
  have hA := insAt_block ⟨10, X, 0, x6⟩ hB1
  obtain ⟨hA0, a0, a1, a2, a3⟩ := hA
  simp only [Nat.zero_add] at a0 a1 a2 a3
  have hbWs := hbW.out.size
  go_wp2_with (first
    | (go_at_call 22; refine (hfl _).mono ?_; rintro e w1 ⟨s, rfl, hr1⟩)
    | (refine wpList_store_row rfl 40 (.tmp 4) (.tmp 58) rfl B #[.int .i64 0, .int .i64 0, .int .i64 0, .int .i64 0] rfl rfl 40 #[.int .i64 0, .int .i64 0, .int .i64 0, .int .i64 0] (hr1.block hB0) infoI rfl (one4 _ _ _ _) ?_))
  have hI0 : InsAt (w1.setRow B #[.int .i64 0, .int .i64 0, .int .i64 0, .int .i64 0]) B 0 ⟨0, 0, 0, 0⟩ := setRow_insAt ⟨0, 0, 0, 0⟩ (hr1.block hB0)
  obtain ⟨-, s0, s1, s2, s3⟩ := hI0
  simp only [Nat.zero_add] at s0 s1 s2 s3
  exact bodyPost_ret (v := .tuple #[.agg #[.int .i64 0, .int .i64 0, .int .i64 0, .int .i64 0], .iface 66 (.agg #[.string s])]) (by simp [results, Tryd.results25, go_sem, s0, s1, s2, s3]) rfl ⟨_, rfl, below_setRow (hbW.out.trans (hr1.below.mono hbWs)) (by rw [hgB.out]; exact Nat.le_refl _) _⟩

set_option maxRecDepth 100000 in
set_option maxHeartbeats 2000000 in
theorem cread_jump_odd (b off cap : Nat) (x1 x2 x3 x4 x5 x6 x7 x8 : Int) (n : Int) (w : World) (hlt : b < w.heap.size)
    (c0 : w.cell? ⟨b, off, none⟩ = some (.int .u8 10)) (c1 : w.cell? ⟨b, off + 1, none⟩ = some (.int .u8 x1)) (c2 : w.cell? ⟨b, off + 2, none⟩ = some (.int .u8 x2)) (c3 : w.cell? ⟨b, off + 3, none⟩ = some (.int .u8 x3))
    (c4 : w.cell? ⟨b, off + 4, none⟩ = some (.int .u8 x4)) (c5 : w.cell? ⟨b, off + 5, none⟩ = some (.int .u8 x5)) (c6 : w.cell? ⟨b, off + 6, none⟩ = some (.int .u8 x6))
    (b0 : byteP 10) (b1 : byteP x1) (b2 : byteP x2) (b3 : byteP x3) (b4 : byteP x4) (b5 : byteP x5) (b6 : byteP x6)
     (c7 : w.cell? ⟨b, off + 7, none⟩ = some (.int .u8 x7)) (c8 : w.cell? ⟨b, off + 8, none⟩ = some (.int .u8 x8)) (b7 : byteP x7) (b8 : byteP x8) (hcap : 9 ≤ cap) (hcap' : cap ≤ maxLen)
    (hfl : ∀ w, Calls Tryd.prog 22 #[.agg #[.int .i64 10, .int .i64 (wordOf x2 x3 x4 x5), .int .i64 0, .int .i64 x6], .int .i64 n] w fun e w' => e = .returned .nilIface ∧ Read w w') (heq : (Lib.bytesOf (enc9 ⟨10, (wordOf x2 x3 x4 x5), 0, x6⟩) == Lib.bytesOf [10, x1, x2, x3, x4, x5, x6, x7, x8]) = false) :
    Calls Tryd.prog 25 #[.slice (some ⟨b, off, none⟩) 9 cap, .int .i64 n] w fun e w' => ∃ s, e = .returned (.tuple #[I.val ⟨0, 0, 0, 0⟩, .iface 66 (.agg #[.string s])]) ∧ Below w.heap.size w w' := by
  have mixed := mixed
  have hwd := Lib.hid (wordBits x2 x3 x4 x5 b2 b3 b4 b5)
  have hBy := Lib.hid (byts_nine hlt c0 c1 c2 c3 c4 c5 c6 c7 c8 b0 b1 b2 b3 b4 b5 b6 b7 b8 hcap hcap')
  have hbo := fun w => bytesOf_any ⟨10, (wordOf x2 x3 x4 x5), 0, x6⟩ w
  obtain ⟨ys, hys⟩ : ∃ ys, ys = [10, x1, x2, x3, x4, x5, x6, x7, x8] := ⟨_, rfl⟩
  rw [← hys] at hBy heq
  clear hys c7 c8 b7 b8 hcap hcap'
  obtain ⟨zs, hzs⟩ : ∃ zs, zs = enc9 ⟨10, (wordOf x2 x3 x4 x5), 0, x6⟩ := ⟨_, rfl⟩
  rw [← hzs] at heq hbo
  clear hzs
  simp only [I.val] at hbo
  obtain ⟨b0, b0'⟩ := b0
  obtain ⟨b1, b1'⟩ := b1
  obtain ⟨b2, b2'⟩ := b2
  obtain ⟨b3, b3'⟩ := b3
  obtain ⟨b4, b4'⟩ := b4
  obtain ⟨b5, b5'⟩ := b5
  obtain ⟨b6, b6'⟩ := b6
  go_enter Tryd.func25, Tryd.ntmps25
  go_wp2
  go_quiet (fail)
  go_wp2
  rw [hwd.out]
  clear hwd b2 b2' b3 b3' b4 b4' b5 b5'
  generalize hX : wordOf x2 x3 x4 x5 = X at hfl hbo ⊢
  have hX' := Lib.hid hX
  clear hX
  have hrd : Read w ((w.alloc (.cells #[.int .i64 0, .int .i64 0, .int .i64 0, .int .i64 0] 40)).drewN nq) := (Read.mk _ _).trans (Read.drew _ _)
  have d0 := hrd.cell hlt c0
  have d1 := hrd.cell hlt c1
  have d6 := hrd.cell hlt c6
  clear c0 c1 c2 c3 c4 c5 c6
  have wx0 : IntKind.i64.wrap 10 = 10 := IntWalk.i64_in _ (by omega)
  have wx1 : IntKind.i64.wrap x1 = x1 := IntWalk.i64_in _ (by omega)
  have wx6 : IntKind.i64.wrap x6 = x6 := IntWalk.i64_in _ (by omega)
  go_region_held3 (fun w' => w'.cell? ⟨b, off, none⟩ = some (.int .u8 10) ∧ w'.cell? ⟨b, off + 1, none⟩ = some (.int .u8 x1) ∧ w'.cell? ⟨b, off + 6, none⟩ = some (.int .u8 x6))
    (first | exact ⟨d0, d1, d6⟩ | exact ⟨Lib.cell?_alloc_some _ d0, Lib.cell?_alloc_some _ d1, Lib.cell?_alloc_some _ d6⟩ | go_keep)
    (fail)
  rename_i hHeld
  clear wx0 wx1 wx6 d0 d1 d6 hrd hHeld
  have hb0 : Below w.heap.size w (((w.alloc (.cells #[.int .i64 0, .int .i64 0, .int .i64 0, .int .i64 0] 40)).drewN (nq + 1)).alloc (.cells #[.int .i64 10, .int .i64 x1, .int .i64 X, .int .i64 x6] 40)) := ((Below.refl _ w).alloc (Nat.le_refl _) _).trans ((Read.drew _ (nq + 1)).below.mono (by simp) |>.trans ((Below.refl _ _).alloc (by simp) _))
  obtain ⟨hB0, hB1⟩ := two_blocks w (nq + 1) #[.int .i64 0, .int .i64 0, .int .i64 0, .int .i64 0] #[.int .i64 10, .int .i64 x1, .int .i64 X, .int .i64 x6]
  have hlt1 := hb0.size
  generalize (((w.alloc (.cells #[.int .i64 0, .int .i64 0, .int .i64 0, .int .i64 0] 40)).drewN (nq + 1)).alloc (.cells #[.int .i64 10, .int .i64 x1, .int .i64 X, .int .i64 x6] 40)) = W at hB0 hB1 hb0 hlt1 ⊢
  generalize hg : w.heap.size = B at hB0 hB1 hlt1 ⊢
  have hbW : Hid (Below w.heap.size w W) := hb0
  rw [hg] at hb0
  have hgB := Lib.hid hg
  clear hg
  have hA := insAt_block ⟨10, x1, X, x6⟩ hB1
  obtain ⟨hA0, a0, a1, a2, a3⟩ := hA
  simp only [Nat.zero_add] at a0 a1 a2 a3
  have fz1 : W.frozen? ⟨B + 1, 1, none⟩ = false := by simp [World.frozen?, hB1]
  have fz2 : W.frozen? ⟨B + 1, 2, none⟩ = false := by simp [World.frozen?, hB1]
  go_upto_region 5 with (fail)
  clear a0 a1 a2 a3 fz1 fz2
  obtain ⟨q0, q1⟩ := setCell2_blocks (v1 := .int .i64 X) (v2 := .int .i64 0) hB0 hB1
  have hbW2 : Hid (Below w.heap.size w ((W.setCell ⟨B + 1, 1, none⟩ (.int .i64 X)).setCell ⟨B + 1, 2, none⟩ (.int .i64 0))) := (hbW.out.setCell (by rw [hgB.out]; simp) _).setCell (by rw [hgB.out]; simp) _
  clear hb0 hlt1 hbW hB0 hB1 hA0
  generalize (W.setCell ⟨B + 1, 1, none⟩ (.int .i64 X)).setCell ⟨B + 1, 2, none⟩ (.int .i64 0) = W2 at q0 q1 hbW2 ⊢
  have hbW := hbW2
  have hB0 := q0
  have hB1 := q1
  clear q0 q1 hbW2
  have hA := insAt_block ⟨10, X, 0, x6⟩ hB1
  obtain ⟨hA0, a0, a1, a2, a3⟩ := hA
  simp only [Nat.zero_add] at a0 a1 a2 a3
  have hbWs := hbW.out.size
  have hconv : Hid (∀ w', Read W2 w' → (convert 28 9 (.slice (some ⟨b, off, none⟩) 9 cap)).run Tryd.prog w' = .ok (.string (strOfNums ys)) w') := fun w' hr => (hBy.out.below (hbW.out.trans (hr.below.mono hbWs))).conv
  have hEq : ∀ v1 v2 w', (convert 28 9 v1).run Tryd.prog w' = .ok (.string (strOfNums zs)) w' → (convert 28 9 v2).run Tryd.prog w' = .ok (.string (strOfNums ys)) w' → Calls Tryd.prog 37 #[v1, v2] w' fun e w'' => e = .returned (.bool false) ∧ w' = w'' := by
    intro v1 v2 w' k1 k2
    have := Tryd.bytes_Equal v1 v2 zs ys w' k1 k2
    rw [heq] at this
    exact this.mono fun e w'' ⟨h1, h2⟩ => ⟨h1, h2.symm⟩
  clear heq
  go_wp2_with (first
    | (go_at_call 22; refine (hfl _).mono ?_; rintro e w1 ⟨rfl, hr1⟩; have e0 := hr1.cell hA0 a0; have e1 := hr1.cell hA0 a1; have e2 := hr1.cell hA0 a2; have e3 := hr1.cell hA0 a3)
    | (go_at_call 24; refine (hbo _).mono ?_; rintro e w2 ⟨g, rfl, hr2, hB2⟩; have hr12 := hr1.trans hr2; have f0 := hr12.cell hA0 a0; have f1 := hr12.cell hA0 a1; have f2 := hr12.cell hA0 a2; have f3 := hr12.cell hA0 a3)
    | (go_at_call 37; refine (hEq _ _ _ hB2.out.conv (hconv.out _ hr12)).mono ?_; rintro e w3 ⟨rfl, rfl⟩)
    | (refine wpList_store_row rfl 40 (.tmp 4) (.tmp 65) rfl B #[.int .i64 0, .int .i64 0, .int .i64 0, .int .i64 0] rfl rfl 40 #[.int .i64 0, .int .i64 0, .int .i64 0, .int .i64 0] (hr12.block hB0) infoI rfl (one4 _ _ _ _) ?_))
  have hI0 : InsAt (w2.setRow B #[.int .i64 0, .int .i64 0, .int .i64 0, .int .i64 0]) B 0 ⟨0, 0, 0, 0⟩ := setRow_insAt ⟨0, 0, 0, 0⟩ (hr12.block hB0)
  obtain ⟨-, s0, s1, s2, s3⟩ := hI0
  simp only [Nat.zero_add] at s0 s1 s2 s3
  exact bodyPost_ret (v := .tuple #[.agg #[.int .i64 0, .int .i64 0, .int .i64 0, .int .i64 0], .iface 66 (.agg #[.string ⟨#[98, 121, 116, 101, 115, 32, 98, 101, 115, 105, 100, 101, 32, 105, 116, 115, 32, 102, 105, 101, 108, 100, 115]⟩])]) (by simp [results, Tryd.results25, go_sem, s0, s1, s2, s3]) rfl ⟨_, rfl, below_setRow (hbW.out.trans (hr12.below.mono hbWs)) (by rw [hgB.out]; exact Nat.le_refl _) _⟩

set_option maxRecDepth 100000 in
set_option maxHeartbeats 2000000 in
theorem cread_jump_ok (b off cap : Nat) (x1 x2 x3 x4 x5 x6 x7 x8 : Int) (n : Int) (w : World) (hlt : b < w.heap.size)
    (c0 : w.cell? ⟨b, off, none⟩ = some (.int .u8 10)) (c1 : w.cell? ⟨b, off + 1, none⟩ = some (.int .u8 x1)) (c2 : w.cell? ⟨b, off + 2, none⟩ = some (.int .u8 x2)) (c3 : w.cell? ⟨b, off + 3, none⟩ = some (.int .u8 x3))
    (c4 : w.cell? ⟨b, off + 4, none⟩ = some (.int .u8 x4)) (c5 : w.cell? ⟨b, off + 5, none⟩ = some (.int .u8 x5)) (c6 : w.cell? ⟨b, off + 6, none⟩ = some (.int .u8 x6))
    (b0 : byteP 10) (b1 : byteP x1) (b2 : byteP x2) (b3 : byteP x3) (b4 : byteP x4) (b5 : byteP x5) (b6 : byteP x6)
     (c7 : w.cell? ⟨b, off + 7, none⟩ = some (.int .u8 x7)) (c8 : w.cell? ⟨b, off + 8, none⟩ = some (.int .u8 x8)) (b7 : byteP x7) (b8 : byteP x8) (hcap : 9 ≤ cap) (hcap' : cap ≤ maxLen)
    (hfl : ∀ w, Calls Tryd.prog 22 #[.agg #[.int .i64 10, .int .i64 (wordOf x2 x3 x4 x5), .int .i64 0, .int .i64 x6], .int .i64 n] w fun e w' => e = .returned .nilIface ∧ Read w w') (heq : (Lib.bytesOf (enc9 ⟨10, (wordOf x2 x3 x4 x5), 0, x6⟩) == Lib.bytesOf [10, x1, x2, x3, x4, x5, x6, x7, x8]) = true) :
    Calls Tryd.prog 25 #[.slice (some ⟨b, off, none⟩) 9 cap, .int .i64 n] w fun e w' => e = .returned (.tuple #[I.val ⟨10, (wordOf x2 x3 x4 x5), 0, x6⟩, .nilIface]) ∧ Below w.heap.size w w' := by
  have mixed := mixed
  have hwd := Lib.hid (wordBits x2 x3 x4 x5 b2 b3 b4 b5)
  have hBy := Lib.hid (byts_nine hlt c0 c1 c2 c3 c4 c5 c6 c7 c8 b0 b1 b2 b3 b4 b5 b6 b7 b8 hcap hcap')
  have hbo := fun w => bytesOf_any ⟨10, (wordOf x2 x3 x4 x5), 0, x6⟩ w
  obtain ⟨ys, hys⟩ : ∃ ys, ys = [10, x1, x2, x3, x4, x5, x6, x7, x8] := ⟨_, rfl⟩
  rw [← hys] at hBy heq
  clear hys c7 c8 b7 b8 hcap hcap'
  obtain ⟨zs, hzs⟩ : ∃ zs, zs = enc9 ⟨10, (wordOf x2 x3 x4 x5), 0, x6⟩ := ⟨_, rfl⟩
  rw [← hzs] at heq hbo
  clear hzs
  simp only [I.val] at hbo
  obtain ⟨b0, b0'⟩ := b0
  obtain ⟨b1, b1'⟩ := b1
  obtain ⟨b2, b2'⟩ := b2
  obtain ⟨b3, b3'⟩ := b3
  obtain ⟨b4, b4'⟩ := b4
  obtain ⟨b5, b5'⟩ := b5
  obtain ⟨b6, b6'⟩ := b6
  go_enter Tryd.func25, Tryd.ntmps25
  go_wp2
  go_quiet (fail)
  go_wp2
  rw [hwd.out]
  clear hwd b2 b2' b3 b3' b4 b4' b5 b5'
  generalize hX : wordOf x2 x3 x4 x5 = X at hfl hbo ⊢
  have hX' := Lib.hid hX
  clear hX
  have hrd : Read w ((w.alloc (.cells #[.int .i64 0, .int .i64 0, .int .i64 0, .int .i64 0] 40)).drewN nq) := (Read.mk _ _).trans (Read.drew _ _)
  have d0 := hrd.cell hlt c0
  have d1 := hrd.cell hlt c1
  have d6 := hrd.cell hlt c6
  clear c0 c1 c2 c3 c4 c5 c6
  have wx0 : IntKind.i64.wrap 10 = 10 := IntWalk.i64_in _ (by omega)
  have wx1 : IntKind.i64.wrap x1 = x1 := IntWalk.i64_in _ (by omega)
  have wx6 : IntKind.i64.wrap x6 = x6 := IntWalk.i64_in _ (by omega)
  go_region_held3 (fun w' => w'.cell? ⟨b, off, none⟩ = some (.int .u8 10) ∧ w'.cell? ⟨b, off + 1, none⟩ = some (.int .u8 x1) ∧ w'.cell? ⟨b, off + 6, none⟩ = some (.int .u8 x6))
    (first | exact ⟨d0, d1, d6⟩ | exact ⟨Lib.cell?_alloc_some _ d0, Lib.cell?_alloc_some _ d1, Lib.cell?_alloc_some _ d6⟩ | go_keep)
    (fail)
  rename_i hHeld
  clear wx0 wx1 wx6 d0 d1 d6 hrd hHeld
  have hb0 : Below w.heap.size w (((w.alloc (.cells #[.int .i64 0, .int .i64 0, .int .i64 0, .int .i64 0] 40)).drewN (nq + 1)).alloc (.cells #[.int .i64 10, .int .i64 x1, .int .i64 X, .int .i64 x6] 40)) := ((Below.refl _ w).alloc (Nat.le_refl _) _).trans ((Read.drew _ (nq + 1)).below.mono (by simp) |>.trans ((Below.refl _ _).alloc (by simp) _))
  obtain ⟨hB0, hB1⟩ := two_blocks w (nq + 1) #[.int .i64 0, .int .i64 0, .int .i64 0, .int .i64 0] #[.int .i64 10, .int .i64 x1, .int .i64 X, .int .i64 x6]
  have hlt1 := hb0.size
  generalize (((w.alloc (.cells #[.int .i64 0, .int .i64 0, .int .i64 0, .int .i64 0] 40)).drewN (nq + 1)).alloc (.cells #[.int .i64 10, .int .i64 x1, .int .i64 X, .int .i64 x6] 40)) = W at hB0 hB1 hb0 hlt1 ⊢
  generalize hg : w.heap.size = B at hB0 hB1 hlt1 ⊢
  have hbW : Hid (Below w.heap.size w W) := hb0
  rw [hg] at hb0
  have hgB := Lib.hid hg
  clear hg
  have hA := insAt_block ⟨10, x1, X, x6⟩ hB1
  obtain ⟨hA0, a0, a1, a2, a3⟩ := hA
  simp only [Nat.zero_add] at a0 a1 a2 a3
  have fz1 : W.frozen? ⟨B + 1, 1, none⟩ = false := by simp [World.frozen?, hB1]
  have fz2 : W.frozen? ⟨B + 1, 2, none⟩ = false := by simp [World.frozen?, hB1]
  go_upto_region 5 with (fail)
  clear a0 a1 a2 a3 fz1 fz2
  obtain ⟨q0, q1⟩ := setCell2_blocks (v1 := .int .i64 X) (v2 := .int .i64 0) hB0 hB1
  have hbW2 : Hid (Below w.heap.size w ((W.setCell ⟨B + 1, 1, none⟩ (.int .i64 X)).setCell ⟨B + 1, 2, none⟩ (.int .i64 0))) := (hbW.out.setCell (by rw [hgB.out]; simp) _).setCell (by rw [hgB.out]; simp) _
  clear hb0 hlt1 hbW hB0 hB1 hA0
  generalize (W.setCell ⟨B + 1, 1, none⟩ (.int .i64 X)).setCell ⟨B + 1, 2, none⟩ (.int .i64 0) = W2 at q0 q1 hbW2 ⊢
  have hbW := hbW2
  have hB0 := q0
  have hB1 := q1
  clear q0 q1 hbW2
  have hA := insAt_block ⟨10, X, 0, x6⟩ hB1
  obtain ⟨hA0, a0, a1, a2, a3⟩ := hA
  simp only [Nat.zero_add] at a0 a1 a2 a3
  have hbWs := hbW.out.size
  have hconv : Hid (∀ w', Read W2 w' → (convert 28 9 (.slice (some ⟨b, off, none⟩) 9 cap)).run Tryd.prog w' = .ok (.string (strOfNums ys)) w') := fun w' hr => (hBy.out.below (hbW.out.trans (hr.below.mono hbWs))).conv
  have hEq : ∀ v1 v2 w', (convert 28 9 v1).run Tryd.prog w' = .ok (.string (strOfNums zs)) w' → (convert 28 9 v2).run Tryd.prog w' = .ok (.string (strOfNums ys)) w' → Calls Tryd.prog 37 #[v1, v2] w' fun e w'' => e = .returned (.bool true) ∧ w' = w'' := by
    intro v1 v2 w' k1 k2
    have := Tryd.bytes_Equal v1 v2 zs ys w' k1 k2
    rw [heq] at this
    exact this.mono fun e w'' ⟨h1, h2⟩ => ⟨h1, h2.symm⟩
  clear heq
  go_wp2_with (first
    | (go_at_call 22; refine (hfl _).mono ?_; rintro e w1 ⟨rfl, hr1⟩; have e0 := hr1.cell hA0 a0; have e1 := hr1.cell hA0 a1; have e2 := hr1.cell hA0 a2; have e3 := hr1.cell hA0 a3)
    | (go_at_call 24; refine (hbo _).mono ?_; rintro e w2 ⟨g, rfl, hr2, hB2⟩; have hr12 := hr1.trans hr2; have f0 := hr12.cell hA0 a0; have f1 := hr12.cell hA0 a1; have f2 := hr12.cell hA0 a2; have f3 := hr12.cell hA0 a3)
    | (go_at_call 37; refine (hEq _ _ _ hB2.out.conv (hconv.out _ hr12)).mono ?_; rintro e w3 ⟨rfl, rfl⟩)
    | (refine wpList_store_row rfl 40 (.tmp 4) (.tmp 68) rfl B #[.int .i64 10, .int .i64 X, .int .i64 0, .int .i64 x6] rfl rfl 40 #[.int .i64 0, .int .i64 0, .int .i64 0, .int .i64 0] (hr12.block hB0) infoI rfl (one4 _ _ _ _) ?_))
  have hI0 : InsAt (w2.setRow B #[.int .i64 10, .int .i64 X, .int .i64 0, .int .i64 x6]) B 0 ⟨10, X, 0, x6⟩ := setRow_insAt ⟨10, X, 0, x6⟩ (hr12.block hB0)
  obtain ⟨-, s0, s1, s2, s3⟩ := hI0
  simp only [Nat.zero_add] at s0 s1 s2 s3
  exact bodyPost_ret (v := .tuple #[.agg #[.int .i64 10, .int .i64 X, .int .i64 0, .int .i64 x6], .nilIface]) (by simp [results, Tryd.results25, go_sem, s0, s1, s2, s3]) rfl ⟨by rw [hX'.out]; rfl, below_setRow (hbW.out.trans (hr12.below.mono hbWs)) (by rw [hgB.out]; exact Nat.le_refl _) _⟩

end Go.Proofs.YtpbmfhbcnllkaaaDoor
