/-
  What an iterator hands over, collected into a list; a log's All.
  A log's All; its State.
  Entries compared by the laws' own functions: those that are the same.
  A region that draws its order, in a round's frame, at whose loads a class of worlds is asked only till one operation (a store into what was loaded) has come up, which waits for those loads. No program in this text.
-/
import Derived.Test.YtminfmjgmmkaoaaGreatDoorJZ
import Derived.Test.YtminfmjgmmkaoaaGreatDoorGZ
namespace Go.Proofs.YtminfmjgmmkaoaaGreatDoor
open Go.ChangeShapes Go.WideShapes Go.ChangeAt Go.Shelf Go.RowKit Go.Lib Go.Sort Go.Deep
set_option linter.unusedVariables false
set_option maxRecDepth 4000
set_option linter.unusedSimpArgs false
attribute [local go_sem] Oper.semAt_some

/-- An entry's cells. -/
def encE (y : En × Value) : List Value := entC y.1.ev y.1.bf y.1.fl y.2
theorem encE_length (y : En × Value) : (encE y).length = 19 := rfl
/-- Entries in memory. -/
def EntsAt (w : World) (v : Value) (L : List (En × Value)) : Prop := RowAt w 44 19 v L.length (L.flatMap encE) ∧ ∀ y ∈ L, Sent w y.2 y.1.sent ∧ TagV w 42 y.2
def EOwn (v : Value) (L : List (En × Value)) (k : Nat) : Prop := v.ownBlock = some k ∨ ∃ y ∈ L, y.2.ownBlock = some k
theorem EntsAt.kept {S : Nat → Prop} {w w' : World} {v : Value} {L : List (En × Value)} (h : EntsAt w v L) (hk : KeptOff S w w') (hn : ∀ k, EOwn v L k → ¬ S k) : EntsAt w' v L :=
  ⟨RowAt.kept h.1 hk (fun k e => hn k (.inl e)), fun y hy => ⟨(h.2 y hy).1.kept hk (fun k e => hn k (.inr ⟨y, hy, e⟩)), (h.2 y hy).2.kept hk (fun k e => hn k (.inr ⟨y, hy, e⟩))⟩⟩
theorem EntsAt.below {w w' : World} {v : Value} {L : List (En × Value)} (h : EntsAt w v L) (hb : Below w.heap.size w w') : EntsAt w' v L := h.kept (S := fun _ => False) (.of_below hb) (fun _ _ e => e)
theorem EntsAt.lt {w : World} {v : Value} {L : List (En × Value)} (h : EntsAt w v L) : ∀ k, EOwn v L k → k < w.heap.size := by
  rintro k (e | ⟨y, hy, e⟩)
  · obtain ⟨cur, h1⟩ := RowAt.tag h.1 e
    exact (Array.getElem?_eq_some_iff.1 h1).1
  · exact (h.2 y hy).2.lt k e
/-- The list is pre, each with a slice of its own. -/
def ListIs (pre : List En) (L : List (En × Value)) : Prop := L.map Prod.fst = pre ∧ (L.map Prod.snd).Pairwise apartV
/-- The list so far, in its box bx. -/
def CollI (B : World) (bx : Nat) (Z : Nat → Prop) (pre : List En) (X : World) : Prop :=
  ∃ (v : Value) (L : List (En × Value)), ListIs pre L ∧ X.heap[bx]? = some (.cells #[v] 47 (0, 0)) ∧ EntsAt X v L ∧ Below B.heap.size B X ∧ B.heap.size ≤ bx ∧ ¬ Z bx ∧ (∀ k, EOwn v L k → ¬ Z k ∧ B.heap.size ≤ k) ∧ ∀ k, Z k → B.heap.size ≤ k
theorem CollI.steps (B : World) (bx : Nat) : StepsOn (CollI B bx) := by
  rintro Z Z' s X Y ⟨v, L, h1, h2, h3, h4, h5, h6, h7, h8⟩ hk hz
  have hlt := (Array.getElem?_eq_some_iff.1 h2).1
  refine ⟨v, L, h1, (hk.block bx hlt h6).trans h2, h3.kept hk (fun k e => (h7 k e).1), h4.trans (hk.below (fun k _ e => h8 k e) h4.size), h5, fun e => ?_, fun k e => ⟨fun e' => ?_, (h7 k e).2⟩, fun k e => ?_⟩
  · rcases hz bx e with e | e
    · exact h6 e
    · omega
  · rcases hz k e' with e' | e'
    · exact (h7 k e).1 e'
    · have := h3.lt k e; omega
  · rcases hz k e with e | e
    · exact h8 k e
    · have := h4.size; omega
theorem infoEy : (Tryz.prog.info? 44).map (fun i => (i.zero, i.size, i.bytes)) = some (some (.agg z19), 19, 168) := by kernel_rfl
theorem lit_entry (m : M) (s : Sta) (f : Int) (a : Option Addr) (n c : Nat) (w : World) : (Instr.buildSlice 47 1 #[(0, .agg (entC m s f (.slice a n c)).toArray)]).run Tryz.prog w = .ok (.slice (some ⟨w.heap.size, 0, none⟩) 1 1) (w.alloc (.cells (entC m s f (.slice a n c)).toArray 44)) := by kernel_rfl
theorem GivesZ.later {α : Type} {P : Program} {g : Nat} {lb : Array Value} {Pay : (Nat → Prop) → α → Array Value → World → Prop} {T : List α} {H : Nat → Prop} {w w' : World} (h : GivesZ P g lb Pay T H w) (hk : KeptOff (fun k => ¬ H k) w w') : GivesZ P g lb Pay T H w' :=
  fun l J K W hW => h l J K W (hk.trans hW)
/-- One more. -/
theorem CollI.more {B Wb w4 : World} {bx : Nat} {Z G : Nat → Prop} {pre : List En} {x : En} {v : Value} {L : List (En × Value)} {ea : Option Addr} {ec g2 off2 cap2 : Nat} (h1 : ListIs pre L) (h2 : Wb.heap[bx]? = some (.cells #[v] 47 (0, 0))) (h3 : EntsAt Wb v L) (h4 : Below B.heap.size B Wb) (h5 : B.heap.size ≤ bx) (h6 : ¬ Z bx)
    (h7 : ∀ k, EOwn v L k → ¬ Z k ∧ B.heap.size ≤ k) (h8 : ∀ k, Z k → B.heap.size ≤ k) (hZ : ∀ k, Z k → k < Wb.heap.size) (hM : Mgs Wb ea x.sent.length ec x.sent) (hT : TagV Wb 42 (.slice ea x.sent.length ec)) (hG : ∀ k, (Value.slice ea x.sent.length ec).ownBlock = some k → G k) (hGZ : ∀ k, G k → Z k)
    (hR : RowIn w4 44 19 g2 off2 (L.length + 1) cap2 (L.flatMap encE ++ encE (x, .slice ea x.sent.length ec))) (hk : KeptOff (fun k => v.ownBlock = some k) Wb w4) (hn : v.ownBlock = some g2 ∨ Wb.heap.size ≤ g2) :
    CollI B bx (fun k => Z k ∧ ¬ G k) (pre ++ [x]) (w4.setCell ⟨bx, 0, none⟩ (.slice (some ⟨g2, off2, none⟩) (L.length + 1) cap2)) := by
  have hbx : Wb.heap[bx]? = some (.cells #[v] 47 (0, 0)) := h2
  have hbv : v.ownBlock ≠ some bx := fun e => by
    obtain ⟨cur, h⟩ := RowAt.tag h3.1 e
    rw [h2] at h
    simp at h
  have h24 := (hk.block bx (Array.getElem?_eq_some_iff.1 h2).1 hbv).trans h2
  have hks := KeptOff.set w4 ⟨bx, 0, none⟩ (.slice (some ⟨g2, off2, none⟩) (L.length + 1) cap2)
  have hkw : KeptOff (fun k => v.ownBlock = some k ∨ k = bx) Wb (w4.setCell ⟨bx, 0, none⟩ (.slice (some ⟨g2, off2, none⟩) (L.length + 1) cap2)) := (hk.mono (fun _ _ e => .inl e)).trans (hks.mono (fun _ _ e => .inr e))
  have hg2b : g2 ≠ bx := fun e => by
    obtain ⟨cur, h, _⟩ := hR
    rw [e, h24] at h
    simp at h
  have hmsg : ∀ v', TagV Wb 42 v' → ∀ k, v'.ownBlock = some k → ¬ (v.ownBlock = some k ∨ k = bx) := fun v' ht k e e2 => by
    obtain ⟨cur, h⟩ := ht k e
    rcases e2 with e2 | e2
    · obtain ⟨cur2, h'⟩ := RowAt.tag h3.1 e2
      rw [h] at h'
      simp at h'
    · rw [e2, h2] at h
      simp at h
  have hge2 : B.heap.size ≤ g2 := hn.elim (fun e => (h7 g2 (.inl e)).2) (fun e => Nat.le_trans h4.size e)
  refine ⟨.slice (some ⟨g2, off2, none⟩) (L.length + 1) cap2, L ++ [(x, .slice ea x.sent.length ec)], ⟨by simp [h1.1], ?_⟩, by rw [Go.heap_setCell_same w4 bx 0 _ _ _ h24]; simp, ⟨?_, fun y hy => ?_⟩, h4.trans (hkw.below (fun k _ e => e.elim (fun e => (h7 k (.inl e)).2) (fun e => e ▸ h5)) h4.size), h5, fun e => h6 e.1, ?_, fun k e => h8 k e.1⟩
  · rw [List.map_append, List.pairwise_append]
    refine ⟨h1.2, by simp, fun a ha b hb k e1 e2 => ?_⟩
    obtain ⟨y, hy, rfl⟩ := List.mem_map.1 ha
    obtain rfl : b = .slice ea x.sent.length ec := by simpa using hb
    exact (h7 k (.inr ⟨y, hy, e1⟩)).1 (hGZ k (hG k e2))
  · refine .inr ⟨g2, off2, cap2, by simp, ?_⟩
    have := hR.kept hks (fun e => hg2b e)
    simpa [List.flatMap_append] using this
  · rcases List.mem_append.1 hy with hy | hy
    · exact ⟨(h3.2 y hy).1.kept hkw (hmsg _ (h3.2 y hy).2), (h3.2 y hy).2.kept hkw (hmsg _ (h3.2 y hy).2)⟩
    · obtain rfl := List.mem_singleton.1 hy
      exact ⟨⟨ea, ec, rfl, hM.keptOff hkw (hmsg _ hT)⟩, hT.kept hkw (hmsg _ hT)⟩
  · rintro k (e | ⟨y, hy, e⟩)
    · obtain rfl : g2 = k := by simpa [Value.ownBlock] using e
      refine ⟨fun e' => ?_, hge2⟩
      rcases hn with h | h
      · exact (h7 _ (.inl h)).1 e'.1
      · have := hZ _ e'.1; omega
    · rcases List.mem_append.1 hy with hy | hy
      · exact ⟨fun e' => (h7 k (.inr ⟨y, hy, e⟩)).1 e'.1, (h7 k (.inr ⟨y, hy, e⟩)).2⟩
      · obtain rfl := List.mem_singleton.1 hy
        exact ⟨fun e' => e'.2 (hG k e), h8 k (hGZ k (hG k e))⟩
set_option maxHeartbeats 16000000 in
theorem appendSeqE_any {w : World} {gf : Nat} {lb : Array Value} {T : List En} {H : Nat → Prop} (hg : GivesZ Tryz.prog gf lb PayE T H w) (eg : ∀ args w, (callFunc gf args).run Tryz.prog w = .ok (.enter gf args) w) (hH : ∀ k, H k → k < w.heap.size) (hT : T.length ≤ 16384) :
    Calls Tryz.prog 48 #[.slice none 0 0, .func (.func gf) #[] lb] w fun e w' => ∃ a c L, ListIs T L ∧ e = .returned (.slice a T.length c) ∧ Hid (EntsAt w' (.slice a T.length c) L ∧ Below w.heap.size w w' ∧ ∀ k, EOwn (.slice a T.length c) L k → w.heap.size ≤ k) := by
  have mixed := mixed
  obtain ⟨i0, hi0, hz0, hz1, hz2⟩ := info_parts infoEy
  have hB1 := (Below.refl _ w).alloc (Nat.le_refl _) (.cells #[.slice none 0 0] 47)
  have hs1 : (w.alloc (.cells #[.slice none 0 0] 47)).heap.size = w.heap.size + 1 := by simp
  have hg1 := Lib.hid (hg.later (.of_below hB1))
  have hI0 : Hid (CollI w w.heap.size (fun _ => False) [] (w.alloc (.cells #[.slice none 0 0] 47))) := Lib.hid ⟨.slice none 0 0, [], ⟨rfl, .nil⟩, heap_alloc_new w _, ⟨.nil _ _ _, fun y hy => (by cases hy)⟩, hB1, Nat.le_refl _, fun e => e, fun k e => ⟨fun e => e, by
    rcases e with e | ⟨y, hy, _⟩
    · cases e
    · cases hy⟩, fun k e => e.elim⟩
  clear hg
  refine (callsIn_wide (n := 6)).1 ?_
  refine callsIn_of_wp_marks Tryz.func48 rfl trivial (wpIn_mono (Q := noPanic (bodyPostM Fence.wide 6 Tryz.prog Tryz.f48 fun e w' => ∃ a c L, ListIs T L ∧ e = .returned (.slice a T.length c) ∧ Hid (EntsAt w' (.slice a T.length c) L ∧ Below w.heap.size w w' ∧ ∀ k, EOwn (.slice a T.length c) L k → w.heap.size ≤ k))) ?_ (noPanic_le _)) rfl
  simp only [Tryz.ntmps48, List.size_toArray, List.length_cons, List.length_nil, Nat.reduceAdd, Nat.reduceSub, Array.replicate_succ, Array.replicate_zero, List.push_toArray, List.append_toArray, List.nil_append, List.cons_append]
  refine wpIn_wide.2 ?_
  go_wp2_with fail
  refine (wpIn_wide (n := 6)).1 ?_
  generalize w.alloc (.cells #[.slice none 0 0] 47) = w1 at *
  refine wpIn_rangeFunc_Z (gf := gf) (lb := lb) rfl eg (fun k hk => by have := hH k hk; omega) hg1.out (fun G x vs X h => by obtain ⟨a, c, rfl, _⟩ := h; rfl) (CollI w w.heap.size) (fun _ _ _ _ => False) (CollI.steps _ _) (fun _ _ _ _ _ _ h _ _ => h) hI0.out ?round ?done (fun _ _ _ _ _ _ _ _ h => h.elim)
  case round =>
    intro l1 Z G pre x vs X hI hpre hpay hG hZlt hsz hvs
    obtain ⟨v, L, h1, h2a, h3a, h4a, h5, h6, h7, h8⟩ := hI
    obtain ⟨ea, ec, rfl, hMa, hTa, hGx⟩ := hpay
    have h2 := Lib.hid h2a
    have h3 := Lib.hid h3a
    have h4 := Lib.hid h4a
    have hMx := Lib.hid hMa
    have hTx := Lib.hid hTa
    clear h2a h3a h4a hMa hTa hg1 hI0
    have hlenL : L.length < 16384 := by
      have := hpre.length_le
      rw [← h1.1] at this
      simp at this
      omega
    have hA := heap_alloc_new X (.cells z19 44)
    have hC := Lib.hid ((Below.refl _ X).alloc (Nat.le_refl _) (.cells z19 44))
    simp only [z19] at hA hC
    have hE1 : Hid ((entC x.ev x.bf x.fl (.slice ea x.sent.length ec)).toArray.size = 19 ∧ (entC x.ev x.bf x.fl (.slice ea x.sent.length ec)).toArray.all (·.oneCell') = true ∧ (entC x.ev x.bf x.fl (.slice ea x.sent.length ec)).length = 19) := Lib.hid ⟨rfl, entC_one _ _ _ _ _ _, rfl⟩
    have hlit := Lib.hid (fun w => lit_entry x.ev x.bf x.fl ea x.sent.length ec w)
    have hE0 : encE (x, .slice ea x.sent.length ec) = entC x.ev x.bf x.fl (.slice ea x.sent.length ec) := rfl
    have hET : ∃ ET, entC x.ev x.bf x.fl (.slice ea x.sent.length ec) = ET := ⟨_, rfl⟩
    obtain ⟨ET, hET0⟩ := hET
    rw [hET0] at hE1 hlit hE0 ⊢
    have hE0' := Lib.hid hE0
    clear hET0 hE0
    gi_wp2_with (first
      | (refine wpListIn_store_row rfl 44 (.tmp 5) (.tmp 7) rfl X.heap.size ET.toArray rfl rfl 44 _ hA (by rw [hE1.out.1]; exact infoEn) (by rw [hE1.out.1]; rfl) hE1.out.2.1 ?_))
    have hXe := Lib.hid (setRow_heap (new := ET.toArray) hA)
    have hBa := Lib.hid (below_row hC.out (g := X.heap.size) (Nat.le_refl _) ET.toArray)
    clear hA hC
    generalize (X.alloc (Obj.cells _ 44)).setRow X.heap.size ET.toArray = Wa at *
    refine ⟨.of_below hBa.out, fun Wb hkb hsb => ?_⟩
    have hwa := hBa.out.size
    have hxl := (Array.getElem?_eq_some_iff.1 hXe.out).1
    have hkb0 : Hid (KeptOff (fun q => Z q ∧ ¬ G q) X Wb) := Lib.hid ((KeptOff.of_below hBa.out).trans hkb)
    have hXb := Lib.hid ((hkb.block _ hxl (fun e => by have := hZlt _ e.1; omega)).trans hXe.out)
    have hXr : Hid (Wb.rangeAt X.heap.size 0 ET) := Lib.hid (by have := range_block hXb.out; simpa using this)
    have h2b := Lib.hid ((hkb0.out.block _ (Array.getElem?_eq_some_iff.1 h2.out).1 (fun e => h6 e.1)).trans h2.out)
    have h3b := Lib.hid (h3.out.kept hkb0.out (fun k e e2 => (h7 k e).1 e2.1))
    have h4b := Lib.hid (h4.out.trans (hkb0.out.below (fun k _ e => h8 k e.1) h4.out.size))
    have hMb := Lib.hid (hMx.out.keptOff hkb0.out (fun q e e2 => e2.2 (hGx q e)))
    have hTb := Lib.hid (hTx.out.kept hkb0.out (fun q e e2 => e2.2 (hGx q e)))
    have hna := Lib.hid (heap_alloc_new Wb (.cells ET.toArray 44))
    have hBn := Lib.hid ((Below.refl _ Wb).alloc (Nat.le_refl _) (.cells ET.toArray 44))
    have hrw : Hid (RowAt (Wb.alloc (.cells ET.toArray 44)) 44 19 v L.length (L.flatMap encE)) := Lib.hid (h3b.out.below hBn.out).1
    have cbx : Wb.cell? ⟨w.heap.size, 0, none⟩ = some v := row_cell h2b.out 0 rfl
    obtain ⟨va, vc, hva, -⟩ := RowAt.shape h3b.out.1
    have hin : Hid (∀ w4, KeptOff (fun k => v.ownBlock = some k) (Wb.alloc (.cells ET.toArray 44)) w4 → w4.cell? ⟨w.heap.size, 0, none⟩ = some v ∧ w4.frozen? ⟨w.heap.size, 0, none⟩ = false) := Lib.hid (fun w4 hk => by
      have hbv : v.ownBlock ≠ some w.heap.size := fun e => by
        obtain ⟨cur, h⟩ := RowAt.tag h3b.out.1 e
        rw [h2b.out] at h
        simp at h
      have := ((hk.block _ (Nat.lt_of_lt_of_le (Array.getElem?_eq_some_iff.1 h2b.out).1 hBn.out.size) hbv).trans (hBn.out.block _ (Array.getElem?_eq_some_iff.1 h2b.out).1)).trans h2b.out
      exact ⟨row_cell this 0 rfl, frozen_of_cells this⟩)
    obtain ⟨R, hR0⟩ : ∃ R : Exit → Act → World → Prop, ∀ e a3 W3, R e a3 W3 ↔ KeptOff (fun k => ¬ Z k ∧ ¬ H k) Wb W3 ∧ LeftZ (CollI w w.heap.size) (fun _ _ _ _ => False) (fun k => Z k ∧ ¬ G k) (pre ++ [x]) W3 e := ⟨_, fun _ _ _ => Iff.rfl⟩
    have hfin : Hid (∀ g2 off2 cap2 w4, Hid (RowIn w4 44 19 g2 off2 (L.length + 1) cap2 (L.flatMap encE ++ ET)) → Hid (KeptOff (fun k => v.ownBlock = some k) (Wb.alloc (.cells ET.toArray 44)) w4) → Hid (v.ownBlock = some g2 ∨ (Wb.alloc (.cells ET.toArray 44)).heap.size ≤ g2) →
        ∀ a3, R .normal a3 (w4.setCell ⟨w.heap.size, 0, none⟩ (.slice (some ⟨g2, off2, none⟩) (L.length + 1) cap2))) := Lib.hid (fun g2 off2 cap2 w4 r1 r2 r3 a3 => (hR0 _ _ _).2 (by
      have hkk : KeptOff (fun k => v.ownBlock = some k) Wb w4 := (KeptOff.of_below hBn.out).trans r2.out
      refine ⟨(hkk.mono (fun k hk e => ⟨(h7 k (.inl e)).1, fun hh => by have := hH k hh; have := (h7 k (.inl e)).2; omega⟩)).trans ((KeptOff.set w4 ⟨w.heap.size, 0, none⟩ _).mono (fun k _ e => by simp only at e; subst e; exact ⟨h6, fun hh => by have := hH _ hh; omega⟩)), ?_⟩
      exact CollI.more h1 h2b.out h3b.out h4b.out h5 h6 h7 h8 (fun k e => by have := hZlt k e; omega) hMb.out hTb.out hGx hG (by rw [hE0'.out]; exact r1.out) hkk (r3.out.imp id (fun e => by have := hBn.out.size; omega))))
    have hR := Lib.hid hR0
    clear hR0
    refine wpIn_mono (Q := R) ?_ (fun e a3 W3 h => (hR.out e a3 W3).1 h)
    have hmx : (L.length + 1) * 168 ≤ 140737488355328 := by omega
    have hmx2 : L.length + 1 ≤ maxLen := by unfold maxLen; omega
    clear h1 h2 h3 h4 h5 h6 h7 h8 hMx hTx hXe hBa hkb hkb0 hXb h2b h3b h4b hMb hTb hBn hZlt hG hGx hpre hH hsb hwa hxl hsz hvs hE0' hR
    simp only [Act.put]
    subst hva
    gi_wp2_with (first
      | (refine wpListIn_load_row rfl 44 (.tmp 5) rfl X.heap.size 0 rfl ET _ hXr.out Tryz.underlying44 rfl (by rw [hE1.out.2.2]; exact infoEn) ?_)
      | (refine wpListIn_buildSlice_to rfl 47 1 #[(0, .tmp 9)] rfl #[(0, .agg ET.toArray)] (by simp only [List.map_toArray, List.map_cons, List.map_nil]; rfl) (hlit.out _) ?_)
      | (refine wpListIn_append_row rfl (.tmp 8) (.tmp 10) 47 rfl hrw.out i0 _ 168 Tryz.underlying47 hi0 hz0 hz1 hz2 rfl (by omega) rfl ⟨Wb.heap.size, 0, none⟩ 1 ET rfl hE1.out.2.2 (fun j u hj => news_of hna.out j u hj) (fun u hu => by have := hE1.out.2.1; simp only [List.all_toArray, List.all_eq_true] at this; exact this u hu) hmx2 hmx ?_; intro g2 off2 cap2 w4 r1 r2 r3; have hf := hfin.out g2 off2 cap2 w4 r1 r2 r3; obtain ⟨c4, f4⟩ := hin.out w4 r2.out; clear r1 r2 r3))
    exact hf _
  case done =>
    intro D Zf W2 hD hZfD hI hdef
    obtain ⟨v, L, h1, h2, h3, h4, h5, h6, h7, h8⟩ := hI
    obtain ⟨va, vc, hva, -⟩ := RowAt.shape h3.1
    subst hva
    have hlen : T.length = L.length := by rw [← h1.1]; simp
    have hend : Hid (∀ w', KeptOff (fun k => k ∈ [D]) W2 w' → EntsAt w' (.slice va T.length vc) L ∧ Below w.heap.size w w' ∧ ∀ k, EOwn (.slice va T.length vc) L k → w.heap.size ≤ k) := Lib.hid (fun w' hk => by
      rw [hlen]
      refine ⟨h3.kept hk (fun k e e2 => (h7 k e).1 (by obtain rfl := List.mem_singleton.1 e2; exact hZfD)), h4.trans (hk.below (fun k _ e => by obtain rfl := List.mem_singleton.1 e; exact h8 _ hZfD) h4.size), fun k e => (h7 k e).2⟩)
    have hM : Hid (Marks [D] W2) := Lib.hid ⟨by simp, fun D' hD' => by obtain rfl := List.mem_singleton.1 hD'; exact hdef⟩
    have c2 : W2.cell? ⟨w.heap.size, 0, none⟩ = some (.slice va T.length vc) := by rw [hlen]; exact row_cell h2 0 rfl
    have h1' := Lib.hid h1
    clear h1 h2 h3 h4 h5 h6 h7 h8 hdef hlen hZfD
    dsimp only [Exit.inBlock, Exit.then]
    go_wp2
    exact leaves_marks (by simp) [D] W2 hM.out (fun w' hk => ⟨_, by simp [results, Tryz.f48, go_sem], va, vc, L, h1'.out, rfl, hend.out w' hk⟩)
end Go.Proofs.YtminfmjgmmkaoaaGreatDoor
namespace Go.Proofs.YtminfmjgmmkaoaaGreatDoor
open Go.ChangeShapes Go.WideShapes Go.ChangeAt Go.Shelf Go.RowKit Go.Lib Go.Sort Go.Deep
set_option linter.unusedVariables false
set_option maxRecDepth 4000
set_option linter.unusedSimpArgs false

/-- Entries that a call tells. -/
def TellsE (w : World) (T : List En) (v : Value) (w' : World) : Prop := ∃ L, L.map Prod.fst = T ∧ EntsAt w' v L ∧ Below w.heap.size w w' ∧ (∀ k, EOwn v L k → w.heap.size ≤ k) ∧ (L.map Prod.snd).Pairwise apartV
theorem collectE_any {w : World} {gf : Nat} {lb : Array Value} {T : List En} {H : Nat → Prop} (hg : GivesZ Tryz.prog gf lb PayE T H w) (eg : ∀ args w, (callFunc gf args).run Tryz.prog w = .ok (.enter gf args) w) (hH : ∀ k, H k → k < w.heap.size) (hT : T.length ≤ 16384) :
    Calls Tryz.prog 33 #[.func (.func gf) #[] lb] w fun e w' => ∃ a c, e = .returned (.slice a T.length c) ∧ Hid (TellsE w T (.slice a T.length c) w') := by
  have hc := Lib.hid (appendSeqE_any hg eg hH hT)
  clear hg
  go_enter Tryz.func33, Tryz.ntmps33
  go_wp2_with fail
  refine hc.out.mono ?_
  rintro e w2 ⟨a, c, L, h1, rfl, hq⟩
  have hfin : Hid (TellsE w T (.slice a T.length c) w2) := Lib.hid ⟨L, h1.1, hq.out.1, hq.out.2.1, hq.out.2.2, h1.2⟩
  clear hq hc
  go_wp2
  go_ret
  exact ⟨a, c, rfl, hfin⟩
/-- What is asked of a log so that its entries can be told. -/
structure LogMay (ss : List Sth) : Prop where
  ok : ∀ S ∈ ss, StaOk S.kept ∧ ∀ p ∈ S.L, In64 p.ev.v
  n : ss.length < 16384
  L : ∀ S ∈ ss, S.L.length < 16384
  sl : ∀ S ∈ ss, ∀ p ∈ S.L, p.sent.length ≤ 16384
  all : total ss ≤ 16384
set_option maxHeartbeats 8000000 in
theorem lgAll_any {b w : World} {eb : Addr} (hE : ErrIs b eb) (hT : ErrT b) (hb : Below b.heap.size b w) {lb : Nat} {v : Wv} {W : Wd} {every : Int} {sv : Value} {ss : List Sth} {st : Sta} {stuck : Bool} (h : LogOf w lb v W every sv ss st stuck) (hm : LogMay ss) :
    Calls Tryz.prog 12 #[.pointer (some ⟨lb, 0, none⟩)] w fun e w' => ∃ a c, e = .returned (.slice a (total ss) c) ∧ Hid (TellsE w (toldAll W ss) (.slice a (total ss) c) w') := by
  obtain ⟨sa, sc, hsv, -⟩ := RowAt.shape h.rd.abv
  have hmd := lgMade_any (w := w) (lb := lb) (by rw [← hsv]; exact h.x.c5) h.pos
  have hb1 := (Below.refl _ w).alloc (Nat.le_refl _) (.cells #[.pointer (some ⟨lb, 0, none⟩)] 28)
  have hg := lgWay1_gives hE hT (hb.trans (hb1.mono hb.size)) (heap_alloc_new w (.cells #[.pointer (some ⟨lb, 0, none⟩)] 28)) ((hb1.block _ h.x.lt).trans h.row) (h.rd.below hb1) hm.ok hm.n hm.L hm.sl
  have hlen : (toldAll W ss).length = total ss := toldAll_length W ss
  have hc := Lib.hid (collectE_any hg (enters_of Tryz.func49 (by kernel_rfl) rfl) (fun k hk => by
    rcases hk with hk | rfl | rfl | hk | ⟨S, hS, hk⟩
    · have := hb.size; have := hb1.size; omega
    · simp
    · have := h.x.lt; have := hb1.size; omega
    · have := h.rd.svt.lt k hk; have := hb1.size; omega
    · have := (h.rd.sth hS).lt k hk; have := hb1.size; omega) (by rw [hlen]; exact hm.all))
  rw [hlen] at hc
  have hb1' := Lib.hid hb1
  clear hE hT hb h hm hg hsv hb1
  go_enter Tryz.func12, Tryz.ntmps12
  go_wp2_with (first
    | (go_at_call 32; refine hmd.mono ?_; rintro e w' ⟨rfl, rfl⟩)
    | (go_at_call 34; refine lgWay_any.mono ?_; rintro e w2 ⟨rfl, rfl⟩)
    | (go_at_call 33; refine hc.out.mono ?_; rintro e w3 ⟨a, c, rfl, hq⟩; obtain ⟨L, h1, h2, h3, h4, h5⟩ := hq.out; have hfin : Hid (TellsE w (toldAll W ss) (.slice a (total ss) c) w3) := Lib.hid ⟨L, h1, h2, hb1'.out.trans (h3.mono hb1'.out.size), fun k e => Nat.le_trans hb1'.out.size (h4 k e), h5⟩; clear hq h1 h2 h3 h4 h5))
  go_ret
  exact ⟨a, c, rfl, hfin⟩
theorem lgState_any {w : World} {lb : Nat} {v : Wv} {W : Wd} {every : Int} {sv : Value} {ss : List Sth} {st : Sta} {stuck : Bool} (h : LogOf w lb v W every sv ss st stuck) :
    Calls Tryz.prog 13 #[.pointer (some ⟨lb, 0, none⟩)] w fun e w' => e = .returned (.agg (encSt st).toArray) ∧ Below w.heap.size w w' := by
  obtain ⟨sa, sc, hsv, -⟩ := RowAt.shape h.rd.abv
  have hmd : Hid (∀ w', Below w.heap.size w w' → _) := Lib.hid (fun w' hb => lgMade_any (w := w') (lb := lb) (by rw [← hsv]; exact (h.x.below hb).c5) h.pos)
  have hb0 := (Below.refl _ w).alloc (Nat.le_refl _) (.cells z10 34)
  have hA := heap_alloc_new w (.cells z10 34)
  have hm0 := hmd.out _ hb0
  have hr0 := Lib.hid (logC_state ((hb0.block _ h.x.lt).trans h.row))
  have hb0' := Lib.hid hb0
  have hls : (encSt st).length = 10 := rfl
  have hone := encSt_one st
  have hsz : Hid ((encSt st).toArray.size = 10) := Lib.hid rfl
  generalize encSt st = cst at *
  clear h hmd hb0 hsv
  simp only [z10] at hA hm0 hr0 hb0'
  go_enter Tryz.func13, Tryz.ntmps13
  go_wp2_with (first
    | (go_at_call 32; refine hm0.mono ?_; rintro e w' ⟨rfl, rfl⟩)
    | (refine wpList_load_mid rfl 34 (.tmp 9) rfl lb 7 rfl cst _ hr0.out Tryz.underlying34 rfl (by rw [hls]; exact infoS10) ?_)
    | (refine wpList_store_row rfl 34 (.tmp 2) (.tmp 10) rfl w.heap.size cst.toArray rfl rfl 34 _ hA (by rw [hsz.out]; exact infoS10) (by rw [hsz.out]; rfl) hone ?_))
  have hZ := setRow_heap (new := cst.toArray) hA
  have hB := below_row hb0'.out (g := w.heap.size) (Nat.le_refl _) cst.toArray
  refine bodyPost_ret (results_row (fn := Tryz.f13) rfl _ _ _ 34 _ _ rfl hZ Tryz.underlying34 rfl (by rw [hsz.out]; exact infoS10)) rfl ⟨rfl, hB⟩
end Go.Proofs.YtminfmjgmmkaoaaGreatDoor
namespace Go.Proofs.YtminfmjgmmkaoaaGreatDoor
open Go.ChangeShapes Go.WideShapes Go.ChangeAt Go.Shelf Go.RowKit Go.Lib Go.Sort Go.Deep
set_option linter.unusedVariables false
set_option maxRecDepth 4000
set_option linter.unusedSimpArgs false

section
variable {P : Program} {ops : Array Oper} {rest : List Oper} {op : Oper} {a : Act} {w : World} {Q : Exit → Act → World → Prop}
theorem wpList_load_mid_g (hw : Region.wanted op (yielded ops a.tmps) = true) (ty : TypeId) (x : Operand) (ho : op.op = .load ty x)
    (b o : Nat) (hx : a.eval x = .pointer (some ⟨b, o, none⟩)) (cs : List Value) (d : TypeDesc) (hc : w.rangeAt b o cs)
    (hu : P.underlying ty = some d) (hd : d.isRow = true) (hi : (P.info? ty).map (·.size) = some cs.length)
    (h : wpList P ops Q rest (a.put op.dst (.agg cs.toArray)) w) : wpList P ops Q (op :: rest) a w :=
  wpList_step fun K hK => by
    rw [if_pos hw]
    exact wp_load_mid ty x ho b o hx cs d hc hu hd hi (hK _ _ h)
end
/-- A message is as itself. -/
theorem neqM_same (m : M) (w : World) : Sem.run Tryz.prog (binOp .neq 42 (.agg (encMs m).toArray) (.agg (encMs m).toArray)) w = .ok (.bool false) w := by
  obtain ⟨⟨t, f, q⟩, to', vv, u, an⟩ := m
  have u2 := Tryz.underlying2
  have u3 := Tryz.underlying3
  have a2 := Tryz.isAgg2
  have z2 := Tryz.sizeOf2
  have a3 := Tryz.isAgg3
  have z3 := Tryz.sizeOf3
  have a4 := Tryz.isAgg4
  have z4 := Tryz.sizeOf4
  have u4 := Tryz.underlying4
  have aK := Tryz.isAgg40
  have zK := Tryz.sizeOf40
  have hS : Tryz.prog.underlying 42 = some (.struct (Tryz.prog.fieldsOf 42)) := by kernel_rfl
  have hp : Tryz.prog.stoodInHeld 42 = false := by kernel_rfl
  have hK : Tryz.prog.underlying 40 = some (.struct (Tryz.prog.fieldsOf 40)) := by kernel_rfl
  have hpK : Tryz.prog.stoodInHeld 40 = false := by kernel_rfl
  have hA : ∀ (d : Nat) (w : World), Sem.run Tryz.prog (Op.equalIn (d + 2) 40 (.agg #[.int .i64 t, .int .i64 f, .int .i64 q]) (.agg #[.int .i64 t, .int .i64 f, .int .i64 q])) w = .ok true w := by
    intro d w
    rw [run_equalIn_agg w (d + 1) 40 _ _ hK hpK]
    simp only [Program.fieldsOf, Tryz.underlying40]
    go_simp
  rw [run_neq_struct]
  simp only [encMs]
  rw [run_equalIn_agg w 9999 42 _ _ hS hp]
  simp only [Program.fieldsOf, Tryz.underlying42]
  go_simp
theorem neqS_same (s : Sta) (w : World) : Sem.run Tryz.prog (binOp .neq 34 (.agg (encSt s).toArray) (.agg (encSt s).toArray)) w = .ok (.bool false) w := by
  have h := eqlS_refl (s.r.getD 0 0) (s.r.getD 1 0) (s.r.getD 2 0) (s.r.getD 3 0) (s.r.getD 4 0) (s.r.getD 5 0) (s.r.getD 6 0) (s.r.getD 7 0) s.d s.s w
  rw [run_eql_struct] at h
  rw [run_neq_struct]
  simp only [encSt]
  generalize Sem.run Tryz.prog (Op.equalIn 10000 34 _ _) w = r at *
  cases r with
  | ok b w' => simp [Result.andThen] at h ⊢; obtain ⟨rfl, rfl⟩ := h; simp
  | halt x w' => simp [Result.andThen] at h
theorem MsgAt.range {w : World} {b o : Nat} {m : M} (h : MsgAt w b o m) : w.rangeAt b o (encMs m) := by
  obtain ⟨_, h0, h1, h2, h3, h4, h5, h6⟩ := h
  intro j u hj
  have hl : j < 7 := by have := (List.getElem?_eq_some_iff.1 hj).1; simpa [encMs] using this
  rcases (by omega : j = 0 ∨ j = 1 ∨ j = 2 ∨ j = 3 ∨ j = 4 ∨ j = 5 ∨ j = 6) with rfl | rfl | rfl | rfl | rfl | rfl | rfl <;> (simp [encMs] at hj; subst hj; assumption)
set_option maxHeartbeats 16000000 in
theorem l10entry_same {w : World} {x : En} {a b : Option Addr} {c d : Nat} (hA : Mgs w a x.sent.length c x.sent) (hB : Mgs w b x.sent.length d x.sent) :
    Calls Tryz.prog 17 #[.agg (entC x.ev x.bf x.fl (.slice a x.sent.length c)).toArray, .agg (entC x.ev x.bf x.fl (.slice b x.sent.length d)).toArray] w fun e w' => e = .returned (.bool true) ∧ Below w.heap.size w w' := by
  have mixed := mixed
  obtain ⟨ev, bf, fl, ms⟩ := x
  simp only at hA hB ⊢
  have hb0 : Hid (Below w.heap.size w ((w.alloc (.cells (entC ev bf fl (.slice a ms.length c)).toArray 44)).alloc (.cells (entC ev bf fl (.slice b ms.length d)).toArray 44))) := Lib.hid (((Below.refl _ w).alloc (Nat.le_refl _) _).alloc (by simp) _)
  have h1 : ((w.alloc (.cells (entC ev bf fl (.slice a ms.length c)).toArray 44)).alloc (.cells (entC ev bf fl (.slice b ms.length d)).toArray 44)).heap[w.heap.size]? = some (.cells (entC ev bf fl (.slice a ms.length c)).toArray 44 (0, 0)) :=
    ((((Below.refl _ (w.alloc (.cells (entC ev bf fl (.slice a ms.length c)).toArray 44))).alloc (Nat.le_refl _) (.cells (entC ev bf fl (.slice b ms.length d)).toArray 44)).block w.heap.size (by simp)).trans (heap_alloc_new w _))
  have h2 : ((w.alloc (.cells (entC ev bf fl (.slice a ms.length c)).toArray 44)).alloc (.cells (entC ev bf fl (.slice b ms.length d)).toArray 44)).heap[w.heap.size + 1]? = some (.cells (entC ev bf fl (.slice b ms.length d)).toArray 44 (0, 0)) := by
    have := heap_alloc_new (w.alloc (.cells (entC ev bf fl (.slice a ms.length c)).toArray 44)) (.cells (entC ev bf fl (.slice b ms.length d)).toArray 44)
    rwa [World.size_alloc] at this
  obtain ⟨ra1, ra2, ca1, ca2⟩ := entC_range h1
  obtain ⟨rb1, rb2, cb1, cb2⟩ := entC_range h2
  have ra1 := Lib.hid ra1
  have ra2 := Lib.hid ra2
  have rb1 := Lib.hid rb1
  have rb2 := Lib.hid rb2
  clear h1 h2
  have hlm : (encMs ev).length = 7 := rfl
  have hls : (encSt bf).length = 10 := rfl
  have nM := neqM_same ev
  have nS := neqS_same bf
  have hA' := Lib.hid hA
  have hB' := Lib.hid hB
  have hEA : ∃ EA, (entC ev bf fl (.slice a ms.length c)).toArray = EA := ⟨_, rfl⟩
  obtain ⟨EA, hEA⟩ := hEA
  have hEB : ∃ EB, (entC ev bf fl (.slice b ms.length d)).toArray = EB := ⟨_, rfl⟩
  obtain ⟨EB, hEB⟩ := hEB
  rw [hEA, hEB] at hb0 ca1 ca2 cb1 cb2 ra1 ra2 rb1 rb2 ⊢
  have hcA : (Value.agg EA).cells = EA := rfl
  have hcB : (Value.agg EB).cells = EB := rfl
  clear hA hB hEA hEB
  generalize encMs ev = cm at *
  generalize encSt bf = cst at *
  go_enter Tryz.func17, Tryz.ntmps17
  go_wp2_with (first
    | (refine wpList_load_mid rfl 42 (.tmp 6) rfl w.heap.size 0 rfl cm _ ra1.out Tryz.underlying42 rfl (by rw [hlm]; exact infoMe) ?_)
    | (refine wpList_load_mid rfl 42 (.tmp 8) rfl (w.heap.size + 1) 0 rfl cm _ rb1.out Tryz.underlying42 rfl (by rw [hlm]; exact infoMe) ?_)
    | (refine wpList_load_mid_g rfl 34 (.tmp 12) rfl w.heap.size 7 rfl cst _ ra2.out Tryz.underlying34 rfl (by rw [hls]; exact infoS10) ?_)
    | (refine wpList_load_mid_g rfl 34 (.tmp 14) rfl (w.heap.size + 1) 7 rfl cst _ rb2.out Tryz.underlying34 rfl (by rw [hls]; exact infoS10) ?_))
  have hsz : ((w.alloc (.cells EA 44)).alloc (.cells EB 44)).heap.size = w.heap.size + 2 := by simp
  clear ra1 ra2 rb1 rb2 ca1 cb1 nS
  generalize (w.alloc (.cells EA 44)).alloc (.cells EB 44) = w0 at *
  have hca : Hid (∀ w', Below w0.heap.size w0 w' → w'.cell? ⟨w.heap.size, 18, none⟩ = some (.slice a ms.length c)) := Lib.hid (fun w' h => (h.cell (p := ⟨w.heap.size, 18, none⟩) (by show w.heap.size < w0.heap.size; omega)).trans ca2)
  have hcb : Hid (∀ w', Below w0.heap.size w0 w' → w'.cell? ⟨w.heap.size + 1, 18, none⟩ = some (.slice b ms.length d)) := Lib.hid (fun w' h => (h.cell (p := ⟨w.heap.size + 1, 18, none⟩) (by show w.heap.size + 1 < w0.heap.size; omega)).trans cb2)
  have hln : ms.length ≤ 9223372036854775807 := by have := hA'.out.2.1; have := hA'.out.2.2.1; unfold maxLen at *; omega
  clear ca2 cb2 nM
  go_loopw [5] (fun i wr => ∃ k : Nat, k ≤ ms.length ∧ i = .int .i64 (k : Int) ∧ Hid (Below w0.heap.size w0 wr)) (fun i _ => ms.length - (intOf i).toNat)
  case atStart => exact ⟨0, Nat.zero_le _, rfl, Lib.hid (Below.refl _ _)⟩
  case round =>
    obtain ⟨k, hk, rfl, hB⟩ := hrel
    have ca := hca.out wr hB.out
    by_cases hlt : k < ms.length
    · obtain ⟨ab, ao, rfl, hma⟩ : ∃ ab ao, a = some ⟨ab, ao, none⟩ ∧ ∀ i, i < ms.length → MsgAt w ab (ao + i * 7) (ms.getD i default) := by
        rcases hA'.out.2.2.2 with h0 | h1
        · omega
        · exact h1
      obtain ⟨bb, bo, rfl, hmb⟩ : ∃ bb bo, b = some ⟨bb, bo, none⟩ ∧ ∀ i, i < ms.length → MsgAt w bb (bo + i * 7) (ms.getD i default) := by
        rcases hB'.out.2.2.2 with h0 | h1
        · omega
        · exact h1
      have hra : Hid (∀ w', Below w0.heap.size w0 w' → w'.rangeAt ab (ao + k * 7) (encMs (ms.getD k default))) := Lib.hid (fun w' h => ((hma k hlt).below (hb0.out.trans (h.mono hb0.out.size))).range)
      have hrb : Hid (∀ w', Below w0.heap.size w0 w' → w'.rangeAt bb (bo + k * 7) (encMs (ms.getD k default))) := Lib.hid (fun w' h => ((hmb k hlt).below (hb0.out.trans (h.mono hb0.out.size))).range)
      have nk := neqM_same (ms.getD k default)
      have hl7 : (encMs (ms.getD k default)).length = 7 := rfl
      have hlt3 : (k : Int) < (ms.length : Int) := by omega
      have hk0 : (0 : Int) ≤ (k : Int) := by omega
      generalize encMs (ms.getD k default) = ck at *
      clear hma hmb
      go_upto_region 6 with fail
      refine wp_region_held_drew (S := fun w' => Below wr.heap.size wr w') (by kernel_rfl) (Below.refl _ wr).drew (fun hHeld => ?_)
      clear hHeld
      have hHd : Below wr.heap.size wr wr.drew := (Below.refl _ wr).drew
      refine wpAnyH_take (i := 0) (oi := { dst := some 41, op := Op.fieldAddr 44 (Operand.tmp 2) 3, type := 0, pos := "law.go:32", after := #[], guard := none }) (v := ?vv0_1) rfl (by kernel_rfl) (by kernel_rfl) (by kernel_rfl) (fun _ _ _ h => h) (Or.inl ⟨by rfl, ?hy0_1⟩) hHd ?rest0_1
      case hy0_1 =>
        intro w hSw
        go_simp
        try with_reducible rfl
      try simp only [Act.put, List.setIfInBounds_toArray, List.set_cons_zero, List.set_cons_succ]
      refine wpAnyH_take (i := 2) (oi := { dst := some 43, op := Op.move (Operand.tmp 5), type := 3, pos := "law.go:32", after := #[], guard := none }) (v := ?vv2_2) rfl (by kernel_rfl) (by kernel_rfl) (by kernel_rfl) (fun _ _ _ h => h) (Or.inl ⟨by rfl, ?hy2_2⟩) hHd ?rest2_2
      case hy2_2 =>
        intro w hSw
        go_simp
        try with_reducible rfl
      try simp only [Act.put, List.setIfInBounds_toArray, List.set_cons_zero, List.set_cons_succ]
      refine wpAnyH_take (i := 5) (oi := { dst := some 46, op := Op.fieldAddr 44 (Operand.tmp 3) 3, type := 0, pos := "law.go:32", after := #[], guard := none }) (v := ?vv5_3) rfl (by kernel_rfl) (by kernel_rfl) (by kernel_rfl) (fun _ _ _ h => h) (Or.inl ⟨by rfl, ?hy5_3⟩) hHd ?rest5_3
      case hy5_3 =>
        intro w hSw
        go_simp
        try with_reducible rfl
      try simp only [Act.put, List.setIfInBounds_toArray, List.set_cons_zero, List.set_cons_succ]
      refine wpAnyH_take (i := 7) (oi := { dst := some 48, op := Op.move (Operand.tmp 5), type := 3, pos := "law.go:32", after := #[], guard := none }) (v := ?vv7_4) rfl (by kernel_rfl) (by kernel_rfl) (by kernel_rfl) (fun _ _ _ h => h) (Or.inl ⟨by rfl, ?hy7_4⟩) hHd ?rest7_4
      case hy7_4 =>
        intro w hSw
        go_simp
        try with_reducible rfl
      try simp only [Act.put, List.setIfInBounds_toArray, List.set_cons_zero, List.set_cons_succ]
      refine wpAnyH_take (i := 1) (oi := { dst := some 42, op := Op.load 37 (Operand.tmp 41), type := 37, pos := "law.go:32", after := #[{ on := 0, ground := Ground.data }], guard := none }) (v := ?vv1_5) rfl (by kernel_rfl) (by kernel_rfl) (by kernel_rfl) (fun _ _ _ h => h) (Or.inl ⟨by rfl, ?hy1_5⟩) hHd ?rest1_5
      case hy1_5 =>
        intro w hSw
        have c := hca.out w (hB.out.trans (hSw.mono hB.out.size))
        go_simp
        try with_reducible rfl
      try simp only [Act.put, List.setIfInBounds_toArray, List.set_cons_zero, List.set_cons_succ]
      refine wpAnyH_take (i := 6) (oi := { dst := some 47, op := Op.load 37 (Operand.tmp 46), type := 37, pos := "law.go:32", after := #[{ on := 5, ground := Ground.data }], guard := none }) (v := ?vv6_6) rfl (by kernel_rfl) (by kernel_rfl) (by kernel_rfl) (fun _ _ _ h => h) (Or.inl ⟨by rfl, ?hy6_6⟩) hHd ?rest6_6
      case hy6_6 =>
        intro w hSw
        have c := hcb.out w (hB.out.trans (hSw.mono hB.out.size))
        go_simp
        try with_reducible rfl
      try simp only [Act.put, List.setIfInBounds_toArray, List.set_cons_zero, List.set_cons_succ]
      refine wpAnyH_take (i := 3) (oi := { dst := some 44, op := Op.indexAddr 37 (Operand.tmp 42) (Operand.tmp 43), type := 0, pos := "law.go:32", after := #[{ on := 1, ground := Ground.data }, { on := 2, ground := Ground.data }], guard := none }) (v := ?vv3_7) rfl (by kernel_rfl) (by kernel_rfl) (by kernel_rfl) (fun _ _ _ h => h) (Or.inl ⟨by rfl, ?hy3_7⟩) hHd ?rest3_7
      case hy3_7 =>
        intro w hSw
        go_simp
        try with_reducible rfl
      try simp only [Act.put, List.setIfInBounds_toArray, List.set_cons_zero, List.set_cons_succ]
      refine wpAnyH_take (i := 8) (oi := { dst := some 49, op := Op.indexAddr 37 (Operand.tmp 47) (Operand.tmp 48), type := 0, pos := "law.go:32", after := #[{ on := 6, ground := Ground.data }, { on := 7, ground := Ground.data }], guard := none }) (v := ?vv8_8) rfl (by kernel_rfl) (by kernel_rfl) (by kernel_rfl) (fun _ _ _ h => h) (Or.inl ⟨by rfl, ?hy8_8⟩) hHd ?rest8_8
      case hy8_8 =>
        intro w hSw
        go_simp
        try with_reducible rfl
      try simp only [Act.put, List.setIfInBounds_toArray, List.set_cons_zero, List.set_cons_succ]
      refine wpAnyH_take (i := 4) (oi := { dst := some 45, op := Op.load 42 (Operand.tmp 44), type := 42, pos := "law.go:32", after := #[{ on := 3, ground := Ground.data }], guard := none }) (v := .agg (ck).toArray) rfl (by kernel_rfl) (by kernel_rfl) (by kernel_rfl) (fun _ _ _ h => h) (yieldsIf_load_mid (by rfl) 42 (.tmp 44) (by rfl) ab (ao + k * 7) (by rfl) (ck) _ (fun w' h => hra.out w' (hB.out.trans (h.mono hB.out.size))) Tryz.underlying42 rfl (by rw [hl7]; exact infoMe)) hHd ?_
      try simp only [Act.put, List.setIfInBounds_toArray, List.set_cons_zero, List.set_cons_succ]
      refine wpAnyH_take (i := 9) (oi := { dst := some 50, op := Op.load 42 (Operand.tmp 49), type := 42, pos := "law.go:32", after := #[{ on := 8, ground := Ground.data }], guard := none }) (v := .agg (ck).toArray) rfl (by kernel_rfl) (by kernel_rfl) (by kernel_rfl) (fun _ _ _ h => h) (yieldsIf_load_mid (by rfl) 42 (.tmp 49) (by rfl) bb (bo + k * 7) (by rfl) (ck) _ (fun w' h => hrb.out w' (hB.out.trans (h.mono hB.out.size))) Tryz.underlying42 rfl (by rw [hl7]; exact infoMe)) hHd ?_
      try simp only [Act.put, List.setIfInBounds_toArray, List.set_cons_zero, List.set_cons_succ]
      refine wpAnyH_take (i := 10) (oi := { dst := some 51, op := Op.binOp BinOp.neq 42 (Operand.tmp 45) (Operand.tmp 50) 42, type := 4, pos := "law.go:32", after := #[{ on := 4, ground := Ground.data }, { on := 9, ground := Ground.data }], guard := none }) (v := ?vv10_9) rfl (by kernel_rfl) (by kernel_rfl) (by kernel_rfl) (fun _ _ _ h => h) (Or.inl ⟨by rfl, ?hy10_9⟩) hHd ?rest10_9
      case hy10_9 =>
        intro w hSw
        go_simp
        try with_reducible rfl
      try simp only [Act.put, List.setIfInBounds_toArray, List.set_cons_zero, List.set_cons_succ]
      refine wpAnyH_done (by kernel_rfl) ?_ _
      have hB6 := Lib.hid (hB.out.trans (hHd.mono hB.out.size))
      clear hra hrb hB hHd nk
      go_wp2
      go_roundw
      case rel => exact ⟨k + 1, by omega, by go_num, hB6⟩
      case measure => simp [intOf]; omega
    · obtain rfl : k = ms.length := by omega
      have hnl : ¬ (ms.length : Int) < (ms.length : Int) := by omega
      have hfin := Lib.hid (hb0.out.trans (hB.out.mono hb0.out.size))
      clear hB
      go_wp2
      go_ret
      exact ⟨rfl, hfin.out⟩
theorem EntsAt.form {w : World} {v : Value} {L : List (En × Value)} (h : EntsAt w v L) (h0 : 0 < L.length) : ∃ g off c, v = .slice (some ⟨g, off, none⟩) L.length c ∧ ∀ (k : Nat) (y : En × Value), L[k]? = some y → w.rangeAt g (off + k * 19) (encE y) := by
  obtain ⟨g, off, c, hv, hr⟩ := RowAt.form h.1 h0
  refine ⟨g, off, c, hv, fun k y hy j u hj => ?_⟩
  have hl : j < 19 := by have := (List.getElem?_eq_some_iff.1 hj).1; rw [encE_length] at this; exact this
  have := hr.cell (j := k * 19 + j) (u := u) (by rw [flatOf_get encE_length L k j y hy hl]; exact hj)
  rwa [← Nat.add_assoc] at this
set_option maxHeartbeats 16000000 in
theorem l10entries_same {w : World} {v1 v2 : Value} {L1 L2 : List (En × Value)} (h1 : EntsAt w v1 L1) (h2 : EntsAt w v2 L2) (he : L1.map Prod.fst = L2.map Prod.fst) (hn : L1.length ≤ 1000000) :
    Calls Tryz.prog 16 #[v1, v2] w fun e w' => e = .returned (.bool true) ∧ Below w.heap.size w w' := by
  have mixed := mixed
  have hlen : L1.length = L2.length := by have := congrArg List.length he; simpa using this
  obtain ⟨a1, c1, hv1, -⟩ := RowAt.shape h1.1
  obtain ⟨a2, c2, hv2, -⟩ := RowAt.shape h2.1
  rw [← hlen] at hv2
  have hr : Hid (∀ k, k < L1.length → ∃ y1 y2 g1 o1 g2 o2, L1[k]? = some y1 ∧ L2[k]? = some y2 ∧ y1.1 = y2.1 ∧ a1 = some ⟨g1, o1, none⟩ ∧ a2 = some ⟨g2, o2, none⟩ ∧ w.rangeAt g1 (o1 + k * 19) (encE y1) ∧ w.rangeAt g2 (o2 + k * 19) (encE y2) ∧ g1 < w.heap.size ∧ g2 < w.heap.size ∧ Sent w y1.2 y1.1.sent ∧ Sent w y2.2 y2.1.sent) := Lib.hid (fun k hk => by
    obtain ⟨g1, o1, d1, e1, r1⟩ := h1.form (by omega)
    obtain ⟨g2, o2, d2, e2, r2⟩ := h2.form (by omega)
    have t1 := h1.lt g1 (.inl (by rw [e1]; rfl))
    have t2 := h2.lt g2 (.inl (by rw [e2]; rfl))
    have x1 := List.getElem?_eq_getElem hk
    have x2 := List.getElem?_eq_getElem (show k < L2.length by omega)
    refine ⟨L1[k], L2[k]'(by omega), g1, o1, g2, o2, x1, x2, ?_, ?_, ?_, r1 k _ x1, r2 k _ x2, t1, t2, (h1.2 _ (List.getElem_mem _)).1, (h2.2 _ (List.getElem_mem _)).1⟩
    · have := congrArg (fun l => l[k]?) he
      simpa [x1, x2] using this
    · rw [hv1] at e1; simp at e1; exact e1.1
    · rw [hv2] at e2; simp at e2; exact e2.1)
  subst hv1
  subst hv2
  clear h1 h2 he hlen
  generalize L1.length = n at *
  go_enter Tryz.func16, Tryz.ntmps16
  go_wp2_with fail
  go_loopw [5] (fun i wr => ∃ k : Nat, k ≤ n ∧ i = .int .i64 (k : Int) ∧ Hid (Below w.heap.size w wr)) (fun i _ => n - (intOf i).toNat)
  case atStart => exact ⟨0, Nat.zero_le _, rfl, Lib.hid (Below.refl _ _)⟩
  case round =>
    obtain ⟨k, hk, rfl, hB⟩ := hrel
    by_cases hlt : k < n
    · obtain ⟨⟨x, u1⟩, ⟨x2, u2⟩, g1, o1, g2, o2, -, -, hx, rfl, rfl, r1, r2, t1, t2, s1, s2⟩ := hr.out k hlt
      simp only at hx s1 s2
      subst hx
      obtain ⟨b1, d1, rfl, m1⟩ := s1
      obtain ⟨b2, d2, rfl, m2⟩ := s2
      have hra : Hid (∀ w', Below wr.heap.size wr w' → w'.rangeAt g1 (o1 + k * 19) (entC x.ev x.bf x.fl (.slice b1 x.sent.length d1))) := Lib.hid (fun w' h => range_below r1 t1 (hB.out.trans (h.mono hB.out.size)))
      have hrb : Hid (∀ w', Below wr.heap.size wr w' → w'.rangeAt g2 (o2 + k * 19) (entC x.ev x.bf x.fl (.slice b2 x.sent.length d2))) := Lib.hid (fun w' h => range_below r2 t2 (hB.out.trans (h.mono hB.out.size)))
      have hen : Hid (∀ w', Below wr.heap.size wr w' → Calls Tryz.prog 17 #[.agg (entC x.ev x.bf x.fl (.slice b1 x.sent.length d1)).toArray, .agg (entC x.ev x.bf x.fl (.slice b2 x.sent.length d2)).toArray] w' fun e w2 => e = .returned (.bool true) ∧ Below w'.heap.size w' w2) := Lib.hid (fun w' h => l10entry_same (m1.below (hB.out.trans (h.mono hB.out.size))) (m2.below (hB.out.trans (h.mono hB.out.size))))
      have hla : (entC x.ev x.bf x.fl (.slice b1 x.sent.length d1)).length = 19 := rfl
      have hlb : (entC x.ev x.bf x.fl (.slice b2 x.sent.length d2)).length = 19 := rfl
      generalize entC x.ev x.bf x.fl (.slice b1 x.sent.length d1) = EA at *
      generalize entC x.ev x.bf x.fl (.slice b2 x.sent.length d2) = EB at *
      have hlt3 : (k : Int) < (n : Int) := by omega
      have hk0 : (0 : Int) ≤ (k : Int) := by omega
      clear r1 r2 m1 m2 hr
      go_upto_region 6 with fail
      refine wp_region_held_drew (S := fun w' => Below wr.heap.size wr w') (by kernel_rfl) (Below.refl _ wr).drew (fun hHeld => ?_)
      clear hHeld
      have hHd : Below wr.heap.size wr wr.drew := (Below.refl _ wr).drew
      refine wpAnyH_take (i := 0) (oi := { dst := some 17, op := Op.move (Operand.tmp 0), type := 47, pos := "law.go:45", after := #[], guard := none }) (v := ?vv0_10) rfl (by kernel_rfl) (by kernel_rfl) (by kernel_rfl) (fun _ _ _ h => h) (Or.inl ⟨by rfl, ?hy0_10⟩) hHd ?rest0_10
      case hy0_10 =>
        intro w hSw
        go_simp
        try with_reducible rfl
      try simp only [Act.put, List.setIfInBounds_toArray, List.set_cons_zero, List.set_cons_succ]
      refine wpAnyH_take (i := 1) (oi := { dst := some 18, op := Op.move (Operand.tmp 5), type := 3, pos := "law.go:45", after := #[], guard := none }) (v := ?vv1_11) rfl (by kernel_rfl) (by kernel_rfl) (by kernel_rfl) (fun _ _ _ h => h) (Or.inl ⟨by rfl, ?hy1_11⟩) hHd ?rest1_11
      case hy1_11 =>
        intro w hSw
        go_simp
        try with_reducible rfl
      try simp only [Act.put, List.setIfInBounds_toArray, List.set_cons_zero, List.set_cons_succ]
      refine wpAnyH_take (i := 2) (oi := { dst := some 19, op := Op.indexAddr 47 (Operand.tmp 17) (Operand.tmp 18), type := 0, pos := "law.go:45", after := #[{ on := 0, ground := Ground.data }, { on := 1, ground := Ground.data }], guard := none }) (v := ?vv2_12) rfl (by kernel_rfl) (by kernel_rfl) (by kernel_rfl) (fun _ _ _ h => h) (Or.inl ⟨by rfl, ?hy2_12⟩) hHd ?rest2_12
      case hy2_12 =>
        intro w hSw
        go_simp
        try with_reducible rfl
      try simp only [Act.put, List.setIfInBounds_toArray, List.set_cons_zero, List.set_cons_succ]
      refine wpAnyH_take (i := 4) (oi := { dst := some 21, op := Op.move (Operand.tmp 1), type := 47, pos := "law.go:45", after := #[], guard := none }) (v := ?vv4_13) rfl (by kernel_rfl) (by kernel_rfl) (by kernel_rfl) (fun _ _ _ h => h) (Or.inl ⟨by rfl, ?hy4_13⟩) hHd ?rest4_13
      case hy4_13 =>
        intro w hSw
        go_simp
        try with_reducible rfl
      try simp only [Act.put, List.setIfInBounds_toArray, List.set_cons_zero, List.set_cons_succ]
      refine wpAnyH_take (i := 5) (oi := { dst := some 22, op := Op.move (Operand.tmp 5), type := 3, pos := "law.go:45", after := #[], guard := none }) (v := ?vv5_14) rfl (by kernel_rfl) (by kernel_rfl) (by kernel_rfl) (fun _ _ _ h => h) (Or.inl ⟨by rfl, ?hy5_14⟩) hHd ?rest5_14
      case hy5_14 =>
        intro w hSw
        go_simp
        try with_reducible rfl
      try simp only [Act.put, List.setIfInBounds_toArray, List.set_cons_zero, List.set_cons_succ]
      refine wpAnyH_take (i := 6) (oi := { dst := some 23, op := Op.indexAddr 47 (Operand.tmp 21) (Operand.tmp 22), type := 0, pos := "law.go:45", after := #[{ on := 4, ground := Ground.data }, { on := 5, ground := Ground.data }], guard := none }) (v := ?vv6_15) rfl (by kernel_rfl) (by kernel_rfl) (by kernel_rfl) (fun _ _ _ h => h) (Or.inl ⟨by rfl, ?hy6_15⟩) hHd ?rest6_15
      case hy6_15 =>
        intro w hSw
        go_simp
        try with_reducible rfl
      try simp only [Act.put, List.setIfInBounds_toArray, List.set_cons_zero, List.set_cons_succ]
      refine wpAnyH_take (i := 3) (oi := { dst := some 20, op := Op.load 44 (Operand.tmp 19), type := 44, pos := "law.go:45", after := #[{ on := 2, ground := Ground.data }], guard := none }) (v := .agg (EA).toArray) rfl (by kernel_rfl) (by kernel_rfl) (by kernel_rfl) (fun _ _ _ h => h) (yieldsIf_load_mid (by rfl) 44 (.tmp 19) (by rfl) g1 (o1 + k * 19) (by rfl) (EA) _ (fun w' h => hra.out w' h) Tryz.underlying44 rfl (by rw [hla]; exact infoEn)) hHd ?_
      try simp only [Act.put, List.setIfInBounds_toArray, List.set_cons_zero, List.set_cons_succ]
      refine wpAnyH_take (i := 7) (oi := { dst := some 24, op := Op.load 44 (Operand.tmp 23), type := 44, pos := "law.go:45", after := #[{ on := 6, ground := Ground.data }], guard := none }) (v := .agg (EB).toArray) rfl (by kernel_rfl) (by kernel_rfl) (by kernel_rfl) (fun _ _ _ h => h) (yieldsIf_load_mid (by rfl) 44 (.tmp 23) (by rfl) g2 (o2 + k * 19) (by rfl) (EB) _ (fun w' h => hrb.out w' h) Tryz.underlying44 rfl (by rw [hlb]; exact infoEn)) hHd ?_
      try simp only [Act.put, List.setIfInBounds_toArray, List.set_cons_zero, List.set_cons_succ]
      refine wpAnyH_ready (rs := [8]) (by kernel_rfl) (by simp) ?_
      refine AllReadyH.cons (o := { dst := some 25, op := Op.call { callee := Callee.value (Operand.func 17), args := #[Operand.tmp 20, Operand.tmp 24], argTypes := #[44, 44] }, type := 4, pos := "law.go:45", after := #[{ on := 3, ground := Ground.data }, { on := 7, ground := Ground.data }], guard := none }) rfl (fun K hK => ?_) AllReadyH.nil
      go_simp
      refine (hen.out _ hHd).mono ?_
      rintro e w5 ⟨rfl, hb5⟩
      have hHw := hHd.trans (hb5.mono hHd.size)
      refine hK.out _ _ hHw (fun hHeld => ?_)
      clear hHeld hK K
      try simp only [Act.put, List.setIfInBounds_toArray, List.set_cons_zero, List.set_cons_succ]
      refine wpAnyH_take (i := 9) (oi := { dst := some 26, op := Op.unOp UnOp.not 4 (Operand.tmp 25), type := 4, pos := "law.go:45", after := #[{ on := 8, ground := Ground.data }], guard := none }) (v := ?vv9_16) rfl (by kernel_rfl) (by kernel_rfl) (by kernel_rfl) (fun _ _ _ h => h) (Or.inl ⟨by rfl, ?hy9_16⟩) hHw ?rest9_16
      case hy9_16 =>
        intro w hSw
        go_simp
        try with_reducible rfl
      try simp only [Act.put, List.setIfInBounds_toArray, List.set_cons_zero, List.set_cons_succ]
      refine wpAnyH_done (by kernel_rfl) ?_ _
      have hB6 := Lib.hid (hB.out.trans (hHw.mono hB.out.size))
      clear hra hrb hB hHd hHw hen
      go_wp2
      go_roundw
      case rel => exact ⟨k + 1, by omega, by go_num, hB6⟩
      case measure => simp [intOf]; omega
    · obtain rfl : k = n := by omega
      have hnl : ¬ (k : Int) < (k : Int) := by omega
      go_wp2
      go_ret
      exact ⟨rfl, hB.out⟩
end Go.Proofs.YtminfmjgmmkaoaaGreatDoor
namespace Go.Proofs.YtminfmjgmmkaoaaGreatDoor
open Go
set_option linter.unusedVariables false

section
variable {r n : Nat} {P : Program} {ops : Array Oper} {Q : Exit → Act → World → Prop} {md : Region.Mode} {S : World → Prop} {z : Nat}

/-- Whatever order comes; S behind each operation as long as number z has not come up. -/
def wpAnyY (r n : Nat) (P : Program) (md : Region.Mode) (ops : Array Oper) (Q : Exit → Act → World → Prop) (S : World → Prop) (z : Nat) : Nat → Array Bool → Act → World → Prop
  | 0, listed, a, w => Region.ready md ops listed = [] ∧ Q .normal a w
  | f + 1, listed, a, w =>
    (Region.ready md ops listed = [] → Q .normal a w) ∧
    ∀ i ∈ Region.ready md ops listed, wpOpIn (Fence.wide.inRound r) n P ops Q i (fun a' w' => ((listed.setIfInBounds i true).getD z true = false → S w') ∧ wpAnyY r n P md ops Q S z f (listed.setIfInBounds i true) a' w') a w
theorem wpAnyIn_of_Y : ∀ (f : Nat) (listed : Array Bool) (a : Act) (w : World), wpAnyY r n P md ops Q S z f listed a w → wpAnyIn (Fence.wide.inRound r) n P md ops Q f listed a w
  | 0, _, _, _, h => h
  | f + 1, _, _, _, h => ⟨h.1, fun i hi => wpOpIn_mono (fun a' w' h' => wpAnyIn_of_Y f _ a' w' h'.2) (h.2 i hi)⟩
theorem wpAnyY_first {i : Nat} {oi : Oper} {v : Value} {S0 : World → Prop} (hi : ops[i]? = some oi) (hnd : noDefer ops = true) (hsel : ∀ (j : Nat) (o : Oper) cs b, ops[j]? = some o → o.op ≠ .select cs b)
    (hQ : ∀ c a w, Q (.panic c) (a.put oi.dst v) w → Q (.panic c) a w) (hiz : i ≠ z) (hW : (∀ w, S0 w) ∨ (waitsB md ops z i = true ∧ ∀ w, S w → S0 w)) :
    ∀ (f : Nat) (listed : Array Bool) (a : Act) (w : World),
      (∀ j oj, ops[j]? = some oj → j ≠ i → listed.getD j true = false → (∀ e ∈ oj.after, Region.binds md e = true → e.on ≠ i) → oi.apart ops oj = true) →
      i ∈ Region.ready md ops listed → YieldsIf P ops S0 oi v a → ((∀ w, S0 w) ∨ listed.getD z true = false) → (listed.getD z true = false → S w) →
      wpAnyY r n P md ops Q S z f (listed.setIfInBounds i true) (a.put oi.dst v) w → wpAnyY r n P md ops Q S z (f + 1) listed a w := by
  intro f
  have now : ∀ (listed : Array Bool) (w : World), ((∀ w, S0 w) ∨ listed.getD z true = false) → (listed.getD z true = false → S w) → S0 w := fun listed w h1 h2 => by
    rcases h1 with h1 | h1
    · exact h1 w
    · rcases hW with hW | hW
      · exact hW w
      · exact hW.2 w (h2 h1)
  induction f with
  | zero =>
    intro listed a w _ hr hy hz hS H
    refine ⟨fun h => (by rw [h] at hr; cases hr), fun j hj => ?_⟩
    by_cases hji : j = i
    · subst hji; exact yieldsIf_wpOpInR hi (noDefer_spec hnd hi) hy (now _ _ hz hS) ⟨fun h => hS (by rwa [getD_set_z hiz] at h), H⟩
    · have := ready_mono hj hji
      rw [H.1] at this
      cases this
  | succ f ih =>
    intro listed a w hfree hr hy hz hS H
    refine ⟨fun h => (by rw [h] at hr; cases hr), fun j hj => ?_⟩
    by_cases hji : j = i
    · subst hji; exact yieldsIf_wpOpInR hi (noDefer_spec hnd hi) hy (now _ _ hz hS) ⟨fun h => hS (by rwa [getD_set_z hiz] at h), H⟩
    · have h1 := H.2 j (ready_mono hj hji)
      obtain ⟨hjun, oj, hoj, hall⟩ := mem_ready.1 hj
      have hun := (mem_ready.1 hr).1
      have hnot : ∀ e ∈ oj.after, Region.binds md e = true → e.on ≠ i := fun e he hb heq => by
        have h1 := hall e he hb
        rw [heq, getD_both hun] at h1
        cases h1
      have h2 := wpOpIn_putIfR hoj (noDefer_spec hnd hoj) (hfree j oj hoj hji hjun hnot) (fun cs b => hsel i oi cs b hi) (fun cs b => hsel j oj cs b hoj) hQ hy h1
      have hfree' : ∀ k ok, ops[k]? = some ok → k ≠ i → (listed.setIfInBounds j true).getD k true = false →
          (∀ e ∈ ok.after, Region.binds md e = true → e.on ≠ i) → oi.apart ops ok = true := fun k ok hk hki hun' hno => by
        refine hfree k ok hk hki ?_ hno
        by_cases hjk : j = k
        · subst hjk; exact hjun
        · rwa [getD_set_z hjk] at hun'
      have hz' : (∀ w, S0 w) ∨ (listed.setIfInBounds j true).getD z true = false := by
        rcases hz with hz | hz
        · exact .inl hz
        · rcases hW with hW | hW
          · exact .inl hW
          · by_cases hjz : j = z
            · exfalso
              subst hjz
              have hw := hW.1
              unfold waitsB at hw
              rw [hoj] at hw
              obtain ⟨e, he, hb⟩ := Array.any_eq_true'.1 hw
              simp only [Bool.and_eq_true, beq_iff_eq] at hb
              exact hnot e he hb.1 hb.2
            · exact .inr (by rw [getD_set_z hjz]; exact hz)
      have hSS : ∀ w', (((listed.setIfInBounds i true).setIfInBounds j true).getD z true = false → S w') → (listed.setIfInBounds j true).getD z true = false → S w' := fun w' h3 h4 => h3 (by
        rw [Array.setIfInBounds_comm _ _ (Ne.symm hji), getD_set_z hiz]; exact h4)
      refine wpOpIn_mono (fun a' w' h3 => ⟨hSS w' h3.2.1, ih (listed.setIfInBounds j true) a' w' hfree' (ready_mono hr (Ne.symm hji)) h3.1 hz' (hSS w' h3.2.1) ?_⟩) h2
      rw [Array.setIfInBounds_comm _ _ hji]
      exact h3.2.2
/-- A load first: z waits for it. -/
theorem wpAnyY_load {i : Nat} {oi : Oper} {v : Value} {f : Nat} {listed : Array Bool} {a : Act} {w : World} (hi : ops[i]? = some oi) (hnd : noDefer ops = true)
    (hs : Region.noSelect ops = true) (hf : Region.free md ops listed i = true) (hr : (Region.ready md ops listed).contains i = true)
    (hQ : ∀ c a w, Q (.panic c) (a.put oi.dst v) w → Q (.panic c) a w) (hiz : i ≠ z) (hw : waitsB md ops z i = true) (hz : listed.getD z true = false) (hy : YieldsIf P ops S oi v a) (hS : S w)
    (h : wpAnyY r n P md ops Q S z f (listed.setIfInBounds i true) (a.put oi.dst v) w) : wpAnyY r n P md ops Q S z (f + 1) listed a w :=
  wpAnyY_first hi hnd (Region.noSelect_spec hs) hQ hiz (.inr ⟨hw, fun _ h => h⟩) f listed a w (Region.free_spec hi hf) (by simpa using hr) hy (.inr hz) (fun _ => hS) h
/-- What yields in whatever world. -/
theorem wpAnyY_take {i : Nat} {oi : Oper} {v : Value} {f : Nat} {listed : Array Bool} {a : Act} {w : World} (hi : ops[i]? = some oi) (hnd : noDefer ops = true)
    (hs : Region.noSelect ops = true) (hf : Region.free md ops listed i = true) (hr : (Region.ready md ops listed).contains i = true)
    (hQ : ∀ c a w, Q (.panic c) (a.put oi.dst v) w → Q (.panic c) a w) (hiz : i ≠ z) (hy : YieldsIf P ops (fun _ => True) oi v a) (hS : listed.getD z true = false → S w)
    (h : wpAnyY r n P md ops Q S z f (listed.setIfInBounds i true) (a.put oi.dst v) w) : wpAnyY r n P md ops Q S z (f + 1) listed a w :=
  wpAnyY_first hi hnd (Region.noSelect_spec hs) hQ hiz (.inl fun _ => trivial) f listed a w (Region.free_spec hi hf) (by simpa using hr) hy (.inl fun _ => trivial) hS h
theorem getD_set_same {l : Array Bool} {i : Nat} : (l.setIfInBounds i true).getD i true = true := by
  simp only [Array.getD_eq_getD_getElem?, Array.getElem?_setIfInBounds]
  by_cases h : i < l.size
  · simp [h]
  · simp [h]
/-- The store that the class lasts to, alone to come up. -/
theorem wpAnyY_store {o : Oper} {f : Nat} {listed : Array Bool} {a : Act} {w w' : World} (hr : Region.ready md ops listed = [z]) (hi : ops[z]? = some o) (hnd : ∀ c, o.op ≠ .defer c) (hw : Region.wanted o (yielded ops a.tmps) = true)
    (he : (execOp a.eval o).run P w = .ok .skip w') (h : wpAnyY r n P md ops Q S z f (listed.setIfInBounds z true) (a.put o.dst undef) w') : wpAnyY r n P md ops Q S z (f + 1) listed a w := by
  refine ⟨fun h0 => (by rw [hr] at h0; cases h0), fun j hj => ?_⟩
  rw [hr] at hj
  obtain rfl := List.mem_singleton.1 hj
  unfold wpOpIn
  simp only [hi, hw, if_true, Oper.wpIn, Oper.semAt_plain (Fence.wide.inRound r) _ _ hnd, he, Oper.uponIn]
  exact ⟨fun _ _ => trivial, fun h0 => (by rw [getD_set_same] at h0; cases h0), h⟩
theorem wpAnyY_done {listed : Array Bool} {a : Act} {w : World} (hr : Region.ready md ops listed = []) (h : Q .normal a w) : ∀ f, wpAnyY r n P md ops Q S z f listed a w
  | 0 => ⟨hr, h⟩
  | _ + 1 => ⟨fun _ => h, by rw [hr]; simp⟩
theorem wpIn_region_Y {id : Nat} {a : Act} {w : World} (S : World → Prop) (z : Nat) (hm : P.follows .mixedOrders = true)
    (h : wpAnyY r n P .any ops Q S z ops.size (Array.replicate ops.size false) a w.drew) : (Code.region id ops true).wpIn (Fence.wide.inRound r) n P Q a w :=
  wpIn_region_any hm (wpAnyIn_of_Y _ _ _ _ h)
end
end Go.Proofs.YtminfmjgmmkaoaaGreatDoor
