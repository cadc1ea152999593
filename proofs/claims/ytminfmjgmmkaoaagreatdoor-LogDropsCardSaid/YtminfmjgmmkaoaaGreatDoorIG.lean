/-
  What an iterator hands over, collected into a list; a log's All.
  A log's All; its State.
-/
import Derived.Test.YtminfmjgmmkaoaaGreatDoorIE
namespace Go.Proofs.YtminfmjgmmkaoaaGreatDoor
open Go.ChangeShapes Go.WideShapes Go.ChangeAt Go.Shelf Go.RowKit Go.Lib Go.Sort Go.Deep
set_option linter.unusedVariables false
set_option maxRecDepth 4000
set_option linter.unusedSimpArgs false
attribute [local go_sem] Oper.semAt_some

/-- An entry's cells. -/
def encE (y : En × Value) : List Value := entC y.1.ev y.1.bf y.1.fl y.2
theorem encE_length (y : En × Value) : (encE y).length = 19 := rfl
/-- Entries in memory. -/
def EntsAt (w : World) (v : Value) (L : List (En × Value)) : Prop := RowAt w 44 19 v L.length (L.flatMap encE) ∧ ∀ y ∈ L, Sent w y.2 y.1.sent ∧ TagV w 42 y.2
def EOwn (v : Value) (L : List (En × Value)) (k : Nat) : Prop := v.ownBlock = some k ∨ ∃ y ∈ L, y.2.ownBlock = some k
theorem EntsAt.kept {S : Nat → Prop} {w w' : World} {v : Value} {L : List (En × Value)} (h : EntsAt w v L) (hk : KeptOff S w w') (hn : ∀ k, EOwn v L k → ¬ S k) : EntsAt w' v L :=
  ⟨RowAt.kept h.1 hk (fun k e => hn k (.inl e)), fun y hy => ⟨(h.2 y hy).1.kept hk (fun k e => hn k (.inr ⟨y, hy, e⟩)), (h.2 y hy).2.kept hk (fun k e => hn k (.inr ⟨y, hy, e⟩))⟩⟩
theorem EntsAt.below {w w' : World} {v : Value} {L : List (En × Value)} (h : EntsAt w v L) (hb : Below w.heap.size w w') : EntsAt w' v L := h.kept (S := fun _ => False) (.of_below hb) (fun _ _ e => e)
theorem EntsAt.lt {w : World} {v : Value} {L : List (En × Value)} (h : EntsAt w v L) : ∀ k, EOwn v L k → k < w.heap.size := by
  rintro k (e | ⟨y, hy, e⟩)
  · obtain ⟨cur, h1⟩ := RowAt.tag h.1 e
    exact (Array.getElem?_eq_some_iff.1 h1).1
  · exact (h.2 y hy).2.lt k e
/-- The list is pre, each with a slice of its own. -/
def ListIs (pre : List En) (L : List (En × Value)) : Prop := L.map Prod.fst = pre ∧ (L.map Prod.snd).Pairwise apartV
/-- The list so far, in its box bx. -/
def CollI (B : World) (bx : Nat) (Z : Nat → Prop) (pre : List En) (X : World) : Prop :=
  ∃ (v : Value) (L : List (En × Value)), ListIs pre L ∧ X.heap[bx]? = some (.cells #[v] 47 (0, 0)) ∧ EntsAt X v L ∧ Below B.heap.size B X ∧ B.heap.size ≤ bx ∧ ¬ Z bx ∧ (∀ k, EOwn v L k → ¬ Z k ∧ B.heap.size ≤ k) ∧ ∀ k, Z k → B.heap.size ≤ k
theorem CollI.steps (B : World) (bx : Nat) : StepsOn (CollI B bx) := by
  rintro Z Z' s X Y ⟨v, L, h1, h2, h3, h4, h5, h6, h7, h8⟩ hk hz
  have hlt := (Array.getElem?_eq_some_iff.1 h2).1
  refine ⟨v, L, h1, (hk.block bx hlt h6).trans h2, h3.kept hk (fun k e => (h7 k e).1), h4.trans (hk.below (fun k _ e => h8 k e) h4.size), h5, fun e => ?_, fun k e => ⟨fun e' => ?_, (h7 k e).2⟩, fun k e => ?_⟩
  · rcases hz bx e with e | e
    · exact h6 e
    · omega
  · rcases hz k e' with e' | e'
    · exact (h7 k e).1 e'
    · have := h3.lt k e; omega
  · rcases hz k e with e | e
    · exact h8 k e
    · have := h4.size; omega
theorem infoEy : (Tryz.prog.info? 44).map (fun i => (i.zero, i.size, i.bytes)) = some (some (.agg z19), 19, 168) := by kernel_rfl
theorem lit_entry (m : M) (s : Sta) (f : Int) (a : Option Addr) (n c : Nat) (w : World) : (Instr.buildSlice 47 1 #[(0, .agg (entC m s f (.slice a n c)).toArray)]).run Tryz.prog w = .ok (.slice (some ⟨w.heap.size, 0, none⟩) 1 1) (w.alloc (.cells (entC m s f (.slice a n c)).toArray 44)) := by kernel_rfl
theorem GivesZ.later {α : Type} {P : Program} {g : Nat} {lb : Array Value} {Pay : (Nat → Prop) → α → Array Value → World → Prop} {T : List α} {H : Nat → Prop} {w w' : World} (h : GivesZ P g lb Pay T H w) (hk : KeptOff (fun k => ¬ H k) w w') : GivesZ P g lb Pay T H w' :=
  fun l J K W hW => h l J K W (hk.trans hW)
/-- One more. -/
theorem CollI.more {B Wb w4 : World} {bx : Nat} {Z G : Nat → Prop} {pre : List En} {x : En} {v : Value} {L : List (En × Value)} {ea : Option Addr} {ec g2 off2 cap2 : Nat} (h1 : ListIs pre L) (h2 : Wb.heap[bx]? = some (.cells #[v] 47 (0, 0))) (h3 : EntsAt Wb v L) (h4 : Below B.heap.size B Wb) (h5 : B.heap.size ≤ bx) (h6 : ¬ Z bx)
    (h7 : ∀ k, EOwn v L k → ¬ Z k ∧ B.heap.size ≤ k) (h8 : ∀ k, Z k → B.heap.size ≤ k) (hZ : ∀ k, Z k → k < Wb.heap.size) (hM : Mgs Wb ea x.sent.length ec x.sent) (hT : TagV Wb 42 (.slice ea x.sent.length ec)) (hG : ∀ k, (Value.slice ea x.sent.length ec).ownBlock = some k → G k) (hGZ : ∀ k, G k → Z k)
    (hR : RowIn w4 44 19 g2 off2 (L.length + 1) cap2 (L.flatMap encE ++ encE (x, .slice ea x.sent.length ec))) (hk : KeptOff (fun k => v.ownBlock = some k) Wb w4) (hn : v.ownBlock = some g2 ∨ Wb.heap.size ≤ g2) :
    CollI B bx (fun k => Z k ∧ ¬ G k) (pre ++ [x]) (w4.setCell ⟨bx, 0, none⟩ (.slice (some ⟨g2, off2, none⟩) (L.length + 1) cap2)) := by
  have hbx : Wb.heap[bx]? = some (.cells #[v] 47 (0, 0)) := h2
  have hbv : v.ownBlock ≠ some bx := fun e => by
    obtain ⟨cur, h⟩ := RowAt.tag h3.1 e
    rw [h2] at h
    simp at h
  have h24 := (hk.block bx (Array.getElem?_eq_some_iff.1 h2).1 hbv).trans h2
  have hks := KeptOff.set w4 ⟨bx, 0, none⟩ (.slice (some ⟨g2, off2, none⟩) (L.length + 1) cap2)
  have hkw : KeptOff (fun k => v.ownBlock = some k ∨ k = bx) Wb (w4.setCell ⟨bx, 0, none⟩ (.slice (some ⟨g2, off2, none⟩) (L.length + 1) cap2)) := (hk.mono (fun _ _ e => .inl e)).trans (hks.mono (fun _ _ e => .inr e))
  have hg2b : g2 ≠ bx := fun e => by
    obtain ⟨cur, h, _⟩ := hR
    rw [e, h24] at h
    simp at h
  have hmsg : ∀ v', TagV Wb 42 v' → ∀ k, v'.ownBlock = some k → ¬ (v.ownBlock = some k ∨ k = bx) := fun v' ht k e e2 => by
    obtain ⟨cur, h⟩ := ht k e
    rcases e2 with e2 | e2
    · obtain ⟨cur2, h'⟩ := RowAt.tag h3.1 e2
      rw [h] at h'
      simp at h'
    · rw [e2, h2] at h
      simp at h
  have hge2 : B.heap.size ≤ g2 := hn.elim (fun e => (h7 g2 (.inl e)).2) (fun e => Nat.le_trans h4.size e)
  refine ⟨.slice (some ⟨g2, off2, none⟩) (L.length + 1) cap2, L ++ [(x, .slice ea x.sent.length ec)], ⟨by simp [h1.1], ?_⟩, by rw [Go.heap_setCell_same w4 bx 0 _ _ _ h24]; simp, ⟨?_, fun y hy => ?_⟩, h4.trans (hkw.below (fun k _ e => e.elim (fun e => (h7 k (.inl e)).2) (fun e => e ▸ h5)) h4.size), h5, fun e => h6 e.1, ?_, fun k e => h8 k e.1⟩
  · rw [List.map_append, List.pairwise_append]
    refine ⟨h1.2, by simp, fun a ha b hb k e1 e2 => ?_⟩
    obtain ⟨y, hy, rfl⟩ := List.mem_map.1 ha
    obtain rfl : b = .slice ea x.sent.length ec := by simpa using hb
    exact (h7 k (.inr ⟨y, hy, e1⟩)).1 (hGZ k (hG k e2))
  · refine .inr ⟨g2, off2, cap2, by simp, ?_⟩
    have := hR.kept hks (fun e => hg2b e)
    simpa [List.flatMap_append] using this
  · rcases List.mem_append.1 hy with hy | hy
    · exact ⟨(h3.2 y hy).1.kept hkw (hmsg _ (h3.2 y hy).2), (h3.2 y hy).2.kept hkw (hmsg _ (h3.2 y hy).2)⟩
    · obtain rfl := List.mem_singleton.1 hy
      exact ⟨⟨ea, ec, rfl, hM.keptOff hkw (hmsg _ hT)⟩, hT.kept hkw (hmsg _ hT)⟩
  · rintro k (e | ⟨y, hy, e⟩)
    · obtain rfl : g2 = k := by simpa [Value.ownBlock] using e
      refine ⟨fun e' => ?_, hge2⟩
      rcases hn with h | h
      · exact (h7 _ (.inl h)).1 e'.1
      · have := hZ _ e'.1; omega
    · rcases List.mem_append.1 hy with hy | hy
      · exact ⟨fun e' => (h7 k (.inr ⟨y, hy, e⟩)).1 e'.1, (h7 k (.inr ⟨y, hy, e⟩)).2⟩
      · obtain rfl := List.mem_singleton.1 hy
        exact ⟨fun e' => e'.2 (hG k e), h8 k (hGZ k (hG k e))⟩
set_option maxHeartbeats 16000000 in
theorem appendSeqE_any {w : World} {gf : Nat} {lb : Array Value} {T : List En} {H : Nat → Prop} (hg : GivesZ Tryz.prog gf lb PayE T H w) (eg : ∀ args w, (callFunc gf args).run Tryz.prog w = .ok (.enter gf args) w) (hH : ∀ k, H k → k < w.heap.size) (hT : T.length ≤ 16384) :
    Calls Tryz.prog 48 #[.slice none 0 0, .func (.func gf) #[] lb] w fun e w' => ∃ a c L, ListIs T L ∧ e = .returned (.slice a T.length c) ∧ Hid (EntsAt w' (.slice a T.length c) L ∧ Below w.heap.size w w' ∧ ∀ k, EOwn (.slice a T.length c) L k → w.heap.size ≤ k) := by
  have mixed := mixed
  obtain ⟨i0, hi0, hz0, hz1, hz2⟩ := info_parts infoEy
  have hB1 := (Below.refl _ w).alloc (Nat.le_refl _) (.cells #[.slice none 0 0] 47)
  have hs1 : (w.alloc (.cells #[.slice none 0 0] 47)).heap.size = w.heap.size + 1 := by simp
  have hg1 := Lib.hid (hg.later (.of_below hB1))
  have hI0 : Hid (CollI w w.heap.size (fun _ => False) [] (w.alloc (.cells #[.slice none 0 0] 47))) := Lib.hid ⟨.slice none 0 0, [], ⟨rfl, .nil⟩, heap_alloc_new w _, ⟨.nil _ _ _, fun y hy => (by cases hy)⟩, hB1, Nat.le_refl _, fun e => e, fun k e => ⟨fun e => e, by
    rcases e with e | ⟨y, hy, _⟩
    · cases e
    · cases hy⟩, fun k e => e.elim⟩
  clear hg
  refine (callsIn_wide (n := 6)).1 ?_
  refine callsIn_of_wp_marks Tryz.func48 rfl trivial (wpIn_mono (Q := noPanic (bodyPostM Fence.wide 6 Tryz.prog Tryz.f48 fun e w' => ∃ a c L, ListIs T L ∧ e = .returned (.slice a T.length c) ∧ Hid (EntsAt w' (.slice a T.length c) L ∧ Below w.heap.size w w' ∧ ∀ k, EOwn (.slice a T.length c) L k → w.heap.size ≤ k))) ?_ (noPanic_le _)) rfl
  simp only [Tryz.ntmps48, List.size_toArray, List.length_cons, List.length_nil, Nat.reduceAdd, Nat.reduceSub, Array.replicate_succ, Array.replicate_zero, List.push_toArray, List.append_toArray, List.nil_append, List.cons_append]
  refine wpIn_wide.2 ?_
  go_wp2_with fail
  refine (wpIn_wide (n := 6)).1 ?_
  generalize w.alloc (.cells #[.slice none 0 0] 47) = w1 at *
  refine wpIn_rangeFunc_Z (gf := gf) (lb := lb) rfl eg (fun k hk => by have := hH k hk; omega) hg1.out (fun G x vs X h => by obtain ⟨a, c, rfl, _⟩ := h; rfl) (CollI w w.heap.size) (fun _ _ _ _ => False) (CollI.steps _ _) (fun _ _ _ _ _ _ h _ _ => h) hI0.out ?round ?done (fun _ _ _ _ _ _ _ _ h => h.elim)
  case round =>
    intro l1 Z G pre x vs X hI hpre hpay hG hZlt hsz hvs
    obtain ⟨v, L, h1, h2a, h3a, h4a, h5, h6, h7, h8⟩ := hI
    obtain ⟨ea, ec, rfl, hMa, hTa, hGx⟩ := hpay
    have h2 := Lib.hid h2a
    have h3 := Lib.hid h3a
    have h4 := Lib.hid h4a
    have hMx := Lib.hid hMa
    have hTx := Lib.hid hTa
    clear h2a h3a h4a hMa hTa hg1 hI0
    have hlenL : L.length < 16384 := by
      have := hpre.length_le
      rw [← h1.1] at this
      simp at this
      omega
    have hA := heap_alloc_new X (.cells z19 44)
    have hC := Lib.hid ((Below.refl _ X).alloc (Nat.le_refl _) (.cells z19 44))
    simp only [z19] at hA hC
    have hE1 : Hid ((entC x.ev x.bf x.fl (.slice ea x.sent.length ec)).toArray.size = 19 ∧ (entC x.ev x.bf x.fl (.slice ea x.sent.length ec)).toArray.all (·.oneCell') = true ∧ (entC x.ev x.bf x.fl (.slice ea x.sent.length ec)).length = 19) := Lib.hid ⟨rfl, entC_one _ _ _ _ _ _, rfl⟩
    have hlit := Lib.hid (fun w => lit_entry x.ev x.bf x.fl ea x.sent.length ec w)
    have hE0 : encE (x, .slice ea x.sent.length ec) = entC x.ev x.bf x.fl (.slice ea x.sent.length ec) := rfl
    have hET : ∃ ET, entC x.ev x.bf x.fl (.slice ea x.sent.length ec) = ET := ⟨_, rfl⟩
    obtain ⟨ET, hET0⟩ := hET
    rw [hET0] at hE1 hlit hE0 ⊢
    have hE0' := Lib.hid hE0
    clear hET0 hE0
    gi_wp2_with (first
      | (refine wpListIn_store_row rfl 44 (.tmp 5) (.tmp 7) rfl X.heap.size ET.toArray rfl rfl 44 _ hA (by rw [hE1.out.1]; exact infoEn) (by rw [hE1.out.1]; rfl) hE1.out.2.1 ?_))
    have hXe := Lib.hid (setRow_heap (new := ET.toArray) hA)
    have hBa := Lib.hid (below_row hC.out (g := X.heap.size) (Nat.le_refl _) ET.toArray)
    clear hA hC
    generalize (X.alloc (Obj.cells _ 44)).setRow X.heap.size ET.toArray = Wa at *
    refine ⟨.of_below hBa.out, fun Wb hkb hsb => ?_⟩
    have hwa := hBa.out.size
    have hxl := (Array.getElem?_eq_some_iff.1 hXe.out).1
    have hkb0 : Hid (KeptOff (fun q => Z q ∧ ¬ G q) X Wb) := Lib.hid ((KeptOff.of_below hBa.out).trans hkb)
    have hXb := Lib.hid ((hkb.block _ hxl (fun e => by have := hZlt _ e.1; omega)).trans hXe.out)
    have hXr : Hid (Wb.rangeAt X.heap.size 0 ET) := Lib.hid (by have := range_block hXb.out; simpa using this)
    have h2b := Lib.hid ((hkb0.out.block _ (Array.getElem?_eq_some_iff.1 h2.out).1 (fun e => h6 e.1)).trans h2.out)
    have h3b := Lib.hid (h3.out.kept hkb0.out (fun k e e2 => (h7 k e).1 e2.1))
    have h4b := Lib.hid (h4.out.trans (hkb0.out.below (fun k _ e => h8 k e.1) h4.out.size))
    have hMb := Lib.hid (hMx.out.keptOff hkb0.out (fun q e e2 => e2.2 (hGx q e)))
    have hTb := Lib.hid (hTx.out.kept hkb0.out (fun q e e2 => e2.2 (hGx q e)))
    have hna := Lib.hid (heap_alloc_new Wb (.cells ET.toArray 44))
    have hBn := Lib.hid ((Below.refl _ Wb).alloc (Nat.le_refl _) (.cells ET.toArray 44))
    have hrw : Hid (RowAt (Wb.alloc (.cells ET.toArray 44)) 44 19 v L.length (L.flatMap encE)) := Lib.hid (h3b.out.below hBn.out).1
    have cbx : Wb.cell? ⟨w.heap.size, 0, none⟩ = some v := row_cell h2b.out 0 rfl
    obtain ⟨va, vc, hva, -⟩ := RowAt.shape h3b.out.1
    have hin : Hid (∀ w4, KeptOff (fun k => v.ownBlock = some k) (Wb.alloc (.cells ET.toArray 44)) w4 → w4.cell? ⟨w.heap.size, 0, none⟩ = some v ∧ w4.frozen? ⟨w.heap.size, 0, none⟩ = false) := Lib.hid (fun w4 hk => by
      have hbv : v.ownBlock ≠ some w.heap.size := fun e => by
        obtain ⟨cur, h⟩ := RowAt.tag h3b.out.1 e
        rw [h2b.out] at h
        simp at h
      have := ((hk.block _ (Nat.lt_of_lt_of_le (Array.getElem?_eq_some_iff.1 h2b.out).1 hBn.out.size) hbv).trans (hBn.out.block _ (Array.getElem?_eq_some_iff.1 h2b.out).1)).trans h2b.out
      exact ⟨row_cell this 0 rfl, frozen_of_cells this⟩)
    obtain ⟨R, hR0⟩ : ∃ R : Exit → Act → World → Prop, ∀ e a3 W3, R e a3 W3 ↔ KeptOff (fun k => ¬ Z k ∧ ¬ H k) Wb W3 ∧ LeftZ (CollI w w.heap.size) (fun _ _ _ _ => False) (fun k => Z k ∧ ¬ G k) (pre ++ [x]) W3 e := ⟨_, fun _ _ _ => Iff.rfl⟩
    have hfin : Hid (∀ g2 off2 cap2 w4, Hid (RowIn w4 44 19 g2 off2 (L.length + 1) cap2 (L.flatMap encE ++ ET)) → Hid (KeptOff (fun k => v.ownBlock = some k) (Wb.alloc (.cells ET.toArray 44)) w4) → Hid (v.ownBlock = some g2 ∨ (Wb.alloc (.cells ET.toArray 44)).heap.size ≤ g2) →
        ∀ a3, R .normal a3 (w4.setCell ⟨w.heap.size, 0, none⟩ (.slice (some ⟨g2, off2, none⟩) (L.length + 1) cap2))) := Lib.hid (fun g2 off2 cap2 w4 r1 r2 r3 a3 => (hR0 _ _ _).2 (by
      have hkk : KeptOff (fun k => v.ownBlock = some k) Wb w4 := (KeptOff.of_below hBn.out).trans r2.out
      refine ⟨(hkk.mono (fun k hk e => ⟨(h7 k (.inl e)).1, fun hh => by have := hH k hh; have := (h7 k (.inl e)).2; omega⟩)).trans ((KeptOff.set w4 ⟨w.heap.size, 0, none⟩ _).mono (fun k _ e => by simp only at e; subst e; exact ⟨h6, fun hh => by have := hH _ hh; omega⟩)), ?_⟩
      exact CollI.more h1 h2b.out h3b.out h4b.out h5 h6 h7 h8 (fun k e => by have := hZlt k e; omega) hMb.out hTb.out hGx hG (by rw [hE0'.out]; exact r1.out) hkk (r3.out.imp id (fun e => by have := hBn.out.size; omega))))
    have hR := Lib.hid hR0
    clear hR0
    refine wpIn_mono (Q := R) ?_ (fun e a3 W3 h => (hR.out e a3 W3).1 h)
    have hmx : (L.length + 1) * 168 ≤ 140737488355328 := by omega
    have hmx2 : L.length + 1 ≤ maxLen := by unfold maxLen; omega
    clear h1 h2 h3 h4 h5 h6 h7 h8 hMx hTx hXe hBa hkb hkb0 hXb h2b h3b h4b hMb hTb hBn hZlt hG hGx hpre hH hsb hwa hxl hsz hvs hE0' hR
    simp only [Act.put]
    subst hva
    gi_wp2_with (first
      | (refine wpListIn_load_row rfl 44 (.tmp 5) rfl X.heap.size 0 rfl ET _ hXr.out Tryz.underlying44 rfl (by rw [hE1.out.2.2]; exact infoEn) ?_)
      | (refine wpListIn_buildSlice_to rfl 47 1 #[(0, .tmp 9)] rfl #[(0, .agg ET.toArray)] (by simp only [List.map_toArray, List.map_cons, List.map_nil]; rfl) (hlit.out _) ?_)
      | (refine wpListIn_append_row rfl (.tmp 8) (.tmp 10) 47 rfl hrw.out i0 _ 168 Tryz.underlying47 hi0 hz0 hz1 hz2 rfl (by omega) rfl ⟨Wb.heap.size, 0, none⟩ 1 ET rfl hE1.out.2.2 (fun j u hj => news_of hna.out j u hj) (fun u hu => by have := hE1.out.2.1; simp only [List.all_toArray, List.all_eq_true] at this; exact this u hu) hmx2 hmx ?_; intro g2 off2 cap2 w4 r1 r2 r3; have hf := hfin.out g2 off2 cap2 w4 r1 r2 r3; obtain ⟨c4, f4⟩ := hin.out w4 r2.out; clear r1 r2 r3))
    exact hf _
  case done =>
    intro D Zf W2 hD hZfD hI hdef
    obtain ⟨v, L, h1, h2, h3, h4, h5, h6, h7, h8⟩ := hI
    obtain ⟨va, vc, hva, -⟩ := RowAt.shape h3.1
    subst hva
    have hlen : T.length = L.length := by rw [← h1.1]; simp
    have hend : Hid (∀ w', KeptOff (fun k => k ∈ [D]) W2 w' → EntsAt w' (.slice va T.length vc) L ∧ Below w.heap.size w w' ∧ ∀ k, EOwn (.slice va T.length vc) L k → w.heap.size ≤ k) := Lib.hid (fun w' hk => by
      rw [hlen]
      refine ⟨h3.kept hk (fun k e e2 => (h7 k e).1 (by obtain rfl := List.mem_singleton.1 e2; exact hZfD)), h4.trans (hk.below (fun k _ e => by obtain rfl := List.mem_singleton.1 e; exact h8 _ hZfD) h4.size), fun k e => (h7 k e).2⟩)
    have hM : Hid (Marks [D] W2) := Lib.hid ⟨by simp, fun D' hD' => by obtain rfl := List.mem_singleton.1 hD'; exact hdef⟩
    have c2 : W2.cell? ⟨w.heap.size, 0, none⟩ = some (.slice va T.length vc) := by rw [hlen]; exact row_cell h2 0 rfl
    have h1' := Lib.hid h1
    clear h1 h2 h3 h4 h5 h6 h7 h8 hdef hlen hZfD
    dsimp only [Exit.inBlock, Exit.then]
    go_wp2
    exact leaves_marks (by simp) [D] W2 hM.out (fun w' hk => ⟨_, by simp [results, Tryz.f48, go_sem], va, vc, L, h1'.out, rfl, hend.out w' hk⟩)
end Go.Proofs.YtminfmjgmmkaoaaGreatDoor
namespace Go.Proofs.YtminfmjgmmkaoaaGreatDoor
open Go.ChangeShapes Go.WideShapes Go.ChangeAt Go.Shelf Go.RowKit Go.Lib Go.Sort Go.Deep
set_option linter.unusedVariables false
set_option maxRecDepth 4000
set_option linter.unusedSimpArgs false

/-- Entries that a call tells. -/
def TellsE (w : World) (T : List En) (v : Value) (w' : World) : Prop := ∃ L, L.map Prod.fst = T ∧ EntsAt w' v L ∧ Below w.heap.size w w' ∧ (∀ k, EOwn v L k → w.heap.size ≤ k) ∧ (L.map Prod.snd).Pairwise apartV
theorem collectE_any {w : World} {gf : Nat} {lb : Array Value} {T : List En} {H : Nat → Prop} (hg : GivesZ Tryz.prog gf lb PayE T H w) (eg : ∀ args w, (callFunc gf args).run Tryz.prog w = .ok (.enter gf args) w) (hH : ∀ k, H k → k < w.heap.size) (hT : T.length ≤ 16384) :
    Calls Tryz.prog 33 #[.func (.func gf) #[] lb] w fun e w' => ∃ a c, e = .returned (.slice a T.length c) ∧ Hid (TellsE w T (.slice a T.length c) w') := by
  have hc := Lib.hid (appendSeqE_any hg eg hH hT)
  clear hg
  go_enter Tryz.func33, Tryz.ntmps33
  go_wp2_with fail
  refine hc.out.mono ?_
  rintro e w2 ⟨a, c, L, h1, rfl, hq⟩
  have hfin : Hid (TellsE w T (.slice a T.length c) w2) := Lib.hid ⟨L, h1.1, hq.out.1, hq.out.2.1, hq.out.2.2, h1.2⟩
  clear hq hc
  go_wp2
  go_ret
  exact ⟨a, c, rfl, hfin⟩
/-- What is asked of a log so that its entries can be told. -/
structure LogMay (ss : List Sth) : Prop where
  ok : ∀ S ∈ ss, StaOk S.kept ∧ ∀ p ∈ S.L, In64 p.ev.v
  n : ss.length < 16384
  L : ∀ S ∈ ss, S.L.length < 16384
  sl : ∀ S ∈ ss, ∀ p ∈ S.L, p.sent.length ≤ 16384
  all : total ss ≤ 16384
set_option maxHeartbeats 8000000 in
theorem lgAll_any {b w : World} {eb : Addr} (hE : ErrIs b eb) (hT : ErrT b) (hb : Below b.heap.size b w) {lb : Nat} {v : Wv} {W : Wd} {every : Int} {sv : Value} {ss : List Sth} {st : Sta} {stuck : Bool} (h : LogOf w lb v W every sv ss st stuck) (hm : LogMay ss) :
    Calls Tryz.prog 12 #[.pointer (some ⟨lb, 0, none⟩)] w fun e w' => ∃ a c, e = .returned (.slice a (total ss) c) ∧ Hid (TellsE w (toldAll W ss) (.slice a (total ss) c) w') := by
  obtain ⟨sa, sc, hsv, -⟩ := RowAt.shape h.rd.abv
  have hmd := lgMade_any (w := w) (lb := lb) (by rw [← hsv]; exact h.x.c5) h.pos
  have hb1 := (Below.refl _ w).alloc (Nat.le_refl _) (.cells #[.pointer (some ⟨lb, 0, none⟩)] 28)
  have hg := lgWay1_gives hE hT (hb.trans (hb1.mono hb.size)) (heap_alloc_new w (.cells #[.pointer (some ⟨lb, 0, none⟩)] 28)) ((hb1.block _ h.x.lt).trans h.row) (h.rd.below hb1) hm.ok hm.n hm.L hm.sl
  have hlen : (toldAll W ss).length = total ss := toldAll_length W ss
  have hc := Lib.hid (collectE_any hg (enters_of Tryz.func49 (by kernel_rfl) rfl) (fun k hk => by
    rcases hk with hk | rfl | rfl | hk | ⟨S, hS, hk⟩
    · have := hb.size; have := hb1.size; omega
    · simp
    · have := h.x.lt; have := hb1.size; omega
    · have := h.rd.svt.lt k hk; have := hb1.size; omega
    · have := (h.rd.sth hS).lt k hk; have := hb1.size; omega) (by rw [hlen]; exact hm.all))
  rw [hlen] at hc
  have hb1' := Lib.hid hb1
  clear hE hT hb h hm hg hsv hb1
  go_enter Tryz.func12, Tryz.ntmps12
  go_wp2_with (first
    | (go_at_call 32; refine hmd.mono ?_; rintro e w' ⟨rfl, rfl⟩)
    | (go_at_call 34; refine lgWay_any.mono ?_; rintro e w2 ⟨rfl, rfl⟩)
    | (go_at_call 33; refine hc.out.mono ?_; rintro e w3 ⟨a, c, rfl, hq⟩; obtain ⟨L, h1, h2, h3, h4, h5⟩ := hq.out; have hfin : Hid (TellsE w (toldAll W ss) (.slice a (total ss) c) w3) := Lib.hid ⟨L, h1, h2, hb1'.out.trans (h3.mono hb1'.out.size), fun k e => Nat.le_trans hb1'.out.size (h4 k e), h5⟩; clear hq h1 h2 h3 h4 h5))
  go_ret
  exact ⟨a, c, rfl, hfin⟩
theorem lgState_any {w : World} {lb : Nat} {v : Wv} {W : Wd} {every : Int} {sv : Value} {ss : List Sth} {st : Sta} {stuck : Bool} (h : LogOf w lb v W every sv ss st stuck) :
    Calls Tryz.prog 13 #[.pointer (some ⟨lb, 0, none⟩)] w fun e w' => e = .returned (.agg (encSt st).toArray) ∧ Below w.heap.size w w' := by
  obtain ⟨sa, sc, hsv, -⟩ := RowAt.shape h.rd.abv
  have hmd : Hid (∀ w', Below w.heap.size w w' → _) := Lib.hid (fun w' hb => lgMade_any (w := w') (lb := lb) (by rw [← hsv]; exact (h.x.below hb).c5) h.pos)
  have hb0 := (Below.refl _ w).alloc (Nat.le_refl _) (.cells z10 34)
  have hA := heap_alloc_new w (.cells z10 34)
  have hm0 := hmd.out _ hb0
  have hr0 := Lib.hid (logC_state ((hb0.block _ h.x.lt).trans h.row))
  have hb0' := Lib.hid hb0
  have hls : (encSt st).length = 10 := rfl
  have hone := encSt_one st
  have hsz : Hid ((encSt st).toArray.size = 10) := Lib.hid rfl
  generalize encSt st = cst at *
  clear h hmd hb0 hsv
  simp only [z10] at hA hm0 hr0 hb0'
  go_enter Tryz.func13, Tryz.ntmps13
  go_wp2_with (first
    | (go_at_call 32; refine hm0.mono ?_; rintro e w' ⟨rfl, rfl⟩)
    | (refine wpList_load_mid rfl 34 (.tmp 9) rfl lb 7 rfl cst _ hr0.out Tryz.underlying34 rfl (by rw [hls]; exact infoS10) ?_)
    | (refine wpList_store_row rfl 34 (.tmp 2) (.tmp 10) rfl w.heap.size cst.toArray rfl rfl 34 _ hA (by rw [hsz.out]; exact infoS10) (by rw [hsz.out]; rfl) hone ?_))
  have hZ := setRow_heap (new := cst.toArray) hA
  have hB := below_row hb0'.out (g := w.heap.size) (Nat.le_refl _) cst.toArray
  refine bodyPost_ret (results_row (fn := Tryz.f13) rfl _ _ _ 34 _ _ rfl hZ Tryz.underlying34 rfl (by rw [hsz.out]; exact infoS10)) rfl ⟨rfl, hB⟩
end Go.Proofs.YtminfmjgmmkaoaaGreatDoor
