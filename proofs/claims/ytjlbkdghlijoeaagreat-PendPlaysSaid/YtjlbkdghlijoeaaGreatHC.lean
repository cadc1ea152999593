/-
  Plain lists of messages, and days of them. No model in this text.
  The tree's cut, at every tree and every place of it.
-/
import Derived.Test.YtjlbkdghlijoeaaGreatLDG
import Derived.Test.YtjlbkdghlijoeaaGreatHB
import Derived.Test.YtjlbkdghlijoeaaGreatYC
import Derived.Laws.Tables
namespace Go.Proofs.YtjlbkdghlijoeaaGreat
open Go.Sort
set_option linter.unusedVariables false

/-! Of unlike sendings there is one order. -/
/-! Days. -/
/-- The messages of days. -/
def DayList (W : Int) (ds : List Int) (L : Int → List M) : Prop :=
  ds.Pairwise (· < ·) ∧ ∀ d ∈ ds, L d ≠ [] ∧ InOrder ltM (L d) ∧ ∀ m ∈ L d, dayOf W m.k.t = d
theorem lt_of_day {W : Int} (hW : 1 ≤ W) {a b : M} (h : dayOf W a.k.t < dayOf W b.k.t) : ltM b a = false := by
  have h1 : a.k.t < b.k.t := by
    rcases Int.lt_or_le a.k.t b.k.t with h1 | h1
    · exact h1
    · have := dayOf_mono hW h1; omega
  rw [ltM_no]
  omega
theorem days_order {W : Int} (hW : 1 ≤ W) : ∀ {ds : List Int} {L : Int → List M}, DayList W ds L → InOrder ltM (ds.flatMap L)
  | [], L, _ => List.Pairwise.nil
  | d :: ds, L, h => by
    obtain ⟨h1, h2⟩ := h
    have h1' := List.pairwise_cons.1 h1
    rw [List.flatMap_cons]
    refine List.pairwise_append.2 ⟨(h2 d (List.mem_cons_self ..)).2.1, days_order hW ⟨h1'.2, fun x hx => h2 x (List.mem_cons_of_mem _ hx)⟩, fun a ha b hb => ?_⟩
    obtain ⟨x, hx, hbx⟩ := List.mem_flatMap.1 hb
    have e1 := (h2 d (List.mem_cons_self ..)).2.2 a ha
    have e2 := (h2 x (List.mem_cons_of_mem _ hx)).2.2 b hbx
    exact lt_of_day hW (by rw [e1, e2]; exact h1'.1 x hx)
/-- L, but for the day d. -/
def putDay (L : Int → List M) (d : Int) (l : List M) : Int → List M := fun x => if x = d then l else L x
theorem putDay_same (L : Int → List M) (d : Int) (l : List M) : putDay L d l d = l := if_pos rfl
theorem putDay_other (L : Int → List M) {d x : Int} (l : List M) (h : x ≠ d) : putDay L d l x = L x := if_neg h
theorem flat_other {ds : List Int} {L : Int → List M} {d : Int} {l : List M} (h : d ∉ ds) : ds.flatMap (putDay L d l) = ds.flatMap L := by
  induction ds with
  | nil => rfl
  | cons x ds ih =>
    rw [List.flatMap_cons, List.flatMap_cons, ih (fun hm => h (List.mem_cons_of_mem _ hm)), putDay_other L l (fun e => h (by rw [e]; exact List.mem_cons_self ..))]
theorem rising_nodup {ds : List Int} (h : ds.Pairwise (· < ·)) : ds.Nodup := h.imp (fun h e => by omega)
/-- One day's list turned. -/
theorem flat_turn {ds : List Int} (hn : ds.Nodup) {L : Int → List M} {d : Int} (hd : d ∈ ds) {l X Y : List M} (hp : (X ++ l).Perm (Y ++ L d)) : (X ++ ds.flatMap (putDay L d l)).Perm (Y ++ ds.flatMap L) := by
  obtain ⟨A, B, rfl⟩ := List.append_of_mem hd
  have hn' := List.nodup_append.1 hn
  have hA : d ∉ A := fun h => (hn'.2.2 d h d (List.mem_cons_self ..)) rfl
  have hB : d ∉ B := (List.nodup_cons.1 hn'.2.1).1
  rw [List.flatMap_append, List.flatMap_cons, flat_other hA, flat_other hB, putDay_same, List.flatMap_append, List.flatMap_cons]
  have e1 : ∀ Z K : List M, (Z ++ (A.flatMap L ++ (K ++ B.flatMap L))).Perm ((Z ++ K) ++ (A.flatMap L ++ B.flatMap L)) := fun Z K => by
    rw [List.append_assoc]
    refine List.Perm.append_left Z ?_
    rw [← List.append_assoc, ← List.append_assoc]
    exact List.Perm.append_right _ List.perm_append_comm
  exact (e1 X l).trans ((List.Perm.append_right _ hp).trans (e1 Y (L d)).symm)
/-- A day more. -/
theorem flat_more {ds : List Int} {L : Int → List M} {d : Int} (hd : d ∉ ds) (p : Nat) (l : List M) : ((ds.take p ++ d :: ds.drop p).flatMap (putDay L d l)).Perm (l ++ ds.flatMap L) := by
  have hA : d ∉ ds.take p := fun h => hd (List.mem_of_mem_take h)
  have hB : d ∉ ds.drop p := fun h => hd (List.mem_of_mem_drop h)
  rw [List.flatMap_append, List.flatMap_cons, flat_other hA, flat_other hB, putDay_same]
  have e : (ds.flatMap L) = (ds.take p).flatMap L ++ (ds.drop p).flatMap L := by rw [← List.flatMap_append, List.take_append_drop]
  rw [e, ← List.append_assoc, ← List.append_assoc]
  exact List.Perm.append_right _ List.perm_append_comm
theorem rising_ins {ds : List Int} (h : ds.Pairwise (· < ·)) {d : Int} (hd : d ∉ ds) {p : Nat} (hp : PlaceI ds d p) : (ds.take p ++ d :: ds.drop p).Pairwise (· < ·) := by
  obtain ⟨h1, h2, h3⟩ := hp
  have hlt : ∀ x ∈ ds.take p, x < d := fun x hx => by
    obtain ⟨i, hi, rfl⟩ := List.getElem_of_mem hx
    rw [List.length_take] at hi
    have := h2 i (by omega)
    rw [List.getElem_take]
    simpa [List.getD_eq_getElem?_getD, show i < ds.length by omega] using this
  have hgt : ∀ x ∈ ds.drop p, d < x := fun x hx => by
    have hm := List.mem_of_mem_drop hx
    obtain ⟨i, hi, rfl⟩ := List.getElem_of_mem hx
    rw [List.length_drop] at hi
    have := h3 (p + i) (by omega) (by omega)
    rw [List.getElem_drop] at *
    have e : ds.getD (p + i) 0 = ds[p + i]'(by omega) := by simp [List.getD_eq_getElem?_getD, show p + i < ds.length by omega]
    rw [e] at this
    have hne : ds[p + i]'(by omega) ≠ d := fun e => hd (e ▸ List.getElem_mem _)
    omega
  refine List.pairwise_append.2 ⟨h.sublist (List.take_sublist ..), List.pairwise_cons.2 ⟨hgt, h.sublist (List.drop_sublist ..)⟩, fun a ha b hb => ?_⟩
  rcases List.mem_cons.1 hb with rfl | hb
  · exact hlt a ha
  · have := hlt a ha; have := hgt b hb; omega
theorem mem_ins {ds : List Int} {d x : Int} (p : Nat) : x ∈ ds.take p ++ d :: ds.drop p ↔ x = d ∨ x ∈ ds := by
  have e : x ∈ ds ↔ x ∈ ds.take p ∨ x ∈ ds.drop p := by
    conv => lhs; rw [← List.take_append_drop p ds]
    exact List.mem_append
  rw [List.mem_append, List.mem_cons, e]
  constructor
  · rintro (h | h | h)
    · exact .inr (.inl h)
    · exact .inl h
    · exact .inr (.inr h)
  · rintro (h | h | h)
    · exact .inr (.inl h)
    · exact .inl h
    · exact .inr (.inr h)
/-- A list in order with one put at its place. -/
theorem order_ins {l : List M} (h : InOrder ltM l) (m : M) {p : Nat} (hp : PlaceOf l m p) : InOrder ltM (l.take p ++ m :: l.drop p) := by
  obtain ⟨h1, h2, h3⟩ := hp
  have hlt : ∀ x ∈ l.take p, ltM m x = false := fun x hx => by
    obtain ⟨i, hi, rfl⟩ := List.getElem_of_mem hx
    rw [List.length_take] at hi
    have := h2 i (by omega)
    rw [List.getElem_take]
    have e : l.getD i default = l[i]'(by omega) := by simp [List.getD_eq_getElem?_getD, show i < l.length by omega]
    rw [e] at this
    generalize l[i]'(by omega) = a at *
    rw [ltM_iff] at this
    rw [ltM_no]
    omega
  have hgt : ∀ x ∈ l.drop p, ltM x m = false := fun x hx => by
    obtain ⟨i, hi, rfl⟩ := List.getElem_of_mem hx
    rw [List.length_drop] at hi
    have := h3 (p + i) (by omega) (by omega)
    rw [List.getElem_drop]
    have e : l.getD (p + i) default = l[p + i]'(by omega) := by simp [List.getD_eq_getElem?_getD, show p + i < l.length by omega]
    rwa [e] at this
  refine List.pairwise_append.2 ⟨h.sublist (List.take_sublist ..), List.pairwise_cons.2 ⟨hgt, h.sublist (List.drop_sublist ..)⟩, fun a ha b hb => ?_⟩
  have ha' := hlt a ha
  rcases List.mem_cons.1 hb with rfl | hb
  · exact ha'
  · have hb' := hgt b hb
    rw [ltM_no] at *
    omega
theorem perm_ins {α : Type} (l : List α) (m : α) (p : Nat) : (l.take p ++ m :: l.drop p).Perm (m :: l) := by
  have := List.perm_middle (a := m) (l₁ := l.take p) (l₂ := l.drop p)
  rwa [List.take_append_drop] at this
/-- Where a message is whose key and uid are those of one in the list. -/
theorem place_at {l : List M} (hO : InOrder ltM l) (hU : Unlike l) {m x : M} {i : Nat} (hi : i < l.length) (hx : l[i] = x) (hk : m.k = x.k) (hu : m.u = x.u) {p : Nat} (hp : PlaceOf l m p) : p = i := by
  obtain ⟨h1, h2, h3⟩ := hp
  have e : ∀ j (hj : j < l.length), l.getD j default = l[j] := fun j hj => by simp [List.getD_eq_getElem?_getD, hj]
  have hno : ltM (l.getD i default) m = false := by
    rw [e i hi, hx, ltM_no, hk, hu]
    omega
  have hle : p ≤ i := by
    rcases Nat.lt_or_ge i p with h | h
    · have := h2 i h
      rw [hno] at this
      cases this
    · exact h
  rcases Nat.lt_or_ge p i with h | h
  · have h4 := h3 p (Nat.le_refl _) (by omega)
    have h5 := List.pairwise_iff_getElem.1 hO p i (by omega) hi h
    have h6 := List.pairwise_iff_getElem.1 hU p i (by omega) hi h
    rw [e p (by omega)] at h4
    rw [hx] at h5 h6
    exfalso
    apply h6
    rw [ltM_no] at h4 h5
    rw [hk, hu] at h4
    unfold sameS
    omega
  · omega
/-- A day's list is there as its messages are. -/
theorem day_mem {W : Int} {ds : List Int} {L : Int → List M} (h : DayList W ds L) {m : M} (hm : m ∈ ds.flatMap L) : dayOf W m.k.t ∈ ds ∧ m ∈ L (dayOf W m.k.t) := by
  obtain ⟨d, hd, hmd⟩ := List.mem_flatMap.1 hm
  have := (h.2 d hd).2.2 m hmd
  rw [this]
  exact ⟨hd, hmd⟩
theorem day_sub {ds : List Int} {L : Int → List M} {d : Int} (hd : d ∈ ds) {m : M} (hm : m ∈ L d) : m ∈ ds.flatMap L := List.mem_flatMap.2 ⟨d, hd, hm⟩
theorem unlike_day {ds : List Int} {L : Int → List M} {d : Int} (hd : d ∈ ds) (h : Unlike (ds.flatMap L)) : Unlike (L d) := by
  obtain ⟨A, B, rfl⟩ := List.append_of_mem hd
  rw [List.flatMap_append, List.flatMap_cons] at h
  exact (List.pairwise_append.1 (List.pairwise_append.1 h).2.1).1
theorem day_len {ds : List Int} {L : Int → List M} {d : Int} (hd : d ∈ ds) : (L d).length ≤ (ds.flatMap L).length := by
  obtain ⟨A, B, rfl⟩ := List.append_of_mem hd
  rw [List.flatMap_append, List.flatMap_cons, List.length_append, List.length_append]
  omega
theorem days_len {ds : List Int} {L : Int → List M} (h : ∀ d ∈ ds, L d ≠ []) : ds.length ≤ (ds.flatMap L).length := by
  induction ds with
  | nil => simp
  | cons d ds ih =>
    rw [List.flatMap_cons, List.length_append, List.length_cons]
    have h1 := ih (fun x hx => h x (List.mem_cons_of_mem _ hx))
    have h2 := List.length_pos_iff.2 (h d (List.mem_cons_self ..))
    omega
end Go.Proofs.YtjlbkdghlijoeaaGreat
namespace Go.Proofs.YtjlbkdghlijoeaaGreat
open Go.ChangeShapes Go.WideShapes Go.ChangeAt Go.Shelf Go.RowKit Go.Lib Go.Sort Go.Deep
set_option linter.unusedVariables false

theorem KeptOff.setRow (w : World) (g : Nat) (cs : Array Value) : KeptOff (fun k => k = g) w (w.setRow g cs) := ⟨rfl, rfl, rfl, by simp [World.setRow], fun k hk hn => setRow_other w g k cs hn⟩
/-- What a cut leaves. -/
def CutResH (w : World) (b0 tb : Nat) (v : Value) (l : List M) (p : Nat) (w' : World) : Prop :=
  ∃ v' l', TreeAt w' b0 tb v' l' ∧ (l.getD p default :: l').Perm l ∧ KeptOff (fun k => k = tb ∨ v.ownBlock = some k) w w' ∧ v'.ownBlock = v.ownBlock

set_option maxHeartbeats 4000000 in
set_option maxRecDepth 100000 in
theorem tcut_any {w : World} {b0 tb : Nat} {v : Value} {l : List M} (h : TreeAt w b0 tb v l) (p : Nat) (hp : p < l.length) :
    Calls Tryz.prog 80 #[.pointer (some ⟨tb, 0, none⟩), .int .i64 p] w fun e w' => e = .returned (l.getD p default).val ∧ CutResH w b0 tb v l p w' := by
  have mixed := mixed
  obtain ⟨g, cap, rfl, hbg, hgl, hne⟩ := h.some_shape (by omega)
  obtain ⟨n, hn⟩ : ∃ n, l.length = n + 1 := ⟨l.length - 1, by omega⟩
  have hsm := h.small
  rw [hn] at hsm
  have hcapI : n + 1 ≤ cap ∧ cap ≤ maxLen := by
    rcases h.own.2 with ⟨h0, _⟩ | ⟨g', cap', cur, hv, _, _, h1, h2, _⟩
    · cases h0
    · cases hv; exact ⟨by omega, h2⟩
  have hcap1 := hcapI.1
  have hcap2 := hcapI.2
  unfold maxLen at hcap2
  have hkA : Hid (KeptOff (fun k => k = tb ∨ (Value.slice (some ⟨g, 0, none⟩) (n + 1) cap).ownBlock = some k) w (w.alloc (.cells zeroM.cells 34))) := .of_below ((Below.refl _ w).alloc (Nat.le_refl _) _)
  have h1 := Lib.hid (h.kept (S := fun _ => False) (.of_below ((Below.refl _ w).alloc (Nat.le_refl _) (.cells zeroM.cells 34))) (fun e => e) (fun _ _ e => e))
  have hR := Lib.hid (BoxM.mk w zeroM)
  have hf := Lib.hid h.fits
  have hH := Lib.hid h.heap
  have hlt := h.lt
  have hbd := h.bd
  have htl := h.t.lt
  have hn' := Lib.hid hn
  rw [hn] at h1 hp ⊢
  clear h hn hcapI
  have hds : Hid (l.toArray.size = n + 1) := by show _ = _; simp [hn'.out]
  have hmI : Hid (l.toArray[p]! = l.getD p default) := by
    show _ = _
    rw [getElem!_pos _ _ (by rw [hds.out]; exact hp)]
    simp [List.getD_eq_getElem?_getD, hn'.out, hp]
  have hsw : ∀ w', w' = w.alloc (.cells zeroM.cells 34) → Calls Tryz.prog 83 #[.pointer (some ⟨tb, 0, none⟩), .int .i64 p, .int .i64 n] w' fun e w2 => e = .returned (.tuple #[]) ∧ SWK encM 7 (w.alloc (.cells zeroM.cells 34)) g 0 (swp l.toArray p n) w2 := by
    rintro w' rfl
    have ho := h1.out.own
    rw [hn'.out] at ho
    exact tswap_any tlay encM tb g 0 cap p n l.toArray l.toArray _ _ (own_row ho) rfl (SWK.start (own_row ho).hH) (by rw [hds.out]; exact h1.out.t) hne (by rw [hds.out]; exact hp) (by rw [hds.out]; omega) (by rw [hds.out]; omega)
  have hsz := fun w' (hw : w' = w.alloc (.cells zeroM.cells 34)) => tsize_any tlay tb (some ⟨g, 0, none⟩) (n + 1) cap w' (by rw [hw]; exact h1.out.t.c0)
  obtain ⟨m, hm⟩ : ∃ m, m = l.getD p default := ⟨_, rfl⟩
  have hm' := Lib.hid hm
  rw [← hm]
  clear hm
  have hmat : Hid (∀ w2, SWK encM 7 (w.alloc (.cells zeroM.cells 34)) g 0 (swp l.toArray p n) w2 → MsgAt w2 g (0 + n * 7) m ∧ TreeOf w2 tb (.slice (some ⟨g, 0, none⟩) (n + 1) cap) ∧ w2.ownsRow b0 34 7 (.slice (some ⟨g, 0, none⟩) (n + 1) cap) (n + 1) (flat (swp l.toArray p n).toList)) := by
    intro w2 S2
    have ho := h1.out.own
    rw [hn'.out] at ho
    have ho2 := own_swk ho S2 (by rw [size_swp, hds.out])
    have hlen : (swp l.toArray p n).toList.length = n + 1 := by rw [Array.length_toList, size_swp, hds.out]
    have hm2 := msgs_of_holds (own_holds ho2).1 (own_holds ho2).2 n (by omega)
    have e1 : (swp l.toArray p n).toList.getD n default = m := by
      have g1 := get_swp l.toArray (i := p) (j := n) (by rw [hds.out]; exact hp) (by rw [hds.out]; omega) n
      rw [if_pos rfl, getElem!_pos _ n (by rw [size_swp, hds.out]; omega), hmI.out] at g1
      rw [hm'.out, ← g1]
      simp [List.getD_eq_getElem?_getD, size_swp, hn'.out]
    rw [e1] at hm2
    exact ⟨hm2, h1.out.t.swk S2 hne, ho2⟩
  go_enter Tryz.func80, Tryz.ntmps80
  go_upto_region 4 with (first
    | (go_at_call 69; refine (hsz _ rfl).mono ?_; rintro e w1 ⟨rfl, rfl⟩)
    | (go_at_call 83; refine (hsw _ rfl).mono ?_; rintro e w2 ⟨rfl, S2⟩; have hA2 := hmat.out w2 S2; obtain ⟨-, x0, x1, x2, x3, x4, x5, x6⟩ := hA2.1; simp only [Nat.zero_add] at x0 x1 x2 x3 x4 x5 x6; have c0 := hA2.2.1.c0)
    | (refine wpList_store_row rfl 34 (.tmp 6) (.tmp 20) rfl w2.heap.size m.cells rfl rfl 34 zeroM.cells (heap_alloc_new w2 _) infoS rfl (M.cells_one m) ?_))
  have hG3 : BoxM ((w2.alloc (.cells #[.int .i64 0, .int .i64 0, .int .i64 0, .int .i64 0, .int .i64 0, .int .i64 0, .bool false] 34)).setRow w2.heap.size m.cells) w2.heap.size m := (BoxM.mk w2 zeroM).row m
  have hk3 : KeptOff (fun k => k = tb ∨ (Value.slice (some ⟨g, 0, none⟩) (n + 1) cap).ownBlock = some k) w2 ((w2.alloc (.cells #[.int .i64 0, .int .i64 0, .int .i64 0, .int .i64 0, .int .i64 0, .int .i64 0, .bool false] 34)).setRow w2.heap.size m.cells) :=
    (KeptOff.of_below (S := fun k => k = tb ∨ (Value.slice (some ⟨g, 0, none⟩) (n + 1) cap).ownBlock = some k) ((Below.refl _ w2).alloc (Nat.le_refl _) _)).then_new (KeptOff.setRow _ _ _) (fun k hk e => by omega)
  have hk3n : KeptOff (fun _ => False) w2 ((w2.alloc (.cells #[.int .i64 0, .int .i64 0, .int .i64 0, .int .i64 0, .int .i64 0, .int .i64 0, .bool false] 34)).setRow w2.heap.size m.cells) :=
    (KeptOff.of_below (S := fun _ => False) ((Below.refl _ w2).alloc (Nat.le_refl _) _)).then_new (KeptOff.setRow _ _ _) (fun k hk e => by omega)
  have hkw2 : KeptOff (fun k => k = tb ∨ (Value.slice (some ⟨g, 0, none⟩) (n + 1) cap).ownBlock = some k) (w.alloc (.cells zeroM.cells 34)) w2 := (KeptOff.of_grown (swk_grown S2)).mono (fun k _ e => .inr e)
  have hk03 := Lib.hid ((hkA.out.trans hkw2).trans hk3)
  have hT3 := (hk3n.block tb hA2.2.1.lt (fun e => e)).trans hA2.2.1
  have hT3 : TreeOf ((w2.alloc (.cells #[.int .i64 0, .int .i64 0, .int .i64 0, .int .i64 0, .int .i64 0, .int .i64 0, .bool false] 34)).setRow w2.heap.size m.cells) tb (.slice (some ⟨g, 0, none⟩) (n + 1) cap) := hT3
  have ho3 := own_kept hA2.2.2 hk3n (fun _ _ e => e)
  have hR3 := ((hR.out.kept (KeptOff.of_grown (swk_grown S2)) (by intro e; cases e; omega)).kept hk3n (fun e => e))
  have hGw : w.heap.size < w2.heap.size := by have := S2.le; simp at this; omega
  have hgG : g ≠ w2.heap.size := by have := (own_holds hA2.2.2).2; omega
  generalize hGe : w2.heap.size = G at *
  generalize (w2.alloc (.cells #[.int .i64 0, .int .i64 0, .int .i64 0, .int .i64 0, .int .i64 0, .int .i64 0, .bool false] 34)).setRow G m.cells = W3 at *
  have hGB := hG3.lt
  have ho4 := own_shorter ho3 (Nat.le_succ n)
  have hT4 := hT3.set (.slice (some ⟨g, 0, none⟩) n cap)
  have ho4 := ownsRow_setCell_below ho4 (a := ⟨tb, 0, none⟩) hlt (.slice (some ⟨g, 0, none⟩) n cap)
  have hk4 := KeptOff.set W3 ⟨tb, 0, none⟩ (.slice (some ⟨g, 0, none⟩) n cap)
  have hG4 := hG3.kept hk4 (by simp; omega)
  have hR4 := hR3.kept hk4 (by simp; omega)
  have hk04 := Lib.hid (hk03.out.trans (hk4.mono (fun k _ e => .inl e)))
  have c3 := hT3.c0
  have f3 := hT3.fz 0
  have hQ := Lib.hid (And.intro ho4 (And.intro hT4 (And.intro hG4 hR4)))
  clear hsw hsz hmat S2 hA2 x0 x1 x2 x3 x4 x5 x6 c0 hk3 hk3n hkw2 hk03 hT3 ho3 hR3 hG3 ho4 hT4 hk4 hG4 hR4 hGe
  go_upto_region 5 with (fail)
  generalize W3.setCell ⟨tb, 0, none⟩ (.slice (some ⟨g, 0, none⟩) n cap) = W4 at hQ hk04 ⊢
  clear c3 f3 hGB
  have epop : ((swp l.toArray p n).toList.take n) = (swp l.toArray p n).pop.toList := by
    rw [Array.toList_pop, List.dropLast_eq_take, Array.length_toList, size_swp, hds.out]
    rfl
  obtain ⟨d1, hd1⟩ : ∃ d1, d1 = (swp l.toArray p n).pop := ⟨_, rfl⟩
  rw [epop, ← hd1] at hQ
  have hd1s : Hid (d1.size = n) := by show _ = _; rw [hd1, Array.size_pop, size_swp, hds.out]; rfl
  have hd1' := Lib.hid hd1
  have hcA := cut_all ordM (d := l.toArray) (p := p) (by rw [hds.out]; exact hp) hH.out
  have en : l.toArray.size - 1 = n := by rw [hds.out]; rfl
  rw [en, hmI.out, ← hm'.out] at hcA
  have hcut : Hid (cutA ltM l.toArray p = if p < n then sinkA ltM (raiseA ltM d1 p) p else d1) := by
    show _ = _
    unfold cutA
    rw [en, ← hd1'.out]
  have hcA' := Lib.hid hcA
  have hend : ∀ (w6 : World) (d6 : Array M), d6 = cutA ltM l.toArray p → TreeOf w6 tb (.slice (some ⟨g, 0, none⟩) n cap) → w6.ownsRow b0 34 7 (.slice (some ⟨g, 0, none⟩) n cap) n (flat d6.toList) → BoxM w6 w.heap.size zeroM →
      KeptOff (fun k => k = tb ∨ (Value.slice (some ⟨g, 0, none⟩) (n + 1) cap).ownBlock = some k) w w6 → CutResH w b0 tb (.slice (some ⟨g, 0, none⟩) (n + 1) cap) l p (w6.setRow w.heap.size m.cells) := by
    intro w6 d6 hd6 hT6 ho6 hR6 hk6
    obtain ⟨z1, z2, z3⟩ := hcA'.out
    rw [← hd6] at z1 z2 z3
    have hk7 := KeptOff.setRow w6 w.heap.size m.cells
    have hT7 : TreeOf (w6.setRow w.heap.size m.cells) tb (.slice (some ⟨g, 0, none⟩) n cap) := (hk7.block tb hT6.lt (by omega)).trans hT6
    have ho7 := own_kept ho6 hk7 (fun k e hk => by have : g = k := (by simpa [Value.ownBlock] using e); omega)
    refine ⟨_, d6.toList, ⟨hT7, by rw [Array.length_toList, z1]; exact ho7, hlt, Nat.le_trans hbd (hk6.then_new (KeptOff.setRow w6 w.heap.size m.cells) (fun k hk e => by omega)).size, ?_, by simpa using z3, by rw [Array.length_toList, z1]; omega⟩, by rw [← hm'.out]; simpa using z2, hk6.then_new (KeptOff.setRow w6 w.heap.size m.cells) (fun k hk e => by omega), rfl⟩
    intro x hx
    refine hf.out x ?_
    have := z2.mem_iff (a := x)
    have h2 : x ∈ l.toArray.toList := this.1 (List.mem_cons_of_mem _ hx)
    simpa using h2
  have hend' := Lib.hid hend
  obtain ⟨ho4, hT4, hG4, hR4⟩ := hQ.out
  have hlt4 : G < W4.heap.size := hG4.lt
  have hk04' := Lib.hid hk04.out
  clear hk04 hcA hend epop hd1 hm' hmI hH hf en
  by_cases hpn : p < n
  · have hz : (p : Int) < (n : Int) := by omega
    have hcut1 : Hid (sinkA ltM (raiseA ltM d1 p) p = cutA ltM l.toArray p) := by show _ = _; rw [hcut.out, if_pos hpn]
    have R4 : RowK encM 7 W4 g 0 d1 := by simpa using own_row ho4
    have hsr : (raiseA ltM d1 p).size = n := by rw [size_raiseA, hd1s.out]
    have hss : (sinkA ltM (raiseA ltM d1 p) p).size = n := by rw [size_sinkA ordM _ _ (by omega), hsr]
    have hra := traise_any tlay encM ltM aheads tb g 0 cap p n d1 d1 W4 W4 R4 hd1s.out hd1s.out (SWK.start R4.hH) hT4 hne hpn (by omega)
    have hsi : ∀ w5, SWK encM 7 W4 g 0 (raiseA ltM d1 p) w5 → Calls Tryz.prog 84 #[.pointer (some ⟨tb, 0, none⟩), .int .i64 p] w5 fun e w6 => e = .returned (.tuple #[]) ∧
        Hid (BoxM w6 G m ∧ BoxM w6 w.heap.size zeroM ∧ CutResH w b0 tb (.slice (some ⟨g, 0, none⟩) (n + 1) cap) l p (w6.setRow w.heap.size m.cells)) := by
      intro w5 S5
      refine (tsink_any tlay encM ltM ordM aheads tb g 0 cap p n d1 (raiseA ltM d1 p) W4 w5 R4 hd1s.out hsr S5 hT4 hne hpn (by omega)).mono ?_
      rintro e w6 ⟨rfl, S6⟩
      have hk6 := KeptOff.of_grown (swk_grown S6)
      have hR6 := hR4.kept hk6 (fun e => by cases e; omega)
      refine ⟨rfl, hG4.kept hk6 (fun e => by cases e; omega), hR6, hend'.out w6 _ hcut1.out (hT4.swk S6 hne) (own_swk ho4 S6 hss) hR6 ?_⟩
      exact hk04'.out.trans (hk6.mono (fun k _ e => .inr e))
    have hra' := Lib.hid hra
    have hsi' := Lib.hid hsi
    clear hra hsi R4 hsr hss hcut1 ho4 hT4 hG4 hR4 hend' hcut hcA' hk04' hQ hd1s
    go_wp2_with (first
      | (go_at_call 82; refine hra'.out.mono ?_; rintro e w5 ⟨rfl, S5⟩; have hsi5 := hsi'.out _ S5; clear S5)
      | (go_at_call 84; refine hsi5.mono ?_; rintro e w6 ⟨rfl, hF6⟩; obtain ⟨-, x0, x1, x2, x3, x4, x5, x6⟩ := hF6.out.1.at; simp only [Nat.zero_add] at x0 x1 x2 x3 x4 x5 x6)
      | (refine wpList_store_row rfl 34 (.tmp 4) (.tmp 39) rfl w.heap.size m.cells rfl rfl 34 zeroM.cells hF6.out.2.1 infoS rfl (M.cells_one m) ?_))
    obtain ⟨-, s0, s1, s2, s3, s4, s5, s6⟩ := (hF6.out.2.1.row m).at
    simp only [Nat.zero_add] at s0 s1 s2 s3 s4 s5 s6
    exact bodyPost_ret (v := m.val) (by simp [results, Tryz.results80, go_sem, s0, s1, s2, s3, s4, s5, s6, M.val]) rfl ⟨rfl, hF6.out.2.2⟩
  · have hz : ¬ (p : Int) < (n : Int) := by omega
    have hcut1 : Hid (d1 = cutA ltM l.toArray p) := by show _ = _; rw [hcut.out, if_neg hpn]
    have hF6 : Hid (BoxM W4 w.heap.size zeroM ∧ CutResH w b0 tb (.slice (some ⟨g, 0, none⟩) (n + 1) cap) l p (W4.setRow w.heap.size m.cells)) := ⟨hR4, hend'.out W4 d1 hcut1.out hT4 ho4 hR4 hk04'.out⟩
    obtain ⟨-, x0, x1, x2, x3, x4, x5, x6⟩ := hG4.at
    simp only [Nat.zero_add] at x0 x1 x2 x3 x4 x5 x6
    clear hcut1 ho4 hT4 hG4 hR4 hend' hcut hcA' hk04' hQ hd1s
    go_wp2_with (refine wpList_store_row rfl 34 (.tmp 4) (.tmp 39) rfl w.heap.size m.cells rfl rfl 34 zeroM.cells hF6.out.1 infoS rfl (M.cells_one m) ?_)
    obtain ⟨-, s0, s1, s2, s3, s4, s5, s6⟩ := (hF6.out.1.row m).at
    simp only [Nat.zero_add] at s0 s1 s2 s3 s4 s5 s6
    exact bodyPost_ret (v := m.val) (by simp [results, Tryz.results80, go_sem, s0, s1, s2, s3, s4, s5, s6, M.val]) rfl ⟨rfl, hF6.out.2⟩
end Go.Proofs.YtjlbkdghlijoeaaGreat
