/-
  Plain lists of messages, and days of them. No model in this text.
-/
import Derived.Test.YticffeklmhcniaaYF
namespace Go.Proofs.Yticffeklmhcniaa
open Go.Sort
set_option linter.unusedVariables false

/-! Of unlike sendings there is one order. -/
/-- Is the sending among them? -/
def hasS (T : List M) (f u : Int) : Bool := T.any fun m => decide (m.k.f = f) && decide (m.u = u)
/-- Of one sending. -/
def sameS (a b : M) : Prop := a.k.f = b.k.f ∧ a.u = b.u
/-- No two of one sending. -/
def Unlike (T : List M) : Prop := T.Pairwise fun a b => ¬ sameS a b
theorem sameS.symm {a b : M} (h : sameS a b) : sameS b a := ⟨h.1.symm, h.2.symm⟩
theorem Unlike.perm {A B : List M} (h : Unlike A) (hp : A.Perm B) : Unlike B := (hp.pairwise_iff (fun {a b} (h : ¬ sameS a b) (h' : sameS b a) => h h'.symm)).1 h
theorem same_of_no {a b : M} (h : ltM a b = false) (h' : ltM b a = false) : sameS a b := by
  rw [ltM_no] at h h'
  unfold sameS
  omega
theorem sorted_unique : ∀ {A B : List M}, A.Perm B → InOrder ltM A → InOrder ltM B → Unlike A → A = B
  | [], B, hp, _, _, _ => hp.nil_eq
  | a :: A, [], hp, _, _, _ => by have := hp.length_eq; simp at this
  | a :: A, b :: B, hp, hA, hB, hU => by
    have hA' := List.pairwise_cons.1 hA
    have hB' := List.pairwise_cons.1 hB
    have hU' := List.pairwise_cons.1 hU
    have e : a = b := by
      have ha : a ∈ b :: B := hp.mem_iff.1 (List.mem_cons_self ..)
      have hb : b ∈ a :: A := hp.mem_iff.2 (List.mem_cons_self ..)
      rcases List.mem_cons.1 ha with h | ha
      · exact h
      · rcases List.mem_cons.1 hb with h | hb
        · exact h.symm
        · exact absurd (same_of_no (hB'.1 a ha) (hA'.1 b hb)) (hU'.1 b hb)
    subst e
    rw [sorted_unique hp.cons_inv hA'.2 hB'.2 hU'.2]
theorem stab_unique {A B : List M} (hp : A.Perm B) (hB : InOrder ltM B) (hU : Unlike A) : stab ltM A = B :=
  sorted_unique ((stab_perm A).trans hp) (stab_inOrder ordM A) hB (hU.perm (stab_perm A).symm)

theorem hasS_iff {T : List M} {f u : Int} : hasS T f u = true ↔ ∃ m ∈ T, m.k.f = f ∧ m.u = u := by
  simp [hasS, List.any_eq_true, Bool.and_eq_true]
theorem hasS_no {T : List M} {f u : Int} (h : hasS T f u = false) : ∀ m ∈ T, ¬ (m.k.f = f ∧ m.u = u) := fun m hm e => by
  rw [hasS_iff.2 ⟨m, hm, e⟩] at h
  cases h
theorem hasS_perm {A B : List M} (hp : A.Perm B) (f u : Int) : hasS A f u = hasS B f u := by
  rw [Bool.eq_iff_iff, hasS_iff, hasS_iff]
  exact ⟨fun ⟨m, hm, e⟩ => ⟨m, hp.mem_iff.1 hm, e⟩, fun ⟨m, hm, e⟩ => ⟨m, hp.mem_iff.2 hm, e⟩⟩
theorem unlike_snoc {T : List M} {m : M} (h : Unlike T) (hn : hasS T m.k.f m.u = false) : Unlike (T ++ [m]) := by
  refine List.pairwise_append.2 ⟨h, List.pairwise_singleton _ _, fun a ha b hb => ?_⟩
  rw [List.mem_singleton.1 hb]
  exact hasS_no hn a ha
/-- One more, in order. -/
theorem put_list {T : List M} {m : M} (hO : InOrder ltM T) (hU : Unlike T) (hn : hasS T m.k.f m.u = false) :
    InOrder ltM (mg ltM T [m]) ∧ Unlike (mg ltM T [m]) ∧ (mg ltM T [m]).Perm (T ++ [m]) ∧ (mg ltM T [m]).length = T.length + 1 :=
  ⟨mg_inOrder ordM _ _ hO (one_inOrder m), (unlike_snoc hU hn).perm (mg_perm T [m]).symm, mg_perm T [m], by rw [mg_length]; rfl⟩
/-- The first one taken. -/
theorem pop_list {l l' T : List M} {m : M} (hl : l.Perm T) (hp : (m :: l').Perm l) (hmin : ∀ x ∈ l, ltM x m = false) (hT : InOrder ltM T) (hU : Unlike T) : ∃ T', T = m :: T' ∧ l'.Perm T' := by
  refine ⟨stab ltM l', ?_, (stab_perm l').symm⟩
  refine sorted_unique (hl.symm.trans (hp.symm.trans ((stab_perm l').symm.cons m))) hT ?_ hU
  refine List.pairwise_cons.2 ⟨fun x hx => hmin x ?_, stab_inOrder ordM l'⟩
  exact hp.mem_iff.1 (List.mem_cons_of_mem _ ((stab_perm l').mem_iff.1 hx))
/-- One taken out. -/
theorem erase_perm {T : List M} {i : Nat} (hi : i < T.length) : (T[i] :: T.eraseIdx i).Perm T := by
  have h := List.perm_middle (a := T[i]) (l₁ := T.take i) (l₂ := T.drop (i + 1))
  rw [← List.drop_eq_getElem_cons hi, List.take_append_drop] at h
  rw [List.eraseIdx_eq_take_drop_succ]
  exact h.symm
theorem cut_list {l l' T : List M} {i : Nat} (hi : i < T.length) (hl : l.Perm T) (hp : (T[i] :: l').Perm l) : l'.Perm (T.eraseIdx i) :=
  List.Perm.cons_inv ((hp.trans hl).trans (erase_perm hi).symm)
theorem erase_keeps {T : List M} (i : Nat) (hO : InOrder ltM T) (hU : Unlike T) : InOrder ltM (T.eraseIdx i) ∧ Unlike (T.eraseIdx i) :=
  ⟨List.Pairwise.sublist (List.eraseIdx_sublist ..) hO, List.Pairwise.sublist (List.eraseIdx_sublist ..) hU⟩
theorem hasS_erase {T R : List M} {m : M} (hp : (m :: R).Perm T) (hU : Unlike T) (f u : Int) : hasS R f u = (hasS T f u && !(decide (f = m.k.f) && decide (u = m.u))) := by
  have hU' := List.pairwise_cons.1 (hU.perm hp.symm)
  rw [← hasS_perm hp]
  have e : hasS (m :: R) f u = ((decide (m.k.f = f) && decide (m.u = u)) || hasS R f u) := by simp [hasS]
  rw [e]
  by_cases h : m.k.f = f ∧ m.u = u
  · obtain ⟨rfl, rfl⟩ := h
    have : hasS R m.k.f m.u = false := by
      cases h : hasS R m.k.f m.u with
      | false => rfl
      | true =>
        obtain ⟨x, hx, e1, e2⟩ := hasS_iff.1 h
        exact absurd ⟨e1.symm, e2.symm⟩ (hU'.1 x hx)
    simp [this]
  · have h1 : (decide (m.k.f = f) && decide (m.u = u)) = false := by
      by_cases a : m.k.f = f <;> by_cases b : m.u = u <;> simp_all
    have h2 : (decide (f = m.k.f) && decide (u = m.u)) = false := by
      by_cases a : f = m.k.f <;> by_cases b : u = m.u <;> simp_all
    rw [h1, h2]
    simp

/-! Days. -/
/-- The messages of days. -/
def DayList (W : Int) (ds : List Int) (L : Int → List M) : Prop :=
  ds.Pairwise (· < ·) ∧ ∀ d ∈ ds, L d ≠ [] ∧ InOrder ltM (L d) ∧ ∀ m ∈ L d, dayOf W m.k.t = d
theorem lt_of_day {W : Int} (hW : 1 ≤ W) {a b : M} (h : dayOf W a.k.t < dayOf W b.k.t) : ltM b a = false := by
  have h1 : a.k.t < b.k.t := by
    rcases Int.lt_or_le a.k.t b.k.t with h1 | h1
    · exact h1
    · have := dayOf_mono hW h1; omega
  rw [ltM_no]
  omega
theorem days_order {W : Int} (hW : 1 ≤ W) : ∀ {ds : List Int} {L : Int → List M}, DayList W ds L → InOrder ltM (ds.flatMap L)
  | [], L, _ => List.Pairwise.nil
  | d :: ds, L, h => by
    obtain ⟨h1, h2⟩ := h
    have h1' := List.pairwise_cons.1 h1
    rw [List.flatMap_cons]
    refine List.pairwise_append.2 ⟨(h2 d (List.mem_cons_self ..)).2.1, days_order hW ⟨h1'.2, fun x hx => h2 x (List.mem_cons_of_mem _ hx)⟩, fun a ha b hb => ?_⟩
    obtain ⟨x, hx, hbx⟩ := List.mem_flatMap.1 hb
    have e1 := (h2 d (List.mem_cons_self ..)).2.2 a ha
    have e2 := (h2 x (List.mem_cons_of_mem _ hx)).2.2 b hbx
    exact lt_of_day hW (by rw [e1, e2]; exact h1'.1 x hx)
/-- L, but for the day d. -/
def putDay (L : Int → List M) (d : Int) (l : List M) : Int → List M := fun x => if x = d then l else L x
theorem putDay_same (L : Int → List M) (d : Int) (l : List M) : putDay L d l d = l := if_pos rfl
theorem putDay_other (L : Int → List M) {d x : Int} (l : List M) (h : x ≠ d) : putDay L d l x = L x := if_neg h
theorem flat_other {ds : List Int} {L : Int → List M} {d : Int} {l : List M} (h : d ∉ ds) : ds.flatMap (putDay L d l) = ds.flatMap L := by
  induction ds with
  | nil => rfl
  | cons x ds ih =>
    rw [List.flatMap_cons, List.flatMap_cons, ih (fun hm => h (List.mem_cons_of_mem _ hm)), putDay_other L l (fun e => h (by rw [e]; exact List.mem_cons_self ..))]
theorem rising_nodup {ds : List Int} (h : ds.Pairwise (· < ·)) : ds.Nodup := h.imp (fun h e => by omega)
/-- One day's list turned. -/
theorem flat_turn {ds : List Int} (hn : ds.Nodup) {L : Int → List M} {d : Int} (hd : d ∈ ds) {l X Y : List M} (hp : (X ++ l).Perm (Y ++ L d)) : (X ++ ds.flatMap (putDay L d l)).Perm (Y ++ ds.flatMap L) := by
  obtain ⟨A, B, rfl⟩ := List.append_of_mem hd
  have hn' := List.nodup_append.1 hn
  have hA : d ∉ A := fun h => (hn'.2.2 d h d (List.mem_cons_self ..)) rfl
  have hB : d ∉ B := (List.nodup_cons.1 hn'.2.1).1
  rw [List.flatMap_append, List.flatMap_cons, flat_other hA, flat_other hB, putDay_same, List.flatMap_append, List.flatMap_cons]
  have e1 : ∀ Z K : List M, (Z ++ (A.flatMap L ++ (K ++ B.flatMap L))).Perm ((Z ++ K) ++ (A.flatMap L ++ B.flatMap L)) := fun Z K => by
    rw [List.append_assoc]
    refine List.Perm.append_left Z ?_
    rw [← List.append_assoc, ← List.append_assoc]
    exact List.Perm.append_right _ List.perm_append_comm
  exact (e1 X l).trans ((List.Perm.append_right _ hp).trans (e1 Y (L d)).symm)
/-- A day more. -/
theorem flat_more {ds : List Int} {L : Int → List M} {d : Int} (hd : d ∉ ds) (p : Nat) (l : List M) : ((ds.take p ++ d :: ds.drop p).flatMap (putDay L d l)).Perm (l ++ ds.flatMap L) := by
  have hA : d ∉ ds.take p := fun h => hd (List.mem_of_mem_take h)
  have hB : d ∉ ds.drop p := fun h => hd (List.mem_of_mem_drop h)
  rw [List.flatMap_append, List.flatMap_cons, flat_other hA, flat_other hB, putDay_same]
  have e : (ds.flatMap L) = (ds.take p).flatMap L ++ (ds.drop p).flatMap L := by rw [← List.flatMap_append, List.take_append_drop]
  rw [e, ← List.append_assoc, ← List.append_assoc]
  exact List.Perm.append_right _ List.perm_append_comm
theorem rising_ins {ds : List Int} (h : ds.Pairwise (· < ·)) {d : Int} (hd : d ∉ ds) {p : Nat} (hp : PlaceI ds d p) : (ds.take p ++ d :: ds.drop p).Pairwise (· < ·) := by
  obtain ⟨h1, h2, h3⟩ := hp
  have hlt : ∀ x ∈ ds.take p, x < d := fun x hx => by
    obtain ⟨i, hi, rfl⟩ := List.getElem_of_mem hx
    rw [List.length_take] at hi
    have := h2 i (by omega)
    rw [List.getElem_take]
    simpa [List.getD_eq_getElem?_getD, show i < ds.length by omega] using this
  have hgt : ∀ x ∈ ds.drop p, d < x := fun x hx => by
    have hm := List.mem_of_mem_drop hx
    obtain ⟨i, hi, rfl⟩ := List.getElem_of_mem hx
    rw [List.length_drop] at hi
    have := h3 (p + i) (by omega) (by omega)
    rw [List.getElem_drop] at *
    have e : ds.getD (p + i) 0 = ds[p + i]'(by omega) := by simp [List.getD_eq_getElem?_getD, show p + i < ds.length by omega]
    rw [e] at this
    have hne : ds[p + i]'(by omega) ≠ d := fun e => hd (e ▸ List.getElem_mem _)
    omega
  refine List.pairwise_append.2 ⟨h.sublist (List.take_sublist ..), List.pairwise_cons.2 ⟨hgt, h.sublist (List.drop_sublist ..)⟩, fun a ha b hb => ?_⟩
  rcases List.mem_cons.1 hb with rfl | hb
  · exact hlt a ha
  · have := hlt a ha; have := hgt b hb; omega
theorem mem_ins {ds : List Int} {d x : Int} (p : Nat) : x ∈ ds.take p ++ d :: ds.drop p ↔ x = d ∨ x ∈ ds := by
  have e : x ∈ ds ↔ x ∈ ds.take p ∨ x ∈ ds.drop p := by
    conv => lhs; rw [← List.take_append_drop p ds]
    exact List.mem_append
  rw [List.mem_append, List.mem_cons, e]
  constructor
  · rintro (h | h | h)
    · exact .inr (.inl h)
    · exact .inl h
    · exact .inr (.inr h)
  · rintro (h | h | h)
    · exact .inr (.inl h)
    · exact .inl h
    · exact .inr (.inr h)
/-- A list in order with one put at its place. -/
theorem order_ins {l : List M} (h : InOrder ltM l) (m : M) {p : Nat} (hp : PlaceOf l m p) : InOrder ltM (l.take p ++ m :: l.drop p) := by
  obtain ⟨h1, h2, h3⟩ := hp
  have hlt : ∀ x ∈ l.take p, ltM m x = false := fun x hx => by
    obtain ⟨i, hi, rfl⟩ := List.getElem_of_mem hx
    rw [List.length_take] at hi
    have := h2 i (by omega)
    rw [List.getElem_take]
    have e : l.getD i default = l[i]'(by omega) := by simp [List.getD_eq_getElem?_getD, show i < l.length by omega]
    rw [e] at this
    generalize l[i]'(by omega) = a at *
    rw [ltM_iff] at this
    rw [ltM_no]
    omega
  have hgt : ∀ x ∈ l.drop p, ltM x m = false := fun x hx => by
    obtain ⟨i, hi, rfl⟩ := List.getElem_of_mem hx
    rw [List.length_drop] at hi
    have := h3 (p + i) (by omega) (by omega)
    rw [List.getElem_drop]
    have e : l.getD (p + i) default = l[p + i]'(by omega) := by simp [List.getD_eq_getElem?_getD, show p + i < l.length by omega]
    rwa [e] at this
  refine List.pairwise_append.2 ⟨h.sublist (List.take_sublist ..), List.pairwise_cons.2 ⟨hgt, h.sublist (List.drop_sublist ..)⟩, fun a ha b hb => ?_⟩
  have ha' := hlt a ha
  rcases List.mem_cons.1 hb with rfl | hb
  · exact ha'
  · have hb' := hgt b hb
    rw [ltM_no] at *
    omega
theorem perm_ins {α : Type} (l : List α) (m : α) (p : Nat) : (l.take p ++ m :: l.drop p).Perm (m :: l) := by
  have := List.perm_middle (a := m) (l₁ := l.take p) (l₂ := l.drop p)
  rwa [List.take_append_drop] at this
/-- Where a message is whose key and uid are those of one in the list. -/
theorem place_at {l : List M} (hO : InOrder ltM l) (hU : Unlike l) {m x : M} {i : Nat} (hi : i < l.length) (hx : l[i] = x) (hk : m.k = x.k) (hu : m.u = x.u) {p : Nat} (hp : PlaceOf l m p) : p = i := by
  obtain ⟨h1, h2, h3⟩ := hp
  have e : ∀ j (hj : j < l.length), l.getD j default = l[j] := fun j hj => by simp [List.getD_eq_getElem?_getD, hj]
  have hno : ltM (l.getD i default) m = false := by
    rw [e i hi, hx, ltM_no, hk, hu]
    omega
  have hle : p ≤ i := by
    rcases Nat.lt_or_ge i p with h | h
    · have := h2 i h
      rw [hno] at this
      cases this
    · exact h
  rcases Nat.lt_or_ge p i with h | h
  · have h4 := h3 p (Nat.le_refl _) (by omega)
    have h5 := List.pairwise_iff_getElem.1 hO p i (by omega) hi h
    have h6 := List.pairwise_iff_getElem.1 hU p i (by omega) hi h
    rw [e p (by omega)] at h4
    rw [hx] at h5 h6
    exfalso
    apply h6
    rw [ltM_no] at h4 h5
    rw [hk, hu] at h4
    unfold sameS
    omega
  · omega
/-- A day's list is there as its messages are. -/
theorem day_mem {W : Int} {ds : List Int} {L : Int → List M} (h : DayList W ds L) {m : M} (hm : m ∈ ds.flatMap L) : dayOf W m.k.t ∈ ds ∧ m ∈ L (dayOf W m.k.t) := by
  obtain ⟨d, hd, hmd⟩ := List.mem_flatMap.1 hm
  have := (h.2 d hd).2.2 m hmd
  rw [this]
  exact ⟨hd, hmd⟩
theorem day_sub {ds : List Int} {L : Int → List M} {d : Int} (hd : d ∈ ds) {m : M} (hm : m ∈ L d) : m ∈ ds.flatMap L := List.mem_flatMap.2 ⟨d, hd, hm⟩
theorem unlike_day {ds : List Int} {L : Int → List M} {d : Int} (hd : d ∈ ds) (h : Unlike (ds.flatMap L)) : Unlike (L d) := by
  obtain ⟨A, B, rfl⟩ := List.append_of_mem hd
  rw [List.flatMap_append, List.flatMap_cons] at h
  exact (List.pairwise_append.1 (List.pairwise_append.1 h).2.1).1
theorem day_len {ds : List Int} {L : Int → List M} {d : Int} (hd : d ∈ ds) : (L d).length ≤ (ds.flatMap L).length := by
  obtain ⟨A, B, rfl⟩ := List.append_of_mem hd
  rw [List.flatMap_append, List.flatMap_cons, List.length_append, List.length_append]
  omega
theorem days_len {ds : List Int} {L : Int → List M} (h : ∀ d ∈ ds, L d ≠ []) : ds.length ≤ (ds.flatMap L).length := by
  induction ds with
  | nil => simp
  | cons d ds ih =>
    rw [List.flatMap_cons, List.length_append, List.length_cons]
    have h1 := ih (fun x hx => h x (List.mem_cons_of_mem _ hx))
    have h2 := List.length_pos_iff.2 (h d (List.mem_cons_self ..))
    omega
end Go.Proofs.Yticffeklmhcniaa
