/-
  The contract of the program's Sorted: over every slice of messages that can be read it answers a new slice that reads as the stable order of them, and nothing that was there is changed.
-/
import Derived.Test.YtmfemimnoodpfaaSorted
import Derived.OwnWalk
import Derived.Lib.OwnBridge
namespace Go.Proofs.Ytmfemimnoodpfaa
open Go.ChangeShapes Go.WideShapes Go.ChangeAt Go.Shelf Go.RowKit Go.Lib Go.Sort

theorem infoM : (Try.prog.info? 28).map (fun i => (i.zero, i.size, i.bytes)) = some (some (.agg #[.int .i64 0, .int .i64 0, .int .i64 0, .int .i64 0, .int .i64 0, .int .i64 0, .bool false]), 7, 56) := by kernel_rfl

/-- The cells of messages, one behind the other. -/
def flat (ms : List M) : List Value := ms.flatMap encM
theorem flat_length (ms : List M) : (flat ms).length = ms.length * 7 := by
  induction ms with
  | nil => rfl
  | cons m ms ih => unfold flat at *; rw [List.flatMap_cons, List.length_append, ih, encM_length, List.length_cons]; omega
theorem flat_one (ms : List M) : ∀ u ∈ flat ms, u.oneCell' = true := by
  intro u hu
  unfold flat at hu
  obtain ⟨m, _, hm⟩ := List.mem_flatMap.1 hu
  exact encM_one m u hm
theorem flat_get : ∀ (ms : List M) (i c : Nat), i < ms.length → c < 7 → (flat ms)[i * 7 + c]? = (encM (ms.getD i default))[c]?
  | [], i, c, h, _ => by simp at h
  | m :: ms, 0, c, _, hc => by
    unfold flat
    rw [List.flatMap_cons, Nat.zero_mul, Nat.zero_add, List.getElem?_append_left (by rw [encM_length]; exact hc)]
    rfl
  | m :: ms, i + 1, c, h, hc => by
    have ih := flat_get ms i c (by simpa using h) hc
    unfold flat at *
    rw [List.flatMap_cons, List.getElem?_append_right (by rw [encM_length]; omega), encM_length, show (i + 1) * 7 + c - 7 = i * 7 + c by omega, ih]
    rfl
theorem enc_cell {w : World} {b o : Nat} {m : M} (h : MsgAt w b o m) (c : Nat) (u : Value) (hc : (encM m)[c]? = some u) : w.cell? ⟨b, o + c, none⟩ = some u := by
  obtain ⟨_, h0, h1, h2, h3, h4, h5, h6⟩ := h
  have hlt : c < 7 := by
    have := (List.getElem?_eq_some_iff.1 hc).1
    rwa [encM_length] at this
  rcases (by omega : c = 0 ∨ c = 1 ∨ c = 2 ∨ c = 3 ∨ c = 4 ∨ c = 5 ∨ c = 6) with rfl | rfl | rfl | rfl | rfl | rfl | rfl
  all_goals (simp [encM] at hc; subst hc; first | exact h0 | exact h1 | exact h2 | exact h3 | exact h4 | exact h5 | exact h6)
theorem flat_cells {w : World} {b off : Nat} {ms : List M} (h : ∀ i, i < ms.length → MsgAt w b (off + i * 7) (ms.getD i default)) (j : Nat) (u : Value) (hj : (flat ms)[j]? = some u) : w.cell? ⟨b, off + j, none⟩ = some u := by
  have hlt : j < ms.length * 7 := by
    have := (List.getElem?_eq_some_iff.1 hj).1
    rwa [flat_length] at this
  have e : j = j / 7 * 7 + j % 7 := by omega
  rw [e, flat_get ms (j / 7) (j % 7) (by omega) (by omega)] at hj
  have := enc_cell (h (j / 7) (by omega)) (j % 7) u hj
  rwa [Nat.add_assoc, ← e] at this
/-- A block of the call's own that holds the cells of messages holds them as the sort's kit asks. -/
theorem holds_of_block {w : World} {g n : Nat} {cur : Array Value} {e : TypeId} {ms : List M} (hg : w.heap[g]? = some (.cells cur e (0, 0))) (hn : ms.length = n) (ht : cur.toList.take (n * 7) = flat ms) : HoldsK encM 7 w g 0 ms.toArray := by
  intro t ht'
  rw [size_flatK, List.size_toArray] at ht'
  rw [get_flatK _ _ _ _ (by rw [List.size_toArray]; exact ht')]
  have hf := flat_get ms (t / 7) (t % 7) (by omega) (by omega)
  rw [show t / 7 * 7 + t % 7 = t by omega] at hf
  have hc : cur[t]? = (flat ms)[t]? := by
    rw [← ht, List.getElem?_take_of_lt (by omega), Array.getElem?_toList]
  have hv : (encM ms.toArray[t / 7]!)[t % 7]? = some (encM ms.toArray[t / 7]!)[t % 7]! := by
    generalize ms.toArray[t / 7]! = m0
    rw [List.getElem?_eq_getElem (by rw [encM_length]; omega), getElem!_pos (encM m0) (t % 7) (by rw [encM_length]; omega)]
  have hd : ms.toArray[t / 7]! = ms.getD (t / 7) default := by
    have hlt : t / 7 < ms.length := by omega
    rw [getElem!_pos _ _ (by rw [List.size_toArray]; exact hlt)]
    simp [List.getD_eq_getElem?_getD, hlt]
  refine ⟨?_, ?_⟩
  · have : w.cell? ⟨g, 0 + t, none⟩ = cur[t]? := by simp [World.cell?, hg]
    rw [this, hc, hf, ← hd, hv]
    rfl
  · simp [World.frozen?, hg]
theorem msgs_of_holds {w : World} {g off : Nat} {ms : List M} (h : HoldsK encM 7 w g off ms.toArray) (hg : g < w.heap.size) (i : Nat) (hi : i < ms.length) : MsgAt w g (off + i * 7) (ms.getD i default) := by
  have hd : ms.toArray[i]! = ms.getD i default := by
    rw [getElem!_pos _ _ (by rw [List.size_toArray]; exact hi)]
    simp [List.getD_eq_getElem?_getD, hi]
  have hc := fun c (hc : c < 7) => (h.cell (i := i) (c := c) (by rw [List.size_toArray]; exact hi) hc).1
  rw [hd] at hc
  exact ⟨hg, hc 0 (by omega), hc 1 (by omega), hc 2 (by omega), hc 3 (by omega), hc 4 (by omega), hc 5 (by omega), hc 6 (by omega)⟩
theorem MsgAt.below {w w' : World} {b o : Nat} {m : M} (h : MsgAt w b o m) (hb : Below w.heap.size w w') : MsgAt w' b o m := by
  obtain ⟨hlt, h0, h1, h2, h3, h4, h5, h6⟩ := h
  have hc : ∀ {c : Nat} {v : Value}, w.cell? ⟨b, c, none⟩ = some v → w'.cell? ⟨b, c, none⟩ = some v := fun h => by rw [hb.cell hlt]; exact h
  exact ⟨Nat.lt_of_lt_of_le hlt hb.size, hc h0, hc h1, hc h2, hc h3, hc h4, hc h5, hc h6⟩
theorem Msgs.below {w w' : World} {a : Option Addr} {len cap : Nat} {ms : List M} (h : Msgs w a len cap ms) (hb : Below w.heap.size w w') : Msgs w' a len cap ms := by
  obtain ⟨h1, h2, h3, hf, h4⟩ := h
  refine ⟨h1, h2, h3, hf, h4.imp id ?_⟩
  rintro ⟨b, off, ha, hm⟩
  exact ⟨b, off, ha, fun i hi => (hm i hi).below hb⟩
theorem SWK.belowM {w0 w W : World} {B g : Nat} {d : Array M} (h : SWK encM 7 w g 0 d W) (hb : Below B w0 w) (hg : B ≤ g) (hw : B ≤ w.heap.size) : Below B w0 W := by
  obtain ⟨n, os, rfl⟩ := h
  have h1 : Below B w0 (putRow id (Sort.ahead w n) g 0 (flatK encM 7 d)) := below_putRow hb hg
  have h2 : B ≤ (putRow id (Sort.ahead w n) g 0 (flatK encM 7 d)).heap.size := by rw [Go.Sort.size_putRow]; exact hw
  refine h1.trans ⟨rfl, rfl, rfl, by simp [sortWorldK, grow, putRowK], fun i hi => ?_⟩
  show ((putRow id (Sort.ahead w n) g 0 (flatK encM 7 d)).heap ++ os)[i]? = _
  rw [Array.getElem?_append_left (by omega)]

set_option maxHeartbeats 1000000 in
theorem clone_some (ad : Addr) (n c : Nat) (news : List Value) (w : World) (hl : news.length = n * 7) (hn : n ≤ maxLen) (hbig : n * 56 ≤ 140737488355328)
    (hc : ∀ j u, news[j]? = some u → w.cell? (ad.add j) = some u) (h1 : ∀ u ∈ news, u.oneCell' = true) :
    Calls Try.prog 42 #[.slice (some ad) n c] w fun e w' => ∃ v', e = .returned v' ∧ w'.ownsRow w.heap.size 28 7 v' n news ∧ Below w.heap.size w w' := by
  obtain ⟨i0, hi, hz0, hz1, hz2⟩ := info_parts infoM
  have q22 : ∀ (w : World) (a : Option Addr) (n c n' c' : Nat), (binOp .eql 35 (.slice a n c) (.slice none n' c')).run Try.prog w = .ok (.bool a.isNone) w := fun w a n c n' c' => Lib.run_eql_slice_nil w _ _ a n c n' c' Try.underlying35
  have A : Aside (∀ j u, news[j]? = some u → w.cell? (ad.add j) = some u) := hc
  clear hc
  go_enter Try.func42, Try.ntmps42
  go_wp2_with (at_builtin; refine wpList_append_own _ rfl _ _ 35 rfl w.heap.size 28 i0 _ 7 56 Try.underlying35 hi hz0 hz1 hz2 rfl (by omega) _ _ _ rfl (World.ownsRow_made w #[] 0 (Nat.le_refl _) (Nat.zero_le _) (by simp)) ad n c news rfl ?qc1 ?qc2 ?qc3 ?qc4 ?qc5 ?qc6 ?_)
  case qc1 => exact hl
  case qc2 =>
    intro j u hj
    exact Lib.cell?_alloc_some _ (A.out j u hj)
  case qc3 => exact h1
  case qc4 => rw [Nat.zero_add]; exact hn
  case qc5 => rw [Nat.zero_add]; exact hbig
  case qc6 => simp
  intro v' w1 hown hgrow hnil
  go_wp2
  go_ret
  refine ⟨v', rfl, by simpa using hown, ?_⟩
  exact ((Below.refl _ w).alloc (Nat.le_refl _) _).grown hgrow (by simp) (by intro k hk; simp [Value.ownBlock] at hk; omega)

theorem sort_any (w : World) (blk off cap : Nat) (l : List M) (hH : HoldsK encM 7 w blk off l.toArray) (hblk : blk < w.heap.size) (hsz : l.length < 1152921504606846976) :
    Calls Try.prog 43 #[.slice (some ⟨blk, off, none⟩) l.length cap, .func (.func 38) #[] #[]] w fun e w' => e = .returned (.tuple #[]) ∧ SWK encM 7 w blk off (stab ltM l).toArray w' := by
  have hc := stable_any w blk off cap l hH hblk hsz
  clear hH
  generalize stab ltM l = T at hc ⊢
  generalize l.length = N at hc ⊢
  go_enter Try.func43, Try.ntmps43
  go_wp2_with (go_at_call 44; refine hc.mono ?_; rintro e w1 ⟨rfl, S⟩)
  go_end0
  exact ⟨rfl, S⟩
theorem sort_none (p : Option Addr) (cap : Nat) (w : World) :
    Calls Try.prog 43 #[.slice p 0 cap, .func (.func 38) #[] #[]] w fun e w' => e = .returned (.tuple #[]) ∧ w' = w := by
  have hc := stable_none p cap w
  go_enter Try.func43, Try.ntmps43
  go_wp2_with (go_at_call 44; refine hc.mono ?_; rintro e w1 ⟨rfl, rfl⟩)
  go_end0
  exact ⟨rfl, rfl⟩
theorem clone_nil (n c : Nat) (w : World) : Calls Try.prog 42 #[.slice none n c] w fun e w' => e = .returned (.slice none 0 0) ∧ w' = w := by
  have := AnyE.slices_Clone_nil laysC n c w
  exact this

/-- What Clone leaves. -/
def CloneQ (w : World) (ms : List M) (len : Nat) (a' : Option Addr) (cap' : Nat) (w1 : World) : Prop :=
  Below w.heap.size w w1 ∧ len ≤ cap' ∧ cap' ≤ maxLen ∧ (len = 0 ∨ ∃ g, a' = some ⟨g, 0, none⟩ ∧ w.heap.size ≤ g ∧ g < w1.heap.size ∧ HoldsK encM 7 w1 g 0 ms.toArray)
theorem clone_any {w : World} {a : Option Addr} {len cap : Nat} {ms : List M} (h : Msgs w a len cap ms) (hr : len * 56 ≤ 140737488351232) :
    Calls Try.prog 42 #[.slice a len cap] w fun e w' => ∃ a' cap', e = .returned (.slice a' len cap') ∧ Aside (CloneQ w ms len a' cap' w') := by
  obtain ⟨hlen, hlc, hcm, hfit, hat⟩ := h
  cases a with
  | none =>
    obtain rfl : len = 0 := by
      rcases hat with h0 | ⟨b, off, ha, _⟩
      · exact h0
      · cases ha
    refine (clone_nil 0 cap w).mono ?_
    rintro e w' ⟨rfl, rfl⟩
    exact ⟨none, 0, rfl, Below.refl _ _, Nat.le_refl _, Nat.zero_le _, .inl rfl⟩
  | some ad =>
    have hc := clone_some ad len cap (flat ms) w (by rw [flat_length, hlen]) (by unfold maxLen at *; omega) (by omega) (by
      intro j u hj
      rcases hat with h0 | ⟨b, off, ha, hm⟩
      · have := (List.getElem?_eq_some_iff.1 hj).1
        rw [flat_length, hlen, h0] at this
        omega
      · injection ha with ha
        subst ha
        rw [add_plain]
        exact flat_cells (by rw [hlen]; exact hm) j u hj) (flat_one ms)
    refine hc.mono ?_
    rintro e w' ⟨v', rfl, hown, hb⟩
    rcases hown.2 with ⟨rfl, rfl⟩ | ⟨g, cap', cur, rfl, hg, hblk, hn, hm, _, ht⟩
    · exact ⟨none, 0, rfl, hb, Nat.le_refl _, Nat.zero_le _, .inl rfl⟩
    · refine ⟨some ⟨g, 0, none⟩, cap', rfl, hb, hn, hm, .inr ⟨g, rfl, hg, ?_, holds_of_block hblk hlen ht⟩⟩
      exact (Array.getElem?_eq_some_iff.1 hblk).1
theorem sort_q {w w1 : World} {a' : Option Addr} {len cap' : Nat} {ms : List M} (hlen : ms.length = len) (hfit : ∀ m ∈ ms, m.fits) (hr : len * 56 ≤ 140737488351232) (h : CloneQ w ms len a' cap' w1) :
    Calls Try.prog 43 #[.slice a' len cap', .func (.func 38) #[] #[]] w1 fun e w' => e = .returned (.tuple #[]) ∧ Aside (Msgs w' a' len cap' (stab ltM ms) ∧ Below w.heap.size w w') := by
  obtain ⟨hb, hlc, hcm, hat⟩ := h
  have hfit' : ∀ m ∈ stab ltM ms, m.fits := fun m hm => hfit m ((stab_perm ms).mem_iff.1 hm)
  have hlen' : (stab ltM ms).length = len := by rw [stab_length, hlen]
  by_cases h0 : len = 0
  · subst h0
    refine (sort_none a' cap' w1).mono ?_
    rintro e w' ⟨rfl, rfl⟩
    exact ⟨rfl, ⟨hlen', hlc, hcm, hfit', .inl rfl⟩, hb⟩
  · rcases hat with h | ⟨g, rfl, hg, hg1, hH⟩
    · exact absurd h h0
    · have := sort_any w1 g 0 cap' ms hH hg1 (by omega)
      rw [hlen] at this
      refine this.mono ?_
      rintro e w' ⟨rfl, W⟩
      have hH' : HoldsK encM 7 w' g 0 (stab ltM ms).toArray := SWK.holds W hg1 hH (by simp [stab_length])
      have hb' : Below w.heap.size w w' := SWK.belowM W hb hg hb.size
      have hsz : g < w'.heap.size := SWK.lt W hg1
      refine ⟨rfl, ⟨hlen', hlc, hcm, hfit', .inr ⟨g, 0, rfl, fun i hi => msgs_of_holds hH' hsz i (by omega)⟩⟩, hb'⟩

theorem sortedBy_any {w : World} {a : Option Addr} {len cap : Nat} {ms : List M} (h : Msgs w a len cap ms) (hr : len * 56 ≤ 140737488351232) :
    Calls Try.prog 37 #[.slice a len cap, .func (.func 38) #[] #[]] w fun e w' => ∃ a' cap', e = .returned (.slice a' len cap') ∧ Aside (Msgs w' a' len cap' (stab ltM ms) ∧ Below w.heap.size w w') := by
  have hc := clone_any h hr
  have hs := fun a' cap' w1 (hq : Aside (CloneQ w ms len a' cap' w1)) => sort_q h.1 h.2.2.2.1 hr hq.out
  clear h hr
  go_enter Try.func37, Try.ntmps37
  go_wp2_with (first | (go_at_call 42; refine hc.mono ?_; rintro e w1 ⟨a', cap', rfl, hq⟩) | (go_at_call 43; refine (hs _ _ _ (by assumption)).mono ?_; rintro e w2 ⟨rfl, hT⟩))
  go_ret
  exact ⟨a', cap', rfl, hT⟩

/-- THE PROGRAM's Sorted. -/
theorem eSorted_any {w : World} {a : Option Addr} {len cap : Nat} {ms : List M} (h : Msgs w a len cap ms) (hr : len * 56 ≤ 140737488351232) :
    Calls Try.prog 27 #[.slice a len cap] w fun e w' => ∃ a' cap', e = .returned (.slice a' len cap') ∧ Aside (Msgs w' a' len cap' (stab ltM ms) ∧ Below w.heap.size w w') := by
  have hc := sortedBy_any h hr
  clear h hr
  go_enter Try.func27, Try.ntmps27
  go_wp2_with (go_at_call 37; refine hc.mono ?_; rintro e w1 ⟨a', cap', rfl, hq⟩)
  go_ret
  exact ⟨a', cap', rfl, hq⟩

end Go.Proofs.Ytmfemimnoodpfaa
