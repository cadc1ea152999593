/-
  The document's own way: Take of one.
-/
import Derived.Test.YtjbammgnkegecaaKV
namespace Go.Proofs.Ytjbammgnkegecaa
open Go.ChangeShapes Go.WideShapes Go.ChangeAt Go.Shelf Go.RowKit Go.Lib Go.Sort Go.Deep
set_option linter.unusedVariables false
set_option maxRecDepth 4000
set_option linter.unusedSimpArgs false

section
variable {w : World} {hb : Nat} {S : Nat → Prop} {y : Wy} {lk : Int} {v : Value} {L : List Pc}
set_option maxHeartbeats 8000000 in
theorem rlTake_some (h : DyOf w hb S y lk v L) (n : Int) (hl : L.length * 64 ≤ 140737488355328) (h0 : 0 < L.length) : Calls Try.prog 16 #[.pointer (some ⟨hb, 0, none⟩), .int .i64 n] w fun e w' => e = .returned (.tuple #[(L.getD (placeN y.loose n L.length) default).val, .int .i64 0]) ∧ Hid (RTook w hb S y (L.eraseIdx (placeN y.loose n L.length)) w') := by
  have hk := placeN_lt y.loose n h0
  obtain ⟨g, off, cap, rfl, hc1, hc2, hgl, -⟩ := AtP.get h.list hk
  have hbx : Hid (BoxP (w.alloc (.cells zeroP.cells 37)) w.heap.size zeroP) := BoxP.mk w zeroP
  have hb0 : Hid (Below w.heap.size w (w.alloc (.cells zeroP.cells 37))) := (Below.refl _ w).alloc (Nat.le_refl _) _
  have hsz0 : Hid ((w.alloc (.cells zeroP.cells 37)).heap.size = w.heap.size + 1) := by show _ = _; simp
  have hpk := Lib.hid (rlPeek_some (h.below hb0.out) n (by omega) h0)
  obtain ⟨p, hpp⟩ : ∃ p, p = L.getD (placeN y.loose n L.length) default := ⟨_, rfl⟩
  rw [← hpp] at hpk ⊢
  have hpv : Hid (p.val = .agg #[.int .i64 p.m.k.t, .int .i64 p.m.k.f, .int .i64 p.m.k.s, .int .i64 p.m.to, .int .i64 p.m.v, .int .i64 p.m.u, .bool p.m.anti, .int .i64 p.c]) := rfl
  have h4 : Hid (∀ w1, Below (w.alloc (.cells zeroP.cells 37)).heap.size (w.alloc (.cells zeroP.cells 37)) w1 → BoxP (w1.alloc (.cells p.cells 37)) w.heap.size zeroP ∧ BoxP (w1.alloc (.cells p.cells 37)) w1.heap.size p ∧ Below w.heap.size w (w1.alloc (.cells p.cells 37)) ∧ w.heap.size < w1.heap.size ∧
      Calls Try.prog 31 #[.pointer (some ⟨hb, 0, none⟩), .int .i64 n] (w1.alloc (.cells p.cells 37)) fun e w' => e = .returned (.int .i64 (placeN y.loose n L.length : Nat)) ∧ (w1.alloc (.cells p.cells 37)) = w') := by
    intro w1 h1
    have h2 := h1.alloc h1.size (.cells p.cells 37)
    have hbb := hb0.out.trans (h2.mono hb0.out.size)
    exact ⟨hbx.out.below h2, BoxP.mk w1 p, hbb, by have := h1.size; have := hsz0.out; omega, rlPlace_any (h.below hbb) n (by omega) h0⟩
  have hX := Lib.hid h
  clear hpp h
  have hpn := Lib.hid hpv.out
  rw [hpv.out] at hpk
  generalize hKK : placeN y.loose n L.length = k at *
  clear hKK
  obtain ⟨N, hN⟩ : ∃ N, N = L.length := ⟨_, rfl⟩
  rw [← hN] at hX
  have hN' := Lib.hid hN
  rw [← hN] at hl h0 hk hc1
  clear hN
  go_enter Try.func16, Try.ntmps16
  go_upto_region 1 with (fail)
  rw [show w.alloc (.cells #[.int .i64 0, .int .i64 0, .int .i64 0, .int .i64 0, .int .i64 0, .int .i64 0, .bool false, .int .i64 0] 37) = w.alloc (.cells zeroP.cells 37) from rfl]
  generalize w.alloc (.cells zeroP.cells 37) = W0 at *
  go_upto_region 4 with (go_at_call 14; refine hpk.out.mono ?_; rintro e w1 ⟨rfl, h1⟩; have hF := Lib.hid (h4.out w1 h1); clear h1)
  rw [show w1.alloc (.cells #[.int .i64 p.m.k.t, .int .i64 p.m.k.f, .int .i64 p.m.k.s, .int .i64 p.m.to, .int .i64 p.m.v, .int .i64 p.m.u, .bool p.m.anti, .int .i64 p.c] 37) = w1.alloc (.cells p.cells 37) from rfl]
  clear h4 hpk hpv hpn
  generalize w1.heap.size = B9 at *
  generalize w1.alloc (.cells p.cells 37) = W5 at *
  obtain ⟨hz5, hp5, hB5, hlt5, hpl⟩ := hF.out
  have hr5 := Lib.hid hz5
  have hx5 := Lib.hid hp5
  have hB5' := Lib.hid hB5
  have hpl' := Lib.hid hpl
  have hlt5' := Lib.hid hlt5
  clear hz5 hp5 hB5 hlt5 hpl hF hbx hb0 hsz0
  go_upto_region 5 with (go_at_call 31; refine hpl'.out.mono ?_; rintro e w2 ⟨rfl, rfl⟩)
  have hX5 := Lib.hid (hX.out.below hB5'.out)
  have c5 := hX5.out.c5
  have ca := fun o => Lib.cell?_alloc_some o c5
  have hz1 : (0 : Int) ≤ (k : Int) := by omega
  have hz2 : (k : Int) < (N : Int) := by omega
  have hkc : (k : Int) ≤ (cap : Int) := by omega
  have hkc2 : k ≤ cap := by omega
  have htc := Lib.hid (takeP_cells hX5.out.rowP k (by have := hN'.out; omega))
  have hlt := Lib.hid (show (L.take k).length = k by rw [List.length_take]; have := hN'.out; omega)
  go_upto_region 6 with (at_builtin; refine wpP rfl (.tmp 23) (.tmp 29) rfl W5.heap.size _ 0 [] rfl (World.ownsRow_made W5 #[] 0 (Nat.le_refl _) (Nat.zero_le _) (by simp)) ⟨g, off, none⟩ k cap (L.take k) rfl ?o2 ?o3 ?o4 ?o5 ?_)
  case o2 => exact hlt.out
  case o3 => exact fun j u hj => Lib.cell?_alloc_some _ (htc.out j u hj)
  case o4 => omega
  case o5 => simp
  intro v1 w6 hown6 hgrow6
  have hb6 : Hid (Below W5.heap.size W5 w6) := ((Below.refl _ W5).alloc (Nat.le_refl _) _).grown hgrow6.out (by simp) (by intro k hk; simp [Value.ownBlock] at hk; omega)
  have hown6' : Hid (w6.ownsRow W5.heap.size 37 8 v1 k (flatP (L.take k))) := by
    have := hown6.out
    first | exact this | (simp only [Nat.zero_add, List.nil_append] at this; exact this)
  clear hown6 hgrow6 ca c5 htc
  have hX6 := Lib.hid (hX5.out.below hb6.out)
  have c5 := hX6.out.c5
  have hw1 : IntKind.i64.wrap ((k : Int) + 1) = (k : Int) + 1 := IntWalk.i64_in _ (by omega)
  have hk1 : (k : Int) + 1 ≤ (N : Int) := by omega
  have hk2 : (N : Int) ≤ (cap : Int) := by omega
  have hlast : Hid (∀ v2 w7 n2, n2 = N - (k + 1) → Hid (w7.ownsRow W5.heap.size 37 8 v2 (k + n2) (flatP (L.take k) ++ flatP (L.drop (k + 1)))) → Hid (w6.grownBy w7 v1.ownBlock) →
      ∃ a c, v2 = .slice a (N - 1) c ∧ w7.cell? ⟨hb, 5, none⟩ = some (.slice (some ⟨g, off, none⟩) N cap) ∧ w7.frozen? ⟨hb, 5, none⟩ = false ∧ Hid (BoxP (w7.setCell ⟨hb, 5, none⟩ (.slice a (N - 1) c)) B9 p ∧ BoxP (w7.setCell ⟨hb, 5, none⟩ (.slice a (N - 1) c)) w.heap.size zeroP ∧
        ∀ cs, RTook w hb S y (L.eraseIdx k) ((w7.setCell ⟨hb, 5, none⟩ (.slice a (N - 1) c)).setRow w.heap.size cs))) := by
    intro v2 w7 n2 hn2 ho hg
    have hkg : KeptOff (fun x => v1.ownBlock = some x) w6 w7 := KeptOff.of_grown hg.out
    have hrow := hown6'.out.lt
    have hb57 : Below W5.heap.size W5 w7 := hb6.out.trans (hkg.below (fun x _ e => (hrow x e).1) hb6.out.size)
    have ho' := ho.out
    rw [show k + n2 = L.length - 1 by have := hN'.out; omega] at ho'
    obtain ⟨a, c, e, e1, e2, hfin⟩ := hX5.out.less hb57 ho' (by have := hN'.out; omega) (Nat.le_refl _)
    rw [show L.length - 1 = N - 1 by have := hN'.out; omega] at e
    subst e
    obtain ⟨S', hD, hC, hS'⟩ := hfin (fun _ => True)
    have hks := KeptOff.set w7 ⟨hb, 5, none⟩ (.slice a (N - 1) c)
    have hbh : hb < w.heap.size := hX.out.lt hb hX.out.own
    have hxl := hx5.out.lt
    have hrl := hr5.out.lt
    refine ⟨a, c, rfl, e1, e2, (hx5.out.below hb57).kept hks (fun e => by have := hlt5'.out; simp at e; omega), (hr5.out.below hb57).kept hks (fun e => by simp at e; omega), fun cs => ?_⟩
    have hkr := KeptOff.setRow (w7.setCell ⟨hb, 5, none⟩ (.slice a (N - 1) c)) w.heap.size cs
    refine ⟨S', hD.kept hkr (fun x e e2 => ?_), ?_, fun x e => ?_⟩
    · rcases hS' x e with e3 | ⟨e3, _⟩
      · have := hX.out.lt x e3; omega
      · omega
    · exact ((KeptOff.of_below (S := S) hB5'.out).trans hC.1).then_new hkr (fun x hx e => by omega)
    · rcases hS' x e with e3 | ⟨e3, _⟩
      · exact .inl e3
      · exact .inr (by have := hB5'.out.size; omega)
  have hR6 := Lib.hid hX6.out.rowP
  clear hX6 hX5 hX hpl'
  by_cases hc : cap = k + 1
  · subst hc
    obtain rfl : N = k + 1 := by omega
    have hd0 := Lib.hid (show L.drop (k + 1) = [] from List.drop_of_length_le (by rw [← hN'.out]; exact Nat.le_refl _))
    go_upto_region 7 with (at_builtin; refine wpP rfl (.tmp 32) (.tmp 39) rfl W5.heap.size _ k (flatP (L.take k)) rfl hown6'.out ⟨g, off, none⟩ 0 0 (L.drop (k + 1)) rfl (by rw [hd0.out]; rfl) (fun j u hj => (by rw [hd0.out] at hj; simp [flatP] at hj)) (by omega) hb6.out.size ?_; intro v2 w7 hown7 hgrow7; obtain ⟨a', c', rfl, c7, f7, hQ7⟩ := hlast.out v2 w7 0 (by omega) hown7 hgrow7)
    simp only [Nat.add_sub_cancel] at hQ7 ⊢
    clear c7 f7 hlast hown7 hgrow7 hR6 hown6' c5
    generalize w7.setCell ⟨hb, 5, none⟩ (.slice a' k c') = W8 at hQ7 ⊢
    obtain ⟨y0, y1, y2, y3, y4, y5, y6, y7⟩ := hQ7.out.1.at
    simp only [Nat.zero_add] at y0 y1 y2 y3 y4 y5 y6 y7
    go_wp2_with (refine wpList_store_row rfl 37 (.tmp 4) (.tmp 43) rfl w.heap.size p.cells rfl rfl 37 zeroP.cells hQ7.out.2.1 infoPs rfl (Pc.cells_one p) ?_)
    obtain ⟨s0, s1, s2, s3, s4, s5, s6, s7⟩ := (hQ7.out.2.1.row p).at
    simp only [Nat.zero_add] at s0 s1 s2 s3 s4 s5 s6 s7
    exact bodyPost_ret (v := .tuple #[p.val, .int .i64 0]) (by simp [results, Try.results16, go_sem, s0, s1, s2, s3, s4, s5, s6, s7, Pc.val]) rfl ⟨rfl, hQ7.out.2.2 _⟩
  · have hc1 : ¬ cap - (k + 1) = 0 := by omega
    have hc2 : ¬ cap ≤ k + 1 := by omega
    have hdc := Lib.hid (fun j u => dropP_cells hR6.out (k + 1) j u)
    have hdl := Lib.hid (show (L.drop (k + 1)).length = N - (k + 1) by rw [List.length_drop, ← hN'.out])
    go_upto_region 7 with (at_builtin; refine wpP rfl (.tmp 32) (.tmp 39) rfl W5.heap.size _ k (flatP (L.take k)) rfl hown6'.out ⟨g, off + (k + 1) * 8, none⟩ (N - (k + 1)) (cap - (k + 1)) (L.drop (k + 1)) rfl hdl.out hdc.out (by omega) hb6.out.size ?_; intro v2 w7 hown7 hgrow7; obtain ⟨a', c', rfl, c7, f7, hQ7⟩ := hlast.out v2 w7 _ rfl hown7 hgrow7)
    clear c7 f7 hlast hown7 hgrow7 hR6 hown6' c5 hdc
    generalize w7.setCell ⟨hb, 5, none⟩ (.slice a' (N - 1) c') = W8 at hQ7 ⊢
    obtain ⟨y0, y1, y2, y3, y4, y5, y6, y7⟩ := hQ7.out.1.at
    simp only [Nat.zero_add] at y0 y1 y2 y3 y4 y5 y6 y7
    go_wp2_with (refine wpList_store_row rfl 37 (.tmp 4) (.tmp 43) rfl w.heap.size p.cells rfl rfl 37 zeroP.cells hQ7.out.2.1 infoPs rfl (Pc.cells_one p) ?_)
    obtain ⟨s0, s1, s2, s3, s4, s5, s6, s7⟩ := (hQ7.out.2.1.row p).at
    simp only [Nat.zero_add] at s0 s1 s2 s3 s4 s5 s6 s7
    exact bodyPost_ret (v := .tuple #[p.val, .int .i64 0]) (by simp [results, Try.results16, go_sem, s0, s1, s2, s3, s4, s5, s6, s7, Pc.val]) rfl ⟨rfl, hQ7.out.2.2 _⟩
theorem rlTake_any (h : DyAt w hb S y L) (n : Int) (hl : L.length * 64 ≤ 140737488355328) : Calls Try.prog 16 #[.pointer (some ⟨hb, 0, none⟩), .int .i64 n] w fun e w' => e = .returned (.tuple #[(peekP y L n).val, .int .i64 (peekC L)]) ∧ Hid (RTook w hb S y (takeL y L n) w') := by
  obtain ⟨lk, v, h⟩ := h
  cases L with
  | nil => exact (rlTake_none h n).mono fun e w' hh => ⟨hh.1, S, ⟨lk, v, h.below hh.2⟩, CStep.of_below hh.2⟩
  | cons p L =>
    have := rlTake_some h n hl (by simp)
    unfold peekP peekC takeL
    rw [if_neg (by simp), if_neg (by simp)]
    exact this
end
end Go.Proofs.Ytjbammgnkegecaa
