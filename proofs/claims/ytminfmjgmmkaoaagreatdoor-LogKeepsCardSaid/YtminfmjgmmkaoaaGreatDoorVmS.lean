/-
  The program's Sends, of what a run has sent.
-/
import Derived.Test.YtminfmjgmmkaoaaGreatDoorVmE
import Derived.Test.YtminfmjgmmkaoaaGreatDoorVmL2
import Derived.Test.YtminfmjgmmkaoaaGreatDoorVmI
import Derived.Deep.AppendLies
import Derived.BigRegion
import Derived.Deep.RegionHeld3
import Derived.IntWalk
namespace Go.Proofs.YtminfmjgmmkaoaaGreatDoor
open Go.ChangeShapes Go.WideShapes Go.ChangeAt Go.RowKit Go.Sort
set_option linter.unusedVariables false
set_option maxRecDepth 4000

def mgOf (W : Wd) (n t u : Int) (i : Nat) (x : Ot) : M := ⟨⟨t + x.delay, W.self, n + (i : Int)⟩, (W.links.getD x.link.toNat default).dst, x.value, u + (i : Int), false⟩
def mgs (W : Wd) (n t u : Int) (o : List Ot) (k : Nat) : List M := (List.range k).map fun i => mgOf W n t u i (o.getD i default)
theorem mgs_succ (W : Wd) (n t u : Int) (o : List Ot) (k : Nat) : mgs W n t u o (k + 1) = mgs W n t u o k ++ [mgOf W n t u k (o.getD k default)] := by simp [mgs, List.range_succ]
theorem mgs_length (W : Wd) (n t u : Int) (o : List Ot) (k : Nat) : (mgs W n t u o k).length = k := by simp [mgs]
theorem mgs_get (W : Wd) (n t u : Int) (o : List Ot) (k j : Nat) (h : j < k) : (mgs W n t u o k).getD j default = mgOf W n t u j (o.getD j default) := by
  simp [mgs, List.getD_eq_getElem?_getD, h]
def flatM (os : List M) : List Value := (os.map fun o => o.cells.toList).flatten
theorem flatM_append (a b : List M) : flatM (a ++ b) = flatM a ++ flatM b := by simp [flatM]
theorem flatM_one (o : M) : flatM [o] = [.int .i64 o.k.t, .int .i64 o.k.f, .int .i64 o.k.s, .int .i64 o.to, .int .i64 o.v, .int .i64 o.u, .bool o.anti] := rfl
theorem flatM_length (os : List M) : (flatM os).length = os.length * 7 := by
  induction os with
  | nil => rfl
  | cons o t ih =>
    have : flatM (o :: t) = flatM [o] ++ flatM t := flatM_append [o] t
    rw [this, List.length_append, ih, flatM_one, List.length_cons]
    simp only [List.length_cons, List.length_nil]
    omega
theorem flatM_get : ∀ (os : List M) (i c : Nat), i < os.length → c < 7 → (flatM os)[i * 7 + c]? = (os.getD i default).cells[c]?
  | [], i, c, h, _ => by simp at h
  | m :: ms, 0, c, _, hc => by
    have : flatM (m :: ms) = flatM [m] ++ flatM ms := flatM_append [m] ms
    rw [this, List.getElem?_append_left (by rw [flatM_one]; simp; omega)]
    simp [flatM, M.cells]
  | m :: ms, i + 1, c, h, hc => by
    have ih := flatM_get ms i c (by simpa using h) hc
    have : flatM (m :: ms) = flatM [m] ++ flatM ms := flatM_append [m] ms
    rw [this, List.getElem?_append_right (by rw [flatM_one]; simp; omega), flatM_one]
    have e : (i + 1) * 7 + c - [Value.int .i64 m.k.t, Value.int .i64 m.k.f, Value.int .i64 m.k.s, Value.int .i64 m.to, Value.int .i64 m.v, Value.int .i64 m.u, Value.bool m.anti].length = i * 7 + c := by simp; omega
    rw [e, ih]
    simp
/-- A slice value reads as the messages ms. -/
def Mgs (w : World) (a : Option Addr) (len cap : Nat) (ms : List M) : Prop :=
  ms.length = len ∧ len ≤ cap ∧ cap ≤ maxLen ∧ (len = 0 ∨ ∃ b off, a = some ⟨b, off, none⟩ ∧ ∀ k, k < len → MsgAt w b (off + k * 7) (ms.getD k default))
theorem MsgAt.below {w w' : World} {b o : Nat} {m : M} (h : MsgAt w b o m) (hb : Below w.heap.size w w') : MsgAt w' b o m := by
  obtain ⟨hlt, h0, h1, h2, h3, h4, h5, h6⟩ := h
  have hc : ∀ {c : Nat} {v : Value}, w.cell? ⟨b, c, none⟩ = some v → w'.cell? ⟨b, c, none⟩ = some v := fun h => by rw [hb.cell hlt]; exact h
  exact ⟨Nat.lt_of_lt_of_le hlt hb.size, hc h0, hc h1, hc h2, hc h3, hc h4, hc h5, hc h6⟩
theorem Mgs.below {w w' : World} {a : Option Addr} {len cap : Nat} {ms : List M} (h : Mgs w a len cap ms) (hb : Below w.heap.size w w') : Mgs w' a len cap ms := by
  obtain ⟨h1, h2, h3, h4⟩ := h
  refine ⟨h1, h2, h3, h4.imp id ?_⟩
  rintro ⟨b, off, ha, hm⟩
  exact ⟨b, off, ha, fun i hi => (hm i hi).below hb⟩
theorem mgs_of_own {w : World} {base : Nat} {a : Option Addr} {n cap : Nat} {os : List M} (h : w.ownsRow base 42 7 (.slice a n cap) n (flatM os)) : Mgs w a n cap os := by
  obtain ⟨hl, hv⟩ := h
  rw [flatM_length] at hl
  have hn : os.length = n := by omega
  rcases hv with ⟨e, rfl⟩ | ⟨g, cap', cur, e, _, hg, hn', hm, hs, ht⟩
  · cases e
    exact ⟨hn, Nat.le_refl _, by unfold maxLen; omega, .inl rfl⟩
  · cases e
    refine ⟨hn, hn', hm, .inr ⟨g, 0, rfl, fun k hk => ?_⟩⟩
    have hc : ∀ c, c < 7 → w.cell? ⟨g, 0 + k * 7 + c, none⟩ = (os.getD k default).cells[c]? := by
      intro c hc
      have h1 : w.cell? ⟨g, 0 + k * 7 + c, none⟩ = cur[k * 7 + c]? := by simp [World.cell?, hg]
      rw [h1]
      have h2 : (cur.toList.take (n * 7))[k * 7 + c]? = cur[k * 7 + c]? := by rw [List.getElem?_take_of_lt (by omega), Array.getElem?_toList]
      rw [← h2, ht]
      exact flatM_get os k c (by omega) hc
    exact ⟨(Array.getElem?_eq_some_iff.1 hg).1, hc 0 (by omega), hc 1 (by omega), hc 2 (by omega), hc 3 (by omega), hc 4 (by omega), hc 5 (by omega), hc 6 (by omega)⟩
theorem infoMsg : (Tryz.prog.info? 42).map (fun i => (i.zero, i.size, i.bytes)) = some (some (.agg #[.int .i64 0, .int .i64 0, .int .i64 0, .int .i64 0, .int .i64 0, .int .i64 0, .bool false]), 7, 56) := by kernel_rfl
set_option maxHeartbeats 16000000 in
theorem vmSends_own {w : World} {v : Wv} {W : Wd} {r0 r1 r2 r3 r4 r5 r6 r7 d n t f q to' vv u : Int} {an : Bool} {a : Option Addr} {len cap : Nat} {o : List Ot} (hw : Wds w v W) (hO : Ots w a len cap o) (hl : Late W t o) (ht : 0 ≤ t ∧ t ≤ 4611686018427387903) (hn : 0 ≤ n ∧ n ≤ 1125899906842624) (hll : v.ll ≤ 1024) (hlk1 : ∀ j, j < v.ll → 1 ≤ (W.links.getD j default).look) {un : Int} (hun : 0 ≤ un ∧ un ≤ 1125899906842624) :
    Calls Tryz.prog 44 #[v.val W, Sta.val ⟨[r0, r1, r2, r3, r4, r5, r6, r7], d, n⟩, M.val ⟨⟨t, f, q⟩, to', vv, u, an⟩, .slice a len cap, .int .i64 un] w fun e w' => ∃ a' cap', e = .returned (.slice a' len cap') ∧ Aside (w'.ownsRow (w.heap.size + 3) 42 7 (.slice a' len cap') len (flatM (mgs W n t un o len)) ∧ Below w.heap.size w w') := by
  obtain ⟨i0, hi, hz0, hz1, hz2⟩ := info_parts infoMsg
  have mixed := mixed
  have hlen := hO.1
  have h8 : len ≤ 8 := by have := hl.2; omega
  have hO' := Lib.hid hO
  have hl' := Lib.hid hl
  have hw' := Lib.hid hw
  have hll' := Lib.hid hll
  have hlk' := Lib.hid hlk1
  have hlen' := Lib.hid hlen
  clear hO hl hw hll hlk1 hlen
  simp only [Wv.val, M.val, Sta.val, Sta.cells, List.map_cons, List.map_nil, List.cons_append, List.nil_append]
  go_enter Tryz.func44, Tryz.ntmps44
  go_wp2_with fail
  go_loopw [11, 16] (fun s i wr => ∃ k : Nat, k ≤ len ∧ i = .int .i64 k ∧ Tri w wr (.cells #[.slice v.pa v.pl v.pc, .int .i64 W.self, .slice v.la v.ll v.lc, .int .u64 W.seed] 26) (.cells #[.int .i64 r0, .int .i64 r1, .int .i64 r2, .int .i64 r3, .int .i64 r4, .int .i64 r5, .int .i64 r6, .int .i64 r7, .int .i64 d, .int .i64 n] 34) (.cells #[.int .i64 t, .int .i64 f, .int .i64 q, .int .i64 to', .int .i64 vv, .int .i64 u, .bool an] 42) ∧ Aside (wr.ownsRow (w.heap.size + 3) 42 7 s k (flatM (mgs W n t un o k)))) (fun _ i _ => len - (intOf i).toNat)
  case atStart => exact ⟨0, Nat.zero_le _, rfl, Tri.mk3 w _ _ _, World.ownsRow_nil _ _ _ _⟩
  case round =>
    obtain ⟨k, hk, rfl, F, hown⟩ := hrel
    by_cases hlt : k < len
    · obtain ⟨sa, sc, rfl⟩ := own_slice hown.out
      obtain ⟨b, off, rfl, hom⟩ : ∃ b off, a = some ⟨b, off, none⟩ ∧ ∀ j, j < len → OtAt w b (off + j * 3) (o.getD j default) := by
        rcases hO'.out.2.2.2 with g | g
        · omega
        · exact g
      have hox := (hom k hlt).below F.b
      have hok := hl'.out.1 (o.getD k default) (by
        have : k < o.length := by rw [hlen'.out]; exact hlt
        simp only [List.getD_eq_getElem?_getD, List.getElem?_eq_getElem this, Option.getD_some]
        exact List.getElem_mem this)
      have hsu := Lib.hid (mgs_succ W n t un o k)
      obtain ⟨hk0, hk1, hk2, hk3⟩ := hok
      have hll0 := hw'.out.2.1.1
      obtain ⟨lb, lo, hla, hlm⟩ : ∃ lb lo, v.la = some ⟨lb, lo, none⟩ ∧ ∀ j, j < v.ll → LkAt w lb (lo + j * 4) (W.links.getD j default) := by
        rcases hw'.out.2.1.2.2.2 with g | g
        · omega
        · exact g
      generalize hxx : o.getD k default = xx at hox hsu hk0 hk1 hk2 hk3
      obtain ⟨xl, xd, xv⟩ := xx
      simp only at hk0 hk1 hk2 hk3
      obtain ⟨kk, rfl⟩ := Int.eq_ofNat_of_zero_le hk0
      have hkl : kk < v.ll := by omega
      have hlx := (hlm kk hkl).below F.b
      have hlbw : lb < w.heap.size := (hlm kk hkl).1
      have hlook := hlk'.out kk hkl
      simp only [Int.toNat_natCast] at hk2
      simp only [mgOf, Int.toNat_natCast] at hsu
      generalize W.links.getD kk default = lk at hlx hsu hk2 hlook
      obtain ⟨src, dst, look, loose⟩ := lk
      simp only at hk2 hlook hsu
      obtain ⟨-, p0, p1, p2⟩ := hox
      have hFa := fun o => F.below ((Below.refl _ wr).alloc F.sz o)
      have hla' := Lib.hid hla
      have qw := fun o => row4 (hFa o).a
      have qs := fun o => row10 (hFa o).s
      have qm := fun o => row7 (hFa o).m
      rw [hla] at qw
      simp only [forall_and] at qw qs qm
      obtain ⟨w0, w1, w2, w3⟩ := qw
      obtain ⟨s0, s1, s2, s3, s4, s5, s6, s7, s8, s9⟩ := qs
      obtain ⟨g0, g1, g2, g3, g4, g5, g6⟩ := qm
      have hF' := Lib.hid F
      have hown' := Lib.hid hown.out
      have hlx' := Lib.hid hlx
      clear hom hxx hlm hla hFa F hown hlx hll0
      go_upto_region 6 with (fail)
      have hF6 := hF'.out.below ((Below.refl _ wr).alloc hF'.out.sz (.cells #[.int .i64 (kk : Int), .int .i64 xd, .int .i64 xv] 129))
      have ho6 := hown'.out.alloc (.cells #[.int .i64 (kk : Int), .int .i64 xd, .int .i64 xv] 129)
      have hx6 := hlx'.out.below ((Below.refl _ wr).alloc (Nat.le_refl _) (.cells #[.int .i64 (kk : Int), .int .i64 xd, .int .i64 xv] 129))
      have hz6 := heap_alloc_new wr (.cells #[.int .i64 (kk : Int), .int .i64 xd, .int .i64 xv] 129)
      generalize wr.alloc (.cells #[.int .i64 (kk : Int), .int .i64 xd, .int .i64 xv] 129) = W1 at *
      have hrow := hown'.out.lt
      generalize wr.heap.size = X at *
      clear w0 w1 w2 w3 s0 s1 s2 s3 s4 s5 s6 s7 s8 s9 g0 g1 g2 g3 g4 g5 g6 p0 p1 p2
      have e0 : W1.cell? ⟨X, 0, none⟩ = some (.int .i64 (kk : Int)) := row_cell hz6 0 rfl
      have e1 : W1.cell? ⟨X, 1, none⟩ = some (.int .i64 xd) := row_cell hz6 1 rfl
      have e2 : W1.cell? ⟨X, 2, none⟩ = some (.int .i64 xv) := row_cell hz6 2 rfl
      have w1 : W1.cell? ⟨w.heap.size, 1, none⟩ = some (.int .i64 W.self) := row_cell hF6.a 1 rfl
      have w2 : W1.cell? ⟨w.heap.size, 2, none⟩ = some (.slice (some ⟨lb, lo, none⟩) v.ll v.lc) := by
        have h2 := row_cell (u := .slice v.la v.ll v.lc) hF6.a 2 rfl
        rw [hla'.out] at h2
        exact h2
      have s9 : W1.cell? ⟨w.heap.size + 1, 9, none⟩ = some (.int .i64 n) := row_cell hF6.s 9 rfl
      have g0 : W1.cell? ⟨w.heap.size + 1 + 1, 0, none⟩ = some (.int .i64 t) := row_cell hF6.m 0 rfl
      obtain ⟨-, -, l1, -, -⟩ := hx6
      have a1 : IntKind.i64.wrap (t + xd) = t + xd := IntWalk.i64_in _ (by omega)
      have a2 : IntKind.i64.wrap (n + (k : Int)) = n + (k : Int) := IntWalk.i64_in _ (by omega)
      have a3 : IntKind.i64.wrap (un + (k : Int)) = un + (k : Int) := IntWalk.i64_in _ (by omega)
      have hF6' := Lib.hid hF6
      have ho6' := Lib.hid ho6
      have hb6 := hF6.sz
      have hlt6 : X < W1.heap.size := (Array.getElem?_eq_some_iff.1 hz6).1
      have agX : Value.ownBlock (.slice sa k sc) ≠ some X := fun e => by have := (hrow X e).2; omega
      have ag0 : Value.ownBlock (.slice sa k sc) ≠ some w.heap.size := fun e => by have := (hrow _ e).1; omega
      have ag1 : Value.ownBlock (.slice sa k sc) ≠ some (w.heap.size + 1) := fun e => by have := (hrow _ e).1; omega
      have ag2 : Value.ownBlock (.slice sa k sc) ≠ some (w.heap.size + 1 + 1) := fun e => by have := (hrow _ e).1; omega
      have agl : Value.ownBlock (.slice sa k sc) ≠ some lb := fun e => by have := (hrow _ e).1; omega
      have hrow' := Lib.hid hrow
      clear hF6 ho6 hz6 hF' hown' hlx' hrow
      go_region_held3 (fun w' => w'.cell? ⟨X, 0, none⟩ = some (.int .i64 (kk : Int)) ∧ w'.cell? ⟨X, 1, none⟩ = some (.int .i64 xd) ∧ w'.cell? ⟨X, 2, none⟩ = some (.int .i64 xv) ∧ w'.cell? ⟨w.heap.size, 1, none⟩ = some (.int .i64 W.self) ∧ w'.cell? ⟨w.heap.size, 2, none⟩ = some (.slice (some ⟨lb, lo, none⟩) v.ll v.lc) ∧ w'.cell? ⟨w.heap.size + 1, 9, none⟩ = some (.int .i64 n) ∧ w'.cell? ⟨w.heap.size + 1 + 1, 0, none⟩ = some (.int .i64 t) ∧ w'.cell? ⟨lb, lo + kk * 4 + 1, none⟩ = some (.int .i64 dst))
        (first | exact ⟨e0, e1, e2, w1, w2, s9, g0, l1⟩ | exact ⟨Lib.cell?_alloc_some _ e0, Lib.cell?_alloc_some _ e1, Lib.cell?_alloc_some _ e2, Lib.cell?_alloc_some _ w1, Lib.cell?_alloc_some _ w2, Lib.cell?_alloc_some _ s9, Lib.cell?_alloc_some _ g0, Lib.cell?_alloc_some _ l1⟩ | exact ⟨(hgrow.cell_far _ (by simp; omega) (Ne.symm agX)).trans (Lib.cell?_alloc_some _ e0), (hgrow.cell_far _ (by simp; omega) (Ne.symm agX)).trans (Lib.cell?_alloc_some _ e1), (hgrow.cell_far _ (by simp; omega) (Ne.symm agX)).trans (Lib.cell?_alloc_some _ e2), (hgrow.cell_far _ (by simp; omega) (Ne.symm ag0)).trans (Lib.cell?_alloc_some _ w1), (hgrow.cell_far _ (by simp; omega) (Ne.symm ag0)).trans (Lib.cell?_alloc_some _ w2), (hgrow.cell_far _ (by simp; omega) (Ne.symm ag1)).trans (Lib.cell?_alloc_some _ s9), (hgrow.cell_far _ (by simp; omega) (Ne.symm ag2)).trans (Lib.cell?_alloc_some _ g0), (hgrow.cell_far _ (by simp; omega) (Ne.symm agl)).trans (Lib.cell?_alloc_some _ l1)⟩ | go_keep)
        (first | (refine step_append_lies _ (by rfl) _ _ _ (by rfl) (w.heap.size + 3) 42 i0 _ 7 56 Tryz.underlying37 hi hz0 hz1 hz2 rfl (by omega) (.slice sa k sc) k (flatM (mgs W n t un o k)) (by rfl) ((ho6'.out.alloc _).drew) ⟨W1.heap.size, 0, none⟩ 1 1 (flatM [⟨⟨t + xd, W.self, n + (k : Int)⟩, dst, xv, un + (k : Int), false⟩]) (by rfl) (by rfl) (World.news_of_block (cs := (M.cells ⟨⟨t + xd, W.self, n + (k : Int)⟩, dst, xv, un + (k : Int), false⟩)) (t := 42) (fr := (0, 0)) (heap_alloc_new W1 _)) (by simp [Value.oneCell', flatM_one]) (by omega) (by unfold maxLen; omega) (by omega) (by simp; omega) (W1.heap.size + 1) (by simp) ?_; intro gg cap2 w4 hown4 hgrow hat hlt4))
      have hown5 : Hid (w4.ownsRow (w.heap.size + 3) 42 7 (.slice (some ⟨gg, 0, none⟩) (k + 1) cap2) (k + 1) (flatM (mgs W n t un o (k + 1)))) := by rw [hsu.out, flatM_append]; exact hown4
      have hF9 : Hid (Tri w w4 (.cells #[.slice v.pa v.pl v.pc, .int .i64 W.self, .slice v.la v.ll v.lc, .int .u64 W.seed] 26) (.cells #[.int .i64 r0, .int .i64 r1, .int .i64 r2, .int .i64 r3, .int .i64 r4, .int .i64 r5, .int .i64 r6, .int .i64 r7, .int .i64 d, .int .i64 n] 34) (.cells #[.int .i64 t, .int .i64 f, .int .i64 q, .int .i64 to', .int .i64 vv, .int .i64 u, .bool an] 42)) := hF6'.out.below ((((Below.refl (w.heap.size + 3) W1).alloc hb6 _).drew).grown hgrow (by simp; omega) (fun k hk => (hrow'.out k hk).1))
      rename_i hHeld
      clear hown4 hgrow hat hlt4 agX ag0 ag1 ag2 agl hHeld e0 e1 e2 w1 w2 s9 g0 l1 a1 a2 a3
      go_wp2
      go_roundw
      case rel => exact ⟨k + 1, by omega, by go_num, hF9.out, hown5.out⟩
      case measure => simp [intOf]; omega
    · obtain rfl : k = len := by omega
      obtain ⟨a', cap', rfl⟩ := own_slice hown.out
      have hQ := Lib.hid (And.intro hown.out F.b)
      clear hown F
      go_wp2
      go_ret
      exact ⟨a', cap', rfl, hQ.out⟩
end Go.Proofs.YtminfmjgmmkaoaaGreatDoor
