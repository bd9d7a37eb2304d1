/-
  Texts in one: ToInts, BindRow, LookWith, NamePlain.
-/
import Derived.Test.YtcafpaahbbachabGreatP04ofEval
import Derived.Test.YtcafpaahbbachabGreatP01ofEval
import Derived.Test.YtcafpaahbbachabGreatP03ofEval
import Derived.Test.YtcafpaahbbachabGreatP02ofEval
import Derived.RangeFuncNested
import Derived.RangeFuncBound
import Derived.RangeFuncCalls
import Derived.RangeFuncLeaves
import Derived.Shelf.Abstract
import Derived.Shelf.RegionOpen
import Derived.OwnWalkIn
import Derived.TacticsInMore
import Derived.LoopNIn
import Derived.LoopIn
import Derived.RangeFuncBox
import Derived.Test.YtcafpaahbbachabGreatP00ofEval
import Derived.Sort.Walk0
import Derived.Sort.KeysCollected
/-
  Copies of stores: toIntS, toIntSS, toSto.
-/
namespace Go.Proofs.YtcafpaahbbachabGreat
open Go.RowKit Go.Lib
set_option linter.unusedSimpArgs false
set_option linter.unusedVariables false

theorem ints_step (xs : List Int) (k : Nat) (x : Int) (hx : xs[k]? = some x) : (ints (xs.take k ++ List.replicate (xs.length - k) 0)).set k (.int .i64 x) = ints (xs.take (k + 1) ++ List.replicate (xs.length - (k + 1)) 0) := by
  obtain ⟨hk, e⟩ := List.getElem?_eq_some_iff.1 hx
  have hl : (xs.take k).length = k := by simp; omega
  obtain ⟨q, hq⟩ : ∃ q, xs.length - k = q + 1 := ⟨xs.length - k - 1, by omega⟩
  rw [List.take_add_one, hx, hq, show xs.length - (k + 1) = q by omega, List.replicate_succ, ints, ints, List.map_append, List.map_cons, List.set_append_right _ _ (by rw [List.length_map, hl]; exact Nat.le_refl _), List.length_map, hl, Nat.sub_self, List.set_cons_zero]
  simp
set_option maxHeartbeats 2000000 in
set_option maxRecDepth 100000 in
theorem toIntS_is (xs : List Int) (hn : xs.length ≤ 1048576) (v : Value) (w : World) (hv : IV w 0 v xs) :
    Calls Tryz.prog 36 #[v] w fun e w' => ∃ v', e = .returned v' ∧ IV w' w.heap.size v' xs ∧ Below w.heap.size w w' := by
  have HV := Lib.hid hv
  obtain ⟨ao, cap, rfl⟩ := hv.shape
  obtain ⟨i0, hi, hz0, hz1, hz2⟩ := info_parts infoI8
  clear hv
  go_enter Tryz.func36, Tryz.ntmps36
  go_wp2_with (refine wpList_make_full _ rfl _ _ 27 rfl w.heap.size 3 i0 _ 1 Tryz.underlying27 hi hz0 hz1 .i64 .i64 _ _ xs.length rfl rfl rfl rfl ?c1 ?c2 ?c3 ?_)
  case c1 => first | omega | (rw [hz2]; omega)
  case c2 => unfold maxLen; omega
  try (case c3 => exact Nat.le_refl _)
  intro w1 hown hgrow
  have HF := Lib.hid (fresh_made hown hgrow)
  clear hown hgrow hi hz0 hz1 hz2
  go_wp2
  go_loopw [4] (fun i wr => ∃ k : Nat, k ≤ xs.length ∧ i = .int .i64 k ∧ Hid (wr.ownsRow w.heap.size 3 1 (.slice (some ⟨w.heap.size, 0, Option.none⟩) xs.length xs.length) xs.length (ints (xs.take k ++ List.replicate (xs.length - k) 0))) ∧ Below w.heap.size w wr) (fun i _ => xs.length - (RowKit.intOf i).toNat)
  case atStart => exact ⟨0, by omega, rfl, (by have := HF.out.1; rw [List.length_replicate] at this; show World.ownsRow _ _ _ _ _ _ _; simpa using this), HF.out.2⟩
  case round =>
    obtain ⟨k, hk, rfl, ho, hb⟩ := hrel
    by_cases hlt : k < xs.length
    · have hltI : (k : Int) < (xs.length : Int) := by omega
      obtain ⟨x, hx⟩ : ∃ x, xs[k]? = some x := ⟨xs[k], List.getElem?_eq_getElem hlt⟩
      obtain ⟨g, off, rfl, A0⟩ := (HV.out.later hb).at hx
      have hs2 : (ints (xs.take k ++ List.replicate (xs.length - k) 0))[k]? = some (.int .i64 0) := by
        apply ints_get
        rw [List.getElem?_append_right (by simp; omega), List.getElem?_replicate, if_pos (by simp; omega)]
      obtain ⟨c3, f3⟩ := iown_cell ho.out hs2
      have n1 := iown_put (j := k) ho.out (.int .i64 x)
      rw [ints_step xs k x hx] at n1
      have N1 := Lib.hid n1
      have n2 := hb.setCell (p := ⟨w.heap.size, k, Option.none⟩) (Nat.le_refl _) (.int .i64 x)
      clear ho hs2 n1 hx
      go_wp2
      go_roundw
      case rel => exact ⟨k + 1, by omega, by go_num, N1.out, n2⟩
      case measure => simp [RowKit.intOf]; omega
    · have ho2 := ho.out
      rw [List.take_of_length_le (by omega), show xs.length - k = 0 by omega, List.replicate_zero, List.append_nil] at ho2
      have HO := Lib.hid ho2
      clear ho2 ho
      go_wp2
      go_ret
      exact ⟨_, rfl, IV.of rfl HO.out, hb⟩
theorem madeS (n : Nat) : (madeCells #[Value.slice Option.none 0 0] n).toList = List.replicate n (.slice Option.none 0 0) := by
  apply List.ext_getElem?
  intro i
  by_cases h : i < n
  · simp [madeCells, h, List.getElem?_replicate, Nat.mod_one]
  · simp [madeCells, h, List.getElem?_replicate, Nat.mod_one]
/-- The first of them are copied. -/
structure Cpd (w w' : World) (A : List (List Int)) (us : List Value) (k : Nat) : Prop where
  len : us.length = k
  own : w'.ownsRow w.heap.size 27 1 (.slice (some ⟨w.heap.size, 0, Option.none⟩) A.length A.length) A.length (us ++ List.replicate (A.length - k) (.slice Option.none 0 0))
  rows : ∀ (i : Nat) u xs, us[i]? = some u → A[i]? = some xs → IV w' (w.heap.size + 1) u xs
  low : Below w.heap.size w w'
  size : w.heap.size < w'.heap.size
theorem Cpd.next {w w' w2 : World} {A : List (List Int)} {us : List Value} {k : Nat} {x : List Int} {u : Value} (h : Cpd w w' A us k) (hx : A[k]? = some x) (hu : IV w2 w'.heap.size u x) (hb : Below w'.heap.size w' w2) : Cpd w (w2.setCell ⟨w.heap.size, k, Option.none⟩ u) A (us ++ [u]) (k + 1) := by
  have hk : k < A.length := (List.getElem?_eq_some_iff.1 hx).1
  obtain ⟨q, hq⟩ : ∃ q, A.length - k = q + 1 := ⟨A.length - k - 1, by omega⟩
  have n1 := iown_put (j := k) (ownB h.own hb) u
  have e : (us ++ List.replicate (A.length - k) (Value.slice Option.none 0 0)).set k u = us ++ [u] ++ List.replicate (A.length - (k + 1)) (Value.slice Option.none 0 0) := by
    rw [hq, show A.length - (k + 1) = q by omega, List.replicate_succ, List.set_append_right _ _ (by rw [h.len]; exact Nat.le_refl _), h.len, Nat.sub_self, List.set_cons_zero, List.append_assoc]
    rfl
  rw [e] at n1
  refine ⟨by simp [h.len], n1, fun i z xs hz hxs => ?_, (h.low.trans (hb.mono h.low.size)).setCell (p := ⟨w.heap.size, k, Option.none⟩) (Nat.le_refl _) _, by rw [World.size_setCell]; exact Nat.lt_of_lt_of_le h.size hb.size⟩
  have hK : Keeps (w.heap.size + 1) w2 (w2.setCell ⟨w.heap.size, k, Option.none⟩ u) := Keeps.set _ _ (by simp) _
  rcases Nat.lt_or_ge i us.length with hi | hi
  · rw [List.getElem?_append_left hi] at hz
    exact ((h.rows i z xs hz hxs).later hb).same (Nat.le_refl _) hK (by simp)
  · rw [List.getElem?_append_right hi] at hz
    have hi2 : i = k := by have := (List.getElem?_eq_some_iff.1 hz).1; simp at this; have := h.len; omega
    subst hi2
    rw [h.len, Nat.sub_self] at hz
    simp at hz
    subst hz
    rw [hx] at hxs
    injection hxs with hxs
    subst hxs
    exact hu.same h.size (fun a v hl hc => hK a v (Nat.le_trans h.size hl) hc) (by simp)
set_option maxHeartbeats 2000000 in
set_option maxRecDepth 100000 in
theorem toIntSS_is (A : List (List Int)) (hn : A.length ≤ 1048576) (hin : ∀ xs ∈ A, xs.length ≤ 1048576) (v : Value) (w : World) (hv : IIV w 0 v A) :
    Calls Tryz.prog 35 #[v] w fun e w' => ∃ v', e = .returned v' ∧ IIV w' w.heap.size v' A ∧ Below w.heap.size w w' := by
  have HV := Lib.hid hv
  have HI := Lib.hid hin
  obtain ⟨ao, cap, rfl⟩ := hv.shape
  obtain ⟨i0, hi, hz0, hz1, hz2⟩ := info_parts infoIS8
  clear hv hin
  go_enter Tryz.func35, Tryz.ntmps35
  go_wp2_with (refine wpList_make_full _ rfl _ _ 26 rfl w.heap.size 27 i0 _ 1 Tryz.underlying26 hi hz0 hz1 .i64 .i64 _ _ A.length rfl rfl rfl rfl ?c1 ?c2 ?c3 ?_)
  case c1 => first | omega | (rw [hz2]; omega)
  case c2 => unfold maxLen; omega
  try (case c3 => exact Nat.le_refl _)
  intro w1 hown hgrow
  rw [madeS] at hown
  have hbw : Below w.heap.size w w1 := (Below.refl _ w).grown hgrow (Nat.le_refl _) (fun k hk => by cases hk)
  have HC : Hid (Cpd w w1 A [] 0) := ⟨rfl, by simpa using hown, fun i u xs h => by simp at h, hbw, by obtain ⟨cur, hcur, _⟩ := own_block hown; exact lt_heap hcur⟩
  clear hown hgrow hbw hi hz0 hz1 hz2
  go_wp2
  go_loopw [4] (fun i wr => ∃ k : Nat, k ≤ A.length ∧ i = .int .i64 k ∧ Hid (∃ us, Cpd w wr A us k)) (fun i _ => A.length - (RowKit.intOf i).toNat)
  case atStart => exact ⟨0, by omega, rfl, ⟨[], HC.out⟩⟩
  case round =>
    obtain ⟨k, hk, rfl, ho⟩ := hrel
    obtain ⟨us, hc⟩ := ho.out
    clear HC
    by_cases hlt : k < A.length
    · have hltI : (k : Int) < (A.length : Int) := by omega
      obtain ⟨x, hx⟩ : ∃ x, A[k]? = some x := ⟨A[k], List.getElem?_eq_getElem hlt⟩
      obtain ⟨g, off, u, rfl, A0, hu⟩ := (HV.out.later hc.low).at hx
      have hxl := HI.out x (List.mem_of_getElem? hx)
      have UA := Lib.hid hu
      obtain ⟨pa, qa, rfl⟩ := hu.shape
      have C1 := Lib.hid hc
      have HX := Lib.hid hx
      clear hu ho hc hx
      go_wp2_with fail
      refine (toIntS_is x hxl _ _ UA.out).mono ?_
      rintro e w2 ⟨u2, rfl, hu2, hb2⟩
      have C2 := Lib.hid (C1.out.next HX.out hu2 hb2)
      have hs2 : (us ++ List.replicate (A.length - k) (Value.slice Option.none 0 0))[k]? = some (.slice Option.none 0 0) := by
        rw [List.getElem?_append_right (by rw [C1.out.len]; exact Nat.le_refl _), C1.out.len, List.getElem?_replicate, if_pos (by omega)]
      obtain ⟨c3, f3⟩ := iown_cell (ownB C1.out.own hb2) hs2
      obtain ⟨pb, qb, rfl⟩ := hu2.shape
      clear hu2 hb2 hs2 C1 UA A0
      go_wp2
      go_roundw
      case rel => exact ⟨k + 1, by omega, by go_num, ⟨_, C2.out⟩⟩
      case measure => simp [RowKit.intOf]; omega
    · have hw := hc.own
      rw [show A.length - k = 0 by omega, List.replicate_zero, List.append_nil] at hw
      have C1 := Lib.hid hc
      have HW := Lib.hid hw
      have hkA : k = A.length := by omega
      clear hw hc ho
      go_wp2
      go_ret
      refine ⟨_, rfl, ?_, C1.out.low⟩
      refine ⟨_, A.length, rfl, .inr ⟨w.heap.size, 0, rfl, Nat.le_refl _, C1.out.size, fun i xs hi => ?_⟩⟩
      have hil : i < us.length := by have h1 := (List.getElem?_eq_some_iff.1 hi).1; have h2 := C1.out.len; omega
      have hui : us[i]? = some us[i] := List.getElem?_eq_getElem hil
      exact ⟨us[i], by rw [Nat.zero_add]; exact own_cell HW.out hui, (C1.out.rows i _ xs hui hi).lower (by omega)⟩
/-- Three boxes of four cells. -/
structure B3 (w w' : World) (N : Nat) (x0 x1 x2 x3 y0 y1 y2 y3 z0 z1 z2 z3 : Value) (t u : TypeId) : Prop where
  p : w'.heap[N]? = some (.cells #[x0, x1, x2, x3] t (0, 0))
  q : w'.heap[N + 1]? = some (.cells #[y0, y1, y2, y3] u (0, 0))
  r : w'.heap[N + 2]? = some (.cells #[z0, z1, z2, z3] u (0, 0))
  b : Below w.heap.size w w'
  n : N = w.heap.size
theorem heap3b (w : World) (a b c : Obj) : (((w.alloc a).alloc b).alloc c).heap[w.heap.size]? = some a ∧ (((w.alloc a).alloc b).alloc c).heap[w.heap.size + 1]? = some b ∧ (((w.alloc a).alloc b).alloc c).heap[w.heap.size + 2]? = some c := heap3 w a b c
theorem B3.start (w : World) (x0 x1 x2 x3 y0 y1 y2 y3 z0 z1 z2 z3 : Value) (t u : TypeId) : B3 w (((w.alloc (.cells #[x0, x1, x2, x3] t)).alloc (.cells #[y0, y1, y2, y3] u)).alloc (.cells #[z0, z1, z2, z3] u)) w.heap.size x0 x1 x2 x3 y0 y1 y2 y3 z0 z1 z2 z3 t u := by
  obtain ⟨h1, h2, h3⟩ := heap3b w (.cells #[x0, x1, x2, x3] t) (.cells #[y0, y1, y2, y3] u) (.cells #[z0, z1, z2, z3] u)
  exact ⟨h1, h2, h3, ((alloc_below w _).alloc (by simp) _).alloc (by simp; omega) _, rfl⟩
theorem B3.later {w w1 w2 : World} {N : Nat} {x0 x1 x2 x3 y0 y1 y2 y3 z0 z1 z2 z3 : Value} {t u : TypeId} (h : B3 w w1 N x0 x1 x2 x3 y0 y1 y2 y3 z0 z1 z2 z3 t u) (hb : Below w1.heap.size w1 w2) : B3 w w2 N x0 x1 x2 x3 y0 y1 y2 y3 z0 z1 z2 z3 t u :=
  ⟨(hb.block _ (lt_heap h.p)).trans h.p, (hb.block _ (lt_heap h.q)).trans h.q, (hb.block _ (lt_heap h.r)).trans h.r, h.b.trans (hb.mono h.b.size), h.n⟩
theorem B3.set {w w1 : World} {N : Nat} {x0 x1 x2 x3 y0 y1 y2 y3 z0 z1 z2 z3 : Value} {t u : TypeId} (h : B3 w w1 N x0 x1 x2 x3 y0 y1 y2 y3 z0 z1 z2 z3 t u) (v : Value) :
    B3 w (w1.setCell ⟨N + 2, 0, Option.none⟩ v) N x0 x1 x2 x3 y0 y1 y2 y3 v z1 z2 z3 t u ∧ B3 w (w1.setCell ⟨N + 2, 1, Option.none⟩ v) N x0 x1 x2 x3 y0 y1 y2 y3 z0 v z2 z3 t u ∧ B3 w (w1.setCell ⟨N + 2, 2, Option.none⟩ v) N x0 x1 x2 x3 y0 y1 y2 y3 z0 z1 v z3 t u ∧ B3 w (w1.setCell ⟨N + 2, 3, Option.none⟩ v) N x0 x1 x2 x3 y0 y1 y2 y3 z0 z1 z2 v t u := by
  have e1 : ∀ o, (w1.setCell ⟨N + 2, o, Option.none⟩ v).heap[N]? = w1.heap[N]? := fun o => Below.heap_setCell _ _ _ _ (by simp)
  have e2 : ∀ o, (w1.setCell ⟨N + 2, o, Option.none⟩ v).heap[N + 1]? = w1.heap[N + 1]? := fun o => Below.heap_setCell _ _ _ _ (by simp)
  have e3 : ∀ o, Below w.heap.size w (w1.setCell ⟨N + 2, o, Option.none⟩ v) := fun o => h.b.setCell (p := ⟨N + 2, o, Option.none⟩) (by have := h.n; show w.heap.size ≤ N + 2; omega) _
  have e4 := fun o => Go.heap_setCell_same w1 (N + 2) o _ u v h.r
  exact ⟨⟨(e1 _).trans h.p, (e2 _).trans h.q, e4 0, e3 _, h.n⟩, ⟨(e1 _).trans h.p, (e2 _).trans h.q, e4 1, e3 _, h.n⟩, ⟨(e1 _).trans h.p, (e2 _).trans h.q, e4 2, e3 _, h.n⟩, ⟨(e1 _).trans h.p, (e2 _).trans h.q, e4 3, e3 _, h.n⟩⟩
theorem setSto4' {w2 W : World} {N : Nat} {x0 x1 x2 x3 y0 y1 y2 y3 : Value} {t : TypeId} (hN : w2.heap[N]? = some (.cells #[x0, x1, x2, x3] t (0, 0))) (hW : w2.setCells N 0 [y0, y1, y2, y3] = W) : W.heap[N]? = some (.cells #[y0, y1, y2, y3] t (0, 0)) := by
  subst hW
  have h1 := Go.heap_setCell_same _ _ 0 _ _ y0 hN
  have h2 := Go.heap_setCell_same _ _ 1 _ _ y1 h1
  have h3 := Go.heap_setCell_same _ _ 2 _ _ y2 h2
  have h4 := Go.heap_setCell_same _ _ 3 _ _ y3 h3
  exact h4
theorem keep2 (w : World) (N o : Nat) (v : Value) : Keeps (N + 3) w (w.setCell ⟨N + 2, o, Option.none⟩ v) := Keeps.set _ _ (by simp) _
set_option maxHeartbeats 1000000 in
set_option maxRecDepth 100000 in
theorem toSto_is (A : List (List Int)) (V O : List Int) (en : Int) (hl : A.length ≤ 1048576 ∧ (∀ xs ∈ A, xs.length ≤ 1048576) ∧ V.length ≤ 1048576 ∧ O.length ≤ 1048576) (va vv vo : Value) (w : World) (h : StoV w va vv vo A V O) :
    Calls Tryz.prog 11 #[.agg #[va, vv, vo, .int .i64 en]] w fun e w' => ∃ ua uv uo, e = .returned (.agg #[ua, uv, uo, .int .i64 en]) ∧ StoV w' ua uv uo A V O ∧ Below w.heap.size w w' := by
  have H := Lib.hid h
  have HL := Lib.hid hl
  obtain ⟨a1, c1, rfl⟩ := h.a.shape
  obtain ⟨a2, c2, rfl⟩ := h.v.shape
  obtain ⟨a3, c3, rfl⟩ := h.o.shape
  clear h hl
  have P := Lib.hid (B3.start w (.slice a1 A.length c1) (.slice a2 V.length c2) (.slice a3 O.length c3) (.int .i64 en) (.slice Option.none 0 0) (.slice Option.none 0 0) (.slice Option.none 0 0) (.int .i64 0) (.slice Option.none 0 0) (.slice Option.none 0 0) (.slice Option.none 0 0) (.int .i64 0) 29 45)
  go_enter Tryz.func11, Tryz.ntmps11
  go_wp2_with fail
  refine (toIntSS_is A HL.out.1 HL.out.2.1 _ _ (H.out.a.later P.out.b)).mono ?_
  rintro e w1 ⟨ua, rfl, hua, hb1⟩
  have P1 := Lib.hid (P.out.later hb1)
  have G1 : Hid (IIV w1 (w.heap.size + 3) ua A) := by have := hua; simp only [World.size_alloc] at this; exact this
  obtain ⟨x1, y1, rfl⟩ := hua.shape
  obtain ⟨_, f0, f1, f2, f3⟩ := blk4 P1.out.r
  obtain ⟨⟨k0, _⟩, _⟩ := blk4 P1.out.r
  have P1' := Lib.hid (P1.out.set (.slice x1 A.length y1)).1
  obtain ⟨⟨_, d1, _, _⟩, _⟩ := blk4 P1'.out.p
  have G1' : Hid (IIV (w1.setCell ⟨w.heap.size + 2, 0, Option.none⟩ (.slice x1 A.length y1)) (w.heap.size + 3) (.slice x1 A.length y1) A) := G1.out.same (Nat.le_refl _) (keep2 _ _ _ _) (by simp)
  clear hua hb1 P P1 G1
  go_wp2_with fail
  refine (toIntS_is V HL.out.2.2.1 _ _ (H.out.v.later P1'.out.b)).mono ?_
  rintro e w2 ⟨uv, rfl, huv, hb2⟩
  have P2 := Lib.hid (P1'.out.later hb2)
  have s2 : w.heap.size + 3 ≤ w1.heap.size := by have := lt_heap P1'.out.r; rw [World.size_setCell] at this; omega
  have G2 := Lib.hid (And.intro (G1'.out.later hb2) (huv.lower (lo' := w.heap.size + 3) (by rw [World.size_setCell]; exact s2)))
  obtain ⟨x2, y2, rfl⟩ := huv.shape
  clear f0 f1 f2 f3 k0 d1
  obtain ⟨_, f0, f1, f2, f3⟩ := blk4 P2.out.r
  obtain ⟨⟨_, k1, _, _⟩, _⟩ := blk4 P2.out.r
  have P2' := Lib.hid (P2.out.set (.slice x2 V.length y2)).2.1
  obtain ⟨⟨_, _, d2, _⟩, _⟩ := blk4 P2'.out.p
  have G2' : Hid (IIV (w2.setCell ⟨w.heap.size + 2, 1, Option.none⟩ (.slice x2 V.length y2)) (w.heap.size + 3) (.slice x1 A.length y1) A ∧ IV (w2.setCell ⟨w.heap.size + 2, 1, Option.none⟩ (.slice x2 V.length y2)) (w.heap.size + 3) (.slice x2 V.length y2) V) := ⟨G2.out.1.same (Nat.le_refl _) (keep2 _ _ _ _) (by simp), G2.out.2.same (Nat.le_refl _) (keep2 _ _ _ _) (by simp)⟩
  clear huv hb2 P1' P2 G2 G1' s2
  go_wp2_with fail
  refine (toIntS_is O HL.out.2.2.2 _ _ (H.out.o.later P2'.out.b)).mono ?_
  rintro e w3 ⟨uo, rfl, huo, hb3⟩
  have P3 := Lib.hid (P2'.out.later hb3)
  have s3 : w.heap.size + 3 ≤ w2.heap.size := by have := lt_heap P2'.out.r; rw [World.size_setCell] at this; omega
  have G3 := Lib.hid (And.intro (G2'.out.1.later hb3) (And.intro (G2'.out.2.later hb3) (huo.lower (lo' := w.heap.size + 3) (by rw [World.size_setCell]; exact s3))))
  obtain ⟨x3, y3, rfl⟩ := huo.shape
  clear f0 f1 f2 f3 k1 d2
  obtain ⟨_, f0, f1, f2, f3⟩ := blk4 P3.out.r
  obtain ⟨⟨_, _, k2, k3⟩, _⟩ := blk4 P3.out.r
  have P3' := Lib.hid (P3.out.set (.slice x3 O.length y3)).2.2.1
  have P4 := Lib.hid (P3'.out.set (.int .i64 en)).2.2.2
  obtain ⟨⟨_, _, _, d3⟩, _⟩ := blk4 P3'.out.p
  obtain ⟨⟨_, _, _, j3⟩, _, _, _, i3⟩ := blk4 P3'.out.r
  have TQ : Hid (((w3.setCell ⟨w.heap.size + 2, 2, Option.none⟩ (.slice x3 O.length y3)).setCell ⟨w.heap.size + 2, 3, Option.none⟩ (.int .i64 en)).there (w.heap.size + 1) 0 4) := blk_there P4.out.q (Nat.le_refl 4)
  have RG : Hid (((w3.setCell ⟨w.heap.size + 2, 2, Option.none⟩ (.slice x3 O.length y3)).setCell ⟨w.heap.size + 2, 3, Option.none⟩ (.int .i64 en)).rangeAt (w.heap.size + 2) 0 [.slice x1 A.length y1, .slice x2 V.length y2, .slice x3 O.length y3, .int .i64 en]) := blk_range P4.out.r
  clear huo hb3 P2' P3 G2' s3 P3'
  go_wp2_with (first | (refine wpList_load_mid rfl 45 _ rfl (w.heap.size + 2) 0 rfl _ _ RG.out Tryz.underlying45 rfl sizeSto ?_) | (refine store_abs rfl 45 _ _ rfl (w.heap.size + 1) 0 #[.slice x1 A.length y1, .slice x2 V.length y2, .slice x3 O.length y3, .int .i64 en] rfl rfl TQ.out sizeSto (one4 rfl rfl rfl rfl) ?_; intro W hW))
  have HQ := setSto4' P4.out.q hW
  have KK : Keeps (w.heap.size + 3) w3 W := by
    rw [← hW]
    exact ((keep2 _ _ _ _).trans (keep2 _ _ _ _)).trans (Keeps.sets _ (by omega) _ _)
  have hz : w3.heap.size ≤ W.heap.size := by rw [← hW, size_sets]; simp
  have hB : Below w.heap.size w W := by
    rw [← hW]; exact below_sets _ _ P4.out.b (by omega)
  have hlv := run_loadVar_mid W (w.heap.size + 1) 0 _ _ _ (blk_range HQ) Tryz.underlying45 rfl sizeSto
  refine bodyPost_ret (v := .agg #[.slice x1 A.length y1, .slice x2 V.length y2, .slice x3 O.length y3, .int .i64 en]) ?_ rfl ⟨_, _, _, rfl, ⟨G3.out.1.same (Nat.zero_le _) KK hz, G3.out.2.1.same (Nat.zero_le _) KK hz, G3.out.2.2.same (Nat.zero_le _) KK hz⟩, hB⟩
  simp [results, Tryz.results11, asAddr, hlv, Act.put]
  try rfl
end Go.Proofs.YtcafpaahbbachabGreat
/-
  Rows of binds: their sizes, copies, and whether they are the same; rows that came in, opened.
-/
namespace Go.Proofs.YtcafpaahbbachabGreat
open Go.RowKit Go.Lib
set_option linter.unusedSimpArgs false
set_option linter.unusedVariables false

set_option maxHeartbeats 1000000 in
theorem szBind_is (t : AR) (ht : t.s.size ≤ 9223372036854775807) (left : Int) (h0 : 0 ≤ left) (h1 : left ≤ 1048576) (w : World) :
    Calls Tryz.prog 28 #[.agg #[.string t.s, .int .i64 t.n], .int .i64 left] w (Sz t.s.size left w) := by
  have hsI : (t.s.size : Int) ≤ 9223372036854775807 := by omega
  by_cases h : left < (t.s.size : Int)
  · have h' : left - (t.s.size : Int) < 0 := by omega
    go_enter Tryz.func28, Tryz.ntmps28
    go_wp2
    all_goals first
      | omega
      | (go_ret; exact Sz.less h (alloc_below _ _))
  · have h' : ¬ left - (t.s.size : Int) < 0 := by omega
    go_enter Tryz.func28, Tryz.ntmps28
    go_wp2
    all_goals first
      | omega
      | (go_ret; exact Sz.more (by omega) rfl (alloc_below _ _))
set_option maxHeartbeats 2000000 in
theorem szBindS_is (ts : List AR) (hts : ∀ t ∈ ts, t.s.size ≤ 9223372036854775807) (hM : ts.length ≤ 9223372036854775807) (v : Value) (w : World) (hr : AV w 0 v ts) (left : Int) (h0 : 0 ≤ left) (h1 : left ≤ 1048576) :
    Calls Tryz.prog 7 #[v, .int .i64 left] w (Sz (asize ts) left w) := by
  obtain ⟨ao, cap, rfl, hr⟩ := hr
  have Hts := Lib.hid hts
  clear hts
  obtain ⟨L0, rfl⟩ : ∃ L0 : Nat, left = (L0 : Int) := ⟨left.toNat, by omega⟩
  have HZ : Hid (asize ts = ts.length + abytes ts) := show asize ts = ts.length + abytes ts from rfl
  have hMI : (ts.length : Int) ≤ 9223372036854775807 := by omega
  by_cases hbig : (L0 : Int) < (ts.length : Int)
  · have hb' : (L0 : Int) - (ts.length : Int) < 0 := by omega
    go_enter Tryz.func7, Tryz.ntmps7
    go_wp2
    all_goals first
      | omega
      | (go_ret; exact Sz.less (by rw [HZ.out]; omega) (Below.refl _ _))
  · have hb' : ¬ (L0 : Int) - (ts.length : Int) < 0 := by omega
    go_enter Tryz.func7, Tryz.ntmps7
    go_wp2
    go_loopw [1, 5] (fun x i wr => ∃ k left : Nat, k ≤ ts.length ∧ i = .int .i64 k ∧ x = .int .i64 (left : Int) ∧ Hid (left + ts.length + abytes (ts.take k) = L0) ∧ Below w.heap.size w wr) (fun _ i _ => ts.length - (RowKit.intOf i).toNat)
    case atStart => exact ⟨0, L0 - ts.length, by omega, rfl, val_intA (by omega), (by show L0 - ts.length + ts.length + 0 = L0; omega), Below.refl _ _⟩
    case round =>
      obtain ⟨k, left, hk, rfl, rfl, hl, hbw⟩ := hrel
      have hlb := hl.out
      by_cases hlt : k < ts.length
      · have hltI : (k : Int) < (ts.length : Int) := by omega
        obtain ⟨t, ht⟩ : ∃ t, ts[k]? = some t := ⟨ts[k], List.getElem?_eq_getElem hlt⟩
        have htl := Hts.out t (List.mem_of_getElem? ht)
        rcases hr with hr | ⟨g, off, rfl, _, gl, hc⟩
        · subst hr; simp at hlt
        obtain ⟨a0, a1⟩ := hc k t ht
        have A0 := (hbw.cell (p := ⟨g, off + k * 2, Option.none⟩) gl).trans a0
        have A1 := (hbw.cell (p := ⟨g, off + k * 2 + 1, Option.none⟩) gl).trans a1
        have Htk : Hid (abytes (ts.take (k + 1)) = abytes (ts.take k) + t.s.size ∧ abytes (ts.take (k + 1)) ≤ abytes ts) := ⟨by rw [take_snocA ht, abytes_snoc], abytes_take _ _⟩
        have hl0 : (0 : Int) ≤ (left : Int) := by omega
        have hl1 : (left : Int) ≤ 1048576 := by omega
        clear a0 a1 hc ht
        by_cases hd : (left : Int) < (t.s.size : Int)
        · go_wp2_with fail
          refine (szBind_is t htl (left : Int) hl0 hl1 _).mono ?_
          rintro e w1 ⟨rfl, hb1⟩
          rw [if_pos hd]
          have hbw1 := hbw.trans (hb1.mono hbw.size)
          clear hb1 hbw A0 A1
          go_wp2
          go_ret
          exact Sz.less (by have := Htk.out; rw [HZ.out]; omega) hbw1
        · go_wp2_with fail
          refine (szBind_is t htl (left : Int) hl0 hl1 _).mono ?_
          rintro e w1 ⟨rfl, hb1⟩
          rw [if_neg (by omega)]
          have hbw1 := hbw.trans (hb1.mono hbw.size)
          have hnn : ¬ (left : Int) - (t.s.size : Int) < 0 := by omega
          clear hb1 hbw A0 A1
          go_wp2
          all_goals first
            | omega
            | (go_roundw
               case rel => exact ⟨k + 1, left - t.s.size, by omega, by go_num, val_intA (by omega), (by have h1 := hl.out; have h2 := Htk.out; show left - t.s.size + ts.length + abytes (ts.take (k + 1)) = L0; omega), hbw1⟩
               case measure => simp [RowKit.intOf]; omega)
      · have hkk : ts.take k = ts := List.take_of_length_le (by omega)
        rw [hkk] at hlb
        go_wp2
        go_ret
        exact Sz.more (by rw [HZ.out]; omega) (by rw [HZ.out]; omega) hbw
set_option maxHeartbeats 1000000 in
theorem toBind_is (t : AR) (w : World) :
    Calls Tryz.prog 37 #[.agg #[.string t.s, .int .i64 t.n]] w fun e w' => e = .returned (.agg #[.string t.s, .int .i64 t.n]) ∧ Below w.heap.size w w' := by
  go_enter Tryz.func37, Tryz.ntmps37
  go_wp2
  exact bodyPost_ret (v := .agg #[.string t.s, .int .i64 t.n]) (by simp [results, Tryz.results37, go_sem]) rfl ⟨rfl, (((Below.refl _ w).alloc (Nat.le_refl _) _).alloc (by simp) _).alloc (by simp; omega) _⟩
theorem infoIB : (Tryz.prog.info? 81).map (fun i => (i.zero, i.size, i.bytes)) = some (some (.agg #[.string ⟨#[]⟩, .int .i64 0]), 2, 24) := by kernel_rfl
theorem sizeIB : (Tryz.prog.info? 81).map (·.size) = some 2 := by kernel_rfl
set_option maxHeartbeats 2000000 in
theorem toBindS_is (ts : List AR) (hn : ts.length ≤ 1048576) (v : Value) (w : World) (hr : AV w 0 v ts) :
    Calls Tryz.prog 12 #[v] w fun e w' => ∃ v', e = .returned v' ∧ AV w' w.heap.size v' ts ∧ Below w.heap.size w w' := by
  obtain ⟨ao, cap, rfl, hr⟩ := hr
  obtain ⟨i0, hi, hz0, hz1, hz2⟩ := info_parts infoIB
  go_enter Tryz.func12, Tryz.ntmps12
  go_wp2_with (refine wpList_make_full _ rfl _ _ 47 rfl w.heap.size 81 i0 _ 2 Tryz.underlying47 hi hz0 hz1 .i64 .i64 _ _ ts.length rfl rfl rfl rfl ?c1 ?c2 ?c3 ?_)
  case c1 => rw [hz2]; omega
  case c2 => unfold maxLen; omega
  case c3 => exact Nat.le_refl _
  intro w1 hown hgrow
  obtain ⟨cur, hcur, _, hcs, _⟩ := own_block hown
  have hbw : Below w.heap.size w w1 := (Below.refl _ w).grown hgrow (Nat.le_refl _) (fun k hk => by cases hk)
  have Hth : Hid (w1.there w.heap.size 0 (ts.length * 2)) := blk_there hcur (by omega)
  have hsz : w.heap.size < w1.heap.size := (Array.getElem?_eq_some_iff.1 hcur).1
  clear hown hgrow hcur hcs
  go_wp2
  go_loopw [4] (fun i wr => ∃ k : Nat, k ≤ ts.length ∧ i = .int .i64 k ∧ Hid (wr.there w.heap.size 0 (ts.length * 2) ∧ wr.rangeAt w.heap.size 0 (acells (ts.take k)) ∧ w.heap.size < wr.heap.size) ∧ Below w.heap.size w wr) (fun i _ => ts.length - (RowKit.intOf i).toNat)
  case atStart => exact ⟨0, by omega, rfl, ⟨Hth.out, (fun j v hv => by simp [acells] at hv), hsz⟩, hbw⟩
  case round =>
    obtain ⟨k, hk, rfl, hm, hb⟩ := hrel
    by_cases hlt : k < ts.length
    · have hltI : (k : Int) < (ts.length : Int) := by omega
      obtain ⟨t, ht⟩ : ∃ t, ts[k]? = some t := ⟨ts[k], List.getElem?_eq_getElem hlt⟩
      rcases hr with hr | ⟨g, off, rfl, _, gl, hc⟩
      · subst hr; simp at hlt
      obtain ⟨a0, a1⟩ := hc k t ht
      have A0 := (hb.cell (p := ⟨g, off + k * 2, Option.none⟩) gl).trans a0
      have A1 := (hb.cell (p := ⟨g, off + k * 2 + 1, Option.none⟩) gl).trans a1
      have htl : Hid ((acells (ts.take k)).length = k * 2) := show (acells (ts.take k)).length = k * 2 by rw [acells_len, List.length_take]; omega
      have Htk : Hid (acells (ts.take (k + 1)) = acells (ts.take k) ++ [.string t.s, .int .i64 t.n]) := show acells (ts.take (k + 1)) = _ by rw [take_snocA ht, acells_snoc]
      clear a0 a1 hc ht
      go_wp2_with fail
      refine (toBind_is t _).mono ?_
      rintro e w2 ⟨rfl, hb2⟩
      obtain ⟨t1, t2, t4⟩ := hm.out
      have t1' := there_later t1 hb2
      have hbw2 := hb.trans (hb2.mono hb.size)
      have ht4 : w2.there w.heap.size (k * 2) 2 := by have := there_part t1' (k * 2) 2 (by omega); rwa [Nat.zero_add] at this
      clear A0 A1
      go_wp2_with (refine wpList_store_mid rfl 81 _ _ rfl _ _ _ rfl rfl ?ht sizeIB (all2 _ _) ?_)
      case ht => exact ht4
      have n2 : (w2.setCells w.heap.size (k * 2) [.string t.s, .int .i64 t.n]).rangeAt w.heap.size 0 (acells (ts.take (k + 1))) := by
        rw [Htk.out]
        refine rangeAt_app (World.rangeAt_setCells_apart (rangeAt_later t2 hb2) w.heap.size (k * 2) [.string t.s, .int .i64 t.n] (.inr (.inl (by rw [htl.out]; omega)))) ?_
        rw [htl.out, Nat.zero_add]
        exact World.rangeAt_setCells_same _ _ _ _ ht4
      have n3 := World.there_setCells t1' w.heap.size (k * 2) [.string t.s, .int .i64 t.n]
      have n4 := below_sets [.string t.s, .int .i64 t.n] (k * 2) hbw2 (Nat.le_refl _)
      have n5 : w.heap.size < (w2.setCells w.heap.size (k * 2) [.string t.s, .int .i64 t.n]).heap.size := by rw [size_sets]; exact Nat.lt_of_lt_of_le t4 hb2.size
      have N := Lib.hid (And.intro n2 (And.intro n3 n5))
      clear t1 t2 t1' ht4 hb2 hbw2 n2 n3 n5 hm hb
      go_wp2
      go_roundw
      case rel => exact ⟨k + 1, by omega, by go_num, ⟨N.out.2.1, N.out.1, N.out.2.2⟩, n4⟩
      case measure => simp [RowKit.intOf]; omega
    · have hkk : ts.take k = ts := List.take_of_length_le (by omega)
      have hm2 := hm.out
      rw [hkk] at hm2
      have Hm := Lib.hid hm2
      clear hm2 hm
      go_wp2
      go_ret
      exact ⟨_, rfl, AV.laid Hm.out.2.2 Hm.out.2.1, hb⟩
set_option maxHeartbeats 1000000 in
theorem eqBind_same (k : Int) (s : ByteArray) (w : World) :
    Calls Tryz.prog 48 #[.agg #[.string s, .int .i64 k], .agg #[.string s, .int .i64 k]] w fun e w' => e = .returned (.bool true) ∧ Below w.heap.size w w' := by
  go_enter Tryz.func48, Tryz.ntmps48
  go_wp2
  go_ret
  exact ⟨rfl, ((Below.refl _ w).alloc (Nat.le_refl _) _).alloc (by simp) _⟩
set_option maxHeartbeats 2000000 in
theorem eqBindS_same (ts : List AR) (hlen : ts.length ≤ 100000000) (va vb : Value) (w : World) (ha : AV w 0 va ts) (hb : AV w 0 vb ts) :
    Calls Tryz.prog 17 #[va, vb] w fun e w' => e = .returned (.bool true) ∧ Below w.heap.size w w' := by
  obtain ⟨ao, ca, rfl, ha⟩ := ha
  obtain ⟨bo, cb, rfl, hb⟩ := hb
  go_enter Tryz.func17, Tryz.ntmps17
  go_wp2
  go_loopw [5] (fun i wr => ∃ k : Nat, k ≤ ts.length ∧ i = .int .i64 k ∧ Below w.heap.size w wr) (fun i _ => ts.length - (RowKit.intOf i).toNat)
  case atStart => exact ⟨0, by omega, rfl, Below.refl _ _⟩
  case round =>
    obtain ⟨k, hk, rfl, hbw⟩ := hrel
    by_cases hlt : k < ts.length
    · obtain ⟨t, ht⟩ : ∃ t, ts[k]? = some t := ⟨ts[k], List.getElem?_eq_getElem hlt⟩
      rcases ha with ha | ⟨ga, oa, rfl, _, gla, hca⟩
      · subst ha; simp at hlt
      rcases hb with hb | ⟨gb, ob, rfl, _, glb, hcb⟩
      · subst hb; simp at hlt
      obtain ⟨a0, a1⟩ := hca k t ht
      obtain ⟨b0, b1⟩ := hcb k t ht
      have A0 := (hbw.cell (p := ⟨ga, oa + k * 2, Option.none⟩) gla).trans a0
      have A1 := (hbw.cell (p := ⟨ga, oa + k * 2 + 1, Option.none⟩) gla).trans a1
      have B0 := (hbw.cell (p := ⟨gb, ob + k * 2, Option.none⟩) glb).trans b0
      have B1 := (hbw.cell (p := ⟨gb, ob + k * 2 + 1, Option.none⟩) glb).trans b1
      have hltI : (k : Int) < (ts.length : Int) := by omega
      clear a0 a1 b0 b1 hca hcb ht
      go_wp2_with fail
      go_cut [26] from 11 to 26 (fun v wx => v = .bool false ∧ Below wr.heap.size wr wx)
      case first =>
        go_region_with (go_at_call 48; refine (eqBind_same _ _ _).mono ?_; rintro e w1 ⟨rfl, hb1⟩)
        all_goals (try go_wp2_with fail)
        all_goals go_meet
        all_goals exact ⟨rfl, ⟨hb1.os, hb1.tape, hb1.output, hb1.size, hb1.block⟩⟩
      case rest =>
        obtain ⟨rfl, hb1⟩ := hcut
        have hbw2 := hbw.trans (hb1.mono hbw.size)
        clear A0 A1 B0 B1 hb1
        go_wp2
        go_roundw
        case rel => exact ⟨k + 1, by omega, by go_num, hbw2⟩
        case measure => simp [RowKit.intOf]; omega
    · go_wp2
      go_ret
      exact ⟨rfl, hbw⟩
end Go.Proofs.YtcafpaahbbachabGreat
namespace Go.Proofs.YtcafpaahbbachabGreat
open Go.ChangeShapes Go.WideShapes Go.ChangeAt Go.RowKit
theorem cB7 : Tryz.prog.cellsOf 68 = 2 := by kernel_rfl
section
variable {H : Type} {enc : TypeId × Value → H} {W : World} {sp : Nat → Bool} {held : Bool}
set_option maxRecDepth 100000 in
theorem open_bind {fuel : Nat} {cs : List Value} {y : DataW H × List MemPlace} (h : DataW.trod enc Tryz.prog W 0 sp held fuel 68 cs = some y) : ∃ t : AR, cs = [.string t.s, .int .i64 t.n] ∧ t.s.size ≤ 9223372036854775807 := by
  obtain ⟨xs, m, hm, _, hlen, hxl, hf⟩ := DataW.trod_struct Tryz.underlying68 h
  rw [cB7] at hlen
  match xs, hxl, cs, hlen with
  | [y0, y1], _, [v0, v1], _ =>
    have g0 := hf 0 _ rfl
    have g1 := hf 1 _ rfl
    simp [cI, cT] at g0 g1
    obtain ⟨s, e0, _, hs⟩ := DataW.trod_string Tryz.underlying9 g0
    obtain ⟨n, e1, _, _⟩ := DataW.trod_int Tryz.underlying3 g1
    injection e0 with e0; injection e1 with e1
    subst e0; subst e1
    exact ⟨⟨s, n⟩, rfl, by unfold maxLen at hs; show s.size ≤ _; omega⟩
theorem open_binds {fuel : Nat} {cs : List Value} {x : DataW H × List MemPlace} (h : DataW.trod enc Tryz.prog W 0 sp held fuel 30 cs = some x) : ∃ (v : Value) (ts : List AR), cs = [v] ∧ (∀ t ∈ ts, t.s.size ≤ 9223372036854775807) ∧ ts.length ≤ 9223372036854775807 ∧ AV W 0 v ts := by
  rcases DataW.trod_slice Tryz.underlying30 h with ⟨rfl, _⟩ | ⟨a, len, cap, elems, rest, n, hn, rfl, _, _, hl, hmx, hlen, hel, _, _⟩
  · exact ⟨_, [], rfl, fun _ h => by simp at h, by simp, _, _, rfl, .inl rfl⟩
  · rw [cB7] at hel
    have each : ∀ i, i < len → ∃ (cs' : List Value) (y : DataW H × List MemPlace), W.cells? 0 (a.add (i * 2)) 2 = some cs' ∧ DataW.trod enc Tryz.prog W 0 sp held n 68 cs' = some y := fun i hi => by
      have h1 := hel i hi
      rw [List.getElem?_eq_getElem (by omega), Option.bind_eq_some_iff] at h1
      obtain ⟨cs', h2, h3⟩ := h1
      exact ⟨cs', _, h2, h3⟩
    rcases Nat.eq_zero_or_pos len with h0 | h0
    · subst h0; exact ⟨_, [], rfl, fun _ h => by simp at h, by simp, _, _, rfl, .inl rfl⟩
    · have each2 : ∀ i, i < len → ∃ t : AR, t.s.size ≤ 9223372036854775807 ∧ ∀ j u, [Value.string t.s, .int .i64 t.n][j]? = some u → W.cell? ((a.add (i * 2)).add j) = some u := fun i hi => by
        obtain ⟨cs', y, h1, h2⟩ := each i hi
        obtain ⟨_, hc, hcell⟩ := World.cells?_some h1
        obtain ⟨t, rfl, k1⟩ := open_bind h2
        refine ⟨t, k1, fun j u hj => ?_⟩
        have hj4 : j < 2 := by have := (List.getElem?_eq_some_iff.1 hj).1; simpa using this
        rw [hcell j hj4]; exact hj
      obtain ⟨b, off, spot⟩ := a
      have hsp : spot = Option.none := by
        obtain ⟨x, _, hc⟩ := each2 0 h0
        have := World.cell?_spot (hc 0 _ rfl)
        simpa [Addr.add] using this
      subst hsp
      have e : ∀ i j, ((⟨b, off, Option.none⟩ : Addr).add i).add j = ⟨b, off + i + j, Option.none⟩ := fun i j => by rw [add_plain, add_plain]
      obtain ⟨R, r1, r2, r3⟩ := build_arrs (W := W) (b := b) (o := off) (len := len) (fun i hi => by
        obtain ⟨t, k1, hc⟩ := each2 i hi
        have c0 := hc 0 _ rfl; have c1 := hc 1 _ rfl
        rw [e] at c0 c1
        exact ⟨t, k1, c0, c1⟩) len (Nat.le_refl _)
      have hlt : b < W.heap.size := by
        obtain ⟨t, _, hc⟩ := each2 0 h0
        have := hc 0 _ rfl
        rw [e] at this
        exact lt_of_cellA this
      refine ⟨_, R, rfl, r2, by unfold maxLen at hmx; omega, _, cap, by rw [r1], .inr ⟨b, off, rfl, Nat.zero_le _, hlt, r3⟩⟩
end
end Go.Proofs.YtcafpaahbbachabGreat
/-
  What names stand for: slices.Backward, lookup.with and what it hands back.
-/
namespace Go.Proofs.YtcafpaahbbachabGreat
open Go.RowKit Go.Lib Go.Shelf
set_option linter.unusedSimpArgs false
set_option linter.unusedVariables false

attribute [local go_sem] Oper.semAt_some

/-- What a name stands for: the last of its binds, else what is around. -/
def bindOf : List AR → ByteArray → Option Int
  | [], _ => none
  | b :: bs, s => if b.s = s then some b.n else bindOf bs s
def withN (bs : List AR) (nm : ByteArray → Int) (s : ByteArray) : Int := (bindOf bs.reverse s).getD (nm s)
/-- A function value that says what each name stands for, in every world that is as J says. -/
structure Lk (fv : Value) (J : World → Prop) (nm : ByteArray → Int) : Prop where
  is : ∃ (kf : Nat) (caps : Array Value), fv = .func (.func kf) #[] caps ∧ (∀ (args : Array Value) (w : World), (callFunc kf args).run Tryz.prog w = .ok (.enter kf args) w) ∧
    ∀ w, J w → ∀ s, Calls Tryz.prog kf (#[.string s] ++ caps) w fun e w' => e = .returned (.int .i64 (nm s)) ∧ Below w.heap.size w w'
  on : ∀ w w', J w → Below w.heap.size w w' → J w'
/-- What comes of binds from behind, and where each stood. -/
def bw (bs : List AR) (k : Nat) : List (Nat × AR) := (List.range k).map fun j => (bs.length - 1 - j, bs[bs.length - 1 - j]?.getD ⟨⟨#[]⟩, 0⟩)
theorem bw_succ (bs : List AR) (k : Nat) : bw bs (k + 1) = bw bs k ++ [(bs.length - 1 - k, bs[bs.length - 1 - k]?.getD ⟨⟨#[]⟩, 0⟩)] := by simp [bw, List.range_succ]
theorem bw_len (bs : List AR) (k : Nat) : (bw bs k).length = k := by simp [bw]
abbrev bencs (x : Nat × AR) : Array Value := #[.int .i64 (x.1 : Int), .agg #[.string x.2.s, .int .i64 x.2.n]]
set_option maxRecDepth 100000 in
set_option maxHeartbeats 2000000 in
theorem bw1_in (l Bs n₀ : Nat) (bs : List AR) (hlen : bs.length ≤ 100000000) (sv : Value) (J Jx : List (Nat × AR) → World → Prop)
    (hY : ∀ pre (x : Nat × AR) W, J pre W → pre.length < bs.length → YieldAt Fence.wide 1 Tryz.prog l #[.int .i64 (x.1 : Int), .agg #[.string x.2.s, .int .i64 x.2.n]] W fun e W' =>
      (e = .returned (.bool true) ∧ J (pre ++ [x]) W' ∧ Below n₀ W W') ∨ (e = .returned (.bool false) ∧ Jx (pre ++ [x]) W'))
    (W : World) (hBs : W.cell? ⟨Bs, 0, Option.none⟩ = some sv) (hBn : Bs < n₀) (hAV : AV W 0 sv bs) (hAn : ∀ k, sv.ownBlock = some k → bs ≠ [] → k < n₀) (h0 : J [] W) :
    CallsIn Fence.wide 2 Tryz.prog 121 #[.func (.yield l) #[] #[], .pointer (some ⟨Bs, 0, Option.none⟩)] W fun e W' => (∃ v, e = .returned v) ∧
      ((∃ ys, ys = bw bs bs.length ∧ J ys W') ∨ (∃ pre, (∃ k, k ≤ bs.length ∧ pre = bw bs k) ∧ Jx pre W')) := by
  obtain ⟨ao, cap, rfl, hr⟩ := hAV
  refine callsIn_of_wp Tryz.func121 rfl trivial ?_ rfl
  simp only [Tryz.ntmps121, List.size_toArray, List.length_cons, List.length_nil, Nat.reduceAdd, Nat.reduceSub, Array.replicate_succ, Array.replicate_zero, List.push_toArray, List.append_toArray, List.nil_append, List.cons_append]
  gi_wp2
  gi_loopw [3] (fun i wr => ∃ k : Nat, k ≤ bs.length ∧ i = .int .i64 ((bs.length : Int) - 1 - (k : Int)) ∧ J (bw bs k) wr ∧ Below n₀ W wr)
    (fun i _ => (RowKit.intOf i + 1).toNat)
  case atStart => exact ⟨0, Nat.zero_le _, by simp, h0, Below.refl _ _⟩
  case round =>
    obtain ⟨k, hk, rfl, hJs, hnx⟩ := hrel
    have hBs' := (hnx.cell (p := ⟨Bs, 0, Option.none⟩) hBn).trans hBs
    by_cases hlt : k < bs.length
    · obtain ⟨b, hb⟩ : ∃ b, bs[bs.length - 1 - k]? = some b := ⟨bs[bs.length - 1 - k], List.getElem?_eq_getElem (by omega)⟩
      rcases hr with hr | ⟨g, off, rfl, _, gl, hc⟩
      · subst hr; simp at hlt
      obtain ⟨m, hm⟩ : ∃ m : Nat, m = bs.length - 1 - k := ⟨_, rfl⟩
      have hmI : (bs.length : Int) - 1 - (k : Int) = (m : Int) := by omega
      have hmlt : (m : Int) < (bs.length : Int) := by omega
      have hm0 : ¬ ((m : Int) < 0) := by omega
      have hgn : g < n₀ := hAn g rfl (fun e => by subst e; simp at hlt)
      have hc0 : wr.cell? ⟨g, off + m * 2, Option.none⟩ = some (.string b.s) := by rw [hm]; exact (hnx.cell (p := ⟨g, off + (bs.length - 1 - k) * 2, Option.none⟩) hgn).trans (hc _ b hb).1
      have hc1 : wr.cell? ⟨g, off + m * 2 + 1, Option.none⟩ = some (.int .i64 b.n) := by rw [hm]; exact (hnx.cell (p := ⟨g, off + (bs.length - 1 - k) * 2 + 1, Option.none⟩) hgn).trans (hc _ b hb).2
      have HS : Hid (bw bs (k + 1) = bw bs k ++ [(m, b)]) := show bw bs (k + 1) = bw bs k ++ [(m, b)] by rw [bw_succ, hb, hm]; rfl
      obtain ⟨fn, tmps, assign, body, hy, hR⟩ := hY _ (m, b) wr hJs (by rw [bw_len]; exact hlt)
      dsimp only at hy
      rw [hmI]
      have HM := Lib.hid (And.intro hm hmI)
      clear hm hmI hc hb hJs
      gi_wp2
      refine hR.mono ?_
      rintro e W3 (⟨rfl, hJ3, hk3⟩ | ⟨rfl, hJx3⟩)
      · rw [← HS.out] at hJ3
        have HJ3 := Lib.hid hJ3
        clear hJ3
        gi_wp2
        go_roundw
        case rel => exact ⟨k + 1, by omega, val_intA (by have := HM.out.2; omega), HJ3.out, hnx.trans hk3⟩
        case measure => simp [RowKit.intOf]; try omega
      · rw [← HS.out] at hJx3
        have HJx3 := Lib.hid hJx3
        clear hJx3
        gi_wp2
        refine bodyPost_ret (results_none rfl _ _ _) rfl ?_
        exact ⟨⟨_, rfl⟩, .inr ⟨_, ⟨k + 1, by omega, rfl⟩, HJx3.out⟩⟩
    · obtain rfl : k = bs.length := by omega
      have h1 : (bs.length : Int) - 1 - (bs.length : Int) = -1 := by omega
      rw [h1]
      gi_wp2
      go_end0
      exact ⟨⟨_, rfl⟩, .inl ⟨_, rfl, hJs⟩⟩
set_option maxHeartbeats 1000000 in
theorem bw_in (n : Nat) (sv : Value) (hs : ∃ a len cap, sv = .slice a len cap) (w : World) :
    CallsIn Fence.wide n Tryz.prog 83 #[sv] w fun e w' => e = .returned (.func (.func 121) #[] #[.pointer (some ⟨w.heap.size, 0, Option.none⟩)]) ∧ w' = w.alloc (.cells #[sv] 47) := by
  obtain ⟨a, len, cap, rfl⟩ := hs
  refine callsIn_of_wp Tryz.func83 rfl trivial ?_ rfl
  simp only [Tryz.ntmps83, List.size_toArray, List.length_cons, List.length_nil, Nat.reduceAdd, Nat.reduceSub, Array.replicate_succ, Array.replicate_zero, List.push_toArray, List.append_toArray, List.nil_append, List.cons_append]
  gi_wp2
  go_ret
  exact ⟨rfl, rfl⟩
theorem bw_stops (Bs n₀ : Nat) (bs : List AR) (hlen : bs.length ≤ 100000000) (sv : Value) (w : World) (hn₀ : n₀ ≤ w.heap.size) (hBn : Bs < n₀) (hc : w.cell? ⟨Bs, 0, Option.none⟩ = some sv) (hAV : AV w 0 sv bs) (hAn : ∀ k, sv.ownBlock = some k → bs ≠ [] → k < n₀) :
    SeqStopsK Fence.wide 2 Tryz.prog 121 #[.pointer (some ⟨Bs, 0, Option.none⟩)] bencs (Below n₀) (fun ys => ys = bw bs bs.length) (fun pre => ∃ k, k ≤ bs.length ∧ pre = bw bs k) bs.length w := fun l J Jx W hW _ _ hY h0 =>
  bw1_in l Bs n₀ bs hlen sv J Jx hY W ((hW.cell (p := ⟨Bs, 0, Option.none⟩) (Nat.lt_of_lt_of_le hBn hn₀)).trans hc) hBn (hAV.later hW) hAn h0
/-- None of these is bound to the name. -/
def noneOf (s : ByteArray) (pre : List (Nat × AR)) : Prop := ∀ x ∈ pre, ¬ x.2.s = s
theorem bind_none (bs : List AR) (s : ByteArray) : ∀ k, k ≤ bs.length → noneOf s (bw bs k) → bindOf bs.reverse s = bindOf (bs.reverse.drop k) s
  | 0, _, _ => by simp
  | k + 1, hk, h => by
    rw [bw_succ] at h
    have ih := bind_none bs s k (by omega) (fun x hx => h x (List.mem_append_left _ hx))
    rw [ih]
    have hkr : k < bs.reverse.length := by simp; omega
    rw [List.drop_eq_getElem_cons hkr, bindOf]
    have h1 := h (bs.length - 1 - k, bs[bs.length - 1 - k]?.getD ⟨⟨#[]⟩, 0⟩) (List.mem_append_right _ (by simp))
    rw [List.getElem?_eq_getElem (l := bs) (i := bs.length - 1 - k) (by omega)] at h1
    have e : bs.reverse[k] = bs[bs.length - 1 - k] := by simp [List.getElem_reverse]
    rw [e]
    exact if_neg h1
theorem bind_all {bs : List AR} {s : ByteArray} (h : noneOf s (bw bs bs.length)) : bindOf bs.reverse s = none := by
  rw [bind_none bs s _ (Nat.le_refl _) h, List.drop_of_length_le (by simp)]; rfl
theorem bind_hit {bs : List AR} {s : ByteArray} {pre : List (Nat × AR)} {x : Nat × AR} {k : Nat} (hk : k ≤ bs.length) (e : pre ++ [x] = bw bs k) (h : noneOf s pre) (hx : x.2.s = s) : bindOf bs.reverse s = some x.2.n := by
  cases k with
  | zero => simp [bw] at e
  | succ k =>
    rw [bw_succ] at e
    obtain ⟨e1, e2⟩ := List.append_inj' e rfl
    subst e1
    rw [bind_none bs s k (by omega) h]
    have hkr : k < bs.reverse.length := by simp; omega
    rw [List.drop_eq_getElem_cons hkr, bindOf]
    have e3 : bs.reverse[k] = bs[bs.length - 1 - k] := by simp [List.getElem_reverse]
    simp only [List.cons.injEq, and_true] at e2
    rw [List.getElem?_eq_getElem (l := bs) (i := bs.length - 1 - k) (by omega)] at e2
    rw [e3, if_pos (by rw [e2] at hx; exact hx), e2]; rfl
theorem ownC {β : Type} {B N : Nat} {ar : Array Value} {t : TypeId} : OwnFrom B (fun (_ : β) W => W.heap[N]? = some (.cells ar t (0, 0))) := fun s W W' row hs hg hr =>
  (hg.block N (Array.getElem?_eq_some_iff.1 hs).1 (fun e => by obtain ⟨_, o, ho, hc⟩ := hr N e.symm; rw [hs] at ho; cases ho; simp [Obj.isCells] at hc)).trans hs
theorem newB2 (W : World) (x0 x1 y0 y1 : Value) (t : TypeId) : (((W.alloc (.cells #[x0, x1] t)).setCell ⟨W.heap.size, 0, Option.none⟩ y0).setCell ⟨W.heap.size, 1, Option.none⟩ y1).heap[W.heap.size]? = some (.cells #[y0, y1] t (0, 0)) := by
  have h0 : (W.alloc (.cells #[x0, x1] t)).heap[W.heap.size]? = some (.cells #[x0, x1] t (0, 0)) := by show (W.heap.push _)[W.heap.size]? = _; simp
  have h1 := Go.heap_setCell_same _ _ 0 _ _ y0 h0
  have h2 := Go.heap_setCell_same _ _ 1 _ _ y1 h1
  exact h2
theorem blkAlloc {W : World} {N : Nat} {o o' : Obj} (h : W.heap[N]? = some o) : (W.alloc o').heap[N]? = some o := (Below.heap_alloc W o' N (Array.getElem?_eq_some_iff.1 h).1).trans h
theorem blkSet {W : World} {N : Nat} {o : Obj} (p : Addr) (u : Value) (h : W.heap[N]? = some o) (hne : N ≠ p.block) : (W.setCell p u).heap[N]? = some o := (Below.heap_setCell W p u N hne).trans h
set_option maxRecDepth 100000 in
set_option maxHeartbeats 4000000 in
theorem with1_is (bs : List AR) (hlen : bs.length ≤ 100000000) (sv fv : Value) (J : World → Prop) (nm : ByteArray → Int) (hL : Lk fv J nm) (s : ByteArray) (pb po : Nat) (w : World) (hJ : J w) (hb : w.cell? ⟨pb, 0, Option.none⟩ = some sv) (ho : w.cell? ⟨po, 0, Option.none⟩ = some fv) (hAV : AV w 0 sv bs) :
    Calls Tryz.prog 82 #[.string s, .pointer (some ⟨pb, 0, Option.none⟩), .pointer (some ⟨po, 0, Option.none⟩)] w fun e w' => e = .returned (.int .i64 (withN bs nm s)) ∧ Below w.heap.size w w' := by
  obtain ⟨kf, caps, rfl, hent, hcall⟩ := hL.is
  have HC := Lib.hid hcall
  have HON := Lib.hid hL.on
  have HJ := Lib.hid hJ
  obtain ⟨ao, cap, hsv⟩ := hAV.shape
  refine (callsIn_wide (n := 3)).1 ?_
  refine callsIn_of_wp_marks Tryz.func82 rfl trivial ?_ rfl
  simp only [Tryz.ntmps82, List.size_toArray, List.length_cons, List.length_nil, Nat.reduceAdd, Nat.reduceSub, Array.replicate_succ, Array.replicate_zero, List.push_toArray, List.append_toArray, List.nil_append, List.cons_append]
  have HAV := Lib.hid hAV
  have HB := Lib.hid hb
  have HO := Lib.hid ho
  rw [hsv] at hb HAV HB
  have hb2 : ((w.alloc (.cells #[.string s] 9)).alloc (.cells #[.int .i64 0] 3)).cell? ⟨pb, 0, Option.none⟩ = some (.slice ao bs.length cap) := keeps ((alloc_below w _).alloc (by simp) _) hb
  have hsvn : ∀ k, (Value.slice ao bs.length cap).ownBlock = some k → bs ≠ [] → k < w.heap.size := fun k hk hne => by
    obtain ⟨ao', cap', e, h⟩ := HAV.out
    injection e with e
    subst e
    rcases h with h | ⟨g, off, e1, _, e3, _⟩
    · exact absurd h hne
    · rw [e1] at hk; injection hk with hk; rw [← hk]; exact e3
  clear hcall hL hJ hAV ho hsv hb
  gi_wp2_with (refine ⟨trivial, ?_⟩; gi_at_call 83; refine (bw_in _ _ ⟨_, _, _, rfl⟩ _).mono ?_; rintro e w' ⟨rfl, rfl⟩)
  have hB0 : Below w.heap.size w (((w.alloc (.cells #[.string s] 9)).alloc (.cells #[.int .i64 0] 3)).alloc (.cells #[.slice ao bs.length cap] 47)) := ((alloc_below w _).alloc (by simp) _).alloc (by simp; omega) _
  obtain ⟨d0, d1, d2⟩ := heap3 w (.cells #[.string s] 9) (.cells #[.int .i64 0] 3) (.cells #[.slice ao bs.length cap] 47)
  have hsz : (((w.alloc (.cells #[.string s] 9)).alloc (.cells #[.int .i64 0] 3)).alloc (.cells #[.slice ao bs.length cap] 47)).heap.size = w.heap.size + 3 := by simp
  obtain ⟨W0, hW0⟩ : ∃ W0, ((w.alloc (.cells #[.string s] 9)).alloc (.cells #[.int .i64 0] 3)).alloc (.cells #[.slice ao bs.length cap] 47) = W0 := ⟨_, rfl⟩
  rw [hW0] at hB0 d0 d1 d2 hsz ⊢
  clear hW0 hb2
  have hc2 : W0.cell? ⟨w.heap.size + 2, 0, Option.none⟩ = some (.slice ao bs.length cap) := by simp [World.cell?, d2]
  refine wpIn_rangeFunc_ownH rfl (by omega) (gf := 121) (lb := #[.pointer (some ⟨w.heap.size + 1 + 1, 0, Option.none⟩)]) rfl trivial (enters_of Tryz.func121 (by kernel_rfl) rfl)
    (bw_stops (w.heap.size + 1 + 1) (w.heap.size + 3) bs hlen (.slice ao bs.length cap) W0 (by omega) (by omega) hc2 (HAV.out.later hB0) (fun k hk hne => by have := hsvn k hk hne; omega)) belowK_t (belowK_b (by omega)) (Below.refl _ _) (fun _ => rfl)
    (fun pre W => noneOf s pre ∧ ((W.heap[w.heap.size]? = some (.cells #[.string s] 9 (0, 0)) ∧ (W.heap[w.heap.size + 1]? = some (.cells #[.int .i64 0] 3 (0, 0)) ∧ W.heap[w.heap.size + 2]? = some (.cells #[.slice ao bs.length cap] 47 (0, 0)))) ∧ Below w.heap.size w W))
    (fun c pre W => (c = .ret ∧ ∃ pre' x, pre = pre' ++ [x] ∧ noneOf s pre' ∧ x.2.s = s ∧ W.heap[w.heap.size + 1]? = some (.cells #[.int .i64 x.2.n] 3 (0, 0))) ∧ Below w.heap.size w W)
    (OwnFrom.and (ownFrom_pure _ _) (OwnFrom.and (OwnFrom.and ownC (OwnFrom.and ownC ownC)) (ownFrom_below (Nat.le_refl _) (by omega))))
    (fun c => OwnFrom.and (fun s' W W' row hs hg hr => by obtain ⟨e1, pre', x, e2, e3, e4, e5⟩ := hs; exact ⟨e1, pre', x, e2, e3, e4, ownC (β := Unit) () W W' row e5 hg hr⟩) (ownFrom_below (Nat.le_refl _) (by omega)))
    ⟨fun x hx => by simp at hx, ⟨d0, d1, d2⟩, hB0⟩
    (fun x a' W => ∃ Bx, w.heap.size + 2 < Bx ∧ W.heap[Bx]? = some (.cells #[.string x.2.s, .int .i64 x.2.n] 81 (0, 0)) ∧ a' = { tmps := #[.string s, .pointer (some ⟨pb, 0, Option.none⟩), .pointer (some ⟨po, 0, Option.none⟩), .pointer (some ⟨w.heap.size, 0, Option.none⟩), .pointer (some ⟨w.heap.size + 1, 0, Option.none⟩), undef, .pointer (some ⟨Bx, 0, Option.none⟩), .slice ao bs.length cap, .func (.func 121) #[] #[.pointer (some ⟨w.heap.size + 1 + 1, 0, Option.none⟩)], .int .i64 (x.1 : Int), .agg #[.string x.2.s, .int .i64 x.2.n], undef, undef, undef, undef, undef, undef, undef, undef, undef], defers := [] })
    (fun x a' _ X Y row hs hg hr => by obtain ⟨Bx, h1, h2, h3⟩ := hs; exact ⟨Bx, h1, ownC (β := Unit) () X Y row h2 hg hr, h3⟩)
    ?assign ?body ?done ?stop
  case assign =>
    rintro l pre x W K ⟨hn, ⟨e0, e1, e2⟩, hB1⟩ hK
    have hl2 := (Array.getElem?_eq_some_iff.1 e2).1
    gi_wp2
    exact hK _ _ ((KeepsOthers.alloc _ _).from _) ((Below.refl _ W).alloc (by omega) _) ⟨hn, ⟨blkAlloc e0, blkAlloc e1, blkAlloc e2⟩, hB1.alloc hB1.size _⟩ ⟨W.heap.size, hl2, (by show (W.heap.push _)[W.heap.size]? = _; simp), rfl⟩
  case body =>
    rintro l pre x a' W hl _ ⟨hn, ⟨e0, e1, e2⟩, hB1⟩ ⟨Bx, hBx, bX, rfl⟩ hlt
    obtain ⟨⟨q0, q1⟩, _⟩ := blk2 bX
    have c0 : W.cell? ⟨w.heap.size, 0, Option.none⟩ = some (.string s) := by simp [World.cell?, e0]
    have c1 : W.cell? ⟨w.heap.size + 1, 0, Option.none⟩ = some (.int .i64 0) := by simp [World.cell?, e1]
    have f1 : W.frozen? ⟨w.heap.size + 1, 0, Option.none⟩ = false := by simp [World.frozen?, e1]
    by_cases hx : x.2.s = s
    · have hN := Lib.hid (And.intro hn hx)
      have E1 := Lib.hid e1
      have HB1 := Lib.hid hB1
      rw [hx] at q0
      clear hn hx e0 e1 e2 hB1 bX
      gi_wp2
      refine ⟨(KeepsOthers.setCell _ _ _).from _, ⟨rfl, pre, x, rfl, hN.out.1, hN.out.2, ?_⟩, HB1.out.setCell (p := ⟨w.heap.size + 1, 0, Option.none⟩) (by simp) _⟩
      have := Go.heap_setCell_same W (w.heap.size + 1) 0 _ _ (.int .i64 x.2.n) E1.out
      rw [this]; rfl
    · have hN := Lib.hid (And.intro hn hx)
      have hxs := str_ne hx
      have E1 := Lib.hid (And.intro e0 (And.intro e1 e2))
      have HB1 := Lib.hid hB1
      clear hn hx e0 e1 e2 hB1 bX
      gi_wp2
      exact ⟨(KeepsOthers.refl _).from _, Below.refl _ _, ⟨(fun y hy => by
        rcases List.mem_append.1 hy with hy | hy
        · exact hN.out.1 y hy
        · simp at hy; subst hy; exact hN.out.2), E1.out, HB1.out⟩⟩
  case done =>
    rintro D zs W hD rfl ⟨hn, ⟨e0, e1, e2⟩, hB1⟩ hK
    have hval : Hid (withN bs nm s = nm s) := show withN bs nm s = nm s by rw [withN, bind_all hn]; rfl
    have c0 : W.cell? ⟨w.heap.size, 0, Option.none⟩ = some (.string s) := by simp [World.cell?, e0]
    have cO := keeps hB1 HO.out
    have JW := Lib.hid (HON.out _ _ HJ.out hB1)
    have E1 := Lib.hid e1
    have HB1 := Lib.hid hB1
    have HK := Lib.hid hK
    clear hn e0 e1 e2 hB1 hK
    gi_wp2_with fail
    refine ⟨trivial, (callsIn_wide.2 (HC.out W JW.out s)).mono ?_⟩
    rintro e w5 ⟨rfl, hb5⟩
    have E5 := (hb5.block _ (Array.getElem?_eq_some_iff.1 E1.out).1).trans E1.out
    have K5 := (hb5.block _ (Array.getElem?_eq_some_iff.1 HK.out).1).trans HK.out
    have B5 := Lib.hid (HB1.out.trans (hb5.mono HB1.out.size))
    have c1 : w5.cell? ⟨w.heap.size + 1, 0, Option.none⟩ = some (.int .i64 0) := by simp [World.cell?, E5]
    have f1 : w5.frozen? ⟨w.heap.size + 1, 0, Option.none⟩ = false := by simp [World.frozen?, E5]
    have HK5 := Lib.hid K5
    clear E5 K5 hb5 E1 HK HB1 c0 cO
    gi_wp2
    have hK' := (KeepsOthers.setCell w5 ⟨w.heap.size + 1, 0, Option.none⟩ (.int .i64 (nm s))).same D _ HK5.out rfl
    refine ⟨by simp, .inl ⟨_, _, rfl, run_takeDeferred hK', ?_⟩⟩
    have hc5 := cell_kept (World.cell?_setCell_same' w5 ⟨w.heap.size + 1, 0, Option.none⟩ (.int .i64 (nm s)) (by rw [c1]; rfl)) (grownBy_putObj' _ D (.deferred none)) (fun r e => by cases e; exact ⟨_, hK', rfl⟩)
    refine ⟨.int .i64 (nm s), ?_, ⟨by rw [hval.out], (B5.out.setCell (p := ⟨w.heap.size + 1, 0, Option.none⟩) (by simp) _).trans (belowK_b (w := w) (Nat.le_refl _) _ D _ _ (by omega) hK' rfl rfl)⟩⟩
    simp [results, Tryz.f82, go_sem, hc5]
  case stop =>
    rintro D c pre W hD hSp ⟨⟨rfl, pre', x, e2, e3, e4, e5⟩, hB1⟩ hK
    obtain ⟨k, hk, hpk⟩ := hSp
    have hval : withN bs nm s = x.2.n := by rw [withN, bind_hit hk (e2.symm.trans hpk) e3 e4]; rfl
    have c1 : W.cell? ⟨w.heap.size + 1, 0, Option.none⟩ = some (.int .i64 x.2.n) := by simp [World.cell?, e5]
    gi_wp2
    refine ⟨by simp, .inl ⟨_, _, rfl, run_takeDeferred hK, ?_⟩⟩
    have hc5 := cell_kept c1 (grownBy_putObj' _ D (.deferred none)) (fun r e => by cases e; exact ⟨_, hK, rfl⟩)
    refine ⟨.int .i64 x.2.n, ?_, ⟨by rw [hval], hB1.trans (belowK_b (w := w) (Nat.le_refl _) W D _ _ (by omega) hK rfl rfl)⟩⟩
    simp [results, Tryz.f82, go_sem, hc5]
theorem cell1 {W : World} {N : Nat} {v : Value} {t : TypeId} (h : W.heap[N]? = some (.cells #[v] t (0, 0))) : W.cell? ⟨N, 0, Option.none⟩ = some v := by simp [World.cell?, h]
theorem enters_with (args : Array Value) (w : World) : (callFunc 82 args).run Tryz.prog w = .ok (.enter 82 args) w := enters_of Tryz.func82 (by kernel_rfl) rfl args w
set_option maxHeartbeats 1000000 in
theorem with_is (bs : List AR) (hlen : bs.length ≤ 100000000) (sv fv : Value) (J : World → Prop) (nm : ByteArray → Int) (hL : Lk fv J nm) (w : World) (hJ : J w) (hAV : AV w 0 sv bs) :
    Calls Tryz.prog 43 #[fv, sv] w fun e w' => ∃ gv, e = .returned gv ∧ Below w.heap.size w w' ∧ ∃ pb po, Lk gv (fun W => J W ∧ AV W 0 sv bs ∧ W.cell? ⟨pb, 0, Option.none⟩ = some sv ∧ W.cell? ⟨po, 0, Option.none⟩ = some fv) (withN bs nm) ∧ w'.cell? ⟨pb, 0, Option.none⟩ = some sv ∧ w'.cell? ⟨po, 0, Option.none⟩ = some fv := by
  obtain ⟨kf, caps, rfl, hent, hcall⟩ := hL.is
  obtain ⟨ao, cap, rfl⟩ := hAV.shape
  have HL := Lib.hid hL
  have hB : Hid (Below w.heap.size w ((w.alloc (.cells #[.func (.func kf) #[] caps] 86)).alloc (.cells #[.slice ao bs.length cap] 47))) := (alloc_below w _).alloc (by simp) _
  have q0 : Hid (((w.alloc (.cells #[.func (.func kf) #[] caps] 86)).alloc (.cells #[.slice ao bs.length cap] 47)).cell? ⟨w.heap.size, 0, Option.none⟩ = some (.func (.func kf) #[] caps)) := by
    exact cell1 (t := 86) (by rw [Below.heap_alloc _ _ _ (by simp)]; exact heap_last _ _)
  have q1 : Hid (((w.alloc (.cells #[.func (.func kf) #[] caps] 86)).alloc (.cells #[.slice ao bs.length cap] 47)).cell? ⟨w.heap.size + 1, 0, Option.none⟩ = some (.slice ao bs.length cap)) := by
    have h := heap_last (w.alloc (.cells #[.func (.func kf) #[] caps] 86)) (.cells #[.slice ao bs.length cap] 47)
    rw [World.size_alloc] at h
    exact cell1 h
  clear hcall hent hAV hL
  go_enter Tryz.func43, Tryz.ntmps43
  go_wp2
  go_ret
  refine ⟨_, rfl, hB.out, w.heap.size + 1, w.heap.size, ⟨⟨82, #[.pointer (some ⟨w.heap.size + 1, 0, Option.none⟩), .pointer (some ⟨w.heap.size, 0, Option.none⟩)], rfl, enters_with, fun W ⟨h1, h2, h3, h4⟩ s => ?_⟩, fun W W' ⟨h1, h2, h3, h4⟩ hb => ⟨HL.out.on W W' h1 hb, h2.later hb, keeps hb h3, keeps hb h4⟩⟩, q1.out, q0.out⟩
  exact with1_is bs hlen _ _ J nm HL.out s (w.heap.size + 1) w.heap.size W h1 h3 h4 h2
end Go.Proofs.YtcafpaahbbachabGreat
/-
  Names in order (no Go): what l4Put makes of a row of names, and that rows in order with the same names are the same.
-/
namespace Go.Proofs.YtcafpaahbbachabGreat
open Go.RowKit Go.Lib Go.Maps
set_option linter.unusedSimpArgs false
set_option linter.unusedVariables false

/-- One name ahead of another, byte by byte. -/
def blt (a b : ByteArray) : Bool := Op.bytesLess a.toList b.toList
theorem blt_iff (a b : ByteArray) : blt a b = true ↔ a.data.toList < b.data.toList := by
  unfold blt; rw [bytesLess_eq, ByteArray.toList_eq, ByteArray.toList_eq]; simp
theorem blt_irrefl (a : ByteArray) : blt a a = false := by
  cases h : blt a a with
  | false => rfl
  | true => exact absurd ((blt_iff a a).1 h) (List.lt_irrefl _)
theorem blt_trans {a b c : ByteArray} (h : blt a b = true) (g : blt b c = true) : blt a c = true := (blt_iff a c).2 (List.lt_trans ((blt_iff a b).1 h) ((blt_iff b c).1 g))
theorem ba_ext {a b : ByteArray} (h : a.data.toList = b.data.toList) : a = b := ByteArray.ext (Array.toList_inj.1 h)
theorem blt_total {a b : ByteArray} (h : blt a b = false) (hne : a ≠ b) : blt b a = true := by
  rw [blt_iff]
  have h1 : ¬ a.data.toList < b.data.toList := fun hh => by rw [(blt_iff a b).2 hh] at h; cases h
  have h2 : b.data.toList ≤ a.data.toList := List.not_lt.1 h1
  rcases List.le_iff_lt_or_eq.1 h2 with h3 | h3
  · exact h3
  · exact absurd (ba_ext h3).symm hne
/-- In order, no two alike. -/
def Asc (l : List ByteArray) : Prop := l.Pairwise (fun a b => blt a b = true)
theorem Asc.nodup {l : List ByteArray} (h : Asc l) : l.Nodup := List.Pairwise.imp (fun {a b} hab e => by subst e; rw [blt_irrefl] at hab; cases hab) h
theorem asc_ext {l m : List ByteArray} (hl : Asc l) (hm : Asc m) (h : ∀ b, b ∈ l ↔ b ∈ m) : l = m :=
  List.Perm.eq_of_pairwise (le := fun a b => blt a b = true) (fun a b _ _ h1 h2 => by have := blt_trans h1 h2; rw [blt_irrefl] at this; cases this) hl hm ((List.perm_ext_iff_of_nodup hl.nodup hm.nodup).2 h)
/-- What l4Put makes of what is left of a row. -/
def putR (s : ByteArray) : Bool → List ByteArray → List ByteArray
  | d, [] => if d = true then [] else [s]
  | true, x :: r => if x = s then putR s true r else x :: putR s true r
  | false, x :: r => if blt x s = true then (if x = s then putR s false r else x :: putR s false r) else s :: (if x = s then putR s true r else x :: putR s true r)
theorem putR_true (s : ByteArray) : ∀ (l : List ByteArray) (b : ByteArray), b ∈ putR s true l ↔ b ∈ l ∧ b ≠ s
  | [], b => by simp [putR]
  | x :: r, b => by
    have ih := putR_true s r b
    rw [putR]
    by_cases hx : x = s
    · rw [if_pos hx, ih]
      constructor
      · rintro ⟨h1, h2⟩; exact ⟨List.mem_cons_of_mem _ h1, h2⟩
      · rintro ⟨h1, h2⟩
        rcases List.mem_cons.1 h1 with h1 | h1
        · exact absurd (h1.trans hx) h2
        · exact ⟨h1, h2⟩
    · rw [if_neg hx, List.mem_cons, ih, List.mem_cons]
      constructor
      · rintro (h | ⟨h1, h2⟩)
        · exact ⟨.inl h, by rw [h]; exact hx⟩
        · exact ⟨.inr h1, h2⟩
      · rintro ⟨h1 | h1, h2⟩
        · exact .inl h1
        · exact .inr ⟨h1, h2⟩
theorem asc_true (s : ByteArray) : ∀ (l : List ByteArray), Asc l → Asc (putR s true l)
  | [], _ => by simp [putR, Asc]
  | x :: r, h => by
    obtain ⟨h1, h2⟩ := List.pairwise_cons.1 h
    have ih := asc_true s r h2
    rw [putR]
    by_cases hx : x = s
    · rw [if_pos hx]; exact ih
    · rw [if_neg hx]; exact List.pairwise_cons.2 ⟨fun b hb => h1 b ((putR_true s r b).1 hb).1, ih⟩
theorem asc_put (s : ByteArray) : ∀ (l : List ByteArray), Asc l → Asc (putR s false l) ∧ ∀ b, b ∈ putR s false l ↔ (b = s ∨ b ∈ l)
  | [], _ => by simp [putR, Asc]
  | x :: r, h => by
    obtain ⟨h1, h2⟩ := List.pairwise_cons.1 h
    obtain ⟨i1, i2⟩ := asc_put s r h2
    rw [putR]
    cases hb : blt x s with
    | true =>
      have hx : ¬ x = s := fun e => by subst e; rw [blt_irrefl] at hb; cases hb
      rw [if_pos rfl, if_neg hx]
      refine ⟨List.pairwise_cons.2 ⟨fun b hbm => ?_, i1⟩, fun b => ?_⟩
      · rcases (i2 b).1 hbm with e | e
        · subst e; exact hb
        · exact h1 b e
      · rw [List.mem_cons, i2 b, List.mem_cons]
        constructor
        · rintro (e | e | e) <;> simp [e]
        · rintro (e | e | e) <;> simp [e]
    | false =>
      rw [if_neg (by simp)]
      by_cases hx : x = s
      · subst hx
        rw [if_pos rfl]
        refine ⟨List.pairwise_cons.2 ⟨fun b hbm => h1 b ((putR_true x r b).1 hbm).1, asc_true x r h2⟩, fun b => ?_⟩
        rw [List.mem_cons, putR_true, List.mem_cons]
        constructor
        · rintro (e | ⟨e, _⟩)
          · exact .inl e
          · exact .inr (.inr e)
        · rintro (e | e | e)
          · exact .inl e
          · exact .inl e
          · by_cases hbx : b = x
            · exact .inl hbx
            · exact .inr ⟨e, hbx⟩
      · have hsx := blt_total hb hx
        rw [if_neg hx]
        refine ⟨List.pairwise_cons.2 ⟨fun b hbm => ?_, List.pairwise_cons.2 ⟨fun b hbm => h1 b ((putR_true s r b).1 hbm).1, asc_true s r h2⟩⟩, fun b => ?_⟩
        · rcases List.mem_cons.1 hbm with e | e
          · rw [e]; exact hsx
          · exact blt_trans hsx (h1 b ((putR_true s r b).1 e).1)
        · rw [List.mem_cons, List.mem_cons, putR_true, List.mem_cons]
          constructor
          · rintro (e | e | ⟨e, _⟩)
            · exact .inl e
            · exact .inr (.inl e)
            · exact .inr (.inr e)
          · rintro (e | e | e)
            · exact .inl e
            · exact .inr (.inl e)
            · by_cases hbs : b = s
              · exact .inl hbs
              · exact .inr (.inr ⟨e, hbs⟩)
/-- How long a row gets. -/
theorem putR_len (s : ByteArray) : ∀ (d : Bool) (l : List ByteArray), (putR s d l).length ≤ l.length + 1
  | true, [] => by simp [putR]
  | false, [] => by simp [putR]
  | true, x :: r => by
    have := putR_len s true r
    rw [putR]; split <;> simp only [List.length_cons] <;> omega
  | false, x :: r => by
    have h1 := putR_len s false r
    have h2 : (putR s true r).length ≤ r.length := by
      clear h1
      induction r with
      | nil => simp [putR]
      | cons y r ih => rw [putR]; split <;> simp only [List.length_cons] <;> omega
    rw [putR]; split <;> split <;> simp only [List.length_cons] <;> omega
/-- The names of statements of a kind, behind those that came. -/
def nmS (k : Int) : SF → List ByteArray → List ByteArray
  | .nil, out => out
  | .node _ _ h l r, out => nmS k r (nmS k l (if h.k = k then putR h.s false out else out))
/-- The names of expressions of a kind. -/
def nmE (k : Int) : EF → List ByteArray → List ByteArray
  | .nil, out => out
  | .node _ _ h l r, out => nmE k r (nmE k l (if h.k = k then putR h.s false out else out))
def nmX (k : Int) (x : X) (out : List ByteArray) : List ByteArray := nmE k x.l (if x.h.k = k then putR x.h.s false out else out)
def nmA (k : Int) : SF → List ByteArray → List ByteArray
  | .nil, out => out
  | .node _ _ h l r, out => nmA k r (nmA k l (nmX k h.x4 (nmX k h.x3 (nmX k h.x2 (nmX k h.x1 out)))))
end Go.Proofs.YtcafpaahbbachabGreat
