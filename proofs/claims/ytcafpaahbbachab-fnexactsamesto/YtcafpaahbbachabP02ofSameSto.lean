/-
  Texts in one: StoEq, StoOpen, SzInts, OrdUntil, AstArr.
-/
import Derived.Test.YtcafpaahbbachabP01ofSameSto
import Derived.Test.YtcafpaahbbachabP00ofSameSto
import Derived.WalkKit
import Derived.ProofKit
import Derived.OpenShut
import Derived.ShutString
import Derived.ChangeOld
import Derived.Test.YtcafpaahbbachabProg
import Derived.Deep.RegionHeld
import Derived.Deep.RegionWith
import Derived.Deep.Cut
import Derived.Deep.CutRange
/-
  Stores: eqSto, markSto, heldSto.
-/
namespace Go.Proofs.Ytcafpaahbbachab
open Go.RowKit Go.Lib
set_option linter.unusedSimpArgs false
set_option linter.unusedVariables false

/-- A store's parts, where they lie. -/
structure StoV (w : World) (va vv vo : Value) (A : List (List Int)) (V O : List Int) : Prop where
  a : IIV w 0 va A
  v : IV w 0 vv V
  o : IV w 0 vo O
theorem StoV.later {w w' : World} {va vv vo : Value} {A : List (List Int)} {V O : List Int} (h : StoV w va vv vo A V O) (hb : Below w.heap.size w w') : StoV w' va vv vo A V O := ⟨h.a.later hb, h.v.later hb, h.o.later hb⟩
/-- No more than so many. -/
structure StoL (A : List (List Int)) (V O : List Int) : Prop where
  a : A.length ≤ 10000000
  b : ∀ xs ∈ A, xs.length ≤ 10000000
  v : V.length ≤ 10000000
  o : O.length ≤ 10000000
theorem blkLast (v : World) (o : Obj) : (v.alloc o).heap[v.heap.size]? = some o := by show (v.heap.push o)[v.heap.size]? = _; simp
/-- Two boxes of four cells. -/
structure Bx2 (w w' : World) (N : Nat) (x0 x1 x2 x3 y0 y1 y2 y3 : Value) (t : TypeId) : Prop where
  p : w'.heap[N]? = some (.cells #[x0, x1, x2, x3] t (0, 0))
  q : w'.heap[N + 1]? = some (.cells #[y0, y1, y2, y3] t (0, 0))
  b : Below w.heap.size w w'
theorem Bx2.start (w : World) (x0 x1 x2 x3 y0 y1 y2 y3 : Value) (t : TypeId) : Bx2 w ((w.alloc (.cells #[x0, x1, x2, x3] t)).alloc (.cells #[y0, y1, y2, y3] t)) w.heap.size x0 x1 x2 x3 y0 y1 y2 y3 t :=
  ⟨by rw [Below.heap_alloc _ _ _ (by simp)]; exact blkLast _ _,
   (congrArg (fun n => ((w.alloc (.cells #[x0, x1, x2, x3] t)).alloc (.cells #[y0, y1, y2, y3] t)).heap[n]?) (show w.heap.size + 1 = (w.alloc (.cells #[x0, x1, x2, x3] t)).heap.size by simp)).trans (blkLast _ _),
   (alloc_below w _).alloc (by simp) _⟩
theorem Bx2.later {w w1 w2 : World} {N : Nat} {x0 x1 x2 x3 y0 y1 y2 y3 : Value} {t : TypeId} (h : Bx2 w w1 N x0 x1 x2 x3 y0 y1 y2 y3 t) (hb : Below w1.heap.size w1 w2) : Bx2 w w2 N x0 x1 x2 x3 y0 y1 y2 y3 t :=
  ⟨(hb.block _ (lt_heap h.p)).trans h.p, (hb.block _ (lt_heap h.q)).trans h.q, h.b.trans (hb.mono h.b.size)⟩
set_option maxHeartbeats 1000000 in
set_option maxRecDepth 100000 in
theorem eqSto_same (A : List (List Int)) (V O : List Int) (e : Int) (hl : StoL A V O) (va vv vo ua uv uo : Value) (w : World) (h : StoV w va vv vo A V O) (g : StoV w ua uv uo A V O) :
    Calls Try.prog 8 #[.agg #[va, vv, vo, .int .i64 e], .agg #[ua, uv, uo, .int .i64 e]] w fun e w' => e = .returned (.bool true) ∧ Below w.heap.size w w' := by
  have H := Lib.hid (And.intro h g)
  have hA : Hid (∀ xs ∈ A, xs.length ≤ 100000000) := fun xs hx => Nat.le_trans (hl.b xs hx) (by omega)
  have hAl : A.length ≤ 100000000 := Nat.le_trans hl.a (by omega)
  have hV : V.length ≤ 100000000 := Nat.le_trans hl.v (by omega)
  have hO : O.length ≤ 100000000 := Nat.le_trans hl.o (by omega)
  obtain ⟨a1, c1, rfl⟩ := h.a.shape
  obtain ⟨a2, c2, rfl⟩ := h.v.shape
  obtain ⟨a3, c3, rfl⟩ := h.o.shape
  obtain ⟨a4, c4, rfl⟩ := g.a.shape
  obtain ⟨a5, c5, rfl⟩ := g.v.shape
  obtain ⟨a6, c6, rfl⟩ := g.o.shape
  clear h g hl
  have P := Lib.hid (Bx2.start w (.slice a1 A.length c1) (.slice a2 V.length c2) (.slice a3 O.length c3) (.int .i64 e) (.slice a4 A.length c4) (.slice a5 V.length c5) (.slice a6 O.length c6) (.int .i64 e) 28)
  go_enter Try.func8, Try.ntmps8
  go_wp2_with fail
  refine (eqIntSS_same A hAl hA.out _ _ _ (H.out.1.a.later P.out.b) (H.out.2.a.later P.out.b)).mono ?_
  rintro e1 w1 ⟨rfl, hb1⟩
  have P1 := Lib.hid (P.out.later hb1)
  obtain ⟨⟨p0, p1, p2, p3⟩, _⟩ := blk4 P1.out.p
  obtain ⟨⟨q0, q1, q2, q3⟩, _⟩ := blk4 P1.out.q
  clear hb1 P
  go_wp2_with fail
  refine (eqIntS_same V hV _ _ _ (H.out.1.v.later P1.out.b) (H.out.2.v.later P1.out.b)).mono ?_
  rintro e1 w2 ⟨rfl, hb2⟩
  have P2 := Lib.hid (P1.out.later hb2)
  clear p0 p1 p2 p3 q0 q1 q2 q3
  obtain ⟨⟨p0, p1, p2, p3⟩, _⟩ := blk4 P2.out.p
  obtain ⟨⟨q0, q1, q2, q3⟩, _⟩ := blk4 P2.out.q
  clear hb2 P1
  go_wp2_with fail
  refine (eqIntS_same O hO _ _ _ (H.out.1.o.later P2.out.b) (H.out.2.o.later P2.out.b)).mono ?_
  rintro e1 w3 ⟨rfl, hb3⟩
  have P3 := Lib.hid (P2.out.later hb3)
  clear p0 p1 p2 p3 q0 q1 q2 q3
  obtain ⟨⟨p0, p1, p2, p3⟩, _⟩ := blk4 P3.out.p
  obtain ⟨⟨q0, q1, q2, q3⟩, _⟩ := blk4 P3.out.q
  clear hb3 P2
  go_wp2
  go_ret
  exact ⟨rfl, P3.out.b⟩
/-- A store that the call owns: its rows, each apart. -/
structure StoO (w : World) (B : Nat) (va : Value) (rs : List VR) (v o : VR) : Prop where
  out : w.ownsRow B 23 1 va rs.length (rs.map (·.1))
  own : Owns w B (rs ++ [v, o])
theorem StoO.later {w w' : World} {B : Nat} {va : Value} {rs : List VR} {v o : VR} (h : StoO w B va rs v o) (hb : Below w.heap.size w w') : StoO w' B va rs v o := ⟨ownB h.out hb, h.own.later hb⟩
theorem StoO.stoV {w : World} {B : Nat} {va : Value} {rs : List VR} {v o : VR} (h : StoO w B va rs v o) : StoV w va v.1 o.1 (rs.map (·.2)) v.2 o.2 :=
  ⟨iivOf h.out (fun r hr => h.own.row (List.mem_append_left _ hr)), (h.own.row (by simp)).low, (h.own.row (by simp)).low⟩
theorem StoO.ge {w : World} {B : Nat} {va : Value} {rs : List VR} {v o : VR} (h : StoO w B va rs v o) : ∀ r ∈ rs ++ [v, o], ∀ k, r.1.ownBlock = some k → B ≤ k := h.own.ge
theorem one4 {a b c d : Value} (ha : a.oneCell' = true) (hb : b.oneCell' = true) (hc : c.oneCell' = true) (hd : d.oneCell' = true) : (#[a, b, c, d] : Array Value).all (·.oneCell') = true :=
  all_oneCell_toArray (cs := [a, b, c, d]) (fun v hv => by
    simp only [List.mem_cons, List.not_mem_nil, or_false] at hv
    rcases hv with rfl | rfl | rfl | rfl <;> assumption)
/-- The store with marks in it. -/
structure StoM (w : World) (B : Nat) (va : Value) (rs : List VR) (v o : VR) : Prop where
  out : w.ownsRow B 23 1 va rs.length (rs.map (·.1))
  own : Owns w B (mkRows 1 (rs ++ [v, o]))
theorem StoM.later {w w' : World} {B : Nat} {va : Value} {rs : List VR} {v o : VR} (h : StoM w B va rs v o) (hb : Below w.heap.size w w') : StoM w' B va rs v o := ⟨ownB h.out hb, h.own.later hb⟩
theorem mk_two (rs : List VR) (v o : VR) (m : Nat) : mkRows m (rs ++ [v, o]) = mkRows m rs ++ [(v.1, imarks (m + tot rs) v.2.length), (o.1, imarks (m + tot rs + v.2.length) o.2.length)] := by rw [mkRows_app]; simp [mkRows]
theorem tot_two (rs : List VR) (v o : VR) : tot (rs ++ [v, o]) = tot rs + v.2.length + o.2.length := by rw [tot_app]; simp [tot]; omega
theorem apart_fst {rs rs' : List VR} (e : rs'.map (·.1) = rs.map (·.1)) (h : rs.Pairwise apartV) : rs'.Pairwise apartV := by
  have h1 : (rs.map (·.1)).Pairwise (fun (a b : Value) => ∀ k, a.ownBlock = some k → b.ownBlock ≠ some k) := by rw [List.pairwise_map]; exact h
  rw [← e, List.pairwise_map] at h1
  exact h1
/-- A block of one's own that is none of the rows'. -/
theorem OnlyR.blk {w w' : World} {B N : Nat} {rs : List VR} {ar : Array Value} {t : TypeId} (h : OnlyR rs w w') (ho : Owns w B rs) (hN : w.heap[N]? = some (.cells ar t (0, 0))) (ht : t ≠ 3) : w'.heap[N]? = some (.cells ar t (0, 0)) := by
  refine (h.block N (lt_heap hN) fun r hr ek => ?_).trans hN
  rcases (ho.own r hr).2 with ⟨e0, _⟩ | ⟨g', cap', cur', e1, e2, e3, e4⟩
  · rw [e0] at ek; cases ek
  · rw [e1] at ek
    injection ek with ek
    rw [show g' = N from ek] at e3
    rw [hN] at e3
    injection e3 with e3
    injection e3 with _ e3 _
    exact ht e3
theorem Owns.sub {w : World} {B : Nat} {rs rs' : List VR} (h : Owns w B rs) (hs : rs'.Sublist rs) : Owns w B rs' := ⟨fun r hr => h.own r (hs.subset hr), h.apart.sublist hs⟩
/-- Blocks that hold no row of numbers stay. -/
def Keeq (w w' : World) : Prop := ∀ (N : Nat) (ar : Array Value) (t : TypeId), t ≠ 3 → w.heap[N]? = some (.cells ar t (0, 0)) → w'.heap[N]? = some (.cells ar t (0, 0))
theorem Keeq.trans {a b c : World} (h : Keeq a b) (k : Keeq b c) : Keeq a c := fun N ar t ht hN => k N ar t ht (h N ar t ht hN)
theorem Keeq.of {w w' : World} (hb : Below w.heap.size w w') : Keeq w w' := fun N ar t ht hN => (hb.block _ (lt_heap hN)).trans hN
theorem OnlyR.keeq {w w' : World} {B : Nat} {rs : List VR} (h : OnlyR rs w w') (ho : Owns w B rs) : Keeq w w' := fun N ar t ht hN => h.blk ho hN ht
end Go.Proofs.Ytcafpaahbbachab
/-
  Stores that came in, opened.
-/
namespace Go.Proofs.Ytcafpaahbbachab
open Go.ChangeShapes Go.WideShapes Go.ChangeAt Go.RowKit
set_option linter.unusedSimpArgs false
set_option linter.unusedVariables false

theorem cI7 : Try.prog.cellsOf 3 = 1 := by kernel_rfl
theorem cIs7 : Try.prog.cellsOf 23 = 1 := by kernel_rfl
theorem cIss7 : Try.prog.cellsOf 22 = 1 := by kernel_rfl
theorem cSto7 : Try.prog.cellsOf 25 = 4 := by kernel_rfl
theorem sizeLSto : (Try.prog.info? 25).map (·.size) = some 4 := by kernel_rfl
theorem add_plain7 (b o i : Nat) : (⟨b, o, Option.none⟩ : Addr).add i = ⟨b, o + i, Option.none⟩ := by simp [Addr.add]
section
variable {H : Type} {enc : TypeId × Value → H} {W : World} {sp : Nat → Bool} {held : Bool}
theorem build_ints {b o len : Nat} (each : ∀ i, i < len → ∃ t : Int, W.cell? ⟨b, o + i, Option.none⟩ = some (.int .i64 t)) :
    ∀ d, d ≤ len → ∃ R : List Int, R.length = d ∧ ∀ i t, R[i]? = some t → W.cell? ⟨b, o + i, Option.none⟩ = some (.int .i64 t)
  | 0, _ => ⟨[], rfl, fun i t h => by simp at h⟩
  | d + 1, hd => by
    obtain ⟨R, h1, h3⟩ := build_ints each d (by omega)
    obtain ⟨t, c0⟩ := each d (by omega)
    refine ⟨R ++ [t], by simp [h1], fun i u hu => ?_⟩
    rcases Nat.lt_or_ge i R.length with hi | hi
    · rw [List.getElem?_append_left hi] at hu; exact h3 i u hu
    · rw [List.getElem?_append_right hi] at hu
      have hi2 : i = d := by have := (List.getElem?_eq_some_iff.1 hu).1; simp at this; omega
      subst hi2
      rw [h1, Nat.sub_self] at hu
      simp at hu; subst hu; exact c0
theorem build_rows {b o len : Nat} (each : ∀ i, i < len → ∃ (xs : List Int) (u : Value), xs.length ≤ 9223372036854775807 ∧ W.cell? ⟨b, o + i, Option.none⟩ = some u ∧ IV W 0 u xs) :
    ∀ d, d ≤ len → ∃ R : List (List Int), R.length = d ∧ (∀ xs ∈ R, xs.length ≤ 9223372036854775807) ∧ ∀ i xs, R[i]? = some xs → ∃ u, W.cell? ⟨b, o + i, Option.none⟩ = some u ∧ IV W 0 u xs
  | 0, _ => ⟨[], rfl, fun _ h => by simp at h, fun i t h => by simp at h⟩
  | d + 1, hd => by
    obtain ⟨R, h1, h2, h3⟩ := build_rows each d (by omega)
    obtain ⟨t, u0, k, c0, c1⟩ := each d (by omega)
    refine ⟨R ++ [t], by simp [h1], fun u hu => ?_, fun i u hu => ?_⟩
    · rcases List.mem_append.1 hu with hu | hu
      · exact h2 u hu
      · simp only [List.mem_cons, List.not_mem_nil, or_false] at hu; subst hu; exact k
    · rcases Nat.lt_or_ge i R.length with hi | hi
      · rw [List.getElem?_append_left hi] at hu; exact h3 i u hu
      · rw [List.getElem?_append_right hi] at hu
        have hi2 : i = d := by have := (List.getElem?_eq_some_iff.1 hu).1; simp at this; omega
        subst hi2
        rw [h1, Nat.sub_self] at hu
        simp at hu; subst hu; exact ⟨u0, c0, c1⟩
theorem open_ints {fuel : Nat} {cs : List Value} {x : DataW H × List MemPlace} (h : DataW.trod enc Try.prog W 0 sp held fuel 23 cs = some x) : ∃ (v : Value) (xs : List Int), cs = [v] ∧ xs.length ≤ 9223372036854775807 ∧ IV W 0 v xs := by
  rcases DataW.trod_slice Try.underlying23 h with ⟨rfl, _⟩ | ⟨a, len, cap, elems, rest, n, hn, rfl, _, _, hl, hmx, hlen, hel, _, _⟩
  · exact ⟨_, [], rfl, by simp, _, _, rfl, .inl rfl⟩
  · rw [cI7] at hel
    have each : ∀ i, i < len → ∃ (cs' : List Value) (y : DataW H × List MemPlace), W.cells? 0 (a.add (i * 1)) 1 = some cs' ∧ DataW.trod enc Try.prog W 0 sp held n 3 cs' = some y := fun i hi => by
      have h1 := hel i hi
      rw [List.getElem?_eq_getElem (by omega), Option.bind_eq_some_iff] at h1
      obtain ⟨cs', h2, h3⟩ := h1
      exact ⟨cs', _, h2, h3⟩
    rcases Nat.eq_zero_or_pos len with h0 | h0
    · subst h0; exact ⟨_, [], rfl, by simp, _, _, rfl, .inl rfl⟩
    · have each2 : ∀ i, i < len → ∃ t : Int, W.cell? ((a.add (i * 1)).add 0) = some (.int .i64 t) := fun i hi => by
        obtain ⟨cs', y, h1, h2⟩ := each i hi
        obtain ⟨_, hc, hcell⟩ := World.cells?_some h1
        obtain ⟨t, rfl, _⟩ := DataW.trod_int Try.underlying3 h2
        exact ⟨t, by rw [hcell 0 (by omega)]; rfl⟩
      obtain ⟨b, off, spot⟩ := a
      have hsp : spot = Option.none := by
        obtain ⟨x, hc⟩ := each2 0 h0
        have := World.cell?_spot hc
        simpa [Addr.add] using this
      subst hsp
      have each3 : ∀ i, i < len → ∃ t : Int, W.cell? ⟨b, off + i, Option.none⟩ = some (.int .i64 t) := fun i hi => by
        obtain ⟨t, hc⟩ := each2 i hi
        rw [add_plain7, add_plain7] at hc
        exact ⟨t, by simpa using hc⟩
      obtain ⟨R, r1, r3⟩ := build_ints each3 len (Nat.le_refl _)
      have hlt : b < W.heap.size := by
        obtain ⟨t, hc⟩ := each3 0 h0
        exact lt_of_cellA hc
      refine ⟨_, R, rfl, by unfold maxLen at hmx; omega, _, cap, by rw [r1], .inr ⟨b, off, rfl, Nat.zero_le _, hlt, r3⟩⟩
theorem open_rows {fuel : Nat} {cs : List Value} {x : DataW H × List MemPlace} (h : DataW.trod enc Try.prog W 0 sp held fuel 22 cs = some x) : ∃ (v : Value) (A : List (List Int)), cs = [v] ∧ A.length ≤ 9223372036854775807 ∧ (∀ xs ∈ A, xs.length ≤ 9223372036854775807) ∧ IIV W 0 v A := by
  rcases DataW.trod_slice Try.underlying22 h with ⟨rfl, _⟩ | ⟨a, len, cap, elems, rest, n, hn, rfl, _, _, hl, hmx, hlen, hel, _, _⟩
  · exact ⟨_, [], rfl, by simp, fun _ h => by simp at h, _, _, rfl, .inl rfl⟩
  · rw [cIs7] at hel
    have each : ∀ i, i < len → ∃ (cs' : List Value) (y : DataW H × List MemPlace), W.cells? 0 (a.add (i * 1)) 1 = some cs' ∧ DataW.trod enc Try.prog W 0 sp held n 23 cs' = some y := fun i hi => by
      have h1 := hel i hi
      rw [List.getElem?_eq_getElem (by omega), Option.bind_eq_some_iff] at h1
      obtain ⟨cs', h2, h3⟩ := h1
      exact ⟨cs', _, h2, h3⟩
    rcases Nat.eq_zero_or_pos len with h0 | h0
    · subst h0; exact ⟨_, [], rfl, by simp, fun _ h => by simp at h, _, _, rfl, .inl rfl⟩
    · have each2 : ∀ i, i < len → ∃ (xs : List Int) (u : Value), xs.length ≤ 9223372036854775807 ∧ W.cell? ((a.add (i * 1)).add 0) = some u ∧ IV W 0 u xs := fun i hi => by
        obtain ⟨cs', y, h1, h2⟩ := each i hi
        obtain ⟨_, hc, hcell⟩ := World.cells?_some h1
        obtain ⟨u, xs, rfl, k1, k2⟩ := open_ints h2
        exact ⟨xs, u, k1, by rw [hcell 0 (by omega)]; rfl, k2⟩
      obtain ⟨b, off, spot⟩ := a
      have hsp : spot = Option.none := by
        obtain ⟨x, u, _, hc, _⟩ := each2 0 h0
        have := World.cell?_spot hc
        simpa [Addr.add] using this
      subst hsp
      have each3 : ∀ i, i < len → ∃ (xs : List Int) (u : Value), xs.length ≤ 9223372036854775807 ∧ W.cell? ⟨b, off + i, Option.none⟩ = some u ∧ IV W 0 u xs := fun i hi => by
        obtain ⟨t, u, k1, hc, k2⟩ := each2 i hi
        rw [add_plain7, add_plain7] at hc
        exact ⟨t, u, k1, by simpa using hc, k2⟩
      obtain ⟨R, r1, r2, r3⟩ := build_rows each3 len (Nat.le_refl _)
      have hlt : b < W.heap.size := by
        obtain ⟨t, u, _, hc, _⟩ := each3 0 h0
        exact lt_of_cellA hc
      refine ⟨_, R, rfl, by unfold maxLen at hmx; omega, r2, _, cap, by rw [r1], .inr ⟨b, off, rfl, Nat.zero_le _, hlt, r3⟩⟩
/-- No more than memory has. -/
structure StoG (A : List (List Int)) (V O : List Int) : Prop where
  a : A.length ≤ 9223372036854775807
  b : ∀ xs ∈ A, xs.length ≤ 9223372036854775807
  v : V.length ≤ 9223372036854775807
  o : O.length ≤ 9223372036854775807
set_option maxRecDepth 100000 in
theorem open_sto {fuel : Nat} {cs : List Value} {y : DataW H × List MemPlace} (h : DataW.trod enc Try.prog W 0 sp held fuel 25 cs = some y) :
    ∃ (A : List (List Int)) (V O : List Int) (en : Int) (va vv vo : Value), cs = [va, vv, vo, .int .i64 en] ∧ StoG A V O ∧ StoV W va vv vo A V O := by
  obtain ⟨xs, m, hm, _, hlen, hxl, hf⟩ := DataW.trod_struct Try.underlying25 h
  rw [cSto7] at hlen
  match xs, hxl, cs, hlen with
  | [y0, y1, y2, y3], _, [v0, v1, v2, v3], _ =>
    have g0 := hf 0 _ rfl
    have g1 := hf 1 _ rfl
    have g2 := hf 2 _ rfl
    have g3 := hf 3 _ rfl
    simp [cI7, cIs7, cIss7] at g0 g1 g2 g3
    obtain ⟨va, A, e0, k1, k2, k3⟩ := open_rows g0
    obtain ⟨vv, V, e1, j1, j2⟩ := open_ints g1
    obtain ⟨vo, O, e2, i1, i2⟩ := open_ints g2
    obtain ⟨n, e3, _, _⟩ := DataW.trod_int Try.underlying3 g3
    injection e0 with e0; injection e1 with e1; injection e2 with e2; injection e3 with e3
    subst e0; subst e1; subst e2; subst e3
    exact ⟨A, V, O, n, v0, v1, v2, rfl, ⟨k1, k2, j1, i1⟩, ⟨k3, j2, i2⟩⟩
end
/-- A store in four cells of a block. -/
structure Sb (w0 w : World) (n : Nat) (va vv vo : Value) (en : Int) (A : List (List Int)) (V O : List Int) : Prop where
  rg : w.rangeAt n 0 [va, vv, vo, .int .i64 en]
  sv : StoV w va vv vo A V O
  low : Below w0.heap.size w0 w
theorem Sb.later {w0 w w' : World} {n : Nat} {va vv vo : Value} {en : Int} {A : List (List Int)} {V O : List Int} (h : Sb w0 w n va vv vo en A V O) (hb : Below w.heap.size w w') : Sb w0 w' n va vv vo en A V O :=
  ⟨rangeAt_later h.rg hb, h.sv.later hb, h.low.trans (hb.mono h.low.size)⟩
theorem Sb.start {w0 w w' : World} {n : Nat} {va vv vo : Value} {en : Int} {A : List (List Int)} {V O : List Int} {t : TypeId} (h : StoV w0 va vv vo A V O) (hb : Below w0.heap.size w0 w) (hn : w.heap[n]? = some (.cells #[va, vv, vo, .int .i64 en] t (0, 0))) : Sb w0 w n va vv vo en A V O := ⟨blk_range hn, h.later hb, hb⟩
end Go.Proofs.Ytcafpaahbbachab
/-
  The sizes of stores: szIntS, szIntSS, szSto.
-/
namespace Go.Proofs.Ytcafpaahbbachab
open Go.RowKit Go.Lib
set_option linter.unusedSimpArgs false
set_option linter.unusedVariables false

/-- What is left of so many. -/
def lessBy (left : Int) (n : Nat) : Int := if left < (n : Int) then -1 else left - n
theorem lessBy_neg {left : Int} {n : Nat} (h : left < (n : Int)) : lessBy left n = -1 := by rw [lessBy, if_pos h]
theorem lessBy_pos {left : Int} {n : Nat} (h : ¬ left < (n : Int)) : lessBy left n = left - n := by rw [lessBy, if_neg h]
set_option maxHeartbeats 1000000 in
theorem szIntS_is (n : Nat) (hn : n ≤ 9223372036854775807) (a : Option Addr) (c : Nat) (left : Int) (h0 : 0 ≤ left) (h1 : left ≤ 1048576) (w : World) :
    Calls Try.prog 10 #[.slice a n c, .int .i64 left] w fun e w' => e = .returned (.int .i64 (lessBy left n)) ∧ w' = w := by
  have hnI : (n : Int) ≤ 9223372036854775807 := by omega
  by_cases hd : left < (n : Int)
  · have hd2 : left - (n : Int) < 0 := by omega
    have e1 := Lib.hid (lessBy_neg hd)
    go_enter Try.func10, Try.ntmps10
    go_wp2
    go_ret
    exact ⟨(by rw [e1.out]; try rfl), rfl⟩
  · have hd2 : ¬ left - (n : Int) < 0 := by omega
    have e1 := Lib.hid (lessBy_pos hd)
    go_enter Try.func10, Try.ntmps10
    go_wp2
    go_ret
    exact ⟨(by rw [e1.out]; try rfl), rfl⟩
theorem totA_app (a b : List (List Int)) : totA (a ++ b) = totA a + totA b := by
  induction a with
  | nil => simp [totA]
  | cons x xs ih => simp only [List.cons_append, totA, ih]; omega
theorem totA_take {A : List (List Int)} {k : Nat} {x : List Int} (h : A[k]? = some x) : totA (A.take (k + 1)) = totA (A.take k) + x.length := by
  rw [List.take_add_one, h, totA_app]; simp [totA]
theorem totA_le (A : List (List Int)) (k : Nat) : totA (A.take k) ≤ totA A := by
  have e := totA_app (A.take k) (A.drop k)
  rw [List.take_append_drop] at e; omega
set_option maxHeartbeats 2000000 in
set_option maxRecDepth 100000 in
theorem szIntSS_is (A : List (List Int)) (hA : A.length ≤ 9223372036854775807) (hi : ∀ xs ∈ A, xs.length ≤ 9223372036854775807) (v : Value) (w : World) (hv : IIV w 0 v A) (left : Int) (h0 : 0 ≤ left) (h1 : left ≤ 1048576) :
    Calls Try.prog 9 #[v, .int .i64 left] w fun e w' => e = .returned (.int .i64 (lessBy left (A.length + totA A))) ∧ w' = w := by
  have HV := Lib.hid hv
  have HI := Lib.hid hi
  have hnI : (A.length : Int) ≤ 9223372036854775807 := by omega
  obtain ⟨ao, ca, rfl⟩ := hv.shape
  clear hv hi
  by_cases hd : left < (A.length : Int)
  · have hd2 : left - (A.length : Int) < 0 := by omega
    have e1 : Hid (lessBy left (A.length + totA A) = -1) := lessBy_neg (by omega)
    go_enter Try.func9, Try.ntmps9
    go_wp2
    go_ret
    exact ⟨(by rw [e1.out]; try rfl), rfl⟩
  · have hd2 : ¬ left - (A.length : Int) < 0 := by omega
    obtain ⟨L0, hL0⟩ : ∃ L0 : Nat, left - (A.length : Int) = (L0 : Int) := ⟨(left - (A.length : Int)).toNat, by omega⟩
    have HL := Lib.hid hL0
    have hL1 : L0 ≤ 1048576 := by omega
    go_enter Try.func9, Try.ntmps9
    go_wp2
    try rw [hL0]
    clear hL0 hd hd2
    go_loopw [1, 5] (fun x i wr => ∃ (k L : Nat), k ≤ A.length ∧ i = .int .i64 k ∧ x = .int .i64 (L : Int) ∧ Hid (L + totA (A.take k) = L0) ∧ wr = w) (fun _ i _ => A.length - (RowKit.intOf i).toNat)
    case atStart => exact ⟨0, L0, by omega, rfl, rfl, (by show L0 + totA (A.take 0) = L0; simp [totA]), rfl⟩
    case round =>
      obtain ⟨k, L, hk, rfl, rfl, hl, rfl⟩ := hrel
      by_cases hlt : k < A.length
      · have hltI : (k : Int) < (A.length : Int) := by omega
        obtain ⟨x, hx⟩ : ∃ x, A[k]? = some x := ⟨A[k], List.getElem?_eq_getElem hlt⟩
        obtain ⟨g, off, u, rfl, hc, hu⟩ := HV.out.at hx
        obtain ⟨pa, qa, rfl⟩ := hu.shape
        have hxl := HI.out x (List.mem_of_getElem? hx)
        have Htk := Lib.hid (totA_take hx)
        have Hle := Lib.hid (totA_le A (k + 1))
        have hLs : L ≤ L0 := by have := hl.out; omega
        clear hu hx
        by_cases hd : (L : Int) < (x.length : Int)
        · have e1 : Hid (lessBy left (A.length + totA A) = -1) := lessBy_neg (by have h1 := Htk.out; have h2 := Hle.out; have h3 := hl.out; have h4 := HL.out; omega)
          have e2 := lessBy_neg hd
          go_wp2_with fail
          refine (szIntS_is x.length hxl pa qa (L : Int) (by omega) (by omega) _).mono ?_
          rintro e w1 ⟨rfl, rfl⟩
          rw [e2]
          clear e2 hc
          go_wp2
          go_ret
          exact ⟨(by rw [e1.out]; try rfl), rfl⟩
        · have e2 := lessBy_pos hd
          obtain ⟨M, hM⟩ : ∃ M : Nat, (L : Int) - (x.length : Int) = (M : Int) := ⟨L - x.length, by omega⟩
          rw [hM] at e2
          have HM := Lib.hid hM
          have hMn : ¬ (M : Int) < 0 := by omega
          clear hM hd
          go_wp2_with fail
          refine (szIntS_is x.length hxl pa qa (L : Int) (by omega) (by omega) _).mono ?_
          rintro e w1 ⟨rfl, rfl⟩
          rw [e2]
          clear e2 hc
          go_wp2
          go_roundw
          case rel => exact ⟨k + 1, M, by omega, by go_num, rfl, (by have h1 := Htk.out; have h3 := hl.out; have h4 := HM.out; show M + totA (A.take (k + 1)) = L0; omega), trivial⟩
          case measure => simp [RowKit.intOf]; omega
      · have e1 : Hid (lessBy left (A.length + totA A) = (L : Int)) := by
          have h3 := hl.out
          rw [List.take_of_length_le (by omega)] at h3
          have h4 := HL.out
          show lessBy left (A.length + totA A) = (L : Int)
          rw [lessBy_pos (by omega)]
          omega
        go_wp2
        go_ret
        exact ⟨(by rw [e1.out]; try rfl), rfl⟩
set_option maxHeartbeats 1000000 in
set_option maxRecDepth 100000 in
theorem szSto_is (A : List (List Int)) (V O : List Int) (en : Int) (hA : A.length ≤ 9223372036854775807) (hi : ∀ xs ∈ A, xs.length ≤ 9223372036854775807) (hV : V.length ≤ 9223372036854775807) (hO : O.length ≤ 9223372036854775807) (va vv vo : Value) (w : World) (ha : IIV w 0 va A) (hv : IV w 0 vv V) (ho : IV w 0 vo O) (left : Int) (h0 : 0 ≤ left) (h1 : left ≤ 1048576) :
    Calls Try.prog 4 #[.agg #[va, vv, vo, .int .i64 en], .int .i64 left] w fun e w' => e = .returned (.int .i64 (lessBy left (A.length + totA A + V.length + O.length))) ∧ Below w.heap.size w w' := by
  have HA := Lib.hid ha
  obtain ⟨a1, c1, rfl⟩ := ha.shape
  obtain ⟨a2, c2, rfl⟩ := hv.shape
  obtain ⟨a3, c3, rfl⟩ := ho.shape
  have B := Lib.hid (alloc_below w (.cells #[.slice a1 A.length c1, .slice a2 V.length c2, .slice a3 O.length c3, .int .i64 en] 25))
  clear ha hv ho
  by_cases d1 : left < ((A.length + totA A : Nat) : Int)
  · have e1 := lessBy_neg d1
    have e9 : Hid (lessBy left (A.length + totA A + V.length + O.length) = -1) := lessBy_neg (by omega)
    go_enter Try.func4, Try.ntmps4
    go_wp2_with fail
    refine (szIntSS_is A hA hi _ _ (HA.out.later B.out) left h0 h1).mono ?_
    rintro e w1 ⟨rfl, rfl⟩
    rw [e1]
    clear e1
    go_wp2
    go_ret
    exact ⟨(by rw [e9.out]; try rfl), B.out⟩
  obtain ⟨L, hL⟩ : ∃ L : Nat, left - ((A.length + totA A : Nat) : Int) = (L : Int) := ⟨(left - ((A.length + totA A : Nat) : Int)).toNat, by omega⟩
  have e1 := lessBy_pos d1
  rw [hL] at e1
  have nL : ¬ (L : Int) < 0 := by omega
  have lL : (L : Int) ≤ 1048576 := by omega
  by_cases d2 : (L : Int) < (V.length : Int)
  · have e2 := lessBy_neg d2
    have e9 : Hid (lessBy left (A.length + totA A + V.length + O.length) = -1) := lessBy_neg (by omega)
    clear hL d1
    go_enter Try.func4, Try.ntmps4
    go_wp2_with fail
    refine (szIntSS_is A hA hi _ _ (HA.out.later B.out) left h0 h1).mono ?_
    rintro e w1 ⟨rfl, rfl⟩
    rw [e1]
    clear e1
    go_wp2_with fail
    refine (szIntS_is V.length hV _ _ (L : Int) (by omega) lL _).mono ?_
    rintro e w1 ⟨rfl, rfl⟩
    rw [e2]
    clear e2
    go_wp2
    go_ret
    exact ⟨(by rw [e9.out]; try rfl), B.out⟩
  obtain ⟨M, hM⟩ : ∃ M : Nat, (L : Int) - (V.length : Int) = (M : Int) := ⟨L - V.length, by omega⟩
  have e2 := lessBy_pos d2
  rw [hM] at e2
  have nM : ¬ (M : Int) < 0 := by omega
  have lM : (M : Int) ≤ 1048576 := by omega
  have e9 : lessBy left (A.length + totA A + V.length + O.length) = lessBy (M : Int) O.length := by
    by_cases d3 : (M : Int) < (O.length : Int)
    · rw [lessBy_neg d3, lessBy_neg (by omega)]
    · rw [lessBy_pos d3, lessBy_pos (by omega)]; omega
  have E9 := Lib.hid e9
  have n9 : Hid (lessBy (M : Int) O.length = -1 ∨ ¬ lessBy (M : Int) O.length < 0) := by
    by_cases d3 : (M : Int) < (O.length : Int)
    · exact .inl (lessBy_neg d3)
    · exact .inr (by rw [lessBy_pos d3]; omega)
  obtain ⟨R, hR⟩ : ∃ R, R = lessBy (M : Int) O.length := ⟨_, rfl⟩
  rw [← hR] at n9 E9
  have HR := Lib.hid hR
  clear hL d1 hM d2 e9 hR
  go_enter Try.func4, Try.ntmps4
  go_wp2_with fail
  refine (szIntSS_is A hA hi _ _ (HA.out.later B.out) left h0 h1).mono ?_
  rintro e w1 ⟨rfl, rfl⟩
  rw [e1]
  clear e1
  go_wp2_with fail
  refine (szIntS_is V.length hV _ _ (L : Int) (by omega) lL _).mono ?_
  rintro e w1 ⟨rfl, rfl⟩
  rw [e2]
  clear e2
  go_wp2_with fail
  refine (szIntS_is O.length hO _ _ (M : Int) (by omega) lM _).mono ?_
  rintro e w1 ⟨rfl, rfl⟩
  rw [← HR.out]
  rcases n9.out with h | h
  · rw [h] at E9 ⊢
    go_wp2
    go_ret
    exact ⟨(by rw [E9.out]; try rfl), B.out⟩
  · go_wp2
    go_ret
    exact ⟨(by rw [E9.out]; try rfl), B.out⟩
end Go.Proofs.Ytcafpaahbbachab
/-
  A region that reads a cell which its last operation writes: what reads may be taken first if what it reads stays until it has come up.
-/
namespace Go.Proofs.Ytcafpaahbbachab
open Go.RowKit
set_option linter.unusedSimpArgs false
set_option linter.unusedVariables false

section
variable {P : Program} {ops : Array Oper} {Q : Exit → Act → World → Prop} {md : Region.Mode} {S : World → Prop} {i : Nat}
/-- Number j doesn't wait for number i. -/
def freeOf (md : Region.Mode) (ops : Array Oper) (i j : Nat) : Bool :=
  match ops[j]? with
  | some o => o.after.all fun e => !(Region.binds md e && decide (e.on = i))
  | none => true
/-- Whatever order is picked from here on; behind each operation that doesn't wait for number i the condition holds. -/
def wpAnyD (P : Program) (md : Region.Mode) (ops : Array Oper) (Q : Exit → Act → World → Prop) (S : World → Prop) (i : Nat) : Nat → Array Bool → Act → World → Prop
  | 0, listed, a, w => Region.ready md ops listed = [] ∧ Q .normal a w
  | fuel + 1, listed, a, w => (Region.ready md ops listed = [] → Q .normal a w) ∧ ∀ j ∈ Region.ready md ops listed, wpOp P ops Q j (fun a' w' => (freeOf md ops i j = true → S w') ∧ wpAnyD P md ops Q S i fuel (listed.setIfInBounds j true) a' w') a w
theorem wpAny_ofD : ∀ (fuel : Nat) (listed : Array Bool) (a : Act) (w : World), wpAnyD P md ops Q S i fuel listed a w → wpAny P md ops Q fuel listed a w
  | 0, _, _, _, h => h
  | fuel + 1, _, _, _, h => ⟨h.1, fun j hj => wpOp_mono (fun a' w' h' => wpAny_ofD fuel _ a' w' h'.2) (h.2 j hj)⟩
theorem freeOf_of {j : Nat} {oj : Oper} (hj : ops[j]? = some oj) (h : ∀ e ∈ oj.after, Region.binds md e = true → e.on ≠ i) : freeOf md ops i j = true := by
  unfold freeOf
  rw [hj]
  show (oj.after.all fun e => !(Region.binds md e && decide (e.on = i))) = true
  rw [Array.all_eq_true']
  intro e he
  cases hb : Region.binds md e with
  | false => rfl
  | true => have := h e he hb; simp [this]
/-- Of two that may come up now neither waits for the other. -/
theorem up_free {j : Nat} {oj : Oper} {listed : Array Bool} (hj : j ∈ Region.ready md ops listed) (hi : i ∈ Region.ready md ops listed) (ho : ops[j]? = some oj) : ∀ e ∈ oj.after, Region.binds md e = true → e.on ≠ i := by
  obtain ⟨_, o, ho', hw⟩ := mem_ready.1 hj
  obtain ⟨hni, _⟩ := mem_ready.1 hi
  rw [ho] at ho'
  cases ho'
  intro e he hb hei
  have hd := hw e he hb
  rw [hei] at hd
  by_cases hlt : i < listed.size
  · rw [Array.getD_eq_getD_getElem?, Array.getElem?_eq_getElem hlt, Option.getD_some] at hd hni
    rw [hd] at hni
    cases hni
  · rw [Array.getD_eq_getD_getElem?, Array.getElem?_eq_none (by omega)] at hd
    cases hd
/-- What is known of all that have not come up is known when fewer have not. -/
def Aside (md : Region.Mode) (ops : Array Oper) (i : Nat) (oi : Oper) (listed : Array Bool) : Prop :=
  ∀ k ok, ops[k]? = some ok → k ≠ i → listed.getD k true = false → (∀ e ∈ ok.after, Region.binds md e = true → e.on ≠ i) → oi.apart ops ok = true
theorem Aside.more {oi : Oper} {listed : Array Bool} {j : Nat} (h : Aside md ops i oi listed) (hj : listed.getD j true = false) : Aside md ops i oi (listed.setIfInBounds j true) := fun k ok hk hki hu hno => by
  refine h k ok hk hki ?_ hno
  rcases Nat.decEq j k with hne | he
  · rwa [getD_set_ne true hne] at hu
  · rw [← he]; exact hj
theorem wpAny_until {oi : Oper} {v : Value} (hi : ops[i]? = some oi) (hsel : ∀ (j : Nat) (o : Oper) cs b, ops[j]? = some o → o.op ≠ .select cs b)
    (hQ : ∀ c a w, Q (.panic c) (a.put oi.dst v) w → Q (.panic c) a w) : ∀ (fuel : Nat) (listed : Array Bool) (a : Act) (w : World), Aside md ops i oi listed → i ∈ Region.ready md ops listed → YieldsIf P ops S oi v a → S w →
      wpAnyD P md ops Q S i fuel (listed.setIfInBounds i true) (a.put oi.dst v) w → wpAny P md ops Q (fuel + 1) listed a w
  | 0, listed, a, w, _, hr, hy, hS, H => by
    refine ⟨fun h => (by rw [h] at hr; cases hr), fun j hj => ?_⟩
    rcases Nat.decEq j i with hne | he
    · have h1 := ready_mono hj hne
      rw [H.1] at h1
      cases h1
    · rw [he]; exact hy.wpOp hi hS H
  | fuel + 1, listed, a, w, hA, hr, hy, hS, H => by
    refine ⟨fun h => (by rw [h] at hr; cases hr), fun j hj => ?_⟩
    rcases Nat.decEq j i with hne | he
    · obtain ⟨hju, oj, hoj, _⟩ := mem_ready.1 hj
      have hno := up_free hj hr hoj
      refine wpOp_mono (fun a' w' h => wpAny_until hi hsel hQ fuel (listed.setIfInBounds j true) a' w' (hA.more hju) (ready_mono hr (Ne.symm hne)) h.1 (h.2.1 (freeOf_of hoj hno)) ?_) (wpOp_putIf hoj (hA j oj hoj hne hju hno) (fun cs b => hsel i oi cs b hi) (fun cs b => hsel j oj cs b hoj) hQ hy (H.2 j (ready_mono hj hne)))
      rw [Array.setIfInBounds_comm _ _ hne]
      exact h.2.2
    · rw [he]; exact hy.wpOp hi hS (wpAny_ofD _ _ _ _ H)
theorem wpAny_till {oi : Oper} {v : Value} {fuel : Nat} {listed : Array Bool} {a : Act} {w : World} (S : World → Prop) (hi : ops[i]? = some oi)
    (hs : Region.noSelect ops = true) (hf : Region.free md ops listed i = true) (hr : (Region.ready md ops listed).contains i = true)
    (hQ : ∀ c a w, Q (.panic c) (a.put oi.dst v) w → Q (.panic c) a w) (hy : YieldsIf P ops S oi v a) (hS : S w)
    (h : S w → wpAnyD P md ops Q S i fuel (listed.setIfInBounds i true) (a.put oi.dst v) w) : wpAny P md ops Q (fuel + 1) listed a w :=
  wpAny_until hi (Region.noSelect_spec hs) hQ fuel listed a w (Region.free_spec hi hf) (by simpa using hr) hy hS (h hS)
def AllReadyD (P : Program) (md : Region.Mode) (ops : Array Oper) (Q : Exit → Act → World → Prop) (S : World → Prop) (i : Nat) (fuel : Nat) (listed : Array Bool) (a : Act) (w : World) (rs : List Nat) : Prop :=
  ∀ j ∈ rs, wpOp P ops Q j (fun a' w' => (freeOf md ops i j = true → S w') ∧ wpAnyD P md ops Q S i fuel (listed.setIfInBounds j true) a' w') a w
theorem AllReadyD.nil {fuel : Nat} {listed : Array Bool} {a : Act} {w : World} : AllReadyD P md ops Q S i fuel listed a w [] := fun _ h => by cases h
theorem AllReadyD.cons {fuel : Nat} {listed : Array Bool} {a : Act} {w : World} {j : Nat} {o : Oper} {rs : List Nat} (ho : ops[j]? = some o)
    (h : ∀ K' : Act → World → Prop, Shut (∀ a w, (freeOf md ops i j = true → S w) → wpAnyD P md ops Q S i fuel (listed.setIfInBounds j true) a w → K' a w) → if Region.wanted o (yielded ops a.tmps) = true then Oper.wp P o a w K' Q else K' (a.put o.dst undef) w)
    (hs : AllReadyD P md ops Q S i fuel listed a w rs) : AllReadyD P md ops Q S i fuel listed a w (j :: rs) := fun k hk => by
  rcases List.mem_cons.1 hk with rfl | hk
  · exact wpOp_step ho (fun K' hK => h K' (fun a w hS hW => hK a w ⟨hS, hW⟩))
  · exact hs k hk
theorem wpAnyD_ready {rs : List Nat} {fuel : Nat} {listed : Array Bool} {a : Act} {w : World} (hr : Region.ready md ops listed = rs) (hne : rs ≠ [])
    (h : AllReadyD P md ops Q S i fuel listed a w rs) : wpAnyD P md ops Q S i (fuel + 1) listed a w := ⟨fun h0 => absurd (hr ▸ h0) hne, hr ▸ h⟩
theorem wpAnyD_done {listed : Array Bool} {a : Act} {w : World} (hr : Region.ready md ops listed = []) (h : Q .normal a w) :
    ∀ fuel, wpAnyD P md ops Q S i fuel listed a w
  | 0 => ⟨hr, h⟩
  | _ + 1 => ⟨fun _ => h, by rw [hr]; simp⟩
theorem region_drew {id : Nat} {a : Act} {w : World} (hm : P.follows .mixedOrders = true) (h : ∀ wd, wd = w.drew → wpAny P .any ops Q ops.size (Array.replicate ops.size false) a wd) : (Code.region id ops true).wp P Q a w := wp_region_any hm (h _ rfl)
/-- What waits for number i owes nothing. -/
theorem waitsN {j : Nat} (h : freeOf md ops i j = false) : ¬ freeOf md ops i j = true := fun e => by rw [h] at e; cases e
theorem waitsD {j : Nat} {w : World} (h : freeOf md ops i j = false) : freeOf md ops i j = true → S w := fun e => by rw [h] at e; cases e
end
end Go.Proofs.Ytcafpaahbbachab
/-
  Rows of arrays (a name and a size each): how they lie in memory; the contracts of szArrS, toArrS, eqArrS.
-/
namespace Go.Proofs.Ytcafpaahbbachab
open Go.RowKit Go.Lib
set_option linter.unusedSimpArgs false
set_option linter.unusedVariables false

/-- An array: its name and its size. -/
structure AR where
  s : ByteArray
  n : Int
/-- A slice that holds these arrays, at lo or above. -/
def AV (w : World) (lo : Nat) (v : Value) (ts : List AR) : Prop :=
  ∃ ao cap, v = .slice ao ts.length cap ∧ (ts = [] ∨ ∃ g off, ao = some ⟨g, off, Option.none⟩ ∧ lo ≤ g ∧ g < w.heap.size ∧ ∀ i t, ts[i]? = some t →
    w.cell? ⟨g, off + i * 2, Option.none⟩ = some (.string t.s) ∧ w.cell? ⟨g, off + i * 2 + 1, Option.none⟩ = some (.int .i64 t.n))
theorem AV.same {w w' : World} {lo lo' : Nat} {v : Value} {ts : List AR} (hlo : lo' ≤ lo) (h : AV w lo v ts) (hk : Keeps lo w w') (hz : w.heap.size ≤ w'.heap.size) : AV w' lo' v ts := by
  obtain ⟨ao, cap, hv, h⟩ := h
  refine ⟨ao, cap, hv, ?_⟩
  rcases h with h | ⟨g, off, h1, h0, h2, h3⟩
  · exact .inl h
  · refine .inr ⟨g, off, h1, Nat.le_trans hlo h0, Nat.lt_of_lt_of_le h2 hz, fun i t hi => ?_⟩
    obtain ⟨a, b⟩ := h3 i t hi
    exact ⟨hk _ _ h0 a, hk _ _ h0 b⟩
theorem AV.later {w w' : World} {lo : Nat} {v : Value} {ts : List AR} (h : AV w lo v ts) (hb : Below w.heap.size w w') : AV w' lo v ts := h.same (Nat.le_refl _) (Keeps.later hb) hb.size
theorem AV.low {w : World} {lo : Nat} {v : Value} {ts : List AR} (h : AV w lo v ts) : AV w 0 v ts := h.same (Nat.zero_le _) (Keeps.refl _ _) (Nat.le_refl _)
theorem AV.shape {w : World} {lo : Nat} {v : Value} {ts : List AR} (h : AV w lo v ts) : ∃ a c, v = .slice a ts.length c := by obtain ⟨a, c, h1, _⟩ := h; exact ⟨a, c, h1⟩
/-- How many bytes their names have together. -/
def abytes : List AR → Nat
  | [] => 0
  | t :: ts => t.s.size + abytes ts
def asize (ts : List AR) : Nat := ts.length + abytes ts
theorem abytes_snoc (ts : List AR) (t : AR) : abytes (ts ++ [t]) = abytes ts + t.s.size := by
  induction ts with
  | nil => simp [abytes]
  | cons u us ih => simp only [List.cons_append, abytes, ih]; omega
theorem abytes_take (ts : List AR) (k : Nat) : abytes (ts.take k) ≤ abytes ts := by
  induction ts generalizing k with
  | nil => simp [abytes]
  | cons u us ih => cases k with
    | zero => simp [abytes]
    | succ k => have := ih k; simp only [List.take_succ_cons, abytes]; omega
theorem take_snocA {ts : List AR} {k : Nat} {t : AR} (h : ts[k]? = some t) : ts.take (k + 1) = ts.take k ++ [t] := by
  rw [List.take_add_one, h]; rfl
/-- The cells of a row of arrays. -/
def acells : List AR → List Value
  | [] => []
  | t :: ts => .string t.s :: .int .i64 t.n :: acells ts
theorem acells_len (ts : List AR) : (acells ts).length = ts.length * 2 := by
  induction ts with
  | nil => rfl
  | cons t ts ih => simp only [acells, List.length_cons, ih]; omega
theorem acells_snoc (ts : List AR) (t : AR) : acells (ts ++ [t]) = acells ts ++ [.string t.s, .int .i64 t.n] := by
  induction ts with
  | nil => rfl
  | cons u us ih => simp only [List.cons_append, acells, ih]
theorem acells_get (ts : List AR) : ∀ i t, ts[i]? = some t → (acells ts)[i * 2]? = some (.string t.s) ∧ (acells ts)[i * 2 + 1]? = some (.int .i64 t.n) := by
  induction ts with
  | nil => intro i t h; simp at h
  | cons u us ih =>
    intro i t h
    cases i with
    | zero => simp at h; subst h; exact ⟨rfl, rfl⟩
    | succ i =>
      have := ih i t (by simpa using h)
      rw [show (i + 1) * 2 = i * 2 + 2 by omega]
      simpa [acells] using this
theorem AV.laid {w : World} {g c : Nat} {ts : List AR} (hg : g < w.heap.size) (hr : w.rangeAt g 0 (acells ts)) : AV w g (.slice (some ⟨g, 0, Option.none⟩) ts.length c) ts :=
  ⟨_, c, rfl, .inr ⟨g, 0, rfl, Nat.le_refl _, hg, fun i t hi => ⟨hr _ _ (acells_get ts i t hi).1, by have := hr _ _ (acells_get ts i t hi).2; rwa [← Nat.add_assoc] at this⟩⟩⟩
theorem all2 (t : ByteArray) (k : Int) : (#[.string t, .int .i64 k] : Array Value).all (·.oneCell') = true :=
  all_oneCell_toArray (cs := [.string t, .int .i64 k]) (fun v hv => by
    simp only [List.mem_cons, List.not_mem_nil, or_false] at hv
    rcases hv with rfl | rfl <;> rfl)
end Go.Proofs.Ytcafpaahbbachab
