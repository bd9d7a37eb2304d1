/-
  Texts in one: StoEq, StoOpen, SzInts, OrdUntil, StoNew.
-/
import Derived.Test.YtcafpaahbbachabGreatP03ofEval
import Derived.Test.YtcafpaahbbachabGreatP01ofEval
import Derived.WalkKit
import Derived.ProofKit
import Derived.OpenShut
import Derived.ShutString
import Derived.ChangeOld
import Derived.Test.YtcafpaahbbachabGreatProg
import Derived.Deep.RegionHeld
import Derived.Test.YtcafpaahbbachabGreatP02ofEval
import Derived.Deep.AppendLies
/-
  Stores: eqSto, markSto, heldSto.
-/
namespace Go.Proofs.YtcafpaahbbachabGreat
open Go.RowKit Go.Lib
set_option linter.unusedSimpArgs false
set_option linter.unusedVariables false

/-- A store's parts, where they lie. -/
structure StoV (w : World) (va vv vo : Value) (A : List (List Int)) (V O : List Int) : Prop where
  a : IIV w 0 va A
  v : IV w 0 vv V
  o : IV w 0 vo O
theorem StoV.later {w w' : World} {va vv vo : Value} {A : List (List Int)} {V O : List Int} (h : StoV w va vv vo A V O) (hb : Below w.heap.size w w') : StoV w' va vv vo A V O := ⟨h.a.later hb, h.v.later hb, h.o.later hb⟩
/-- No more than so many. -/
structure StoL (A : List (List Int)) (V O : List Int) : Prop where
  a : A.length ≤ 10000000
  b : ∀ xs ∈ A, xs.length ≤ 10000000
  v : V.length ≤ 10000000
  o : O.length ≤ 10000000
theorem blkLast (v : World) (o : Obj) : (v.alloc o).heap[v.heap.size]? = some o := by show (v.heap.push o)[v.heap.size]? = _; simp
/-- Two boxes of four cells. -/
structure Bx2 (w w' : World) (N : Nat) (x0 x1 x2 x3 y0 y1 y2 y3 : Value) (t : TypeId) : Prop where
  p : w'.heap[N]? = some (.cells #[x0, x1, x2, x3] t (0, 0))
  q : w'.heap[N + 1]? = some (.cells #[y0, y1, y2, y3] t (0, 0))
  b : Below w.heap.size w w'
theorem Bx2.start (w : World) (x0 x1 x2 x3 y0 y1 y2 y3 : Value) (t : TypeId) : Bx2 w ((w.alloc (.cells #[x0, x1, x2, x3] t)).alloc (.cells #[y0, y1, y2, y3] t)) w.heap.size x0 x1 x2 x3 y0 y1 y2 y3 t :=
  ⟨by rw [Below.heap_alloc _ _ _ (by simp)]; exact blkLast _ _,
   (congrArg (fun n => ((w.alloc (.cells #[x0, x1, x2, x3] t)).alloc (.cells #[y0, y1, y2, y3] t)).heap[n]?) (show w.heap.size + 1 = (w.alloc (.cells #[x0, x1, x2, x3] t)).heap.size by simp)).trans (blkLast _ _),
   (alloc_below w _).alloc (by simp) _⟩
theorem Bx2.later {w w1 w2 : World} {N : Nat} {x0 x1 x2 x3 y0 y1 y2 y3 : Value} {t : TypeId} (h : Bx2 w w1 N x0 x1 x2 x3 y0 y1 y2 y3 t) (hb : Below w1.heap.size w1 w2) : Bx2 w w2 N x0 x1 x2 x3 y0 y1 y2 y3 t :=
  ⟨(hb.block _ (lt_heap h.p)).trans h.p, (hb.block _ (lt_heap h.q)).trans h.q, h.b.trans (hb.mono h.b.size)⟩
set_option maxHeartbeats 1000000 in
set_option maxRecDepth 100000 in
theorem eqSto_same (A : List (List Int)) (V O : List Int) (e : Int) (hl : StoL A V O) (va vv vo ua uv uo : Value) (w : World) (h : StoV w va vv vo A V O) (g : StoV w ua uv uo A V O) :
    Calls Tryz.prog 16 #[.agg #[va, vv, vo, .int .i64 e], .agg #[ua, uv, uo, .int .i64 e]] w fun e w' => e = .returned (.bool true) ∧ Below w.heap.size w w' := by
  have H := Lib.hid (And.intro h g)
  have hA : Hid (∀ xs ∈ A, xs.length ≤ 100000000) := fun xs hx => Nat.le_trans (hl.b xs hx) (by omega)
  have hAl : A.length ≤ 100000000 := Nat.le_trans hl.a (by omega)
  have hV : V.length ≤ 100000000 := Nat.le_trans hl.v (by omega)
  have hO : O.length ≤ 100000000 := Nat.le_trans hl.o (by omega)
  obtain ⟨a1, c1, rfl⟩ := h.a.shape
  obtain ⟨a2, c2, rfl⟩ := h.v.shape
  obtain ⟨a3, c3, rfl⟩ := h.o.shape
  obtain ⟨a4, c4, rfl⟩ := g.a.shape
  obtain ⟨a5, c5, rfl⟩ := g.v.shape
  obtain ⟨a6, c6, rfl⟩ := g.o.shape
  clear h g hl
  have P := Lib.hid (Bx2.start w (.slice a1 A.length c1) (.slice a2 V.length c2) (.slice a3 O.length c3) (.int .i64 e) (.slice a4 A.length c4) (.slice a5 V.length c5) (.slice a6 O.length c6) (.int .i64 e) 45)
  go_enter Tryz.func16, Tryz.ntmps16
  go_wp2_with fail
  refine (eqIntSS_same A hAl hA.out _ _ _ (H.out.1.a.later P.out.b) (H.out.2.a.later P.out.b)).mono ?_
  rintro e1 w1 ⟨rfl, hb1⟩
  have P1 := Lib.hid (P.out.later hb1)
  obtain ⟨⟨p0, p1, p2, p3⟩, _⟩ := blk4 P1.out.p
  obtain ⟨⟨q0, q1, q2, q3⟩, _⟩ := blk4 P1.out.q
  clear hb1 P
  go_wp2_with fail
  refine (eqIntS_same V hV _ _ _ (H.out.1.v.later P1.out.b) (H.out.2.v.later P1.out.b)).mono ?_
  rintro e1 w2 ⟨rfl, hb2⟩
  have P2 := Lib.hid (P1.out.later hb2)
  clear p0 p1 p2 p3 q0 q1 q2 q3
  obtain ⟨⟨p0, p1, p2, p3⟩, _⟩ := blk4 P2.out.p
  obtain ⟨⟨q0, q1, q2, q3⟩, _⟩ := blk4 P2.out.q
  clear hb2 P1
  go_wp2_with fail
  refine (eqIntS_same O hO _ _ _ (H.out.1.o.later P2.out.b) (H.out.2.o.later P2.out.b)).mono ?_
  rintro e1 w3 ⟨rfl, hb3⟩
  have P3 := Lib.hid (P2.out.later hb3)
  clear p0 p1 p2 p3 q0 q1 q2 q3
  obtain ⟨⟨p0, p1, p2, p3⟩, _⟩ := blk4 P3.out.p
  obtain ⟨⟨q0, q1, q2, q3⟩, _⟩ := blk4 P3.out.q
  clear hb3 P2
  go_wp2
  go_ret
  exact ⟨rfl, P3.out.b⟩
/-- A store that the call owns: its rows, each apart. -/
structure StoO (w : World) (B : Nat) (va : Value) (rs : List VR) (v o : VR) : Prop where
  out : w.ownsRow B 27 1 va rs.length (rs.map (·.1))
  own : Owns w B (rs ++ [v, o])
theorem StoO.later {w w' : World} {B : Nat} {va : Value} {rs : List VR} {v o : VR} (h : StoO w B va rs v o) (hb : Below w.heap.size w w') : StoO w' B va rs v o := ⟨ownB h.out hb, h.own.later hb⟩
theorem StoO.stoV {w : World} {B : Nat} {va : Value} {rs : List VR} {v o : VR} (h : StoO w B va rs v o) : StoV w va v.1 o.1 (rs.map (·.2)) v.2 o.2 :=
  ⟨iivOf h.out (fun r hr => h.own.row (List.mem_append_left _ hr)), (h.own.row (by simp)).low, (h.own.row (by simp)).low⟩
theorem StoO.ge {w : World} {B : Nat} {va : Value} {rs : List VR} {v o : VR} (h : StoO w B va rs v o) : ∀ r ∈ rs ++ [v, o], ∀ k, r.1.ownBlock = some k → B ≤ k := h.own.ge
theorem one4 {a b c d : Value} (ha : a.oneCell' = true) (hb : b.oneCell' = true) (hc : c.oneCell' = true) (hd : d.oneCell' = true) : (#[a, b, c, d] : Array Value).all (·.oneCell') = true :=
  all_oneCell_toArray (cs := [a, b, c, d]) (fun v hv => by
    simp only [List.mem_cons, List.not_mem_nil, or_false] at hv
    rcases hv with rfl | rfl | rfl | rfl <;> assumption)
/-- The store with marks in it. -/
structure StoM (w : World) (B : Nat) (va : Value) (rs : List VR) (v o : VR) : Prop where
  out : w.ownsRow B 27 1 va rs.length (rs.map (·.1))
  own : Owns w B (mkRows 1 (rs ++ [v, o]))
theorem StoM.later {w w' : World} {B : Nat} {va : Value} {rs : List VR} {v o : VR} (h : StoM w B va rs v o) (hb : Below w.heap.size w w') : StoM w' B va rs v o := ⟨ownB h.out hb, h.own.later hb⟩
theorem mk_two (rs : List VR) (v o : VR) (m : Nat) : mkRows m (rs ++ [v, o]) = mkRows m rs ++ [(v.1, imarks (m + tot rs) v.2.length), (o.1, imarks (m + tot rs + v.2.length) o.2.length)] := by rw [mkRows_app]; simp [mkRows]
theorem tot_two (rs : List VR) (v o : VR) : tot (rs ++ [v, o]) = tot rs + v.2.length + o.2.length := by rw [tot_app]; simp [tot]; omega
theorem apart_fst {rs rs' : List VR} (e : rs'.map (·.1) = rs.map (·.1)) (h : rs.Pairwise apartV) : rs'.Pairwise apartV := by
  have h1 : (rs.map (·.1)).Pairwise (fun (a b : Value) => ∀ k, a.ownBlock = some k → b.ownBlock ≠ some k) := by rw [List.pairwise_map]; exact h
  rw [← e, List.pairwise_map] at h1
  exact h1
/-- A block of one's own that is none of the rows'. -/
theorem OnlyR.blk {w w' : World} {B N : Nat} {rs : List VR} {ar : Array Value} {t : TypeId} (h : OnlyR rs w w') (ho : Owns w B rs) (hN : w.heap[N]? = some (.cells ar t (0, 0))) (ht : t ≠ 3) : w'.heap[N]? = some (.cells ar t (0, 0)) := by
  refine (h.block N (lt_heap hN) fun r hr ek => ?_).trans hN
  rcases (ho.own r hr).2 with ⟨e0, _⟩ | ⟨g', cap', cur', e1, e2, e3, e4⟩
  · rw [e0] at ek; cases ek
  · rw [e1] at ek
    injection ek with ek
    rw [show g' = N from ek] at e3
    rw [hN] at e3
    injection e3 with e3
    injection e3 with _ e3 _
    exact ht e3
theorem Owns.sub {w : World} {B : Nat} {rs rs' : List VR} (h : Owns w B rs) (hs : rs'.Sublist rs) : Owns w B rs' := ⟨fun r hr => h.own r (hs.subset hr), h.apart.sublist hs⟩
/-- Blocks that hold no row of numbers stay. -/
def Keeq (w w' : World) : Prop := ∀ (N : Nat) (ar : Array Value) (t : TypeId), t ≠ 3 → w.heap[N]? = some (.cells ar t (0, 0)) → w'.heap[N]? = some (.cells ar t (0, 0))
theorem Keeq.trans {a b c : World} (h : Keeq a b) (k : Keeq b c) : Keeq a c := fun N ar t ht hN => k N ar t ht (h N ar t ht hN)
theorem Keeq.of {w w' : World} (hb : Below w.heap.size w w') : Keeq w w' := fun N ar t ht hN => (hb.block _ (lt_heap hN)).trans hN
theorem OnlyR.keeq {w w' : World} {B : Nat} {rs : List VR} (h : OnlyR rs w w') (ho : Owns w B rs) : Keeq w w' := fun N ar t ht hN => h.blk ho hN ht
set_option maxHeartbeats 1000000 in
set_option maxRecDepth 100000 in
theorem markSto_is (rs : List VR) (v o : VR) (hm : 1 + tot (rs ++ [v, o]) ≤ 20000000) (hlen : rs.length ≤ 100000000) (B : Nat) (va : Value) (e : Int) (w : World) (hB : B ≤ w.heap.size) (h : StoO w B va rs v o) :
    Calls Tryz.prog 22 #[.agg #[va, v.1, o.1, .int .i64 e], .int .i64 1] w fun e w' => e = .returned (.int .i64 ((1 + tot (rs ++ [v, o]) : Nat) : Int)) ∧ StoM w' B va rs v o ∧ Below B w w' ∧ Keeq w w' := by
  have H := Lib.hid h
  obtain ⟨a1, c1, rfl⟩ := iownShape h.out
  obtain ⟨vv, V⟩ := v
  obtain ⟨vo, O⟩ := o
  obtain ⟨a2, c2, hv⟩ := iownShape (h.own.own (vv, V) (by simp))
  obtain ⟨a3, c3, ho⟩ := iownShape (h.own.own (vo, O) (by simp))
  simp only at hv ho
  subst hv; subst ho
  rw [tot_two] at hm
  simp only at hm
  clear h
  have hbw := alloc_below w (.cells #[.slice a1 rs.length c1, .slice a2 V.length c2, .slice a3 O.length c3, .int .i64 e] 45)
  have hN0 := blkLast w (.cells #[.slice a1 rs.length c1, .slice a2 V.length c2, .slice a3 O.length c3, .int .i64 e] 45)
  have W := Lib.hid (And.intro hbw hN0)
  clear hbw hN0
  rw [tot_two]
  go_enter Tryz.func22, Tryz.ntmps22
  go_wp2_with fail
  have h0 := H.out.later W.out.1
  refine (markIntSS_is rs [] [(.slice a2 V.length c2, V), (.slice a3 O.length c3, O)] 1 (by omega) hlen B B _ _ h0.out (by simpa using h0.own)).mono ?_
  rintro e1 w1 ⟨rfl, hw1, hg1⟩
  rw [List.nil_append] at hw1
  have hsub : Owns (w.alloc (.cells #[.slice a1 rs.length c1, .slice a2 V.length c2, .slice a3 O.length c3, .int .i64 e] 45)) B rs := h0.own.sub (List.sublist_append_left _ _)
  have hN1 := hg1.blk hsub W.out.2 (by decide)
  have ho1 : w1.ownsRow B 27 1 (.slice a1 rs.length c1) rs.length (rs.map (·.1)) := OnlyR.outer h0.out (by decide) hsub hg1
  have hb1 : Below B w w1 := (W.out.1.mono hB).trans (hg1.below (by simp; omega) (fun r hr => hsub.ge r hr))
  obtain ⟨⟨p0, p1, p2, p3⟩, _⟩ := blk4 hN1
  obtain ⟨T, hT⟩ : ∃ T, T = 1 + tot rs := ⟨_, rfl⟩
  rw [← hT]
  have KK1 := Lib.hid ((Keeq.of W.out.1).trans (hg1.keeq hsub))
  have K1 := Lib.hid (And.intro hw1 (And.intro hN1 (And.intro ho1 hb1)))
  have HT := Lib.hid hT
  clear hw1 hg1 hN1 ho1 hb1 h0 hsub hT H W
  go_wp2_with fail
  refine (markIntS_is V T (by have := HT.out; omega) B _ _ (K1.out.1.own (.slice a2 V.length c2, V) (by simp))).mono ?_
  rintro e1 w2 ⟨rfl, hn2, hg2⟩
  have hw2 := K1.out.1.put (P := mkRows 1 rs) (Q := [(.slice a3 O.length c3, O)]) (r := (.slice a2 V.length c2, V)) (r' := (.slice a2 V.length c2, imarks T V.length)) rfl hg2 (by rw [imarks_len]; exact hn2)
  have hs2 : Owns w1 B [(.slice a2 V.length c2, V)] := K1.out.1.sub (by simp)
  have hN2 := (OnlyR.of (r := (.slice a2 V.length c2, V)) hg2).blk hs2 K1.out.2.1 (by decide)
  have ho2 := OnlyR.outer K1.out.2.2.1 (by decide) hs2 (OnlyR.of (r := (.slice a2 V.length c2, V)) hg2)
  have hb2 : Below B w w2 := K1.out.2.2.2.trans ((OnlyR.of (r := (.slice a2 V.length c2, V)) hg2).below (Nat.le_trans hB K1.out.2.2.2.size) (fun r hr => hs2.ge r hr))
  clear p0 p1 p2 p3
  obtain ⟨⟨p0, p1, p2, p3⟩, _⟩ := blk4 hN2
  obtain ⟨U, hU⟩ : ∃ U, U = T + V.length := ⟨_, rfl⟩
  rw [← hU]
  have HU := Lib.hid hU
  have KK2 := Lib.hid (KK1.out.trans ((OnlyR.of (r := (.slice a2 V.length c2, V)) hg2).keeq hs2))
  have K2 := Lib.hid (And.intro hw2 (And.intro hN2 (And.intro ho2 hb2)))
  clear hw2 hg2 hN2 ho2 hb2 hs2 hU hn2 K1
  go_wp2_with fail
  refine (markIntS_is O U (by have := HT.out; have := HU.out; omega) B _ _ (K2.out.1.own (.slice a3 O.length c3, O) (by simp))).mono ?_
  rintro e1 w3 ⟨rfl, hn3, hg3⟩
  have hw3 := Owns.put (P := mkRows 1 rs ++ [(.slice a2 V.length c2, imarks T V.length)]) (Q := []) (r := (.slice a3 O.length c3, O)) (r' := (.slice a3 O.length c3, imarks U O.length)) (by have := K2.out.1; simpa [List.append_assoc] using this) rfl hg3 (by rw [imarks_len]; exact hn3)
  have hs3 : Owns w2 B [(.slice a3 O.length c3, O)] := K2.out.1.sub (by simp)
  have ho3 := OnlyR.outer K2.out.2.2.1 (by decide) hs3 (OnlyR.of (r := (.slice a3 O.length c3, O)) hg3)
  have hb3 : Below B w w3 := K2.out.2.2.2.trans ((OnlyR.of (r := (.slice a3 O.length c3, O)) hg3).below (Nat.le_trans hB K2.out.2.2.2.size) (fun r hr => hs3.ge r hr))
  have KK3 := Lib.hid (KK2.out.trans ((OnlyR.of (r := (.slice a3 O.length c3, O)) hg3).keeq hs3))
  have K3 := Lib.hid (And.intro hw3 (And.intro ho3 hb3))
  clear hw3 ho3 hb3 hs3 hn3 hg3 K2 p0 p1 p2 p3
  go_wp2
  go_ret
  refine ⟨by rw [HU.out, HT.out]; exact congrArg (fun n : Nat => Ending.returned (Value.int .i64 (n : Int))) (by omega), ⟨K3.out.2.1, ?_⟩, K3.out.2.2, KK3.out⟩
  rw [mk_two]
  have := K3.out.1
  rw [HU.out, HT.out] at this
  simpa [List.append_assoc] using this
set_option maxHeartbeats 1000000 in
set_option maxRecDepth 100000 in
theorem heldSto_is (rs : List VR) (v o : VR) (hm : 1 + tot (rs ++ [v, o]) ≤ 20000000) (hlen : rs.length ≤ 100000000) (B : Nat) (va : Value) (e : Int) (w : World) (h : StoM w B va rs v o) :
    Calls Tryz.prog 23 #[.agg #[va, v.1, o.1, .int .i64 e], .int .i64 1] w fun e w' => e = .returned (.int .i64 ((1 + tot (rs ++ [v, o]) : Nat) : Int)) ∧ Below w.heap.size w w' := by
  have hk := h.own
  rw [mk_two] at hk
  obtain ⟨vv, V⟩ := v
  obtain ⟨vo, O⟩ := o
  simp only at hk ⊢
  have hbw : ∀ t, Below w.heap.size w (w.alloc (.cells #[va, vv, vo, .int .i64 e] t)) := fun t => alloc_below _ _
  have I0 := Lib.hid (fun r (hr : r ∈ mkRows 1 rs) => (hk.row (List.mem_append_left _ hr)).low)
  have I1 : Hid (IV w 0 vv (imarks (1 + tot rs) V.length)) := (hk.row (r := (vv, imarks (1 + tot rs) V.length)) (by simp)).low
  have I2 : Hid (IV w 0 vo (imarks (1 + tot rs + V.length) O.length)) := (hk.row (r := (vo, imarks (1 + tot rs + V.length) O.length)) (by simp)).low
  have HO := Lib.hid h.out
  obtain ⟨a1, c1, rfl⟩ := iownShape h.out
  obtain ⟨a2, c2, hv⟩ := I1.out.shape
  obtain ⟨a3, c3, ho⟩ := I2.out.shape
  rw [imarks_len] at hv ho
  subst hv; subst ho
  rw [tot_two] at hm ⊢
  simp only at hm ⊢
  have B0 := Lib.hid (hbw 45)
  clear hbw h hk
  obtain ⟨T, hT⟩ : ∃ T, T = 1 + tot rs := ⟨_, rfl⟩
  obtain ⟨U, hU⟩ : ∃ U, U = T + V.length := ⟨_, rfl⟩
  have n1 : ¬ ((T : Int) < 0) := by omega
  have n2 : ¬ ((U : Int) < 0) := by omega
  have n3 : ¬ (((U + O.length : Nat) : Int) < 0) := by omega
  have n4 : ¬ ((U : Int) + (O.length : Int) < 0) := by omega
  rw [← hT] at I1 I2
  rw [← hU] at I2
  have e9 : 1 + (tot rs + V.length + O.length) = U + O.length := by omega
  rw [e9]
  have HT := Lib.hid hT
  have HU := Lib.hid hU
  clear hT hU e9
  go_enter Tryz.func23, Tryz.ntmps23
  go_wp2_with fail
  refine (heldIntSS_is rs 1 (by omega) hlen B _ _ (ownB HO.out B0.out) (fun r hr => (I0.out r hr).later B0.out)).mono ?_
  rintro e1 w1 ⟨rfl, rfl⟩
  rw [← HT.out]
  go_wp2_with fail
  refine (heldIntS_is V.length T (by have := HT.out; omega) _ _ (I1.out.later B0.out)).mono ?_
  rintro e1 w1 ⟨rfl, rfl⟩
  rw [← HU.out]
  go_wp2_with fail
  refine (heldIntS_is O.length U (by have := HT.out; have := HU.out; omega) _ _ (I2.out.later B0.out)).mono ?_
  rintro e1 w1 ⟨rfl, rfl⟩
  go_wp2
  go_ret
  exact ⟨rfl, B0.out⟩
end Go.Proofs.YtcafpaahbbachabGreat
/-
  Stores that came in, opened.
-/
namespace Go.Proofs.YtcafpaahbbachabGreat
open Go.ChangeShapes Go.WideShapes Go.ChangeAt Go.RowKit
set_option linter.unusedSimpArgs false
set_option linter.unusedVariables false

theorem cI7 : Tryz.prog.cellsOf 3 = 1 := by kernel_rfl
theorem cIs7 : Tryz.prog.cellsOf 27 = 1 := by kernel_rfl
theorem cIss7 : Tryz.prog.cellsOf 26 = 1 := by kernel_rfl
theorem cSto7 : Tryz.prog.cellsOf 29 = 4 := by kernel_rfl
theorem sizeLSto : (Tryz.prog.info? 29).map (·.size) = some 4 := by kernel_rfl
theorem add_plain7 (b o i : Nat) : (⟨b, o, Option.none⟩ : Addr).add i = ⟨b, o + i, Option.none⟩ := by simp [Addr.add]
section
variable {H : Type} {enc : TypeId × Value → H} {W : World} {sp : Nat → Bool} {held : Bool}
theorem build_ints {b o len : Nat} (each : ∀ i, i < len → ∃ t : Int, W.cell? ⟨b, o + i, Option.none⟩ = some (.int .i64 t)) :
    ∀ d, d ≤ len → ∃ R : List Int, R.length = d ∧ ∀ i t, R[i]? = some t → W.cell? ⟨b, o + i, Option.none⟩ = some (.int .i64 t)
  | 0, _ => ⟨[], rfl, fun i t h => by simp at h⟩
  | d + 1, hd => by
    obtain ⟨R, h1, h3⟩ := build_ints each d (by omega)
    obtain ⟨t, c0⟩ := each d (by omega)
    refine ⟨R ++ [t], by simp [h1], fun i u hu => ?_⟩
    rcases Nat.lt_or_ge i R.length with hi | hi
    · rw [List.getElem?_append_left hi] at hu; exact h3 i u hu
    · rw [List.getElem?_append_right hi] at hu
      have hi2 : i = d := by have := (List.getElem?_eq_some_iff.1 hu).1; simp at this; omega
      subst hi2
      rw [h1, Nat.sub_self] at hu
      simp at hu; subst hu; exact c0
theorem build_rows {b o len : Nat} (each : ∀ i, i < len → ∃ (xs : List Int) (u : Value), xs.length ≤ 9223372036854775807 ∧ W.cell? ⟨b, o + i, Option.none⟩ = some u ∧ IV W 0 u xs) :
    ∀ d, d ≤ len → ∃ R : List (List Int), R.length = d ∧ (∀ xs ∈ R, xs.length ≤ 9223372036854775807) ∧ ∀ i xs, R[i]? = some xs → ∃ u, W.cell? ⟨b, o + i, Option.none⟩ = some u ∧ IV W 0 u xs
  | 0, _ => ⟨[], rfl, fun _ h => by simp at h, fun i t h => by simp at h⟩
  | d + 1, hd => by
    obtain ⟨R, h1, h2, h3⟩ := build_rows each d (by omega)
    obtain ⟨t, u0, k, c0, c1⟩ := each d (by omega)
    refine ⟨R ++ [t], by simp [h1], fun u hu => ?_, fun i u hu => ?_⟩
    · rcases List.mem_append.1 hu with hu | hu
      · exact h2 u hu
      · simp only [List.mem_cons, List.not_mem_nil, or_false] at hu; subst hu; exact k
    · rcases Nat.lt_or_ge i R.length with hi | hi
      · rw [List.getElem?_append_left hi] at hu; exact h3 i u hu
      · rw [List.getElem?_append_right hi] at hu
        have hi2 : i = d := by have := (List.getElem?_eq_some_iff.1 hu).1; simp at this; omega
        subst hi2
        rw [h1, Nat.sub_self] at hu
        simp at hu; subst hu; exact ⟨u0, c0, c1⟩
theorem open_ints {fuel : Nat} {cs : List Value} {x : DataW H × List MemPlace} (h : DataW.trod enc Tryz.prog W 0 sp held fuel 27 cs = some x) : ∃ (v : Value) (xs : List Int), cs = [v] ∧ xs.length ≤ 9223372036854775807 ∧ IV W 0 v xs := by
  rcases DataW.trod_slice Tryz.underlying27 h with ⟨rfl, _⟩ | ⟨a, len, cap, elems, rest, n, hn, rfl, _, _, hl, hmx, hlen, hel, _, _⟩
  · exact ⟨_, [], rfl, by simp, _, _, rfl, .inl rfl⟩
  · rw [cI7] at hel
    have each : ∀ i, i < len → ∃ (cs' : List Value) (y : DataW H × List MemPlace), W.cells? 0 (a.add (i * 1)) 1 = some cs' ∧ DataW.trod enc Tryz.prog W 0 sp held n 3 cs' = some y := fun i hi => by
      have h1 := hel i hi
      rw [List.getElem?_eq_getElem (by omega), Option.bind_eq_some_iff] at h1
      obtain ⟨cs', h2, h3⟩ := h1
      exact ⟨cs', _, h2, h3⟩
    rcases Nat.eq_zero_or_pos len with h0 | h0
    · subst h0; exact ⟨_, [], rfl, by simp, _, _, rfl, .inl rfl⟩
    · have each2 : ∀ i, i < len → ∃ t : Int, W.cell? ((a.add (i * 1)).add 0) = some (.int .i64 t) := fun i hi => by
        obtain ⟨cs', y, h1, h2⟩ := each i hi
        obtain ⟨_, hc, hcell⟩ := World.cells?_some h1
        obtain ⟨t, rfl, _⟩ := DataW.trod_int Tryz.underlying3 h2
        exact ⟨t, by rw [hcell 0 (by omega)]; rfl⟩
      obtain ⟨b, off, spot⟩ := a
      have hsp : spot = Option.none := by
        obtain ⟨x, hc⟩ := each2 0 h0
        have := World.cell?_spot hc
        simpa [Addr.add] using this
      subst hsp
      have each3 : ∀ i, i < len → ∃ t : Int, W.cell? ⟨b, off + i, Option.none⟩ = some (.int .i64 t) := fun i hi => by
        obtain ⟨t, hc⟩ := each2 i hi
        rw [add_plain7, add_plain7] at hc
        exact ⟨t, by simpa using hc⟩
      obtain ⟨R, r1, r3⟩ := build_ints each3 len (Nat.le_refl _)
      have hlt : b < W.heap.size := by
        obtain ⟨t, hc⟩ := each3 0 h0
        exact lt_of_cellA hc
      refine ⟨_, R, rfl, by unfold maxLen at hmx; omega, _, cap, by rw [r1], .inr ⟨b, off, rfl, Nat.zero_le _, hlt, r3⟩⟩
theorem open_rows {fuel : Nat} {cs : List Value} {x : DataW H × List MemPlace} (h : DataW.trod enc Tryz.prog W 0 sp held fuel 26 cs = some x) : ∃ (v : Value) (A : List (List Int)), cs = [v] ∧ A.length ≤ 9223372036854775807 ∧ (∀ xs ∈ A, xs.length ≤ 9223372036854775807) ∧ IIV W 0 v A := by
  rcases DataW.trod_slice Tryz.underlying26 h with ⟨rfl, _⟩ | ⟨a, len, cap, elems, rest, n, hn, rfl, _, _, hl, hmx, hlen, hel, _, _⟩
  · exact ⟨_, [], rfl, by simp, fun _ h => by simp at h, _, _, rfl, .inl rfl⟩
  · rw [cIs7] at hel
    have each : ∀ i, i < len → ∃ (cs' : List Value) (y : DataW H × List MemPlace), W.cells? 0 (a.add (i * 1)) 1 = some cs' ∧ DataW.trod enc Tryz.prog W 0 sp held n 27 cs' = some y := fun i hi => by
      have h1 := hel i hi
      rw [List.getElem?_eq_getElem (by omega), Option.bind_eq_some_iff] at h1
      obtain ⟨cs', h2, h3⟩ := h1
      exact ⟨cs', _, h2, h3⟩
    rcases Nat.eq_zero_or_pos len with h0 | h0
    · subst h0; exact ⟨_, [], rfl, by simp, fun _ h => by simp at h, _, _, rfl, .inl rfl⟩
    · have each2 : ∀ i, i < len → ∃ (xs : List Int) (u : Value), xs.length ≤ 9223372036854775807 ∧ W.cell? ((a.add (i * 1)).add 0) = some u ∧ IV W 0 u xs := fun i hi => by
        obtain ⟨cs', y, h1, h2⟩ := each i hi
        obtain ⟨_, hc, hcell⟩ := World.cells?_some h1
        obtain ⟨u, xs, rfl, k1, k2⟩ := open_ints h2
        exact ⟨xs, u, k1, by rw [hcell 0 (by omega)]; rfl, k2⟩
      obtain ⟨b, off, spot⟩ := a
      have hsp : spot = Option.none := by
        obtain ⟨x, u, _, hc, _⟩ := each2 0 h0
        have := World.cell?_spot hc
        simpa [Addr.add] using this
      subst hsp
      have each3 : ∀ i, i < len → ∃ (xs : List Int) (u : Value), xs.length ≤ 9223372036854775807 ∧ W.cell? ⟨b, off + i, Option.none⟩ = some u ∧ IV W 0 u xs := fun i hi => by
        obtain ⟨t, u, k1, hc, k2⟩ := each2 i hi
        rw [add_plain7, add_plain7] at hc
        exact ⟨t, u, k1, by simpa using hc, k2⟩
      obtain ⟨R, r1, r2, r3⟩ := build_rows each3 len (Nat.le_refl _)
      have hlt : b < W.heap.size := by
        obtain ⟨t, u, _, hc, _⟩ := each3 0 h0
        exact lt_of_cellA hc
      refine ⟨_, R, rfl, by unfold maxLen at hmx; omega, r2, _, cap, by rw [r1], .inr ⟨b, off, rfl, Nat.zero_le _, hlt, r3⟩⟩
/-- No more than memory has. -/
structure StoG (A : List (List Int)) (V O : List Int) : Prop where
  a : A.length ≤ 9223372036854775807
  b : ∀ xs ∈ A, xs.length ≤ 9223372036854775807
  v : V.length ≤ 9223372036854775807
  o : O.length ≤ 9223372036854775807
set_option maxRecDepth 100000 in
theorem open_sto {fuel : Nat} {cs : List Value} {y : DataW H × List MemPlace} (h : DataW.trod enc Tryz.prog W 0 sp held fuel 29 cs = some y) :
    ∃ (A : List (List Int)) (V O : List Int) (en : Int) (va vv vo : Value), cs = [va, vv, vo, .int .i64 en] ∧ StoG A V O ∧ StoV W va vv vo A V O := by
  obtain ⟨xs, m, hm, _, hlen, hxl, hf⟩ := DataW.trod_struct Tryz.underlying29 h
  rw [cSto7] at hlen
  match xs, hxl, cs, hlen with
  | [y0, y1, y2, y3], _, [v0, v1, v2, v3], _ =>
    have g0 := hf 0 _ rfl
    have g1 := hf 1 _ rfl
    have g2 := hf 2 _ rfl
    have g3 := hf 3 _ rfl
    simp [cI7, cIs7, cIss7] at g0 g1 g2 g3
    obtain ⟨va, A, e0, k1, k2, k3⟩ := open_rows g0
    obtain ⟨vv, V, e1, j1, j2⟩ := open_ints g1
    obtain ⟨vo, O, e2, i1, i2⟩ := open_ints g2
    obtain ⟨n, e3, _, _⟩ := DataW.trod_int Tryz.underlying3 g3
    injection e0 with e0; injection e1 with e1; injection e2 with e2; injection e3 with e3
    subst e0; subst e1; subst e2; subst e3
    exact ⟨A, V, O, n, v0, v1, v2, rfl, ⟨k1, k2, j1, i1⟩, ⟨k3, j2, i2⟩⟩
end
/-- A store in four cells of a block. -/
structure Sb (w0 w : World) (n : Nat) (va vv vo : Value) (en : Int) (A : List (List Int)) (V O : List Int) : Prop where
  rg : w.rangeAt n 0 [va, vv, vo, .int .i64 en]
  sv : StoV w va vv vo A V O
  low : Below w0.heap.size w0 w
theorem Sb.later {w0 w w' : World} {n : Nat} {va vv vo : Value} {en : Int} {A : List (List Int)} {V O : List Int} (h : Sb w0 w n va vv vo en A V O) (hb : Below w.heap.size w w') : Sb w0 w' n va vv vo en A V O :=
  ⟨rangeAt_later h.rg hb, h.sv.later hb, h.low.trans (hb.mono h.low.size)⟩
theorem Sb.start {w0 w w' : World} {n : Nat} {va vv vo : Value} {en : Int} {A : List (List Int)} {V O : List Int} {t : TypeId} (h : StoV w0 va vv vo A V O) (hb : Below w0.heap.size w0 w) (hn : w.heap[n]? = some (.cells #[va, vv, vo, .int .i64 en] t (0, 0))) : Sb w0 w n va vv vo en A V O := ⟨blk_range hn, h.later hb, hb⟩
end Go.Proofs.YtcafpaahbbachabGreat
/-
  The sizes of stores: szIntS, szIntSS, szSto.
-/
namespace Go.Proofs.YtcafpaahbbachabGreat
open Go.RowKit Go.Lib
set_option linter.unusedSimpArgs false
set_option linter.unusedVariables false

/-- What is left of so many. -/
def lessBy (left : Int) (n : Nat) : Int := if left < (n : Int) then -1 else left - n
theorem lessBy_neg {left : Int} {n : Nat} (h : left < (n : Int)) : lessBy left n = -1 := by rw [lessBy, if_pos h]
theorem lessBy_pos {left : Int} {n : Nat} (h : ¬ left < (n : Int)) : lessBy left n = left - n := by rw [lessBy, if_neg h]
set_option maxHeartbeats 1000000 in
theorem szIntS_is (n : Nat) (hn : n ≤ 9223372036854775807) (a : Option Addr) (c : Nat) (left : Int) (h0 : 0 ≤ left) (h1 : left ≤ 1048576) (w : World) :
    Calls Tryz.prog 27 #[.slice a n c, .int .i64 left] w fun e w' => e = .returned (.int .i64 (lessBy left n)) ∧ w' = w := by
  have hnI : (n : Int) ≤ 9223372036854775807 := by omega
  by_cases hd : left < (n : Int)
  · have hd2 : left - (n : Int) < 0 := by omega
    have e1 := Lib.hid (lessBy_neg hd)
    go_enter Tryz.func27, Tryz.ntmps27
    go_wp2
    go_ret
    exact ⟨(by rw [e1.out]; try rfl), rfl⟩
  · have hd2 : ¬ left - (n : Int) < 0 := by omega
    have e1 := Lib.hid (lessBy_pos hd)
    go_enter Tryz.func27, Tryz.ntmps27
    go_wp2
    go_ret
    exact ⟨(by rw [e1.out]; try rfl), rfl⟩
theorem totA_app (a b : List (List Int)) : totA (a ++ b) = totA a + totA b := by
  induction a with
  | nil => simp [totA]
  | cons x xs ih => simp only [List.cons_append, totA, ih]; omega
theorem totA_take {A : List (List Int)} {k : Nat} {x : List Int} (h : A[k]? = some x) : totA (A.take (k + 1)) = totA (A.take k) + x.length := by
  rw [List.take_add_one, h, totA_app]; simp [totA]
theorem totA_le (A : List (List Int)) (k : Nat) : totA (A.take k) ≤ totA A := by
  have e := totA_app (A.take k) (A.drop k)
  rw [List.take_append_drop] at e; omega
set_option maxHeartbeats 2000000 in
set_option maxRecDepth 100000 in
theorem szIntSS_is (A : List (List Int)) (hA : A.length ≤ 9223372036854775807) (hi : ∀ xs ∈ A, xs.length ≤ 9223372036854775807) (v : Value) (w : World) (hv : IIV w 0 v A) (left : Int) (h0 : 0 ≤ left) (h1 : left ≤ 1048576) :
    Calls Tryz.prog 26 #[v, .int .i64 left] w fun e w' => e = .returned (.int .i64 (lessBy left (A.length + totA A))) ∧ w' = w := by
  have HV := Lib.hid hv
  have HI := Lib.hid hi
  have hnI : (A.length : Int) ≤ 9223372036854775807 := by omega
  obtain ⟨ao, ca, rfl⟩ := hv.shape
  clear hv hi
  by_cases hd : left < (A.length : Int)
  · have hd2 : left - (A.length : Int) < 0 := by omega
    have e1 : Hid (lessBy left (A.length + totA A) = -1) := lessBy_neg (by omega)
    go_enter Tryz.func26, Tryz.ntmps26
    go_wp2
    go_ret
    exact ⟨(by rw [e1.out]; try rfl), rfl⟩
  · have hd2 : ¬ left - (A.length : Int) < 0 := by omega
    obtain ⟨L0, hL0⟩ : ∃ L0 : Nat, left - (A.length : Int) = (L0 : Int) := ⟨(left - (A.length : Int)).toNat, by omega⟩
    have HL := Lib.hid hL0
    have hL1 : L0 ≤ 1048576 := by omega
    go_enter Tryz.func26, Tryz.ntmps26
    go_wp2
    try rw [hL0]
    clear hL0 hd hd2
    go_loopw [1, 5] (fun x i wr => ∃ (k L : Nat), k ≤ A.length ∧ i = .int .i64 k ∧ x = .int .i64 (L : Int) ∧ Hid (L + totA (A.take k) = L0) ∧ wr = w) (fun _ i _ => A.length - (RowKit.intOf i).toNat)
    case atStart => exact ⟨0, L0, by omega, rfl, rfl, (by show L0 + totA (A.take 0) = L0; simp [totA]), rfl⟩
    case round =>
      obtain ⟨k, L, hk, rfl, rfl, hl, rfl⟩ := hrel
      by_cases hlt : k < A.length
      · have hltI : (k : Int) < (A.length : Int) := by omega
        obtain ⟨x, hx⟩ : ∃ x, A[k]? = some x := ⟨A[k], List.getElem?_eq_getElem hlt⟩
        obtain ⟨g, off, u, rfl, hc, hu⟩ := HV.out.at hx
        obtain ⟨pa, qa, rfl⟩ := hu.shape
        have hxl := HI.out x (List.mem_of_getElem? hx)
        have Htk := Lib.hid (totA_take hx)
        have Hle := Lib.hid (totA_le A (k + 1))
        have hLs : L ≤ L0 := by have := hl.out; omega
        clear hu hx
        by_cases hd : (L : Int) < (x.length : Int)
        · have e1 : Hid (lessBy left (A.length + totA A) = -1) := lessBy_neg (by have h1 := Htk.out; have h2 := Hle.out; have h3 := hl.out; have h4 := HL.out; omega)
          have e2 := lessBy_neg hd
          go_wp2_with fail
          refine (szIntS_is x.length hxl pa qa (L : Int) (by omega) (by omega) _).mono ?_
          rintro e w1 ⟨rfl, rfl⟩
          rw [e2]
          clear e2 hc
          go_wp2
          go_ret
          exact ⟨(by rw [e1.out]; try rfl), rfl⟩
        · have e2 := lessBy_pos hd
          obtain ⟨M, hM⟩ : ∃ M : Nat, (L : Int) - (x.length : Int) = (M : Int) := ⟨L - x.length, by omega⟩
          rw [hM] at e2
          have HM := Lib.hid hM
          have hMn : ¬ (M : Int) < 0 := by omega
          clear hM hd
          go_wp2_with fail
          refine (szIntS_is x.length hxl pa qa (L : Int) (by omega) (by omega) _).mono ?_
          rintro e w1 ⟨rfl, rfl⟩
          rw [e2]
          clear e2 hc
          go_wp2
          go_roundw
          case rel => exact ⟨k + 1, M, by omega, by go_num, rfl, (by have h1 := Htk.out; have h3 := hl.out; have h4 := HM.out; show M + totA (A.take (k + 1)) = L0; omega), trivial⟩
          case measure => simp [RowKit.intOf]; omega
      · have e1 : Hid (lessBy left (A.length + totA A) = (L : Int)) := by
          have h3 := hl.out
          rw [List.take_of_length_le (by omega)] at h3
          have h4 := HL.out
          show lessBy left (A.length + totA A) = (L : Int)
          rw [lessBy_pos (by omega)]
          omega
        go_wp2
        go_ret
        exact ⟨(by rw [e1.out]; try rfl), rfl⟩
set_option maxHeartbeats 1000000 in
set_option maxRecDepth 100000 in
theorem szSto_is (A : List (List Int)) (V O : List Int) (en : Int) (hA : A.length ≤ 9223372036854775807) (hi : ∀ xs ∈ A, xs.length ≤ 9223372036854775807) (hV : V.length ≤ 9223372036854775807) (hO : O.length ≤ 9223372036854775807) (va vv vo : Value) (w : World) (ha : IIV w 0 va A) (hv : IV w 0 vv V) (ho : IV w 0 vo O) (left : Int) (h0 : 0 ≤ left) (h1 : left ≤ 1048576) :
    Calls Tryz.prog 6 #[.agg #[va, vv, vo, .int .i64 en], .int .i64 left] w fun e w' => e = .returned (.int .i64 (lessBy left (A.length + totA A + V.length + O.length))) ∧ Below w.heap.size w w' := by
  have HA := Lib.hid ha
  obtain ⟨a1, c1, rfl⟩ := ha.shape
  obtain ⟨a2, c2, rfl⟩ := hv.shape
  obtain ⟨a3, c3, rfl⟩ := ho.shape
  have B := Lib.hid (alloc_below w (.cells #[.slice a1 A.length c1, .slice a2 V.length c2, .slice a3 O.length c3, .int .i64 en] 29))
  clear ha hv ho
  by_cases d1 : left < ((A.length + totA A : Nat) : Int)
  · have e1 := lessBy_neg d1
    have e9 : Hid (lessBy left (A.length + totA A + V.length + O.length) = -1) := lessBy_neg (by omega)
    go_enter Tryz.func6, Tryz.ntmps6
    go_wp2_with fail
    refine (szIntSS_is A hA hi _ _ (HA.out.later B.out) left h0 h1).mono ?_
    rintro e w1 ⟨rfl, rfl⟩
    rw [e1]
    clear e1
    go_wp2
    go_ret
    exact ⟨(by rw [e9.out]; try rfl), B.out⟩
  obtain ⟨L, hL⟩ : ∃ L : Nat, left - ((A.length + totA A : Nat) : Int) = (L : Int) := ⟨(left - ((A.length + totA A : Nat) : Int)).toNat, by omega⟩
  have e1 := lessBy_pos d1
  rw [hL] at e1
  have nL : ¬ (L : Int) < 0 := by omega
  have lL : (L : Int) ≤ 1048576 := by omega
  by_cases d2 : (L : Int) < (V.length : Int)
  · have e2 := lessBy_neg d2
    have e9 : Hid (lessBy left (A.length + totA A + V.length + O.length) = -1) := lessBy_neg (by omega)
    clear hL d1
    go_enter Tryz.func6, Tryz.ntmps6
    go_wp2_with fail
    refine (szIntSS_is A hA hi _ _ (HA.out.later B.out) left h0 h1).mono ?_
    rintro e w1 ⟨rfl, rfl⟩
    rw [e1]
    clear e1
    go_wp2_with fail
    refine (szIntS_is V.length hV _ _ (L : Int) (by omega) lL _).mono ?_
    rintro e w1 ⟨rfl, rfl⟩
    rw [e2]
    clear e2
    go_wp2
    go_ret
    exact ⟨(by rw [e9.out]; try rfl), B.out⟩
  obtain ⟨M, hM⟩ : ∃ M : Nat, (L : Int) - (V.length : Int) = (M : Int) := ⟨L - V.length, by omega⟩
  have e2 := lessBy_pos d2
  rw [hM] at e2
  have nM : ¬ (M : Int) < 0 := by omega
  have lM : (M : Int) ≤ 1048576 := by omega
  have e9 : lessBy left (A.length + totA A + V.length + O.length) = lessBy (M : Int) O.length := by
    by_cases d3 : (M : Int) < (O.length : Int)
    · rw [lessBy_neg d3, lessBy_neg (by omega)]
    · rw [lessBy_pos d3, lessBy_pos (by omega)]; omega
  have E9 := Lib.hid e9
  have n9 : Hid (lessBy (M : Int) O.length = -1 ∨ ¬ lessBy (M : Int) O.length < 0) := by
    by_cases d3 : (M : Int) < (O.length : Int)
    · exact .inl (lessBy_neg d3)
    · exact .inr (by rw [lessBy_pos d3]; omega)
  obtain ⟨R, hR⟩ : ∃ R, R = lessBy (M : Int) O.length := ⟨_, rfl⟩
  rw [← hR] at n9 E9
  have HR := Lib.hid hR
  clear hL d1 hM d2 e9 hR
  go_enter Tryz.func6, Tryz.ntmps6
  go_wp2_with fail
  refine (szIntSS_is A hA hi _ _ (HA.out.later B.out) left h0 h1).mono ?_
  rintro e w1 ⟨rfl, rfl⟩
  rw [e1]
  clear e1
  go_wp2_with fail
  refine (szIntS_is V.length hV _ _ (L : Int) (by omega) lL _).mono ?_
  rintro e w1 ⟨rfl, rfl⟩
  rw [e2]
  clear e2
  go_wp2_with fail
  refine (szIntS_is O.length hO _ _ (M : Int) (by omega) lM _).mono ?_
  rintro e w1 ⟨rfl, rfl⟩
  rw [← HR.out]
  rcases n9.out with h | h
  · rw [h] at E9 ⊢
    go_wp2
    go_ret
    exact ⟨(by rw [E9.out]; try rfl), B.out⟩
  · go_wp2
    go_ret
    exact ⟨(by rw [E9.out]; try rfl), B.out⟩
end Go.Proofs.YtcafpaahbbachabGreat
/-
  A region that reads a cell which its last operation writes: what reads may be taken first if what it reads stays until it has come up.
-/
namespace Go.Proofs.YtcafpaahbbachabGreat
open Go.RowKit
set_option linter.unusedSimpArgs false
set_option linter.unusedVariables false

section
variable {P : Program} {ops : Array Oper} {Q : Exit → Act → World → Prop} {md : Region.Mode} {S : World → Prop} {i : Nat}
/-- Number j doesn't wait for number i. -/
def freeOf (md : Region.Mode) (ops : Array Oper) (i j : Nat) : Bool :=
  match ops[j]? with
  | some o => o.after.all fun e => !(Region.binds md e && decide (e.on = i))
  | none => true
/-- Whatever order is picked from here on; behind each operation that doesn't wait for number i the condition holds. -/
def wpAnyD (P : Program) (md : Region.Mode) (ops : Array Oper) (Q : Exit → Act → World → Prop) (S : World → Prop) (i : Nat) : Nat → Array Bool → Act → World → Prop
  | 0, listed, a, w => Region.ready md ops listed = [] ∧ Q .normal a w
  | fuel + 1, listed, a, w => (Region.ready md ops listed = [] → Q .normal a w) ∧ ∀ j ∈ Region.ready md ops listed, wpOp P ops Q j (fun a' w' => (freeOf md ops i j = true → S w') ∧ wpAnyD P md ops Q S i fuel (listed.setIfInBounds j true) a' w') a w
theorem wpAny_ofD : ∀ (fuel : Nat) (listed : Array Bool) (a : Act) (w : World), wpAnyD P md ops Q S i fuel listed a w → wpAny P md ops Q fuel listed a w
  | 0, _, _, _, h => h
  | fuel + 1, _, _, _, h => ⟨h.1, fun j hj => wpOp_mono (fun a' w' h' => wpAny_ofD fuel _ a' w' h'.2) (h.2 j hj)⟩
theorem freeOf_of {j : Nat} {oj : Oper} (hj : ops[j]? = some oj) (h : ∀ e ∈ oj.after, Region.binds md e = true → e.on ≠ i) : freeOf md ops i j = true := by
  unfold freeOf
  rw [hj]
  show (oj.after.all fun e => !(Region.binds md e && decide (e.on = i))) = true
  rw [Array.all_eq_true']
  intro e he
  cases hb : Region.binds md e with
  | false => rfl
  | true => have := h e he hb; simp [this]
/-- Of two that may come up now neither waits for the other. -/
theorem up_free {j : Nat} {oj : Oper} {listed : Array Bool} (hj : j ∈ Region.ready md ops listed) (hi : i ∈ Region.ready md ops listed) (ho : ops[j]? = some oj) : ∀ e ∈ oj.after, Region.binds md e = true → e.on ≠ i := by
  obtain ⟨_, o, ho', hw⟩ := mem_ready.1 hj
  obtain ⟨hni, _⟩ := mem_ready.1 hi
  rw [ho] at ho'
  cases ho'
  intro e he hb hei
  have hd := hw e he hb
  rw [hei] at hd
  by_cases hlt : i < listed.size
  · rw [Array.getD_eq_getD_getElem?, Array.getElem?_eq_getElem hlt, Option.getD_some] at hd hni
    rw [hd] at hni
    cases hni
  · rw [Array.getD_eq_getD_getElem?, Array.getElem?_eq_none (by omega)] at hd
    cases hd
/-- What is known of all that have not come up is known when fewer have not. -/
def Aside (md : Region.Mode) (ops : Array Oper) (i : Nat) (oi : Oper) (listed : Array Bool) : Prop :=
  ∀ k ok, ops[k]? = some ok → k ≠ i → listed.getD k true = false → (∀ e ∈ ok.after, Region.binds md e = true → e.on ≠ i) → oi.apart ops ok = true
theorem Aside.more {oi : Oper} {listed : Array Bool} {j : Nat} (h : Aside md ops i oi listed) (hj : listed.getD j true = false) : Aside md ops i oi (listed.setIfInBounds j true) := fun k ok hk hki hu hno => by
  refine h k ok hk hki ?_ hno
  rcases Nat.decEq j k with hne | he
  · rwa [getD_set_ne true hne] at hu
  · rw [← he]; exact hj
theorem wpAny_until {oi : Oper} {v : Value} (hi : ops[i]? = some oi) (hsel : ∀ (j : Nat) (o : Oper) cs b, ops[j]? = some o → o.op ≠ .select cs b)
    (hQ : ∀ c a w, Q (.panic c) (a.put oi.dst v) w → Q (.panic c) a w) : ∀ (fuel : Nat) (listed : Array Bool) (a : Act) (w : World), Aside md ops i oi listed → i ∈ Region.ready md ops listed → YieldsIf P ops S oi v a → S w →
      wpAnyD P md ops Q S i fuel (listed.setIfInBounds i true) (a.put oi.dst v) w → wpAny P md ops Q (fuel + 1) listed a w
  | 0, listed, a, w, _, hr, hy, hS, H => by
    refine ⟨fun h => (by rw [h] at hr; cases hr), fun j hj => ?_⟩
    rcases Nat.decEq j i with hne | he
    · have h1 := ready_mono hj hne
      rw [H.1] at h1
      cases h1
    · rw [he]; exact hy.wpOp hi hS H
  | fuel + 1, listed, a, w, hA, hr, hy, hS, H => by
    refine ⟨fun h => (by rw [h] at hr; cases hr), fun j hj => ?_⟩
    rcases Nat.decEq j i with hne | he
    · obtain ⟨hju, oj, hoj, _⟩ := mem_ready.1 hj
      have hno := up_free hj hr hoj
      refine wpOp_mono (fun a' w' h => wpAny_until hi hsel hQ fuel (listed.setIfInBounds j true) a' w' (hA.more hju) (ready_mono hr (Ne.symm hne)) h.1 (h.2.1 (freeOf_of hoj hno)) ?_) (wpOp_putIf hoj (hA j oj hoj hne hju hno) (fun cs b => hsel i oi cs b hi) (fun cs b => hsel j oj cs b hoj) hQ hy (H.2 j (ready_mono hj hne)))
      rw [Array.setIfInBounds_comm _ _ hne]
      exact h.2.2
    · rw [he]; exact hy.wpOp hi hS (wpAny_ofD _ _ _ _ H)
theorem wpAny_till {oi : Oper} {v : Value} {fuel : Nat} {listed : Array Bool} {a : Act} {w : World} (S : World → Prop) (hi : ops[i]? = some oi)
    (hs : Region.noSelect ops = true) (hf : Region.free md ops listed i = true) (hr : (Region.ready md ops listed).contains i = true)
    (hQ : ∀ c a w, Q (.panic c) (a.put oi.dst v) w → Q (.panic c) a w) (hy : YieldsIf P ops S oi v a) (hS : S w)
    (h : S w → wpAnyD P md ops Q S i fuel (listed.setIfInBounds i true) (a.put oi.dst v) w) : wpAny P md ops Q (fuel + 1) listed a w :=
  wpAny_until hi (Region.noSelect_spec hs) hQ fuel listed a w (Region.free_spec hi hf) (by simpa using hr) hy hS (h hS)
def AllReadyD (P : Program) (md : Region.Mode) (ops : Array Oper) (Q : Exit → Act → World → Prop) (S : World → Prop) (i : Nat) (fuel : Nat) (listed : Array Bool) (a : Act) (w : World) (rs : List Nat) : Prop :=
  ∀ j ∈ rs, wpOp P ops Q j (fun a' w' => (freeOf md ops i j = true → S w') ∧ wpAnyD P md ops Q S i fuel (listed.setIfInBounds j true) a' w') a w
theorem AllReadyD.nil {fuel : Nat} {listed : Array Bool} {a : Act} {w : World} : AllReadyD P md ops Q S i fuel listed a w [] := fun _ h => by cases h
theorem AllReadyD.cons {fuel : Nat} {listed : Array Bool} {a : Act} {w : World} {j : Nat} {o : Oper} {rs : List Nat} (ho : ops[j]? = some o)
    (h : ∀ K' : Act → World → Prop, Shut (∀ a w, (freeOf md ops i j = true → S w) → wpAnyD P md ops Q S i fuel (listed.setIfInBounds j true) a w → K' a w) → if Region.wanted o (yielded ops a.tmps) = true then Oper.wp P o a w K' Q else K' (a.put o.dst undef) w)
    (hs : AllReadyD P md ops Q S i fuel listed a w rs) : AllReadyD P md ops Q S i fuel listed a w (j :: rs) := fun k hk => by
  rcases List.mem_cons.1 hk with rfl | hk
  · exact wpOp_step ho (fun K' hK => h K' (fun a w hS hW => hK a w ⟨hS, hW⟩))
  · exact hs k hk
theorem wpAnyD_ready {rs : List Nat} {fuel : Nat} {listed : Array Bool} {a : Act} {w : World} (hr : Region.ready md ops listed = rs) (hne : rs ≠ [])
    (h : AllReadyD P md ops Q S i fuel listed a w rs) : wpAnyD P md ops Q S i (fuel + 1) listed a w := ⟨fun h0 => absurd (hr ▸ h0) hne, hr ▸ h⟩
theorem wpAnyD_done {listed : Array Bool} {a : Act} {w : World} (hr : Region.ready md ops listed = []) (h : Q .normal a w) :
    ∀ fuel, wpAnyD P md ops Q S i fuel listed a w
  | 0 => ⟨hr, h⟩
  | _ + 1 => ⟨fun _ => h, by rw [hr]; simp⟩
theorem region_drew {id : Nat} {a : Act} {w : World} (hm : P.follows .mixedOrders = true) (h : ∀ wd, wd = w.drew → wpAny P .any ops Q ops.size (Array.replicate ops.size false) a wd) : (Code.region id ops true).wp P Q a w := wp_region_any hm (h _ rfl)
/-- What waits for number i owes nothing. -/
theorem waitsN {j : Nat} (h : freeOf md ops i j = false) : ¬ freeOf md ops i j = true := fun e => by rw [h] at e; cases e
theorem waitsD {j : Nat} {w : World} (h : freeOf md ops i j = false) : freeOf md ops i j = true → S w := fun e => by rw [h] at e; cases e
end
end Go.Proofs.YtcafpaahbbachabGreat
/-
  A new store: the contracts of noughts, impl.StoNew, spec.StoNew.
-/
namespace Go.Proofs.YtcafpaahbbachabGreat
open Go.RowKit Go.Lib
set_option linter.unusedSimpArgs false
set_option linter.unusedVariables false

/-- So many noughts; none of what is no size. -/
def nz (n : Int) : List Int := if n < 0 ∨ 16 < n then [] else List.replicate n.toNat 0
theorem nz_len (n : Int) : (nz n).length ≤ 16 := by
  unfold nz
  split
  · simp
  · rw [List.length_replicate]; omega
theorem made0 (n : Nat) : (madeCells #[Value.int .i64 0] n).toList = ints (List.replicate n 0) := by
  apply List.ext_getElem?
  intro i
  by_cases h : i < n
  · simp [madeCells, ints, h, Value.cells, List.getElem?_replicate, Nat.mod_one]
  · simp [madeCells, ints, h, Value.cells, List.getElem?_replicate, Nat.mod_one]
theorem infoI8 : (Tryz.prog.info? 3).map (fun i => (i.zero, i.size, i.bytes)) = some (some (.int .i64 0), 1, 8) := by kernel_rfl
theorem infoIS8 : (Tryz.prog.info? 27).map (fun i => (i.zero, i.size, i.bytes)) = some (some (.slice Option.none 0 0), 1, 24) := by kernel_rfl
theorem sizeSto : (Tryz.prog.info? 45).map (·.size) = some 4 := by kernel_rfl
/-- A fresh row of noughts. -/
def Fresh (w w' : World) (v : Value) (xs : List Int) : Prop := w'.ownsRow w.heap.size 3 1 v xs.length (ints xs) ∧ Below w.heap.size w w'
theorem fresh_made {w w1 : World} {n : Nat} (hown : w1.ownsRow w.heap.size 3 1 (.slice (some ⟨w.heap.size, 0, Option.none⟩) n n) n (madeCells #[Value.int .i64 0] n).toList) (hgrow : w.grownBy w1 Option.none) : Fresh w w1 (.slice (some ⟨w.heap.size, 0, Option.none⟩) n n) (List.replicate n 0) := by
  rw [made0] at hown
  exact ⟨by rw [List.length_replicate]; exact hown, (Below.refl _ w).grown hgrow (Nat.le_refl _) (fun k hk => by cases hk)⟩
set_option maxHeartbeats 1000000 in
theorem noughts_is (n : Int) (w : World) :
    Calls Tryz.prog 101 #[.int .i64 n] w fun e w' => ∃ v, e = .returned v ∧ Fresh w w' v (nz n) := by
  obtain ⟨i0, hi, hz0, hz1, hz2⟩ := info_parts infoI8
  by_cases h1 : n < 0
  · go_enter Tryz.func101, Tryz.ntmps101
    go_wp2
    go_ret
    exact ⟨_, rfl, by rw [nz, if_pos (.inl h1)]; exact ⟨World.ownsRow_nil _ _ _ _, Below.refl _ _⟩⟩
  by_cases h2 : n > 16
  · go_enter Tryz.func101, Tryz.ntmps101
    go_wp2
    go_ret
    exact ⟨_, rfl, by rw [nz, if_pos (.inr h2)]; exact ⟨World.ownsRow_nil _ _ _ _, Below.refl _ _⟩⟩
  obtain ⟨k, rfl⟩ : ∃ k : Nat, n = (k : Int) := ⟨n.toNat, by omega⟩
  have hk : k ≤ 16 := by omega
  go_enter Tryz.func101, Tryz.ntmps101
  go_wp2_with (refine wpList_make_full _ rfl _ _ 27 rfl w.heap.size 3 i0 _ 1 Tryz.underlying27 hi hz0 hz1 .i64 .i64 _ _ k rfl rfl rfl rfl ?c1 ?c2 ?c3 ?_)
  case c1 => first | omega | (rw [hz2]; omega)
  case c2 => unfold maxLen; omega
  try (case c3 => exact Nat.le_refl _)
  intro w1 hown hgrow
  have HF := Lib.hid (fresh_made hown hgrow)
  clear hown hgrow
  go_wp2
  go_ret
  exact ⟨_, rfl, by rw [nz, if_neg (by omega)]; exact HF.out⟩
theorem own_ne {w : World} {B sz n N : Nat} {e t : TypeId} {v : Value} {xs : List Value} {ar : Array Value} {fr : Nat × Nat} (h : w.ownsRow B e sz v n xs) (hN : w.heap[N]? = some (.cells ar t fr)) (ht : t ≠ e) : v.ownBlock ≠ some N := by
  intro ek
  rcases h.2 with ⟨e0, _⟩ | ⟨g', cap', cur', e1, e2, e3, e4⟩
  · rw [e0] at ek; cases ek
  · rw [e1] at ek
    injection ek with ek
    rw [show g' = N from ek] at e3
    rw [hN] at e3
    injection e3 with e3
    injection e3 with _ e3 _
    exact ht e3
theorem own_own {w : World} {B C sz sz' n n' : Nat} {e e' : TypeId} {v v' : Value} {xs xs' : List Value} (h : w.ownsRow B e sz v n xs) (h' : w.ownsRow C e' sz' v' n' xs') (he : e' ≠ e) : ∀ k, v.ownBlock = some k → v'.ownBlock ≠ some k := by
  intro k hk
  rcases h'.2 with ⟨e0, _⟩ | ⟨g', cap', cur', e1, e2, e3, e4⟩
  · rw [e0]; intro h; cases h
  · rw [e1]
    intro hk2
    injection hk2 with hk2
    exact own_ne h e3 he (by rw [hk, ← hk2])
theorem own_lower {w : World} {B C sz n : Nat} {e : TypeId} {v : Value} {xs : List Value} (h : w.ownsRow B e sz v n xs) (hc : C ≤ B) : w.ownsRow C e sz v n xs := by
  refine ⟨h.1, ?_⟩
  rcases h.2 with h0 | ⟨g, cap, cur, h1, h2, h3⟩
  · exact .inl h0
  · exact .inr ⟨g, cap, cur, h1, Nat.le_trans hc h2, h3⟩
/-- One row more, made since. -/
theorem Owns.insert {w w' : World} {B : Nat} {P Q : List VR} (h : Owns w B (P ++ Q)) (hB : B ≤ w.heap.size) {v : Value} {xs : List Int} (hf : Fresh w w' v xs) : Owns w' B (P ++ (v, xs) :: Q) := by
  have old := h.later hf.2
  have hlt : ∀ r ∈ P ++ Q, ∀ k, r.1.ownBlock = some k → k < w.heap.size := fun r hr k hk => ((h.own r hr).lt k hk).2
  have hge : ∀ k, v.ownBlock = some k → w.heap.size ≤ k := fun k hk => (hf.1.lt k hk).1
  have hp := h.apart
  rw [List.pairwise_append] at hp
  refine ⟨fun r hr => ?_, ?_⟩
  · rcases List.mem_append.1 hr with hr | hr
    · exact old.own r (List.mem_append_left _ hr)
    · rcases List.mem_cons.1 hr with rfl | hr
      · exact own_lower hf.1 hB
      · exact old.own r (List.mem_append_right _ hr)
  · rw [List.pairwise_append, List.pairwise_cons]
    refine ⟨hp.1, ⟨fun r hr k hk ek => ?_, hp.2.1⟩, fun a ha b hb => ?_⟩
    · have h1 := hlt r (List.mem_append_right _ hr) k ek
      have h2 := hge k hk
      omega
    · rcases List.mem_cons.1 hb with rfl | hb
      · intro k hk ek
        have h1 := hlt a (List.mem_append_left _ ha) k hk
        have h2 := hge k ek
        omega
      · exact hp.2.2 a ha b hb
/-- A store in a variable's block, its rows owned. -/
structure StB (w0 w : World) (B N : Nat) (ua : Value) (rs : List VR) (v : VR) : Prop where
  blk : w.heap[N]? = some (.cells #[ua, v.1, .slice Option.none 0 0, .int .i64 0] 45 (0, 0))
  out : w.ownsRow B 27 1 ua rs.length (rs.map (·.1))
  own : Owns w B (rs ++ [v, (.slice Option.none 0 0, [])])
  low : Below B w0 w
  ge : B ≤ N ∧ B ≤ w.heap.size
theorem StB.later {w0 w w' : World} {B N : Nat} {ua : Value} {rs : List VR} {v : VR} (h : StB w0 w B N ua rs v) (hb : Below w.heap.size w w') : StB w0 w' B N ua rs v :=
  ⟨(hb.block _ (lt_heap h.blk)).trans h.blk, ownB h.out hb, h.own.later hb, h.low.trans (hb.mono h.ge.2), h.ge.1, Nat.le_trans h.ge.2 hb.size⟩
/-- One row more. -/
theorem StB.next {w0 w w3 w4 w6 : World} {B N g c : Nat} {ua v3 : Value} {rs : List VR} {v : VR} {xs : List Int} {o : Obj} (h : StB w0 w B N ua rs v) (hf : Fresh w w3 v3 xs) (hw4 : w4 = w3.alloc o)
    (hown : w6.ownsRow B 27 1 (.slice (some ⟨g, 0, Option.none⟩) (rs.length + 1) c) (rs.length + 1) (rs.map (·.1) ++ [v3])) (hg : w4.grownBy w6 ua.ownBlock) :
    StB w0 (w6.setCell ⟨N, 0, Option.none⟩ (.slice (some ⟨g, 0, Option.none⟩) (rs.length + 1) c)) B N (.slice (some ⟨g, 0, Option.none⟩) (rs.length + 1) c) (rs ++ [(v3, xs)]) v := by
  have hb4 : Below w3.heap.size w3 w4 := by rw [hw4]; exact alloc_below _ _
  have h3 := h.later hf.2
  have h4 := h3.later hb4
  have o4 : Owns w4 B (rs ++ (v3, xs) :: [v, (.slice Option.none 0 0, [])]) := (h.own.insert h.ge.2 hf).later hb4
  have b6 : w6.heap[N]? = some (.cells #[ua, v.1, .slice Option.none 0 0, .int .i64 0] 45 (0, 0)) := (hg.block N (lt_heap h4.blk) (fun e => own_ne h4.out h4.blk (by decide) e.symm)).trans h4.blk
  have o6 : Owns w6 B (rs ++ (v3, xs) :: [v, (.slice Option.none 0 0, [])]) := ⟨fun r hr => ownG (o4.own r hr) hg (fun k hk => own_own (o4.own r hr) h4.out (by decide) k hk), o4.apart⟩
  have l6 : Below B w0 w6 := h4.low.trans ⟨hg.os, hg.tape, hg.output, hg.size, fun k hk => hg.block k (by have := h4.ge.2; omega) (fun e => by have := (h4.out.lt k e.symm).1; omega)⟩
  have hs := grownBy_set (w := w6) (g := N) ⟨N, 0, Option.none⟩ rfl (.slice (some ⟨g, 0, Option.none⟩) (rs.length + 1) c)
  refine ⟨?_, ?_, ?_, ?_, h.ge.1, ?_⟩
  · have := Go.heap_setCell_same w6 N 0 _ _ (.slice (some ⟨g, 0, Option.none⟩) (rs.length + 1) c) b6
    rw [this]; rfl
  · refine ownG (r := some N) ?_ hs (fun k hk ek => by injection ek with ek; subst ek; exact own_ne hown b6 (by decide) hk)
    rw [List.length_append, List.map_append]; exact hown
  · rw [List.append_assoc]
    exact ⟨fun r hr => ownG (o6.own r hr) hs (fun k hk ek => by injection ek with ek; subst ek; exact own_ne (o6.own r hr) b6 (by decide) hk), o6.apart⟩
  · exact l6.setCell (p := ⟨N, 0, Option.none⟩) h.ge.1 _
  · rw [World.size_setCell]; exact Nat.le_trans h4.ge.2 hg.size
theorem StB.stoO {w0 w : World} {B N : Nat} {ua : Value} {rs : List VR} {v : VR} (h : StB w0 w B N ua rs v) : StoO w B ua rs v (.slice Option.none 0 0, []) := ⟨h.out, h.own⟩
theorem StB.start {w0 w w' : World} {B N : Nat} {v : Value} {xs : List Int} (hf : Fresh w w' v xs) (hlow : Below B w0 w) (hB : B ≤ w.heap.size) {w2 : World} (h2 : Below w'.heap.size w' w2) (hN : w2.heap[N]? = some (.cells #[.slice Option.none 0 0, v, .slice Option.none 0 0, .int .i64 0] 45 (0, 0))) (hBN : B ≤ N) : StB w0 w2 B N (.slice Option.none 0 0) [] (v, xs) := by
  have e1 := (Owns.insert (P := []) (Q := []) (Owns.nil w B) hB hf)
  have e2 : Owns w2 B [(v, xs)] := Owns.later e1 h2
  refine ⟨hN, World.ownsRow_nil _ _ _ _, ?_, hlow.trans ((hf.2.mono hB).trans (h2.mono (Nat.le_trans hB hf.2.size))), hBN, Nat.le_trans hB (Nat.le_trans hf.2.size h2.size)⟩
  refine ⟨fun r hr => ?_, ?_⟩
  · rcases List.mem_cons.1 hr with rfl | hr
    · exact e2.own _ (by simp)
    · simp at hr; subst hr; exact World.ownsRow_nil _ _ _ _
  · simp only [List.nil_append, List.pairwise_cons, List.mem_cons, List.not_mem_nil, or_false, false_implies, implies_true, List.Pairwise.nil, and_true, forall_eq]
    intro k _ h; cases h
/-- What a new store's arrays are. -/
def zrows (ts : List AR) : List (List Int) := ts.map fun t => nz t.n
theorem zrows_take {ts : List AR} {k : Nat} {t : AR} (h : ts[k]? = some t) : zrows (ts.take (k + 1)) = zrows (ts.take k) ++ [nz t.n] := by
  rw [List.take_add_one, h]; simp [zrows]
def NewSto (w : World) (ts : List AR) (n : Nat) (e : Ending) (w' : World) : Prop :=
  ∃ ua v rs, e = .returned (.agg #[ua, v, .slice Option.none 0 0, .int .i64 0]) ∧ rs.map (·.2) = zrows ts ∧ StoO w' w.heap.size ua rs (v, List.replicate n 0) (.slice Option.none 0 0, []) ∧ Below w.heap.size w w'
end Go.Proofs.YtcafpaahbbachabGreat
