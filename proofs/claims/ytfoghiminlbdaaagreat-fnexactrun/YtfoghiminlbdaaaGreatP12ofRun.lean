/-
  Texts in one: EvSpec, EvSpecX, EvTopI, RunI, RunV.
-/
import Derived.Test.YtfoghiminlbdaaaGreatZp
import Derived.Test.YtfoghiminlbdaaaGreatP11ofRun
import Derived.Test.YtfoghiminlbdaaaGreatP02ofRun
import Derived.Deep.RegionHeld
import Derived.Test.YtfoghiminlbdaaaGreatP04ofRun
namespace Go.Proofs.YtfoghiminlbdaaaGreat
open Go.RowKit Go.Lib
set_option linter.unusedSimpArgs false
set_option linter.unusedVariables false
set_option maxHeartbeats 1000000 in
theorem l7At_is (ns : List ByteArray) (hn : ns.length ≤ 100000000) (s : ByteArray) (v : Value) (w : World) (hv : TV w 0 v ns) :
    Calls Tryz.prog 95 #[v, .string s] w fun e w' => e = .returned (.int .i64 (idxGo ns 0 s)) ∧ w' = w := by
  obtain ⟨ao, cap, rfl, hr⟩ := hv
  have Hr := hid hr
  clear hr
  go_enter Tryz.func95, Tryz.ntmps95
  go_wp2
  go_loopw [5] (fun i wr => ∃ k : Nat, k ≤ ns.length ∧ i = .int .i64 k ∧ Hid (idxGo ns 0 s = idxGo (ns.drop k) k s) ∧ wr = w) (fun i _ => ns.length - (RowKit.intOf i).toNat)
  case atStart => exact ⟨0, by omega, rfl, (by show idxGo ns 0 s = idxGo (ns.drop 0) 0 s; rw [List.drop_zero]), rfl⟩
  case round =>
    obtain ⟨k, hk, rfl, hg, rfl⟩ := hrel
    by_cases hlt : k < ns.length
    · have hltI : (k : Int) < (ns.length : Int) := by omega
      obtain ⟨t, ht⟩ : ∃ t, ns[k]? = some t := ⟨ns[k], List.getElem?_eq_getElem hlt⟩
      rcases Hr.out with hr | ⟨g, off, rfl, _, gl, hc⟩
      · subst hr; simp at hlt
      have A0 := hc k t ht
      have hd : Hid (ns.drop k = t :: ns.drop (k + 1)) := by
        show ns.drop k = t :: ns.drop (k + 1)
        rw [List.drop_eq_getElem_cons hlt]; congr 1; rw [List.getElem?_eq_getElem hlt] at ht; injection ht
      clear hc ht Hr
      by_cases he : t = s
      · have he2 : Hid (idxGo ns 0 s = (k : Int)) := by show idxGo ns 0 s = (k : Int); rw [hg.out, hd.out, idxGo, if_pos he]
        subst he
        go_wp2
        go_ret
        exact ⟨(by rw [he2.out]; try rfl), rfl⟩
      · have he2 : Hid (idxGo ns 0 s = idxGo (ns.drop (k + 1)) (k + 1) s) := by show idxGo ns 0 s = _; rw [hg.out, hd.out, idxGo, if_neg he]
        have hne := str_ne he
        go_wp2
        go_roundw
        case rel => exact ⟨k + 1, by omega, by go_num, he2.out, trivial⟩
        case measure => simp [RowKit.intOf]; omega
    · have he2 : Hid (idxGo ns 0 s = -1) := by show idxGo ns 0 s = -1; rw [hg.out, List.drop_of_length_le (by omega)]; rfl
      go_wp2
      go_ret
      exact ⟨(by rw [he2.out]; try rfl), rfl⟩
set_option maxHeartbeats 1000000 in
theorem l7Op_is (k a b : Int) (hk : 4 ≤ k ∧ k ≤ 8) (w : World) :
    Calls Tryz.prog 110 #[.int .i64 k, .int .i64 a, .int .i64 b] w fun e w' => e = .returned (.int .i64 (opV k a b)) ∧ w' = w := by
  have hk' : k = 4 ∨ k = 5 ∨ k = 6 ∨ k = 7 ∨ k = 8 := by omega
  clear hk
  rcases hk' with rfl | rfl | rfl | rfl | rfl
  · go_enter Tryz.func110, Tryz.ntmps110
    go_wp2_with fail
    refine (spec_AddW a b w).mono ?_
    rintro e w1 ⟨rfl, rfl⟩
    go_wp2
    go_ret
    exact ⟨rfl, rfl⟩
  · go_enter Tryz.func110, Tryz.ntmps110
    go_wp2_with fail
    refine (spec_SubW a b w).mono ?_
    rintro e w1 ⟨rfl, rfl⟩
    go_wp2
    go_ret
    exact ⟨rfl, rfl⟩
  · go_enter Tryz.func110, Tryz.ntmps110
    go_wp2_with fail
    refine (spec_MulW a b w).mono ?_
    rintro e w1 ⟨rfl, rfl⟩
    go_wp2
    go_ret
    exact ⟨rfl, rfl⟩
  · by_cases h : a < b
    · have hv : Hid (opV 7 a b = a) := show opV 7 a b = a by simp [opV, h]
      go_enter Tryz.func110, Tryz.ntmps110
      go_wp2
      go_ret
      exact ⟨(by rw [hv.out]; try rfl), rfl⟩
    · have hv : Hid (opV 7 a b = b) := show opV 7 a b = b by simp [opV, h]
      go_enter Tryz.func110, Tryz.ntmps110
      go_wp2
      go_ret
      exact ⟨(by rw [hv.out]; try rfl), rfl⟩
  · by_cases h : a > b
    · have hv : Hid (opV 8 a b = a) := show opV 8 a b = a by simp [opV, h]
      go_enter Tryz.func110, Tryz.ntmps110
      go_wp2
      go_ret
      exact ⟨(by rw [hv.out]; try rfl), rfl⟩
    · have hv : Hid (opV 8 a b = b) := show opV 8 a b = b by simp [opV, h]
      go_enter Tryz.func110, Tryz.ntmps110
      go_wp2
      go_ret
      exact ⟨(by rw [hv.out]; try rfl), rfl⟩
structure RR (w : World) (R : Nat) (ts : List AR) (ns : List ByteArray) (A : List (List Int)) (V : List Int) (bs : List AR) (va vb nv sa sv so : Value) (en : Int) (bv : Value) (fuel : Int) : Prop where
  blk : w.heap[R]? = some (.cells #[va, vb, nv, sa, sv, so, .int .i64 en, bv, .int .i64 fuel] 81 (0, 0))
  p : AV w 0 va ts
  n : TV w 0 nv ns
  a : IIV w 0 sa A
  v : IV w 0 sv V
  b : AV w 0 bv bs
theorem RR.later {w w' : World} {R : Nat} {ts : List AR} {ns : List ByteArray} {A : List (List Int)} {V : List Int} {bs : List AR} {va vb nv sa sv so : Value} {en : Int} {bv : Value} {fuel : Int} (h : RR w R ts ns A V bs va vb nv sa sv so en bv fuel) (hb : Below w.heap.size w w') : RR w' R ts ns A V bs va vb nv sa sv so en bv fuel :=
  ⟨(hb.block _ (lt_heap h.blk)).trans h.blk, h.p.later hb, h.n.later hb, h.a.later hb, h.v.later hb, h.b.later hb⟩
theorem RR.cells {w : World} {R : Nat} {ts : List AR} {ns : List ByteArray} {A : List (List Int)} {V : List Int} {bs : List AR} {va vb nv sa sv so : Value} {en : Int} {bv : Value} {fuel : Int} (h : RR w R ts ns A V bs va vb nv sa sv so en bv fuel) :
    w.cell? ⟨R, 2, Option.none⟩ = some nv ∧ w.cell? ⟨R, 3, Option.none⟩ = some sa ∧ w.cell? ⟨R, 4, Option.none⟩ = some sv ∧ w.cell? ⟨R, 7, Option.none⟩ = some bv ∧ w.cell? ⟨R, 6, Option.none⟩ = some (.int .i64 en) ∧ w.cell? ⟨R, 8, Option.none⟩ = some (.int .i64 fuel) := by
  simp [World.cell?, h.blk]
structure RL (ts : List AR) (ns : List ByteArray) (A : List (List Int)) (V : List Int) (bs : List AR) : Prop where
  t : ts.length ≤ 1048576
  n : ns.length ≤ 100000000
  a : A.length ≤ 100000000
  b : ∀ xs ∈ A, xs.length ≤ 100000000
  v : V.length ≤ 100000000
  w : bs.length ≤ 100000000
theorem bindDrop {bs : List AR} {k : Nat} {b : AR} (hk : k < bs.length) (hb : bs[bs.length - 1 - k]? = some b) : bs.reverse.drop k = b :: bs.reverse.drop (k + 1) := by
  have hkr : k < bs.reverse.length := by simp; omega
  rw [List.drop_eq_getElem_cons hkr]
  congr 1
  rw [List.getElem_reverse]
  rw [List.getElem?_eq_getElem (l := bs) (i := bs.length - 1 - k) (by omega)] at hb
  injection hb
set_option maxHeartbeats 2000000 in
set_option maxRecDepth 100000 in
theorem l7Name_is {ts : List AR} {ns : List ByteArray} {A : List (List Int)} {V : List Int} {bs : List AR} {va vb nv sa sv so : Value} {en : Int} {bv : Value} {fuel : Int} (hl : RL ts ns A V bs) (R : Nat) (s : ByteArray) (w : World) (h : RR w R ts ns A V bs va vb nv sa sv so en bv fuel) :
    Calls Tryz.prog 108 #[.pointer (some ⟨R, 0, Option.none⟩), .string s] w fun e w' => e = .returned (.int .i64 (withN bs (varN ns V) s)) ∧ w' = w := by
  have H := hid h
  have HL := hid hl
  obtain ⟨c2, c3, c4, c7, _, _⟩ := h.cells
  obtain ⟨a1, b1, rfl⟩ := h.n.shape
  obtain ⟨a2, b2, rfl⟩ := h.v.shape
  obtain ⟨a3, b3, rfl⟩ := h.b.shape
  have hbl : (bs.length : Int) ≤ 100000000 := by have := hl.w; omega
  have hVl : (V.length : Int) ≤ 100000000 := by have := hl.v; omega
  clear h hl c3
  go_enter Tryz.func108, Tryz.ntmps108
  go_wp2
  go_loopw [5] (fun i wr => ∃ k : Nat, k ≤ bs.length ∧ i = .int .i64 ((bs.length : Int) - 1 - (k : Int)) ∧ Hid (bindOf bs.reverse s = bindOf (bs.reverse.drop k) s) ∧ wr = w) (fun i _ => (RowKit.intOf i + 1).toNat)
  case atStart => exact ⟨0, by omega, by simp, (by show bindOf bs.reverse s = bindOf (bs.reverse.drop 0) s; rw [List.drop_zero]), rfl⟩
  case round =>
    obtain ⟨k, hk, rfl, hg, rfl⟩ := hrel
    by_cases hlt : k < bs.length
    · obtain ⟨b, hb⟩ : ∃ b, bs[bs.length - 1 - k]? = some b := ⟨bs[bs.length - 1 - k], List.getElem?_eq_getElem (by omega)⟩
      obtain ⟨g, off, cap, e, hcc⟩ := arrAt_cells H.out.b (fun e => by subst e; simp at hlt)
      injection e with e
      subst e
      obtain ⟨m, hm⟩ : ∃ m : Nat, m = bs.length - 1 - k := ⟨_, rfl⟩
      have hmI : (bs.length : Int) - 1 - (k : Int) = (m : Int) := by omega
      have hmlt : (m : Int) < (bs.length : Int) := by omega
      have hm0 : ¬ ((m : Int) < 0) := by omega
      have hd := hid (bindDrop hlt hb)
      have h0 := (hcc _ b hb).1
      have h1 := (hcc _ b hb).2
      rw [← hm] at h0 h1
      rw [hmI]
      have HM := hid (And.intro hm hmI)
      clear hcc hb hm hmI
      by_cases he : b.s = s
      · have hv : Hid (withN bs (varN ns V) s = b.n) := show withN bs (varN ns V) s = b.n by rw [withN, hg.out, hd.out, bindOf, if_pos he]; rfl
        rw [he] at h0
        clear he
        go_wp2
        go_ret
        exact ⟨(by rw [hv.out]; try rfl), rfl⟩
      · have he2 : Hid (bindOf bs.reverse s = bindOf (bs.reverse.drop (k + 1)) s) := show bindOf bs.reverse s = _ by rw [hg.out, hd.out, bindOf, if_neg he]
        have hne := str_ne he
        clear he
        go_wp2
        go_roundw
        case rel => exact ⟨k + 1, by omega, val_intA (by have := HM.out.2; omega), he2.out, trivial⟩
        case measure => simp [RowKit.intOf]; try omega
    · obtain rfl : k = bs.length := by omega
      have e1 : (bs.length : Int) - 1 - (bs.length : Int) = -1 := by omega
      rw [e1]
      have hv0 : Hid (withN bs (varN ns V) s = varN ns V s) := show withN bs (varN ns V) s = varN ns V s by rw [withN, hg.out, List.drop_of_length_le (by simp)]; rfl
      obtain ⟨i, hi⟩ : ∃ i, idxGo ns 0 s = i := ⟨_, rfl⟩
      have HI := hid hi
      have hbd := idxGo_bd s ns 0
      rw [hi] at hbd
      clear e1 hg hi
      by_cases hin : 0 ≤ i ∧ i ≤ (V.length : Int) - 1
      · obtain ⟨j, rfl⟩ : ∃ j : Nat, i = (j : Int) := ⟨i.toNat, by omega⟩
        obtain ⟨x, hx⟩ : ∃ x, V[j]? = some x := ⟨V[j]'(by omega), List.getElem?_eq_getElem _⟩
        obtain ⟨g, off, rfl, A0⟩ := H.out.v.at hx
        have hjl : (j : Int) < (V.length : Int) := by omega
        have hv : Hid (withN bs (varN ns V) s = x) := hv0.out.trans (by rw [varN, HI.out, if_neg (by omega), Int.toNat_natCast, hx]; rfl)
        have hdc : (decide (0 ≤ (j : Int)) && decide ((j : Int) ≤ (V.length : Int) - 1)) = true := by simp [hin]
        have HD := hid hdc
        clear hx hin hdc
        go_wp2_with fail
        refine (l7At_is ns HL.out.n s _ _ H.out.n).mono ?_
        rintro e w1 ⟨rfl, rfl⟩
        rw [HI.out]
        go_wp2_with fail
        refine (l1In_is (j : Int) 0 ((V.length : Int) - 1) _).mono ?_
        rintro e w1 ⟨rfl, rfl⟩
        rw [HD.out]
        go_wp2
        go_ret
        exact ⟨(by rw [hv.out]; try rfl), rfl⟩
      · have hv : Hid (withN bs (varN ns V) s = 0) := hv0.out.trans (by
          rw [varN, HI.out]
          split
          · rfl
          · rw [List.getElem?_eq_none (by omega)]; rfl)
        have hdc : (decide (0 ≤ i) && decide (i ≤ (V.length : Int) - 1)) = false := by
          rcases Int.lt_or_le i 0 with h | h
          · rw [decide_eq_false (by omega)]; rfl
          · rw [decide_eq_false (p := i ≤ (V.length : Int) - 1) (by omega)]; simp
        have HD := hid hdc
        clear hin hdc
        go_wp2_with fail
        refine (l7At_is ns HL.out.n s _ _ H.out.n).mono ?_
        rintro e w1 ⟨rfl, rfl⟩
        rw [HI.out]
        go_wp2_with fail
        refine (l1In_is i 0 ((V.length : Int) - 1) _).mono ?_
        rintro e w1 ⟨rfl, rfl⟩
        rw [HD.out]
        go_wp2
        go_ret
        exact ⟨(by rw [hv.out]; try rfl), rfl⟩
theorem fnumK {h : EH} {n : Nat} : (fnum h n = 1 → h.k = 1) ∧ (fnum h n = 2 → h.k = 2) ∧ (fnum h n = 3 → h.k = 3 ∧ n = 1) ∧ (fnum h n = 4 → n = 2) := by
  unfold fnum
  refine ⟨?_, ?_, ?_, ?_⟩
  all_goals (split; (intro; omega); split; (intro; omega); split; (intro; omega); split; (intro; omega); (intro; omega))
theorem rangeX {w : World} {b o : Nat} {k n : Value} {s u : Value} (h0 : w.cell? ⟨b, o, Option.none⟩ = some k) (h1 : w.cell? ⟨b, o + 1, Option.none⟩ = some n) (h2 : w.cell? ⟨b, o + 2, Option.none⟩ = some s) (h3 : w.cell? ⟨b, o + 3, Option.none⟩ = some u) : w.rangeAt b o [k, n, s, u] := fun j v hj => by
  match j, hj with
  | 0, hj => simp at hj; subst hj; exact h0
  | 1, hj => simp at hj; subst hj; exact h1
  | 2, hj => simp at hj; subst hj; exact h2
  | 3, hj => simp at hj; subst hj; exact h3
  | j + 4, hj => simp at hj
theorem evOne {w : World} {p q : Nat} {y : X} {v : Value} (h : EV w 0 (.node p q y.h y.l .nil) v) : ∃ b o c u, v = .slice (some ⟨b, o, Option.none⟩) 1 c ∧ w.rangeAt b o [.int .i64 y.h.k, .int .i64 y.h.n, .string y.h.s, u] ∧ EV w 0 y.l u := by
  obtain ⟨b, o, a, c, e, ha, _, hin⟩ := h
  obtain ⟨⟨h0, h1, h2, u, h3, h4⟩, _⟩ := EIn_node.1 hin
  rcases ha with ha | ha
  · exact ⟨b, o, c, u, by rw [e, ha]; rfl, rangeX h0 h1 h2 h3, h4⟩
  · cases ha
theorem evTwo {w : World} {p q p' q' : Nat} {y z : X} {v : Value} (h : EV w 0 (.node p q y.h y.l (.node p' q' z.h z.l .nil)) v) : ∃ b o c u u', v = .slice (some ⟨b, o, Option.none⟩) 2 c ∧ w.rangeAt b o [.int .i64 y.h.k, .int .i64 y.h.n, .string y.h.s, u] ∧ w.rangeAt b (o + 4) [.int .i64 z.h.k, .int .i64 z.h.n, .string z.h.s, u'] ∧ EV w 0 y.l u ∧ EV w 0 z.l u' := by
  obtain ⟨b, o, a, c, e, ha, _, hin⟩ := h
  obtain ⟨⟨h0, h1, h2, u, h3, h4⟩, hr⟩ := EIn_node.1 hin
  obtain ⟨⟨g0, g1, g2, u', g3, g4⟩, _⟩ := EIn_node.1 hr
  rcases ha with ha | ha
  · exact ⟨b, o, c, u, u', by rw [e, ha]; rfl, rangeX h0 h1 h2 h3, rangeX g0 g1 g2 g3, h4, g4⟩
  · cases ha
theorem rrProg {w : World} {R : Nat} {ts : List AR} {ns : List ByteArray} {A : List (List Int)} {V : List Int} {bs : List AR} {va vb nv sa sv so : Value} {en : Int} {bv : Value} {fuel : Int} (h : RR w R ts ns A V bs va vb nv sa sv so en bv fuel) : w.rangeAt R 0 [va, vb] := rangeSub (cs := []) (es := [nv, sa, sv, so, .int .i64 en, bv, .int .i64 fuel]) (blk_range h.blk)
def SpC (R : Nat) (ts : List AR) (ns : List ByteArray) (A : List (List Int)) (V : List Int) (bs : List AR) (va vb nv sa sv so : Value) (en : Int) (bv : Value) (fuel : Int) (d : Nat) : Prop :=
  ∀ (x : X) (w : World) (v : Value), toldX d x = true → EV w 0 x.l v → RR w R ts ns A V bs va vb nv sa sv so en bv fuel → Calls Tryz.prog 53 #[.pointer (some ⟨R, 0, Option.none⟩), .agg #[.int .i64 x.h.k, .int .i64 x.h.n, .string x.h.s, v]] w fun e w' => e = valR (evX ts A (withN bs (varN ns V)) d x) ∧ Below w.heap.size w w'
theorem inA_none {ts : List AR} {A : List (List Int)} {s : ByteArray} {p k : Int} (hk : arrGo ts 0 s = k) (h : ¬ (0 ≤ k ∧ k ≤ (A.length : Int) - 1)) : inA ts A s p = none := by
  rw [inA, hk]
  split
  · rfl
  · split
    · rfl
    · rw [List.getElem?_eq_none (by omega)]; rfl
theorem decF {i n : Int} (h : ¬ (0 ≤ i ∧ i ≤ n)) : (decide (0 ≤ i) && decide (i ≤ n)) = false := by
  rcases Int.lt_or_le i 0 with h1 | h1
  · rw [decide_eq_false (by omega)]; rfl
  · rw [decide_eq_false (p := i ≤ n) (by omega)]; simp
theorem decT {i n : Int} (h : 0 ≤ i ∧ i ≤ n) : (decide (0 ≤ i) && decide (i ≤ n)) = true := by simp [h]
set_option maxHeartbeats 4000000 in
set_option maxRecDepth 100000 in
theorem l7Exp_step {R : Nat} {ts : List AR} {ns : List ByteArray} {A : List (List Int)} {V : List Int} {bs : List AR} {va vb nv sa sv so : Value} {en : Int} {bv : Value} {fuel : Int} {d : Nat} (hl : RL ts ns A V bs) (hvb : vb.oneCell' = true) (ih : SpC R ts ns A V bs va vb nv sa sv so en bv fuel d) : SpC R ts ns A V bs va vb nv sa sv so en bv fuel (d + 1) := fun x w v ht hv hR => by
  have IH := hid ih
  have HL := hid hl
  have HVB := hid hvb
  have HT := hid ht
  have B0 := hid (alloc_below w (.cells #[.int .i64 x.h.k, .int .i64 x.h.n, .string x.h.s, v] 43))
  have R0 := hid (hR.later B0.out)
  obtain ⟨⟨c0, c1, c2, c3⟩, _⟩ := blk4 (blkLast w (.cells #[.int .i64 x.h.k, .int .i64 x.h.n, .string x.h.s, v] 43))
  have HC := hid (And.intro c0 (And.intro c1 (And.intro c2 c3)))
  have HV := hid (hv.later B0.out)
  have hAl : (A.length : Int) ≤ 100000000 := by have := hl.a; omega
  clear ih hl hvb ht hR c0 c1 c2 c3
  obtain ⟨f, hf⟩ : ∃ f, fnum x.h (elen x.l) = f := ⟨_, rfl⟩
  have hf4 : f = 1 ∨ f = 2 ∨ f = 3 ∨ f = 4 := by
    have h5 : f ≤ 4 := by rw [← hf]; unfold fnum; (split; omega; split; omega; split; omega; split; omega; omega)
    have h6 : f ≠ 0 := fun e => by
      have := toldX_none (d := d) (hf.trans e)
      rw [HT.out] at this; cases this
    omega
  rcases hf4 with rfl | rfl | rfl | rfl
  · have hk := fnumK.1 hf
    have n1 : (x.h.k == 1) = true := by simp [hk]
    clear hk
    have hr : Hid (evX ts A (withN bs (varN ns V)) (d + 1) x = some x.h.n) := evX_num hf
    obtain ⟨sa1, sc1, rfl⟩ := hv.shape
    clear hf hv
    go_enter Tryz.func53, Tryz.ntmps53
    go_wp2
    exact bodyPost_ret (v := .tuple #[.int .i64 x.h.n, .bool true]) (by simp [results, Tryz.results53, go_sem]) rfl ⟨by rw [hr.out]; rfl, B0.out⟩
  · have hk := fnumK.2.1 hf
    have n1 : (x.h.k == 1) = false := by simp [hk]
    have n2 : (x.h.k == 2) = true := by simp [hk]
    clear hk
    have hr : Hid (evX ts A (withN bs (varN ns V)) (d + 1) x = some (withN bs (varN ns V) x.h.s)) := evX_var hf
    obtain ⟨sa1, sc1, rfl⟩ := hv.shape
    clear hf hv
    go_enter Tryz.func53, Tryz.ntmps53
    go_wp2_with fail
    refine (l7Name_is HL.out R x.h.s _ R0.out).mono ?_
    rintro e w1 ⟨rfl, rfl⟩
    go_wp2
    exact bodyPost_ret (v := .tuple #[.int .i64 (withN bs (varN ns V) x.h.s), .bool true]) (by simp [results, Tryz.results53, go_sem]) rfl ⟨by rw [hr.out]; rfl, B0.out⟩
  · have hk := (fnumK.2.2.1 hf).1
    have n1 : (x.h.k == 1) = false := by simp [hk]
    have n2 : (x.h.k == 2) = false := by simp [hk]
    have n3 : (x.h.k == 3) = true := by simp [hk]
    clear hk
    have hl1 := (fnumK.2.2.1 hf).2
    obtain ⟨p0, q0, hh, ll, hl⟩ := len1 hl1
    have hr := hid (evX_at (ts := ts) (A := A) (nm := withN bs (varN ns V)) (d := d) (y := ⟨hh, ll⟩) hf hl)
    have TY := hid (told_at (y := ⟨hh, ll⟩) hf hl HT.out)
    rw [hl] at HV
    obtain ⟨b, o, c, u, rfl, hrg, hu⟩ := evOne (y := ⟨hh, ll⟩) HV.out
    have RG := hid hrg
    have HU := hid hu
    obtain ⟨ua, uc, rfl⟩ := hu.shape
    obtain ⟨c0, c1, c2, c3⟩ := HC.out
    obtain ⟨kk, hkk⟩ : ∃ kk, arrGo ts 0 x.h.s = kk := ⟨_, rfl⟩
    have HK := hid hkk
    clear hf hv hrg hu hl hl1 hkk
    go_enter Tryz.func53, Tryz.ntmps53
    go_wp2_with (refine wpList_load_mid rfl 43 _ rfl b o rfl _ _ RG.out Tryz.underlying43 rfl sizeExp4 ?_)
    refine (IH.out ⟨hh, ll⟩ _ _ TY.out HU.out R0.out).mono ?_
    rintro e w2 ⟨he, hb2⟩
    have R2 := hid (R0.out.later hb2)
    have B2 := hid (B0.out.trans (hb2.mono B0.out.size))
    clear c0 c1 c2 c3
    obtain ⟨_, _, c2, _⟩ := HC.out
    replace c2 := keeps hb2 c2
    obtain ⟨r, hrr⟩ : ∃ r, evX ts A (withN bs (varN ns V)) d ⟨hh, ll⟩ = r := ⟨_, rfl⟩
    rw [hrr] at hr he
    clear hb2 hrr RG
    cases r with
    | none =>
      obtain rfl : e = .returned (.tuple #[.int .i64 0, .bool false]) := he
      go_wp2_with fail
      have bd : Below w2.heap.size w2 w2.drew := (Below.refl _ w2).drew
      have R2d := R2.out.later bd
      have c2d := keeps bd c2
      refine wp_region_held_drew (S := fun w' => w'.rangeAt R 0 [va, vb] ∧ w'.cell? ⟨w.heap.size, 2, Option.none⟩ = some (.string x.h.s)) (by kernel_rfl) ⟨rrProg R2d, c2d⟩ (fun hHeld => ?_)
      refine wpAnyH_take (i := 0) (v := .pointer (some ⟨R, 0, Option.none⟩)) rfl (by kernel_rfl) (by kernel_rfl) (by kernel_rfl) (fun _ _ _ h => h) (Or.inl ⟨by rfl, ?ra0⟩) hHeld ?_
      case ra0 => intro w hSw; go_simp
      simp only [Act.put, zp]
      refine wpAnyH_take (i := 1) (v := .pointer (some ⟨R, 0, Option.none⟩)) rfl (by kernel_rfl) (by kernel_rfl) (by kernel_rfl) (fun _ _ _ h => h) (Or.inl ⟨by rfl, ?ra1⟩) hHeld ?_
      case ra1 => intro w hSw; go_simp
      simp only [Act.put, zp]
      refine wpAnyH_take (i := 2) (v := .pointer (some ⟨R, 0, Option.none⟩)) rfl (by kernel_rfl) (by kernel_rfl) (by kernel_rfl) (fun _ _ _ h => h) (Or.inl ⟨by rfl, ?ra2⟩) hHeld ?_
      case ra2 => intro w hSw; go_simp
      simp only [Act.put, zp]
      refine wpAnyH_take (i := 3) (v := .agg #[va, vb]) rfl (by kernel_rfl) (by kernel_rfl) (by kernel_rfl) (fun _ _ _ h => h) (yieldsIf_load_mid (by rfl) 27 _ rfl (R) (0) rfl [va, vb] _ (fun w h => h.1) Tryz.underlying27 rfl sizeProg2) hHeld ?_
      simp only [Act.put, zp]
      refine wpAnyH_take (i := 4) (v := .pointer (some ⟨w.heap.size, 2, Option.none⟩)) rfl (by kernel_rfl) (by kernel_rfl) (by kernel_rfl) (fun _ _ _ h => h) (Or.inl ⟨by rfl, ?ra4⟩) hHeld ?_
      case ra4 => intro w hSw; go_simp
      simp only [Act.put, zp]
      refine wpAnyH_take (i := 5) (v := .string x.h.s) rfl (by kernel_rfl) (by kernel_rfl) (by kernel_rfl) (fun _ _ _ h => h) (Or.inl ⟨by rfl, ?ra5⟩) hHeld ?_
      case ra5 => intro w hSw; have h2 := hSw.2; go_simp
      simp only [Act.put, zp]
      refine wpAnyH_ready (rs := [6]) (by kernel_rfl) (by simp) ?_
      refine AllReadyH.cons rfl (fun K hK => ?_) AllReadyH.nil
      rw [if_pos (by rfl)]
      simp only [zq]
      go_wp2_with fail
      refine (spec_ArrAt ts HL.out.t x.h.s va vb HVB.out _ R2d.p).mono ?_
      rintro e w3 ⟨rfl, hb3⟩
      rw [HK.out]
      go_wp2_with fail
      refine hK.out _ _ (⟨rangeAt_later hHeld.1 hb3, keeps hb3 hHeld.2⟩) (fun hHeld => ?_)
      have R3 := hid (R2d.later hb3)
      have B3 := hid (B2.out.trans ((bd.trans (hb3.mono bd.size)).mono B2.out.size))
      clear R2d c2d bd hb3
      refine wpAnyH_take (i := 7) (v := .int .i64 kk) rfl (by kernel_rfl) (by kernel_rfl) (by kernel_rfl) (fun _ _ _ h => h) (Or.inl ⟨by rfl, ?ra7⟩) hHeld ?_
      case ra7 => intro w hSw; go_simp
      simp only [Act.put, zp]
      refine wpAnyH_done (by kernel_rfl) ?_ _
      clear hHeld
      go_wp2
      exact bodyPost_ret (v := .tuple #[.int .i64 0, .bool false]) (by simp [results, Tryz.results53, go_sem]) rfl ⟨by rw [hr.out]; rfl, B3.out⟩
    | some p =>
      obtain rfl : e = .returned (.tuple #[.int .i64 p, .bool true]) := he
      go_wp2_with fail
      have bd : Below w2.heap.size w2 w2.drew := (Below.refl _ w2).drew
      have R2d := R2.out.later bd
      have c2d := keeps bd c2
      refine wp_region_held_drew (S := fun w' => w'.rangeAt R 0 [va, vb] ∧ w'.cell? ⟨w.heap.size, 2, Option.none⟩ = some (.string x.h.s)) (by kernel_rfl) ⟨rrProg R2d, c2d⟩ (fun hHeld => ?_)
      refine wpAnyH_take (i := 0) (v := .pointer (some ⟨R, 0, Option.none⟩)) rfl (by kernel_rfl) (by kernel_rfl) (by kernel_rfl) (fun _ _ _ h => h) (Or.inl ⟨by rfl, ?rb0⟩) hHeld ?_
      case rb0 => intro w hSw; go_simp
      simp only [Act.put, zp]
      refine wpAnyH_take (i := 1) (v := .pointer (some ⟨R, 0, Option.none⟩)) rfl (by kernel_rfl) (by kernel_rfl) (by kernel_rfl) (fun _ _ _ h => h) (Or.inl ⟨by rfl, ?rb1⟩) hHeld ?_
      case rb1 => intro w hSw; go_simp
      simp only [Act.put, zp]
      refine wpAnyH_take (i := 2) (v := .pointer (some ⟨R, 0, Option.none⟩)) rfl (by kernel_rfl) (by kernel_rfl) (by kernel_rfl) (fun _ _ _ h => h) (Or.inl ⟨by rfl, ?rb2⟩) hHeld ?_
      case rb2 => intro w hSw; go_simp
      simp only [Act.put, zp]
      refine wpAnyH_take (i := 3) (v := .agg #[va, vb]) rfl (by kernel_rfl) (by kernel_rfl) (by kernel_rfl) (fun _ _ _ h => h) (yieldsIf_load_mid (by rfl) 27 _ rfl (R) (0) rfl [va, vb] _ (fun w h => h.1) Tryz.underlying27 rfl sizeProg2) hHeld ?_
      simp only [Act.put, zp]
      refine wpAnyH_take (i := 4) (v := .pointer (some ⟨w.heap.size, 2, Option.none⟩)) rfl (by kernel_rfl) (by kernel_rfl) (by kernel_rfl) (fun _ _ _ h => h) (Or.inl ⟨by rfl, ?rb4⟩) hHeld ?_
      case rb4 => intro w hSw; go_simp
      simp only [Act.put, zp]
      refine wpAnyH_take (i := 5) (v := .string x.h.s) rfl (by kernel_rfl) (by kernel_rfl) (by kernel_rfl) (fun _ _ _ h => h) (Or.inl ⟨by rfl, ?rb5⟩) hHeld ?_
      case rb5 => intro w hSw; have h2 := hSw.2; go_simp
      simp only [Act.put, zp]
      refine wpAnyH_ready (rs := [6]) (by kernel_rfl) (by simp) ?_
      refine AllReadyH.cons rfl (fun K hK => ?_) AllReadyH.nil
      rw [if_pos (by rfl)]
      simp only [zq]
      go_wp2_with fail
      refine (spec_ArrAt ts HL.out.t x.h.s va vb HVB.out _ R2d.p).mono ?_
      rintro e w3 ⟨rfl, hb3⟩
      rw [HK.out]
      go_wp2_with fail
      refine hK.out _ _ (⟨rangeAt_later hHeld.1 hb3, keeps hb3 hHeld.2⟩) (fun hHeld => ?_)
      have R3 := hid (R2d.later hb3)
      have B3 := hid (B2.out.trans ((bd.trans (hb3.mono bd.size)).mono B2.out.size))
      clear R2d c2d bd hb3
      refine wpAnyH_take (i := 7) (v := .int .i64 kk) rfl (by kernel_rfl) (by kernel_rfl) (by kernel_rfl) (fun _ _ _ h => h) (Or.inl ⟨by rfl, ?rb7⟩) hHeld ?_
      case rb7 => intro w hSw; go_simp
      simp only [Act.put, zp]
      refine wpAnyH_done (by kernel_rfl) ?_ _
      clear hHeld
      obtain ⟨_, d3, _, _, _, _⟩ := R3.out.cells
      obtain ⟨x1, y1, e1⟩ := R3.out.a.shape
      subst e1
      by_cases hin : 0 ≤ kk ∧ kk ≤ (A.length : Int) - 1
      · have D1 := hid (decT hin)
        obtain ⟨k, rfl⟩ : ∃ k : Nat, kk = (k : Int) := ⟨kk.toNat, by omega⟩
        obtain ⟨xs, hxs⟩ : ∃ xs, A[k]? = some xs := ⟨A[k]'(by omega), List.getElem?_eq_getElem _⟩
        have hkl : (k : Int) < (A.length : Int) := by omega
        obtain ⟨g, off, u1, rfl, A0, hu1⟩ := R3.out.a.at hxs
        have hxl := HL.out.b xs (List.mem_of_getElem? hxs)
        have HU1 := hid hu1
        obtain ⟨pa, qa, rfl⟩ := hu1.shape
        by_cases hp : 0 ≤ p ∧ p ≤ (xs.length : Int) - 1
        · have D2 := hid (decT hp)
          obtain ⟨m, rfl⟩ : ∃ m : Nat, p = (m : Int) := ⟨p.toNat, by omega⟩
          obtain ⟨z, hz⟩ : ∃ z, xs[m]? = some z := ⟨xs[m]'(by omega), List.getElem?_eq_getElem _⟩
          obtain ⟨g2, off2, rfl, Z0⟩ := HU1.out.at hz
          have hml : (m : Int) < (xs.length : Int) := by omega
          have hrr : Hid (evX ts A (withN bs (varN ns V)) (d + 1) x = some z) := hr.out.trans (by
            show inA ts A x.h.s (m : Int) = some z
            rw [inA, HK.out, if_neg (by omega), if_neg (by omega), Int.toNat_natCast, Int.toNat_natCast, hxs]; exact hz)
          clear hxs hu1 hz hin hp
          go_wp2_with fail
          refine (l1In_is (k : Int) 0 ((A.length : Int) - 1) _).mono ?_
          rintro e w9 ⟨rfl, rfl⟩
          rw [D1.out]
          go_wp2_with fail
          refine (l1In_is (m : Int) 0 ((xs.length : Int) - 1) _).mono ?_
          rintro e w9 ⟨rfl, rfl⟩
          rw [D2.out]
          go_wp2
          exact bodyPost_ret (v := .tuple #[.int .i64 z, .bool true]) (by simp [results, Tryz.results53, go_sem]) rfl ⟨by rw [hrr.out]; rfl, B3.out⟩
        · have D2 := hid (decF hp)
          have hrr : Hid (evX ts A (withN bs (varN ns V)) (d + 1) x = none) := hr.out.trans (by
            show inA ts A x.h.s p = none
            rw [inA, HK.out, if_neg (by omega)]
            split
            · rfl
            · rw [Int.toNat_natCast, hxs]; exact List.getElem?_eq_none (by omega))
          clear hxs hu1 hin hp
          go_wp2_with fail
          refine (l1In_is (k : Int) 0 ((A.length : Int) - 1) _).mono ?_
          rintro e w9 ⟨rfl, rfl⟩
          rw [D1.out]
          go_wp2_with fail
          refine (l1In_is p 0 ((xs.length : Int) - 1) _).mono ?_
          rintro e w9 ⟨rfl, rfl⟩
          rw [D2.out]
          go_wp2
          exact bodyPost_ret (v := .tuple #[.int .i64 0, .bool false]) (by simp [results, Tryz.results53, go_sem]) rfl ⟨by rw [hrr.out]; rfl, B3.out⟩
      · have D1 := hid (decF hin)
        have hrr : Hid (evX ts A (withN bs (varN ns V)) (d + 1) x = none) := hr.out.trans (inA_none HK.out hin)
        clear hin
        go_wp2_with fail
        refine (l1In_is kk 0 ((A.length : Int) - 1) _).mono ?_
        rintro e w9 ⟨rfl, rfl⟩
        rw [D1.out]
        go_wp2
        exact bodyPost_ret (v := .tuple #[.int .i64 0, .bool false]) (by simp [results, Tryz.results53, go_sem]) rfl ⟨by rw [hrr.out]; rfl, B3.out⟩
  · have hk := fnum4 hf
    have hl2 := fnumK.2.2.2 hf
    obtain ⟨p0, q0, hh, ll, p1, q1, hh', ll', hl⟩ := len2 hl2
    have hr := hid (evX_pair (ts := ts) (A := A) (nm := withN bs (varN ns V)) (d := d) (y := ⟨hh, ll⟩) (z := ⟨hh', ll'⟩) hf hl)
    have TY := hid (told_pair (y := ⟨hh, ll⟩) (z := ⟨hh', ll'⟩) hf hl HT.out)
    rw [hl] at HV
    obtain ⟨b, o, c, u, u', rfl, hrg, hrg', hu, hu'⟩ := evTwo (y := ⟨hh, ll⟩) (z := ⟨hh', ll'⟩) HV.out
    have RG := hid hrg
    have RG' := hid hrg'
    have HU := hid (And.intro hu hu')
    obtain ⟨ua, uc, rfl⟩ := hu.shape
    obtain ⟨ua', uc', rfl⟩ := hu'.shape
    obtain ⟨c0, c1, c2, c3⟩ := HC.out
    have HK4 := hid hk
    have n1 := int_ne (show ¬ x.h.k = 1 by omega)
    have n2 := int_ne (show ¬ x.h.k = 2 by omega)
    have n3 := int_ne (show ¬ x.h.k = 3 by omega)
    clear hf hv hrg hrg' hu hu' hl hl2 hk
    go_enter Tryz.func53, Tryz.ntmps53
    go_wp2_with (refine wpList_load_mid rfl 43 _ rfl b o rfl _ _ RG.out Tryz.underlying43 rfl sizeExp4 ?_)
    refine (IH.out ⟨hh, ll⟩ _ _ TY.out.1 HU.out.1 R0.out).mono ?_
    rintro e w2 ⟨he, hb2⟩
    have R2 := hid (R0.out.later hb2)
    have B2 := hid (B0.out.trans (hb2.mono B0.out.size))
    have RG2 := hid (rangeAt_later RG'.out hb2)
    have HU2 := hid (HU.out.2.later hb2)
    clear c0 c1 c2 c3
    obtain ⟨c0, _, _, c3⟩ := HC.out
    replace c0 := keeps hb2 c0
    replace c3 := keeps hb2 c3
    obtain ⟨r, hrr⟩ : ∃ r, evX ts A (withN bs (varN ns V)) d ⟨hh, ll⟩ = r := ⟨_, rfl⟩
    rw [hrr] at hr he
    clear hb2 hrr RG RG'
    cases r with
    | none =>
      obtain rfl : e = .returned (.tuple #[.int .i64 0, .bool false]) := he
      go_wp2
      exact bodyPost_ret (v := .tuple #[.int .i64 0, .bool false]) (by simp [results, Tryz.results53, go_sem]) rfl ⟨by rw [hr.out]; rfl, B2.out⟩
    | some p =>
      obtain rfl : e = .returned (.tuple #[.int .i64 p, .bool true]) := he
      go_wp2_with (refine wpList_load_mid rfl 43 _ rfl b (o + 4) rfl _ _ RG2.out Tryz.underlying43 rfl sizeExp4 ?_)
      refine (IH.out ⟨hh', ll'⟩ _ _ TY.out.2 HU2.out R2.out).mono ?_
      rintro e w3 ⟨he, hb3⟩
      have B3 := hid (B2.out.trans (hb3.mono B2.out.size))
      replace c0 := keeps hb3 c0
      obtain ⟨r2, hrr⟩ : ∃ r, evX ts A (withN bs (varN ns V)) d ⟨hh', ll'⟩ = r := ⟨_, rfl⟩
      rw [hrr] at hr he
      clear hb3 hrr c3 RG2
      cases r2 with
      | none =>
        obtain rfl : e = .returned (.tuple #[.int .i64 0, .bool false]) := he
        go_wp2
        exact bodyPost_ret (v := .tuple #[.int .i64 0, .bool false]) (by simp [results, Tryz.results53, go_sem]) rfl ⟨by rw [hr.out]; rfl, B3.out⟩
      | some p2 =>
        obtain rfl : e = .returned (.tuple #[.int .i64 p2, .bool true]) := he
        go_wp2_with fail
        refine (l7Op_is x.h.k p p2 HK4.out _).mono ?_
        rintro e w5 ⟨rfl, rfl⟩
        go_wp2
        exact bodyPost_ret (v := .tuple #[.int .i64 (opV x.h.k p p2), .bool true]) (by simp [results, Tryz.results53, go_sem]) rfl ⟨by rw [hr.out]; rfl, B3.out⟩
theorem l7Exp_all {R : Nat} {ts : List AR} {ns : List ByteArray} {A : List (List Int)} {V : List Int} {bs : List AR} {va vb nv sa sv so : Value} {en : Int} {bv : Value} {fuel : Int} (hl : RL ts ns A V bs) (hvb : vb.oneCell' = true) : ∀ d, SpC R ts ns A V bs va vb nv sa sv so en bv fuel d
  | 0 => fun x w v ht _ _ => by rw [toldX_zero] at ht; cases ht
  | d + 1 => l7Exp_step hl hvb (l7Exp_all hl hvb d)
theorem evCall {ts : List AR} {A : List (List Int)} {va vb sa sv so fv : Value} {en : Int} {J : World → Prop} {nm : ByteArray → Int} (h1 : ts.length ≤ 1048576) (h2 : A.length ≤ 100000000) (h3 : ∀ xs ∈ A, xs.length ≤ 100000000) (h4 : vb.oneCell' = true) (h5 : sv.oneCell' = true) (h6 : so.oneCell' = true) (lk : Lk fv J nm) (x : X) (w : World) (v : Value) (ht : toldX 8 x = true) (hv : EV w 0 x.l v) (hJ : J w) (hp : AV w 0 va ts) (hi : IIV w 0 sa A) :
    Calls Tryz.prog 50 #[.agg #[va, vb], .agg #[sa, sv, so, .int .i64 en], fv, .agg #[.int .i64 x.h.k, .int .i64 x.h.n, .string x.h.s, v]] w fun e w' => e = valR (evX ts A nm 8 x) ∧ Below w.heap.size w w' :=
  valueOf_all (J := fun W => J W ∧ AV W 0 va ts ∧ IIV W 0 sa A) ⟨h1, h2, h3, h4, h5, h6, ⟨(by obtain ⟨kf, caps, e1, e2, e3⟩ := lk.is; exact ⟨kf, caps, e1, e2, fun W hW s => e3 W hW.1 s⟩), fun W W' hW hb => ⟨lk.on W W' hW.1 hb, hW.2.1.later hb, hW.2.2.later hb⟩⟩, fun W hW => hW.2⟩ 8 x w v ht hv ⟨hJ, hp, hi⟩
def KQ (R : Nat) (w w' : World) : Prop := ∀ (N : Nat) (ar : Array Value) (t : TypeId), N ≠ R → t ≠ 3 → w.heap[N]? = some (.cells ar t (0, 0)) → w'.heap[N]? = some (.cells ar t (0, 0))
theorem KQ.refl (R : Nat) (w : World) : KQ R w w := fun _ _ _ _ _ h => h
theorem KQ.trans {R : Nat} {a b c : World} (h : KQ R a b) (k : KQ R b c) : KQ R a c := fun N ar t h1 h2 h3 => k N ar t h1 h2 (h N ar t h1 h2 h3)
theorem KQ.of {R : Nat} {w w' : World} (hb : Below w.heap.size w w') : KQ R w w' := fun N ar t _ _ hN => (hb.block _ (lt_heap hN)).trans hN
structure RS (w0 w : World) (R : Nat) (ts : List AR) (ns : List ByteArray) (rs : List VR) (st : St) (va vb nv sa sv so : Value) : Prop where
  blk : w.heap[R]? = some (.cells #[va, vb, nv, sa, sv, so, .int .i64 0, .int .i64 (st.f : Int)] 70 (0, 0))
  out : w.ownsRow w0.heap.size 31 1 sa rs.length (rs.map (·.1))
  own : Owns w w0.heap.size (rs ++ [(sv, st.V), (so, st.O)])
  a : rs.map (·.2) = st.A
  nm : w.ownsRow w0.heap.size 9 1 nv ns.length (ns.map Value.string)
  p : AV w0 0 va ts
  low : Below w0.heap.size w0 w
  ge : w0.heap.size ≤ R ∧ w0.heap.size ≤ w.heap.size
theorem RS.later {w0 w w' : World} {R : Nat} {ts : List AR} {ns : List ByteArray} {rs : List VR} {st : St} {va vb nv sa sv so : Value} (h : RS w0 w R ts ns rs st va vb nv sa sv so) (hb : Below w.heap.size w w') : RS w0 w' R ts ns rs st va vb nv sa sv so :=
  ⟨(hb.block _ (lt_heap h.blk)).trans h.blk, ownB h.out hb, h.own.later hb, h.a, ownB h.nm hb, h.p, h.low.trans (hb.mono h.ge.2), h.ge.1, Nat.le_trans h.ge.2 hb.size⟩
theorem RS.sto {w0 w : World} {R : Nat} {ts : List AR} {ns : List ByteArray} {rs : List VR} {st : St} {va vb nv sa sv so : Value} (h : RS w0 w R ts ns rs st va vb nv sa sv so) : StoV w sa sv so st.A st.V st.O := by
  have := (StoO.mk h.out h.own).stoV
  rw [h.a] at this
  exact this
theorem RS.cells {w0 w : World} {R : Nat} {ts : List AR} {ns : List ByteArray} {rs : List VR} {st : St} {va vb nv sa sv so : Value} (h : RS w0 w R ts ns rs st va vb nv sa sv so) :
    w.cell? ⟨R, 2, Option.none⟩ = some nv ∧ w.cell? ⟨R, 3, Option.none⟩ = some sa ∧ w.cell? ⟨R, 4, Option.none⟩ = some sv ∧ w.cell? ⟨R, 5, Option.none⟩ = some so ∧ w.cell? ⟨R, 7, Option.none⟩ = some (.int .i64 (st.f : Int)) ∧ ∀ j, w.frozen? ⟨R, j, Option.none⟩ = false := by
  refine ⟨?_, ?_, ?_, ?_, ?_, fun j => ?_⟩
  all_goals simp [World.cell?, World.frozen?, h.blk]
theorem RS.turn {w0 w w' : World} {R : Nat} {ts : List AR} {ns : List ByteArray} {rs : List VR} {st st' : St} {va vb nv sa sv so : Value} (h : RS w0 w R ts ns rs st va vb nv sa sv so) (hg : w.grownBy w' (some R)) (hv : st'.V = st.V) (ho : st'.O = st.O) (ha : st'.A = st.A)
    (hb : w'.heap[R]? = some (.cells #[va, vb, nv, sa, sv, so, .int .i64 0, .int .i64 (st'.f : Int)] 70 (0, 0))) : RS w0 w' R ts ns rs st' va vb nv sa sv so ∧ KQ R w w' := by
  refine ⟨⟨hb, ?_, ?_, h.a.trans ha.symm, ?_, h.p, h.low.trans (below_of_grown hg (fun k hk => by injection hk with hk; have := h.ge.1; omega) h.ge.2), h.ge.1, Nat.le_trans h.ge.2 hg.size⟩, ?_⟩
  · exact ownG h.out hg (fun k hk ek => by injection ek with ek; subst ek; exact own_ne h.out h.blk (by decide) hk)
  · rw [hv, ho]
    exact ⟨fun r hr => ownG (h.own.own r hr) hg (fun k hk ek => by injection ek with ek; subst ek; exact own_ne (h.own.own r hr) h.blk (by decide) hk), h.own.apart⟩
  · exact ownG h.nm hg (fun k hk ek => by injection ek with ek; subst ek; exact own_ne h.nm h.blk (by decide) hk)
  · intro N ar t hN _ hh
    exact (hg.block N (lt_heap hh) (fun e => hN (by injection e))).trans hh
theorem RS.names {w0 w : World} {R : Nat} {ts : List AR} {ns : List ByteArray} {rs : List VR} {st : St} {va vb nv sa sv so : Value} (h : RS w0 w R ts ns rs st va vb nv sa sv so) : TV w 0 nv ns := (TV.of h.nm).low
structure NmC (R : Nat) (ns : List ByteArray) (nv sv fv : Value) (bs : List AR) (JJ : World → Prop) : Prop where
  lk : ∀ V : List Int, V.length ≤ 100000000 → Lk fv (fun w => JJ w ∧ TV w 0 nv ns ∧ IV w 0 sv V) (withN bs (varN ns V))
  kq : ∀ w w', JJ w → KQ R w w' → JJ w'
set_option maxHeartbeats 1000000 in
set_option maxRecDepth 100000 in
theorem burn_is {w0 : World} {R : Nat} {ts : List AR} {ns : List ByteArray} {rs : List VR} {st : St} {va vb nv sa sv so : Value} (hf : st.f ≤ 4000) (w : World) (h : RS w0 w R ts ns rs st va vb nv sa sv so) :
    Calls Tryz.prog 137 #[.pointer (some ⟨R, 0, Option.none⟩)] w fun e w' => (st.f = 0 ∧ e = .returned (.bool false) ∧ w' = w) ∨ (¬ st.f = 0 ∧ e = .returned (.bool true) ∧ RS w0 w' R ts ns rs (burnt st) va vb nv sa sv so ∧ KQ R w w') := by
  obtain ⟨_, _, _, _, c7, f7⟩ := h.cells
  replace f7 := f7 7
  by_cases h0 : st.f = 0
  · have hz : (st.f : Int) = 0 := by omega
    rw [hz] at c7
    go_enter Tryz.func137, Tryz.ntmps137
    go_wp2
    go_ret
    exact .inl ⟨h0, rfl, rfl⟩
  · obtain ⟨m, hm⟩ : ∃ m : Nat, st.f = m + 1 := ⟨st.f - 1, by omega⟩
    have hmI : (st.f : Int) = (m : Int) + 1 := by omega
    rw [hmI] at c7
    have hne : (((m : Int) + 1) == 0) = false := by simp; omega
    have hb := Go.heap_setCell_same w R 7 _ _ (.int .i64 (m : Int)) h.blk
    have T := hid (h.turn (st' := burnt st) (grownBy_set (g := R) ⟨R, 7, Option.none⟩ rfl (.int .i64 (m : Int))) rfl rfl rfl (by
      rw [hb]
      have : ((burnt st).f : Int) = (m : Int) := by simp only [burnt]; omega
      rw [this]; rfl))
    have H0 := hid h0
    have hml : (m : Int) ≤ 4000 := by omega
    clear hb h h0 hm hmI
    go_enter Tryz.func137, Tryz.ntmps137
    go_wp2
    go_ret
    exact .inr ⟨H0.out, rfl, T.out.1, T.out.2⟩
structure RB (ts : List AR) (ns : List ByteArray) (st : St) : Prop where
  t : ts.length ≤ 1048576
  n : ns.length ≤ 1048576
  a : st.A.length ≤ 1048576
  b : ∀ xs ∈ st.A, xs.length ≤ 1048576
  v : st.V.length ≤ 1048576
  f : st.f ≤ 4000
theorem RS.ranges {w0 w : World} {R : Nat} {ts : List AR} {ns : List ByteArray} {rs : List VR} {st : St} {va vb nv sa sv so : Value} (h : RS w0 w R ts ns rs st va vb nv sa sv so) : w.rangeAt R 0 [va, vb] ∧ w.rangeAt R 3 [sa, sv, so, .int .i64 0] :=
  ⟨rangeSub (cs := []) (es := [nv, sa, sv, so, .int .i64 0, .int .i64 (st.f : Int)]) (blk_range h.blk), rangeSub (cs := [va, vb, nv]) (es := [.int .i64 (st.f : Int)]) (blk_range h.blk)⟩
set_option maxHeartbeats 2000000 in
set_option maxRecDepth 100000 in
theorem value_is {w0 : World} {R : Nat} {ts : List AR} {ns : List ByteArray} {rs : List VR} {st : St} {va vb nv sa sv so fv : Value} {bs : List AR} {JJ : World → Prop} (hb : RB ts ns st) (hn : NmC R ns nv sv fv bs JJ) (hvb : vb.oneCell' = true) (x : X) (ht : toldX 8 x = true) (w : World) (v : Value) (h : RS w0 w R ts ns rs st va vb nv sa sv so) (hJ : JJ w) (hv : EV w 0 x.l v) :
    Calls Tryz.prog 180 #[.pointer (some ⟨R, 0, Option.none⟩), .agg #[.int .i64 x.h.k, .int .i64 x.h.n, .string x.h.s, v], fv] w fun e w' => e = valR (evS ts ns bs st x) ∧ Below w.heap.size w w' := by
  have H := hid h
  have HB := hid hb
  have HN := hid hn
  have HT := hid ht
  have HV := hid hv
  have HJ := hid hJ
  obtain ⟨kf, caps, hfv, _, _⟩ := (hn.lk st.V (by have := hb.v; omega)).is
  obtain ⟨a1, b1, rfl⟩ := h.p.shape
  obtain ⟨a3, b3, rfl⟩ := h.sto.a.shape
  obtain ⟨a4, b4, rfl⟩ := h.sto.v.shape
  obtain ⟨a5, b5, rfl⟩ := h.sto.o.shape
  obtain ⟨a7, b7, rfl⟩ := hv.shape
  have hbA := alloc_below w (.cells #[.int .i64 x.h.k, .int .i64 x.h.n, .string x.h.s, .slice a7 (elen x.l) b7] 43)
  have BA := hid hbA
  have R0 := hid (h.later hbA)
  have RE : Hid ((w.alloc (.cells #[.int .i64 x.h.k, .int .i64 x.h.n, .string x.h.s, .slice a7 (elen x.l) b7] 43)).rangeAt w.heap.size 0 [.int .i64 x.h.k, .int .i64 x.h.n, .string x.h.s, .slice a7 (elen x.l) b7]) := blk_range (blkLast _ _)
  have o6 : fv.oneCell' = true := by rw [hfv]; rfl
  clear h hb hn ht hv hJ hbA hfv
  go_enter Tryz.func180, Tryz.ntmps180
  go_wp2_with fail
  obtain ⟨W, hW⟩ : ∃ W, w.alloc (.cells #[.int .i64 x.h.k, .int .i64 x.h.n, .string x.h.s, .slice a7 (elen x.l) b7] 43) = W := ⟨_, rfl⟩
  rw [hW] at BA R0 RE ⊢
  clear hW
  have bd : Below W.heap.size W W.drew := (Below.refl _ W).drew
  have Rd := R0.out.later bd
  have REd := rangeAt_later RE.out bd
  have Bd := BA.out.trans (bd.mono BA.out.size)
  refine wp_region_held_drew (S := fun w' => w'.rangeAt R 0 [.slice a1 ts.length b1, vb] ∧ w'.rangeAt R 3 [.slice a3 st.A.length b3, .slice a4 st.V.length b4, .slice a5 st.O.length b5, .int .i64 0] ∧ w'.rangeAt w.heap.size 0 [.int .i64 x.h.k, .int .i64 x.h.n, .string x.h.s, .slice a7 (elen x.l) b7]) (by kernel_rfl) ⟨Rd.ranges.1, Rd.ranges.2, REd⟩ (fun hHeld => ?_)
  refine wpAnyH_take (i := 0) (v := .pointer (some ⟨R, 0, Option.none⟩)) rfl (by kernel_rfl) (by kernel_rfl) (by kernel_rfl) (fun _ _ _ h => h) (Or.inl ⟨by rfl, ?va0⟩) hHeld ?_
  case va0 => intro w hSw; go_simp
  simp only [Act.put, zp]
  refine wpAnyH_take (i := 1) (v := .pointer (some ⟨R, 0, Option.none⟩)) rfl (by kernel_rfl) (by kernel_rfl) (by kernel_rfl) (fun _ _ _ h => h) (Or.inl ⟨by rfl, ?va1⟩) hHeld ?_
  case va1 => intro w hSw; go_simp
  simp only [Act.put, zp]
  refine wpAnyH_take (i := 2) (v := .pointer (some ⟨R, 0, Option.none⟩)) rfl (by kernel_rfl) (by kernel_rfl) (by kernel_rfl) (fun _ _ _ h => h) (Or.inl ⟨by rfl, ?va2⟩) hHeld ?_
  case va2 => intro w hSw; go_simp
  simp only [Act.put, zp]
  refine wpAnyH_take (i := 3) (v := .agg ([.slice a1 ts.length b1, vb] : List Value).toArray) rfl (by kernel_rfl) (by kernel_rfl) (by kernel_rfl) (fun _ _ _ h => h) (yieldsIf_load_mid (by rfl) 27 _ rfl (R) (0) rfl [.slice a1 ts.length b1, vb] _ (fun w h => h.1) Tryz.underlying27 rfl sizeProg2) hHeld ?_
  simp only [Act.put, zp]
  refine wpAnyH_take (i := 4) (v := .pointer (some ⟨R, 0, Option.none⟩)) rfl (by kernel_rfl) (by kernel_rfl) (by kernel_rfl) (fun _ _ _ h => h) (Or.inl ⟨by rfl, ?va4⟩) hHeld ?_
  case va4 => intro w hSw; go_simp
  simp only [Act.put, zp]
  refine wpAnyH_take (i := 5) (v := .pointer (some ⟨R, 0, Option.none⟩)) rfl (by kernel_rfl) (by kernel_rfl) (by kernel_rfl) (fun _ _ _ h => h) (Or.inl ⟨by rfl, ?va5⟩) hHeld ?_
  case va5 => intro w hSw; go_simp
  simp only [Act.put, zp]
  refine wpAnyH_take (i := 6) (v := .pointer (some ⟨R, 3, Option.none⟩)) rfl (by kernel_rfl) (by kernel_rfl) (by kernel_rfl) (fun _ _ _ h => h) (Or.inl ⟨by rfl, ?va6⟩) hHeld ?_
  case va6 => intro w hSw; go_simp
  simp only [Act.put, zp]
  refine wpAnyH_take (i := 7) (v := .agg ([.slice a3 st.A.length b3, .slice a4 st.V.length b4, .slice a5 st.O.length b5, .int .i64 0] : List Value).toArray) rfl (by kernel_rfl) (by kernel_rfl) (by kernel_rfl) (fun _ _ _ h => h) (yieldsIf_load_mid (by rfl) 33 _ rfl (R) (3) rfl [.slice a3 st.A.length b3, .slice a4 st.V.length b4, .slice a5 st.O.length b5, .int .i64 0] _ (fun w h => h.2.1) Tryz.underlying33 rfl sizeSto2) hHeld ?_
  simp only [Act.put, zp]
  refine wpAnyH_take (i := 8) (v := fv) rfl (by kernel_rfl) (by kernel_rfl) (by kernel_rfl) (fun _ _ _ h => h) (Or.inl ⟨by rfl, ?va8⟩) hHeld ?_
  case va8 => intro w hSw; go_simp
  simp only [Act.put, zp]
  refine wpAnyH_take (i := 9) (v := .agg ([.int .i64 x.h.k, .int .i64 x.h.n, .string x.h.s, .slice a7 (elen x.l) b7] : List Value).toArray) rfl (by kernel_rfl) (by kernel_rfl) (by kernel_rfl) (fun _ _ _ h => h) (yieldsIf_load_mid (by rfl) 43 _ rfl (w.heap.size) (0) rfl [.int .i64 x.h.k, .int .i64 x.h.n, .string x.h.s, .slice a7 (elen x.l) b7] _ (fun w h => h.2.2) Tryz.underlying43 rfl sizeExp4) hHeld ?_
  simp only [Act.put, zp]
  refine wpAnyH_ready (rs := [10]) (by kernel_rfl) (by simp) ?_
  refine AllReadyH.cons rfl (fun K hK => ?_) AllReadyH.nil
  rw [if_pos (by rfl)]
  simp only [zq]
  go_wp2_with fail
  have J1 : Hid (JJ W.drew) := HN.out.kq _ _ HJ.out (KQ.of Bd)
  refine (evCall (en := 0) HB.out.t (by have := HB.out.a; omega) (fun xs hx => Nat.le_trans (HB.out.b xs hx) (by omega)) hvb rfl rfl (HN.out.lk st.V (by have := HB.out.v; omega)) x W.drew (.slice a7 (elen x.l) b7) HT.out (HV.out.later Bd) ⟨J1.out, Rd.names, Rd.sto.v⟩ (H.out.p.later Rd.low) Rd.sto.a).mono ?_
  rintro e w2 ⟨he, hb2⟩
  have B2 := hid (Bd.trans (hb2.mono Bd.size))
  obtain ⟨r, hrr⟩ : ∃ r, evS ts ns bs st x = r := ⟨_, rfl⟩
  have HR := hid hrr
  rw [show evX ts st.A (withN bs (varN ns st.V)) 8 x = r from hrr] at he
  obtain rfl : e = .returned (.tuple #[.int .i64 (r.getD 0), .bool r.isSome]) := he
  go_wp2_with fail
  refine hK.out _ _ (⟨rangeAt_later hHeld.1 hb2, rangeAt_later hHeld.2.1 hb2, rangeAt_later hHeld.2.2 hb2⟩) (fun hHeld => ?_)
  clear hb2 hrr Rd REd Bd bd
  refine wpAnyH_take (i := 11) (v := .int .i64 (r.getD 0)) rfl (by kernel_rfl) (by kernel_rfl) (by kernel_rfl) (fun _ _ _ h => h) (Or.inl ⟨by rfl, ?vb11⟩) hHeld ?_
  case vb11 => intro w hSw; go_simp
  simp only [Act.put, zp]
  refine wpAnyH_take (i := 12) (v := .bool r.isSome) rfl (by kernel_rfl) (by kernel_rfl) (by kernel_rfl) (fun _ _ _ h => h) (Or.inl ⟨by rfl, ?vb12⟩) hHeld ?_
  case vb12 => intro w hSw; go_simp
  simp only [Act.put, zp]
  refine wpAnyH_take (i := 13) (v := .int .i64 (r.getD 0)) rfl (by kernel_rfl) (by kernel_rfl) (by kernel_rfl) (fun _ _ _ h => h) (Or.inl ⟨by rfl, ?vb13⟩) hHeld ?_
  case vb13 => intro w hSw; go_simp
  simp only [Act.put, zp]
  refine wpAnyH_take (i := 14) (v := .bool r.isSome) rfl (by kernel_rfl) (by kernel_rfl) (by kernel_rfl) (fun _ _ _ h => h) (Or.inl ⟨by rfl, ?vb14⟩) hHeld ?_
  case vb14 => intro w hSw; go_simp
  simp only [Act.put, zp]
  refine wpAnyH_done (by kernel_rfl) ?_ _
  clear hHeld
  go_wp2
  exact bodyPost_ret (v := .tuple #[.int .i64 (r.getD 0), .bool r.isSome]) (by simp [results, Tryz.results180, go_sem]) rfl ⟨by rw [HR.out]; rfl, B2.out⟩
end Go.Proofs.YtfoghiminlbdaaaGreat
