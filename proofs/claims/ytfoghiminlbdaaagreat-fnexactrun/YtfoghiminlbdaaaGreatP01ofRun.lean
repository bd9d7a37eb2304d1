/-
  Texts in one: AstTo, AstToS, AstArr, AstSzS, AstEq.
-/
import Derived.Test.YtfoghiminlbdaaaGreatP00ofRun
import Derived.Deep.RegionWith
import Derived.Deep.Cut
import Derived.Deep.CutRange
namespace Go.Proofs.YtfoghiminlbdaaaGreat
open Go.RowKit Go.Lib
set_option linter.unusedSimpArgs false
set_option linter.unusedVariables false
theorem sizeIE : (Tryz.prog.info? 43).map (·.size) = some 4 := by kernel_rfl
theorem sizeLE : (Tryz.prog.info? 162).map (·.size) = some 4 := by kernel_rfl
theorem blk4 {w : World} {b : Nat} {x y z u : Value} {t : TypeId} (h : w.heap[b]? = some (.cells #[x, y, z, u] t (0, 0))) :
    (w.cell? ⟨b, 0, Option.none⟩ = some x ∧ w.cell? ⟨b, 1, Option.none⟩ = some y ∧ w.cell? ⟨b, 2, Option.none⟩ = some z ∧ w.cell? ⟨b, 3, Option.none⟩ = some u) ∧ w.frozen? ⟨b, 0, Option.none⟩ = false ∧ w.frozen? ⟨b, 1, Option.none⟩ = false ∧ w.frozen? ⟨b, 2, Option.none⟩ = false ∧ w.frozen? ⟨b, 3, Option.none⟩ = false := by
  simp [World.cell?, World.frozen?, h]
theorem set5 {w w1 : World} {N : Nat} (hb : Below w.heap.size w w1) (hN : w.heap.size = N) (p x y z u : Value) : Below w.heap.size w (((((w1.setCell ⟨N + 2, 3, Option.none⟩ p).setCell ⟨N + 1, 0, Option.none⟩ x).setCell ⟨N + 1, 1, Option.none⟩ y).setCell ⟨N + 1, 2, Option.none⟩ z).setCell ⟨N + 1, 3, Option.none⟩ u) ∧
    Keeps (w.heap.size + 3) w1 (((((w1.setCell ⟨N + 2, 3, Option.none⟩ p).setCell ⟨N + 1, 0, Option.none⟩ x).setCell ⟨N + 1, 1, Option.none⟩ y).setCell ⟨N + 1, 2, Option.none⟩ z).setCell ⟨N + 1, 3, Option.none⟩ u) := by
  subst hN
  exact ⟨((((hb.setCell (p := ⟨w.heap.size + 2, 3, Option.none⟩) (by simp) _).setCell (p := ⟨w.heap.size + 1, 0, Option.none⟩) (by simp) _).setCell (p := ⟨w.heap.size + 1, 1, Option.none⟩) (by simp) _).setCell (p := ⟨w.heap.size + 1, 2, Option.none⟩) (by simp) _).setCell (p := ⟨w.heap.size + 1, 3, Option.none⟩) (by simp) _,
    ((((Keeps.set _ _ (by simp) _).trans (Keeps.set _ _ (by simp) _)).trans (Keeps.set _ _ (by simp) _)).trans (Keeps.set _ _ (by simp) _)).trans (Keeps.set _ _ (by simp) _)⟩
set_option maxHeartbeats 1000000 in
theorem toExp_of (x : X)
    (ih : ∀ (w : World) (v : Value), EV w 0 x.l v → Calls Tryz.prog 189 #[v] w fun e w' => ∃ v', e = .returned v' ∧ EV w' w.heap.size x.l v' ∧ Below w.heap.size w w')
    (w : World) (v : Value) (hv : EV w 0 x.l v) :
    Calls Tryz.prog 163 #[.agg #[.int .i64 x.h.k, .int .i64 x.h.n, .string x.h.s, v]] w fun e w' => ∃ v', e = .returned (.agg #[.int .i64 x.h.k, .int .i64 x.h.n, .string x.h.s, v']) ∧ EV w' w.heap.size x.l v' ∧ Below w.heap.size w w' := by
  have Hih := hid ih
  clear ih
  obtain ⟨a, c, rfl⟩ := hv.shape
  have Hv := hid hv
  clear hv
  go_enter Tryz.func163, Tryz.ntmps163
  go_wp2_with fail
  have hb3 := ((alloc_below w (.cells #[.int .i64 x.h.k, .int .i64 x.h.n, .string x.h.s, .slice a (elen x.l) c] 162)).alloc (by simp) (.cells #[.int .i64 0, .int .i64 0, .string ⟨#[]⟩, .slice Option.none 0 0] 43)).alloc (by simp; omega) (.cells #[.int .i64 x.h.k, .int .i64 x.h.n, .string x.h.s, .slice Option.none 0 0] 43)
  obtain ⟨_, q1, q2⟩ := heap3 w (.cells #[.int .i64 x.h.k, .int .i64 x.h.n, .string x.h.s, .slice a (elen x.l) c] 162) (.cells #[.int .i64 0, .int .i64 0, .string ⟨#[]⟩, .slice Option.none 0 0] 43) (.cells #[.int .i64 x.h.k, .int .i64 x.h.n, .string x.h.s, .slice Option.none 0 0] 43)
  refine (Hih.out _ _ (Hv.out.later hb3)).mono ?_
  rintro e w1 ⟨v', rfl, hv', hb1⟩
  obtain ⟨a', c', rfl⟩ := hv'.shape
  have r1 := (hb1.block _ (by simp)).trans q1
  have r2 := (hb1.block _ (by simp)).trans q2
  have hb := hb3.trans (hb1.mono hb3.size)
  obtain ⟨⟨c0, c1, c2, c3⟩, f0, f1, f2, f3⟩ := blk4 r1
  obtain ⟨⟨d0, d1, d2, d3⟩, g0, g1, g2, g3⟩ := blk4 r2
  have Hv' := hid hv'
  have Hb := hid hb
  clear hb1 hb3 hv' q1 q2 r1 r2 hb
  go_wp2
  obtain ⟨hB, hK⟩ := set5 Hb.out rfl (.slice a' (elen x.l) c') (.int .i64 x.h.k) (.int .i64 x.h.n) (.string x.h.s) (.slice a' (elen x.l) c')
  refine bodyPost_ret (v := .agg #[.int .i64 x.h.k, .int .i64 x.h.n, .string x.h.s, .slice a' (elen x.l) c']) (by simp [results, Tryz.results163, go_sem, c0, c1, c2, c3]) rfl ⟨_, rfl, (Hv'.out.same (lo' := w.heap.size) (by simp; omega) (fun a v hl hc => hK a v (by simpa using hl) hc)), hB⟩
theorem infoIE : (Tryz.prog.info? 43).map (fun i => (i.zero, i.size, i.bytes)) = some (some (.agg #[.int .i64 0, .int .i64 0, .string ⟨#[]⟩, .slice Option.none 0 0]), 4, 56) := by kernel_rfl
theorem ERow.next {w w' : World} {lo g : Nat} {P : EF} {xs : List Value} {h : EH} {l : EF} {v : Value} (p q : Nat) (hP : ERow w lo P xs) (hk : Keeps lo w w') (hv : EV w' lo l v) (hr : w'.rangeAt g 0 xs) (h4 : w'.rangeAt g (elen P * 4) [.int .i64 h.k, .int .i64 h.n, .string h.s, v]) :
    ERow w' lo (eapp P (.node p q h l .nil)) (xs ++ [.int .i64 h.k, .int .i64 h.n, .string h.s, v]) ∧ w'.rangeAt g 0 (xs ++ [.int .i64 h.k, .int .i64 h.n, .string h.s, v]) :=
  ⟨(ERow.same (Nat.le_refl _) hk hP).app (ERow.one hv), rangeAt_app hr (by rw [hP.length, Nat.zero_add]; exact h4)⟩
theorem all4 (k n : Int) (t : ByteArray) (a : Option Addr) (l c : Nat) : (#[.int .i64 k, .int .i64 n, .string t, .slice a l c] : Array Value).all (·.oneCell') = true :=
  all_oneCell_toArray (cs := [.int .i64 k, .int .i64 n, .string t, .slice a l c]) (fun v hv => by
    simp only [List.mem_cons, List.not_mem_nil, or_false] at hv
    rcases hv with rfl | rfl | rfl | rfl <;> rfl)
set_option maxHeartbeats 400000 in
theorem toExpS_step (F : EF) (hF : esize F ≤ 1048576)
    (ih : ∀ l : EF, enodes l < enodes F → esize l ≤ 1048576 → ∀ (w : World) (v : Value), EV w 0 l v → Calls Tryz.prog 189 #[v] w fun e w' => ∃ v', e = .returned v' ∧ EV w' w.heap.size l v' ∧ Below w.heap.size w w')
    (w : World) (v : Value) (hv : EV w 0 F v) :
    Calls Tryz.prog 189 #[v] w fun e w' => ∃ v', e = .returned v' ∧ EV w' w.heap.size F v' ∧ Below w.heap.size w w' := by
  have hn : elen F ≤ 1048576 := Nat.le_trans (Nat.le_trans (elen_le F) (enodes_le F)) hF
  obtain ⟨b, o, ao, cap, rfl, hao, _, hin⟩ := hv
  obtain ⟨i0, hi, hz0, hz1, hz2⟩ := info_parts infoIE
  have Hih := hid ih
  clear ih
  go_enter Tryz.func189, Tryz.ntmps189
  go_wp2_with (refine wpList_make_full _ rfl _ _ 41 rfl w.heap.size 43 i0 _ 4 Tryz.underlying41 hi hz0 hz1 .i64 .i64 _ _ (elen F) rfl rfl rfl rfl ?c1 ?c2 ?c3 ?_)
  case c1 => rw [hz2]; omega
  case c2 => unfold maxLen; omega
  case c3 => exact Nat.le_refl _
  intro w1 hown hgrow
  obtain ⟨cur, hcur, _, hcs, _⟩ := own_block hown
  have hbw : Below w.heap.size w w1 := (Below.refl _ w).grown hgrow (Nat.le_refl _) (fun k hk => by cases hk)
  have Hth : Hid (w1.there w.heap.size 0 (elen F * 4)) := blk_there hcur (by omega)
  have hsz : w.heap.size < w1.heap.size := (Array.getElem?_eq_some_iff.1 hcur).1
  clear hown hgrow hcur hcs
  go_wp2
  go_loopw [4] (fun i wr => ∃ (P R : EF) (xs : List Value), i = .int .i64 (elen P : Int) ∧ Hid (eapp P R = F ∧ enodes R ≤ enodes F ∧ esize R ≤ 1048576) ∧ EIn w 0 R b (o + elen P * 4) ∧ Hid (wr.there w.heap.size 0 (elen F * 4) ∧ ERow wr (w.heap.size + 1) P xs ∧ wr.rangeAt w.heap.size 0 xs ∧ w.heap.size < wr.heap.size) ∧ Below w.heap.size w wr) (fun i _ => elen F - (RowKit.intOf i).toNat)
  case atStart => exact ⟨.nil, F, [], rfl, ⟨rfl, Nat.le_refl _, hF⟩, by simpa [elen] using hin, ⟨Hth.out, rfl, (fun j v hv => by simp at hv), hsz⟩, hbw⟩
  case round =>
    obtain ⟨P, R, xs, rfl, hr, hinR, hm, hbr⟩ := hrel
    obtain ⟨e1, e2, e3⟩ := hr.out
    have eL := congrArg elen e1
    rw [elen_app] at eL
    cases R with
    | nil =>
      have hk : ¬ (elen P : Int) < (elen F : Int) := by simp only [elen] at eL; omega
      rw [eapp_nil] at e1
      subst e1
      go_wp2
      go_ret
      exact ⟨_, rfl, EV.laid hm.out.2.1 hm.out.2.2.1 _ (by omega), hbr⟩
    | node p q h l r =>
      have hlt : (elen P : Int) < (elen F : Int) := by simp only [elen] at eL; omega
      rcases hao with rfl | hnil
      · obtain ⟨⟨a0, a1, a2, u, a3, hu⟩, hinr⟩ := EIn_node.1 (EIn_later hbr _ _ _ hinR)
        have hinr0 := (EIn_node.1 hinR).2
        simp only [enodes] at e2
        simp only [esize] at e3
        have Hl := hid (fun w v => Hih.out l (by omega) (by omega) w v)
        have He : Hid (eapp (eapp P (.node p q h l .nil)) r = F ∧ enodes r ≤ enodes F ∧ esize r ≤ 1048576) := ⟨by rw [eapp_snoc]; exact e1, by omega, by omega⟩
        have HeL : Hid (elen P + (elen r + 1) = elen F) := eL
        clear hr hinR e1 e2 e3 hinr hin eL
        go_wp2_with fail
        refine (toExp_of ⟨h, l⟩ Hl.out _ u hu).mono ?_
        rintro e w2 ⟨v', rfl, hv', hb2⟩
        obtain ⟨t1, t2, t3, t4⟩ := hm.out
        have t1' := there_later t1 hb2
        have hbw2 := hbr.trans (hb2.mono hbr.size)
        have ht4 : w2.there w.heap.size (elen P * 4) 4 := by have := there_part t1' (elen P * 4) 4 (by have := HeL.out; omega); rwa [Nat.zero_add] at this
        obtain ⟨a', c', rfl⟩ := hv'.shape
        clear a0 a1 a2 a3
        go_wp2_with (refine wpList_store_mid rfl 43 _ _ rfl _ _ _ rfl rfl ?ht sizeIE (all4 _ _ _ _ _ _) ?_)
        case ht => exact ht4
        have hks : Keeps (w.heap.size + 1) w2 (w2.setCells w.heap.size (elen P * 4) [.int .i64 h.k, .int .i64 h.n, .string h.s, .slice a' (elen l) c']) := Keeps.sets _ (by omega) _ _
        obtain ⟨n1, n2⟩ := ERow.next p q t2 ((Keeps.later hb2).trans hks) ((hv'.lower t4).same (Nat.le_refl _) hks) (World.rangeAt_setCells_apart (rangeAt_later t3 hb2) w.heap.size (elen P * 4) [.int .i64 h.k, .int .i64 h.n, .string h.s, .slice a' (elen l) c'] (.inr (.inl (by rw [t2.length]; omega)))) (World.rangeAt_setCells_same _ _ _ _ ht4)
        have n3 := World.there_setCells t1' w.heap.size (elen P * 4) [.int .i64 h.k, .int .i64 h.n, .string h.s, .slice a' (elen l) c']
        have n4 := below_sets [.int .i64 h.k, .int .i64 h.n, .string h.s, .slice a' (elen l) c'] (elen P * 4) hbw2 (Nat.le_refl _)
        have n5 : w.heap.size < (w2.setCells w.heap.size (elen P * 4) [.int .i64 h.k, .int .i64 h.n, .string h.s, .slice a' (elen l) c']).heap.size := by rw [size_sets]; exact Nat.lt_of_lt_of_le t4 hb2.size
        have hlen : elen (eapp P (.node p q h l .nil)) = elen P + 1 := by rw [elen_app]; rfl
        have N := hid (And.intro n1 (And.intro n2 (And.intro n3 (And.intro n5 hlen))))
        clear t1 t2 t3 t1' ht4 hv' hb2 hbw2 hks n1 n2 n3 n5 hlen hm hbr
        go_wp2
        go_roundw
        case rel =>
          obtain ⟨n1, n2, n3, n5, hlen⟩ := N.out
          exact ⟨eapp P (.node p q h l .nil), r, _, by rw [hlen]; go_num, He.out, by rw [hlen, show o + (elen P + 1) * 4 = o + elen P * 4 + 4 by omega]; exact hinr0, ⟨n3, n1, n2, n5⟩, n4⟩
        case measure => simp [RowKit.intOf]; omega
      · subst hnil; simp only [elen] at eL; omega
theorem toExpS_all : ∀ (n : Nat) (F : EF), enodes F < n → esize F ≤ 1048576 → ∀ (w : World) (v : Value), EV w 0 F v → Calls Tryz.prog 189 #[v] w fun e w' => ∃ v', e = .returned v' ∧ EV w' w.heap.size F v' ∧ Below w.heap.size w w'
  | 0, _, h, _, _, _, _ => absurd h (by omega)
  | n + 1, F, h, hF, w, v, hv => toExpS_step F hF (fun l hl hk w v a => toExpS_all n l (by omega) hk w v a) w v hv
theorem toExpS_is (F : EF) (hF : esize F ≤ 1048576) (w : World) (v : Value) (hv : EV w 0 F v) :
    Calls Tryz.prog 189 #[v] w fun e w' => ∃ v', e = .returned v' ∧ EV w' w.heap.size F v' ∧ Below w.heap.size w w' := toExpS_all _ F (Nat.lt_succ_self _) hF w v hv
theorem toExp_is (x : X) (hx : xsize x ≤ 1048576) (w : World) (v : Value) (hv : EV w 0 x.l v) :
    Calls Tryz.prog 163 #[.agg #[.int .i64 x.h.k, .int .i64 x.h.n, .string x.h.s, v]] w fun e w' => ∃ v', e = .returned (.agg #[.int .i64 x.h.k, .int .i64 x.h.n, .string x.h.s, v']) ∧ EV w' w.heap.size x.l v' ∧ Below w.heap.size w w' :=
  toExp_of x (fun w v a => toExpS_is x.l (by unfold xsize at hx; omega) w v a) w v hv
abbrev zero19 : Array Value := #[.int .i64 0, .string ⟨#[]⟩, .int .i64 0, .int .i64 0, .string ⟨#[]⟩, .slice Option.none 0 0, .int .i64 0, .int .i64 0, .string ⟨#[]⟩, .slice Option.none 0 0, .int .i64 0, .int .i64 0, .string ⟨#[]⟩, .slice Option.none 0 0, .int .i64 0, .int .i64 0, .string ⟨#[]⟩, .slice Option.none 0 0, .slice Option.none 0 0]
abbrev out19 (h : SH) : Array Value := #[.int .i64 h.k, .string h.s, .int .i64 0, .int .i64 0, .string ⟨#[]⟩, .slice Option.none 0 0, .int .i64 0, .int .i64 0, .string ⟨#[]⟩, .slice Option.none 0 0, .int .i64 0, .int .i64 0, .string ⟨#[]⟩, .slice Option.none 0 0, .int .i64 0, .int .i64 0, .string ⟨#[]⟩, .slice Option.none 0 0, .slice Option.none 0 0]
theorem oneX (x : X) (v : Value) (hv : v.oneCell' = true) : (xcells x v).toArray.all (·.oneCell') = true :=
  all_oneCell_toArray (fun u hu => by
    simp only [xcells, List.mem_cons, List.not_mem_nil, or_false] at hu
    rcases hu with rfl | rfl | rfl | rfl <;> first | rfl | exact hv)
theorem oneS (h : SH) (v1 v2 v3 v4 v : Value) (e1 : v1.oneCell' = true) (e2 : v2.oneCell' = true) (e3 : v3.oneCell' = true) (e4 : v4.oneCell' = true) (e5 : v.oneCell' = true) : (scells h v1 v2 v3 v4 v).toArray.all (·.oneCell') = true :=
  all_oneCell_toArray (fun u hu => by
    simp only [scells, xcells, List.mem_cons, List.mem_append, List.not_mem_nil, or_false] at hu
    rcases hu with rfl | rfl | (rfl | rfl | rfl | rfl) | (rfl | rfl | rfl | rfl) | (rfl | rfl | rfl | rfl) | (rfl | rfl | rfl | rfl) | rfl <;> first | rfl | assumption)
theorem sc19 (h : SH) (v1 v2 v3 v4 v : Value) : (sarr h v1 v2 v3 v4 v).toList = scells h v1 v2 v3 v4 v := rfl
theorem join19 {w : World} {g : Nat} {h : SH} {v1 v2 v3 v4 v : Value} (r0 : w.rangeAt g 0 [.int .i64 h.k, .string h.s]) (r1 : w.rangeAt g 2 (xcells h.x1 v1)) (r2 : w.rangeAt g 6 (xcells h.x2 v2)) (r3 : w.rangeAt g 10 (xcells h.x3 v3)) (r4 : w.rangeAt g 14 (xcells h.x4 v4)) (r5 : w.rangeAt g 18 [v]) :
    w.rangeAt g 0 (scells h v1 v2 v3 v4 v) :=
  rangeAt_app (cs := [.int .i64 h.k, .string h.s]) r0 (rangeAt_app r1 (rangeAt_app r2 (rangeAt_app r3 (rangeAt_app r4 r5))))
structure Mid (w0 : World) (N : Nat) (h : SH) (l : SF) (v1 v2 v3 v4 v : Value) (w : World) : Prop where
  src : w.rangeAt N 0 (scells h v1 v2 v3 v4 v)
  th1 : w.there (N + 1) 0 19
  th2 : w.there (N + 2) 0 19
  top : w.rangeAt (N + 2) 0 [.int .i64 h.k, .string h.s]
  low : Below w0.heap.size w0 w
  size : N + 3 ≤ w.heap.size
  n0 : w0.heap.size = N
theorem Mid.later {w0 w w' : World} {N : Nat} {h : SH} {l : SF} {v1 v2 v3 v4 v : Value} (m : Mid w0 N h l v1 v2 v3 v4 v w) (hb : Below w.heap.size w w') : Mid w0 N h l v1 v2 v3 v4 v w' :=
  ⟨rangeAt_later m.src hb, there_later m.th1 hb, there_later m.th2 hb, rangeAt_later m.top hb, m.low.trans (hb.mono m.low.size), Nat.le_trans m.size hb.size, m.n0⟩
theorem Mid.sets {w0 w : World} {N : Nat} {h : SH} {l : SF} {v1 v2 v3 v4 v : Value} (m : Mid w0 N h l v1 v2 v3 v4 v w) (o : Nat) (ho : 2 ≤ o) (vs : List Value) : Mid w0 N h l v1 v2 v3 v4 v (w.setCells (N + 2) o vs) :=
  ⟨World.rangeAt_setCells_apart m.src _ _ _ (.inl (by omega)), World.there_setCells m.th1 _ _ _, World.there_setCells m.th2 _ _ _, World.rangeAt_setCells_apart m.top _ _ _ (.inr (.inl (by simpa using ho))), below_sets _ _ m.low (by have := m.n0; omega), by rw [size_sets]; exact m.size, m.n0⟩
theorem Mid.x1 {w0 w : World} {N : Nat} {h : SH} {l : SF} {v1 v2 v3 v4 v : Value} (m : Mid w0 N h l v1 v2 v3 v4 v w) : w.rangeAt N 2 (xcells h.x1 v1) := by
  have := rangeAt_part (ds := [.int .i64 h.k, .string h.s]) (es := xcells h.x1 v1) m.src rfl; rwa [Nat.zero_add] at this
theorem Mid.x2 {w0 w : World} {N : Nat} {h : SH} {l : SF} {v1 v2 v3 v4 v : Value} (m : Mid w0 N h l v1 v2 v3 v4 v w) : w.rangeAt N 6 (xcells h.x2 v2) := by
  have := rangeAt_part (ds := [.int .i64 h.k, .string h.s] ++ xcells h.x1 v1) (es := xcells h.x2 v2) m.src rfl; rwa [Nat.zero_add] at this
theorem Mid.x3 {w0 w : World} {N : Nat} {h : SH} {l : SF} {v1 v2 v3 v4 v : Value} (m : Mid w0 N h l v1 v2 v3 v4 v w) : w.rangeAt N 10 (xcells h.x3 v3) := by
  have := rangeAt_part (ds := [.int .i64 h.k, .string h.s] ++ xcells h.x1 v1 ++ xcells h.x2 v2) (es := xcells h.x3 v3) m.src rfl; rwa [Nat.zero_add] at this
theorem Mid.x4 {w0 w : World} {N : Nat} {h : SH} {l : SF} {v1 v2 v3 v4 v : Value} (m : Mid w0 N h l v1 v2 v3 v4 v w) : w.rangeAt N 14 (xcells h.x4 v4) := by
  have := rangeAt_part (ds := [.int .i64 h.k, .string h.s] ++ xcells h.x1 v1 ++ xcells h.x2 v2 ++ xcells h.x3 v3) (es := xcells h.x4 v4) m.src rfl; rwa [Nat.zero_add] at this
theorem Mid.vb {w0 w : World} {N : Nat} {h : SH} {l : SF} {v1 v2 v3 v4 v : Value} (m : Mid w0 N h l v1 v2 v3 v4 v w) : w.cell? ⟨N, 18, Option.none⟩ = some v := by
  have := m.src 18 v rfl; rwa [Nat.zero_add] at this
theorem Mid.there4 {w0 w : World} {N : Nat} {h : SH} {l : SF} {v1 v2 v3 v4 v : Value} (m : Mid w0 N h l v1 v2 v3 v4 v w) (o : Nat) (ho : o + 4 ≤ 19) : w.there (N + 2) o 4 := by
  have := there_part m.th2 o 4 ho; rwa [Nat.zero_add] at this
theorem Mid.cell18 {w0 w : World} {N : Nat} {h : SH} {l : SF} {v1 v2 v3 v4 v : Value} (m : Mid w0 N h l v1 v2 v3 v4 v w) : (∃ u, w.cell? ⟨N + 2, 18, Option.none⟩ = some u) ∧ w.frozen? ⟨N + 2, 18, Option.none⟩ = false := by
  have := m.th2 18 (by omega); rw [Nat.zero_add] at this
  exact ⟨Option.isSome_iff_exists.1 this.1, this.2⟩
theorem Mid.start (w : World) (h : SH) (l : SF) (v1 v2 v3 v4 v : Value) : Mid w w.heap.size h l v1 v2 v3 v4 v (((w.alloc (.cells (sarr h v1 v2 v3 v4 v) 164)).alloc (.cells zero19 119)).alloc (.cells (out19 h) 119)) := by
  obtain ⟨q0, q1, q2⟩ := heap3 w (.cells (sarr h v1 v2 v3 v4 v) 164) (.cells zero19 119) (.cells (out19 h) 119)
  refine ⟨?_, blk_there q1 (Nat.le_refl 19), blk_there q2 (Nat.le_refl 19), ?_, ((alloc_below w _).alloc (by simp) _).alloc (by simp; omega) _, by simp, rfl⟩
  · have := blk_range q0; rwa [sc19] at this
  · have := blk_range q2
    have := rangeAt_part (ds := []) (es := [.int .i64 h.k, .string h.s]) this rfl
    exact this
structure Got (w : World) (N o : Nat) (x : X) (u : Value) : Prop where
  rg : w.rangeAt (N + 2) o (xcells x u)
  ev : EV w (N + 3) x.l u
theorem Got.later {w w' : World} {N o : Nat} {x : X} {u : Value} (g : Got w N o x u) (hb : Below w.heap.size w w') : Got w' N o x u := ⟨rangeAt_later g.rg hb, g.ev.later hb⟩
theorem Got.sets {w W : World} {N o o' : Nat} {x : X} {u : Value} {vs : List Value} (g : Got w N o x u) (ho : o + 4 ≤ o') (hW : w.setCells (N + 2) o' vs = W) : Got W N o x u := by
  subst hW
  exact ⟨World.rangeAt_setCells_apart g.rg _ _ _ (.inr (.inl ho)), g.ev.same (Nat.le_refl _) (Keeps.sets _ (by omega) _ _)⟩
theorem Got.new {w W : World} {N o lo : Nat} {x : X} {u : Value} (ht : w.there (N + 2) o 4) (hu : EV w lo x.l u) (hlo : N + 3 ≤ lo) (hW : w.setCells (N + 2) o (xcells x u) = W) : Got W N o x u := by
  subst hW
  exact ⟨World.rangeAt_setCells_same _ _ _ _ ht, (hu.lower hlo).same (Nat.le_refl _) (Keeps.sets _ (by omega) _ _)⟩
theorem Mid.at {w0 w W : World} {N : Nat} {h : SH} {l : SF} {v1 v2 v3 v4 v : Value} {vs : List Value} (m : Mid w0 N h l v1 v2 v3 v4 v w) (o : Nat) (ho : 2 ≤ o) (hW : w.setCells (N + 2) o vs = W) : Mid w0 N h l v1 v2 v3 v4 v W := by subst hW; exact m.sets o ho vs
theorem store_abs {P : Program} {ops : Array Oper} {rest : List Oper} {op : Oper} {a : Act} {w : World} {Q : Exit → Act → World → Prop} (hgd : op.guard = none) (ty : TypeId) (x y : Operand) (ho : op.op = .store ty x y)
    (b o : Nat) (cells : Array Value) (hx : a.eval x = .pointer (some ⟨b, o, none⟩)) (hy : a.eval y = .agg cells)
    (ht : w.there b o cells.size) (hi : (P.info? ty).map (·.size) = some cells.size) (h1 : cells.all (·.oneCell') = true)
    (h : ∀ W, w.setCells b o cells.toList = W → wpList P ops Q rest (a.put op.dst undef) W) : wpList P ops Q (op :: rest) a w := wpList_store_mid hgd ty x y ho b o cells hx hy ht hi h1 (h _ rfl)
set_option maxHeartbeats 2000000 in
set_option maxRecDepth 100000 in
theorem toStmt_of (h : SH) (l : SF) (k1 : xsize h.x1 ≤ 1048576) (k2 : xsize h.x2 ≤ 1048576) (k3 : xsize h.x3 ≤ 1048576) (k4 : xsize h.x4 ≤ 1048576)
    (ih : ∀ (w : World) (v : Value), SV w 0 l v → Calls Tryz.prog 58 #[v] w fun e w' => ∃ v', e = .returned v' ∧ SV w' w.heap.size l v' ∧ Below w.heap.size w w')
    (w : World) (v1 v2 v3 v4 v : Value) (hv : HV w 0 h v1 v2 v3 v4) (hl : SV w 0 l v) :
    Calls Tryz.prog 114 #[sagg h v1 v2 v3 v4 v] w fun e w' => ∃ u1 u2 u3 u4 u, e = .returned (sagg h u1 u2 u3 u4 u) ∧ HV w' w.heap.size h u1 u2 u3 u4 ∧ SV w' w.heap.size l u ∧ Below w.heap.size w w' := by
  have Hih := hid ih
  have Hv := hid hv
  have Hl := hid hl
  have M0 := hid (Mid.start w h l v1 v2 v3 v4 v)
  clear ih hv hl
  go_enter Tryz.func114, Tryz.ntmps114
  go_wp2_with fail
  refine (toExp_is h.x1 k1 _ v1 (Hv.out.e1.later M0.out.low)).mono ?_
  rintro e w1 ⟨u1, rfl, hu1, hb1⟩
  have m1 := M0.out.later hb1
  have o1 := hu1.isOne
  have hlo1 := M0.out.size
  go_wp2_with (first | (refine store_abs rfl 43 _ _ rfl _ _ _ rfl rfl ?ht1 sizeIE ?ho1 ?_; exact (m1.there4 2 (by omega)); exact (oneX h.x1 u1 o1); intro W1 hW; have M1 := hid (m1.at 2 (by omega) hW); have G1 := hid (Got.new (x := h.x1) (m1.there4 2 (by omega)) hu1 hlo1 hW); have Ho1 := hid o1; clear hW m1 hu1 hb1 o1 hlo1 M0) | (refine wpList_load_mid rfl 162 _ rfl w.heap.size 6 rfl _ _ M1.out.x2 Tryz.underlying162 rfl sizeLE ?_))
  refine (toExp_is h.x2 k2 _ v2 (Hv.out.e2.later M1.out.low)).mono ?_
  rintro e w2 ⟨u2, rfl, hu2, hb2⟩
  have m2 := M1.out.later hb2
  have o2 := hu2.isOne
  have hlo2 := M1.out.size
  have G1 := hid (G1.out.later hb2)
  go_wp2_with (first | (refine store_abs rfl 43 _ _ rfl _ _ _ rfl rfl ?ht2 sizeIE ?ho2 ?_; exact (m2.there4 6 (by omega)); exact (oneX h.x2 u2 o2); intro W2 hW; have M2 := hid (m2.at 6 (by omega) hW); have G2 := hid (Got.new (x := h.x2) (m2.there4 6 (by omega)) hu2 hlo2 hW); have G1 := hid (G1.out.sets (o' := 6) (by omega) hW); have Ho2 := hid o2; clear hW m2 hu2 hb2 o2 hlo2 M1) | (refine wpList_load_mid rfl 162 _ rfl w.heap.size 10 rfl _ _ M2.out.x3 Tryz.underlying162 rfl sizeLE ?_))
  refine (toExp_is h.x3 k3 _ v3 (Hv.out.e3.later M2.out.low)).mono ?_
  rintro e w3 ⟨u3, rfl, hu3, hb3⟩
  have m3 := M2.out.later hb3
  have o3 := hu3.isOne
  have hlo3 := M2.out.size
  have G1 := hid (G1.out.later hb3)
  have G2 := hid (G2.out.later hb3)
  go_wp2_with (first | (refine store_abs rfl 43 _ _ rfl _ _ _ rfl rfl ?ht3 sizeIE ?ho3 ?_; exact (m3.there4 10 (by omega)); exact (oneX h.x3 u3 o3); intro W3 hW; have M3 := hid (m3.at 10 (by omega) hW); have G3 := hid (Got.new (x := h.x3) (m3.there4 10 (by omega)) hu3 hlo3 hW); have G1 := hid (G1.out.sets (o' := 10) (by omega) hW); have G2 := hid (G2.out.sets (o' := 10) (by omega) hW); have Ho3 := hid o3; clear hW m3 hu3 hb3 o3 hlo3 M2) | (refine wpList_load_mid rfl 162 _ rfl w.heap.size 14 rfl _ _ M3.out.x4 Tryz.underlying162 rfl sizeLE ?_))
  refine (toExp_is h.x4 k4 _ v4 (Hv.out.e4.later M3.out.low)).mono ?_
  rintro e w4 ⟨u4, rfl, hu4, hb4⟩
  have m4 := M3.out.later hb4
  have o4 := hu4.isOne
  have hlo4 := M3.out.size
  have G1 := hid (G1.out.later hb4)
  have G2 := hid (G2.out.later hb4)
  have G3 := hid (G3.out.later hb4)
  go_wp2_with (first | (refine store_abs rfl 43 _ _ rfl _ _ _ rfl rfl ?ht4 sizeIE ?ho4 ?_; exact (m4.there4 14 (by omega)); exact (oneX h.x4 u4 o4); intro W4 hW; have M4 := hid (m4.at 14 (by omega) hW); have G4 := hid (Got.new (x := h.x4) (m4.there4 14 (by omega)) hu4 hlo4 hW); have G1 := hid (G1.out.sets (o' := 14) (by omega) hW); have G2 := hid (G2.out.sets (o' := 14) (by omega) hW); have G3 := hid (G3.out.sets (o' := 14) (by omega) hW); have Ho4 := hid o4; clear hW m4 hu4 hb4 o4 hlo4 M3; have cb := M4.out.vb) )
  refine (Hih.out _ v (Hl.out.later M4.out.low)).mono ?_
  rintro e w5 ⟨u, rfl, hu, hb5⟩
  have m5 := M4.out.later hb5
  obtain ⟨⟨x18, c18⟩, f18⟩ := m5.cell18
  have Ho5 := hid hu.isOne
  have M5 := hid (m5.sets 18 (by omega) [u])
  have ks : Keeps (w.heap.size + 3) w5 (w5.setCells (w.heap.size + 2) 18 [u]) := Keeps.sets _ (by omega) _ _
  have D5 : Hid ((w5.setCells (w.heap.size + 2) 18 [u]).rangeAt (w.heap.size + 2) 18 [u] ∧ SV (w5.setCells (w.heap.size + 2) 18 [u]) (w.heap.size + 3) l u) := ⟨World.rangeAt_setCells_same _ _ _ _ (by have := there_part m5.th2 18 1 (by omega); rwa [Nat.zero_add] at this), (hu.lower M4.out.size).same (Nat.le_refl _) ks⟩
  have G1 := hid ((G1.out.later hb5).sets (o' := 18) (vs := [u]) (by omega) rfl)
  have G2 := hid ((G2.out.later hb5).sets (o' := 18) (vs := [u]) (by omega) rfl)
  have G3 := hid ((G3.out.later hb5).sets (o' := 18) (vs := [u]) (by omega) rfl)
  have G4 := hid ((G4.out.later hb5).sets (o' := 18) (vs := [u]) (by omega) rfl)
  obtain ⟨a5, c5, rfl⟩ := hu.shape
  have RG := hid (join19 M5.out.top G1.out.rg G2.out.rg G3.out.rg G4.out.rg D5.out.1)
  have HN : Hid (HV (w5.setCells (w.heap.size + 2) 18 [.slice a5 (slen l) c5]) (w.heap.size + 3) h u1 u2 u3 u4 ∧ SV (w5.setCells (w.heap.size + 2) 18 [.slice a5 (slen l) c5]) (w.heap.size + 3) l (.slice a5 (slen l) c5)) := ⟨⟨G1.out.ev, G2.out.ev, G3.out.ev, G4.out.ev⟩, D5.out.2⟩
  clear hu hb5 m5 ks M4 cb G1 G2 G3 G4 D5
  go_wp2_with (first | (refine wpList_load_mid rfl 119 _ rfl (w.heap.size + 2) 0 rfl _ _ RG.out Tryz.underlying119 rfl sizeIS ?_) | (refine store_abs rfl 119 _ _ rfl _ _ _ rfl rfl ?ht9 sizeIS ?ho9 ?_; exact M5.out.th1; exact (oneS h u1 u2 u3 u4 _ Ho1.out Ho2.out Ho3.out Ho4.out Ho5.out); intro W hW))
  have ks : Keeps (w.heap.size + 3) (w5.setCells (w.heap.size + 2) 18 [.slice a5 (slen l) c5]) W := by rw [← hW]; exact Keeps.sets _ (by omega) _ _
  have rg : W.rangeAt (w.heap.size + 1) 0 (scells h u1 u2 u3 u4 (.slice a5 (slen l) c5)) := by rw [← hW]; exact World.rangeAt_setCells_same _ _ _ _ M5.out.th1
  have hB : Below w.heap.size w W := by rw [← hW]; exact below_sets _ 0 M5.out.low (Nat.le_succ w.heap.size)
  obtain ⟨⟨g1, g2, g3, g4⟩, g5⟩ := HN.out
  have hlv := run_loadVar_mid W (w.heap.size + 1) 0 _ _ _ rg Tryz.underlying119 rfl sizeIS
  refine bodyPost_ret (v := sagg h u1 u2 u3 u4 (.slice a5 (slen l) c5)) ?_ rfl ⟨u1, u2, u3, u4, _, rfl, ⟨g1.same (by omega) ks, g2.same (by omega) ks, g3.same (by omega) ks, g4.same (by omega) ks⟩, g5.same (by omega) ks, hB⟩
  simp [results, Tryz.results114, asAddr, hlv]
  rfl
theorem infoIS : (Tryz.prog.info? 119).map (fun i => (i.zero, i.size, i.bytes)) = some (some (.agg zero19), 19, 272) := by kernel_rfl
theorem SRow.next {w w' : World} {lo g : Nat} {P : SF} {xs : List Value} {h : SH} {l : SF} {v1 v2 v3 v4 v : Value} (p q : Nat) (hP : SRow w lo P xs) (hk : Keeps lo w w') (h1 : HV w' lo h v1 v2 v3 v4) (hv : SV w' lo l v) (hr : w'.rangeAt g 0 xs) (h4 : w'.rangeAt g (slen P * 19) (scells h v1 v2 v3 v4 v)) :
    SRow w' lo (sapp P (.node p q h l .nil)) (xs ++ scells h v1 v2 v3 v4 v) ∧ w'.rangeAt g 0 (xs ++ scells h v1 v2 v3 v4 v) :=
  ⟨(SRow.same (Nat.le_refl _) hk hP).app (SRow.one h1.e1 h1.e2 h1.e3 h1.e4 hv), rangeAt_app hr (by rw [hP.length, Nat.zero_add]; exact h4)⟩
theorem HV.lower {w : World} {lo lo' : Nat} {h : SH} {v1 v2 v3 v4 : Value} (hv : HV w lo h v1 v2 v3 v4) (hlo : lo' ≤ lo) : HV w lo' h v1 v2 v3 v4 := ⟨hv.e1.lower hlo, hv.e2.lower hlo, hv.e3.lower hlo, hv.e4.lower hlo⟩
theorem HV.same {w w' : World} {lo lo' : Nat} {h : SH} {v1 v2 v3 v4 : Value} (hv : HV w lo h v1 v2 v3 v4) (hlo : lo' ≤ lo) (hs : Keeps lo w w') : HV w' lo' h v1 v2 v3 v4 := ⟨hv.e1.same hlo hs, hv.e2.same hlo hs, hv.e3.same hlo hs, hv.e4.same hlo hs⟩
set_option maxHeartbeats 1000000 in
set_option maxRecDepth 100000 in
theorem toStmtS_step (F : SF) (hF : ssize F ≤ 1048576)
    (ih : ∀ l : SF, snodes l < snodes F → ssize l ≤ 1048576 → ∀ (w : World) (v : Value), SV w 0 l v → Calls Tryz.prog 58 #[v] w fun e w' => ∃ v', e = .returned v' ∧ SV w' w.heap.size l v' ∧ Below w.heap.size w w')
    (w : World) (v : Value) (hv : SV w 0 F v) :
    Calls Tryz.prog 58 #[v] w fun e w' => ∃ v', e = .returned v' ∧ SV w' w.heap.size F v' ∧ Below w.heap.size w w' := by
  have hn : slen F ≤ 1048576 := Nat.le_trans (Nat.le_trans (slen_le F) (snodes_le F)) hF
  obtain ⟨b, o, ao, cap, rfl, hao, _, hin⟩ := hv
  obtain ⟨i0, hi, hz0, hz1, hz2⟩ := info_parts infoIS
  have Hih := hid ih
  clear ih
  go_enter Tryz.func58, Tryz.ntmps58
  go_wp2_with (refine wpList_make_full _ rfl _ _ 25 rfl w.heap.size 119 i0 _ 19 Tryz.underlying25 hi hz0 hz1 .i64 .i64 _ _ (slen F) rfl rfl rfl rfl ?c1 ?c2 ?c3 ?_)
  case c1 => rw [hz2]; omega
  case c2 => unfold maxLen; omega
  case c3 => exact Nat.le_refl _
  intro w1 hown hgrow
  obtain ⟨cur, hcur, _, hcs, _⟩ := own_block hown
  have hbw : Below w.heap.size w w1 := (Below.refl _ w).grown hgrow (Nat.le_refl _) (fun k hk => by cases hk)
  have Hth : Hid (w1.there w.heap.size 0 (slen F * 19)) := blk_there hcur (by omega)
  have hsz : w.heap.size < w1.heap.size := (Array.getElem?_eq_some_iff.1 hcur).1
  clear hown hgrow hcur hcs
  go_wp2
  go_loopw [4] (fun i wr => ∃ (P R : SF) (xs : List Value), i = .int .i64 (slen P : Int) ∧ Hid (sapp P R = F ∧ snodes R ≤ snodes F ∧ ssize R ≤ 1048576) ∧ SIn w 0 R b (o + slen P * 19) ∧ Hid (wr.there w.heap.size 0 (slen F * 19) ∧ SRow wr (w.heap.size + 1) P xs ∧ wr.rangeAt w.heap.size 0 xs ∧ w.heap.size < wr.heap.size) ∧ Below w.heap.size w wr) (fun i _ => slen F - (RowKit.intOf i).toNat)
  case atStart => exact ⟨.nil, F, [], rfl, ⟨rfl, Nat.le_refl _, hF⟩, by simpa [slen] using hin, ⟨Hth.out, rfl, (fun j v hv => by simp at hv), hsz⟩, hbw⟩
  case round =>
    obtain ⟨P, R, xs, rfl, hr, hinR, hm, hbr⟩ := hrel
    obtain ⟨e1, e2, e3⟩ := hr.out
    have eL := congrArg slen e1
    rw [slen_app] at eL
    cases R with
    | nil =>
      have hk : ¬ (slen P : Int) < (slen F : Int) := by simp only [slen] at eL; omega
      rw [sapp_nil] at e1
      subst e1
      go_wp2
      go_ret
      exact ⟨_, rfl, SV.laid hm.out.2.1 hm.out.2.2.1 _ (by omega), hbr⟩
    | node p q h l r =>
      have hlt : (slen P : Int) < (slen F : Int) := by simp only [slen] at eL; omega
      rcases hao with rfl | hnil
      · obtain ⟨hsc, hinr⟩ := SIn_node.1 (SIn_later hbr _ _ _ hinR)
        obtain ⟨v1, v2, v3, v4, u, hu, hul, hrg⟩ := hsc.range
        have Hrg := hid hrg
        have hinr0 := (SIn_node.1 hinR).2
        simp only [snodes] at e2
        simp only [ssize, hsize] at e3
        have Hl := hid (fun w v => Hih.out l (by omega) (by omega) w v)
        have He : Hid (sapp (sapp P (.node p q h l .nil)) r = F ∧ snodes r ≤ snodes F ∧ ssize r ≤ 1048576) := ⟨by rw [sapp_snoc]; exact e1, by omega, by omega⟩
        have HeL : Hid (slen P + (slen r + 1) = slen F) := eL
        have k1 : xsize h.x1 ≤ 1048576 := by omega
        have k2 : xsize h.x2 ≤ 1048576 := by omega
        have k3 : xsize h.x3 ≤ 1048576 := by omega
        have k4 : xsize h.x4 ≤ 1048576 := by omega
        clear hr hinR e1 e2 e3 hinr hin eL hsc hrg
        go_wp2_with (refine wpList_load_mid rfl 164 _ rfl b (o + slen P * 19) rfl _ _ Hrg.out Tryz.underlying164 rfl sizeLS ?_)
        refine (toStmt_of h l k1 k2 k3 k4 Hl.out _ v1 v2 v3 v4 u hu hul).mono ?_
        rintro e w2 ⟨y1, y2, y3, y4, y, rfl, hy, hyl, hb2⟩
        obtain ⟨t1, t2, t3, t4⟩ := hm.out
        have t1' := there_later t1 hb2
        have hbw2 := hbr.trans (hb2.mono hbr.size)
        have ht4 : w2.there w.heap.size (slen P * 19) 19 := by have := there_part t1' (slen P * 19) 19 (by have := HeL.out; omega); rwa [Nat.zero_add] at this
        have o1 := hy.e1.isOne
        have o2 := hy.e2.isOne
        have o3 := hy.e3.isOne
        have o4 := hy.e4.isOne
        have o5 := hyl.isOne
        have HT : Hid (SRow wr (w.heap.size + 1) P xs ∧ wr.rangeAt w.heap.size 0 xs) := ⟨t2, t3⟩
        clear Hrg hu hul k1 k2 k3 k4 Hl t2 t3
        have T4 := hid t4
        have HB2 := hid hb2
        have HBW := hid hbw2
        have HY := hid (And.intro hy hyl)
        have T1 := hid t1'
        clear hy hyl hb2 hbw2 t1' t1 t4
        go_wp2_with (refine store_abs rfl 119 _ _ rfl _ _ _ rfl rfl ?ht sizeIS ?ho ?_; exact ht4; exact (oneS h y1 y2 y3 y4 y o1 o2 o3 o4 o5); intro W hW; have HW := hid hW; clear hW)
        have hW := HW.out
        have t4 := T4.out
        have hb2 := HB2.out
        have hks : Keeps (w.heap.size + 1) w2 W := by rw [← hW]; exact Keeps.sets _ (by omega) _ _
        have N12 := SRow.next (g := w.heap.size) (w' := W) p q HT.out.1 ((Keeps.later hb2).trans hks) ((HY.out.1.lower t4).same (Nat.le_refl _) hks) ((HY.out.2.lower t4).same (Nat.le_refl _) hks) (by rw [← hW]; exact World.rangeAt_setCells_apart (rangeAt_later HT.out.2 hb2) w.heap.size (slen P * 19) _ (.inr (.inl (by rw [HT.out.1.length]; omega)))) (by rw [← hW]; exact World.rangeAt_setCells_same w2 w.heap.size (slen P * 19) (scells h y1 y2 y3 y4 y) ht4)
        have n3 : W.there w.heap.size 0 (slen F * 19) := by rw [← hW]; exact World.there_setCells T1.out _ _ _
        have n4 : Below w.heap.size w W := by rw [← hW]; exact below_sets _ _ HBW.out (Nat.le_refl _)
        have n5 : w.heap.size < W.heap.size := by rw [← hW, size_sets]; exact Nat.lt_of_lt_of_le t4 hb2.size
        have hlen : slen (sapp P (.node p q h l .nil)) = slen P + 1 := by rw [slen_app]; rfl
        go_roundw
        case rel =>
          exact ⟨sapp P (.node p q h l .nil), r, _, by rw [hlen]; go_num, He.out, by rw [hlen, show o + (slen P + 1) * 19 = o + slen P * 19 + 19 by omega]; exact hinr0, ⟨n3, N12.1, N12.2, n5⟩, n4⟩
        case measure => simp [RowKit.intOf]; omega
      · subst hnil; simp only [slen] at eL; omega
theorem toStmtS_all : ∀ (n : Nat) (F : SF), snodes F < n → ssize F ≤ 1048576 → ∀ (w : World) (v : Value), SV w 0 F v → Calls Tryz.prog 58 #[v] w fun e w' => ∃ v', e = .returned v' ∧ SV w' w.heap.size F v' ∧ Below w.heap.size w w'
  | 0, _, h, _, _, _, _ => absurd h (by omega)
  | n + 1, F, h, hF, w, v, hv => toStmtS_step F hF (fun l hl hk w v a => toStmtS_all n l (by omega) hk w v a) w v hv
theorem toStmtS_is (F : SF) (hF : ssize F ≤ 1048576) (w : World) (v : Value) (hv : SV w 0 F v) :
    Calls Tryz.prog 58 #[v] w fun e w' => ∃ v', e = .returned v' ∧ SV w' w.heap.size F v' ∧ Below w.heap.size w w' := toStmtS_all _ F (Nat.lt_succ_self _) hF w v hv
structure AR where
  s : ByteArray
  n : Int
def AV (w : World) (lo : Nat) (v : Value) (ts : List AR) : Prop :=
  ∃ ao cap, v = .slice ao ts.length cap ∧ (ts = [] ∨ ∃ g off, ao = some ⟨g, off, Option.none⟩ ∧ lo ≤ g ∧ g < w.heap.size ∧ ∀ i t, ts[i]? = some t →
    w.cell? ⟨g, off + i * 2, Option.none⟩ = some (.string t.s) ∧ w.cell? ⟨g, off + i * 2 + 1, Option.none⟩ = some (.int .i64 t.n))
theorem AV.same {w w' : World} {lo lo' : Nat} {v : Value} {ts : List AR} (hlo : lo' ≤ lo) (h : AV w lo v ts) (hk : Keeps lo w w') (hz : w.heap.size ≤ w'.heap.size) : AV w' lo' v ts := by
  obtain ⟨ao, cap, hv, h⟩ := h
  refine ⟨ao, cap, hv, ?_⟩
  rcases h with h | ⟨g, off, h1, h0, h2, h3⟩
  · exact .inl h
  · refine .inr ⟨g, off, h1, Nat.le_trans hlo h0, Nat.lt_of_lt_of_le h2 hz, fun i t hi => ?_⟩
    obtain ⟨a, b⟩ := h3 i t hi
    exact ⟨hk _ _ h0 a, hk _ _ h0 b⟩
theorem AV.later {w w' : World} {lo : Nat} {v : Value} {ts : List AR} (h : AV w lo v ts) (hb : Below w.heap.size w w') : AV w' lo v ts := h.same (Nat.le_refl _) (Keeps.later hb) hb.size
theorem AV.low {w : World} {lo : Nat} {v : Value} {ts : List AR} (h : AV w lo v ts) : AV w 0 v ts := h.same (Nat.zero_le _) (Keeps.refl _ _) (Nat.le_refl _)
theorem AV.shape {w : World} {lo : Nat} {v : Value} {ts : List AR} (h : AV w lo v ts) : ∃ a c, v = .slice a ts.length c := by obtain ⟨a, c, h1, _⟩ := h; exact ⟨a, c, h1⟩
def abytes : List AR → Nat
  | [] => 0
  | t :: ts => t.s.size + abytes ts
def asize (ts : List AR) : Nat := ts.length + abytes ts
theorem abytes_snoc (ts : List AR) (t : AR) : abytes (ts ++ [t]) = abytes ts + t.s.size := by
  induction ts with
  | nil => simp [abytes]
  | cons u us ih => simp only [List.cons_append, abytes, ih]; omega
theorem abytes_take (ts : List AR) (k : Nat) : abytes (ts.take k) ≤ abytes ts := by
  induction ts generalizing k with
  | nil => simp [abytes]
  | cons u us ih => cases k with
    | zero => simp [abytes]
    | succ k => have := ih k; simp only [List.take_succ_cons, abytes]; omega
theorem take_snocA {ts : List AR} {k : Nat} {t : AR} (h : ts[k]? = some t) : ts.take (k + 1) = ts.take k ++ [t] := by
  rw [List.take_add_one, h]; rfl
set_option maxHeartbeats 1000000 in
theorem szArr_is (t : AR) (ht : t.s.size ≤ 9223372036854775807) (left : Int) (h0 : 0 ≤ left) (h1 : left ≤ 1048576) (w : World) :
    Calls Tryz.prog 111 #[.agg #[.string t.s, .int .i64 t.n], .int .i64 left] w (Sz t.s.size left w) := by
  have hsI : (t.s.size : Int) ≤ 9223372036854775807 := by omega
  by_cases h : left < (t.s.size : Int)
  · have h' : left - (t.s.size : Int) < 0 := by omega
    go_enter Tryz.func111, Tryz.ntmps111
    go_wp2
    all_goals first
      | omega
      | (go_ret; exact Sz.less h (alloc_below _ _))
  · have h' : ¬ left - (t.s.size : Int) < 0 := by omega
    go_enter Tryz.func111, Tryz.ntmps111
    go_wp2
    all_goals first
      | omega
      | (go_ret; exact Sz.more (by omega) rfl (alloc_below _ _))
set_option maxHeartbeats 2000000 in
theorem szArrS_is (ts : List AR) (hts : ∀ t ∈ ts, t.s.size ≤ 9223372036854775807) (hM : ts.length ≤ 9223372036854775807) (v : Value) (w : World) (hr : AV w 0 v ts) (left : Int) (h0 : 0 ≤ left) (h1 : left ≤ 1048576) :
    Calls Tryz.prog 55 #[v, .int .i64 left] w (Sz (asize ts) left w) := by
  obtain ⟨ao, cap, rfl, hr⟩ := hr
  have Hts := hid hts
  clear hts
  obtain ⟨L0, rfl⟩ : ∃ L0 : Nat, left = (L0 : Int) := ⟨left.toNat, by omega⟩
  have HZ : Hid (asize ts = ts.length + abytes ts) := show asize ts = ts.length + abytes ts from rfl
  have hMI : (ts.length : Int) ≤ 9223372036854775807 := by omega
  by_cases hbig : (L0 : Int) < (ts.length : Int)
  · have hb' : (L0 : Int) - (ts.length : Int) < 0 := by omega
    go_enter Tryz.func55, Tryz.ntmps55
    go_wp2
    all_goals first
      | omega
      | (go_ret; exact Sz.less (by rw [HZ.out]; omega) (Below.refl _ _))
  · have hb' : ¬ (L0 : Int) - (ts.length : Int) < 0 := by omega
    go_enter Tryz.func55, Tryz.ntmps55
    go_wp2
    go_loopw [1, 5] (fun x i wr => ∃ k left : Nat, k ≤ ts.length ∧ i = .int .i64 k ∧ x = .int .i64 (left : Int) ∧ Hid (left + ts.length + abytes (ts.take k) = L0) ∧ Below w.heap.size w wr) (fun _ i _ => ts.length - (RowKit.intOf i).toNat)
    case atStart => exact ⟨0, L0 - ts.length, by omega, rfl, val_intA (by omega), (by show L0 - ts.length + ts.length + 0 = L0; omega), Below.refl _ _⟩
    case round =>
      obtain ⟨k, left, hk, rfl, rfl, hl, hbw⟩ := hrel
      have hlb := hl.out
      by_cases hlt : k < ts.length
      · have hltI : (k : Int) < (ts.length : Int) := by omega
        obtain ⟨t, ht⟩ : ∃ t, ts[k]? = some t := ⟨ts[k], List.getElem?_eq_getElem hlt⟩
        have htl := Hts.out t (List.mem_of_getElem? ht)
        rcases hr with hr | ⟨g, off, rfl, _, gl, hc⟩
        · subst hr; simp at hlt
        obtain ⟨a0, a1⟩ := hc k t ht
        have A0 := (hbw.cell (p := ⟨g, off + k * 2, Option.none⟩) gl).trans a0
        have A1 := (hbw.cell (p := ⟨g, off + k * 2 + 1, Option.none⟩) gl).trans a1
        have Htk : Hid (abytes (ts.take (k + 1)) = abytes (ts.take k) + t.s.size ∧ abytes (ts.take (k + 1)) ≤ abytes ts) := ⟨by rw [take_snocA ht, abytes_snoc], abytes_take _ _⟩
        have hl0 : (0 : Int) ≤ (left : Int) := by omega
        have hl1 : (left : Int) ≤ 1048576 := by omega
        clear a0 a1 hc ht
        by_cases hd : (left : Int) < (t.s.size : Int)
        · go_wp2_with fail
          refine (szArr_is t htl (left : Int) hl0 hl1 _).mono ?_
          rintro e w1 ⟨rfl, hb1⟩
          rw [if_pos hd]
          have hbw1 := hbw.trans (hb1.mono hbw.size)
          clear hb1 hbw A0 A1
          go_wp2
          go_ret
          exact Sz.less (by have := Htk.out; rw [HZ.out]; omega) hbw1
        · go_wp2_with fail
          refine (szArr_is t htl (left : Int) hl0 hl1 _).mono ?_
          rintro e w1 ⟨rfl, hb1⟩
          rw [if_neg (by omega)]
          have hbw1 := hbw.trans (hb1.mono hbw.size)
          have hnn : ¬ (left : Int) - (t.s.size : Int) < 0 := by omega
          clear hb1 hbw A0 A1
          go_wp2
          all_goals first
            | omega
            | (go_roundw
               case rel => exact ⟨k + 1, left - t.s.size, by omega, by go_num, val_intA (by omega), (by have h1 := hl.out; have h2 := Htk.out; show left - t.s.size + ts.length + abytes (ts.take (k + 1)) = L0; omega), hbw1⟩
               case measure => simp [RowKit.intOf]; omega)
      · have hkk : ts.take k = ts := List.take_of_length_le (by omega)
        rw [hkk] at hlb
        go_wp2
        go_ret
        exact Sz.more (by rw [HZ.out]; omega) (by rw [HZ.out]; omega) hbw
set_option maxHeartbeats 1000000 in
theorem toArr_is (t : AR) (w : World) :
    Calls Tryz.prog 113 #[.agg #[.string t.s, .int .i64 t.n]] w fun e w' => e = .returned (.agg #[.string t.s, .int .i64 t.n]) ∧ Below w.heap.size w w' := by
  go_enter Tryz.func113, Tryz.ntmps113
  go_wp2
  exact bodyPost_ret (v := .agg #[.string t.s, .int .i64 t.n]) (by simp [results, Tryz.results113, go_sem]) rfl ⟨rfl, (((Below.refl _ w).alloc (Nat.le_refl _) _).alloc (by simp) _).alloc (by simp; omega) _⟩
def acells : List AR → List Value
  | [] => []
  | t :: ts => .string t.s :: .int .i64 t.n :: acells ts
theorem acells_len (ts : List AR) : (acells ts).length = ts.length * 2 := by
  induction ts with
  | nil => rfl
  | cons t ts ih => simp only [acells, List.length_cons, ih]; omega
theorem acells_snoc (ts : List AR) (t : AR) : acells (ts ++ [t]) = acells ts ++ [.string t.s, .int .i64 t.n] := by
  induction ts with
  | nil => rfl
  | cons u us ih => simp only [List.cons_append, acells, ih]
theorem acells_get (ts : List AR) : ∀ i t, ts[i]? = some t → (acells ts)[i * 2]? = some (.string t.s) ∧ (acells ts)[i * 2 + 1]? = some (.int .i64 t.n) := by
  induction ts with
  | nil => intro i t h; simp at h
  | cons u us ih =>
    intro i t h
    cases i with
    | zero => simp at h; subst h; exact ⟨rfl, rfl⟩
    | succ i =>
      have := ih i t (by simpa using h)
      rw [show (i + 1) * 2 = i * 2 + 2 by omega]
      simpa [acells] using this
theorem AV.laid {w : World} {g c : Nat} {ts : List AR} (hg : g < w.heap.size) (hr : w.rangeAt g 0 (acells ts)) : AV w g (.slice (some ⟨g, 0, Option.none⟩) ts.length c) ts :=
  ⟨_, c, rfl, .inr ⟨g, 0, rfl, Nat.le_refl _, hg, fun i t hi => ⟨hr _ _ (acells_get ts i t hi).1, by have := hr _ _ (acells_get ts i t hi).2; rwa [← Nat.add_assoc] at this⟩⟩⟩
theorem infoIA : (Tryz.prog.info? 92).map (fun i => (i.zero, i.size, i.bytes)) = some (some (.agg #[.string ⟨#[]⟩, .int .i64 0]), 2, 24) := by kernel_rfl
theorem sizeIA : (Tryz.prog.info? 92).map (·.size) = some 2 := by kernel_rfl
theorem all2 (t : ByteArray) (k : Int) : (#[.string t, .int .i64 k] : Array Value).all (·.oneCell') = true :=
  all_oneCell_toArray (cs := [.string t, .int .i64 k]) (fun v hv => by
    simp only [List.mem_cons, List.not_mem_nil, or_false] at hv
    rcases hv with rfl | rfl <;> rfl)
set_option maxHeartbeats 2000000 in
theorem toArrS_is (ts : List AR) (hn : ts.length ≤ 1048576) (v : Value) (w : World) (hr : AV w 0 v ts) :
    Calls Tryz.prog 57 #[v] w fun e w' => ∃ v', e = .returned v' ∧ AV w' w.heap.size v' ts ∧ Below w.heap.size w w' := by
  obtain ⟨ao, cap, rfl, hr⟩ := hr
  obtain ⟨i0, hi, hz0, hz1, hz2⟩ := info_parts infoIA
  go_enter Tryz.func57, Tryz.ntmps57
  go_wp2_with (refine wpList_make_full _ rfl _ _ 24 rfl w.heap.size 92 i0 _ 2 Tryz.underlying24 hi hz0 hz1 .i64 .i64 _ _ ts.length rfl rfl rfl rfl ?c1 ?c2 ?c3 ?_)
  case c1 => rw [hz2]; omega
  case c2 => unfold maxLen; omega
  case c3 => exact Nat.le_refl _
  intro w1 hown hgrow
  obtain ⟨cur, hcur, _, hcs, _⟩ := own_block hown
  have hbw : Below w.heap.size w w1 := (Below.refl _ w).grown hgrow (Nat.le_refl _) (fun k hk => by cases hk)
  have Hth : Hid (w1.there w.heap.size 0 (ts.length * 2)) := blk_there hcur (by omega)
  have hsz : w.heap.size < w1.heap.size := (Array.getElem?_eq_some_iff.1 hcur).1
  clear hown hgrow hcur hcs
  go_wp2
  go_loopw [4] (fun i wr => ∃ k : Nat, k ≤ ts.length ∧ i = .int .i64 k ∧ Hid (wr.there w.heap.size 0 (ts.length * 2) ∧ wr.rangeAt w.heap.size 0 (acells (ts.take k)) ∧ w.heap.size < wr.heap.size) ∧ Below w.heap.size w wr) (fun i _ => ts.length - (RowKit.intOf i).toNat)
  case atStart => exact ⟨0, by omega, rfl, ⟨Hth.out, (fun j v hv => by simp [acells] at hv), hsz⟩, hbw⟩
  case round =>
    obtain ⟨k, hk, rfl, hm, hb⟩ := hrel
    by_cases hlt : k < ts.length
    · have hltI : (k : Int) < (ts.length : Int) := by omega
      obtain ⟨t, ht⟩ : ∃ t, ts[k]? = some t := ⟨ts[k], List.getElem?_eq_getElem hlt⟩
      rcases hr with hr | ⟨g, off, rfl, _, gl, hc⟩
      · subst hr; simp at hlt
      obtain ⟨a0, a1⟩ := hc k t ht
      have A0 := (hb.cell (p := ⟨g, off + k * 2, Option.none⟩) gl).trans a0
      have A1 := (hb.cell (p := ⟨g, off + k * 2 + 1, Option.none⟩) gl).trans a1
      have htl : Hid ((acells (ts.take k)).length = k * 2) := show (acells (ts.take k)).length = k * 2 by rw [acells_len, List.length_take]; omega
      have Htk : Hid (acells (ts.take (k + 1)) = acells (ts.take k) ++ [.string t.s, .int .i64 t.n]) := show acells (ts.take (k + 1)) = _ by rw [take_snocA ht, acells_snoc]
      clear a0 a1 hc ht
      go_wp2_with fail
      refine (toArr_is t _).mono ?_
      rintro e w2 ⟨rfl, hb2⟩
      obtain ⟨t1, t2, t4⟩ := hm.out
      have t1' := there_later t1 hb2
      have hbw2 := hb.trans (hb2.mono hb.size)
      have ht4 : w2.there w.heap.size (k * 2) 2 := by have := there_part t1' (k * 2) 2 (by omega); rwa [Nat.zero_add] at this
      clear A0 A1
      go_wp2_with (refine wpList_store_mid rfl 92 _ _ rfl _ _ _ rfl rfl ?ht sizeIA (all2 _ _) ?_)
      case ht => exact ht4
      have n2 : (w2.setCells w.heap.size (k * 2) [.string t.s, .int .i64 t.n]).rangeAt w.heap.size 0 (acells (ts.take (k + 1))) := by
        rw [Htk.out]
        refine rangeAt_app (World.rangeAt_setCells_apart (rangeAt_later t2 hb2) w.heap.size (k * 2) [.string t.s, .int .i64 t.n] (.inr (.inl (by rw [htl.out]; omega)))) ?_
        rw [htl.out, Nat.zero_add]
        exact World.rangeAt_setCells_same _ _ _ _ ht4
      have n3 := World.there_setCells t1' w.heap.size (k * 2) [.string t.s, .int .i64 t.n]
      have n4 := below_sets [.string t.s, .int .i64 t.n] (k * 2) hbw2 (Nat.le_refl _)
      have n5 : w.heap.size < (w2.setCells w.heap.size (k * 2) [.string t.s, .int .i64 t.n]).heap.size := by rw [size_sets]; exact Nat.lt_of_lt_of_le t4 hb2.size
      have N := hid (And.intro n2 (And.intro n3 n5))
      clear t1 t2 t1' ht4 hb2 hbw2 n2 n3 n5 hm hb
      go_wp2
      go_roundw
      case rel => exact ⟨k + 1, by omega, by go_num, ⟨N.out.2.1, N.out.1, N.out.2.2⟩, n4⟩
      case measure => simp [RowKit.intOf]; omega
    · have hkk : ts.take k = ts := List.take_of_length_le (by omega)
      have hm2 := hm.out
      rw [hkk] at hm2
      have Hm := hid hm2
      clear hm2 hm
      go_wp2
      go_ret
      exact ⟨_, rfl, AV.laid Hm.out.2.2 Hm.out.2.1, hb⟩
set_option maxHeartbeats 1000000 in
theorem eqArr_same (k : Int) (s : ByteArray) (w : World) :
    Calls Tryz.prog 115 #[.agg #[.string s, .int .i64 k], .agg #[.string s, .int .i64 k]] w fun e w' => e = .returned (.bool true) ∧ Below w.heap.size w w' := by
  go_enter Tryz.func115, Tryz.ntmps115
  go_wp2
  go_ret
  exact ⟨rfl, ((Below.refl _ w).alloc (Nat.le_refl _) _).alloc (by simp) _⟩
set_option maxHeartbeats 2000000 in
theorem eqArrS_same (ts : List AR) (hlen : ts.length ≤ 100000000) (va vb : Value) (w : World) (ha : AV w 0 va ts) (hb : AV w 0 vb ts) :
    Calls Tryz.prog 61 #[va, vb] w fun e w' => e = .returned (.bool true) ∧ Below w.heap.size w w' := by
  obtain ⟨ao, ca, rfl, ha⟩ := ha
  obtain ⟨bo, cb, rfl, hb⟩ := hb
  go_enter Tryz.func61, Tryz.ntmps61
  go_wp2
  go_loopw [5] (fun i wr => ∃ k : Nat, k ≤ ts.length ∧ i = .int .i64 k ∧ Below w.heap.size w wr) (fun i _ => ts.length - (RowKit.intOf i).toNat)
  case atStart => exact ⟨0, by omega, rfl, Below.refl _ _⟩
  case round =>
    obtain ⟨k, hk, rfl, hbw⟩ := hrel
    by_cases hlt : k < ts.length
    · obtain ⟨t, ht⟩ : ∃ t, ts[k]? = some t := ⟨ts[k], List.getElem?_eq_getElem hlt⟩
      rcases ha with ha | ⟨ga, oa, rfl, _, gla, hca⟩
      · subst ha; simp at hlt
      rcases hb with hb | ⟨gb, ob, rfl, _, glb, hcb⟩
      · subst hb; simp at hlt
      obtain ⟨a0, a1⟩ := hca k t ht
      obtain ⟨b0, b1⟩ := hcb k t ht
      have A0 := (hbw.cell (p := ⟨ga, oa + k * 2, Option.none⟩) gla).trans a0
      have A1 := (hbw.cell (p := ⟨ga, oa + k * 2 + 1, Option.none⟩) gla).trans a1
      have B0 := (hbw.cell (p := ⟨gb, ob + k * 2, Option.none⟩) glb).trans b0
      have B1 := (hbw.cell (p := ⟨gb, ob + k * 2 + 1, Option.none⟩) glb).trans b1
      have hltI : (k : Int) < (ts.length : Int) := by omega
      clear a0 a1 b0 b1 hca hcb ht
      go_wp2_with fail
      go_cut [26] from 11 to 26 (fun v wx => v = .bool false ∧ Below wr.heap.size wr wx)
      case first =>
        go_region_with (go_at_call 115; refine (eqArr_same _ _ _).mono ?_; rintro e w1 ⟨rfl, hb1⟩)
        all_goals (try go_wp2_with fail)
        all_goals go_meet
        all_goals exact ⟨rfl, ⟨hb1.os, hb1.tape, hb1.output, hb1.size, hb1.block⟩⟩
      case rest =>
        obtain ⟨rfl, hb1⟩ := hcut
        have hbw2 := hbw.trans (hb1.mono hbw.size)
        clear A0 A1 B0 B1 hb1
        go_wp2
        go_roundw
        case rel => exact ⟨k + 1, by omega, by go_num, hbw2⟩
        case measure => simp [RowKit.intOf]; omega
    · go_wp2
      go_ret
      exact ⟨rfl, hbw⟩
set_option maxHeartbeats 2000000 in
set_option maxRecDepth 100000 in
theorem szStmtS_step (F : SF) (hF : sok F) (hM : slen F ≤ 9223372036854775807)
    (ih : ∀ l : SF, snodes l < snodes F → sok l → slen l ≤ 9223372036854775807 → ∀ (w : World) (v : Value) (left : Int), SV w 0 l v → 0 ≤ left → left ≤ 1048576 → Calls Tryz.prog 56 #[v, .int .i64 left] w (Sz (ssize l) left w))
    (w : World) (v : Value) (left : Int) (hv : SV w 0 F v) (h0 : 0 ≤ left) (h1 : left ≤ 1048576) :
    Calls Tryz.prog 56 #[v, .int .i64 left] w (Sz (ssize F) left w) := by
  have Hb : Hid (ssize F = slen F + sbulk F) := ssize_bulk F
  have hMI : (slen F : Int) ≤ 9223372036854775807 := by omega
  obtain ⟨b, o, ao, cap, rfl, hao, _, hin⟩ := hv
  have Hih := hid ih
  clear ih
  by_cases hbig : left < (slen F : Int)
  · have hb' : left - (slen F : Int) < 0 := by omega
    go_enter Tryz.func56, Tryz.ntmps56
    go_wp2
    all_goals first
      | omega
      | (go_ret; exact Sz.less (by rw [Hb.out]; omega) (Below.refl _ _))
  · have hb' : ¬ left - (slen F : Int) < 0 := by omega
    obtain ⟨L0, hL0⟩ : ∃ L0 : Nat, left = (L0 : Int) := ⟨left.toNat, by omega⟩
    subst hL0
    go_enter Tryz.func56, Tryz.ntmps56
    go_wp2
    go_loopw [1, 5] (fun x i wr => ∃ (R : SF) (k L : Nat), i = .int .i64 k ∧ x = .int .i64 (L : Int) ∧ Hid (k + slen R = slen F ∧ snodes R ≤ snodes F ∧ sok R ∧ L + slen F + sbulk F = L0 + sbulk R ∧ L ≤ L0) ∧ SIn w 0 R b (o + k * 19) ∧ Below w.heap.size w wr) (fun _ i _ => slen F - (RowKit.intOf i).toNat)
    case atStart => exact ⟨F, 0, L0 - slen F, rfl, val_intA (by omega), ⟨by omega, Nat.le_refl _, hF, by omega, by omega⟩, by simpa using hin, Below.refl _ _⟩
    case round =>
      obtain ⟨R, k, L, rfl, rfl, hr, hinR, hbw⟩ := hrel
      obtain ⟨e1, e2, e3, e4, e5⟩ := hr.out
      cases R with
      | nil =>
        have hk : ¬ (k : Int) < (slen F : Int) := by simp only [slen] at e1; omega
        simp only [sbulk] at e4
        go_wp2
        go_ret
        exact Sz.more (by rw [Hb.out]; omega) (by rw [Hb.out]; omega) hbw
      | node p q h l r =>
        have hlt : (k : Int) < (slen F : Int) := by simp only [slen] at e1; omega
        rcases hao with rfl | hnil
        · obtain ⟨hsc, hinr⟩ := SIn_node.1 (SIn_later hbw _ _ _ hinR)
          obtain ⟨v1, v2, v3, v4, u, hu, hul, hrg⟩ := hsc.range
          have Hrg := hid hrg
          have hinr0 := (SIn_node.1 hinR).2
          obtain ⟨f1, k1, k2, k3, k4, f2, f3, f4⟩ := e3
          simp only [snodes] at e2
          have Hl := hid (fun w v left => Hih.out l (by omega) f3 f2 w v left)
          have hL0 : (0 : Int) ≤ (L : Int) := by omega
          have hL1 : (L : Int) ≤ 1048576 := by omega
          have He : Hid (L + slen F + sbulk F = L0 + (hsize h + ssize l + sbulk r) ∧ snodes r ≤ snodes F ∧ sok r ∧ k + (slen r + 1) = slen F ∧ L ≤ L0) := ⟨e4, by omega, f4, e1, e5⟩
          clear hr hinR e1 e2 e4 e5 hinr hin hsc hrg
          obtain ⟨N, HN⟩ : ∃ N : Nat, Hid (hsize h + ssize l = N) := ⟨_, rfl⟩
          go_wp2_with (refine wpList_load_mid rfl 164 _ rfl b (o + k * 19) rfl _ _ Hrg.out Tryz.underlying164 rfl sizeLS ?_)
          refine (szStmt_of h l f1 k1 k2 k3 k4 Hl.out _ v1 v2 v3 v4 u (L : Int) hu hul hL0 hL1).mono ?_
          rw [HN.out]
          rintro e w1 ⟨rfl, hb1⟩
          have hbw1 := hbw.trans (hb1.mono hbw.size)
          have HL := hid hL1
          clear hb1 hbw Hrg hu hul k1 k2 k3 k4 f1 f2 f3 f4 Hl hL1
          by_cases hd : (L : Int) < (N : Int)
          · rw [if_pos hd]
            as_aux_lemma =>
            go_wp2
            go_ret
            refine Sz.less ?_ hbw1
            rw [Hb.out]; have := He.out.1; have := HN.out; omega
          · have hnn : ¬ (L : Int) - (N : Int) < 0 := by omega
            rw [if_neg (by omega)]
            obtain ⟨L', hL', HL'⟩ : ∃ L' : Nat, (L : Int) - (N : Int) = (L' : Int) ∧ Hid (L' + N = L) := ⟨L - N, by omega, (by show L - N + N = L; omega)⟩
            rw [hL'] at hnn ⊢
            clear hL' hd
            as_aux_lemma =>
            go_wp2
            go_roundw
            case rel =>
              refine ⟨r, k + 1, L', by go_num, rfl, ?_, by rw [show o + (k + 1) * 19 = o + k * 19 + 19 by omega]; exact hinr0, hbw1⟩
              obtain ⟨g1, g2, g3, g4, g5⟩ := He.out
              have := HL'.out; have := HN.out
              exact ⟨by omega, g2, g3, by omega, by omega⟩
            case measure => simp [RowKit.intOf]; omega
        · subst hnil; simp only [slen] at e1; omega
theorem szStmtS_all : ∀ (n : Nat) (F : SF), snodes F < n → sok F → slen F ≤ 9223372036854775807 → ∀ (w : World) (v : Value) (left : Int), SV w 0 F v → 0 ≤ left → left ≤ 1048576 → Calls Tryz.prog 56 #[v, .int .i64 left] w (Sz (ssize F) left w)
  | 0, _, h, _, _, _, _, _, _, _, _ => absurd h (by omega)
  | n + 1, F, h, hF, hM, w, v, left, hv, h0, h1 => szStmtS_step F hF hM (fun l hl hk hm w v left a b c => szStmtS_all n l (by omega) hk hm w v left a b c) w v left hv h0 h1
theorem szStmtS_is (F : SF) (hF : sok F) (hM : slen F ≤ 9223372036854775807) (w : World) (v : Value) (left : Int) (hv : SV w 0 F v) (h0 : 0 ≤ left) (h1 : left ≤ 1048576) :
    Calls Tryz.prog 56 #[v, .int .i64 left] w (Sz (ssize F) left w) := szStmtS_all _ F (Nat.lt_succ_self _) hF hM w v left hv h0 h1
theorem EV.drew {w : World} {lo : Nat} {F : EF} {v : Value} (h : EV w lo F v) : EV w.drew lo F v := h.same (Nat.le_refl _) (fun a v _ hc => hc)
theorem SV.drew {w : World} {lo : Nat} {F : SF} {v : Value} (h : SV w lo F v) : SV w.drew lo F v := h.same (Nat.le_refl _) (fun a v _ hc => hc)
set_option maxHeartbeats 1000000 in
theorem eqExp_of (x : X)
    (ih : ∀ (w : World) (va vb : Value), EV w 0 x.l va → EV w 0 x.l vb → Calls Tryz.prog 190 #[va, vb] w fun e w' => e = .returned (.bool true) ∧ Below w.heap.size w w')
    (w : World) (va vb : Value) (ha : EV w 0 x.l va) (hb : EV w 0 x.l vb) :
    Calls Tryz.prog 164 #[.agg #[.int .i64 x.h.k, .int .i64 x.h.n, .string x.h.s, va], .agg #[.int .i64 x.h.k, .int .i64 x.h.n, .string x.h.s, vb]] w fun e w' => e = .returned (.bool true) ∧ Below w.heap.size w w' := by
  have Hih := hid ih
  have Ha := hid ha
  have Hb := hid hb
  clear ih ha hb
  go_enter Tryz.func164, Tryz.ntmps164
  go_wp2_with fail
  have hb2 := (alloc_below w (.cells #[.int .i64 x.h.k, .int .i64 x.h.n, .string x.h.s, va] 43)).alloc (by simp) (.cells #[.int .i64 x.h.k, .int .i64 x.h.n, .string x.h.s, vb] 43)
  refine (Hih.out _ _ _ (Ha.out.later hb2) (Hb.out.later hb2)).mono ?_
  rintro e w1 ⟨rfl, hb1⟩
  have hB := hb2.trans (hb1.mono hb2.size)
  clear hb1 hb2
  go_wp2
  go_ret
  exact ⟨rfl, hB⟩
set_option maxHeartbeats 2000000 in
theorem eqExpS_step (F : EF) (hn : elen F ≤ 100000000)
    (ih : ∀ l : EF, enodes l < enodes F → ∀ (w : World) (va vb : Value), EV w 0 l va → EV w 0 l vb → Calls Tryz.prog 190 #[va, vb] w fun e w' => e = .returned (.bool true) ∧ Below w.heap.size w w')
    (w : World) (va vb : Value) (ha : EV w 0 F va) (hb : EV w 0 F vb) :
    Calls Tryz.prog 190 #[va, vb] w fun e w' => e = .returned (.bool true) ∧ Below w.heap.size w w' := by
  obtain ⟨b1, o1, ao1, cap1, rfl, hao1, _, hin1⟩ := ha
  obtain ⟨b2, o2, ao2, cap2, rfl, hao2, _, hin2⟩ := hb
  have Hih := hid ih
  clear ih
  go_enter Tryz.func190, Tryz.ntmps190
  go_wp2
  go_loopw [5] (fun i wr => ∃ (R : EF) (k : Nat), i = .int .i64 (k : Int) ∧ Hid (k + elen R = elen F ∧ enodes R ≤ enodes F ∧ EIn w 0 R b1 (o1 + k * 4) ∧ EIn w 0 R b2 (o2 + k * 4)) ∧ Below w.heap.size w wr) (fun i _ => elen F - (RowKit.intOf i).toNat)
  case atStart => exact ⟨F, 0, rfl, ⟨by omega, Nat.le_refl _, by simpa using hin1, by simpa using hin2⟩, Below.refl _ _⟩
  case round =>
    obtain ⟨R, k, rfl, hr, hbw⟩ := hrel
    obtain ⟨e1, e2, e3, e4⟩ := hr.out
    cases R with
    | nil =>
      have hk : ¬ (k : Int) < (elen F : Int) := by simp only [elen] at e1; omega
      go_wp2
      go_ret
      exact ⟨rfl, hbw⟩
    | node p q h l r =>
      have hlt : (k : Int) < (elen F : Int) := by simp only [elen] at e1; omega
      have hne : ¬ F = .nil := by intro e; subst e; simp only [elen] at e1; omega
      obtain rfl : ao1 = some ⟨b1, o1, Option.none⟩ := hao1.resolve_right hne
      obtain rfl : ao2 = some ⟨b2, o2, Option.none⟩ := hao2.resolve_right hne
      obtain ⟨⟨a0, a1, a2, u1, a3, hu1⟩, _⟩ := EIn_node.1 (EIn_later hbw _ _ _ e3)
      obtain ⟨⟨c0, c1, c2, u2, c3, hu2⟩, _⟩ := EIn_node.1 (EIn_later hbw _ _ _ e4)
      simp only [enodes] at e2
      have Hl := hid (fun w va vb => Hih.out l (by omega) w va vb)
      have He : Hid (k + 1 + elen r = elen F ∧ enodes r ≤ enodes F ∧ EIn w 0 r b1 (o1 + (k + 1) * 4) ∧ EIn w 0 r b2 (o2 + (k + 1) * 4)) := ⟨by simp only [elen] at e1; omega, by omega, by rw [show o1 + (k + 1) * 4 = o1 + k * 4 + 4 by omega]; exact (EIn_node.1 e3).2, by rw [show o2 + (k + 1) * 4 = o2 + k * 4 + 4 by omega]; exact (EIn_node.1 e4).2⟩
      have HU := hid (And.intro hu1 hu2)
      clear hr e1 e2 e3 e4 hin1 hin2 hne hao1 hao2 hu1 hu2
      go_wp2_with fail
      go_cut [26] from 11 to 26 (fun v wx => v = .bool false ∧ Below wr.heap.size wr wx)
      case first =>
        go_region_with (go_at_call 164; refine (eqExp_of ⟨h, l⟩ Hl.out _ _ _ HU.out.1.drew HU.out.2.drew).mono ?_; rintro e w1 ⟨rfl, hb1⟩)
        all_goals (try go_wp2_with fail)
        all_goals go_meet
        all_goals exact ⟨rfl, ⟨hb1.os, hb1.tape, hb1.output, hb1.size, hb1.block⟩⟩
      case rest =>
        obtain ⟨rfl, hb1⟩ := hcut
        have hbw2 := hbw.trans (hb1.mono hbw.size)
        clear a0 a1 a2 a3 c0 c1 c2 c3 hb1
        go_wp2
        go_roundw
        case rel => exact ⟨r, k + 1, by go_num, He.out, hbw2⟩
        case measure => simp [RowKit.intOf]; omega
theorem eqExpS_all : ∀ (n : Nat) (F : EF), enodes F < n → enodes F ≤ 100000000 → ∀ (w : World) (va vb : Value), EV w 0 F va → EV w 0 F vb → Calls Tryz.prog 190 #[va, vb] w fun e w' => e = .returned (.bool true) ∧ Below w.heap.size w w'
  | 0, _, h, _, _, _, _, _, _ => absurd h (by omega)
  | n + 1, F, h, hn, w, va, vb, ha, hb => eqExpS_step F (Nat.le_trans (elen_le F) hn) (fun l hl w va vb a b => eqExpS_all n l (by omega) (by omega) w va vb a b) w va vb ha hb
theorem eqExpS_is (F : EF) (hF : esize F ≤ 1048576) (w : World) (va vb : Value) (ha : EV w 0 F va) (hb : EV w 0 F vb) :
    Calls Tryz.prog 190 #[va, vb] w fun e w' => e = .returned (.bool true) ∧ Below w.heap.size w w' := eqExpS_all _ F (Nat.lt_succ_self _) (by have := enodes_le F; omega) w va vb ha hb
theorem eqExp_is (x : X) (hx : xsize x ≤ 1048576) (w : World) (va vb : Value) (ha : EV w 0 x.l va) (hb : EV w 0 x.l vb) :
    Calls Tryz.prog 164 #[.agg #[.int .i64 x.h.k, .int .i64 x.h.n, .string x.h.s, va], .agg #[.int .i64 x.h.k, .int .i64 x.h.n, .string x.h.s, vb]] w fun e w' => e = .returned (.bool true) ∧ Below w.heap.size w w' :=
  eqExp_of x (fun w va vb a b => eqExpS_is x.l (by unfold xsize at hx; omega) w va vb a b) w va vb ha hb
end Go.Proofs.YtfoghiminlbdaaaGreat
