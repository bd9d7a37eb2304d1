/-
  The contracts of toStmt, toStmtS: a copy in memory of its own.
-/
import Derived.Test.YthokildkedlkfaaAstTo
namespace Go.Proofs.Ythokildkedlkfaa
open Go.RowKit Go.Lib
set_option linter.unusedSimpArgs false
set_option linter.unusedVariables false

abbrev zero19 : Array Value := #[.int .i64 0, .string ⟨#[]⟩, .int .i64 0, .int .i64 0, .string ⟨#[]⟩, .slice Option.none 0 0, .int .i64 0, .int .i64 0, .string ⟨#[]⟩, .slice Option.none 0 0, .int .i64 0, .int .i64 0, .string ⟨#[]⟩, .slice Option.none 0 0, .int .i64 0, .int .i64 0, .string ⟨#[]⟩, .slice Option.none 0 0, .slice Option.none 0 0]
abbrev out19 (h : SH) : Array Value := #[.int .i64 h.k, .string h.s, .int .i64 0, .int .i64 0, .string ⟨#[]⟩, .slice Option.none 0 0, .int .i64 0, .int .i64 0, .string ⟨#[]⟩, .slice Option.none 0 0, .int .i64 0, .int .i64 0, .string ⟨#[]⟩, .slice Option.none 0 0, .int .i64 0, .int .i64 0, .string ⟨#[]⟩, .slice Option.none 0 0, .slice Option.none 0 0]
theorem oneX (x : X) (v : Value) (hv : v.oneCell' = true) : (xcells x v).toArray.all (·.oneCell') = true :=
  all_oneCell_toArray (fun u hu => by
    simp only [xcells, List.mem_cons, List.not_mem_nil, or_false] at hu
    rcases hu with rfl | rfl | rfl | rfl <;> first | rfl | exact hv)
theorem oneS (h : SH) (v1 v2 v3 v4 v : Value) (e1 : v1.oneCell' = true) (e2 : v2.oneCell' = true) (e3 : v3.oneCell' = true) (e4 : v4.oneCell' = true) (e5 : v.oneCell' = true) : (scells h v1 v2 v3 v4 v).toArray.all (·.oneCell') = true :=
  all_oneCell_toArray (fun u hu => by
    simp only [scells, xcells, List.mem_cons, List.mem_append, List.not_mem_nil, or_false] at hu
    rcases hu with rfl | rfl | (rfl | rfl | rfl | rfl) | (rfl | rfl | rfl | rfl) | (rfl | rfl | rfl | rfl) | (rfl | rfl | rfl | rfl) | rfl <;> first | rfl | assumption)
theorem sc19 (h : SH) (v1 v2 v3 v4 v : Value) : (sarr h v1 v2 v3 v4 v).toList = scells h v1 v2 v3 v4 v := rfl
/-- The five ranges of a statement that is laid bit by bit. -/
theorem join19 {w : World} {g : Nat} {h : SH} {v1 v2 v3 v4 v : Value} (r0 : w.rangeAt g 0 [.int .i64 h.k, .string h.s]) (r1 : w.rangeAt g 2 (xcells h.x1 v1)) (r2 : w.rangeAt g 6 (xcells h.x2 v2)) (r3 : w.rangeAt g 10 (xcells h.x3 v3)) (r4 : w.rangeAt g 14 (xcells h.x4 v4)) (r5 : w.rangeAt g 18 [v]) :
    w.rangeAt g 0 (scells h v1 v2 v3 v4 v) :=
  rangeAt_app (cs := [.int .i64 h.k, .string h.s]) r0 (rangeAt_app r1 (rangeAt_app r2 (rangeAt_app r3 (rangeAt_app r4 r5))))
/-- What a statement's copy knows at each of its steps: what came in at N, the place of the answer at N + 1, the copy at N + 2. -/
structure Mid (w0 : World) (N : Nat) (h : SH) (l : SF) (v1 v2 v3 v4 v : Value) (w : World) : Prop where
  src : w.rangeAt N 0 (scells h v1 v2 v3 v4 v)
  th1 : w.there (N + 1) 0 19
  th2 : w.there (N + 2) 0 19
  top : w.rangeAt (N + 2) 0 [.int .i64 h.k, .string h.s]
  low : Below w0.heap.size w0 w
  size : N + 3 ≤ w.heap.size
  n0 : w0.heap.size = N
theorem Mid.later {w0 w w' : World} {N : Nat} {h : SH} {l : SF} {v1 v2 v3 v4 v : Value} (m : Mid w0 N h l v1 v2 v3 v4 v w) (hb : Below w.heap.size w w') : Mid w0 N h l v1 v2 v3 v4 v w' :=
  ⟨rangeAt_later m.src hb, there_later m.th1 hb, there_later m.th2 hb, rangeAt_later m.top hb, m.low.trans (hb.mono m.low.size), Nat.le_trans m.size hb.size, m.n0⟩
theorem Mid.sets {w0 w : World} {N : Nat} {h : SH} {l : SF} {v1 v2 v3 v4 v : Value} (m : Mid w0 N h l v1 v2 v3 v4 v w) (o : Nat) (ho : 2 ≤ o) (vs : List Value) : Mid w0 N h l v1 v2 v3 v4 v (w.setCells (N + 2) o vs) :=
  ⟨World.rangeAt_setCells_apart m.src _ _ _ (.inl (by omega)), World.there_setCells m.th1 _ _ _, World.there_setCells m.th2 _ _ _, World.rangeAt_setCells_apart m.top _ _ _ (.inr (.inl (by simpa using ho))), below_sets _ _ m.low (by have := m.n0; omega), by rw [size_sets]; exact m.size, m.n0⟩
theorem Mid.x1 {w0 w : World} {N : Nat} {h : SH} {l : SF} {v1 v2 v3 v4 v : Value} (m : Mid w0 N h l v1 v2 v3 v4 v w) : w.rangeAt N 2 (xcells h.x1 v1) := by
  have := rangeAt_part (ds := [.int .i64 h.k, .string h.s]) (es := xcells h.x1 v1) m.src rfl; rwa [Nat.zero_add] at this
theorem Mid.x2 {w0 w : World} {N : Nat} {h : SH} {l : SF} {v1 v2 v3 v4 v : Value} (m : Mid w0 N h l v1 v2 v3 v4 v w) : w.rangeAt N 6 (xcells h.x2 v2) := by
  have := rangeAt_part (ds := [.int .i64 h.k, .string h.s] ++ xcells h.x1 v1) (es := xcells h.x2 v2) m.src rfl; rwa [Nat.zero_add] at this
theorem Mid.x3 {w0 w : World} {N : Nat} {h : SH} {l : SF} {v1 v2 v3 v4 v : Value} (m : Mid w0 N h l v1 v2 v3 v4 v w) : w.rangeAt N 10 (xcells h.x3 v3) := by
  have := rangeAt_part (ds := [.int .i64 h.k, .string h.s] ++ xcells h.x1 v1 ++ xcells h.x2 v2) (es := xcells h.x3 v3) m.src rfl; rwa [Nat.zero_add] at this
theorem Mid.x4 {w0 w : World} {N : Nat} {h : SH} {l : SF} {v1 v2 v3 v4 v : Value} (m : Mid w0 N h l v1 v2 v3 v4 v w) : w.rangeAt N 14 (xcells h.x4 v4) := by
  have := rangeAt_part (ds := [.int .i64 h.k, .string h.s] ++ xcells h.x1 v1 ++ xcells h.x2 v2 ++ xcells h.x3 v3) (es := xcells h.x4 v4) m.src rfl; rwa [Nat.zero_add] at this
theorem Mid.vb {w0 w : World} {N : Nat} {h : SH} {l : SF} {v1 v2 v3 v4 v : Value} (m : Mid w0 N h l v1 v2 v3 v4 v w) : w.cell? ⟨N, 18, Option.none⟩ = some v := by
  have := m.src 18 v rfl; rwa [Nat.zero_add] at this
theorem Mid.there4 {w0 w : World} {N : Nat} {h : SH} {l : SF} {v1 v2 v3 v4 v : Value} (m : Mid w0 N h l v1 v2 v3 v4 v w) (o : Nat) (ho : o + 4 ≤ 19) : w.there (N + 2) o 4 := by
  have := there_part m.th2 o 4 ho; rwa [Nat.zero_add] at this
theorem Mid.cell18 {w0 w : World} {N : Nat} {h : SH} {l : SF} {v1 v2 v3 v4 v : Value} (m : Mid w0 N h l v1 v2 v3 v4 v w) : (∃ u, w.cell? ⟨N + 2, 18, Option.none⟩ = some u) ∧ w.frozen? ⟨N + 2, 18, Option.none⟩ = false := by
  have := m.th2 18 (by omega); rw [Nat.zero_add] at this
  exact ⟨Option.isSome_iff_exists.1 this.1, this.2⟩
theorem Mid.start (w : World) (h : SH) (l : SF) (v1 v2 v3 v4 v : Value) : Mid w w.heap.size h l v1 v2 v3 v4 v (((w.alloc (.cells (sarr h v1 v2 v3 v4 v) 52)).alloc (.cells zero19 29)).alloc (.cells (out19 h) 29)) := by
  obtain ⟨q0, q1, q2⟩ := heap3 w (.cells (sarr h v1 v2 v3 v4 v) 52) (.cells zero19 29) (.cells (out19 h) 29)
  refine ⟨?_, blk_there q1 (Nat.le_refl 19), blk_there q2 (Nat.le_refl 19), ?_, ((alloc_below w _).alloc (by simp) _).alloc (by simp; omega) _, by simp, rfl⟩
  · have := blk_range q0; rwa [sc19] at this
  · have := blk_range q2
    have := rangeAt_part (ds := []) (es := [.int .i64 h.k, .string h.s]) this rfl
    exact this
/-- A part that is laid: its four cells, and what stands under it. -/
structure Got (w : World) (N o : Nat) (x : X) (u : Value) : Prop where
  rg : w.rangeAt (N + 2) o (xcells x u)
  ev : EV w (N + 3) x.l u
theorem Got.later {w w' : World} {N o : Nat} {x : X} {u : Value} (g : Got w N o x u) (hb : Below w.heap.size w w') : Got w' N o x u := ⟨rangeAt_later g.rg hb, g.ev.later hb⟩
theorem Got.sets {w W : World} {N o o' : Nat} {x : X} {u : Value} {vs : List Value} (g : Got w N o x u) (ho : o + 4 ≤ o') (hW : w.setCells (N + 2) o' vs = W) : Got W N o x u := by
  subst hW
  exact ⟨World.rangeAt_setCells_apart g.rg _ _ _ (.inr (.inl ho)), g.ev.same (Nat.le_refl _) (Keeps.sets _ (by omega) _ _)⟩
theorem Got.new {w W : World} {N o lo : Nat} {x : X} {u : Value} (ht : w.there (N + 2) o 4) (hu : EV w lo x.l u) (hlo : N + 3 ≤ lo) (hW : w.setCells (N + 2) o (xcells x u) = W) : Got W N o x u := by
  subst hW
  exact ⟨World.rangeAt_setCells_same _ _ _ _ ht, (hu.lower hlo).same (Nat.le_refl _) (Keeps.sets _ (by omega) _ _)⟩
theorem Mid.at {w0 w W : World} {N : Nat} {h : SH} {l : SF} {v1 v2 v3 v4 v : Value} {vs : List Value} (m : Mid w0 N h l v1 v2 v3 v4 v w) (o : Nat) (ho : 2 ≤ o) (hW : w.setCells (N + 2) o vs = W) : Mid w0 N h l v1 v2 v3 v4 v W := by subst hW; exact m.sets o ho vs
theorem store_abs {P : Program} {ops : Array Oper} {rest : List Oper} {op : Oper} {a : Act} {w : World} {Q : Exit → Act → World → Prop} (hgd : op.guard = none) (ty : TypeId) (x y : Operand) (ho : op.op = .store ty x y)
    (b o : Nat) (cells : Array Value) (hx : a.eval x = .pointer (some ⟨b, o, none⟩)) (hy : a.eval y = .agg cells)
    (ht : w.there b o cells.size) (hi : (P.info? ty).map (·.size) = some cells.size) (h1 : cells.all (·.oneCell') = true)
    (h : ∀ W, w.setCells b o cells.toList = W → wpList P ops Q rest (a.put op.dst undef) W) : wpList P ops Q (op :: rest) a w := wpList_store_mid hgd ty x y ho b o cells hx hy ht hi h1 (h _ rfl)
set_option maxHeartbeats 2000000 in
set_option maxRecDepth 100000 in
theorem toStmt_of (h : SH) (l : SF) (k1 : xsize h.x1 ≤ 1048576) (k2 : xsize h.x2 ≤ 1048576) (k3 : xsize h.x3 ≤ 1048576) (k4 : xsize h.x4 ≤ 1048576)
    (ih : ∀ (w : World) (v : Value), SV w 0 l v → Calls Try.prog 23 #[v] w fun e w' => ∃ v', e = .returned v' ∧ SV w' w.heap.size l v' ∧ Below w.heap.size w w')
    (w : World) (v1 v2 v3 v4 v : Value) (hv : HV w 0 h v1 v2 v3 v4) (hl : SV w 0 l v) :
    Calls Try.prog 26 #[sagg h v1 v2 v3 v4 v] w fun e w' => ∃ u1 u2 u3 u4 u, e = .returned (sagg h u1 u2 u3 u4 u) ∧ HV w' w.heap.size h u1 u2 u3 u4 ∧ SV w' w.heap.size l u ∧ Below w.heap.size w w' := by
  have Hih := Lib.hid ih
  have Hv := Lib.hid hv
  have Hl := Lib.hid hl
  have M0 := Lib.hid (Mid.start w h l v1 v2 v3 v4 v)
  clear ih hv hl
  go_enter Try.func26, Try.ntmps26
  go_wp2_with fail
  refine (toExp_is h.x1 k1 _ v1 (Hv.out.e1.later M0.out.low)).mono ?_
  rintro e w1 ⟨u1, rfl, hu1, hb1⟩
  have m1 := M0.out.later hb1
  have o1 := hu1.isOne
  have hlo1 := M0.out.size
  go_wp2_with (first | (refine store_abs rfl 26 _ _ rfl _ _ _ rfl rfl ?ht1 sizeIE ?ho1 ?_; exact (m1.there4 2 (by omega)); exact (oneX h.x1 u1 o1); intro W1 hW; have M1 := Lib.hid (m1.at 2 (by omega) hW); have G1 := Lib.hid (Got.new (x := h.x1) (m1.there4 2 (by omega)) hu1 hlo1 hW); have Ho1 := Lib.hid o1; clear hW m1 hu1 hb1 o1 hlo1 M0) | (refine wpList_load_mid rfl 50 _ rfl w.heap.size 6 rfl _ _ M1.out.x2 Try.underlying50 rfl sizeLE ?_))
  refine (toExp_is h.x2 k2 _ v2 (Hv.out.e2.later M1.out.low)).mono ?_
  rintro e w2 ⟨u2, rfl, hu2, hb2⟩
  have m2 := M1.out.later hb2
  have o2 := hu2.isOne
  have hlo2 := M1.out.size
  have G1 := Lib.hid (G1.out.later hb2)
  go_wp2_with (first | (refine store_abs rfl 26 _ _ rfl _ _ _ rfl rfl ?ht2 sizeIE ?ho2 ?_; exact (m2.there4 6 (by omega)); exact (oneX h.x2 u2 o2); intro W2 hW; have M2 := Lib.hid (m2.at 6 (by omega) hW); have G2 := Lib.hid (Got.new (x := h.x2) (m2.there4 6 (by omega)) hu2 hlo2 hW); have G1 := Lib.hid (G1.out.sets (o' := 6) (by omega) hW); have Ho2 := Lib.hid o2; clear hW m2 hu2 hb2 o2 hlo2 M1) | (refine wpList_load_mid rfl 50 _ rfl w.heap.size 10 rfl _ _ M2.out.x3 Try.underlying50 rfl sizeLE ?_))
  refine (toExp_is h.x3 k3 _ v3 (Hv.out.e3.later M2.out.low)).mono ?_
  rintro e w3 ⟨u3, rfl, hu3, hb3⟩
  have m3 := M2.out.later hb3
  have o3 := hu3.isOne
  have hlo3 := M2.out.size
  have G1 := Lib.hid (G1.out.later hb3)
  have G2 := Lib.hid (G2.out.later hb3)
  go_wp2_with (first | (refine store_abs rfl 26 _ _ rfl _ _ _ rfl rfl ?ht3 sizeIE ?ho3 ?_; exact (m3.there4 10 (by omega)); exact (oneX h.x3 u3 o3); intro W3 hW; have M3 := Lib.hid (m3.at 10 (by omega) hW); have G3 := Lib.hid (Got.new (x := h.x3) (m3.there4 10 (by omega)) hu3 hlo3 hW); have G1 := Lib.hid (G1.out.sets (o' := 10) (by omega) hW); have G2 := Lib.hid (G2.out.sets (o' := 10) (by omega) hW); have Ho3 := Lib.hid o3; clear hW m3 hu3 hb3 o3 hlo3 M2) | (refine wpList_load_mid rfl 50 _ rfl w.heap.size 14 rfl _ _ M3.out.x4 Try.underlying50 rfl sizeLE ?_))
  refine (toExp_is h.x4 k4 _ v4 (Hv.out.e4.later M3.out.low)).mono ?_
  rintro e w4 ⟨u4, rfl, hu4, hb4⟩
  have m4 := M3.out.later hb4
  have o4 := hu4.isOne
  have hlo4 := M3.out.size
  have G1 := Lib.hid (G1.out.later hb4)
  have G2 := Lib.hid (G2.out.later hb4)
  have G3 := Lib.hid (G3.out.later hb4)
  go_wp2_with (first | (refine store_abs rfl 26 _ _ rfl _ _ _ rfl rfl ?ht4 sizeIE ?ho4 ?_; exact (m4.there4 14 (by omega)); exact (oneX h.x4 u4 o4); intro W4 hW; have M4 := Lib.hid (m4.at 14 (by omega) hW); have G4 := Lib.hid (Got.new (x := h.x4) (m4.there4 14 (by omega)) hu4 hlo4 hW); have G1 := Lib.hid (G1.out.sets (o' := 14) (by omega) hW); have G2 := Lib.hid (G2.out.sets (o' := 14) (by omega) hW); have G3 := Lib.hid (G3.out.sets (o' := 14) (by omega) hW); have Ho4 := Lib.hid o4; clear hW m4 hu4 hb4 o4 hlo4 M3; have cb := M4.out.vb) )
  refine (Hih.out _ v (Hl.out.later M4.out.low)).mono ?_
  rintro e w5 ⟨u, rfl, hu, hb5⟩
  have m5 := M4.out.later hb5
  obtain ⟨⟨x18, c18⟩, f18⟩ := m5.cell18
  have Ho5 := Lib.hid hu.isOne
  have M5 := Lib.hid (m5.sets 18 (by omega) [u])
  have ks : Keeps (w.heap.size + 3) w5 (w5.setCells (w.heap.size + 2) 18 [u]) := Keeps.sets _ (by omega) _ _
  have D5 : Hid ((w5.setCells (w.heap.size + 2) 18 [u]).rangeAt (w.heap.size + 2) 18 [u] ∧ SV (w5.setCells (w.heap.size + 2) 18 [u]) (w.heap.size + 3) l u) := ⟨World.rangeAt_setCells_same _ _ _ _ (by have := there_part m5.th2 18 1 (by omega); rwa [Nat.zero_add] at this), (hu.lower M4.out.size).same (Nat.le_refl _) ks⟩
  have G1 := Lib.hid ((G1.out.later hb5).sets (o' := 18) (vs := [u]) (by omega) rfl)
  have G2 := Lib.hid ((G2.out.later hb5).sets (o' := 18) (vs := [u]) (by omega) rfl)
  have G3 := Lib.hid ((G3.out.later hb5).sets (o' := 18) (vs := [u]) (by omega) rfl)
  have G4 := Lib.hid ((G4.out.later hb5).sets (o' := 18) (vs := [u]) (by omega) rfl)
  obtain ⟨a5, c5, rfl⟩ := hu.shape
  have RG := Lib.hid (join19 M5.out.top G1.out.rg G2.out.rg G3.out.rg G4.out.rg D5.out.1)
  have HN : Hid (HV (w5.setCells (w.heap.size + 2) 18 [.slice a5 (slen l) c5]) (w.heap.size + 3) h u1 u2 u3 u4 ∧ SV (w5.setCells (w.heap.size + 2) 18 [.slice a5 (slen l) c5]) (w.heap.size + 3) l (.slice a5 (slen l) c5)) := ⟨⟨G1.out.ev, G2.out.ev, G3.out.ev, G4.out.ev⟩, D5.out.2⟩
  clear hu hb5 m5 ks M4 cb G1 G2 G3 G4 D5
  go_wp2_with (first | (refine wpList_load_mid rfl 29 _ rfl (w.heap.size + 2) 0 rfl _ _ RG.out Try.underlying29 rfl sizeIS ?_) | (refine store_abs rfl 29 _ _ rfl _ _ _ rfl rfl ?ht9 sizeIS ?ho9 ?_; exact M5.out.th1; exact (oneS h u1 u2 u3 u4 _ Ho1.out Ho2.out Ho3.out Ho4.out Ho5.out); intro W hW))
  have ks : Keeps (w.heap.size + 3) (w5.setCells (w.heap.size + 2) 18 [.slice a5 (slen l) c5]) W := by rw [← hW]; exact Keeps.sets _ (by omega) _ _
  have rg : W.rangeAt (w.heap.size + 1) 0 (scells h u1 u2 u3 u4 (.slice a5 (slen l) c5)) := by rw [← hW]; exact World.rangeAt_setCells_same _ _ _ _ M5.out.th1
  have hB : Below w.heap.size w W := by rw [← hW]; exact below_sets _ 0 M5.out.low (Nat.le_succ w.heap.size)
  obtain ⟨⟨g1, g2, g3, g4⟩, g5⟩ := HN.out
  have hlv := run_loadVar_mid W (w.heap.size + 1) 0 _ _ _ rg Try.underlying29 rfl sizeIS
  refine bodyPost_ret (v := sagg h u1 u2 u3 u4 (.slice a5 (slen l) c5)) ?_ rfl ⟨u1, u2, u3, u4, _, rfl, ⟨g1.same (by omega) ks, g2.same (by omega) ks, g3.same (by omega) ks, g4.same (by omega) ks⟩, g5.same (by omega) ks, hB⟩
  simp [results, Try.results26, asAddr, hlv]
  rfl
theorem infoIS : (Try.prog.info? 29).map (fun i => (i.zero, i.size, i.bytes)) = some (some (.agg zero19), 19, 272) := by kernel_rfl
/-- One more statement behind those that are laid. -/
theorem SRow.next {w w' : World} {lo g : Nat} {P : SF} {xs : List Value} {h : SH} {l : SF} {v1 v2 v3 v4 v : Value} (p q : Nat) (hP : SRow w lo P xs) (hk : Keeps lo w w') (h1 : HV w' lo h v1 v2 v3 v4) (hv : SV w' lo l v) (hr : w'.rangeAt g 0 xs) (h4 : w'.rangeAt g (slen P * 19) (scells h v1 v2 v3 v4 v)) :
    SRow w' lo (sapp P (.node p q h l .nil)) (xs ++ scells h v1 v2 v3 v4 v) ∧ w'.rangeAt g 0 (xs ++ scells h v1 v2 v3 v4 v) :=
  ⟨(SRow.same (Nat.le_refl _) hk hP).app (SRow.one h1.e1 h1.e2 h1.e3 h1.e4 hv), rangeAt_app hr (by rw [hP.length, Nat.zero_add]; exact h4)⟩
theorem HV.lower {w : World} {lo lo' : Nat} {h : SH} {v1 v2 v3 v4 : Value} (hv : HV w lo h v1 v2 v3 v4) (hlo : lo' ≤ lo) : HV w lo' h v1 v2 v3 v4 := ⟨hv.e1.lower hlo, hv.e2.lower hlo, hv.e3.lower hlo, hv.e4.lower hlo⟩
theorem HV.same {w w' : World} {lo lo' : Nat} {h : SH} {v1 v2 v3 v4 : Value} (hv : HV w lo h v1 v2 v3 v4) (hlo : lo' ≤ lo) (hs : Keeps lo w w') : HV w' lo' h v1 v2 v3 v4 := ⟨hv.e1.same hlo hs, hv.e2.same hlo hs, hv.e3.same hlo hs, hv.e4.same hlo hs⟩
set_option maxHeartbeats 1000000 in
set_option maxRecDepth 100000 in
theorem toStmtS_step (F : SF) (hF : ssize F ≤ 1048576)
    (ih : ∀ l : SF, snodes l < snodes F → ssize l ≤ 1048576 → ∀ (w : World) (v : Value), SV w 0 l v → Calls Try.prog 23 #[v] w fun e w' => ∃ v', e = .returned v' ∧ SV w' w.heap.size l v' ∧ Below w.heap.size w w')
    (w : World) (v : Value) (hv : SV w 0 F v) :
    Calls Try.prog 23 #[v] w fun e w' => ∃ v', e = .returned v' ∧ SV w' w.heap.size F v' ∧ Below w.heap.size w w' := by
  have hn : slen F ≤ 1048576 := Nat.le_trans (Nat.le_trans (slen_le F) (snodes_le F)) hF
  obtain ⟨b, o, ao, cap, rfl, hao, _, hin⟩ := hv
  obtain ⟨i0, hi, hz0, hz1, hz2⟩ := info_parts infoIS
  have Hih := Lib.hid ih
  clear ih
  go_enter Try.func23, Try.ntmps23
  go_wp2_with (refine wpList_make_full _ rfl _ _ 27 rfl w.heap.size 29 i0 _ 19 Try.underlying27 hi hz0 hz1 .i64 .i64 _ _ (slen F) rfl rfl rfl rfl ?c1 ?c2 ?c3 ?_)
  case c1 => rw [hz2]; omega
  case c2 => unfold maxLen; omega
  case c3 => exact Nat.le_refl _
  intro w1 hown hgrow
  obtain ⟨cur, hcur, _, hcs, _⟩ := own_block hown
  have hbw : Below w.heap.size w w1 := (Below.refl _ w).grown hgrow (Nat.le_refl _) (fun k hk => by cases hk)
  have Hth : Hid (w1.there w.heap.size 0 (slen F * 19)) := blk_there hcur (by omega)
  have hsz : w.heap.size < w1.heap.size := (Array.getElem?_eq_some_iff.1 hcur).1
  clear hown hgrow hcur hcs
  go_wp2
  go_loopw [4] (fun i wr => ∃ (P R : SF) (xs : List Value), i = .int .i64 (slen P : Int) ∧ Hid (sapp P R = F ∧ snodes R ≤ snodes F ∧ ssize R ≤ 1048576) ∧ SIn w 0 R b (o + slen P * 19) ∧ Hid (wr.there w.heap.size 0 (slen F * 19) ∧ SRow wr (w.heap.size + 1) P xs ∧ wr.rangeAt w.heap.size 0 xs ∧ w.heap.size < wr.heap.size) ∧ Below w.heap.size w wr) (fun i _ => slen F - (RowKit.intOf i).toNat)
  case atStart => exact ⟨.nil, F, [], rfl, ⟨rfl, Nat.le_refl _, hF⟩, by simpa [slen] using hin, ⟨Hth.out, rfl, (fun j v hv => by simp at hv), hsz⟩, hbw⟩
  case round =>
    obtain ⟨P, R, xs, rfl, hr, hinR, hm, hbr⟩ := hrel
    obtain ⟨e1, e2, e3⟩ := hr.out
    have eL := congrArg slen e1
    rw [slen_app] at eL
    cases R with
    | nil =>
      have hk : ¬ (slen P : Int) < (slen F : Int) := by simp only [slen] at eL; omega
      rw [sapp_nil] at e1
      subst e1
      go_wp2
      go_ret
      exact ⟨_, rfl, SV.laid hm.out.2.1 hm.out.2.2.1 _ (by omega), hbr⟩
    | node p q h l r =>
      have hlt : (slen P : Int) < (slen F : Int) := by simp only [slen] at eL; omega
      rcases hao with rfl | hnil
      · obtain ⟨hsc, hinr⟩ := SIn_node.1 (SIn_later hbr _ _ _ hinR)
        obtain ⟨v1, v2, v3, v4, u, hu, hul, hrg⟩ := hsc.range
        have Hrg := Lib.hid hrg
        have hinr0 := (SIn_node.1 hinR).2
        simp only [snodes] at e2
        simp only [ssize, hsize] at e3
        have Hl := Lib.hid (fun w v => Hih.out l (by omega) (by omega) w v)
        have He : Hid (sapp (sapp P (.node p q h l .nil)) r = F ∧ snodes r ≤ snodes F ∧ ssize r ≤ 1048576) := ⟨by rw [sapp_snoc]; exact e1, by omega, by omega⟩
        have HeL : Hid (slen P + (slen r + 1) = slen F) := eL
        have k1 : xsize h.x1 ≤ 1048576 := by omega
        have k2 : xsize h.x2 ≤ 1048576 := by omega
        have k3 : xsize h.x3 ≤ 1048576 := by omega
        have k4 : xsize h.x4 ≤ 1048576 := by omega
        clear hr hinR e1 e2 e3 hinr hin eL hsc hrg
        go_wp2_with (refine wpList_load_mid rfl 52 _ rfl b (o + slen P * 19) rfl _ _ Hrg.out Try.underlying52 rfl sizeLS ?_)
        refine (toStmt_of h l k1 k2 k3 k4 Hl.out _ v1 v2 v3 v4 u hu hul).mono ?_
        rintro e w2 ⟨y1, y2, y3, y4, y, rfl, hy, hyl, hb2⟩
        obtain ⟨t1, t2, t3, t4⟩ := hm.out
        have t1' := there_later t1 hb2
        have hbw2 := hbr.trans (hb2.mono hbr.size)
        have ht4 : w2.there w.heap.size (slen P * 19) 19 := by have := there_part t1' (slen P * 19) 19 (by have := HeL.out; omega); rwa [Nat.zero_add] at this
        have o1 := hy.e1.isOne
        have o2 := hy.e2.isOne
        have o3 := hy.e3.isOne
        have o4 := hy.e4.isOne
        have o5 := hyl.isOne
        have HT : Hid (SRow wr (w.heap.size + 1) P xs ∧ wr.rangeAt w.heap.size 0 xs) := ⟨t2, t3⟩
        clear Hrg hu hul k1 k2 k3 k4 Hl t2 t3
        have T4 := Lib.hid t4
        have HB2 := Lib.hid hb2
        have HBW := Lib.hid hbw2
        have HY := Lib.hid (And.intro hy hyl)
        have T1 := Lib.hid t1'
        clear hy hyl hb2 hbw2 t1' t1 t4
        go_wp2_with (refine store_abs rfl 29 _ _ rfl _ _ _ rfl rfl ?ht sizeIS ?ho ?_; exact ht4; exact (oneS h y1 y2 y3 y4 y o1 o2 o3 o4 o5); intro W hW; have HW := Lib.hid hW; clear hW)
        have hW := HW.out
        have t4 := T4.out
        have hb2 := HB2.out
        have hks : Keeps (w.heap.size + 1) w2 W := by rw [← hW]; exact Keeps.sets _ (by omega) _ _
        have N12 := SRow.next (g := w.heap.size) (w' := W) p q HT.out.1 ((Keeps.later hb2).trans hks) ((HY.out.1.lower t4).same (Nat.le_refl _) hks) ((HY.out.2.lower t4).same (Nat.le_refl _) hks) (by rw [← hW]; exact World.rangeAt_setCells_apart (rangeAt_later HT.out.2 hb2) w.heap.size (slen P * 19) _ (.inr (.inl (by rw [HT.out.1.length]; omega)))) (by rw [← hW]; exact World.rangeAt_setCells_same w2 w.heap.size (slen P * 19) (scells h y1 y2 y3 y4 y) ht4)
        have n3 : W.there w.heap.size 0 (slen F * 19) := by rw [← hW]; exact World.there_setCells T1.out _ _ _
        have n4 : Below w.heap.size w W := by rw [← hW]; exact below_sets _ _ HBW.out (Nat.le_refl _)
        have n5 : w.heap.size < W.heap.size := by rw [← hW, size_sets]; exact Nat.lt_of_lt_of_le t4 hb2.size
        have hlen : slen (sapp P (.node p q h l .nil)) = slen P + 1 := by rw [slen_app]; rfl
        go_roundw
        case rel =>
          exact ⟨sapp P (.node p q h l .nil), r, _, by rw [hlen]; go_num, He.out, by rw [hlen, show o + (slen P + 1) * 19 = o + slen P * 19 + 19 by omega]; exact hinr0, ⟨n3, N12.1, N12.2, n5⟩, n4⟩
        case measure => simp [RowKit.intOf]; omega
      · subst hnil; simp only [slen] at eL; omega
theorem toStmtS_all : ∀ (n : Nat) (F : SF), snodes F < n → ssize F ≤ 1048576 → ∀ (w : World) (v : Value), SV w 0 F v → Calls Try.prog 23 #[v] w fun e w' => ∃ v', e = .returned v' ∧ SV w' w.heap.size F v' ∧ Below w.heap.size w w'
  | 0, _, h, _, _, _, _ => absurd h (by omega)
  | n + 1, F, h, hF, w, v, hv => toStmtS_step F hF (fun l hl hk w v a => toStmtS_all n l (by omega) hk w v a) w v hv
theorem toStmtS_is (F : SF) (hF : ssize F ≤ 1048576) (w : World) (v : Value) (hv : SV w 0 F v) :
    Calls Try.prog 23 #[v] w fun e w' => ∃ v', e = .returned v' ∧ SV w' w.heap.size F v' ∧ Below w.heap.size w w' := toStmtS_all _ F (Nat.lt_succ_self _) hF w v hv
end Go.Proofs.Ythokildkedlkfaa
