/-
  Texts in one: AstTo, AstToS.
-/
import Derived.Test.YtjdpddcnogdekaaGreatP01ofMx
/-
  The contracts of toExp, toExpS: a copy in memory of its own.
-/
namespace Go.Proofs.YtjdpddcnogdekaaGreat
open Go.RowKit Go.Lib
set_option linter.unusedSimpArgs false
set_option linter.unusedVariables false

theorem blk4 {w : World} {b : Nat} {x y z u : Value} {t : TypeId} (h : w.heap[b]? = some (.cells #[x, y, z, u] t (0, 0))) :
    (w.cell? ⟨b, 0, Option.none⟩ = some x ∧ w.cell? ⟨b, 1, Option.none⟩ = some y ∧ w.cell? ⟨b, 2, Option.none⟩ = some z ∧ w.cell? ⟨b, 3, Option.none⟩ = some u) ∧ w.frozen? ⟨b, 0, Option.none⟩ = false ∧ w.frozen? ⟨b, 1, Option.none⟩ = false ∧ w.frozen? ⟨b, 2, Option.none⟩ = false ∧ w.frozen? ⟨b, 3, Option.none⟩ = false := by
  simp [World.cell?, World.frozen?, h]
theorem set5 {w w1 : World} {N : Nat} (hb : Below w.heap.size w w1) (hN : w.heap.size = N) (p x y z u : Value) : Below w.heap.size w (((((w1.setCell ⟨N + 2, 3, Option.none⟩ p).setCell ⟨N + 1, 0, Option.none⟩ x).setCell ⟨N + 1, 1, Option.none⟩ y).setCell ⟨N + 1, 2, Option.none⟩ z).setCell ⟨N + 1, 3, Option.none⟩ u) ∧
    Keeps (w.heap.size + 3) w1 (((((w1.setCell ⟨N + 2, 3, Option.none⟩ p).setCell ⟨N + 1, 0, Option.none⟩ x).setCell ⟨N + 1, 1, Option.none⟩ y).setCell ⟨N + 1, 2, Option.none⟩ z).setCell ⟨N + 1, 3, Option.none⟩ u) := by
  subst hN
  exact ⟨((((hb.setCell (p := ⟨w.heap.size + 2, 3, Option.none⟩) (by simp) _).setCell (p := ⟨w.heap.size + 1, 0, Option.none⟩) (by simp) _).setCell (p := ⟨w.heap.size + 1, 1, Option.none⟩) (by simp) _).setCell (p := ⟨w.heap.size + 1, 2, Option.none⟩) (by simp) _).setCell (p := ⟨w.heap.size + 1, 3, Option.none⟩) (by simp) _,
    ((((Keeps.set _ _ (by simp) _).trans (Keeps.set _ _ (by simp) _)).trans (Keeps.set _ _ (by simp) _)).trans (Keeps.set _ _ (by simp) _)).trans (Keeps.set _ _ (by simp) _)⟩
/-- One more expression behind those that are laid. -/
theorem ERow.next {w w' : World} {lo g : Nat} {P : EF} {xs : List Value} {h : EH} {l : EF} {v : Value} (p q : Nat) (hP : ERow w lo P xs) (hk : Keeps lo w w') (hv : EV w' lo l v) (hr : w'.rangeAt g 0 xs) (h4 : w'.rangeAt g (elen P * 4) [.int .i64 h.k, .int .i64 h.n, .string h.s, v]) :
    ERow w' lo (eapp P (.node p q h l .nil)) (xs ++ [.int .i64 h.k, .int .i64 h.n, .string h.s, v]) ∧ w'.rangeAt g 0 (xs ++ [.int .i64 h.k, .int .i64 h.n, .string h.s, v]) :=
  ⟨(ERow.same (Nat.le_refl _) hk hP).app (ERow.one hv), rangeAt_app hr (by rw [hP.length, Nat.zero_add]; exact h4)⟩
theorem all4 (k n : Int) (t : ByteArray) (a : Option Addr) (l c : Nat) : (#[.int .i64 k, .int .i64 n, .string t, .slice a l c] : Array Value).all (·.oneCell') = true :=
  all_oneCell_toArray (cs := [.int .i64 k, .int .i64 n, .string t, .slice a l c]) (fun v hv => by
    simp only [List.mem_cons, List.not_mem_nil, or_false] at hv
    rcases hv with rfl | rfl | rfl | rfl <;> rfl)
end Go.Proofs.YtjdpddcnogdekaaGreat
/-
  The contracts of toStmt, toStmtS: a copy in memory of its own.
-/
namespace Go.Proofs.YtjdpddcnogdekaaGreat
open Go.RowKit Go.Lib
set_option linter.unusedSimpArgs false
set_option linter.unusedVariables false

abbrev zero19 : Array Value := #[.int .i64 0, .string ⟨#[]⟩, .int .i64 0, .int .i64 0, .string ⟨#[]⟩, .slice Option.none 0 0, .int .i64 0, .int .i64 0, .string ⟨#[]⟩, .slice Option.none 0 0, .int .i64 0, .int .i64 0, .string ⟨#[]⟩, .slice Option.none 0 0, .int .i64 0, .int .i64 0, .string ⟨#[]⟩, .slice Option.none 0 0, .slice Option.none 0 0]
abbrev out19 (h : SH) : Array Value := #[.int .i64 h.k, .string h.s, .int .i64 0, .int .i64 0, .string ⟨#[]⟩, .slice Option.none 0 0, .int .i64 0, .int .i64 0, .string ⟨#[]⟩, .slice Option.none 0 0, .int .i64 0, .int .i64 0, .string ⟨#[]⟩, .slice Option.none 0 0, .int .i64 0, .int .i64 0, .string ⟨#[]⟩, .slice Option.none 0 0, .slice Option.none 0 0]
theorem oneX (x : X) (v : Value) (hv : v.oneCell' = true) : (xcells x v).toArray.all (·.oneCell') = true :=
  all_oneCell_toArray (fun u hu => by
    simp only [xcells, List.mem_cons, List.not_mem_nil, or_false] at hu
    rcases hu with rfl | rfl | rfl | rfl <;> first | rfl | exact hv)
theorem oneS (h : SH) (v1 v2 v3 v4 v : Value) (e1 : v1.oneCell' = true) (e2 : v2.oneCell' = true) (e3 : v3.oneCell' = true) (e4 : v4.oneCell' = true) (e5 : v.oneCell' = true) : (scells h v1 v2 v3 v4 v).toArray.all (·.oneCell') = true :=
  all_oneCell_toArray (fun u hu => by
    simp only [scells, xcells, List.mem_cons, List.mem_append, List.not_mem_nil, or_false] at hu
    rcases hu with rfl | rfl | (rfl | rfl | rfl | rfl) | (rfl | rfl | rfl | rfl) | (rfl | rfl | rfl | rfl) | (rfl | rfl | rfl | rfl) | rfl <;> first | rfl | assumption)
theorem sc19 (h : SH) (v1 v2 v3 v4 v : Value) : (sarr h v1 v2 v3 v4 v).toList = scells h v1 v2 v3 v4 v := rfl
/-- The five ranges of a statement that is laid bit by bit. -/
theorem join19 {w : World} {g : Nat} {h : SH} {v1 v2 v3 v4 v : Value} (r0 : w.rangeAt g 0 [.int .i64 h.k, .string h.s]) (r1 : w.rangeAt g 2 (xcells h.x1 v1)) (r2 : w.rangeAt g 6 (xcells h.x2 v2)) (r3 : w.rangeAt g 10 (xcells h.x3 v3)) (r4 : w.rangeAt g 14 (xcells h.x4 v4)) (r5 : w.rangeAt g 18 [v]) :
    w.rangeAt g 0 (scells h v1 v2 v3 v4 v) :=
  rangeAt_app (cs := [.int .i64 h.k, .string h.s]) r0 (rangeAt_app r1 (rangeAt_app r2 (rangeAt_app r3 (rangeAt_app r4 r5))))
/-- What a statement's copy knows at each of its steps: what came in at N, the place of the answer at N + 1, the copy at N + 2. -/
structure Mid (w0 : World) (N : Nat) (h : SH) (l : SF) (v1 v2 v3 v4 v : Value) (w : World) : Prop where
  src : w.rangeAt N 0 (scells h v1 v2 v3 v4 v)
  th1 : w.there (N + 1) 0 19
  th2 : w.there (N + 2) 0 19
  top : w.rangeAt (N + 2) 0 [.int .i64 h.k, .string h.s]
  low : Below w0.heap.size w0 w
  size : N + 3 ≤ w.heap.size
  n0 : w0.heap.size = N
theorem Mid.later {w0 w w' : World} {N : Nat} {h : SH} {l : SF} {v1 v2 v3 v4 v : Value} (m : Mid w0 N h l v1 v2 v3 v4 v w) (hb : Below w.heap.size w w') : Mid w0 N h l v1 v2 v3 v4 v w' :=
  ⟨rangeAt_later m.src hb, there_later m.th1 hb, there_later m.th2 hb, rangeAt_later m.top hb, m.low.trans (hb.mono m.low.size), Nat.le_trans m.size hb.size, m.n0⟩
theorem Mid.sets {w0 w : World} {N : Nat} {h : SH} {l : SF} {v1 v2 v3 v4 v : Value} (m : Mid w0 N h l v1 v2 v3 v4 v w) (o : Nat) (ho : 2 ≤ o) (vs : List Value) : Mid w0 N h l v1 v2 v3 v4 v (w.setCells (N + 2) o vs) :=
  ⟨World.rangeAt_setCells_apart m.src _ _ _ (.inl (by omega)), World.there_setCells m.th1 _ _ _, World.there_setCells m.th2 _ _ _, World.rangeAt_setCells_apart m.top _ _ _ (.inr (.inl (by simpa using ho))), below_sets _ _ m.low (by have := m.n0; omega), by rw [size_sets]; exact m.size, m.n0⟩
theorem Mid.x1 {w0 w : World} {N : Nat} {h : SH} {l : SF} {v1 v2 v3 v4 v : Value} (m : Mid w0 N h l v1 v2 v3 v4 v w) : w.rangeAt N 2 (xcells h.x1 v1) := by
  have := rangeAt_part (ds := [.int .i64 h.k, .string h.s]) (es := xcells h.x1 v1) m.src rfl; rwa [Nat.zero_add] at this
theorem Mid.x2 {w0 w : World} {N : Nat} {h : SH} {l : SF} {v1 v2 v3 v4 v : Value} (m : Mid w0 N h l v1 v2 v3 v4 v w) : w.rangeAt N 6 (xcells h.x2 v2) := by
  have := rangeAt_part (ds := [.int .i64 h.k, .string h.s] ++ xcells h.x1 v1) (es := xcells h.x2 v2) m.src rfl; rwa [Nat.zero_add] at this
theorem Mid.x3 {w0 w : World} {N : Nat} {h : SH} {l : SF} {v1 v2 v3 v4 v : Value} (m : Mid w0 N h l v1 v2 v3 v4 v w) : w.rangeAt N 10 (xcells h.x3 v3) := by
  have := rangeAt_part (ds := [.int .i64 h.k, .string h.s] ++ xcells h.x1 v1 ++ xcells h.x2 v2) (es := xcells h.x3 v3) m.src rfl; rwa [Nat.zero_add] at this
theorem Mid.x4 {w0 w : World} {N : Nat} {h : SH} {l : SF} {v1 v2 v3 v4 v : Value} (m : Mid w0 N h l v1 v2 v3 v4 v w) : w.rangeAt N 14 (xcells h.x4 v4) := by
  have := rangeAt_part (ds := [.int .i64 h.k, .string h.s] ++ xcells h.x1 v1 ++ xcells h.x2 v2 ++ xcells h.x3 v3) (es := xcells h.x4 v4) m.src rfl; rwa [Nat.zero_add] at this
theorem Mid.vb {w0 w : World} {N : Nat} {h : SH} {l : SF} {v1 v2 v3 v4 v : Value} (m : Mid w0 N h l v1 v2 v3 v4 v w) : w.cell? ⟨N, 18, Option.none⟩ = some v := by
  have := m.src 18 v rfl; rwa [Nat.zero_add] at this
theorem Mid.there4 {w0 w : World} {N : Nat} {h : SH} {l : SF} {v1 v2 v3 v4 v : Value} (m : Mid w0 N h l v1 v2 v3 v4 v w) (o : Nat) (ho : o + 4 ≤ 19) : w.there (N + 2) o 4 := by
  have := there_part m.th2 o 4 ho; rwa [Nat.zero_add] at this
theorem Mid.cell18 {w0 w : World} {N : Nat} {h : SH} {l : SF} {v1 v2 v3 v4 v : Value} (m : Mid w0 N h l v1 v2 v3 v4 v w) : (∃ u, w.cell? ⟨N + 2, 18, Option.none⟩ = some u) ∧ w.frozen? ⟨N + 2, 18, Option.none⟩ = false := by
  have := m.th2 18 (by omega); rw [Nat.zero_add] at this
  exact ⟨Option.isSome_iff_exists.1 this.1, this.2⟩
/-- A part that is laid: its four cells, and what stands under it. -/
structure Got (w : World) (N o : Nat) (x : X) (u : Value) : Prop where
  rg : w.rangeAt (N + 2) o (xcells x u)
  ev : EV w (N + 3) x.l u
theorem Got.later {w w' : World} {N o : Nat} {x : X} {u : Value} (g : Got w N o x u) (hb : Below w.heap.size w w') : Got w' N o x u := ⟨rangeAt_later g.rg hb, g.ev.later hb⟩
theorem Got.sets {w W : World} {N o o' : Nat} {x : X} {u : Value} {vs : List Value} (g : Got w N o x u) (ho : o + 4 ≤ o') (hW : w.setCells (N + 2) o' vs = W) : Got W N o x u := by
  subst hW
  exact ⟨World.rangeAt_setCells_apart g.rg _ _ _ (.inr (.inl ho)), g.ev.same (Nat.le_refl _) (Keeps.sets _ (by omega) _ _)⟩
theorem Got.new {w W : World} {N o lo : Nat} {x : X} {u : Value} (ht : w.there (N + 2) o 4) (hu : EV w lo x.l u) (hlo : N + 3 ≤ lo) (hW : w.setCells (N + 2) o (xcells x u) = W) : Got W N o x u := by
  subst hW
  exact ⟨World.rangeAt_setCells_same _ _ _ _ ht, (hu.lower hlo).same (Nat.le_refl _) (Keeps.sets _ (by omega) _ _)⟩
theorem Mid.at {w0 w W : World} {N : Nat} {h : SH} {l : SF} {v1 v2 v3 v4 v : Value} {vs : List Value} (m : Mid w0 N h l v1 v2 v3 v4 v w) (o : Nat) (ho : 2 ≤ o) (hW : w.setCells (N + 2) o vs = W) : Mid w0 N h l v1 v2 v3 v4 v W := by subst hW; exact m.sets o ho vs
theorem store_abs {P : Program} {ops : Array Oper} {rest : List Oper} {op : Oper} {a : Act} {w : World} {Q : Exit → Act → World → Prop} (hgd : op.guard = none) (ty : TypeId) (x y : Operand) (ho : op.op = .store ty x y)
    (b o : Nat) (cells : Array Value) (hx : a.eval x = .pointer (some ⟨b, o, none⟩)) (hy : a.eval y = .agg cells)
    (ht : w.there b o cells.size) (hi : (P.info? ty).map (·.size) = some cells.size) (h1 : cells.all (·.oneCell') = true)
    (h : ∀ W, w.setCells b o cells.toList = W → wpList P ops Q rest (a.put op.dst undef) W) : wpList P ops Q (op :: rest) a w := wpList_store_mid hgd ty x y ho b o cells hx hy ht hi h1 (h _ rfl)
/-- One more statement behind those that are laid. -/
theorem SRow.next {w w' : World} {lo g : Nat} {P : SF} {xs : List Value} {h : SH} {l : SF} {v1 v2 v3 v4 v : Value} (p q : Nat) (hP : SRow w lo P xs) (hk : Keeps lo w w') (h1 : HV w' lo h v1 v2 v3 v4) (hv : SV w' lo l v) (hr : w'.rangeAt g 0 xs) (h4 : w'.rangeAt g (slen P * 19) (scells h v1 v2 v3 v4 v)) :
    SRow w' lo (sapp P (.node p q h l .nil)) (xs ++ scells h v1 v2 v3 v4 v) ∧ w'.rangeAt g 0 (xs ++ scells h v1 v2 v3 v4 v) :=
  ⟨(SRow.same (Nat.le_refl _) hk hP).app (SRow.one h1.e1 h1.e2 h1.e3 h1.e4 hv), rangeAt_app hr (by rw [hP.length, Nat.zero_add]; exact h4)⟩
theorem HV.lower {w : World} {lo lo' : Nat} {h : SH} {v1 v2 v3 v4 : Value} (hv : HV w lo h v1 v2 v3 v4) (hlo : lo' ≤ lo) : HV w lo' h v1 v2 v3 v4 := ⟨hv.e1.lower hlo, hv.e2.lower hlo, hv.e3.lower hlo, hv.e4.lower hlo⟩
theorem HV.same {w w' : World} {lo lo' : Nat} {h : SH} {v1 v2 v3 v4 : Value} (hv : HV w lo h v1 v2 v3 v4) (hlo : lo' ≤ lo) (hs : Keeps lo w w') : HV w' lo' h v1 v2 v3 v4 := ⟨hv.e1.same hlo hs, hv.e2.same hlo hs, hv.e3.same hlo hs, hv.e4.same hlo hs⟩
end Go.Proofs.YtjdpddcnogdekaaGreat
