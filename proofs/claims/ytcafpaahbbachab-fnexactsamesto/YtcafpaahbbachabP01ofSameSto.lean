/-
  Texts in one: AstToS, AstUnder, AstVis, IntRow, IntRows.
-/
import Derived.Test.YtcafpaahbbachabP00ofSameSto
import Derived.Deep.LoopGhost
import Derived.Deep.RegionWith
import Derived.Deep.Cut
import Derived.Deep.CutRange
/-
  The contracts of toStmt, toStmtS: a copy in memory of its own.
-/
namespace Go.Proofs.Ytcafpaahbbachab
open Go.RowKit Go.Lib
set_option linter.unusedSimpArgs false
set_option linter.unusedVariables false

abbrev zero19 : Array Value := #[.int .i64 0, .string ⟨#[]⟩, .int .i64 0, .int .i64 0, .string ⟨#[]⟩, .slice Option.none 0 0, .int .i64 0, .int .i64 0, .string ⟨#[]⟩, .slice Option.none 0 0, .int .i64 0, .int .i64 0, .string ⟨#[]⟩, .slice Option.none 0 0, .int .i64 0, .int .i64 0, .string ⟨#[]⟩, .slice Option.none 0 0, .slice Option.none 0 0]
abbrev out19 (h : SH) : Array Value := #[.int .i64 h.k, .string h.s, .int .i64 0, .int .i64 0, .string ⟨#[]⟩, .slice Option.none 0 0, .int .i64 0, .int .i64 0, .string ⟨#[]⟩, .slice Option.none 0 0, .int .i64 0, .int .i64 0, .string ⟨#[]⟩, .slice Option.none 0 0, .int .i64 0, .int .i64 0, .string ⟨#[]⟩, .slice Option.none 0 0, .slice Option.none 0 0]
theorem oneX (x : X) (v : Value) (hv : v.oneCell' = true) : (xcells x v).toArray.all (·.oneCell') = true :=
  all_oneCell_toArray (fun u hu => by
    simp only [xcells, List.mem_cons, List.not_mem_nil, or_false] at hu
    rcases hu with rfl | rfl | rfl | rfl <;> first | rfl | exact hv)
theorem oneS (h : SH) (v1 v2 v3 v4 v : Value) (e1 : v1.oneCell' = true) (e2 : v2.oneCell' = true) (e3 : v3.oneCell' = true) (e4 : v4.oneCell' = true) (e5 : v.oneCell' = true) : (scells h v1 v2 v3 v4 v).toArray.all (·.oneCell') = true :=
  all_oneCell_toArray (fun u hu => by
    simp only [scells, xcells, List.mem_cons, List.mem_append, List.not_mem_nil, or_false] at hu
    rcases hu with rfl | rfl | (rfl | rfl | rfl | rfl) | (rfl | rfl | rfl | rfl) | (rfl | rfl | rfl | rfl) | (rfl | rfl | rfl | rfl) | rfl <;> first | rfl | assumption)
theorem sc19 (h : SH) (v1 v2 v3 v4 v : Value) : (sarr h v1 v2 v3 v4 v).toList = scells h v1 v2 v3 v4 v := rfl
/-- The five ranges of a statement that is laid bit by bit. -/
theorem join19 {w : World} {g : Nat} {h : SH} {v1 v2 v3 v4 v : Value} (r0 : w.rangeAt g 0 [.int .i64 h.k, .string h.s]) (r1 : w.rangeAt g 2 (xcells h.x1 v1)) (r2 : w.rangeAt g 6 (xcells h.x2 v2)) (r3 : w.rangeAt g 10 (xcells h.x3 v3)) (r4 : w.rangeAt g 14 (xcells h.x4 v4)) (r5 : w.rangeAt g 18 [v]) :
    w.rangeAt g 0 (scells h v1 v2 v3 v4 v) :=
  rangeAt_app (cs := [.int .i64 h.k, .string h.s]) r0 (rangeAt_app r1 (rangeAt_app r2 (rangeAt_app r3 (rangeAt_app r4 r5))))
/-- What a statement's copy knows at each of its steps: what came in at N, the place of the answer at N + 1, the copy at N + 2. -/
structure Mid (w0 : World) (N : Nat) (h : SH) (l : SF) (v1 v2 v3 v4 v : Value) (w : World) : Prop where
  src : w.rangeAt N 0 (scells h v1 v2 v3 v4 v)
  th1 : w.there (N + 1) 0 19
  th2 : w.there (N + 2) 0 19
  top : w.rangeAt (N + 2) 0 [.int .i64 h.k, .string h.s]
  low : Below w0.heap.size w0 w
  size : N + 3 ≤ w.heap.size
  n0 : w0.heap.size = N
theorem Mid.later {w0 w w' : World} {N : Nat} {h : SH} {l : SF} {v1 v2 v3 v4 v : Value} (m : Mid w0 N h l v1 v2 v3 v4 v w) (hb : Below w.heap.size w w') : Mid w0 N h l v1 v2 v3 v4 v w' :=
  ⟨rangeAt_later m.src hb, there_later m.th1 hb, there_later m.th2 hb, rangeAt_later m.top hb, m.low.trans (hb.mono m.low.size), Nat.le_trans m.size hb.size, m.n0⟩
theorem Mid.sets {w0 w : World} {N : Nat} {h : SH} {l : SF} {v1 v2 v3 v4 v : Value} (m : Mid w0 N h l v1 v2 v3 v4 v w) (o : Nat) (ho : 2 ≤ o) (vs : List Value) : Mid w0 N h l v1 v2 v3 v4 v (w.setCells (N + 2) o vs) :=
  ⟨World.rangeAt_setCells_apart m.src _ _ _ (.inl (by omega)), World.there_setCells m.th1 _ _ _, World.there_setCells m.th2 _ _ _, World.rangeAt_setCells_apart m.top _ _ _ (.inr (.inl (by simpa using ho))), below_sets _ _ m.low (by have := m.n0; omega), by rw [size_sets]; exact m.size, m.n0⟩
theorem Mid.x1 {w0 w : World} {N : Nat} {h : SH} {l : SF} {v1 v2 v3 v4 v : Value} (m : Mid w0 N h l v1 v2 v3 v4 v w) : w.rangeAt N 2 (xcells h.x1 v1) := by
  have := rangeAt_part (ds := [.int .i64 h.k, .string h.s]) (es := xcells h.x1 v1) m.src rfl; rwa [Nat.zero_add] at this
theorem Mid.x2 {w0 w : World} {N : Nat} {h : SH} {l : SF} {v1 v2 v3 v4 v : Value} (m : Mid w0 N h l v1 v2 v3 v4 v w) : w.rangeAt N 6 (xcells h.x2 v2) := by
  have := rangeAt_part (ds := [.int .i64 h.k, .string h.s] ++ xcells h.x1 v1) (es := xcells h.x2 v2) m.src rfl; rwa [Nat.zero_add] at this
theorem Mid.x3 {w0 w : World} {N : Nat} {h : SH} {l : SF} {v1 v2 v3 v4 v : Value} (m : Mid w0 N h l v1 v2 v3 v4 v w) : w.rangeAt N 10 (xcells h.x3 v3) := by
  have := rangeAt_part (ds := [.int .i64 h.k, .string h.s] ++ xcells h.x1 v1 ++ xcells h.x2 v2) (es := xcells h.x3 v3) m.src rfl; rwa [Nat.zero_add] at this
theorem Mid.x4 {w0 w : World} {N : Nat} {h : SH} {l : SF} {v1 v2 v3 v4 v : Value} (m : Mid w0 N h l v1 v2 v3 v4 v w) : w.rangeAt N 14 (xcells h.x4 v4) := by
  have := rangeAt_part (ds := [.int .i64 h.k, .string h.s] ++ xcells h.x1 v1 ++ xcells h.x2 v2 ++ xcells h.x3 v3) (es := xcells h.x4 v4) m.src rfl; rwa [Nat.zero_add] at this
theorem Mid.vb {w0 w : World} {N : Nat} {h : SH} {l : SF} {v1 v2 v3 v4 v : Value} (m : Mid w0 N h l v1 v2 v3 v4 v w) : w.cell? ⟨N, 18, Option.none⟩ = some v := by
  have := m.src 18 v rfl; rwa [Nat.zero_add] at this
theorem Mid.there4 {w0 w : World} {N : Nat} {h : SH} {l : SF} {v1 v2 v3 v4 v : Value} (m : Mid w0 N h l v1 v2 v3 v4 v w) (o : Nat) (ho : o + 4 ≤ 19) : w.there (N + 2) o 4 := by
  have := there_part m.th2 o 4 ho; rwa [Nat.zero_add] at this
theorem Mid.cell18 {w0 w : World} {N : Nat} {h : SH} {l : SF} {v1 v2 v3 v4 v : Value} (m : Mid w0 N h l v1 v2 v3 v4 v w) : (∃ u, w.cell? ⟨N + 2, 18, Option.none⟩ = some u) ∧ w.frozen? ⟨N + 2, 18, Option.none⟩ = false := by
  have := m.th2 18 (by omega); rw [Nat.zero_add] at this
  exact ⟨Option.isSome_iff_exists.1 this.1, this.2⟩
/-- A part that is laid: its four cells, and what stands under it. -/
structure Got (w : World) (N o : Nat) (x : X) (u : Value) : Prop where
  rg : w.rangeAt (N + 2) o (xcells x u)
  ev : EV w (N + 3) x.l u
theorem Got.later {w w' : World} {N o : Nat} {x : X} {u : Value} (g : Got w N o x u) (hb : Below w.heap.size w w') : Got w' N o x u := ⟨rangeAt_later g.rg hb, g.ev.later hb⟩
theorem Got.sets {w W : World} {N o o' : Nat} {x : X} {u : Value} {vs : List Value} (g : Got w N o x u) (ho : o + 4 ≤ o') (hW : w.setCells (N + 2) o' vs = W) : Got W N o x u := by
  subst hW
  exact ⟨World.rangeAt_setCells_apart g.rg _ _ _ (.inr (.inl ho)), g.ev.same (Nat.le_refl _) (Keeps.sets _ (by omega) _ _)⟩
theorem Got.new {w W : World} {N o lo : Nat} {x : X} {u : Value} (ht : w.there (N + 2) o 4) (hu : EV w lo x.l u) (hlo : N + 3 ≤ lo) (hW : w.setCells (N + 2) o (xcells x u) = W) : Got W N o x u := by
  subst hW
  exact ⟨World.rangeAt_setCells_same _ _ _ _ ht, (hu.lower hlo).same (Nat.le_refl _) (Keeps.sets _ (by omega) _ _)⟩
theorem Mid.at {w0 w W : World} {N : Nat} {h : SH} {l : SF} {v1 v2 v3 v4 v : Value} {vs : List Value} (m : Mid w0 N h l v1 v2 v3 v4 v w) (o : Nat) (ho : 2 ≤ o) (hW : w.setCells (N + 2) o vs = W) : Mid w0 N h l v1 v2 v3 v4 v W := by subst hW; exact m.sets o ho vs
theorem store_abs {P : Program} {ops : Array Oper} {rest : List Oper} {op : Oper} {a : Act} {w : World} {Q : Exit → Act → World → Prop} (hgd : op.guard = none) (ty : TypeId) (x y : Operand) (ho : op.op = .store ty x y)
    (b o : Nat) (cells : Array Value) (hx : a.eval x = .pointer (some ⟨b, o, none⟩)) (hy : a.eval y = .agg cells)
    (ht : w.there b o cells.size) (hi : (P.info? ty).map (·.size) = some cells.size) (h1 : cells.all (·.oneCell') = true)
    (h : ∀ W, w.setCells b o cells.toList = W → wpList P ops Q rest (a.put op.dst undef) W) : wpList P ops Q (op :: rest) a w := wpList_store_mid hgd ty x y ho b o cells hx hy ht hi h1 (h _ rfl)
/-- One more statement behind those that are laid. -/
theorem SRow.next {w w' : World} {lo g : Nat} {P : SF} {xs : List Value} {h : SH} {l : SF} {v1 v2 v3 v4 v : Value} (p q : Nat) (hP : SRow w lo P xs) (hk : Keeps lo w w') (h1 : HV w' lo h v1 v2 v3 v4) (hv : SV w' lo l v) (hr : w'.rangeAt g 0 xs) (h4 : w'.rangeAt g (slen P * 19) (scells h v1 v2 v3 v4 v)) :
    SRow w' lo (sapp P (.node p q h l .nil)) (xs ++ scells h v1 v2 v3 v4 v) ∧ w'.rangeAt g 0 (xs ++ scells h v1 v2 v3 v4 v) :=
  ⟨(SRow.same (Nat.le_refl _) hk hP).app (SRow.one h1.e1 h1.e2 h1.e3 h1.e4 hv), rangeAt_app hr (by rw [hP.length, Nat.zero_add]; exact h4)⟩
theorem HV.lower {w : World} {lo lo' : Nat} {h : SH} {v1 v2 v3 v4 : Value} (hv : HV w lo h v1 v2 v3 v4) (hlo : lo' ≤ lo) : HV w lo' h v1 v2 v3 v4 := ⟨hv.e1.lower hlo, hv.e2.lower hlo, hv.e3.lower hlo, hv.e4.lower hlo⟩
theorem HV.same {w w' : World} {lo lo' : Nat} {h : SH} {v1 v2 v3 v4 : Value} (hv : HV w lo h v1 v2 v3 v4) (hlo : lo' ≤ lo) (hs : Keeps lo w w') : HV w' lo' h v1 v2 v3 v4 := ⟨hv.e1.same hlo hs, hv.e2.same hlo hs, hv.e3.same hlo hs, hv.e4.same hlo hs⟩
end Go.Proofs.Ytcafpaahbbachab
/-
  What stands under a statement, under an expression; small laws on memory.
-/
namespace Go.Proofs.Ytcafpaahbbachab
open Go.RowKit Go.Lib
set_option linter.unusedSimpArgs false
set_option linter.unusedVariables false

theorem retI {a b : Int} {R : Prop} (h : a = b) (r : R) : Ending.returned (.int .i64 a) = .returned (.int .i64 b) ∧ R := by subst h; exact ⟨rfl, r⟩
theorem str_ne {s t : ByteArray} (h : ¬ s = t) : (s.toList == t.toList) = false := by
  rw [ByteArray.toList_eq, ByteArray.toList_eq, beq_eq_false_iff_ne]
  intro e
  exact h (ByteArray.ext (Array.toList_inj.1 e))
theorem int_ne {a b : Int} (h : ¬ a = b) : (a == b) = false := by rw [beq_eq_false_iff_ne]; exact h
theorem retB {a b : Bool} {R : Prop} (h : b = a) (r : R) : Ending.returned (.bool a) = .returned (.bool b) ∧ R := by subst h; exact ⟨rfl, r⟩
/-- Two blocks that were just laid. -/
theorem two_blk (w : World) (a b : Array Value) (s t : TypeId) : ((w.alloc (.cells a s)).alloc (.cells b t)).rangeAt w.heap.size 0 a.toList ∧ ((w.alloc (.cells a s)).alloc (.cells b t)).rangeAt (w.heap.size + 1) 0 b.toList ∧ Below w.heap.size w ((w.alloc (.cells a s)).alloc (.cells b t)) := by
  have e : ∀ (v : World) (o : Obj), (v.alloc o).heap = v.heap.push o := fun _ _ => rfl
  have q0 : ((w.alloc (.cells a s)).alloc (.cells b t)).heap[w.heap.size]? = some (.cells a s) := by rw [Below.heap_alloc _ _ _ (by simp), e]; simp
  have q1 : ((w.alloc (.cells a s)).alloc (.cells b t)).heap[(w.alloc (.cells a s)).heap.size]? = some (.cells b t) := (fun (v : World) (o : Obj) => (by rw [e]; simp : (v.alloc o).heap[v.heap.size]? = some o)) _ _
  have q2 : (w.alloc (.cells a s)).heap.size = w.heap.size + 1 := by simp
  rw [q2] at q1
  exact ⟨blk_range q0, blk_range q1, (alloc_below w _).alloc (by simp) _⟩
theorem x_range {w : World} {b o : Nat} {x : X} {v : Value} (a0 : w.cell? ⟨b, o, Option.none⟩ = some (.int .i64 x.h.k)) (a1 : w.cell? ⟨b, o + 1, Option.none⟩ = some (.int .i64 x.h.n)) (a2 : w.cell? ⟨b, o + 2, Option.none⟩ = some (.string x.h.s)) (a3 : w.cell? ⟨b, o + 3, Option.none⟩ = some v) : w.rangeAt b o (xcells x v) := fun j u hj => by
  match j, hj with
  | 0, hj => cases hj; exact a0
  | 1, hj => cases hj; exact a1
  | 2, hj => cases hj; exact a2
  | 3, hj => cases hj; exact a3
  | j + 4, hj => simp [xcells] at hj
theorem EV.laid0 {w : World} {g : Nat} {F : EF} {xs : List Value} (h : ERow w 0 F xs) (hr : w.rangeAt g 0 xs) (c : Nat) : EV w 0 F (.slice (some ⟨g, 0, Option.none⟩) (elen F) c) :=
  ⟨g, 0, _, c, rfl, .inl rfl, Nat.zero_le _, ERow.laid 0 h (by simpa [World.rangeAt] using hr)⟩
theorem SV.laid0 {w : World} {g : Nat} {F : SF} {xs : List Value} (h : SRow w 0 F xs) (hr : w.rangeAt g 0 xs) (c : Nat) : SV w 0 F (.slice (some ⟨g, 0, Option.none⟩) (slen F) c) :=
  ⟨g, 0, _, c, rfl, .inl rfl, Nat.zero_le _, SRow.laid 0 h (by simpa [World.rangeAt] using hr)⟩
end Go.Proofs.Ytcafpaahbbachab
/-
  The contract of the landed code's visitAll over statements: whatever it is handed to do at each of them.
-/
namespace Go.Proofs.Ytcafpaahbbachab
open Go.RowKit Go.Lib
set_option linter.unusedSimpArgs false
set_option linter.unusedVariables false

theorem lt_heap {w : World} {g : Nat} {o : Obj} (h : w.heap[g]? = some o) : g < w.heap.size := (Array.getElem?_eq_some_iff.1 h).1
theorem ownB {w w' : World} {B sz n : Nat} {e : TypeId} {v : Value} {xs : List Value} (h : w.ownsRow B e sz v n xs) (hb : Below w.heap.size w w') : w'.ownsRow B e sz v n xs := by
  refine ⟨h.1, ?_⟩
  rcases h.2 with h0 | ⟨g, cap, cur, h1, h2, h3, h4⟩
  · exact .inl h0
  · exact .inr ⟨g, cap, cur, h1, h2, (hb.block g (lt_heap h3)).trans h3, h4⟩
theorem ownSets {w : World} {B sz n N : Nat} {e : TypeId} {v : Value} {xs : List Value} (h : w.ownsRow B e sz v n xs) (hN : ∀ o, w.heap[N]? = some o → ∀ g, v.ownBlock = some g → N ≠ g) (o : Nat) (vs : List Value) (hn : N < w.heap.size) : (w.setCells N o vs).ownsRow B e sz v n xs := by
  refine ⟨h.1, ?_⟩
  rcases h.2 with h0 | ⟨g, cap, cur, h1, h2, h3, h4⟩
  · exact .inl h0
  · refine .inr ⟨g, cap, cur, h1, h2, ?_, h4⟩
    have hne : N ≠ g := hN _ (Array.getElem?_eq_getElem hn) g (by rw [h1]; rfl)
    have : ∀ (vs : List Value) (o : Nat) (w : World), (w.setCells N o vs).heap[g]? = w.heap[g]? := by
      intro vs
      induction vs with
      | nil => intro o w; rfl
      | cons x xs ih => intro o w; rw [World.setCells, ih, Below.heap_setCell _ _ _ _ (fun e => hne e.symm)]
    rw [this]; exact h3
/-- A row with something in it. -/
theorem own_some {w : World} {B sz n : Nat} {e : TypeId} {v : Value} {xs : List Value} (h : w.ownsRow B e sz v (n + 1) xs) : ∃ g cap, v = .slice (some ⟨g, 0, Option.none⟩) (n + 1) cap ∧ n + 1 ≤ cap ∧ cap ≤ maxLen ∧ B ≤ g ∧ g < w.heap.size := by
  rcases h.2 with ⟨_, h0⟩ | ⟨g, cap, cur, h1, h2, h3, h4, h5, _⟩
  · cases h0
  · exact ⟨g, cap, h1, h4, h5, h2, lt_heap h3⟩
theorem own_none {w : World} {B sz : Nat} {e : TypeId} {v : Value} {xs : List Value} (h : w.ownsRow B e sz v 0 xs) : ∃ a cap, v = .slice a 0 cap := by
  rcases h.2 with ⟨h1, h0⟩ | ⟨g, cap, cur, h1, _⟩
  · exact ⟨_, _, h1⟩
  · exact ⟨_, _, h1⟩
/-- The last one is let go. -/
theorem own_pop {w : World} {B sz n g cap : Nat} {e : TypeId} {xs ys : List Value} (h : w.ownsRow B e sz (.slice (some ⟨g, 0, Option.none⟩) (n + 1) cap) (n + 1) (xs ++ ys)) (hx : xs.length = n * sz) : w.ownsRow B e sz (.slice (some ⟨g, 0, Option.none⟩) n cap) n xs := by
  refine ⟨hx, ?_⟩
  rcases h.2 with ⟨h0, _⟩ | ⟨g', cap', cur, h1, h2, h3, h4, h5, h6, h7⟩
  · cases h0
  · injection h1 with e1 e2 e3
    subst e3
    refine .inr ⟨g, cap, cur, rfl, ?_, ?_, by omega, h5, h6, ?_⟩
    · injection e1 with e1; injection e1 with e1; subst e1; exact h2
    · injection e1 with e1; injection e1 with e1; subst e1; exact h3
    · have := congrArg (List.take (n * sz)) h7
      rw [List.take_take, Nat.min_eq_left (Nat.mul_le_mul_right sz (Nat.le_succ n)), List.take_append_of_le_length (by omega)] at this
      rw [this, List.take_of_length_le (by omega)]
/-- A cell of a row that the call owns. -/
theorem own_cell {w : World} {B sz n g cap : Nat} {e : TypeId} {xs : List Value} (h : w.ownsRow B e sz (.slice (some ⟨g, 0, Option.none⟩) n cap) n xs) {j : Nat} {u : Value} (hu : xs[j]? = some u) : w.cell? ⟨g, j, Option.none⟩ = some u := by
  have hc := h.cells (g := g) rfl j u hu
  have e1 : (⟨g, 0, Option.none⟩ : Addr).add j = ⟨g, j, Option.none⟩ := by simp [Addr.add]; omega
  rwa [e1] at hc
/-- What is left to do: rows of statements, each in its slice. -/
abbrev TdS := List (SF × Value)
/-- A new block that is stored into at once. -/
theorem newblk {w W : World} {arr : Array Value} {t : TypeId} {vs : List Value} (hn : vs.length ≤ arr.size) (hW : (w.alloc (.cells arr t)).setCells w.heap.size 0 vs = W) : W.rangeAt w.heap.size 0 vs ∧ Below w.heap.size w W := by
  have e : (w.alloc (.cells arr t)).heap[w.heap.size]? = some (.cells arr t (0, 0)) := by show (w.heap.push _)[w.heap.size]? = _; simp
  subst hW
  exact ⟨World.rangeAt_setCells_same _ _ _ _ (blk_there e hn), below_sets _ _ (alloc_below _ _) (Nat.le_refl _)⟩
theorem newthere (w : World) (t : TypeId) : (w.alloc (.cells zero19 t)).there w.heap.size 0 19 := blk_there (arr := zero19) (t := t) (by show (w.heap.push _)[w.heap.size]? = _; simp) (Nat.le_refl 19)
theorem new1 (w : World) (u : Value) (t : TypeId) : ∀ j x, [u][j]? = some x → (w.alloc (.cells #[u] t)).cell? ((⟨w.heap.size, 0, Option.none⟩ : Addr).add j) = some x := by
  intro j x h
  have e : (w.alloc (.cells #[u] t)).heap[w.heap.size]? = some (.cells #[u] t (0, 0)) := by show (w.heap.push _)[w.heap.size]? = _; simp
  match j, h with
  | 0, h =>
    have e0 : (⟨w.heap.size, 0, Option.none⟩ : Addr).add 0 = ⟨w.heap.size, 0, Option.none⟩ := by simp [Addr.add]
    rw [e0]; simp only [World.cell?, e]; simpa using h
  | j + 1, h => simp at h
theorem newblkS {w W : World} {t : TypeId} (h : SH) (v1 v2 v3 v4 v : Value) (hW : (w.alloc (.cells zero19 t)).setCells w.heap.size 0 (scells h v1 v2 v3 v4 v) = W) : W.rangeAt w.heap.size 0 (scells h v1 v2 v3 v4 v) ∧ Below w.heap.size w W := newblk (arr := zero19) (Nat.le_refl 19) hW
abbrev zero4 : Array Value := #[.int .i64 0, .int .i64 0, .string ⟨#[]⟩, .slice Option.none 0 0]
theorem newthere4 (w : World) (t : TypeId) : (w.alloc (.cells zero4 t)).there w.heap.size 0 4 := blk_there (arr := zero4) (t := t) (by show (w.heap.push _)[w.heap.size]? = _; simp) (Nat.le_refl 4)
theorem newblk4 {w W : World} {t : TypeId} (x : X) (v : Value) (hW : (w.alloc (.cells zero4 t)).setCells w.heap.size 0 (xcells x v) = W) : W.rangeAt w.heap.size 0 (xcells x v) ∧ Below w.heap.size w W := newblk (arr := zero4) (Nat.le_refl 4) hW
/-- Blocks from lo up to hi may turn, and memory may grow; nothing else turns. -/
structure Gap (lo hi : Nat) (w w' : World) : Prop where
  os : w'.os = w.os
  tape : w'.tape = w.tape
  output : w'.output = w.output
  size : w.heap.size ≤ w'.heap.size
  block : ∀ k, k < w.heap.size → (k < lo ∨ hi ≤ k) → w'.heap[k]? = w.heap[k]?
theorem Gap.refl (lo hi : Nat) (w : World) : Gap lo hi w w := ⟨rfl, rfl, rfl, Nat.le_refl _, fun _ _ _ => rfl⟩
theorem Gap.trans {lo hi : Nat} {w w1 w2 : World} (h : Gap lo hi w w1) (g : Gap lo hi w1 w2) : Gap lo hi w w2 :=
  ⟨g.os.trans h.os, g.tape.trans h.tape, g.output.trans h.output, Nat.le_trans h.size g.size, fun k hk hc => (g.block k (Nat.lt_of_lt_of_le hk h.size) hc).trans (h.block k hk hc)⟩
theorem Gap.of (lo hi : Nat) {w w' : World} (h : Below w.heap.size w w') : Gap lo hi w w' := ⟨h.os, h.tape, h.output, h.size, fun k hk _ => h.block k hk⟩
theorem Gap.below {lo hi n : Nat} {w w' : World} (h : Gap lo hi w w') (hn : n ≤ lo) (hw : n ≤ w.heap.size) : Below n w w' := ⟨h.os, h.tape, h.output, h.size, fun k hk => h.block k (by omega) (.inl (by omega))⟩
theorem Gap.wider {lo hi lo' hi' : Nat} {w w' : World} (h : Gap lo hi w w') (h1 : lo' ≤ lo) (h2 : hi ≤ hi') : Gap lo' hi' w w' := ⟨h.os, h.tape, h.output, h.size, fun k hk hc => h.block k hk (by omega)⟩
theorem ownM {w w' : World} {lo hi B sz n : Nat} {e : TypeId} {v : Value} {xs : List Value} (h : w.ownsRow B e sz v n xs) (hb : Gap lo hi w w') (hB : hi ≤ B) : w'.ownsRow B e sz v n xs := by
  refine ⟨h.1, ?_⟩
  rcases h.2 with h0 | ⟨g, cap, cur, h1, h2, h3, h4⟩
  · exact .inl h0
  · exact .inr ⟨g, cap, cur, h1, h2, (hb.block g (lt_heap h3) (.inr (by omega))).trans h3, h4⟩
/-- What does not lie there need not be told apart. -/
def Quiet {α : Type} (lo hi : Nat) (J : List α → World → Prop) : Prop := ∀ vs w1 w2, J vs w1 → w1.heap.size ≤ w2.heap.size → (∀ k, lo ≤ k → k < hi → w2.heap[k]? = w1.heap[k]?) → J vs w2
theorem Quiet.below {α : Type} {lo hi : Nat} {J : List α → World → Prop} (q : Quiet lo hi J) {vs : List α} {w1 w2 : World} (h : J vs w1) (hh : hi ≤ w1.heap.size) (hb : Below w1.heap.size w1 w2) : J vs w2 := q vs w1 w2 h hb.size fun k _ hk => hb.block k (by omega)
/-- A statement and what stands under it. -/
abbrev SN := SH × SF
/-- All that stand in a row, and under them. -/
def sall : SF → List SN
  | .nil => []
  | .node _ _ h l r => (h, l) :: (sall l ++ sall r)
theorem sall_len : ∀ F : SF, (sall F).length = snodes F
  | .nil => rfl
  | .node _ _ h l r => by have := sall_len l; have := sall_len r; simp only [sall, snodes, List.length_cons, List.length_append]; omega
def tall : TdS → List SN
  | [] => []
  | p :: r => sall p.1 ++ tall r
theorem tall_app (a b : TdS) : tall (a ++ b) = tall a ++ tall b := by
  induction a with
  | nil => rfl
  | cons p a ih => simp only [List.cons_append, tall, ih, List.append_assoc]
/-- The state between two rounds. -/
structure VisS (w : World) (F : SF) (td : TdS) (vs : List SN) (m : Nat) : Prop where
  all : ∀ p ∈ td, SV w 0 p.1 p.2
  perm : (vs ++ tall td).Perm (sall F)
  len : td.length + (tall td).length = m
  big : m ≤ snodes F + 1
/-- Within a round: R is what of the row is still to be looked at. -/
structure VisR (w : World) (F : SF) (td : TdS) (vs : List SN) (m : Nat) (R G : SF) (k b o : Nat) : Prop where
  all : ∀ p ∈ td, SV w 0 p.1 p.2
  perm : (vs ++ (tall td ++ sall R)).Perm (sall F)
  len : td.length + (tall td).length + (sall R).length + 1 = m
  big : m ≤ snodes F + 1
  at_ : SIn w 0 R b (o + k * 19)
  num : k + slen R = slen G
theorem VisS.pop {w : World} {F : SF} {td : TdS} {vs : List SN} {m : Nat} {p : SF × Value} {b o : Nat} (h : VisS w F (td ++ [p]) vs m) (hin : SIn w 0 p.1 b o) : VisR w F td vs m p.1 p.1 0 b o := by
  have h1 := h.perm; have h2 := h.len; have h3 := h.big
  rw [tall_app] at h1 h2
  simp only [tall, List.length_append, List.length_cons, List.length_nil, List.append_nil] at h1 h2
  exact ⟨fun q hq => h.all q (List.mem_append_left _ hq), h1, by omega, h3, by simpa using hin, by omega⟩
theorem VisR.push {w : World} {F : SF} {td : TdS} {vs : List SN} {m p q : Nat} {hd : SH} {l r G : SF} {k b o : Nat} {u : Value} (h : VisR w F td vs m (.node p q hd l r) G k b o) (hu : SV w 0 l u) : VisR w F (td ++ [(l, u)]) (vs ++ [(hd, l)]) m r G (k + 1) b o := by
  have h1 := h.perm; have h2 := h.len; have h4 := h.num
  simp only [sall, slen, List.length_cons, List.length_append] at h1 h2 h4
  refine ⟨fun q hq => ?_, ?_, ?_, h.big, ?_, by omega⟩
  · rcases List.mem_append.1 hq with hq | hq
    · exact h.all q hq
    · simp only [List.mem_cons, List.not_mem_nil, or_false] at hq; subst hq; exact hu
  · refine List.Perm.trans ?_ h1
    rw [tall_app]
    simp only [tall, List.append_nil, List.append_assoc, List.singleton_append, List.cons_append, List.nil_append]
    exact (List.perm_middle.symm).append_left vs
  · rw [tall_app]; simp only [tall, List.length_append, List.length_cons, List.length_nil]; omega
  · rw [show o + (k + 1) * 19 = o + k * 19 + 19 by omega]; exact (SIn_node.1 h.at_).2
theorem VisR.done {w : World} {F : SF} {td : TdS} {vs : List SN} {m : Nat} {G : SF} {k b o : Nat} (h : VisR w F td vs m .nil G k b o) : VisS w F td vs (m - 1) := by
  have h1 := h.perm; have h2 := h.len; have h3 := h.big
  simp only [sall, List.length_nil, List.append_nil] at h1 h2
  exact ⟨h.all, h1, by omega, by omega⟩
theorem VisR.mem {w : World} {F : SF} {td : TdS} {vs : List SN} {m p q : Nat} {hd : SH} {l r G : SF} {k b o : Nat} (h : VisR w F td vs m (.node p q hd l r) G k b o) : (hd, l) ∈ sall F ∧ vs.length < snodes F := by
  have h1 := h.perm
  refine ⟨h1.subset (by simp [sall]), ?_⟩
  have := h1.length_eq
  rw [sall_len] at this
  simp only [sall, List.length_append, List.length_cons] at this
  omega
/-- What is handed to visitAll to do at each. -/
def DoesS (w0 : World) (n lo hi : Nat) (F : SF) (kf : Nat) (caps : Array Value) (J : List SN → World → Prop) : Prop :=
  ∀ (vs : List SN) (h : SH) (l : SF) (v1 v2 v3 v4 u : Value) (w1 : World), J vs w1 → Below w0.heap.size w0 w1 → n ≤ w1.heap.size → HV w0 0 h v1 v2 v3 v4 → SV w0 0 l u → (h, l) ∈ sall F → vs.length < snodes F →
    Calls Try.prog kf (#[sagg h v1 v2 v3 v4 u] ++ caps) w1 fun e w2 => e = .returned (.tuple #[]) ∧ J (vs ++ [(h, l)]) w2 ∧ Gap lo hi w1 w2
end Go.Proofs.Ytcafpaahbbachab
/-
  Rows of numbers, and rows of such rows: eqIntS, eqIntSS, markIntS, heldIntS, markIntSS, heldIntSS.
-/
namespace Go.Proofs.Ytcafpaahbbachab
open Go.RowKit Go.Lib
set_option linter.unusedSimpArgs false
set_option linter.unusedVariables false

def ints (xs : List Int) : List Value := xs.map (Value.int .i64)
theorem ints_len (xs : List Int) : (ints xs).length = xs.length := by simp [ints]
theorem ints_get {xs : List Int} {i : Nat} {t : Int} (h : xs[i]? = some t) : (ints xs)[i]? = some (.int .i64 t) := by simp [ints, h]
/-- A slice that holds these numbers, at lo or above. -/
def IV (w : World) (lo : Nat) (v : Value) (xs : List Int) : Prop :=
  ∃ ao cap, v = .slice ao xs.length cap ∧ (xs = [] ∨ ∃ g off, ao = some ⟨g, off, Option.none⟩ ∧ lo ≤ g ∧ g < w.heap.size ∧ ∀ i t, xs[i]? = some t → w.cell? ⟨g, off + i, Option.none⟩ = some (.int .i64 t))
theorem IV.same {w w' : World} {lo lo' : Nat} {v : Value} {xs : List Int} (hlo : lo' ≤ lo) (h : IV w lo v xs) (hk : Keeps lo w w') (hz : w.heap.size ≤ w'.heap.size) : IV w' lo' v xs := by
  obtain ⟨ao, cap, hv, h⟩ := h
  refine ⟨ao, cap, hv, ?_⟩
  rcases h with h | ⟨g, off, h1, h0, h2, h3⟩
  · exact .inl h
  · exact .inr ⟨g, off, h1, Nat.le_trans hlo h0, Nat.lt_of_lt_of_le h2 hz, fun i t hi => hk _ _ h0 (h3 i t hi)⟩
theorem IV.later {w w' : World} {lo : Nat} {v : Value} {xs : List Int} (h : IV w lo v xs) (hb : Below w.heap.size w w') : IV w' lo v xs := h.same (Nat.le_refl _) (Keeps.later hb) hb.size
theorem IV.lower {w : World} {lo lo' : Nat} {v : Value} {xs : List Int} (h : IV w lo v xs) (hl : lo' ≤ lo) : IV w lo' v xs := h.same hl (Keeps.refl _ _) (Nat.le_refl _)
theorem IV.low {w : World} {lo : Nat} {v : Value} {xs : List Int} (h : IV w lo v xs) : IV w 0 v xs := h.lower (Nat.zero_le _)
theorem IV.shape {w : World} {lo : Nat} {v : Value} {xs : List Int} (h : IV w lo v xs) : ∃ a c, v = .slice a xs.length c := by obtain ⟨a, c, h1, _⟩ := h; exact ⟨a, c, h1⟩
theorem IV.isOne {w : World} {lo : Nat} {v : Value} {xs : List Int} (h : IV w lo v xs) : v.oneCell' = true := by obtain ⟨a, c, rfl⟩ := h.shape; rfl
theorem IV.of {w : World} {B n : Nat} {e : TypeId} {v : Value} {xs : List Int} (hn : n = xs.length) (h : w.ownsRow B e 1 v n (ints xs)) : IV w B v xs := by
  subst hn
  rcases h.2 with ⟨h0, h1⟩ | ⟨g, cap, cur, h1, h2, h3, h4⟩
  · exact ⟨Option.none, 0, by rw [h1]; exact h0, .inl (List.length_eq_zero_iff.1 h1)⟩
  · refine ⟨_, cap, h1, .inr ⟨g, 0, rfl, h2, lt_heap h3, fun i t hi => ?_⟩⟩
    have hc := h.cells (g := g) (by rw [h1]; rfl) i (.int .i64 t) (ints_get hi)
    have e : (⟨g, 0, Option.none⟩ : Addr).add i = ⟨g, i, Option.none⟩ := by simp [Addr.add]; omega
    rw [e] at hc
    rw [Nat.zero_add]; exact hc
/-- A slice that holds slices that hold these numbers, at lo or above. -/
def IIV (w : World) (lo : Nat) (v : Value) (xss : List (List Int)) : Prop :=
  ∃ ao cap, v = .slice ao xss.length cap ∧ (xss = [] ∨ ∃ g off, ao = some ⟨g, off, Option.none⟩ ∧ lo ≤ g ∧ g < w.heap.size ∧ ∀ i xs, xss[i]? = some xs → ∃ u, w.cell? ⟨g, off + i, Option.none⟩ = some u ∧ IV w lo u xs)
theorem IIV.same {w w' : World} {lo lo' : Nat} {v : Value} {xss : List (List Int)} (hlo : lo' ≤ lo) (h : IIV w lo v xss) (hk : Keeps lo w w') (hz : w.heap.size ≤ w'.heap.size) : IIV w' lo' v xss := by
  obtain ⟨ao, cap, hv, h⟩ := h
  refine ⟨ao, cap, hv, ?_⟩
  rcases h with h | ⟨g, off, h1, h0, h2, h3⟩
  · exact .inl h
  · refine .inr ⟨g, off, h1, Nat.le_trans hlo h0, Nat.lt_of_lt_of_le h2 hz, fun i xs hi => ?_⟩
    obtain ⟨u, h4, h5⟩ := h3 i xs hi
    exact ⟨u, hk _ _ h0 h4, h5.same hlo hk hz⟩
theorem IIV.later {w w' : World} {lo : Nat} {v : Value} {xss : List (List Int)} (h : IIV w lo v xss) (hb : Below w.heap.size w w') : IIV w' lo v xss := h.same (Nat.le_refl _) (Keeps.later hb) hb.size
theorem IIV.lower {w : World} {lo lo' : Nat} {v : Value} {xss : List (List Int)} (h : IIV w lo v xss) (hl : lo' ≤ lo) : IIV w lo' v xss := h.same hl (Keeps.refl _ _) (Nat.le_refl _)
theorem IIV.low {w : World} {lo : Nat} {v : Value} {xss : List (List Int)} (h : IIV w lo v xss) : IIV w 0 v xss := h.lower (Nat.zero_le _)
theorem IIV.shape {w : World} {lo : Nat} {v : Value} {xss : List (List Int)} (h : IIV w lo v xss) : ∃ a c, v = .slice a xss.length c := by obtain ⟨a, c, h1, _⟩ := h; exact ⟨a, c, h1⟩
theorem IIV.isOne {w : World} {lo : Nat} {v : Value} {xss : List (List Int)} (h : IIV w lo v xss) : v.oneCell' = true := by obtain ⟨a, c, rfl⟩ := h.shape; rfl
theorem IIV.get {w : World} {lo : Nat} {v : Value} {xss : List (List Int)} (h : IIV w lo v xss) {k : Nat} {xs : List Int} (hk : xss[k]? = some xs) : ∃ g off c u, v = .slice (some ⟨g, off, Option.none⟩) xss.length c ∧ w.cell? ⟨g, off + k, Option.none⟩ = some u ∧ IV w lo u xs := by
  obtain ⟨ao, cap, rfl, h⟩ := h
  rcases h with h | ⟨g, off, rfl, h0, h2, h3⟩
  · subst h; simp at hk
  · obtain ⟨u, h4, h5⟩ := h3 k xs hk
    exact ⟨g, off, cap, u, rfl, h4, h5⟩
theorem IV.get {w : World} {lo : Nat} {v : Value} {xs : List Int} (h : IV w lo v xs) {k : Nat} {x : Int} (hk : xs[k]? = some x) : ∃ g off c, v = .slice (some ⟨g, off, Option.none⟩) xs.length c ∧ w.cell? ⟨g, off + k, Option.none⟩ = some (.int .i64 x) := by
  obtain ⟨ao, cap, rfl, h⟩ := h
  rcases h with h | ⟨g, off, rfl, h0, h2, h3⟩
  · subst h; simp at hk
  · exact ⟨g, off, cap, rfl, h3 k x hk⟩
theorem IIV.at {w : World} {lo n c : Nat} {a : Option Addr} {xss : List (List Int)} (h : IIV w lo (.slice a n c) xss) {k : Nat} {xs : List Int} (hk : xss[k]? = some xs) : ∃ g off u, a = some ⟨g, off, Option.none⟩ ∧ w.cell? ⟨g, off + k, Option.none⟩ = some u ∧ IV w lo u xs := by
  obtain ⟨g, off, c', u, e, h1, h2⟩ := h.get hk
  injection e with e
  exact ⟨g, off, u, e, h1, h2⟩
theorem IV.at {w : World} {lo n c : Nat} {a : Option Addr} {xs : List Int} (h : IV w lo (.slice a n c) xs) {k : Nat} {x : Int} (hk : xs[k]? = some x) : ∃ g off, a = some ⟨g, off, Option.none⟩ ∧ w.cell? ⟨g, off + k, Option.none⟩ = some (.int .i64 x) := by
  obtain ⟨g, off, c', e, h1⟩ := h.get hk
  injection e with e
  exact ⟨g, off, e, h1⟩
set_option maxHeartbeats 2000000 in
set_option maxRecDepth 100000 in
theorem eqIntS_same (xs : List Int) (hlen : xs.length ≤ 100000000) (va vb : Value) (w : World) (ha : IV w 0 va xs) (hb : IV w 0 vb xs) :
    Calls Try.prog 17 #[va, vb] w fun e w' => e = .returned (.bool true) ∧ Below w.heap.size w w' := by
  obtain ⟨ao, ca, rfl, ha⟩ := ha
  obtain ⟨bo, cb, rfl, hb⟩ := hb
  go_enter Try.func17, Try.ntmps17
  go_wp2
  go_loopw [5] (fun i wr => ∃ k : Nat, k ≤ xs.length ∧ i = .int .i64 k ∧ Below w.heap.size w wr) (fun i _ => xs.length - (RowKit.intOf i).toNat)
  case atStart => exact ⟨0, by omega, rfl, Below.refl _ _⟩
  case round =>
    obtain ⟨k, hk, rfl, hbw⟩ := hrel
    by_cases hlt : k < xs.length
    · obtain ⟨t, ht⟩ : ∃ t, xs[k]? = some t := ⟨xs[k], List.getElem?_eq_getElem hlt⟩
      rcases ha with ha | ⟨ga, oa, rfl, _, gla, hca⟩
      · subst ha; simp at hlt
      rcases hb with hb | ⟨gb, ob, rfl, _, glb, hcb⟩
      · subst hb; simp at hlt
      have A0 := (hbw.cell (p := ⟨ga, oa + k, Option.none⟩) gla).trans (hca k t ht)
      have B0 := (hbw.cell (p := ⟨gb, ob + k, Option.none⟩) glb).trans (hcb k t ht)
      have hltI : (k : Int) < (xs.length : Int) := by omega
      clear hca hcb ht
      go_wp2_with fail
      go_cut [25] from 11 to 25 (fun v wx => v = .bool false ∧ Below wr.heap.size wr wx)
      case first =>
        go_region_with fail
        all_goals (try go_wp2_with fail)
        all_goals go_meet
        all_goals exact ⟨by simp, (Below.refl _ wr).drew⟩
      case rest =>
        obtain ⟨rfl, hb1⟩ := hcut
        have hbw2 := hbw.trans (hb1.mono hbw.size)
        clear A0 B0 hb1
        go_wp2
        go_roundw
        case rel => exact ⟨k + 1, by omega, by go_num, hbw2⟩
        case measure => simp [RowKit.intOf]; omega
    · go_wp2
      go_ret
      exact ⟨rfl, hbw⟩
set_option maxHeartbeats 2000000 in
set_option maxRecDepth 100000 in
theorem eqIntSS_same (xss : List (List Int)) (hlen : xss.length ≤ 100000000) (hin : ∀ xs ∈ xss, xs.length ≤ 100000000) (va vb : Value) (w : World) (ha : IIV w 0 va xss) (hb : IIV w 0 vb xss) :
    Calls Try.prog 16 #[va, vb] w fun e w' => e = .returned (.bool true) ∧ Below w.heap.size w w' := by
  have HA := Lib.hid ha
  have HB := Lib.hid hb
  obtain ⟨ao, ca, rfl⟩ := ha.shape
  obtain ⟨bo, cb, rfl⟩ := hb.shape
  clear ha hb
  go_enter Try.func16, Try.ntmps16
  go_wp2
  go_loopw [5] (fun i wr => ∃ k : Nat, k ≤ xss.length ∧ i = .int .i64 k ∧ Below w.heap.size w wr) (fun i _ => xss.length - (RowKit.intOf i).toNat)
  case atStart => exact ⟨0, by omega, rfl, Below.refl _ _⟩
  case round =>
    obtain ⟨k, hk, rfl, hbw⟩ := hrel
    by_cases hlt : k < xss.length
    · obtain ⟨t, ht⟩ : ∃ t, xss[k]? = some t := ⟨xss[k], List.getElem?_eq_getElem hlt⟩
      have htl := hin t (List.mem_of_getElem? ht)
      obtain ⟨ga, oa, ua, rfl, hca, hua⟩ := (HA.out.later hbw).at ht
      obtain ⟨gb, ob, ub, rfl, hcb, hub⟩ := (HB.out.later hbw).at ht
      have hltI : (k : Int) < (xss.length : Int) := by omega
      have UA := Lib.hid hua
      have UB := Lib.hid hub
      obtain ⟨pa, qa, rfl⟩ := hua.shape
      obtain ⟨pb, qb, rfl⟩ := hub.shape
      clear ht hua hub
      go_wp2_with fail
      go_cut [26] from 11 to 26 (fun v wx => v = .bool false ∧ Below wr.heap.size wr wx)
      case first =>
        go_region_with (go_at_call 17; refine (eqIntS_same t htl _ _ _ (UA.out.later (Below.refl _ wr).drew) (UB.out.later (Below.refl _ wr).drew)).mono ?_; rintro e w1 ⟨rfl, hb1⟩)
        all_goals (try go_wp2_with fail)
        all_goals go_meet
        all_goals exact ⟨by simp, ⟨hb1.os, hb1.tape, hb1.output, hb1.size, hb1.block⟩⟩
      case rest =>
        obtain ⟨rfl, hb1⟩ := hcut
        have hbw2 := hbw.trans (hb1.mono hbw.size)
        clear hca hcb hb1 UA UB
        go_wp2
        go_roundw
        case rel => exact ⟨k + 1, by omega, by go_num, hbw2⟩
        case measure => simp [RowKit.intOf]; omega
    · go_wp2
      go_ret
      exact ⟨rfl, hbw⟩
/-- Marks from m on. -/
def imarks (m n : Nat) : List Int := (List.range n).map fun i => ((m + i : Nat) : Int)
theorem imarks_len (m n : Nat) : (imarks m n).length = n := by simp [imarks]
theorem imarks_get (m n k : Nat) (h : k < n) : (imarks m n)[k]? = some ((m + k : Nat) : Int) := by simp [imarks, h]
theorem imarks_succ (m n : Nat) : imarks m (n + 1) = imarks m n ++ [((m + n : Nat) : Int)] := by simp [imarks, List.range_succ]
theorem imarks_step (xs : List Int) (m k : Nat) (hk : k < xs.length) : (ints (imarks m k ++ xs.drop k)).set k (.int .i64 ((m + k : Nat) : Int)) = ints (imarks m (k + 1) ++ xs.drop (k + 1)) := by
  have hl := imarks_len m k
  rw [imarks_succ, ints, ints, List.drop_eq_getElem_cons hk, List.map_append, List.map_cons, List.set_append_right _ _ (by rw [List.length_map, hl]; exact Nat.le_refl _), List.length_map, hl, Nat.sub_self, List.set_cons_zero, List.map_append, List.map_append, List.append_assoc]
  rfl
theorem grownBy_refl (w : World) (r : Option Nat) : w.grownBy w r := ⟨rfl, rfl, rfl, Nat.le_refl _, fun _ _ _ => rfl⟩
theorem grownBy_trans {a b c : World} {r : Option Nat} (h : a.grownBy b r) (k : b.grownBy c r) : a.grownBy c r :=
  ⟨k.os.trans h.os, k.tape.trans h.tape, k.output.trans h.output, Nat.le_trans h.size k.size, fun i hi hne => (k.block i (Nat.lt_of_lt_of_le hi h.size) hne).trans (h.block i hi hne)⟩
theorem below_of_grown {B : Nat} {w w' : World} {r : Option Nat} (h : w.grownBy w' r) (hr : ∀ k, r = some k → B ≤ k) (hB : B ≤ w.heap.size) : Below B w w' := ⟨h.os, h.tape, h.output, h.size, fun k hk => h.block k (by omega) (fun e => by have := hr k e.symm; omega)⟩
theorem grownBy_set {w : World} {g : Nat} (p : Addr) (hp : p.block = g) (u : Value) : w.grownBy (w.setCell p u) (some g) := ⟨rfl, rfl, rfl, by simp [World.setCell], fun k _ hk => Below.heap_setCell _ _ _ _ (fun e => hk (by rw [e, hp]))⟩
theorem iown_put {w : World} {B n g cap j : Nat} {e : TypeId} {xs : List Value} (h : w.ownsRow B e 1 (.slice (some ⟨g, 0, Option.none⟩) n cap) n xs) (u : Value) : (w.setCell ⟨g, j, Option.none⟩ u).ownsRow B e 1 (.slice (some ⟨g, 0, Option.none⟩) n cap) n (xs.set j u) := by
  refine ⟨by rw [List.length_set]; exact h.1, ?_⟩
  rcases h.2 with ⟨h0, _⟩ | ⟨g', cap', cur, h1, h2, h3, h4, h5, h6, h7⟩
  · cases h0
  · injection h1 with e1 e2 e3
    injection e1 with e1
    injection e1 with e1
    subst e1; subst e3
    refine .inr ⟨g, cap, cur.setIfInBounds j u, rfl, h2, ?_, h4, h5, by simpa using h6, by rw [Array.toList_setIfInBounds, List.take_set, h7]⟩
    exact Go.heap_setCell_same w g j cur e u h3
theorem iown_cell {w : World} {B n g cap : Nat} {e : TypeId} {xs : List Value} (h : w.ownsRow B e 1 (.slice (some ⟨g, 0, Option.none⟩) n cap) n xs) {j : Nat} {u : Value} (hu : xs[j]? = some u) : w.cell? ⟨g, j, Option.none⟩ = some u ∧ w.frozen? ⟨g, j, Option.none⟩ = false := by
  refine ⟨own_cell h hu, ?_⟩
  rcases h.2 with ⟨h0, _⟩ | ⟨g', cap', cur, h1, h2, h3, _⟩
  · cases h0
  · injection h1 with e1 e2 e3
    injection e1 with e1
    injection e1 with e1
    subst e1
    simp [World.frozen?, h3]
theorem iownShape {w : World} {B sz n : Nat} {e : TypeId} {v : Value} {xs : List Value} (h : w.ownsRow B e sz v n xs) : ∃ a c, v = .slice a n c := by
  rcases h.2 with ⟨h1, h0⟩ | ⟨g, cap, cur, h1, _⟩
  · exact ⟨_, _, by rw [h0]; exact h1⟩
  · exact ⟨_, _, h1⟩
end Go.Proofs.Ytcafpaahbbachab
/-
  Rows of numbers that the call owns, each apart from the others: markIntSS, heldIntSS.
-/
namespace Go.Proofs.Ytcafpaahbbachab
open Go.RowKit Go.Lib
set_option linter.unusedSimpArgs false
set_option linter.unusedVariables false

/-- A slice and what it holds. -/
abbrev VR := Value × List Int
def apartV (a b : VR) : Prop := ∀ k, a.1.ownBlock = some k → b.1.ownBlock ≠ some k
/-- These rows are owned, no two lie in one block. -/
structure Owns (w : World) (B : Nat) (rs : List VR) : Prop where
  own : ∀ r ∈ rs, w.ownsRow B 3 1 r.1 r.2.length (ints r.2)
  apart : rs.Pairwise apartV
theorem ownG {w w' : World} {B sz n : Nat} {e : TypeId} {v : Value} {xs : List Value} {r : Option Nat} (h : w.ownsRow B e sz v n xs) (hg : w.grownBy w' r) (hne : ∀ k, v.ownBlock = some k → r ≠ some k) : w'.ownsRow B e sz v n xs := by
  refine ⟨h.1, ?_⟩
  rcases h.2 with h0 | ⟨g, cap, cur, h1, h2, h3, h4⟩
  · exact .inl h0
  · exact .inr ⟨g, cap, cur, h1, h2, (hg.block g (lt_heap h3) (fun e => hne g (by rw [h1]; rfl) e.symm)).trans h3, h4⟩
/-- All but these rows' blocks stay. -/
structure OnlyR (rs : List VR) (w w' : World) : Prop where
  os : w'.os = w.os
  tape : w'.tape = w.tape
  output : w'.output = w.output
  size : w.heap.size ≤ w'.heap.size
  block : ∀ k, k < w.heap.size → (∀ r ∈ rs, r.1.ownBlock ≠ some k) → w'.heap[k]? = w.heap[k]?
theorem OnlyR.refl (rs : List VR) (w : World) : OnlyR rs w w := ⟨rfl, rfl, rfl, Nat.le_refl _, fun _ _ _ => rfl⟩
theorem OnlyR.trans {rs : List VR} {a b c : World} (h : OnlyR rs a b) (k : OnlyR rs b c) : OnlyR rs a c :=
  ⟨k.os.trans h.os, k.tape.trans h.tape, k.output.trans h.output, Nat.le_trans h.size k.size, fun i hi hne => (k.block i (Nat.lt_of_lt_of_le hi h.size) hne).trans (h.block i hi hne)⟩
theorem OnlyR.more {rs rs' : List VR} {a b : World} (h : OnlyR rs a b) (hs : ∀ r ∈ rs, r ∈ rs') : OnlyR rs' a b := ⟨h.os, h.tape, h.output, h.size, fun k hk hne => h.block k hk fun r hr => hne r (hs r hr)⟩
theorem OnlyR.of {w w' : World} {r : VR} (hg : w.grownBy w' r.1.ownBlock) : OnlyR [r] w w' := ⟨hg.os, hg.tape, hg.output, hg.size, fun k hk hne => hg.block k hk (fun e => hne r (by simp) e.symm)⟩
theorem OnlyR.below {rs : List VR} {w w' : World} {B : Nat} (h : OnlyR rs w w') (hB : B ≤ w.heap.size) (hr : ∀ r ∈ rs, ∀ k, r.1.ownBlock = some k → B ≤ k) : Below B w w' :=
  ⟨h.os, h.tape, h.output, h.size, fun k hk => h.block k (by omega) fun r hm e => by have := hr r hm k e; omega⟩
theorem Owns.ge {w : World} {B : Nat} {rs : List VR} (h : Owns w B rs) : ∀ r ∈ rs, ∀ k, r.1.ownBlock = some k → B ≤ k := fun r hr k hk => ((h.own r hr).lt k hk).1
theorem Owns.later {w w' : World} {B : Nat} {rs : List VR} (h : Owns w B rs) (hb : Below w.heap.size w w') : Owns w' B rs := ⟨fun r hr => ownB (h.own r hr) hb, h.apart⟩
theorem Owns.nil (w : World) (B : Nat) : Owns w B [] := ⟨fun r h => by simp at h, List.Pairwise.nil⟩
/-- A row of another kind of values stays. -/
theorem OnlyR.outer {w w' : World} {B C sz n : Nat} {e : TypeId} {v : Value} {xs : List Value} {rs : List VR} (h : w.ownsRow B e sz v n xs) (he : e ≠ 3) (ho : Owns w C rs) (hg : OnlyR rs w w') : w'.ownsRow B e sz v n xs := by
  refine ⟨h.1, ?_⟩
  rcases h.2 with h0 | ⟨g, cap, cur, h1, h2, h3, h4⟩
  · exact .inl h0
  · refine .inr ⟨g, cap, cur, h1, h2, (hg.block g (lt_heap h3) (fun r hr ek => ?_)).trans h3, h4⟩
    rcases (ho.own r hr).2 with ⟨e0, _⟩ | ⟨g', cap', cur', e1, e2, e3, e4⟩
    · rw [e0] at ek; cases ek
    · rw [e1] at ek
      injection ek with ek
      rw [show g' = g from ek] at e3
      rw [h3] at e3
      injection e3 with e3
      injection e3 with _ e3 _
      exact he e3
theorem apart_same {P Q : List VR} {r r' : VR} (h : (P ++ r :: Q).Pairwise apartV) (e : r'.1 = r.1) : (P ++ r' :: Q).Pairwise apartV := by
  have e1 : ∀ a, apartV r' a ↔ apartV r a := fun a => by unfold apartV; rw [e]
  have e2 : ∀ a, apartV a r' ↔ apartV a r := fun a => by unfold apartV; rw [e]
  rw [List.pairwise_append] at h ⊢
  refine ⟨h.1, ?_, fun a ha b hb => ?_⟩
  · rw [List.pairwise_cons] at h ⊢
    exact ⟨fun b hb => (e1 b).2 (h.2.1.1 b hb), h.2.1.2⟩
  · rcases List.mem_cons.1 hb with rfl | hb
    · exact (e2 a).2 (h.2.2 a ha r (by simp))
    · exact h.2.2 a ha b (List.mem_cons_of_mem _ hb)
theorem Owns.put {w w' : World} {B : Nat} {P Q : List VR} {r r' : VR} (h : Owns w B (P ++ r :: Q)) (e : r'.1 = r.1) (hg : w.grownBy w' r.1.ownBlock) (hn : w'.ownsRow B 3 1 r'.1 r'.2.length (ints r'.2)) : Owns w' B (P ++ r' :: Q) := by
  refine ⟨fun q hq => ?_, apart_same h.apart e⟩
  have hp := h.apart
  rw [List.pairwise_append, List.pairwise_cons] at hp
  rcases List.mem_append.1 hq with hq | hq
  · exact ownG (h.own q (List.mem_append_left _ hq)) hg (fun k hk ek => hp.2.2 q hq r (by simp) k hk ek)
  · rcases List.mem_cons.1 hq with rfl | hq
    · exact hn
    · exact ownG (h.own q (List.mem_append_right _ (List.mem_cons_of_mem _ hq))) hg (fun k hk ek => hp.2.1.1 q hq k ek hk)
/-- The rows with marks in them. -/
def mkRows : Nat → List VR → List VR
  | _, [] => []
  | m, r :: rs => (r.1, imarks m r.2.length) :: mkRows (m + r.2.length) rs
/-- How many numbers there are. -/
def tot : List VR → Nat
  | [] => 0
  | r :: rs => r.2.length + tot rs
theorem tot_app (a b : List VR) : tot (a ++ b) = tot a + tot b := by
  induction a with
  | nil => simp [tot]
  | cons x xs ih => simp only [List.cons_append, tot, ih]; omega
theorem mkRows_app (a b : List VR) (m : Nat) : mkRows m (a ++ b) = mkRows m a ++ mkRows (m + tot a) b := by
  induction a generalizing m with
  | nil => simp [mkRows, tot]
  | cons x xs ih => simp only [List.cons_append, mkRows, ih, tot, Nat.add_assoc]
theorem mkRows_fst (rs : List VR) (m : Nat) : (mkRows m rs).map (·.1) = rs.map (·.1) := by
  induction rs generalizing m with
  | nil => rfl
  | cons x xs ih => simp [mkRows, ih]
theorem mkRows_len (rs : List VR) (m : Nat) : (mkRows m rs).length = rs.length := by
  have := congrArg List.length (mkRows_fst rs m); simpa using this
/-- How many numbers rows have. -/
def totA : List (List Int) → Nat
  | [] => 0
  | xs :: A => xs.length + totA A
theorem tot_totA (rs : List VR) : tot rs = totA (rs.map (·.2)) := by
  induction rs with
  | nil => rfl
  | cons r rs ih => simp only [tot, List.map_cons, totA, ih]
theorem take_step {rs : List VR} {k : Nat} {r : VR} (h : rs[k]? = some r) : rs.take (k + 1) = rs.take k ++ [r] := by
  obtain ⟨hk, e⟩ := List.getElem?_eq_some_iff.1 h
  rw [List.take_add_one, h]; rfl
theorem drop_step {rs : List VR} {k : Nat} {r : VR} (h : rs[k]? = some r) : rs.drop k = r :: rs.drop (k + 1) := by
  obtain ⟨hk, e⟩ := List.getElem?_eq_some_iff.1 h
  rw [List.drop_eq_getElem_cons hk, e]
theorem Owns.row {w : World} {B : Nat} {rs : List VR} (h : Owns w B rs) {r : VR} (hr : r ∈ rs) : IV w B r.1 r.2 := IV.of rfl (h.own r hr)
/-- The rows as a slice of slices. -/
theorem iivOf {w : World} {B C : Nat} {e : TypeId} {rs : List VR} {v : Value} (hout : w.ownsRow C e 1 v rs.length (rs.map (·.1))) (h : ∀ r ∈ rs, IV w B r.1 r.2) : IIV w 0 v (rs.map (·.2)) := by
  rcases hout.2 with ⟨h0, h1⟩ | ⟨g, cap, cur, h1, h2, h3, h4⟩
  · exact ⟨Option.none, 0, by rw [List.length_map, h1]; exact h0, .inl (by rw [List.length_eq_zero_iff.1 h1]; rfl)⟩
  · refine ⟨_, cap, by rw [List.length_map]; exact h1, .inr ⟨g, 0, rfl, Nat.zero_le _, lt_heap h3, fun i xs hi => ?_⟩⟩
    rw [List.getElem?_map] at hi
    cases hr : rs[i]? with
    | none => rw [hr] at hi; simp at hi
    | some r =>
      rw [hr] at hi
      simp at hi
      subst hi
      subst h1
      have := own_cell hout (j := i) (u := r.1) (by rw [List.getElem?_map, hr]; rfl)
      exact ⟨r.1, by rw [Nat.zero_add]; exact this, (h r (List.mem_of_getElem? hr)).low⟩
end Go.Proofs.Ytcafpaahbbachab
