/-
  The contract of the landed code's visitAll over statements: whatever it is handed to do at each of them.
-/
import Derived.Test.YtjdpddcnogdekabAstUnder
import Derived.Deep.LoopGhost
namespace Go.Proofs.Ytjdpddcnogdekab
open Go.RowKit Go.Lib
set_option linter.unusedSimpArgs false
set_option linter.unusedVariables false

theorem lt_heap {w : World} {g : Nat} {o : Obj} (h : w.heap[g]? = some o) : g < w.heap.size := (Array.getElem?_eq_some_iff.1 h).1
theorem ownB {w w' : World} {B sz n : Nat} {e : TypeId} {v : Value} {xs : List Value} (h : w.ownsRow B e sz v n xs) (hb : Below w.heap.size w w') : w'.ownsRow B e sz v n xs := by
  refine ⟨h.1, ?_⟩
  rcases h.2 with h0 | ⟨g, cap, cur, h1, h2, h3, h4⟩
  · exact .inl h0
  · exact .inr ⟨g, cap, cur, h1, h2, (hb.block g (lt_heap h3)).trans h3, h4⟩
theorem ownSets {w : World} {B sz n N : Nat} {e : TypeId} {v : Value} {xs : List Value} (h : w.ownsRow B e sz v n xs) (hN : ∀ o, w.heap[N]? = some o → ∀ g, v.ownBlock = some g → N ≠ g) (o : Nat) (vs : List Value) (hn : N < w.heap.size) : (w.setCells N o vs).ownsRow B e sz v n xs := by
  refine ⟨h.1, ?_⟩
  rcases h.2 with h0 | ⟨g, cap, cur, h1, h2, h3, h4⟩
  · exact .inl h0
  · refine .inr ⟨g, cap, cur, h1, h2, ?_, h4⟩
    have hne : N ≠ g := hN _ (Array.getElem?_eq_getElem hn) g (by rw [h1]; rfl)
    have : ∀ (vs : List Value) (o : Nat) (w : World), (w.setCells N o vs).heap[g]? = w.heap[g]? := by
      intro vs
      induction vs with
      | nil => intro o w; rfl
      | cons x xs ih => intro o w; rw [World.setCells, ih, Below.heap_setCell _ _ _ _ (fun e => hne e.symm)]
    rw [this]; exact h3
/-- A row with something in it. -/
theorem own_some {w : World} {B sz n : Nat} {e : TypeId} {v : Value} {xs : List Value} (h : w.ownsRow B e sz v (n + 1) xs) : ∃ g cap, v = .slice (some ⟨g, 0, Option.none⟩) (n + 1) cap ∧ n + 1 ≤ cap ∧ cap ≤ maxLen ∧ B ≤ g ∧ g < w.heap.size := by
  rcases h.2 with ⟨_, h0⟩ | ⟨g, cap, cur, h1, h2, h3, h4, h5, _⟩
  · cases h0
  · exact ⟨g, cap, h1, h4, h5, h2, lt_heap h3⟩
theorem own_none {w : World} {B sz : Nat} {e : TypeId} {v : Value} {xs : List Value} (h : w.ownsRow B e sz v 0 xs) : ∃ a cap, v = .slice a 0 cap := by
  rcases h.2 with ⟨h1, h0⟩ | ⟨g, cap, cur, h1, _⟩
  · exact ⟨_, _, h1⟩
  · exact ⟨_, _, h1⟩
/-- The last one is let go. -/
theorem own_pop {w : World} {B sz n g cap : Nat} {e : TypeId} {xs ys : List Value} (h : w.ownsRow B e sz (.slice (some ⟨g, 0, Option.none⟩) (n + 1) cap) (n + 1) (xs ++ ys)) (hx : xs.length = n * sz) : w.ownsRow B e sz (.slice (some ⟨g, 0, Option.none⟩) n cap) n xs := by
  refine ⟨hx, ?_⟩
  rcases h.2 with ⟨h0, _⟩ | ⟨g', cap', cur, h1, h2, h3, h4, h5, h6, h7⟩
  · cases h0
  · injection h1 with e1 e2 e3
    subst e3
    refine .inr ⟨g, cap, cur, rfl, ?_, ?_, by omega, h5, h6, ?_⟩
    · injection e1 with e1; injection e1 with e1; subst e1; exact h2
    · injection e1 with e1; injection e1 with e1; subst e1; exact h3
    · have := congrArg (List.take (n * sz)) h7
      rw [List.take_take, Nat.min_eq_left (Nat.mul_le_mul_right sz (Nat.le_succ n)), List.take_append_of_le_length (by omega)] at this
      rw [this, List.take_of_length_le (by omega)]
/-- A cell of a row that the call owns. -/
theorem own_cell {w : World} {B sz n g cap : Nat} {e : TypeId} {xs : List Value} (h : w.ownsRow B e sz (.slice (some ⟨g, 0, Option.none⟩) n cap) n xs) {j : Nat} {u : Value} (hu : xs[j]? = some u) : w.cell? ⟨g, j, Option.none⟩ = some u := by
  have hc := h.cells (g := g) rfl j u hu
  have e1 : (⟨g, 0, Option.none⟩ : Addr).add j = ⟨g, j, Option.none⟩ := by simp [Addr.add]; omega
  rwa [e1] at hc
/-- What is left to do: rows of statements, each in its slice. -/
abbrev TdS := List (SF × Value)
/-- A new block that is stored into at once. -/
theorem newblk {w W : World} {arr : Array Value} {t : TypeId} {vs : List Value} (hn : vs.length ≤ arr.size) (hW : (w.alloc (.cells arr t)).setCells w.heap.size 0 vs = W) : W.rangeAt w.heap.size 0 vs ∧ Below w.heap.size w W := by
  have e : (w.alloc (.cells arr t)).heap[w.heap.size]? = some (.cells arr t (0, 0)) := by show (w.heap.push _)[w.heap.size]? = _; simp
  subst hW
  exact ⟨World.rangeAt_setCells_same _ _ _ _ (blk_there e hn), below_sets _ _ (alloc_below _ _) (Nat.le_refl _)⟩
theorem newthere (w : World) (t : TypeId) : (w.alloc (.cells zero19 t)).there w.heap.size 0 19 := blk_there (arr := zero19) (t := t) (by show (w.heap.push _)[w.heap.size]? = _; simp) (Nat.le_refl 19)
theorem new1 (w : World) (u : Value) (t : TypeId) : ∀ j x, [u][j]? = some x → (w.alloc (.cells #[u] t)).cell? ((⟨w.heap.size, 0, Option.none⟩ : Addr).add j) = some x := by
  intro j x h
  have e : (w.alloc (.cells #[u] t)).heap[w.heap.size]? = some (.cells #[u] t (0, 0)) := by show (w.heap.push _)[w.heap.size]? = _; simp
  match j, h with
  | 0, h =>
    have e0 : (⟨w.heap.size, 0, Option.none⟩ : Addr).add 0 = ⟨w.heap.size, 0, Option.none⟩ := by simp [Addr.add]
    rw [e0]; simp only [World.cell?, e]; simpa using h
  | j + 1, h => simp at h
theorem newblkS {w W : World} {t : TypeId} (h : SH) (v1 v2 v3 v4 v : Value) (hW : (w.alloc (.cells zero19 t)).setCells w.heap.size 0 (scells h v1 v2 v3 v4 v) = W) : W.rangeAt w.heap.size 0 (scells h v1 v2 v3 v4 v) ∧ Below w.heap.size w W := newblk (arr := zero19) (Nat.le_refl 19) hW
abbrev zero4 : Array Value := #[.int .i64 0, .int .i64 0, .string ⟨#[]⟩, .slice Option.none 0 0]
theorem newthere4 (w : World) (t : TypeId) : (w.alloc (.cells zero4 t)).there w.heap.size 0 4 := blk_there (arr := zero4) (t := t) (by show (w.heap.push _)[w.heap.size]? = _; simp) (Nat.le_refl 4)
theorem newblk4 {w W : World} {t : TypeId} (x : X) (v : Value) (hW : (w.alloc (.cells zero4 t)).setCells w.heap.size 0 (xcells x v) = W) : W.rangeAt w.heap.size 0 (xcells x v) ∧ Below w.heap.size w W := newblk (arr := zero4) (Nat.le_refl 4) hW
/-- Blocks from lo up to hi may turn, and memory may grow; nothing else turns. -/
structure Gap (lo hi : Nat) (w w' : World) : Prop where
  os : w'.os = w.os
  tape : w'.tape = w.tape
  output : w'.output = w.output
  size : w.heap.size ≤ w'.heap.size
  block : ∀ k, k < w.heap.size → (k < lo ∨ hi ≤ k) → w'.heap[k]? = w.heap[k]?
theorem Gap.refl (lo hi : Nat) (w : World) : Gap lo hi w w := ⟨rfl, rfl, rfl, Nat.le_refl _, fun _ _ _ => rfl⟩
theorem Gap.trans {lo hi : Nat} {w w1 w2 : World} (h : Gap lo hi w w1) (g : Gap lo hi w1 w2) : Gap lo hi w w2 :=
  ⟨g.os.trans h.os, g.tape.trans h.tape, g.output.trans h.output, Nat.le_trans h.size g.size, fun k hk hc => (g.block k (Nat.lt_of_lt_of_le hk h.size) hc).trans (h.block k hk hc)⟩
theorem Gap.of (lo hi : Nat) {w w' : World} (h : Below w.heap.size w w') : Gap lo hi w w' := ⟨h.os, h.tape, h.output, h.size, fun k hk _ => h.block k hk⟩
theorem Gap.below {lo hi n : Nat} {w w' : World} (h : Gap lo hi w w') (hn : n ≤ lo) (hw : n ≤ w.heap.size) : Below n w w' := ⟨h.os, h.tape, h.output, h.size, fun k hk => h.block k (by omega) (.inl (by omega))⟩
theorem Gap.wider {lo hi lo' hi' : Nat} {w w' : World} (h : Gap lo hi w w') (h1 : lo' ≤ lo) (h2 : hi ≤ hi') : Gap lo' hi' w w' := ⟨h.os, h.tape, h.output, h.size, fun k hk hc => h.block k hk (by omega)⟩
theorem ownM {w w' : World} {lo hi B sz n : Nat} {e : TypeId} {v : Value} {xs : List Value} (h : w.ownsRow B e sz v n xs) (hb : Gap lo hi w w') (hB : hi ≤ B) : w'.ownsRow B e sz v n xs := by
  refine ⟨h.1, ?_⟩
  rcases h.2 with h0 | ⟨g, cap, cur, h1, h2, h3, h4⟩
  · exact .inl h0
  · exact .inr ⟨g, cap, cur, h1, h2, (hb.block g (lt_heap h3) (.inr (by omega))).trans h3, h4⟩
/-- What does not lie there need not be told apart. -/
def Quiet {α : Type} (lo hi : Nat) (J : List α → World → Prop) : Prop := ∀ vs w1 w2, J vs w1 → w1.heap.size ≤ w2.heap.size → (∀ k, lo ≤ k → k < hi → w2.heap[k]? = w1.heap[k]?) → J vs w2
theorem Quiet.below {α : Type} {lo hi : Nat} {J : List α → World → Prop} (q : Quiet lo hi J) {vs : List α} {w1 w2 : World} (h : J vs w1) (hh : hi ≤ w1.heap.size) (hb : Below w1.heap.size w1 w2) : J vs w2 := q vs w1 w2 h hb.size fun k _ hk => hb.block k (by omega)
/-- A statement and what stands under it. -/
abbrev SN := SH × SF
/-- All that stand in a row, and under them. -/
def sall : SF → List SN
  | .nil => []
  | .node _ _ h l r => (h, l) :: (sall l ++ sall r)
theorem sall_len : ∀ F : SF, (sall F).length = snodes F
  | .nil => rfl
  | .node _ _ h l r => by have := sall_len l; have := sall_len r; simp only [sall, snodes, List.length_cons, List.length_append]; omega
def tall : TdS → List SN
  | [] => []
  | p :: r => sall p.1 ++ tall r
theorem tall_app (a b : TdS) : tall (a ++ b) = tall a ++ tall b := by
  induction a with
  | nil => rfl
  | cons p a ih => simp only [List.cons_append, tall, ih, List.append_assoc]
/-- The state between two rounds. -/
structure VisS (w : World) (F : SF) (td : TdS) (vs : List SN) (m : Nat) : Prop where
  all : ∀ p ∈ td, SV w 0 p.1 p.2
  perm : (vs ++ tall td).Perm (sall F)
  len : td.length + (tall td).length = m
  big : m ≤ snodes F + 1
/-- Within a round: R is what of the row is still to be looked at. -/
structure VisR (w : World) (F : SF) (td : TdS) (vs : List SN) (m : Nat) (R G : SF) (k b o : Nat) : Prop where
  all : ∀ p ∈ td, SV w 0 p.1 p.2
  perm : (vs ++ (tall td ++ sall R)).Perm (sall F)
  len : td.length + (tall td).length + (sall R).length + 1 = m
  big : m ≤ snodes F + 1
  at_ : SIn w 0 R b (o + k * 19)
  num : k + slen R = slen G
theorem VisS.pop {w : World} {F : SF} {td : TdS} {vs : List SN} {m : Nat} {p : SF × Value} {b o : Nat} (h : VisS w F (td ++ [p]) vs m) (hin : SIn w 0 p.1 b o) : VisR w F td vs m p.1 p.1 0 b o := by
  have h1 := h.perm; have h2 := h.len; have h3 := h.big
  rw [tall_app] at h1 h2
  simp only [tall, List.length_append, List.length_cons, List.length_nil, List.append_nil] at h1 h2
  exact ⟨fun q hq => h.all q (List.mem_append_left _ hq), h1, by omega, h3, by simpa using hin, by omega⟩
theorem VisR.push {w : World} {F : SF} {td : TdS} {vs : List SN} {m p q : Nat} {hd : SH} {l r G : SF} {k b o : Nat} {u : Value} (h : VisR w F td vs m (.node p q hd l r) G k b o) (hu : SV w 0 l u) : VisR w F (td ++ [(l, u)]) (vs ++ [(hd, l)]) m r G (k + 1) b o := by
  have h1 := h.perm; have h2 := h.len; have h4 := h.num
  simp only [sall, slen, List.length_cons, List.length_append] at h1 h2 h4
  refine ⟨fun q hq => ?_, ?_, ?_, h.big, ?_, by omega⟩
  · rcases List.mem_append.1 hq with hq | hq
    · exact h.all q hq
    · simp only [List.mem_cons, List.not_mem_nil, or_false] at hq; subst hq; exact hu
  · refine List.Perm.trans ?_ h1
    rw [tall_app]
    simp only [tall, List.append_nil, List.append_assoc, List.singleton_append, List.cons_append, List.nil_append]
    exact (List.perm_middle.symm).append_left vs
  · rw [tall_app]; simp only [tall, List.length_append, List.length_cons, List.length_nil]; omega
  · rw [show o + (k + 1) * 19 = o + k * 19 + 19 by omega]; exact (SIn_node.1 h.at_).2
theorem VisR.done {w : World} {F : SF} {td : TdS} {vs : List SN} {m : Nat} {G : SF} {k b o : Nat} (h : VisR w F td vs m .nil G k b o) : VisS w F td vs (m - 1) := by
  have h1 := h.perm; have h2 := h.len; have h3 := h.big
  simp only [sall, List.length_nil, List.append_nil] at h1 h2
  exact ⟨h.all, h1, by omega, by omega⟩
theorem VisR.mem {w : World} {F : SF} {td : TdS} {vs : List SN} {m p q : Nat} {hd : SH} {l r G : SF} {k b o : Nat} (h : VisR w F td vs m (.node p q hd l r) G k b o) : (hd, l) ∈ sall F ∧ vs.length < snodes F := by
  have h1 := h.perm
  refine ⟨h1.subset (by simp [sall]), ?_⟩
  have := h1.length_eq
  rw [sall_len] at this
  simp only [sall, List.length_append, List.length_cons] at this
  omega
/-- What is handed to visitAll to do at each. -/
def DoesS (w0 : World) (n lo hi : Nat) (F : SF) (kf : Nat) (caps : Array Value) (J : List SN → World → Prop) : Prop :=
  ∀ (vs : List SN) (h : SH) (l : SF) (v1 v2 v3 v4 u : Value) (w1 : World), J vs w1 → Below w0.heap.size w0 w1 → n ≤ w1.heap.size → HV w0 0 h v1 v2 v3 v4 → SV w0 0 l u → (h, l) ∈ sall F → vs.length < snodes F →
    Calls Try.prog kf (#[sagg h v1 v2 v3 v4 u] ++ caps) w1 fun e w2 => e = .returned (.tuple #[]) ∧ J (vs ++ [(h, l)]) w2 ∧ Gap lo hi w1 w2
end Go.Proofs.Ytjdpddcnogdekab
