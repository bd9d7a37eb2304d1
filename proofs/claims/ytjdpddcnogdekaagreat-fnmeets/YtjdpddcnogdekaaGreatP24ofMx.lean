/-
  Texts in one: AffSumP, AstVis.
-/
import Derived.Test.YtjdpddcnogdekaaGreatP14ofMx
import Derived.Test.YtjdpddcnogdekaaGreatP05ofMx
import Derived.Deep.LoopGhost
/-
  Sums of straight sums, plainly: two lists gone through side by side, and name by name.
-/
namespace Go.Proofs.YtjdpddcnogdekaaGreat
open Go.RowKit Go.Lib
set_option linter.unusedSimpArgs false
set_option linter.unusedVariables false

def negT8 (t : AR) : AR := ⟨t.s, IntKind.i64.wrap (-t.n)⟩
/-- The terms of the second list taken from those of the first one, side by side. -/
def less8 : Nat → List AR → List AR → List AR
  | _, l, [] => l
  | _, [], m => m.map negT8
  | 0, _, _ => []
  | f + 1, t :: l, u :: m => if t.s = u.s ∧ t.n = u.n then less8 f l m else if t.s = u.s then ⟨t.s, IntKind.i64.wrap (t.n - u.n)⟩ :: less8 f l m else if blt t.s u.s = true then t :: less8 f l (u :: m) else negT8 u :: less8 f (t :: l) m
/-- Ascending by name. -/
def Asc8 (l : List AR) : Prop := l.Pairwise fun a b => blt a.s b.s = true
def Bd8 (l : List AR) : Prop := ∀ t ∈ l, -100000 ≤ t.n ∧ t.n ≤ 100000
def Nz8 (l : List AR) : Prop := ∀ t ∈ l, t.n ≠ 0
theorem wrap8 {n : Int} (h1 : -1000000 ≤ n) (h2 : n ≤ 1000000) : IntKind.i64.wrap n = n := by rw [IntKind.wrap_i64]; omega
theorem coefA_cons8 (t : AR) (l : List AR) (s : ByteArray) : coefA (t :: l) s = if t.s = s then t.n else coefA l s := rfl
theorem coefA_off8 (s : ByteArray) : ∀ (l : List AR), (∀ t ∈ l, t.s ≠ s) → coefA l s = 0
  | [], _ => rfl
  | t :: l, h => by rw [coefA, if_neg (h t (by simp)), coefA_off8 s l (fun u hu => h u (by simp [hu]))]
theorem blt_ne8 {a b : ByteArray} (h : blt a b = true) : b ≠ a := fun e => by subst e; rw [blt_irrefl] at h; cases h
theorem coefA_high8 {s : ByteArray} {l : List AR} (h : ∀ t ∈ l, blt s t.s = true) : coefA l s = 0 := coefA_off8 s l (fun t ht => blt_ne8 (h t ht))
/-- Two ascending lists without noughts that say the same of each name are the same. -/
theorem ext8 : ∀ (l m : List AR), Asc8 l → Asc8 m → Nz8 l → Nz8 m → (∀ s, coefA l s = coefA m s) → l = m
  | [], [], _, _, _, _, _ => rfl
  | [], u :: m, _, _, _, hm, h => by
    have := h u.s
    rw [coefA, coefA, if_pos rfl] at this
    exact absurd this.symm (hm u (by simp))
  | t :: l, [], _, _, hl, _, h => by
    have := h t.s
    rw [coefA_cons8, if_pos rfl] at this
    exact absurd this (hl t (by simp))
  | t :: l, u :: m, al, am, hl, hm, h => by
    have al' := List.pairwise_cons.1 al
    have am' := List.pairwise_cons.1 am
    by_cases e : t.s = u.s
    · have hn : t.n = u.n := by
        have := h t.s
        rwa [coefA, if_pos rfl, coefA, if_pos e.symm] at this
      have htu : t = u := by cases t; cases u; simp only at e hn; rw [e, hn]
      subst htu
      congr 1
      refine ext8 l m al'.2 am'.2 (fun x hx => hl x (by simp [hx])) (fun x hx => hm x (by simp [hx])) (fun s => ?_)
      by_cases hs : t.s = s
      · subst hs
        rw [coefA_high8 al'.1, coefA_high8 am'.1]
      · have := h s
        rwa [coefA, if_neg hs, coefA, if_neg hs] at this
    · exfalso
      cases hb : blt t.s u.s with
      | true =>
        have := h t.s
        rw [coefA, if_pos rfl, coefA_high8 (l := u :: m) (fun x hx => by
          rcases List.mem_cons.1 hx with rfl | hx
          · exact hb
          · exact blt_trans hb (am'.1 x hx))] at this
        exact hl t (by simp) this
      | false =>
        have hb2 := blt_total hb e
        have := h u.s
        rw [coefA_high8 (l := t :: l) (fun x hx => by
          rcases List.mem_cons.1 hx with rfl | hx
          · exact hb2
          · exact blt_trans hb2 (al'.1 x hx)), coefA, if_pos rfl] at this
        exact hm u (by simp) this.symm
theorem coefA_neg8 (s : ByteArray) : ∀ (m : List AR), Bd8 m → coefA (m.map negT8) s = -coefA m s
  | [], _ => rfl
  | u :: m, h => by
    have hu := h u (by simp)
    have ih := coefA_neg8 s m (fun x hx => h x (by simp [hx]))
    rw [List.map_cons, coefA, coefA]
    show (if u.s = s then IntKind.i64.wrap (-u.n) else _) = _
    split
    · exact wrap8 (by omega) (by omega)
    · exact ih
/-- Names that stand behind what all of both stand behind. -/
theorem less8_mem (p : ByteArray → Prop) : ∀ (f : Nat) (l m : List AR), (∀ t ∈ l, p t.s) → (∀ t ∈ m, p t.s) → ∀ t ∈ less8 f l m, p t.s := by
  intro f
  induction f with
  | zero =>
    intro l m hl hm t ht
    cases m with
    | nil => simp only [less8] at ht; exact hl t ht
    | cons u m =>
      cases l with
      | nil =>
        simp only [less8] at ht
        obtain ⟨x, hx, rfl⟩ := List.mem_map.1 ht
        exact hm x hx
      | cons v l => simp [less8] at ht
  | succ f ih =>
    intro l m hl hm t ht
    cases m with
    | nil => simp only [less8] at ht; exact hl t ht
    | cons u m =>
      cases l with
      | nil =>
        simp only [less8] at ht
        obtain ⟨x, hx, rfl⟩ := List.mem_map.1 ht
        exact hm x hx
      | cons v l =>
        have hl2 : ∀ t ∈ l, p t.s := fun x hx => hl x (by simp [hx])
        have hm2 : ∀ t ∈ m, p t.s := fun x hx => hm x (by simp [hx])
        rw [less8] at ht
        split at ht
        · exact ih l m hl2 hm2 t ht
        · split at ht
          · rcases List.mem_cons.1 ht with rfl | ht
            · exact hl v (by simp)
            · exact ih l m hl2 hm2 t ht
          · split at ht
            · rcases List.mem_cons.1 ht with rfl | ht
              · exact hl t (by simp)
              · exact ih l (u :: m) hl2 hm t ht
            · rcases List.mem_cons.1 ht with rfl | ht
              · exact hm u (by simp)
              · exact ih (v :: l) m hl hm2 t ht
theorem less8_len : ∀ (f : Nat) (l m : List AR), (less8 f l m).length ≤ l.length + m.length := by
  intro f
  induction f with
  | zero => intro l m; cases m <;> cases l <;> simp [less8]
  | succ f ih =>
    intro l m
    cases m with
    | nil => simp [less8]
    | cons u m =>
      cases l with
      | nil => simp [less8]
      | cons t l =>
        rw [less8]
        split
        · have := ih l m; simp only [List.length_cons]; omega
        · split
          · have := ih l m; simp only [List.length_cons]; omega
          · split
            · have := ih l (u :: m); simp only [List.length_cons] at this ⊢; omega
            · have := ih (t :: l) m; simp only [List.length_cons] at this ⊢; omega
/-- What comes of it. -/
theorem less8_good : ∀ (f : Nat) (l m : List AR), l.length + m.length ≤ f → Asc8 l → Asc8 m → Bd8 l → Bd8 m → Nz8 l → Nz8 m → Asc8 (less8 f l m) ∧ Nz8 (less8 f l m) ∧ ∀ s, coefA (less8 f l m) s = coefA l s - coefA m s := by
  intro f
  induction f with
  | zero =>
    intro l m hf al am bl bm nl nm
    have h1 : l = [] := List.length_eq_zero_iff.1 (by omega)
    have h2 : m = [] := List.length_eq_zero_iff.1 (by omega)
    subst h1; subst h2
    exact ⟨by simp [less8, Asc8], by simp [less8, Nz8], fun s => by simp [less8, coefA]⟩
  | succ f ih =>
    intro l m hf al am bl bm nl nm
    cases m with
    | nil => simp only [less8]; exact ⟨al, nl, fun s => by simp [coefA]⟩
    | cons u m =>
      cases l with
      | nil =>
        simp only [less8]
        refine ⟨?_, ?_, fun s => by rw [coefA_neg8 s (u :: m) bm]; simp [coefA]⟩
        · exact List.pairwise_map.2 am
        · intro t ht
          obtain ⟨x, hx, rfl⟩ := List.mem_map.1 ht
          have := bm x hx
          have := nm x hx
          show IntKind.i64.wrap (-x.n) ≠ 0
          rw [wrap8 (by omega) (by omega)]; omega
      | cons t l =>
        have al' := List.pairwise_cons.1 al
        have am' := List.pairwise_cons.1 am
        have bl2 : Bd8 l := fun x hx => bl x (by simp [hx])
        have bm2 : Bd8 m := fun x hx => bm x (by simp [hx])
        have nl2 : Nz8 l := fun x hx => nl x (by simp [hx])
        have nm2 : Nz8 m := fun x hx => nm x (by simp [hx])
        have bt := bl t (by simp)
        have bu := bm u (by simp)
        simp only [List.length_cons] at hf
        rw [less8]
        split
        · rename_i e
          obtain ⟨a1, a2, a3⟩ := ih l m (by omega) al'.2 am'.2 bl2 bm2 nl2 nm2
          refine ⟨a1, a2, fun s => ?_⟩
          rw [a3, coefA, coefA]
          by_cases hs : t.s = s
          · rw [if_pos hs, if_pos (e.1.symm.trans hs), ← hs, coefA_high8 al'.1, e.1, coefA_high8 am'.1]; omega
          · rw [if_neg hs, if_neg (fun h => hs (e.1.trans h))]
        · rename_i e
          split
          · rename_i e1
            obtain ⟨a1, a2, a3⟩ := ih l m (by omega) al'.2 am'.2 bl2 bm2 nl2 nm2
            have hne : t.n ≠ u.n := fun h => e ⟨e1, h⟩
            have hw : IntKind.i64.wrap (t.n - u.n) = t.n - u.n := wrap8 (by omega) (by omega)
            refine ⟨List.pairwise_cons.2 ⟨fun x hx => less8_mem (fun s => blt t.s s = true) f l m al'.1 (fun y hy => by rw [e1]; exact am'.1 y hy) x hx, a1⟩, ?_, fun s => ?_⟩
            · intro x hx
              rcases List.mem_cons.1 hx with rfl | hx
              · show IntKind.i64.wrap (t.n - u.n) ≠ 0; rw [hw]; omega
              · exact a2 x hx
            · rw [coefA, coefA, coefA]
              by_cases hs : t.s = s
              · rw [if_pos hs, if_pos hs, if_pos (e1.symm.trans hs)]; exact hw
              · rw [if_neg hs, if_neg hs, if_neg (fun h => hs (e1.trans h)), a3]
          · rename_i e1
            split
            · rename_i hb
              obtain ⟨a1, a2, a3⟩ := ih l (u :: m) (by simp only [List.length_cons]; omega) al'.2 am bl2 bm nl2 nm
              have hlt : ∀ y ∈ u :: m, blt t.s y.s = true := fun y hy => by
                rcases List.mem_cons.1 hy with rfl | hy
                · exact hb
                · exact blt_trans hb (am'.1 y hy)
              refine ⟨List.pairwise_cons.2 ⟨fun x hx => less8_mem (fun s => blt t.s s = true) f l (u :: m) al'.1 hlt x hx, a1⟩, ?_, fun s => ?_⟩
              · intro x hx
                rcases List.mem_cons.1 hx with rfl | hx
                · exact nl x (by simp)
                · exact a2 x hx
              · rw [coefA, a3, coefA_cons8 t l]
                by_cases hs : t.s = s
                · rw [if_pos hs, if_pos hs, ← hs, coefA_high8 hlt]; omega
                · rw [if_neg hs, if_neg hs]
            · rename_i hb
              have hb2 : blt u.s t.s = true := blt_total (by simpa using hb) e1
              obtain ⟨a1, a2, a3⟩ := ih (t :: l) m (by simp only [List.length_cons]; omega) al am'.2 bl bm2 nl nm2
              have hlt : ∀ y ∈ t :: l, blt u.s y.s = true := fun y hy => by
                rcases List.mem_cons.1 hy with rfl | hy
                · exact hb2
                · exact blt_trans hb2 (al'.1 y hy)
              have hw : IntKind.i64.wrap (-u.n) = -u.n := wrap8 (by omega) (by omega)
              refine ⟨List.pairwise_cons.2 ⟨fun x hx => less8_mem (fun s => blt u.s s = true) f (t :: l) m hlt am'.1 x hx, a1⟩, ?_, fun s => ?_⟩
              · intro x hx
                rcases List.mem_cons.1 hx with rfl | hx
                · show IntKind.i64.wrap (-u.n) ≠ 0; rw [hw]; have := nm u (by simp); omega
                · exact a2 x hx
              · show (if u.s = s then IntKind.i64.wrap (-u.n) else coefA (less8 f (t :: l) m) s) = coefA (t :: l) s - coefA (u :: m) s
                rw [a3, coefA_cons8 u m]
                by_cases hs : u.s = s
                · rw [if_pos hs, if_pos hs, ← hs, coefA_high8 hlt, hw]; omega
                · rw [if_neg hs, if_neg hs]
/-- Name by name. -/
def sums8 (a b : List AR) (times : Int) (names : List ByteArray) : List AR := names.filterMap fun s => if coefA a s + times * coefA b s = 0 then none else some ⟨s, coefA a s + times * coefA b s⟩
theorem sums8_good (a b : List AR) (times : Int) : ∀ (names : List ByteArray), Asc names → Asc8 (sums8 a b times names) ∧ Nz8 (sums8 a b times names) ∧ (∀ t ∈ sums8 a b times names, t.s ∈ names) ∧ ∀ s ∈ names, coefA (sums8 a b times names) s = coefA a s + times * coefA b s
  | [], _ => ⟨by simp [sums8, Asc8], by simp [sums8, Nz8], by simp [sums8], by simp⟩
  | x :: names, h => by
    have h' := List.pairwise_cons.1 h
    obtain ⟨a1, a2, a3, a4⟩ := sums8_good a b times names h'.2
    by_cases hz : coefA a x + times * coefA b x = 0
    · have e : sums8 a b times (x :: names) = sums8 a b times names := by simp [sums8, hz]
      rw [e]
      refine ⟨a1, a2, fun t ht => by simp [a3 t ht], fun s hs => ?_⟩
      rcases List.mem_cons.1 hs with rfl | hs
      · rw [hz]
        exact coefA_off8 s _ (fun t ht e => blt_ne8 (h'.1 t.s (a3 t ht)) e)
      · exact a4 s hs
    · have e : sums8 a b times (x :: names) = ⟨x, coefA a x + times * coefA b x⟩ :: sums8 a b times names := by simp [sums8, hz]
      rw [e]
      refine ⟨List.pairwise_cons.2 ⟨fun t ht => h'.1 t.s (a3 t ht), a1⟩, ?_, ?_, fun s hs => ?_⟩
      · intro t ht
        rcases List.mem_cons.1 ht with rfl | ht
        · exact hz
        · exact a2 t ht
      · intro t ht
        rcases List.mem_cons.1 ht with rfl | ht
        · simp
        · simp [a3 t ht]
      · rw [coefA]
        by_cases hx : x = s
        · rw [if_pos hx, hx]
        · rw [if_neg hx]
          rcases List.mem_cons.1 hs with rfl | hs
          · exact absurd rfl hx
          · exact a4 s hs
theorem less8_sums {a b : List AR} {names : List ByteArray} (f : Nat) (hf : a.length + b.length ≤ f) (aa : Asc8 a) (ab : Asc8 b) (ba : Bd8 a) (bb : Bd8 b) (na : Nz8 a) (nb : Nz8 b) (hn : Asc names) (hm : ∀ s, s ∈ names ↔ (∃ t ∈ a, t.s = s) ∨ ∃ t ∈ b, t.s = s) : less8 f a b = sums8 a b (-1) names := by
  obtain ⟨h1, h2, h3⟩ := less8_good f a b hf aa ab ba bb na nb
  obtain ⟨k1, k2, k3, k4⟩ := sums8_good a b (-1) names hn
  refine ext8 _ _ h1 k1 h2 k2 (fun s => ?_)
  rw [h3]
  by_cases hs : s ∈ names
  · rw [k4 s hs]; omega
  · have := mt (hm s).2 hs
    rw [coefA_off8 s a (fun t ht e => this (.inl ⟨t, ht, e⟩)), coefA_off8 s b (fun t ht e => this (.inr ⟨t, ht, e⟩)), coefA_off8 s _ (fun t ht e => hs (e ▸ k3 t ht))]
    rfl
end Go.Proofs.YtjdpddcnogdekaaGreat
/-
  The contract of the landed code's visitAll over statements: whatever it is handed to do at each of them.
-/
namespace Go.Proofs.YtjdpddcnogdekaaGreat
open Go.RowKit Go.Lib
set_option linter.unusedSimpArgs false
set_option linter.unusedVariables false

theorem lt_heap {w : World} {g : Nat} {o : Obj} (h : w.heap[g]? = some o) : g < w.heap.size := (Array.getElem?_eq_some_iff.1 h).1
theorem ownB {w w' : World} {B sz n : Nat} {e : TypeId} {v : Value} {xs : List Value} (h : w.ownsRow B e sz v n xs) (hb : Below w.heap.size w w') : w'.ownsRow B e sz v n xs := by
  refine ⟨h.1, ?_⟩
  rcases h.2 with h0 | ⟨g, cap, cur, h1, h2, h3, h4⟩
  · exact .inl h0
  · exact .inr ⟨g, cap, cur, h1, h2, (hb.block g (lt_heap h3)).trans h3, h4⟩
theorem ownSets {w : World} {B sz n N : Nat} {e : TypeId} {v : Value} {xs : List Value} (h : w.ownsRow B e sz v n xs) (hN : ∀ o, w.heap[N]? = some o → ∀ g, v.ownBlock = some g → N ≠ g) (o : Nat) (vs : List Value) (hn : N < w.heap.size) : (w.setCells N o vs).ownsRow B e sz v n xs := by
  refine ⟨h.1, ?_⟩
  rcases h.2 with h0 | ⟨g, cap, cur, h1, h2, h3, h4⟩
  · exact .inl h0
  · refine .inr ⟨g, cap, cur, h1, h2, ?_, h4⟩
    have hne : N ≠ g := hN _ (Array.getElem?_eq_getElem hn) g (by rw [h1]; rfl)
    have : ∀ (vs : List Value) (o : Nat) (w : World), (w.setCells N o vs).heap[g]? = w.heap[g]? := by
      intro vs
      induction vs with
      | nil => intro o w; rfl
      | cons x xs ih => intro o w; rw [World.setCells, ih, Below.heap_setCell _ _ _ _ (fun e => hne e.symm)]
    rw [this]; exact h3
/-- A row with something in it. -/
theorem own_some {w : World} {B sz n : Nat} {e : TypeId} {v : Value} {xs : List Value} (h : w.ownsRow B e sz v (n + 1) xs) : ∃ g cap, v = .slice (some ⟨g, 0, Option.none⟩) (n + 1) cap ∧ n + 1 ≤ cap ∧ cap ≤ maxLen ∧ B ≤ g ∧ g < w.heap.size := by
  rcases h.2 with ⟨_, h0⟩ | ⟨g, cap, cur, h1, h2, h3, h4, h5, _⟩
  · cases h0
  · exact ⟨g, cap, h1, h4, h5, h2, lt_heap h3⟩
theorem own_none {w : World} {B sz : Nat} {e : TypeId} {v : Value} {xs : List Value} (h : w.ownsRow B e sz v 0 xs) : ∃ a cap, v = .slice a 0 cap := by
  rcases h.2 with ⟨h1, h0⟩ | ⟨g, cap, cur, h1, _⟩
  · exact ⟨_, _, h1⟩
  · exact ⟨_, _, h1⟩
/-- The last one is let go. -/
theorem own_pop {w : World} {B sz n g cap : Nat} {e : TypeId} {xs ys : List Value} (h : w.ownsRow B e sz (.slice (some ⟨g, 0, Option.none⟩) (n + 1) cap) (n + 1) (xs ++ ys)) (hx : xs.length = n * sz) : w.ownsRow B e sz (.slice (some ⟨g, 0, Option.none⟩) n cap) n xs := by
  refine ⟨hx, ?_⟩
  rcases h.2 with ⟨h0, _⟩ | ⟨g', cap', cur, h1, h2, h3, h4, h5, h6, h7⟩
  · cases h0
  · injection h1 with e1 e2 e3
    subst e3
    refine .inr ⟨g, cap, cur, rfl, ?_, ?_, by omega, h5, h6, ?_⟩
    · injection e1 with e1; injection e1 with e1; subst e1; exact h2
    · injection e1 with e1; injection e1 with e1; subst e1; exact h3
    · have := congrArg (List.take (n * sz)) h7
      rw [List.take_take, Nat.min_eq_left (Nat.mul_le_mul_right sz (Nat.le_succ n)), List.take_append_of_le_length (by omega)] at this
      rw [this, List.take_of_length_le (by omega)]
/-- A cell of a row that the call owns. -/
theorem own_cell {w : World} {B sz n g cap : Nat} {e : TypeId} {xs : List Value} (h : w.ownsRow B e sz (.slice (some ⟨g, 0, Option.none⟩) n cap) n xs) {j : Nat} {u : Value} (hu : xs[j]? = some u) : w.cell? ⟨g, j, Option.none⟩ = some u := by
  have hc := h.cells (g := g) rfl j u hu
  have e1 : (⟨g, 0, Option.none⟩ : Addr).add j = ⟨g, j, Option.none⟩ := by simp [Addr.add]; omega
  rwa [e1] at hc
/-- What is left to do: rows of statements, each in its slice. -/
abbrev TdS := List (SF × Value)
/-- A new block that is stored into at once. -/
theorem newblk {w W : World} {arr : Array Value} {t : TypeId} {vs : List Value} (hn : vs.length ≤ arr.size) (hW : (w.alloc (.cells arr t)).setCells w.heap.size 0 vs = W) : W.rangeAt w.heap.size 0 vs ∧ Below w.heap.size w W := by
  have e : (w.alloc (.cells arr t)).heap[w.heap.size]? = some (.cells arr t (0, 0)) := by show (w.heap.push _)[w.heap.size]? = _; simp
  subst hW
  exact ⟨World.rangeAt_setCells_same _ _ _ _ (blk_there e hn), below_sets _ _ (alloc_below _ _) (Nat.le_refl _)⟩
theorem newthere (w : World) (t : TypeId) : (w.alloc (.cells zero19 t)).there w.heap.size 0 19 := blk_there (arr := zero19) (t := t) (by show (w.heap.push _)[w.heap.size]? = _; simp) (Nat.le_refl 19)
theorem new1 (w : World) (u : Value) (t : TypeId) : ∀ j x, [u][j]? = some x → (w.alloc (.cells #[u] t)).cell? ((⟨w.heap.size, 0, Option.none⟩ : Addr).add j) = some x := by
  intro j x h
  have e : (w.alloc (.cells #[u] t)).heap[w.heap.size]? = some (.cells #[u] t (0, 0)) := by show (w.heap.push _)[w.heap.size]? = _; simp
  match j, h with
  | 0, h =>
    have e0 : (⟨w.heap.size, 0, Option.none⟩ : Addr).add 0 = ⟨w.heap.size, 0, Option.none⟩ := by simp [Addr.add]
    rw [e0]; simp only [World.cell?, e]; simpa using h
  | j + 1, h => simp at h
theorem newblkS {w W : World} {t : TypeId} (h : SH) (v1 v2 v3 v4 v : Value) (hW : (w.alloc (.cells zero19 t)).setCells w.heap.size 0 (scells h v1 v2 v3 v4 v) = W) : W.rangeAt w.heap.size 0 (scells h v1 v2 v3 v4 v) ∧ Below w.heap.size w W := newblk (arr := zero19) (Nat.le_refl 19) hW
abbrev zero4 : Array Value := #[.int .i64 0, .int .i64 0, .string ⟨#[]⟩, .slice Option.none 0 0]
theorem newthere4 (w : World) (t : TypeId) : (w.alloc (.cells zero4 t)).there w.heap.size 0 4 := blk_there (arr := zero4) (t := t) (by show (w.heap.push _)[w.heap.size]? = _; simp) (Nat.le_refl 4)
theorem newblk4 {w W : World} {t : TypeId} (x : X) (v : Value) (hW : (w.alloc (.cells zero4 t)).setCells w.heap.size 0 (xcells x v) = W) : W.rangeAt w.heap.size 0 (xcells x v) ∧ Below w.heap.size w W := newblk (arr := zero4) (Nat.le_refl 4) hW
/-- Blocks from lo up to hi may turn, and memory may grow; nothing else turns. -/
structure Gap (lo hi : Nat) (w w' : World) : Prop where
  os : w'.os = w.os
  tape : w'.tape = w.tape
  output : w'.output = w.output
  size : w.heap.size ≤ w'.heap.size
  block : ∀ k, k < w.heap.size → (k < lo ∨ hi ≤ k) → w'.heap[k]? = w.heap[k]?
theorem Gap.refl (lo hi : Nat) (w : World) : Gap lo hi w w := ⟨rfl, rfl, rfl, Nat.le_refl _, fun _ _ _ => rfl⟩
theorem Gap.trans {lo hi : Nat} {w w1 w2 : World} (h : Gap lo hi w w1) (g : Gap lo hi w1 w2) : Gap lo hi w w2 :=
  ⟨g.os.trans h.os, g.tape.trans h.tape, g.output.trans h.output, Nat.le_trans h.size g.size, fun k hk hc => (g.block k (Nat.lt_of_lt_of_le hk h.size) hc).trans (h.block k hk hc)⟩
theorem Gap.of (lo hi : Nat) {w w' : World} (h : Below w.heap.size w w') : Gap lo hi w w' := ⟨h.os, h.tape, h.output, h.size, fun k hk _ => h.block k hk⟩
theorem Gap.below {lo hi n : Nat} {w w' : World} (h : Gap lo hi w w') (hn : n ≤ lo) (hw : n ≤ w.heap.size) : Below n w w' := ⟨h.os, h.tape, h.output, h.size, fun k hk => h.block k (by omega) (.inl (by omega))⟩
theorem Gap.wider {lo hi lo' hi' : Nat} {w w' : World} (h : Gap lo hi w w') (h1 : lo' ≤ lo) (h2 : hi ≤ hi') : Gap lo' hi' w w' := ⟨h.os, h.tape, h.output, h.size, fun k hk hc => h.block k hk (by omega)⟩
theorem ownM {w w' : World} {lo hi B sz n : Nat} {e : TypeId} {v : Value} {xs : List Value} (h : w.ownsRow B e sz v n xs) (hb : Gap lo hi w w') (hB : hi ≤ B) : w'.ownsRow B e sz v n xs := by
  refine ⟨h.1, ?_⟩
  rcases h.2 with h0 | ⟨g, cap, cur, h1, h2, h3, h4⟩
  · exact .inl h0
  · exact .inr ⟨g, cap, cur, h1, h2, (hb.block g (lt_heap h3) (.inr (by omega))).trans h3, h4⟩
/-- What does not lie there need not be told apart. -/
def Quiet {α : Type} (lo hi : Nat) (J : List α → World → Prop) : Prop := ∀ vs w1 w2, J vs w1 → w1.heap.size ≤ w2.heap.size → (∀ k, lo ≤ k → k < hi → w2.heap[k]? = w1.heap[k]?) → J vs w2
theorem Quiet.below {α : Type} {lo hi : Nat} {J : List α → World → Prop} (q : Quiet lo hi J) {vs : List α} {w1 w2 : World} (h : J vs w1) (hh : hi ≤ w1.heap.size) (hb : Below w1.heap.size w1 w2) : J vs w2 := q vs w1 w2 h hb.size fun k _ hk => hb.block k (by omega)
/-- A statement and what stands under it. -/
abbrev SN := SH × SF
/-- All that stand in a row, and under them. -/
def sall : SF → List SN
  | .nil => []
  | .node _ _ h l r => (h, l) :: (sall l ++ sall r)
theorem sall_len : ∀ F : SF, (sall F).length = snodes F
  | .nil => rfl
  | .node _ _ h l r => by have := sall_len l; have := sall_len r; simp only [sall, snodes, List.length_cons, List.length_append]; omega
def tall : TdS → List SN
  | [] => []
  | p :: r => sall p.1 ++ tall r
theorem tall_app (a b : TdS) : tall (a ++ b) = tall a ++ tall b := by
  induction a with
  | nil => rfl
  | cons p a ih => simp only [List.cons_append, tall, ih, List.append_assoc]
/-- The state between two rounds. -/
structure VisS (w : World) (F : SF) (td : TdS) (vs : List SN) (m : Nat) : Prop where
  all : ∀ p ∈ td, SV w 0 p.1 p.2
  perm : (vs ++ tall td).Perm (sall F)
  len : td.length + (tall td).length = m
  big : m ≤ snodes F + 1
/-- Within a round: R is what of the row is still to be looked at. -/
structure VisR (w : World) (F : SF) (td : TdS) (vs : List SN) (m : Nat) (R G : SF) (k b o : Nat) : Prop where
  all : ∀ p ∈ td, SV w 0 p.1 p.2
  perm : (vs ++ (tall td ++ sall R)).Perm (sall F)
  len : td.length + (tall td).length + (sall R).length + 1 = m
  big : m ≤ snodes F + 1
  at_ : SIn w 0 R b (o + k * 19)
  num : k + slen R = slen G
theorem VisS.pop {w : World} {F : SF} {td : TdS} {vs : List SN} {m : Nat} {p : SF × Value} {b o : Nat} (h : VisS w F (td ++ [p]) vs m) (hin : SIn w 0 p.1 b o) : VisR w F td vs m p.1 p.1 0 b o := by
  have h1 := h.perm; have h2 := h.len; have h3 := h.big
  rw [tall_app] at h1 h2
  simp only [tall, List.length_append, List.length_cons, List.length_nil, List.append_nil] at h1 h2
  exact ⟨fun q hq => h.all q (List.mem_append_left _ hq), h1, by omega, h3, by simpa using hin, by omega⟩
theorem VisR.push {w : World} {F : SF} {td : TdS} {vs : List SN} {m p q : Nat} {hd : SH} {l r G : SF} {k b o : Nat} {u : Value} (h : VisR w F td vs m (.node p q hd l r) G k b o) (hu : SV w 0 l u) : VisR w F (td ++ [(l, u)]) (vs ++ [(hd, l)]) m r G (k + 1) b o := by
  have h1 := h.perm; have h2 := h.len; have h4 := h.num
  simp only [sall, slen, List.length_cons, List.length_append] at h1 h2 h4
  refine ⟨fun q hq => ?_, ?_, ?_, h.big, ?_, by omega⟩
  · rcases List.mem_append.1 hq with hq | hq
    · exact h.all q hq
    · simp only [List.mem_cons, List.not_mem_nil, or_false] at hq; subst hq; exact hu
  · refine List.Perm.trans ?_ h1
    rw [tall_app]
    simp only [tall, List.append_nil, List.append_assoc, List.singleton_append, List.cons_append, List.nil_append]
    exact (List.perm_middle.symm).append_left vs
  · rw [tall_app]; simp only [tall, List.length_append, List.length_cons, List.length_nil]; omega
  · rw [show o + (k + 1) * 19 = o + k * 19 + 19 by omega]; exact (SIn_node.1 h.at_).2
theorem VisR.done {w : World} {F : SF} {td : TdS} {vs : List SN} {m : Nat} {G : SF} {k b o : Nat} (h : VisR w F td vs m .nil G k b o) : VisS w F td vs (m - 1) := by
  have h1 := h.perm; have h2 := h.len; have h3 := h.big
  simp only [sall, List.length_nil, List.append_nil] at h1 h2
  exact ⟨h.all, h1, by omega, by omega⟩
theorem VisR.mem {w : World} {F : SF} {td : TdS} {vs : List SN} {m p q : Nat} {hd : SH} {l r G : SF} {k b o : Nat} (h : VisR w F td vs m (.node p q hd l r) G k b o) : (hd, l) ∈ sall F ∧ vs.length < snodes F := by
  have h1 := h.perm
  refine ⟨h1.subset (by simp [sall]), ?_⟩
  have := h1.length_eq
  rw [sall_len] at this
  simp only [sall, List.length_append, List.length_cons] at this
  omega
/-- What is handed to visitAll to do at each. -/
def DoesS (w0 : World) (n lo hi : Nat) (F : SF) (kf : Nat) (caps : Array Value) (J : List SN → World → Prop) : Prop :=
  ∀ (vs : List SN) (h : SH) (l : SF) (v1 v2 v3 v4 u : Value) (w1 : World), J vs w1 → Below w0.heap.size w0 w1 → n ≤ w1.heap.size → HV w0 0 h v1 v2 v3 v4 → SV w0 0 l u → (h, l) ∈ sall F → vs.length < snodes F →
    Calls Tryz.prog kf (#[sagg h v1 v2 v3 v4 u] ++ caps) w1 fun e w2 => e = .returned (.tuple #[]) ∧ J (vs ++ [(h, l)]) w2 ∧ Gap lo hi w1 w2
end Go.Proofs.YtjdpddcnogdekaaGreat
