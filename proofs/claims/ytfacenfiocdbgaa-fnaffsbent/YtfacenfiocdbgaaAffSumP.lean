/-
  Sums of straight sums, plainly: two lists gone through side by side, and name by name.
-/
import Derived.Test.YtfacenfiocdbgaaAffPlain
namespace Go.Proofs.Ytfacenfiocdbgaa
open Go.RowKit Go.Lib
set_option linter.unusedSimpArgs false
set_option linter.unusedVariables false

def negT8 (t : AR) : AR := ⟨t.s, IntKind.i64.wrap (-t.n)⟩
/-- The terms of the second list taken from those of the first one, side by side. -/
def less8 : Nat → List AR → List AR → List AR
  | _, l, [] => l
  | _, [], m => m.map negT8
  | 0, _, _ => []
  | f + 1, t :: l, u :: m => if t.s = u.s ∧ t.n = u.n then less8 f l m else if t.s = u.s then ⟨t.s, IntKind.i64.wrap (t.n - u.n)⟩ :: less8 f l m else if blt t.s u.s = true then t :: less8 f l (u :: m) else negT8 u :: less8 f (t :: l) m
/-- Ascending by name. -/
def Asc8 (l : List AR) : Prop := l.Pairwise fun a b => blt a.s b.s = true
def Bd8 (l : List AR) : Prop := ∀ t ∈ l, -100000 ≤ t.n ∧ t.n ≤ 100000
def Nz8 (l : List AR) : Prop := ∀ t ∈ l, t.n ≠ 0
theorem wrap8 {n : Int} (h1 : -1000000 ≤ n) (h2 : n ≤ 1000000) : IntKind.i64.wrap n = n := by rw [IntKind.wrap_i64]; omega
theorem coefA_cons8 (t : AR) (l : List AR) (s : ByteArray) : coefA (t :: l) s = if t.s = s then t.n else coefA l s := rfl
theorem coefA_off8 (s : ByteArray) : ∀ (l : List AR), (∀ t ∈ l, t.s ≠ s) → coefA l s = 0
  | [], _ => rfl
  | t :: l, h => by rw [coefA, if_neg (h t (by simp)), coefA_off8 s l (fun u hu => h u (by simp [hu]))]
theorem blt_ne8 {a b : ByteArray} (h : blt a b = true) : b ≠ a := fun e => by subst e; rw [blt_irrefl] at h; cases h
theorem coefA_high8 {s : ByteArray} {l : List AR} (h : ∀ t ∈ l, blt s t.s = true) : coefA l s = 0 := coefA_off8 s l (fun t ht => blt_ne8 (h t ht))
/-- Two ascending lists without noughts that say the same of each name are the same. -/
theorem ext8 : ∀ (l m : List AR), Asc8 l → Asc8 m → Nz8 l → Nz8 m → (∀ s, coefA l s = coefA m s) → l = m
  | [], [], _, _, _, _, _ => rfl
  | [], u :: m, _, _, _, hm, h => by
    have := h u.s
    rw [coefA, coefA, if_pos rfl] at this
    exact absurd this.symm (hm u (by simp))
  | t :: l, [], _, _, hl, _, h => by
    have := h t.s
    rw [coefA_cons8, if_pos rfl] at this
    exact absurd this (hl t (by simp))
  | t :: l, u :: m, al, am, hl, hm, h => by
    have al' := List.pairwise_cons.1 al
    have am' := List.pairwise_cons.1 am
    by_cases e : t.s = u.s
    · have hn : t.n = u.n := by
        have := h t.s
        rwa [coefA, if_pos rfl, coefA, if_pos e.symm] at this
      have htu : t = u := by cases t; cases u; simp only at e hn; rw [e, hn]
      subst htu
      congr 1
      refine ext8 l m al'.2 am'.2 (fun x hx => hl x (by simp [hx])) (fun x hx => hm x (by simp [hx])) (fun s => ?_)
      by_cases hs : t.s = s
      · subst hs
        rw [coefA_high8 al'.1, coefA_high8 am'.1]
      · have := h s
        rwa [coefA, if_neg hs, coefA, if_neg hs] at this
    · exfalso
      cases hb : blt t.s u.s with
      | true =>
        have := h t.s
        rw [coefA, if_pos rfl, coefA_high8 (l := u :: m) (fun x hx => by
          rcases List.mem_cons.1 hx with rfl | hx
          · exact hb
          · exact blt_trans hb (am'.1 x hx))] at this
        exact hl t (by simp) this
      | false =>
        have hb2 := blt_total hb e
        have := h u.s
        rw [coefA_high8 (l := t :: l) (fun x hx => by
          rcases List.mem_cons.1 hx with rfl | hx
          · exact hb2
          · exact blt_trans hb2 (al'.1 x hx)), coefA, if_pos rfl] at this
        exact hm u (by simp) this.symm
theorem coefA_neg8 (s : ByteArray) : ∀ (m : List AR), Bd8 m → coefA (m.map negT8) s = -coefA m s
  | [], _ => rfl
  | u :: m, h => by
    have hu := h u (by simp)
    have ih := coefA_neg8 s m (fun x hx => h x (by simp [hx]))
    rw [List.map_cons, coefA, coefA]
    show (if u.s = s then IntKind.i64.wrap (-u.n) else _) = _
    split
    · exact wrap8 (by omega) (by omega)
    · exact ih
/-- Names that stand behind what all of both stand behind. -/
theorem less8_mem (p : ByteArray → Prop) : ∀ (f : Nat) (l m : List AR), (∀ t ∈ l, p t.s) → (∀ t ∈ m, p t.s) → ∀ t ∈ less8 f l m, p t.s := by
  intro f
  induction f with
  | zero =>
    intro l m hl hm t ht
    cases m with
    | nil => simp only [less8] at ht; exact hl t ht
    | cons u m =>
      cases l with
      | nil =>
        simp only [less8] at ht
        obtain ⟨x, hx, rfl⟩ := List.mem_map.1 ht
        exact hm x hx
      | cons v l => simp [less8] at ht
  | succ f ih =>
    intro l m hl hm t ht
    cases m with
    | nil => simp only [less8] at ht; exact hl t ht
    | cons u m =>
      cases l with
      | nil =>
        simp only [less8] at ht
        obtain ⟨x, hx, rfl⟩ := List.mem_map.1 ht
        exact hm x hx
      | cons v l =>
        have hl2 : ∀ t ∈ l, p t.s := fun x hx => hl x (by simp [hx])
        have hm2 : ∀ t ∈ m, p t.s := fun x hx => hm x (by simp [hx])
        rw [less8] at ht
        split at ht
        · exact ih l m hl2 hm2 t ht
        · split at ht
          · rcases List.mem_cons.1 ht with rfl | ht
            · exact hl v (by simp)
            · exact ih l m hl2 hm2 t ht
          · split at ht
            · rcases List.mem_cons.1 ht with rfl | ht
              · exact hl t (by simp)
              · exact ih l (u :: m) hl2 hm t ht
            · rcases List.mem_cons.1 ht with rfl | ht
              · exact hm u (by simp)
              · exact ih (v :: l) m hl hm2 t ht
theorem less8_len : ∀ (f : Nat) (l m : List AR), (less8 f l m).length ≤ l.length + m.length := by
  intro f
  induction f with
  | zero => intro l m; cases m <;> cases l <;> simp [less8]
  | succ f ih =>
    intro l m
    cases m with
    | nil => simp [less8]
    | cons u m =>
      cases l with
      | nil => simp [less8]
      | cons t l =>
        rw [less8]
        split
        · have := ih l m; simp only [List.length_cons]; omega
        · split
          · have := ih l m; simp only [List.length_cons]; omega
          · split
            · have := ih l (u :: m); simp only [List.length_cons] at this ⊢; omega
            · have := ih (t :: l) m; simp only [List.length_cons] at this ⊢; omega
/-- What comes of it. -/
theorem less8_good : ∀ (f : Nat) (l m : List AR), l.length + m.length ≤ f → Asc8 l → Asc8 m → Bd8 l → Bd8 m → Nz8 l → Nz8 m → Asc8 (less8 f l m) ∧ Nz8 (less8 f l m) ∧ ∀ s, coefA (less8 f l m) s = coefA l s - coefA m s := by
  intro f
  induction f with
  | zero =>
    intro l m hf al am bl bm nl nm
    have h1 : l = [] := List.length_eq_zero_iff.1 (by omega)
    have h2 : m = [] := List.length_eq_zero_iff.1 (by omega)
    subst h1; subst h2
    exact ⟨by simp [less8, Asc8], by simp [less8, Nz8], fun s => by simp [less8, coefA]⟩
  | succ f ih =>
    intro l m hf al am bl bm nl nm
    cases m with
    | nil => simp only [less8]; exact ⟨al, nl, fun s => by simp [coefA]⟩
    | cons u m =>
      cases l with
      | nil =>
        simp only [less8]
        refine ⟨?_, ?_, fun s => by rw [coefA_neg8 s (u :: m) bm]; simp [coefA]⟩
        · exact List.pairwise_map.2 am
        · intro t ht
          obtain ⟨x, hx, rfl⟩ := List.mem_map.1 ht
          have := bm x hx
          have := nm x hx
          show IntKind.i64.wrap (-x.n) ≠ 0
          rw [wrap8 (by omega) (by omega)]; omega
      | cons t l =>
        have al' := List.pairwise_cons.1 al
        have am' := List.pairwise_cons.1 am
        have bl2 : Bd8 l := fun x hx => bl x (by simp [hx])
        have bm2 : Bd8 m := fun x hx => bm x (by simp [hx])
        have nl2 : Nz8 l := fun x hx => nl x (by simp [hx])
        have nm2 : Nz8 m := fun x hx => nm x (by simp [hx])
        have bt := bl t (by simp)
        have bu := bm u (by simp)
        simp only [List.length_cons] at hf
        rw [less8]
        split
        · rename_i e
          obtain ⟨a1, a2, a3⟩ := ih l m (by omega) al'.2 am'.2 bl2 bm2 nl2 nm2
          refine ⟨a1, a2, fun s => ?_⟩
          rw [a3, coefA, coefA]
          by_cases hs : t.s = s
          · rw [if_pos hs, if_pos (e.1.symm.trans hs), ← hs, coefA_high8 al'.1, e.1, coefA_high8 am'.1]; omega
          · rw [if_neg hs, if_neg (fun h => hs (e.1.trans h))]
        · rename_i e
          split
          · rename_i e1
            obtain ⟨a1, a2, a3⟩ := ih l m (by omega) al'.2 am'.2 bl2 bm2 nl2 nm2
            have hne : t.n ≠ u.n := fun h => e ⟨e1, h⟩
            have hw : IntKind.i64.wrap (t.n - u.n) = t.n - u.n := wrap8 (by omega) (by omega)
            refine ⟨List.pairwise_cons.2 ⟨fun x hx => less8_mem (fun s => blt t.s s = true) f l m al'.1 (fun y hy => by rw [e1]; exact am'.1 y hy) x hx, a1⟩, ?_, fun s => ?_⟩
            · intro x hx
              rcases List.mem_cons.1 hx with rfl | hx
              · show IntKind.i64.wrap (t.n - u.n) ≠ 0; rw [hw]; omega
              · exact a2 x hx
            · rw [coefA, coefA, coefA]
              by_cases hs : t.s = s
              · rw [if_pos hs, if_pos hs, if_pos (e1.symm.trans hs)]; exact hw
              · rw [if_neg hs, if_neg hs, if_neg (fun h => hs (e1.trans h)), a3]
          · rename_i e1
            split
            · rename_i hb
              obtain ⟨a1, a2, a3⟩ := ih l (u :: m) (by simp only [List.length_cons]; omega) al'.2 am bl2 bm nl2 nm
              have hlt : ∀ y ∈ u :: m, blt t.s y.s = true := fun y hy => by
                rcases List.mem_cons.1 hy with rfl | hy
                · exact hb
                · exact blt_trans hb (am'.1 y hy)
              refine ⟨List.pairwise_cons.2 ⟨fun x hx => less8_mem (fun s => blt t.s s = true) f l (u :: m) al'.1 hlt x hx, a1⟩, ?_, fun s => ?_⟩
              · intro x hx
                rcases List.mem_cons.1 hx with rfl | hx
                · exact nl x (by simp)
                · exact a2 x hx
              · rw [coefA, a3, coefA_cons8 t l]
                by_cases hs : t.s = s
                · rw [if_pos hs, if_pos hs, ← hs, coefA_high8 hlt]; omega
                · rw [if_neg hs, if_neg hs]
            · rename_i hb
              have hb2 : blt u.s t.s = true := blt_total (by simpa using hb) e1
              obtain ⟨a1, a2, a3⟩ := ih (t :: l) m (by simp only [List.length_cons]; omega) al am'.2 bl bm2 nl nm2
              have hlt : ∀ y ∈ t :: l, blt u.s y.s = true := fun y hy => by
                rcases List.mem_cons.1 hy with rfl | hy
                · exact hb2
                · exact blt_trans hb2 (al'.1 y hy)
              have hw : IntKind.i64.wrap (-u.n) = -u.n := wrap8 (by omega) (by omega)
              refine ⟨List.pairwise_cons.2 ⟨fun x hx => less8_mem (fun s => blt u.s s = true) f (t :: l) m hlt am'.1 x hx, a1⟩, ?_, fun s => ?_⟩
              · intro x hx
                rcases List.mem_cons.1 hx with rfl | hx
                · show IntKind.i64.wrap (-u.n) ≠ 0; rw [hw]; have := nm u (by simp); omega
                · exact a2 x hx
              · show (if u.s = s then IntKind.i64.wrap (-u.n) else coefA (less8 f (t :: l) m) s) = coefA (t :: l) s - coefA (u :: m) s
                rw [a3, coefA_cons8 u m]
                by_cases hs : u.s = s
                · rw [if_pos hs, if_pos hs, ← hs, coefA_high8 hlt, hw]; omega
                · rw [if_neg hs, if_neg hs]
/-- Name by name. -/
def sums8 (a b : List AR) (times : Int) (names : List ByteArray) : List AR := names.filterMap fun s => if coefA a s + times * coefA b s = 0 then none else some ⟨s, coefA a s + times * coefA b s⟩
theorem sums8_good (a b : List AR) (times : Int) : ∀ (names : List ByteArray), Asc names → Asc8 (sums8 a b times names) ∧ Nz8 (sums8 a b times names) ∧ (∀ t ∈ sums8 a b times names, t.s ∈ names) ∧ ∀ s ∈ names, coefA (sums8 a b times names) s = coefA a s + times * coefA b s
  | [], _ => ⟨by simp [sums8, Asc8], by simp [sums8, Nz8], by simp [sums8], by simp⟩
  | x :: names, h => by
    have h' := List.pairwise_cons.1 h
    obtain ⟨a1, a2, a3, a4⟩ := sums8_good a b times names h'.2
    by_cases hz : coefA a x + times * coefA b x = 0
    · have e : sums8 a b times (x :: names) = sums8 a b times names := by simp [sums8, hz]
      rw [e]
      refine ⟨a1, a2, fun t ht => by simp [a3 t ht], fun s hs => ?_⟩
      rcases List.mem_cons.1 hs with rfl | hs
      · rw [hz]
        exact coefA_off8 s _ (fun t ht e => blt_ne8 (h'.1 t.s (a3 t ht)) e)
      · exact a4 s hs
    · have e : sums8 a b times (x :: names) = ⟨x, coefA a x + times * coefA b x⟩ :: sums8 a b times names := by simp [sums8, hz]
      rw [e]
      refine ⟨List.pairwise_cons.2 ⟨fun t ht => h'.1 t.s (a3 t ht), a1⟩, ?_, ?_, fun s hs => ?_⟩
      · intro t ht
        rcases List.mem_cons.1 ht with rfl | ht
        · exact hz
        · exact a2 t ht
      · intro t ht
        rcases List.mem_cons.1 ht with rfl | ht
        · simp
        · simp [a3 t ht]
      · rw [coefA]
        by_cases hx : x = s
        · rw [if_pos hx, hx]
        · rw [if_neg hx]
          rcases List.mem_cons.1 hs with rfl | hs
          · exact absurd rfl hx
          · exact a4 s hs
theorem less8_sums {a b : List AR} {names : List ByteArray} (f : Nat) (hf : a.length + b.length ≤ f) (aa : Asc8 a) (ab : Asc8 b) (ba : Bd8 a) (bb : Bd8 b) (na : Nz8 a) (nb : Nz8 b) (hn : Asc names) (hm : ∀ s, s ∈ names ↔ (∃ t ∈ a, t.s = s) ∨ ∃ t ∈ b, t.s = s) : less8 f a b = sums8 a b (-1) names := by
  obtain ⟨h1, h2, h3⟩ := less8_good f a b hf aa ab ba bb na nb
  obtain ⟨k1, k2, k3, k4⟩ := sums8_good a b (-1) names hn
  refine ext8 _ _ h1 k1 h2 k2 (fun s => ?_)
  rw [h3]
  by_cases hs : s ∈ names
  · rw [k4 s hs]; omega
  · have := mt (hm s).2 hs
    rw [coefA_off8 s a (fun t ht e => this (.inl ⟨t, ht, e⟩)), coefA_off8 s b (fun t ht e => this (.inr ⟨t, ht, e⟩)), coefA_off8 s _ (fun t ht e => hs (e ▸ k3 t ht))]
    rfl
end Go.Proofs.Ytfacenfiocdbgaa
