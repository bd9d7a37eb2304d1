/-
  What it is that no name of a program is two things (no Go): told of all its statements at once, and told one statement behind the other.
-/
import Derived.Test.YtkilmefpaojkfaaGreatNameAskS
namespace Go.Proofs.YtkilmefpaojkfaaGreat
open Go.RowKit Go.Lib
set_option linter.unusedSimpArgs false
set_option linter.unusedVariables false

/-- The expressions of a statement ask arrays as arrays, and no array as a word. -/
def expFits (arrs : List ByteArray) (h : SH) : Prop := ∀ a ∈ hall h, (a.1.k = 3 → a.1.s ∈ arrs) ∧ (a.1.k = 2 → a.1.s ∉ arrs)
/-- What is asked of one statement among all. -/
def oneFits (arrs : List ByteArray) (ps : List SN) (n : SN) : Prop :=
  expFits arrs n.1 ∧ (n.1.k = 2 → n.1.s ∈ arrs) ∧ (n.1.k = 1 → n.1.s ∉ arrs ∧ ∀ m ∈ ps, m.1.k = 3 → m.1.s ≠ n.1.s) ∧ (n.1.k = 3 → n.1.s ∉ arrs)
def AllFit (arrs : List ByteArray) (ps : List SN) : Prop := ∀ n ∈ ps, oneFits arrs ps n
/-- What a name is when these statements have been gone through. -/
structure TT (arrs : List ByteArray) (ps : List SN) (T : ByteArray → Int) : Prop where
  arr : ∀ s, T s = 1 ↔ s ∈ arrs
  var : ∀ s, T s = 2 ↔ (s ∉ arrs ∧ ∃ n ∈ ps, n.1.k = 1 ∧ n.1.s = s)
  loop : ∀ s, T s = 3 ↔ (s ∉ arrs ∧ ∃ n ∈ ps, n.1.k = 3 ∧ n.1.s = s)
  all : ∀ s, T s = 0 ∨ T s = 1 ∨ T s = 2 ∨ T s = 3
/-- No loop's name is that of one it is in. -/
def nestP : SF → (ByteArray → Bool) → Prop
  | .nil, _ => True
  | .node _ _ h l r, R => (h.k = 3 → R h.s = false ∧ nestP l (fun s => R s || decide (s = h.s))) ∧ nestP r R
/-- Only loops have a body. -/
def bodies : SF → Prop
  | .nil => True
  | .node _ _ h l r => (h.k ≠ 3 → l = .nil) ∧ bodies l ∧ bodies r
theorem AllFit.left {arrs : List ByteArray} {ps qs : List SN} (h : AllFit arrs (ps ++ qs)) : AllFit arrs ps := fun n hn => by
  obtain ⟨h1, h2, h3, h4⟩ := h n (List.mem_append_left _ hn)
  exact ⟨h1, h2, fun hk => ⟨(h3 hk).1, fun m hm => (h3 hk).2 m (List.mem_append_left _ hm)⟩, h4⟩
/-- What the landed code asks of one statement, when these have been gone through. -/
def stepFits (arrs : List ByteArray) (T : ByteArray → Int) (h : SH) : Prop :=
  expFits arrs h ∧ (h.k = 1 → T h.s = 0 ∨ T h.s = 2) ∧ (h.k = 2 → T h.s = 1) ∧ (h.k = 3 → T h.s = 0 ∨ T h.s = 3)
theorem step_iff {arrs : List ByteArray} {ps : List SN} {T : ByteArray → Int} (hT : TT arrs ps T) (hA : AllFit arrs ps) (h : SH) (l : SF) : stepFits arrs T h ↔ AllFit arrs (ps ++ [(h, l)]) := by
  constructor
  · rintro ⟨a1, a2, a3, a4⟩ n hn
    rcases List.mem_append.1 hn with hn | hn
    · obtain ⟨h1, h2, h3, h4⟩ := hA n hn
      refine ⟨h1, h2, fun hk => ⟨(h3 hk).1, fun m hm hm3 => ?_⟩, h4⟩
      rcases List.mem_append.1 hm with hm | hm
      · exact (h3 hk).2 m hm hm3
      · simp only [List.mem_cons, List.not_mem_nil, or_false] at hm
        subst hm
        intro e
        have t2 : T n.1.s = 2 := (hT.var _).2 ⟨(h3 hk).1, n, hn, hk, rfl⟩
        have e' : h.s = n.1.s := e
        have t3 : T h.s = 0 ∨ T h.s = 3 := a4 hm3
        rw [e'] at t3; omega
    · simp only [List.mem_cons, List.not_mem_nil, or_false] at hn
      subst hn
      refine ⟨a1, fun hk => (hT.arr _).1 (a3 hk), fun hk => ⟨fun hm => ?_, fun m hm hm3 e => ?_⟩, fun hk hm => ?_⟩
      · have t1 : T h.s = 1 := (hT.arr _).2 hm
        have := a2 hk; omega
      · rcases List.mem_append.1 hm with hm | hm
        · have hna : h.s ∉ arrs := fun hm => by have := (hT.arr _).2 hm; have := a2 hk; omega
          have t3 : T h.s = 3 := (hT.loop _).2 ⟨hna, m, hm, hm3, e⟩
          have := a2 hk; omega
        · simp only [List.mem_cons, List.not_mem_nil, or_false] at hm
          subst hm
          simp only [] at hm3 hk
          omega
      · have t1 : T h.s = 1 := (hT.arr _).2 hm
        have := a4 hk; omega
  · intro hall
    obtain ⟨h1, h2, h3, h4⟩ := hall (h, l) (by simp)
    refine ⟨h1, fun hk => ?_, fun hk => (hT.arr _).2 (h2 hk), fun hk => ?_⟩
    · obtain ⟨n1, n2⟩ := h3 hk
      rcases hT.all h.s with e | e | e | e
      · exact .inl e
      · exact absurd ((hT.arr _).1 e) n1
      · exact .inr e
      · obtain ⟨_, m, hm, hm3, he⟩ := (hT.loop _).1 e
        exact absurd he (n2 m (List.mem_append_left _ hm) hm3)
    · rcases hT.all h.s with e | e | e | e
      · exact .inl e
      · exact absurd ((hT.arr _).1 e) (h4 hk)
      · obtain ⟨hna, m, hm, hm1, he⟩ := (hT.var _).1 e
        obtain ⟨_, _, g3, _⟩ := hall m (List.mem_append_left _ hm)
        exact absurd he.symm ((g3 hm1).2 (h, l) (by simp) hk)
      · exact .inr e
/-- A name that becomes something. -/
def setT (T : ByteArray → Int) (s : ByteArray) (k : Int) : ByteArray → Int := fun t => if t = s ∧ T s = 0 then k else T t
def nextT (T : ByteArray → Int) (h : SH) : ByteArray → Int := if h.k = 1 then setT T h.s 2 else if h.k = 3 then setT T h.s 3 else T
theorem TT.next {arrs : List ByteArray} {ps : List SN} {T : ByteArray → Int} (hT : TT arrs ps T) (h : SH) (l : SF) (hf : stepFits arrs T h) : TT arrs (ps ++ [(h, l)]) (nextT T h) := by
  obtain ⟨_, f1, f2, f3⟩ := hf
  by_cases h1 : h.k = 1
  · have e : nextT T h = setT T h.s 2 := by unfold nextT; rw [if_pos h1]
    rw [e]
    have hna : h.s ∉ arrs := fun hm => by have := (hT.arr _).2 hm; have := f1 h1; omega
    have hv : ∀ s, setT T h.s 2 s = if s = h.s then 2 else T s := fun s => by
      unfold setT
      by_cases hs : s = h.s
      · rcases f1 h1 with e | e
        · rw [if_pos ⟨hs, e⟩, if_pos hs]
        · rw [if_neg (fun c => by omega), if_pos hs, hs, e]
      · rw [if_neg (fun c => hs c.1), if_neg hs]
    refine ⟨fun s => ?_, fun s => ?_, fun s => ?_, fun s => ?_⟩
    · rw [hv s]
      by_cases hs : s = h.s
      · rw [if_pos hs, hs]; constructor
        · intro c; omega
        · intro c; exact absurd c hna
      · rw [if_neg hs]; exact hT.arr s
    · rw [hv s]
      by_cases hs : s = h.s
      · rw [if_pos hs, hs]; simp only [true_iff]
        exact ⟨hna, (h, l), by simp, h1, rfl⟩
      · rw [if_neg hs, hT.var s]
        constructor
        · rintro ⟨a, n, hn, b, c⟩; exact ⟨a, n, List.mem_append_left _ hn, b, c⟩
        · rintro ⟨a, n, hn, b, c⟩
          rcases List.mem_append.1 hn with hn | hn
          · exact ⟨a, n, hn, b, c⟩
          · simp only [List.mem_cons, List.not_mem_nil, or_false] at hn; subst hn; exact absurd c.symm hs
    · rw [hv s]
      by_cases hs : s = h.s
      · rw [if_pos hs, hs]; constructor
        · intro c; omega
        · rintro ⟨a, n, hn, b, c⟩
          rcases List.mem_append.1 hn with hn | hn
          · have := (hT.loop h.s).2 ⟨a, n, hn, b, c⟩; have := f1 h1; omega
          · simp only [List.mem_cons, List.not_mem_nil, or_false] at hn; subst hn; simp only [] at b; omega
      · rw [if_neg hs, hT.loop s]
        constructor
        · rintro ⟨a, n, hn, b, c⟩; exact ⟨a, n, List.mem_append_left _ hn, b, c⟩
        · rintro ⟨a, n, hn, b, c⟩
          rcases List.mem_append.1 hn with hn | hn
          · exact ⟨a, n, hn, b, c⟩
          · simp only [List.mem_cons, List.not_mem_nil, or_false] at hn; subst hn; exact absurd c.symm hs
    · rw [hv s]; split
      · omega
      · exact hT.all s
  · by_cases h3 : h.k = 3
    · have e : nextT T h = setT T h.s 3 := by unfold nextT; rw [if_neg h1, if_pos h3]
      rw [e]
      have hna : h.s ∉ arrs := fun hm => by have := (hT.arr _).2 hm; have := f3 h3; omega
      have hv : ∀ s, setT T h.s 3 s = if s = h.s then 3 else T s := fun s => by
        unfold setT
        by_cases hs : s = h.s
        · rcases f3 h3 with e | e
          · rw [if_pos ⟨hs, e⟩, if_pos hs]
          · rw [if_neg (fun c => by omega), if_pos hs, hs, e]
        · rw [if_neg (fun c => hs c.1), if_neg hs]
      refine ⟨fun s => ?_, fun s => ?_, fun s => ?_, fun s => ?_⟩
      · rw [hv s]
        by_cases hs : s = h.s
        · rw [if_pos hs, hs]; constructor
          · intro c; omega
          · intro c; exact absurd c hna
        · rw [if_neg hs]; exact hT.arr s
      · rw [hv s]
        by_cases hs : s = h.s
        · rw [if_pos hs, hs]; constructor
          · intro c; omega
          · rintro ⟨a, n, hn, b, c⟩
            rcases List.mem_append.1 hn with hn | hn
            · have := (hT.var h.s).2 ⟨a, n, hn, b, c⟩; have := f3 h3; omega
            · simp only [List.mem_cons, List.not_mem_nil, or_false] at hn; subst hn; simp only [] at b; omega
        · rw [if_neg hs, hT.var s]
          constructor
          · rintro ⟨a, n, hn, b, c⟩; exact ⟨a, n, List.mem_append_left _ hn, b, c⟩
          · rintro ⟨a, n, hn, b, c⟩
            rcases List.mem_append.1 hn with hn | hn
            · exact ⟨a, n, hn, b, c⟩
            · simp only [List.mem_cons, List.not_mem_nil, or_false] at hn; subst hn; exact absurd c.symm hs
      · rw [hv s]
        by_cases hs : s = h.s
        · rw [if_pos hs, hs]; simp only [true_iff]
          exact ⟨hna, (h, l), by simp, h3, rfl⟩
        · rw [if_neg hs, hT.loop s]
          constructor
          · rintro ⟨a, n, hn, b, c⟩; exact ⟨a, n, List.mem_append_left _ hn, b, c⟩
          · rintro ⟨a, n, hn, b, c⟩
            rcases List.mem_append.1 hn with hn | hn
            · exact ⟨a, n, hn, b, c⟩
            · simp only [List.mem_cons, List.not_mem_nil, or_false] at hn; subst hn; exact absurd c.symm hs
      · rw [hv s]; split
        · omega
        · exact hT.all s
    · have e : nextT T h = T := by unfold nextT; rw [if_neg h1, if_neg h3]
      rw [e]
      have key : ∀ s (k : Int), (k = 1 ∨ k = 3) → ((∃ n ∈ ps ++ [(h, l)], n.1.k = k ∧ n.1.s = s) ↔ ∃ n ∈ ps, n.1.k = k ∧ n.1.s = s) := fun s k hk => by
        constructor
        · rintro ⟨n, hn, b, c⟩
          rcases List.mem_append.1 hn with hn | hn
          · exact ⟨n, hn, b, c⟩
          · simp only [List.mem_cons, List.not_mem_nil, or_false] at hn; subst hn; simp only [] at b; omega
        · rintro ⟨n, hn, b, c⟩; exact ⟨n, List.mem_append_left _ hn, b, c⟩
      exact ⟨hT.arr, fun s => by rw [hT.var s, key s 1 (.inl rfl)], fun s => by rw [hT.loop s, key s 3 (.inr rfl)], hT.all⟩
end Go.Proofs.YtkilmefpaojkfaaGreat
