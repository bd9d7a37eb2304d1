/-
  The contracts of the specification's l4Exp, l4Exps, Asked, and what their names are.
-/
import Derived.Test.YthokildkedlkfaaNameVars
import Derived.Test.YthokildkedlkfaaAstVisE
namespace Go.Proofs.Ythokildkedlkfaa
open Go.RowKit Go.Lib
set_option linter.unusedSimpArgs false
set_option linter.unusedVariables false

/-- An expression and all that stand under it. -/
def xall (x : X) : List EN := (x.h, x.l) :: enall x.l
def hall (h : SH) : List EN := xall h.x1 ++ (xall h.x2 ++ (xall h.x3 ++ xall h.x4))
/-- All expressions that stand in a row of statements. -/
def sallE : SF → List EN
  | .nil => []
  | .node _ _ h l r => hall h ++ (sallE l ++ sallE r)
theorem sallE_mem : ∀ (F : SF) (a : EN), a ∈ sallE F ↔ ∃ n ∈ sall F, a ∈ hall n.1
  | .nil, a => by simp [sallE, sall]
  | .node _ _ h l r, a => by
    simp only [sallE, sall, List.mem_append, List.mem_cons, sallE_mem l a, sallE_mem r a]
    constructor
    · rintro (e | ⟨n, h1, h2⟩ | ⟨n, h1, h2⟩)
      · exact ⟨_, .inl rfl, e⟩
      · exact ⟨n, .inr (.inl h1), h2⟩
      · exact ⟨n, .inr (.inr h1), h2⟩
    · rintro ⟨n, (rfl | h1 | h1), h2⟩
      · exact .inl h2
      · exact .inr (.inl ⟨n, h1, h2⟩)
      · exact .inr (.inr ⟨n, h1, h2⟩)
theorem enall_small : ∀ (F : EF) (n : EN), n ∈ enall F → n.1.s.size ≤ esize F
  | .nil, n, h => by simp [enall] at h
  | .node _ _ h l r, n, hn => by
    simp only [enall, List.mem_cons, List.mem_append] at hn
    simp only [esize]
    rcases hn with rfl | hn | hn
    · show h.s.size ≤ _; omega
    · have := enall_small l n hn; omega
    · have := enall_small r n hn; omega
theorem xall_small (x : X) (n : EN) (h : n ∈ xall x) : n.1.s.size ≤ xsize x := by
  simp only [xall, List.mem_cons] at h
  unfold xsize
  rcases h with rfl | h
  · show x.h.s.size ≤ _; omega
  · have := enall_small x.l n h; omega
theorem hall_small (h : SH) (n : EN) (hn : n ∈ hall h) : n.1.s.size ≤ hsize h := by
  simp only [hall, List.mem_append] at hn
  unfold hsize
  rcases hn with hn | hn | hn | hn
  · have := xall_small _ n hn; omega
  · have := xall_small _ n hn; omega
  · have := xall_small _ n hn; omega
  · have := xall_small _ n hn; omega
theorem sallE_small : ∀ (F : SF) (n : EN), n ∈ sallE F → n.1.s.size ≤ ssize F
  | .nil, n, h => by simp [sallE] at h
  | .node _ _ h l r, n, hn => by
    simp only [sallE, List.mem_append] at hn
    simp only [ssize]
    rcases hn with hn | hn | hn
    · have := hall_small h n hn; omega
    · have := sallE_small l n hn; omega
    · have := sallE_small r n hn; omega
theorem xall_len (x : X) : (xall x).length = enodes x.l + 1 := by simp [xall, enall_len]
theorem hall_len (h : SH) : (hall h).length = enodes h.x1.l + enodes h.x2.l + enodes h.x3.l + enodes h.x4.l + 4 := by
  simp only [hall, List.length_append, xall_len]; omega
theorem sallE_len : ∀ (F : SF), (sallE F).length ≤ 5 * ssize F
  | .nil => by simp [sallE, ssize]
  | .node _ _ h l r => by
    have := sallE_len l; have := sallE_len r
    have := enodes_le h.x1.l; have := enodes_le h.x2.l; have := enodes_le h.x3.l; have := enodes_le h.x4.l
    simp only [sallE, List.length_append, hall_len, ssize, hsize, xsize]; omega
/-- The name of an expression of that kind. -/
def ofKindE (k : Int) (n : EN) : Option ByteArray := if n.1.k = k then some n.1.s else Option.none
theorem put_names (k : Int) (h : EH) (l : EF) (out : List ByteArray) (ho : Asc out) : Asc (if h.k = k then putR h.s false out else out) ∧ ∀ s, s ∈ (if h.k = k then putR h.s false out else out) ↔ (s ∈ out ∨ ofKindE k (h, l) = some s) := by
  by_cases hk : h.k = k
  · rw [if_pos hk]
    obtain ⟨i1, i2⟩ := asc_put h.s out ho
    refine ⟨i1, fun s => ?_⟩
    rw [i2 s]
    simp only [ofKindE, if_pos hk, Option.some.injEq]
    constructor
    · rintro (e | e)
      · exact .inr e.symm
      · exact .inl e
    · rintro (e | e)
      · exact .inr e
      · exact .inl e.symm
  · rw [if_neg hk]
    refine ⟨ho, fun s => ?_⟩
    simp [ofKindE, if_neg hk]
theorem nmE_names (k : Int) : ∀ (F : EF) (out : List ByteArray), Asc out → Asc (nmE k F out) ∧ ∀ s, s ∈ nmE k F out ↔ (s ∈ out ∨ ∃ a ∈ enall F, ofKindE k a = some s)
  | .nil, out, h => ⟨h, fun s => by simp [nmE, enall]⟩
  | .node p q h l r, out, ho => by
    have hput := put_names k h l out ho
    obtain ⟨l1, l2⟩ := nmE_names k l _ hput.1
    obtain ⟨r1, r2⟩ := nmE_names k r _ l1
    refine ⟨r1, fun s => ?_⟩
    show s ∈ nmE k r (nmE k l _) ↔ _
    rw [r2 s, l2 s, hput.2 s]
    simp only [enall, List.mem_cons, List.mem_append]
    constructor
    · rintro (((e | e) | ⟨a, h1, h2⟩) | ⟨a, h1, h2⟩)
      · exact .inl e
      · exact .inr ⟨_, .inl rfl, e⟩
      · exact .inr ⟨a, .inr (.inl h1), h2⟩
      · exact .inr ⟨a, .inr (.inr h1), h2⟩
    · rintro (e | ⟨a, (rfl | h1 | h1), h2⟩)
      · exact .inl (.inl (.inl e))
      · exact .inl (.inl (.inr h2))
      · exact .inl (.inr ⟨a, h1, h2⟩)
      · exact .inr ⟨a, h1, h2⟩
theorem nmX_names (k : Int) (x : X) (out : List ByteArray) (ho : Asc out) : Asc (nmX k x out) ∧ ∀ s, s ∈ nmX k x out ↔ (s ∈ out ∨ ∃ a ∈ xall x, ofKindE k a = some s) := by
  have hput := put_names k x.h x.l out ho
  obtain ⟨l1, l2⟩ := nmE_names k x.l _ hput.1
  refine ⟨l1, fun s => ?_⟩
  show s ∈ nmE k x.l _ ↔ _
  rw [l2 s, hput.2 s]
  simp only [xall, List.mem_cons]
  constructor
  · rintro ((e | e) | ⟨a, h1, h2⟩)
    · exact .inl e
    · exact .inr ⟨_, .inl rfl, e⟩
    · exact .inr ⟨a, .inr h1, h2⟩
  · rintro (e | ⟨a, (rfl | h1), h2⟩)
    · exact .inl (.inl e)
    · exact .inl (.inr h2)
    · exact .inr ⟨a, h1, h2⟩
theorem nmA_names (k : Int) : ∀ (F : SF) (out : List ByteArray), Asc out → Asc (nmA k F out) ∧ ∀ s, s ∈ nmA k F out ↔ (s ∈ out ∨ ∃ a ∈ sallE F, ofKindE k a = some s)
  | .nil, out, h => ⟨h, fun s => by simp [nmA, sallE]⟩
  | .node p q h l r, out, ho => by
    obtain ⟨a1, b1⟩ := nmX_names k h.x1 out ho
    obtain ⟨a2, b2⟩ := nmX_names k h.x2 _ a1
    obtain ⟨a3, b3⟩ := nmX_names k h.x3 _ a2
    obtain ⟨a4, b4⟩ := nmX_names k h.x4 _ a3
    obtain ⟨l1, l2⟩ := nmA_names k l _ a4
    obtain ⟨r1, r2⟩ := nmA_names k r _ l1
    refine ⟨r1, fun s => ?_⟩
    show s ∈ nmA k r (nmA k l _) ↔ _
    rw [r2 s, l2 s, b4 s, b3 s, b2 s, b1 s]
    simp only [sallE, hall, List.mem_append]
    constructor
    · rintro ((((((e | ⟨a, h1, h2⟩) | ⟨a, h1, h2⟩) | ⟨a, h1, h2⟩) | ⟨a, h1, h2⟩) | ⟨a, h1, h2⟩) | ⟨a, h1, h2⟩)
      · exact .inl e
      · exact .inr ⟨a, .inl (.inl h1), h2⟩
      · exact .inr ⟨a, .inl (.inr (.inl h1)), h2⟩
      · exact .inr ⟨a, .inl (.inr (.inr (.inl h1))), h2⟩
      · exact .inr ⟨a, .inl (.inr (.inr (.inr h1))), h2⟩
      · exact .inr ⟨a, .inr (.inl h1), h2⟩
      · exact .inr ⟨a, .inr (.inr h1), h2⟩
    · rintro (e | ⟨a, ((h1 | h1 | h1 | h1) | h1 | h1), h2⟩)
      · exact .inl (.inl (.inl (.inl (.inl (.inl e)))))
      · exact .inl (.inl (.inl (.inl (.inl (.inr ⟨a, h1, h2⟩)))))
      · exact .inl (.inl (.inl (.inl (.inr ⟨a, h1, h2⟩))))
      · exact .inl (.inl (.inl (.inr ⟨a, h1, h2⟩)))
      · exact .inl (.inl (.inr ⟨a, h1, h2⟩))
      · exact .inl (.inr ⟨a, h1, h2⟩)
      · exact .inr ⟨a, h1, h2⟩
theorem put_len (k : Int) (h : EH) (out : List ByteArray) : (if h.k = k then putR h.s false out else out).length ≤ out.length + 1 := by split; exact putR_len _ _ _; omega
theorem nmE_len (k : Int) : ∀ (F : EF) (out : List ByteArray), (nmE k F out).length ≤ out.length + enodes F
  | .nil, out => by simp [nmE, enodes]
  | .node p q h l r, out => by
    have h0 := put_len k h out
    have h1 := nmE_len k l (if h.k = k then putR h.s false out else out)
    have h2 := nmE_len k r (nmE k l (if h.k = k then putR h.s false out else out))
    simp only [nmE, enodes]; omega
theorem nmX_len (k : Int) (x : X) (out : List ByteArray) : (nmX k x out).length ≤ out.length + enodes x.l + 1 := by
  have h0 := put_len k x.h out
  have h1 := nmE_len k x.l (if x.h.k = k then putR x.h.s false out else out)
  unfold nmX; omega
theorem nmA_lenE (k : Int) : ∀ (F : SF) (out : List ByteArray), (nmA k F out).length ≤ out.length + (sallE F).length
  | .nil, out => by simp [nmA, sallE]
  | .node p q h l r, out => by
    have h1 := nmX_len k h.x1 out
    have h2 := nmX_len k h.x2 (nmX k h.x1 out)
    have h3 := nmX_len k h.x3 (nmX k h.x2 (nmX k h.x1 out))
    have h4 := nmX_len k h.x4 (nmX k h.x3 (nmX k h.x2 (nmX k h.x1 out)))
    have h5 := nmA_lenE k l (nmX k h.x4 (nmX k h.x3 (nmX k h.x2 (nmX k h.x1 out))))
    have h6 := nmA_lenE k r (nmA k l (nmX k h.x4 (nmX k h.x3 (nmX k h.x2 (nmX k h.x1 out)))))
    have h7 := hall_len h
    simp only [nmA, sallE, List.length_append]; omega
theorem nmA_len (k : Int) (F : SF) (out : List ByteArray) : (nmA k F out).length ≤ out.length + 5 * ssize F := Nat.le_trans (nmA_lenE k F out) (by have := sallE_len F; omega)
end Go.Proofs.Ythokildkedlkfaa
