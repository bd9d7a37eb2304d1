import Derived.Test.YtpinockfakndlaaGreatP37ofFnEvals
import Derived.Test.YtpinockfakndlaaGreatP03ofFnEvals
import Derived.Test.YtpinockfakndlaaGreatP06ofFnEvals
import Derived.Test.YtpinockfakndlaaGreatP22ofFnEvals
import Derived.Test.YtpinockfakndlaaGreatP31ofFnEvals
namespace Go.Proofs.YtpinockfakndlaaGreat
open Go.RowKit Go.Lib
set_option linter.unusedSimpArgs false
set_option linter.unusedVariables false
def likeV : Value → Value → Prop
  | .int .i64 _, u => ∃ n, u = .int .i64 n
  | .string _, u => ∃ s, u = .string s
  | v, u => u = v
def IntC (w : World) (lo hi b o : Nat) : Prop := (lo ≤ b ∧ b < hi) ∧ w.frozen? ⟨b, o, Option.none⟩ = false ∧ ∃ n, w.cell? ⟨b, o, Option.none⟩ = some (.int .i64 n)
def StrC (w : World) (lo hi b o : Nat) : Prop := (lo ≤ b ∧ b < hi) ∧ w.frozen? ⟨b, o, Option.none⟩ = false ∧ ∃ n, w.cell? ⟨b, o, Option.none⟩ = some (.string n)
def EK (w : World) (lo hi : Nat) : EF → Nat → Nat → Prop
  | .nil, _, _ => True
  | .node _ _ h l r, b, o =>
    (IntC w lo hi b o ∧ IntC w lo hi b (o + 1) ∧ StrC w lo hi b (o + 2) ∧ ∃ b' o' a' c', w.cell? ⟨b, o + 3, Option.none⟩ = some (.slice a' (elen l) c') ∧ (a' = some ⟨b', o', Option.none⟩ ∨ l = .nil) ∧ EK w lo hi l b' o') ∧ EK w lo hi r b (o + 4)
def EKV (w : World) (lo hi : Nat) (F : EF) (v : Value) : Prop := ∃ b o a c, v = .slice a (elen F) c ∧ (a = some ⟨b, o, Option.none⟩ ∨ F = .nil) ∧ EK w lo hi F b o
def smk : SF → Nat
  | .nil => 0
  | .node _ _ h l r => 14 + 3 * (enodes h.x1.l + enodes h.x2.l + enodes h.x3.l + enodes h.x4.l) + smk l + smk r
theorem smk_le : ∀ F : SF, smk F ≤ 14 * ssize F
  | .nil => Nat.le_refl _
  | .node _ _ h l r => by
    have := smk_le l; have := smk_le r
    have := enodes_le h.x1.l; have := enodes_le h.x2.l; have := enodes_le h.x3.l; have := enodes_le h.x4.l
    simp only [smk, ssize, hsize, xsize]; omega
theorem totA_zrows (ts : List AR) : totA (zrows ts) ≤ 16 * ts.length := by
  induction ts with
  | nil => simp [zrows, totA]
  | cons t ts ih =>
    have := nz_len t.n
    simp only [zrows, List.map_cons, totA, List.length_cons] at ih ⊢
    omega
def SpecSto (w : World) (A : List (List Int)) (V O : List Int) (en : Int) (e : Ending) (w' : World) : Prop :=
  ∃ ua uv uo, e = .returned (.agg #[ua, uv, uo, .int .i64 en]) ∧ StoV w' ua uv uo A V O ∧ Below w.heap.size w w'
def OutSto (w : World) (A : List (List Int)) (V O : List Int) (en : Int) (e : Ending) (w' : World) : Prop :=
  ∃ ua uv uo rs, e = .returned (.agg #[ua, uv, uo, .int .i64 en]) ∧ rs.map (·.2) = A ∧ StoO w' w.heap.size ua rs (uv, V) (uo, O) ∧ Below w.heap.size w w'
theorem NewSto.out {w w' : World} {ts : List AR} {n : Nat} {e : Ending} (h : NewSto w ts n e w') : OutSto w (zrows ts) (List.replicate n 0) [] 0 e w' := by
  obtain ⟨ua, v, rs, h1, h2, h3, h4⟩ := h
  exact ⟨ua, v, _, rs, h1, h2, h3, h4⟩
theorem OutSto.spec {w w' : World} {A : List (List Int)} {V O : List Int} {en : Int} {e : Ending} (h : OutSto w A V O en e w') : SpecSto w A V O en e w' := by
  obtain ⟨ua, uv, uo, rs, h1, h2, h3, h4⟩ := h
  exact ⟨ua, uv, uo, h1, by have := h3.stoV; rw [h2] at this; exact this, h4⟩
end Go.Proofs.YtpinockfakndlaaGreat
