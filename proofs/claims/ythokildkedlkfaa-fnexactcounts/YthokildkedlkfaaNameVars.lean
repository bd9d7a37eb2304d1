/-
  The contracts of VarsOf and LoopVars, the specification's and the landed code's.
-/
import Derived.Test.YthokildkedlkfaaNameSpec
namespace Go.Proofs.Ythokildkedlkfaa
open Go.RowKit Go.Lib
set_option linter.unusedSimpArgs false
set_option linter.unusedVariables false

theorem sall_small : ∀ (F : SF) (n : SN), n ∈ sall F → n.1.s.size ≤ ssize F
  | .nil, n, h => by simp [sall] at h
  | .node _ _ h l r, n, hn => by
    simp only [sall, List.mem_cons, List.mem_append] at hn
    simp only [ssize, hsize]
    rcases hn with rfl | hn | hn
    · show h.s.size ≤ _; omega
    · have := sall_small l n hn; omega
    · have := sall_small r n hn; omega
theorem empty_row (w : World) : TV (w.alloc (.cells #[] 9)) 0 (.slice (some ⟨w.heap.size, 0, Option.none⟩) 0 0) [] := ⟨_, _, rfl, .inl rfl⟩
/-- What the landed code answers: the same names, in a row of its own. -/
def GoodNames (w : World) (ns : List ByteArray) (e : Ending) (w' : World) : Prop := ∃ v', e = .returned v' ∧ w'.ownsRow w.heap.size 9 1 v' ns.length (ns.map Value.string) ∧ Below w.heap.size w w'
def SpecNames (w : World) (ns : List ByteArray) (e : Ending) (w' : World) : Prop := ∃ v', e = .returned v' ∧ TV w' 0 v' ns ∧ Below w.heap.size w w'
theorem names_same (k : Int) (F : SF) (ns : List ByteArray) (h1 : Asc ns) (h2 : ∀ s, s ∈ ns ↔ ∃ a ∈ sall F, ofKind k a = some s) : ns = nmS k F [] := by
  obtain ⟨a1, a2⟩ := nmS_names k F [] List.Pairwise.nil
  exact asc_ext h1 a1 (fun s => by rw [h2 s, a2 s]; simp)
set_option maxRecDepth 100000 in
theorem spec_VarsOf (F : SF) (hF : snodes F ≤ 10000000) (w : World) (v : Value) (hv : SV w 0 F v) : Calls Try.prog 45 #[v] w (SpecNames w (nmS 1 F [])) := by
  have C := Lib.hid (l4Names_is 1 F [] (w.alloc (.cells #[] 9)) _ v (by simpa using hF) (empty_row w) (hv.later (alloc_below _ _)))
  go_enter Try.func45, Try.ntmps45
  go_wp2_with fail
  refine C.out.mono ?_
  rintro e w1 ⟨v1, rfl, hv1, hb1⟩
  have B := Lib.hid (And.intro hv1 (below_alloc hb1))
  clear hv1 hb1
  go_wp2
  go_ret
  exact ⟨_, rfl, B.out.1, B.out.2⟩
set_option maxRecDepth 100000 in
theorem impl_VarsOf (F : SF) (hF : snodes F ≤ 10000000) (hs : ∀ n ∈ sall F, n.1.s.size ≤ 10000000) (w : World) (v : Value) (hv : SV w 0 F v) : Calls Try.prog 62 #[v] w (GoodNames w (nmS 1 F [])) := by
  have C := Lib.hid (namesOfKind_is F hF hs 1 w v hv)
  go_enter Try.func62, Try.ntmps62
  go_wp2_with fail
  refine C.out.mono ?_
  rintro e w1 ⟨v1, ns, rfl, h1, h2, h3, h4, h5⟩
  have B := Lib.hid (And.intro (names_same 1 F ns h1 h2) (And.intro h4 h5))
  clear h1 h2 h3 h4 h5
  go_wp2
  go_ret
  exact ⟨_, rfl, by rw [← B.out.1]; exact B.out.2.1, B.out.2.2⟩
end Go.Proofs.Ythokildkedlkfaa
