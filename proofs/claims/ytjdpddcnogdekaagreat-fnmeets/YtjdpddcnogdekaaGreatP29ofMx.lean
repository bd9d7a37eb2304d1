/-
  Texts in one: AffSumI, AffAddS.
-/
import Derived.Test.YtjdpddcnogdekaaGreatP28ofMx
import Derived.Test.YtjdpddcnogdekaaGreatAffOkS
import Derived.Test.YtjdpddcnogdekaaGreatP15ofMx
/-
  l8Sum of the specification.
-/
namespace Go.Proofs.YtjdpddcnogdekaaGreat
open Go.RowKit Go.Lib
set_option linter.unusedSimpArgs false
set_option linter.unusedVariables false

/-- Name by name, in machine numbers. -/
def one8 (a b : List AR) (n : Int) (s : ByteArray) : Int := IntKind.i64.wrap (coefA a s + IntKind.i64.wrap (n * coefA b s))
def sumsW8 (a b : List AR) (n : Int) (names : List ByteArray) : List AR := names.filterMap fun s => if one8 a b n s = 0 then none else some ⟨s, one8 a b n s⟩
theorem sumsW8_take (a b : List AR) (n : Int) {names : List ByteArray} {k : Nat} {s : ByteArray} (h : names[k]? = some s) :
    sumsW8 a b n (names.take (k + 1)) = sumsW8 a b n (names.take k) ++ (if one8 a b n s = 0 then [] else [⟨s, one8 a b n s⟩]) := by
  rw [List.take_add_one, h, sumsW8, List.filterMap_append]
  congr 1
  by_cases h0 : one8 a b n s = 0
  · simp [h0]
  · simp [h0]
theorem sumsW8_len (a b : List AR) (n : Int) (names : List ByteArray) : (sumsW8 a b n names).length ≤ names.length := List.length_filterMap_le _ _
def sumOk8 (ca cb n : Int) (la lb : List AR) (L : List AR) : Bool := affOk8 ca la && affOk8 cb lb && affOk8 (IntKind.i64.wrap (ca + IntKind.i64.wrap (n * cb))) L
set_option maxHeartbeats 4000000 in
set_option maxRecDepth 100000 in
theorem K8.below {n m S : Nat} {A B C : World} (hb : Below n A B) (hk : K8 m S B C) (h1 : n ≤ S) (h2 : n ≤ m) : Below n A C :=
  ⟨hk.os.trans hb.os, hk.tape.trans hb.tape, hk.output.trans hb.output, Nat.le_trans hb.size hk.size, fun k h => (hk.block k (by omega) (by omega)).trans (hb.block k h)⟩
end Go.Proofs.YtjdpddcnogdekaaGreat
/-
  l8Sum, AddA and SubA of the specification.
-/
namespace Go.Proofs.YtjdpddcnogdekaaGreat
open Go.RowKit Go.Lib
set_option linter.unusedSimpArgs false
set_option linter.unusedVariables false

/-- What is answered: a sum in memory of its own, and whether it is one. -/
def Out8 (w : World) (ok : Bool) (c : Int) (L : List AR) (e : Ending) (w' : World) : Prop :=
  ∃ v', e = .returned (.tuple #[.agg #[.int .i64 c, v'], .bool ok]) ∧ w'.ownsRow w.heap.size 70 2 v' L.length (acells L) ∧ Below w.heap.size w w'
theorem Out8.of {w w' : World} {ok : Bool} {c : Int} {L : List AR} {e : Ending} (h : OutSub8 w ok c L e w') : Out8 w ok (if ok = true then c else 0) (if ok = true then L else []) e w' := by
  obtain ⟨v, rfl, ho, hb⟩ := h
  cases ok with
  | true => exact ⟨v, rfl, ho rfl, hb⟩
  | false => exact ⟨.slice Option.none 0 0, rfl, World.ownsRow_nil _ _ _ _, hb⟩
def sumA8 (la lb : List AR) (n : Int) : List AR := sumsW8 la lb n (puts8 (puts8 [] la) lb)
end Go.Proofs.YtjdpddcnogdekaaGreat
