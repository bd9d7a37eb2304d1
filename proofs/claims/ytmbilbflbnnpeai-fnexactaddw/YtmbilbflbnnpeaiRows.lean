/-
  No cell of these rows narrows 'for every input' (looked for: loops, veiled, ifaces, maps, wideKeys, modest, calm, conditions, laid).
  DERIVED. THE GIVEN ROWS OF THIS SEAT. 4 by the template 'for every input the law returns true; each argument reads behind the call as it read before'; 0 by the template 'total and deterministic' (their statements: YtmbilbflbnnpeaiTotals.lean).
  GIVEN WITH THE SEED: the statements are not yours to turn. If you find one false, say at which input.
  Laid BY PROGRAM, IN A SANDBOX (cutbox-rows.mjs): the forced cells as the released guide's own fill.sh prints them over the translation 6ae6ad9c1178d27b… (all of the seat's roots in one cut). By AI agents, Wed Nov 11 2026. No macro, syntax, notation, axiom, sorry.
-/
import Derived.Test.YtmbilbflbnnpeaiChecked
import GoSem.Claim
import GoSem.ClaimJoined
import GoSem.ClaimMapViews
import Derived.JoinedTies
import Derived.KernelRfl
namespace Go.Proofs.Ytmbilbflbnnpeai
/- THE CELL 'sum', in the pinned program and in every row, IS THE sha256 OF THE DUMP (.gsa) THAT YtmbilbflbnnpeaiProg.lean LOADS. Nothing in Lean hashes anything: it is a label: what it is worth is what the hold of that sum in a sandbox is worth. -/
noncomputable def Try.pinned : Pinned := { name := "ytmbilbflbnnpeai", sum := "6ae6ad9c1178d27b30ecfaa50c6b91d16251d96b549c75cb3aca67275ebc78d2", checked := Try.checked }
namespace Rows
def none {H : Type} : Left H := { results := [], args := [] }

/-- 'laws.FnExactWrap': WHATEVER THE INPUT: true; the input reads as it did. -/
def fnExactWrapSpec : ChangeSpec := { name := "fnExactWrap", fn := fun _ => fun
  | [d] => { results := [.lit (.bool true)], args := [d] }
  | _ => none }
def fnExactWrapRow : OpenClaim := { program := "ytmbilbflbnnpeai", sum := "6ae6ad9c1178d27b30ecfaa50c6b91d16251d96b549c75cb3aca67275ebc78d2", func := "loop.example/g00476/laws.FnExactWrap", spec := "fnExactWrap", apart := false }
def FnExactWrapSaid : Prop := fnExactWrapRow.holds Try.pinned (OpenSpec.ofChange fnExactWrapSpec)

/-- ITS FALSE NEIGHBOUR: 'it returns false'. Refute it at one input. -/
def fnExactWrapWrong : ChangeSpec := { name := "fnExactWrap", fn := fun _ => fun
  | [d] => { results := [.lit (.bool false)], args := [d] }
  | _ => none }
def FnExactWrapWrongFalsely : Prop := fnExactWrapRow.holds Try.pinned (OpenSpec.ofChange fnExactWrapWrong)

/-- 'laws.FnExactAddW': WHATEVER THE INPUT: true; the input reads as it did. -/
def fnExactAddWSpec : ChangeSpec := { name := "fnExactAddW", fn := fun _ => fun
  | [d1, d2] => { results := [.lit (.bool true)], args := [d1, d2] }
  | _ => none }
def fnExactAddWRow : OpenClaim := { program := "ytmbilbflbnnpeai", sum := "6ae6ad9c1178d27b30ecfaa50c6b91d16251d96b549c75cb3aca67275ebc78d2", func := "loop.example/g00476/laws.FnExactAddW", spec := "fnExactAddW", apart := false }
def FnExactAddWSaid : Prop := fnExactAddWRow.holds Try.pinned (OpenSpec.ofChange fnExactAddWSpec)

/-- ITS FALSE NEIGHBOUR: 'it returns false'. Refute it at one input. -/
def fnExactAddWWrong : ChangeSpec := { name := "fnExactAddW", fn := fun _ => fun
  | [d1, d2] => { results := [.lit (.bool false)], args := [d1, d2] }
  | _ => none }
def FnExactAddWWrongFalsely : Prop := fnExactAddWRow.holds Try.pinned (OpenSpec.ofChange fnExactAddWWrong)

/-- 'laws.FnExactSubW': WHATEVER THE INPUT: true; the input reads as it did. -/
def fnExactSubWSpec : ChangeSpec := { name := "fnExactSubW", fn := fun _ => fun
  | [d1, d2] => { results := [.lit (.bool true)], args := [d1, d2] }
  | _ => none }
def fnExactSubWRow : OpenClaim := { program := "ytmbilbflbnnpeai", sum := "6ae6ad9c1178d27b30ecfaa50c6b91d16251d96b549c75cb3aca67275ebc78d2", func := "loop.example/g00476/laws.FnExactSubW", spec := "fnExactSubW", apart := false }
def FnExactSubWSaid : Prop := fnExactSubWRow.holds Try.pinned (OpenSpec.ofChange fnExactSubWSpec)

/-- ITS FALSE NEIGHBOUR: 'it returns false'. Refute it at one input. -/
def fnExactSubWWrong : ChangeSpec := { name := "fnExactSubW", fn := fun _ => fun
  | [d1, d2] => { results := [.lit (.bool false)], args := [d1, d2] }
  | _ => none }
def FnExactSubWWrongFalsely : Prop := fnExactSubWRow.holds Try.pinned (OpenSpec.ofChange fnExactSubWWrong)

/-- 'laws.FnExactMulW': WHATEVER THE INPUT: true; the input reads as it did. -/
def fnExactMulWSpec : ChangeSpec := { name := "fnExactMulW", fn := fun _ => fun
  | [d1, d2] => { results := [.lit (.bool true)], args := [d1, d2] }
  | _ => none }
def fnExactMulWRow : OpenClaim := { program := "ytmbilbflbnnpeai", sum := "6ae6ad9c1178d27b30ecfaa50c6b91d16251d96b549c75cb3aca67275ebc78d2", func := "loop.example/g00476/laws.FnExactMulW", spec := "fnExactMulW", apart := false }
def FnExactMulWSaid : Prop := fnExactMulWRow.holds Try.pinned (OpenSpec.ofChange fnExactMulWSpec)

/-- ITS FALSE NEIGHBOUR: 'it returns false'. Refute it at one input. -/
def fnExactMulWWrong : ChangeSpec := { name := "fnExactMulW", fn := fun _ => fun
  | [d1, d2] => { results := [.lit (.bool false)], args := [d1, d2] }
  | _ => none }
def FnExactMulWWrongFalsely : Prop := fnExactMulWRow.holds Try.pinned (OpenSpec.ofChange fnExactMulWWrong)

/- THE SECOND FORM. 'bulk': how many values and letters a reading holds, each counted each time it is reached (what is shared counts as often as it is met; a slice's spare places count too). A statement '..UptoSaid' is the law's where the arguments, and the package variables that the reading takes, are together of bulk at most 1048576: NARROWER than '..Said'. Prove '..Said' where nothing that the law and all that it calls make is longer than what came in: it says more and counts as full. Else prove '..UptoSaid'. A law counts once. -/
mutual
def uptoBulk {H : Type} : DataW H → Nat
  | .lit (.string bytes) => bytes.length + 1
  | .lit _ => 1
  | .nil => 1
  | .ptr d => uptoBulk d + 1
  | .slice elems spare => uptoBulkAll elems + uptoBulkAll spare + 1
  | .agg parts => uptoBulkAll parts + 1
  | .iface _ d => uptoBulk d + 1
  | .map entries => uptoBulkEntries entries + 1
  | .held _ => 1
def uptoBulkAll {H : Type} : List (DataW H) → Nat
  | [] => 0
  | d :: r => uptoBulk d + uptoBulkAll r
def uptoBulkEntries {H : Type} : List (Lit × DataW H) → Nat
  | [] => 0
  | x :: r => uptoBulkEntry x + uptoBulkEntries r
def uptoBulkEntry {H : Type} : Lit × DataW H → Nat
  | (.string bytes, d) => bytes.length + uptoBulk d + 1
  | (_, d) => uptoBulk d + 1
 end
def uptoSmall : (H : Type) → List (DataW H) → Bool := fun _ ds => decide (uptoBulkAll ds ≤ 1048576)
def OpenSpec.upto (s : _root_.Go.ChangeSpec) : _root_.Go.OpenSpec := { _root_.Go.OpenSpec.ofChange s with cond := some uptoSmall }

/-- 'laws.FnExactWrap', WHERE WHAT IT READS IS OF BULK AT MOST 1048576: true; the input reads as it did. -/
def fnExactWrapUptoRow : OpenClaim := { program := "ytmbilbflbnnpeai", sum := "6ae6ad9c1178d27b30ecfaa50c6b91d16251d96b549c75cb3aca67275ebc78d2", func := "loop.example/g00476/laws.FnExactWrap", spec := "fnExactWrap", apart := false, narrowed := true }
def FnExactWrapUptoSaid : Prop := fnExactWrapUptoRow.holds Try.pinned (OpenSpec.upto fnExactWrapSpec)

/-- 'laws.FnExactAddW', WHERE WHAT IT READS IS OF BULK AT MOST 1048576: true; the input reads as it did. -/
def fnExactAddWUptoRow : OpenClaim := { program := "ytmbilbflbnnpeai", sum := "6ae6ad9c1178d27b30ecfaa50c6b91d16251d96b549c75cb3aca67275ebc78d2", func := "loop.example/g00476/laws.FnExactAddW", spec := "fnExactAddW", apart := false, narrowed := true }
def FnExactAddWUptoSaid : Prop := fnExactAddWUptoRow.holds Try.pinned (OpenSpec.upto fnExactAddWSpec)

/-- 'laws.FnExactSubW', WHERE WHAT IT READS IS OF BULK AT MOST 1048576: true; the input reads as it did. -/
def fnExactSubWUptoRow : OpenClaim := { program := "ytmbilbflbnnpeai", sum := "6ae6ad9c1178d27b30ecfaa50c6b91d16251d96b549c75cb3aca67275ebc78d2", func := "loop.example/g00476/laws.FnExactSubW", spec := "fnExactSubW", apart := false, narrowed := true }
def FnExactSubWUptoSaid : Prop := fnExactSubWUptoRow.holds Try.pinned (OpenSpec.upto fnExactSubWSpec)

/-- 'laws.FnExactMulW', WHERE WHAT IT READS IS OF BULK AT MOST 1048576: true; the input reads as it did. -/
def fnExactMulWUptoRow : OpenClaim := { program := "ytmbilbflbnnpeai", sum := "6ae6ad9c1178d27b30ecfaa50c6b91d16251d96b549c75cb3aca67275ebc78d2", func := "loop.example/g00476/laws.FnExactMulW", spec := "fnExactMulW", apart := false, narrowed := true }
def FnExactMulWUptoSaid : Prop := fnExactMulWUptoRow.holds Try.pinned (OpenSpec.upto fnExactMulWSpec)

end Rows
end Go.Proofs.Ytmbilbflbnnpeai
