/-
  No cell of these rows narrows 'for every input' (looked for: loops, veiled, ifaces, maps, wideKeys, modest, calm, conditions, laid).
  DERIVED. THE GIVEN ROWS OF THIS SEAT. 6 by the template 'for every input the law returns true; each argument reads behind the call as it read before'; 0 by the template 'total and deterministic' (their statements: YtljahppjkhinpaaTotals.lean).
  GIVEN WITH THE SEED: the statements are not yours to turn. If you find one false, say at which input.
  Laid BY PROGRAM, IN A SANDBOX (cutbox-rows.mjs): the forced cells as the released guide's own fill.sh prints them over the translation 503d4555c1cf029a… (all of the seat's roots in one cut). By AI agents, Wed Nov 11 2026. No macro, syntax, notation, axiom, sorry.
-/
import Derived.Test.YtljahppjkhinpaaChecked
import GoSem.Claim
import GoSem.ClaimJoined
import GoSem.ClaimMapViews
import Derived.JoinedTies
import Derived.KernelRfl
namespace Go.Proofs.Ytljahppjkhinpaa
/- THE CELL 'sum', in the pinned program and in every row, IS THE sha256 OF THE DUMP (.gsa) THAT YtljahppjkhinpaaProg.lean LOADS. Nothing in Lean hashes anything: it is a label: what it is worth is what the hold of that sum in a sandbox is worth. -/
noncomputable def Try.pinned : Pinned := { name := "ytljahppjkhinpaa", sum := "503d4555c1cf029a68b4f5b73069405176811d6d0e66a20f5e4da3e673658103", checked := Try.checked }
namespace Rows
def none {H : Type} : Left H := { results := [], args := [] }

/-- 'laws.FnAffs': WHATEVER THE INPUT: true; the input reads as it did. -/
def fnAffsSpec : ChangeSpec := { name := "fnAffs", fn := fun _ => fun
  | [d] => { results := [.lit (.bool true)], args := [d] }
  | _ => none }
def fnAffsRow : OpenClaim := { program := "ytljahppjkhinpaa", sum := "503d4555c1cf029a68b4f5b73069405176811d6d0e66a20f5e4da3e673658103", func := "loop.example/g00476/laws.FnAffs", spec := "fnAffs", inPlace := ["internal/bytealg.IndexByteString", "internal/bytealg.IndexString"], unfollowed := true, recurses := true, named := ["internal/bytealg.MaxLen"], apart := false }
def FnAffsSaid : Prop := fnAffsRow.holds Try.pinned (OpenSpec.ofChange fnAffsSpec)

/-- ITS FALSE NEIGHBOUR: 'it returns false'. Refute it at one input. -/
def fnAffsWrong : ChangeSpec := { name := "fnAffs", fn := fun _ => fun
  | [d] => { results := [.lit (.bool false)], args := [d] }
  | _ => none }
def FnAffsWrongFalsely : Prop := fnAffsRow.holds Try.pinned (OpenSpec.ofChange fnAffsWrong)

/-- 'laws.FnExactAffOk': WHATEVER THE INPUT: true; the input reads as it did. -/
def fnExactAffOkSpec : ChangeSpec := { name := "fnExactAffOk", fn := fun _ => fun
  | [d] => { results := [.lit (.bool true)], args := [d] }
  | _ => none }
def fnExactAffOkRow : OpenClaim := { program := "ytljahppjkhinpaa", sum := "503d4555c1cf029a68b4f5b73069405176811d6d0e66a20f5e4da3e673658103", func := "loop.example/g00476/laws.FnExactAffOk", spec := "fnExactAffOk", inPlace := ["internal/bytealg.IndexByteString", "internal/bytealg.IndexString"], named := ["internal/bytealg.MaxLen"], apart := false }
def FnExactAffOkSaid : Prop := fnExactAffOkRow.holds Try.pinned (OpenSpec.ofChange fnExactAffOkSpec)

/-- ITS FALSE NEIGHBOUR: 'it returns false'. Refute it at one input. -/
def fnExactAffOkWrong : ChangeSpec := { name := "fnExactAffOk", fn := fun _ => fun
  | [d] => { results := [.lit (.bool false)], args := [d] }
  | _ => none }
def FnExactAffOkWrongFalsely : Prop := fnExactAffOkRow.holds Try.pinned (OpenSpec.ofChange fnExactAffOkWrong)

/-- 'laws.FnExactAddA': WHATEVER THE INPUT: true; the input reads as it did. -/
def fnExactAddASpec : ChangeSpec := { name := "fnExactAddA", fn := fun _ => fun
  | [d1, d2] => { results := [.lit (.bool true)], args := [d1, d2] }
  | _ => none }
def fnExactAddARow : OpenClaim := { program := "ytljahppjkhinpaa", sum := "503d4555c1cf029a68b4f5b73069405176811d6d0e66a20f5e4da3e673658103", func := "loop.example/g00476/laws.FnExactAddA", spec := "fnExactAddA", inPlace := ["internal/bytealg.IndexByteString", "internal/bytealg.IndexString"], named := ["internal/bytealg.MaxLen"], apart := false }
def FnExactAddASaid : Prop := fnExactAddARow.holds Try.pinned (OpenSpec.ofChange fnExactAddASpec)

/-- ITS FALSE NEIGHBOUR: 'it returns false'. Refute it at one input. -/
def fnExactAddAWrong : ChangeSpec := { name := "fnExactAddA", fn := fun _ => fun
  | [d1, d2] => { results := [.lit (.bool false)], args := [d1, d2] }
  | _ => none }
def FnExactAddAWrongFalsely : Prop := fnExactAddARow.holds Try.pinned (OpenSpec.ofChange fnExactAddAWrong)

/-- 'laws.FnExactSubA': WHATEVER THE INPUT: true; the input reads as it did. -/
def fnExactSubASpec : ChangeSpec := { name := "fnExactSubA", fn := fun _ => fun
  | [d1, d2] => { results := [.lit (.bool true)], args := [d1, d2] }
  | _ => none }
def fnExactSubARow : OpenClaim := { program := "ytljahppjkhinpaa", sum := "503d4555c1cf029a68b4f5b73069405176811d6d0e66a20f5e4da3e673658103", func := "loop.example/g00476/laws.FnExactSubA", spec := "fnExactSubA", inPlace := ["internal/bytealg.IndexByteString", "internal/bytealg.IndexString"], named := ["internal/bytealg.MaxLen"], apart := false }
def FnExactSubASaid : Prop := fnExactSubARow.holds Try.pinned (OpenSpec.ofChange fnExactSubASpec)

/-- ITS FALSE NEIGHBOUR: 'it returns false'. Refute it at one input. -/
def fnExactSubAWrong : ChangeSpec := { name := "fnExactSubA", fn := fun _ => fun
  | [d1, d2] => { results := [.lit (.bool false)], args := [d1, d2] }
  | _ => none }
def FnExactSubAWrongFalsely : Prop := fnExactSubARow.holds Try.pinned (OpenSpec.ofChange fnExactSubAWrong)

/-- 'laws.FnExactAffAt': WHATEVER THE INPUT: true; the input reads as it did. -/
def fnExactAffAtSpec : ChangeSpec := { name := "fnExactAffAt", fn := fun _ => fun
  | [d1, d2] => { results := [.lit (.bool true)], args := [d1, d2] }
  | _ => none }
def fnExactAffAtRow : OpenClaim := { program := "ytljahppjkhinpaa", sum := "503d4555c1cf029a68b4f5b73069405176811d6d0e66a20f5e4da3e673658103", func := "loop.example/g00476/laws.FnExactAffAt", spec := "fnExactAffAt", unfollowed := true, recurses := true, apart := false }
def FnExactAffAtSaid : Prop := fnExactAffAtRow.holds Try.pinned (OpenSpec.ofChange fnExactAffAtSpec)

/-- ITS FALSE NEIGHBOUR: 'it returns false'. Refute it at one input. -/
def fnExactAffAtWrong : ChangeSpec := { name := "fnExactAffAt", fn := fun _ => fun
  | [d1, d2] => { results := [.lit (.bool false)], args := [d1, d2] }
  | _ => none }
def FnExactAffAtWrongFalsely : Prop := fnExactAffAtRow.holds Try.pinned (OpenSpec.ofChange fnExactAffAtWrong)

/-- 'laws.FnExactCoefOf': WHATEVER THE INPUT: true; the input reads as it did. -/
def fnExactCoefOfSpec : ChangeSpec := { name := "fnExactCoefOf", fn := fun _ => fun
  | [d1, d2] => { results := [.lit (.bool true)], args := [d1, d2] }
  | _ => none }
def fnExactCoefOfRow : OpenClaim := { program := "ytljahppjkhinpaa", sum := "503d4555c1cf029a68b4f5b73069405176811d6d0e66a20f5e4da3e673658103", func := "loop.example/g00476/laws.FnExactCoefOf", spec := "fnExactCoefOf", apart := false }
def FnExactCoefOfSaid : Prop := fnExactCoefOfRow.holds Try.pinned (OpenSpec.ofChange fnExactCoefOfSpec)

/-- ITS FALSE NEIGHBOUR: 'it returns false'. Refute it at one input. -/
def fnExactCoefOfWrong : ChangeSpec := { name := "fnExactCoefOf", fn := fun _ => fun
  | [d1, d2] => { results := [.lit (.bool false)], args := [d1, d2] }
  | _ => none }
def FnExactCoefOfWrongFalsely : Prop := fnExactCoefOfRow.holds Try.pinned (OpenSpec.ofChange fnExactCoefOfWrong)

/- THE SECOND FORM. 'bulk': how many values and letters a reading holds, each counted each time it is reached (what is shared counts as often as it is met; a slice's spare places count too). A statement '..UptoSaid' is the law's where the arguments, and the package variables that the reading takes, are together of bulk at most 1048576: NARROWER than '..Said'. Prove '..Said' where nothing that the law and all that it calls make is longer than what came in: it says more and counts as full. Else prove '..UptoSaid'. A law counts once. -/
mutual
def uptoBulk {H : Type} : DataW H → Nat
  | .lit (.string bytes) => bytes.length + 1
  | .lit _ => 1
  | .nil => 1
  | .ptr d => uptoBulk d + 1
  | .slice elems spare => uptoBulkAll elems + uptoBulkAll spare + 1
  | .agg parts => uptoBulkAll parts + 1
  | .iface _ d => uptoBulk d + 1
  | .map entries => uptoBulkEntries entries + 1
  | .held _ => 1
def uptoBulkAll {H : Type} : List (DataW H) → Nat
  | [] => 0
  | d :: r => uptoBulk d + uptoBulkAll r
def uptoBulkEntries {H : Type} : List (Lit × DataW H) → Nat
  | [] => 0
  | x :: r => uptoBulkEntry x + uptoBulkEntries r
def uptoBulkEntry {H : Type} : Lit × DataW H → Nat
  | (.string bytes, d) => bytes.length + uptoBulk d + 1
  | (_, d) => uptoBulk d + 1
 end
def uptoSmall : (H : Type) → List (DataW H) → Bool := fun _ ds => decide (uptoBulkAll ds ≤ 1048576)
def OpenSpec.upto (s : _root_.Go.ChangeSpec) : _root_.Go.OpenSpec := { _root_.Go.OpenSpec.ofChange s with cond := some uptoSmall }

/-- 'laws.FnAffs', WHERE WHAT IT READS IS OF BULK AT MOST 1048576: true; the input reads as it did. -/
def fnAffsUptoRow : OpenClaim := { program := "ytljahppjkhinpaa", sum := "503d4555c1cf029a68b4f5b73069405176811d6d0e66a20f5e4da3e673658103", func := "loop.example/g00476/laws.FnAffs", spec := "fnAffs", inPlace := ["internal/bytealg.IndexByteString", "internal/bytealg.IndexString"], unfollowed := true, recurses := true, named := ["internal/bytealg.MaxLen"], apart := false, narrowed := true }
def FnAffsUptoSaid : Prop := fnAffsUptoRow.holds Try.pinned (OpenSpec.upto fnAffsSpec)

/-- 'laws.FnExactAffOk', WHERE WHAT IT READS IS OF BULK AT MOST 1048576: true; the input reads as it did. -/
def fnExactAffOkUptoRow : OpenClaim := { program := "ytljahppjkhinpaa", sum := "503d4555c1cf029a68b4f5b73069405176811d6d0e66a20f5e4da3e673658103", func := "loop.example/g00476/laws.FnExactAffOk", spec := "fnExactAffOk", inPlace := ["internal/bytealg.IndexByteString", "internal/bytealg.IndexString"], named := ["internal/bytealg.MaxLen"], apart := false, narrowed := true }
def FnExactAffOkUptoSaid : Prop := fnExactAffOkUptoRow.holds Try.pinned (OpenSpec.upto fnExactAffOkSpec)

/-- 'laws.FnExactAddA', WHERE WHAT IT READS IS OF BULK AT MOST 1048576: true; the input reads as it did. -/
def fnExactAddAUptoRow : OpenClaim := { program := "ytljahppjkhinpaa", sum := "503d4555c1cf029a68b4f5b73069405176811d6d0e66a20f5e4da3e673658103", func := "loop.example/g00476/laws.FnExactAddA", spec := "fnExactAddA", inPlace := ["internal/bytealg.IndexByteString", "internal/bytealg.IndexString"], named := ["internal/bytealg.MaxLen"], apart := false, narrowed := true }
def FnExactAddAUptoSaid : Prop := fnExactAddAUptoRow.holds Try.pinned (OpenSpec.upto fnExactAddASpec)

/-- 'laws.FnExactSubA', WHERE WHAT IT READS IS OF BULK AT MOST 1048576: true; the input reads as it did. -/
def fnExactSubAUptoRow : OpenClaim := { program := "ytljahppjkhinpaa", sum := "503d4555c1cf029a68b4f5b73069405176811d6d0e66a20f5e4da3e673658103", func := "loop.example/g00476/laws.FnExactSubA", spec := "fnExactSubA", inPlace := ["internal/bytealg.IndexByteString", "internal/bytealg.IndexString"], named := ["internal/bytealg.MaxLen"], apart := false, narrowed := true }
def FnExactSubAUptoSaid : Prop := fnExactSubAUptoRow.holds Try.pinned (OpenSpec.upto fnExactSubASpec)

/-- 'laws.FnExactAffAt', WHERE WHAT IT READS IS OF BULK AT MOST 1048576: true; the input reads as it did. -/
def fnExactAffAtUptoRow : OpenClaim := { program := "ytljahppjkhinpaa", sum := "503d4555c1cf029a68b4f5b73069405176811d6d0e66a20f5e4da3e673658103", func := "loop.example/g00476/laws.FnExactAffAt", spec := "fnExactAffAt", unfollowed := true, recurses := true, apart := false, narrowed := true }
def FnExactAffAtUptoSaid : Prop := fnExactAffAtUptoRow.holds Try.pinned (OpenSpec.upto fnExactAffAtSpec)

/-- 'laws.FnExactCoefOf', WHERE WHAT IT READS IS OF BULK AT MOST 1048576: true; the input reads as it did. -/
def fnExactCoefOfUptoRow : OpenClaim := { program := "ytljahppjkhinpaa", sum := "503d4555c1cf029a68b4f5b73069405176811d6d0e66a20f5e4da3e673658103", func := "loop.example/g00476/laws.FnExactCoefOf", spec := "fnExactCoefOf", apart := false, narrowed := true }
def FnExactCoefOfUptoSaid : Prop := fnExactCoefOfUptoRow.holds Try.pinned (OpenSpec.upto fnExactCoefOfSpec)

end Rows
end Go.Proofs.Ytljahppjkhinpaa
