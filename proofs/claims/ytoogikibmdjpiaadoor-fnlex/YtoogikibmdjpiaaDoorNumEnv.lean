/-
  What NumText and ParseNum want of the package variables of Go's library, carried from world to world.
-/
import Derived.Test.YtoogikibmdjpiaaDoorNumWalks
import Derived.Test.YtoogikibmdjpiaaDoorNumSpec
import Derived.WalkKit
namespace Go.Proofs.YtoogikibmdjpiaaDoor
open Go.RowKit Go.Lib

theorem gES : Tryd.prog.globalNamed "strconv.ErrSyntax" = some 1 := by kernel_rfl
theorem gER : Tryd.prog.globalNamed "strconv.ErrRange" = some 2 := by kernel_rfl
/-- The table of the powers of ten and the two errors stand as the text lays them. -/
structure Env (w : World) : Prop where
  tab : Lib.TabIs Tryd.prog w "internal/strconv.uint64pow10" .u64 Lib.pow10Tab
  range : ∃ a, w.var? Tryd.prog "strconv.ErrRange" = some #[.iface 112 (.pointer (some a))]
  wrong : ∃ a, w.var? Tryd.prog "strconv.ErrSyntax" = some #[.iface 112 (.pointer (some a))]
theorem Env.later {B : Nat} {w w' : World} (h : Env w) (hb : Below B w w') (hB : w.heap.size ≤ B) : Env w' := by
  obtain ⟨a, ha⟩ := h.range
  obtain ⟨b, hc⟩ := h.wrong
  exact ⟨Joins.tab_stays gPow h.tab hb hB, ⟨a, Joins.var_stays gER ha hb hB⟩, ⟨b, Joins.var_stays gES hc hb hB⟩⟩
theorem NumText_is (n : Int) (h0 : -9223372036854775808 ≤ n) (h1 : n ≤ 9223372036854775807) (w : World) (he : Env w) :
    Calls Tryd.prog 54 #[.int .i64 n] w fun e w' => e = .returned (.string ⟨(Lib.itoa n).toArray⟩) ∧ Below w.heap.size w w' ∧ Env w' :=
  (impl_NumText n h0 h1 w he.tab).mono fun _ _ ⟨e, hb⟩ => ⟨e, hb, he.later hb (Nat.le_refl _)⟩
theorem ParseNum_is (s : ByteArray) (hlim : s.size ≤ 281474976710656) (u : Int) (b : Bool) (hu : (((parseNum s.data.toList).getD 0 : Nat) : Int) = u) (hb : (parseNum s.data.toList).isSome = b) (w : World) (he : Env w) :
    Calls Tryd.prog 56 #[.string s] w fun e w' => e = .returned (.tuple #[.int .i64 u, .bool b]) ∧ Below w.heap.size w w' ∧ Env w' := by
  subst hu; subst hb
  obtain ⟨a, ha⟩ := he.range
  obtain ⟨b, hc⟩ := he.wrong
  exact (impl_ParseNum s hlim _ _ _ _ w he.tab hc ha).mono fun _ _ ⟨e, hb⟩ => ⟨e, hb, he.later hb (Nat.le_refl _)⟩
theorem spec_ParseNum_is (s : ByteArray) (hlim : s.size ≤ 281474976710656) (u : Int) (b : Bool) (hu : (((parseNum s.data.toList).getD 0 : Nat) : Int) = u) (hb : (parseNum s.data.toList).isSome = b) (w : World) :
    Calls Tryd.prog 51 #[.string s] w fun e w' => e = .returned (.tuple #[.int .i64 u, .bool b]) ∧ w = w' := by
  subst hu; subst hb
  exact spec_ParseNum s hlim w
end Go.Proofs.YtoogikibmdjpiaaDoor
