/-
  What the listed package-level variables give the walks: the table of the powers of ten, and the two errors' cells.
-/
import Derived.Test.YtmbilbflbnnpeajDoorRows
import Derived.Test.YtmbilbflbnnpeajDoorWalks
import Derived.Stop.LaidErr
import Derived.Lib.LaidTab
import Derived.LaidMore
import Derived.LaidLaws
import Derived.ProofKit
import Derived.Stop.Joined
namespace Go.Proofs.YtmbilbflbnnpeajDoor
open Go.RowKit
theorem gES : Tryd.prog.globalNamed "strconv.ErrSyntax" = some 0 := by kernel_rfl
theorem gER : Tryd.prog.globalNamed "strconv.ErrRange" = some 1 := by kernel_rfl
theorem gESType : (Tryd.prog.globals[0]?).map (·.type) = some 30 := by kernel_rfl
theorem gERType : (Tryd.prog.globals[1]?).map (·.type) = some 30 := by kernel_rfl
theorem gPowType : (Tryd.prog.globals[2]?).map (·.type) = some 56 := by kernel_rfl
theorem cells9 : Tryd.prog.cellsOf 9 = 1 := by kernel_rfl
theorem cells64 : Tryd.prog.cellsOf 64 = 1 := by kernel_rfl
theorem cells43 : Tryd.prog.cellsOf 43 = 1 := by kernel_rfl
theorem cells56 : Tryd.prog.cellsOf 56 = 20 := by kernel_rfl
theorem star : "*" ++ "errors.errorString" = "*errors.errorString" := by decide
theorem row62 (u : TypeId) (h : Tryd.prog.typeName? 3 u = some "*errors.errorString") : u = 62 :=
  typeName_ptr_named (nm := "errors.errorString") (by rw [star]; kernel_rfl) (by kernel_rfl) (by decide) u (by rw [star]; exact h)
theorem powData : (Rows.laid_internal_strconv_uint64pow10 : DataW Unit) = Lib.tabData .u64 Lib.pow10Tab := by kernel_rfl
theorem tab_of {W : World} {r : List (String × DataW Unit)} (h : laidMet Tryd.prog (("internal/strconv.uint64pow10", Rows.laid_internal_strconv_uint64pow10) :: r) W) : Lib.TabIs Tryd.prog W "internal/strconv.uint64pow10" .u64 Lib.pow10Tab := by
  rw [powData] at h
  exact Lib.tabIs_of_head gPow gPowType Tryd.underlying56 Tryd.underlying43 cells43 cells56 h
theorem range_of {W : World} {r : List (String × DataW Unit)} (h : laidMet Tryd.prog (("strconv.ErrRange", Rows.laid_strconv_ErrRange) :: r) W) : ∃ a, W.var? Tryd.prog "strconv.ErrRange" = some #[.iface 62 (.pointer (some a))] := by
  obtain ⟨a, s, hv, _⟩ := laid_sentinel h gER gERType Tryd.underlying30 row62 Tryd.underlying62 Tryd.underlying64 rfl rfl Tryd.underlying9 cells64 cells9
  exact ⟨a, hv⟩
theorem syntax_of {W : World} {r : List (String × DataW Unit)} (h : laidMet Tryd.prog (("strconv.ErrSyntax", Rows.laid_strconv_ErrSyntax) :: r) W) : ∃ a, W.var? Tryd.prog "strconv.ErrSyntax" = some #[.iface 62 (.pointer (some a))] := by
  obtain ⟨a, s, hv, _⟩ := laid_sentinel h gES gESType Tryd.underlying30 row62 Tryd.underlying62 Tryd.underlying64 rfl rfl Tryd.underlying9 cells64 cells9
  exact ⟨a, hv⟩
/-- What NumText's row lists gives the table. -/
theorem of_laid3 {W : World} (h : laidMetH Tryd.prog Rows.fnExactNumTextRow.laid W) : Lib.TabIs Tryd.prog W "internal/strconv.uint64pow10" .u64 Lib.pow10Tab := by
  rw [MakeChecks.laidMetH_plain _ _ _ (by kernel_rfl)] at h
  exact tab_of (laidMet.tail (laidMet.tail h))
/-- What ParseNum's row lists gives the table and both errors. -/
theorem of_laid5 {W : World} (h : laidMetH Tryd.prog Rows.fnExactParseNumRow.laid W) : Lib.TabIs Tryd.prog W "internal/strconv.uint64pow10" .u64 Lib.pow10Tab ∧
    (∃ a, W.var? Tryd.prog "strconv.ErrRange" = some #[.iface 62 (.pointer (some a))]) ∧ ∃ a, W.var? Tryd.prog "strconv.ErrSyntax" = some #[.iface 62 (.pointer (some a))] := by
  rw [MakeChecks.laidMetH_plain _ _ _ (by kernel_rfl)] at h
  have h2 := laidMet.tail (laidMet.tail h)
  exact ⟨tab_of h2, range_of (laidMet.tail h2), syntax_of (laidMet.tail (laidMet.tail h2))⟩
/-- The door's own heap meets both conditions. -/
theorem door_met3 (os : Os) (args : Array Value) : laidMetH Tryd.prog Rows.fnExactNumTextRow.laid ((World.doorLaid Tryd.prog 62 os).forCall (fun _ _ => 0) ⟨#[], args, []⟩).memory :=
  laidMetH_of_parts3 (fuel := 8) (laidMet_of_run' 8 (by kernel_rfl) (by kernel_rfl)) (by kernel_rfl) (by kernel_rfl)
theorem door_met5 (os : Os) (args : Array Value) : laidMetH Tryd.prog Rows.fnExactParseNumRow.laid ((World.doorLaid Tryd.prog 62 os).forCall (fun _ _ => 0) ⟨#[], args, []⟩).memory :=
  laidMetH_of_parts3 (fuel := 8) (laidMet_of_run' 8 (by kernel_rfl) (by kernel_rfl)) (by kernel_rfl) (by kernel_rfl)
end Go.Proofs.YtmbilbflbnnpeajDoor
