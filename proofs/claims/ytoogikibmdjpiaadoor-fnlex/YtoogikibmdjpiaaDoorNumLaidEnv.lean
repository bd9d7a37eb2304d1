/-
  What the listed package-level variables give the walks: the table of the powers of ten, and the two errors' cells.
-/
import Derived.Test.YtoogikibmdjpiaaDoorRows
import Derived.Test.YtoogikibmdjpiaaDoorNumEnv
import Derived.Stop.LaidErr
import Derived.Lib.LaidTab
import Derived.LaidMore
import Derived.LaidLaws
import Derived.ProofKit
import Derived.Stop.Joined
namespace Go.Proofs.YtoogikibmdjpiaaDoor
open Go.RowKit
theorem gESType : (Tryd.prog.globals[ 1 ]?).map (·.type) = some 58 := by kernel_rfl
theorem gERType : (Tryd.prog.globals[ 2 ]?).map (·.type) = some 58 := by kernel_rfl
theorem gPowType : (Tryd.prog.globals[ 3 ]?).map (·.type) = some 107 := by kernel_rfl
theorem cells9 : Tryd.prog.cellsOf 9 = 1 := by kernel_rfl
theorem cells64 : Tryd.prog.cellsOf 114 = 1 := by kernel_rfl
theorem cells43 : Tryd.prog.cellsOf 95 = 1 := by kernel_rfl
theorem cells56 : Tryd.prog.cellsOf 107 = 20 := by kernel_rfl
theorem star : "*" ++ "errors.errorString" = "*errors.errorString" := by decide
theorem rowErr (u : TypeId) (h : Tryd.prog.typeName? 3 u = some "*errors.errorString") : u = 112 :=
  typeName_ptr_named (nm := "errors.errorString") (by rw [star]; kernel_rfl) (by kernel_rfl) (by decide) u (by rw [star]; exact h)
theorem powData : (Rows.laid_internal_strconv_uint64pow10 : DataW Unit) = Lib.tabData .u64 Lib.pow10Tab := by kernel_rfl
theorem tab_of {W : World} {r : List (String × DataW Unit)} (h : laidMet Tryd.prog (("internal/strconv.uint64pow10", Rows.laid_internal_strconv_uint64pow10) :: r) W) : Lib.TabIs Tryd.prog W "internal/strconv.uint64pow10" .u64 Lib.pow10Tab := by
  rw [powData] at h
  exact Lib.tabIs_of_head gPow gPowType Tryd.underlying107 Tryd.underlying95 cells43 cells56 h
theorem range_of {W : World} {r : List (String × DataW Unit)} (h : laidMet Tryd.prog (("strconv.ErrRange", Rows.laid_strconv_ErrRange) :: r) W) : ∃ a, W.var? Tryd.prog "strconv.ErrRange" = some #[.iface 112 (.pointer (some a))] := by
  obtain ⟨a, s, hv, _⟩ := laid_sentinel h gER gERType Tryd.underlying58 rowErr Tryd.underlying112 Tryd.underlying114 rfl rfl Tryd.underlying9 cells64 cells9
  exact ⟨a, hv⟩
theorem syntax_of {W : World} {r : List (String × DataW Unit)} (h : laidMet Tryd.prog (("strconv.ErrSyntax", Rows.laid_strconv_ErrSyntax) :: r) W) : ∃ a, W.var? Tryd.prog "strconv.ErrSyntax" = some #[.iface 112 (.pointer (some a))] := by
  obtain ⟨a, s, hv, _⟩ := laid_sentinel h gES gESType Tryd.underlying58 rowErr Tryd.underlying112 Tryd.underlying114 rfl rfl Tryd.underlying9 cells64 cells9
  exact ⟨a, hv⟩
/-- What a row that lists the three tables and the two errors, in that order, gives. -/
theorem env_of {W : World} {d1 d2 : String × DataW Unit} {r : List (String × DataW Unit)} (h : laidMet Tryd.prog (d1 :: d2 :: ("internal/strconv.uint64pow10", Rows.laid_internal_strconv_uint64pow10) :: ("strconv.ErrRange", Rows.laid_strconv_ErrRange) :: ("strconv.ErrSyntax", Rows.laid_strconv_ErrSyntax) :: r) W) : Env W := by
  have h2 := laidMet.tail (laidMet.tail h)
  exact ⟨tab_of h2, range_of (laidMet.tail h2), syntax_of (laidMet.tail (laidMet.tail h2))⟩
end Go.Proofs.YtoogikibmdjpiaaDoor
