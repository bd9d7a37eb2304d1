/-
  The contracts of NumText and ParseNum, the specification's and the landed code's.
-/
import Derived.Test.YtoogikibmdjpiaaDoorRows
import Derived.Test.YtoogikibmdjpiaaDoorNumPlain
import Derived.Test.YtoogikibmdjpiaaDoorNumShelf
import Derived.WalkKit
import Derived.WalkLawsBesides
import Derived.Lib.SmallJoins
import Derived.Lib.AppendIntMem
import Derived.Lib.ItoaLen
import Derived.Deep.QuietTactic
import Derived.BigQuiet
namespace Go.Proofs.YtoogikibmdjpiaaDoor
open Go.RowKit Go.Lib

theorem ret_int {k : IntKind} {a b : Int} (h : a = b) : Ending.returned (.int k a) = .returned (.int k b) := by rw [h]
theorem impl_Wrap (n : Int) (w : World) : Calls Tryd.prog 64 #[.int .i64 n] w fun e w' => e = .returned (.int .i64 (wrap32 n)) ∧ w = w' := by
  go_enter Tryd.func64, Tryd.ntmps64
  go_wp2
  go_ret
  exact ⟨ret_int (by unfold wrap64 wrap32; omega), rfl⟩
theorem impl_NumText (n : Int) (h0 : -9223372036854775808 ≤ n) (h1 : n ≤ 9223372036854775807) (w : World) (htab : Lib.TabIs Tryd.prog w "internal/strconv.uint64pow10" .u64 Lib.pow10Tab) :
    Calls Tryd.prog 54 #[.int .i64 n] w fun e w' => e = .returned (.string ⟨(Lib.itoa n).toArray⟩) ∧ Below w.heap.size w w' := by
  go_enter Tryd.func54, Tryd.ntmps54
  go_wp2_with (go_at_call 58; refine (strconv_Itoa _ h0 h1 _ htab).mono ?_; rintro e w' ⟨rfl, k, os, rfl⟩)
  go_ret
  exact ⟨rfl, Lib.below_grow _ _ (Nat.le_refl _) _ _⟩

theorem conv1 (w : World) (x : Int) (h0 : 0 ≤ x) (h1 : x < 256) :
    (convert 22 9 (.slice (some ⟨w.heap.size, 0, none⟩) 1 1)).run Tryd.prog (w.alloc (.cells #[.int .u8 x] 5)) = .ok (.string ⟨[UInt8.ofNat x.toNat].toArray⟩) (w.alloc (.cells #[.int .u8 x] 5)) := by
  refine run_convert_bytes_back (P := Tryd.prog) _ 22 9 5 ⟨w.heap.size, 0, none⟩ 1 [UInt8.ofNat x.toNat] Tryd.underlying22 Tryd.underlying5 Tryd.underlying9 ?_
  intro j hj
  simp at hj
  subst hj
  have e : ((UInt8.ofNat x.toNat).toNat : Int) = x := by simp; omega
  simp only [List.getElem_cons_zero, e]
  simp [Addr.add, World.cell?_alloc_new]
theorem cat1 (a b : List UInt8) : (⟨a.toArray⟩ : ByteArray) ++ ⟨b.toArray⟩ = ⟨(a ++ b).toArray⟩ := by
  apply ByteArray.ext
  simp
theorem digs_len {n u : Nat} {t : List UInt8} (h : Digs n u t) (hn : n < 18446744073709551616) : t.length ≤ 20 := by
  have hl := nDigits_le20 n hn
  rw [← decDigits_length, h] at hl
  simp at hl
  omega
theorem str_step (u : Nat) (t : List UInt8) : (⟨#[48 + UInt8.ofNat (u % 10)]⟩ : ByteArray) ++ ⟨t.toArray⟩ = ⟨(UInt8.ofNat (48 + u % 10) :: t).toArray⟩ := by
  have e : UInt8.ofNat (48 + u % 10) = 48 + UInt8.ofNat (u % 10) := by simp
  rw [e]
  exact cat1 [_] t
theorem str_step0 (u : Nat) (t : List UInt8) (h : (u : Int) % 10 ≤ 0) : (⟨#[UInt8.ofNat (48 + -((u : Int) % 10)).toNat]⟩ : ByteArray) ++ ⟨t.toArray⟩ = ⟨(UInt8.ofNat (48 + u % 10) :: t).toArray⟩ := by
  have e : (48 + -((u : Int) % 10)).toNat = 48 + u % 10 := by omega
  rw [e]
  exact cat1 [_] t
theorem val_str {a b : ByteArray} (h : a = b) : Value.string a = .string b := by rw [h]
theorem val_int {k : IntKind} {a b : Int} (h : a = b) : Value.int k a = .int k b := by rw [h]
theorem ret_str {a b : ByteArray} (h : a = b) : Ending.returned (.string a) = .returned (.string b) := by rw [h]
theorem itoa_of_neg {n : Int} {t : List UInt8} (h : n < 0) (hd : Digs n.natAbs 0 t) : itoa n = 45 :: t := by
  unfold itoa
  rw [if_pos h, digs_end hd]
theorem itoa_of_pos {n : Int} {t : List UInt8} (h : ¬ n < 0) (hd : Digs n.natAbs 0 t) : itoa n = t := by
  unfold itoa
  rw [if_neg h, ← digs_end hd]
  congr 1
  omega
set_option maxHeartbeats 400000 in
set_option maxRecDepth 100000 in
theorem spec_NumText (n : Int) (h0 : -9223372036854775808 ≤ n) (h1 : n ≤ 9223372036854775807) (w : World) :
    Calls Tryd.prog 41 #[.int .i64 n] w fun e w' => e = .returned (.string ⟨(Lib.itoa n).toArray⟩) ∧ Below w.heap.size w w' := by
  by_cases hn : n = 0
  · subst hn
    go_enter Tryd.func41, Tryd.ntmps41
    go_wp2
    go_ret
    exact ⟨ret_str (by rw [show itoa 0 = [48] by decide +kernel]), Below.refl _ _⟩
  go_enter Tryd.func41, Tryd.ntmps41
  go_wp2
  go_loopw [3, 4, 5] (fun s x _ wr => ∃ (t : List UInt8) (u : Nat), s = .string ⟨t.toArray⟩ ∧ x = .int .i64 (if n < 0 then -(u : Int) else u) ∧ u ≤ n.natAbs ∧ Hid (Digs n.natAbs u t) ∧ Below w.heap.size w wr) (fun _ x _ _ => (RowKit.intOf x).natAbs)
  case atStart => exact ⟨[], n.natAbs, rfl, by congr 1; split <;> omega, Nat.le_refl _, digs_start _ (by omega), Below.refl _ _⟩
  case round =>
    obtain ⟨t, u, rfl, rfl, hu, hd, hb⟩ := hrel
    have hlt := digs_len hd.out (by omega)
    by_cases hneg : n < 0
    · rw [if_pos hneg]
      by_cases hz : u = 0
      · subst hz
        go_wp2
        go_ret
        exact ⟨ret_str (by rw [itoa_of_neg hneg hd.out]; exact cat1 [45] t), hb⟩
      have e1 := conv1 wr (48 + -((u : Int) % 10)) (by omega) (by omega)
      have e2 := conv1 wr (48 + ((u : Int) % 10)) (by omega) (by omega)
      go_wp2
      · go_roundw
        case rel => exact ⟨_, u / 10, val_str (str_step u t), val_int (by rw [if_pos hneg]; omega), by omega, digs_step hd.out hz, hb.alloc hb.size _⟩
        case measure => simp [RowKit.intOf]; omega
      · go_roundw
        case rel => exact ⟨_, u / 10, val_str (str_step0 u t ‹_›), val_int (by rw [if_pos hneg]; omega), by omega, digs_step hd.out hz, hb.alloc hb.size _⟩
        case measure => simp [RowKit.intOf]; omega
    · rw [if_neg hneg]
      by_cases hz : u = 0
      · subst hz
        go_wp2
        go_ret
        exact ⟨ret_str (by rw [itoa_of_pos (by omega) hd.out]), hb⟩
      have e2 := conv1 wr (48 + ((u : Int) % 10)) (by omega) (by omega)
      go_wp2
      go_roundw
      case rel => exact ⟨_, u / 10, val_str (str_step u t), val_int (by rw [if_neg hneg]; omega), by omega, digs_step hd.out hz, hb.alloc hb.size _⟩
      case measure => simp [RowKit.intOf]; omega

theorem spec_In (x a b : Int) (w : World) : Calls Tryd.prog 35 #[.int .i64 x, .int .i64 a, .int .i64 b] w fun e w' => e = .returned (.bool (decide (a ≤ x) && decide (x ≤ b))) ∧ w = w' := by
  by_cases h1 : a ≤ x
  · by_cases h2 : x ≤ b
    all_goals
      go_enter Tryd.func35, Tryd.ntmps35
      go_wp2
      go_ret
      exact ⟨by simp [h1, h2], rfl⟩
  · go_enter Tryd.func35, Tryd.ntmps35
    go_wp2
    go_ret
    exact ⟨by simp; omega, rfl⟩
/-- ParseNum's two results, of what parseNum says. -/
def numTuple (o : Option Nat) : Value := .tuple #[.int .i64 (((o.getD 0 : Nat) : Int)), .bool o.isSome]
theorem ret_num {o : Option Nat} {v : Int} {b : Bool} (h1 : v = ((o.getD 0 : Nat) : Int)) (h2 : b = o.isSome) : Ending.returned (.tuple #[.int .i64 v, .bool b]) = .returned (numTuple o) := by subst h1; subst h2; rfl

theorem gPow : Tryd.prog.globalNamed "internal/strconv.uint64pow10" = some 3 := by kernel_rfl
theorem Atoi_ok (s : ByteArray) (hlim : s.size ≤ 281474976710656) (v : Int) (h : Lib.atoiAll s.data.toList = .ok v) (w : World) :
    Calls Tryd.prog 63 #[.string s] w fun e w' => e = .returned (.tuple #[.int .i64 v, .nilIface]) ∧ Below w.heap.size w w' := by
  refine (strconv_Atoi_ok s (by omega) v h w).mono ?_
  rintro e w' ⟨rfl, rfl | ⟨t, rfl⟩⟩
  · exact ⟨rfl, Below.refl _ _⟩
  · exact ⟨rfl, Lib.bytesWorld_below _ _ _⟩

set_option maxHeartbeats 400000 in
theorem impl_ParseNum (s : ByteArray) (hlim : s.size ≤ 281474976710656) (tp tq : TypeId) (p q : Value) (w : World) (htab : Lib.TabIs Tryd.prog w "internal/strconv.uint64pow10" .u64 Lib.pow10Tab)
    (hs : w.var? Tryd.prog "strconv.ErrSyntax" = some #[.iface tp p]) (hr : w.var? Tryd.prog "strconv.ErrRange" = some #[.iface tq q]) :
    Calls Tryd.prog 56 #[.string s] w fun e w' => e = .returned (numTuple (parseNum s.data.toList)) ∧ Below w.heap.size w w' := by
  by_cases hok : ∃ v, Lib.atoiAll s.data.toList = .ok v
  · obtain ⟨v, hv⟩ := hok
    have hvb := Lib.atoiAll_bounds hv
    have hl : s.toList = s.data.toList := ByteArray.toList_eq s
    by_cases hn : v < 0
    · have hp := impl_none (l := s.data.toList) (fun u hu h0 => by rw [hv] at hu; injection hu with hu; omega)
      rw [hp]
      clear hs hr hl
      go_enter Tryd.func56, Tryd.ntmps56
      go_wp2_with (go_at_call 63; refine (Atoi_ok s hlim v hv _).mono ?_; rintro e w' ⟨rfl, hb⟩)
      go_ret2
      exact ⟨ret_num rfl rfl, hb⟩
    by_cases hg : v ≤ 2147483647
    · have hw : Hid (wrap32 v = v) := wrap32_id v (by omega) hg
      by_cases he : s.data.toList = itoa v
      · have hp := impl_some hv (by omega) hg he
        rw [hp]
        have hE : (s.toList == itoa v) = true := by rw [hl, he]; simp
        clear hs hr hl he hp
        go_enter Tryd.func56, Tryd.ntmps56
        go_wp2_with (first | (go_at_call 63; refine (Atoi_ok s hlim v hv _).mono ?_; rintro e w1 ⟨rfl, hb⟩) | (go_at_call 64; refine (impl_Wrap _ _).mono ?_; rw [hw.out]; rintro e w' ⟨rfl, rfl⟩) | (go_at_call 54; refine (impl_NumText _ hvb.1 hvb.2 _ (Joins.tab_stays gPow htab ‹_› (Nat.le_refl _))).mono ?_; rintro e w2 ⟨rfl, hb2⟩))
        go_ret2
        exact ⟨ret_num (by simp; omega) rfl, hb.trans (hb2.mono hb.size)⟩
      · have hp := impl_none (l := s.data.toList) (fun u hu _ _ => by rw [hv] at hu; injection hu with hu; rw [← hu]; exact he)
        rw [hp]
        have hE : (s.toList == itoa v) = false := by rw [hl]; simpa using he
        clear hs hr hl he hp
        go_enter Tryd.func56, Tryd.ntmps56
        go_wp2_with (first | (go_at_call 63; refine (Atoi_ok s hlim v hv _).mono ?_; rintro e w1 ⟨rfl, hb⟩) | (go_at_call 64; refine (impl_Wrap _ _).mono ?_; rw [hw.out]; rintro e w' ⟨rfl, rfl⟩) | (go_at_call 54; refine (impl_NumText _ hvb.1 hvb.2 _ (Joins.tab_stays gPow htab ‹_› (Nat.le_refl _))).mono ?_; rintro e w2 ⟨rfl, hb2⟩))
        go_ret2
        exact ⟨ret_num rfl rfl, hb.trans (hb2.mono hb.size)⟩
    · have hp := impl_none (l := s.data.toList) (fun u hu _ h1 => by rw [hv] at hu; injection hu with hu; omega)
      rw [hp]
      obtain ⟨z, hz, hzv⟩ : ∃ z, Hid (wrap32 v = z) ∧ ¬ v = z := ⟨_, rfl, by have := wrap32_bd v; omega⟩
      clear hs hr hl hp hg
      go_enter Tryd.func56, Tryd.ntmps56
      go_wp2_with (first | (go_at_call 63; refine (Atoi_ok s hlim v hv _).mono ?_; rintro e w1 ⟨rfl, hb⟩) | (go_at_call 64; refine (impl_Wrap _ _).mono ?_; rw [hz.out]; rintro e w' ⟨rfl, rfl⟩))
      go_ret2
      exact ⟨ret_num rfl rfl, hb⟩
  · have hno : ∀ v, Lib.atoiAll s.data.toList ≠ .ok v := fun v h => hok ⟨v, h⟩
    have hp := impl_none (l := s.data.toList) (fun v h => absurd h (hno v))
    rw [hp]
    go_enter Tryd.func56, Tryd.ntmps56
    go_wp2_with (go_at_call 63; refine (strconv_Atoi_not s hlim hno tp tq p q _ hs hr).mono ?_; rintro e w' ⟨v, a, rfl, hb⟩)
    go_ret2
    exact ⟨ret_num rfl rfl, hb⟩
end Go.Proofs.YtoogikibmdjpiaaDoor
