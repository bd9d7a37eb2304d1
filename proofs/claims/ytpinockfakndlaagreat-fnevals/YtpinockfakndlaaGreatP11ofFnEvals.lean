import Derived.Shelf.Strconv.Itoa4
import Derived.Shelf.Strconv.AtoiAll
import Derived.Shelf.Strconv.ErrVarAll
import Derived.Shelf.LaysM
import Derived.Shelf.LaysC
import Derived.Test.YtpinockfakndlaaGreatProg
import Derived.Test.YtpinockfakndlaaGreatRows
import Derived.Test.YtpinockfakndlaaGreatP09ofFnEvals
import Derived.WalkKit
import Derived.WalkLawsBesides
import Derived.Lib.SmallJoins
import Derived.Lib.AppendIntMem
import Derived.Lib.ItoaLen
import Derived.Deep.QuietTactic
import Derived.BigQuiet
namespace Go.Proofs
open Go.Shelf
end Go.Proofs
namespace Go.Proofs.YtpinockfakndlaaGreat
open Go.RowKit
set_option linter.unusedSimpArgs false
set_option linter.unusedVariables false
end Go.Proofs.YtpinockfakndlaaGreat
namespace Go.Proofs.YtpinockfakndlaaGreat
open Go.RowKit Go.Lib
set_option linter.unusedSimpArgs false
set_option linter.unusedVariables false
theorem val_int {k : IntKind} {a b : Int} (h : a = b) : Value.int k a = .int k b := by rw [h]
theorem spec_In (x a b : Int) (w : World) : Calls Tryz.prog 34 #[.int .i64 x, .int .i64 a, .int .i64 b] w fun e w' => e = .returned (.bool (decide (a ≤ x) && decide (x ≤ b))) ∧ w = w' := by
  by_cases h1 : a ≤ x
  · by_cases h2 : x ≤ b
    all_goals
      go_enter Tryz.func34, Tryz.ntmps34
      go_wp2
      go_ret
      exact ⟨by simp [h1, h2], rfl⟩
  · go_enter Tryz.func34, Tryz.ntmps34
    go_wp2
    go_ret
    exact ⟨by simp; omega, rfl⟩
def numTuple (o : Option Nat) : Value := .tuple #[.int .i64 (((o.getD 0 : Nat) : Int)), .bool o.isSome]
theorem ret_num {o : Option Nat} {v : Int} {b : Bool} (h1 : v = ((o.getD 0 : Nat) : Int)) (h2 : b = o.isSome) : Ending.returned (.tuple #[.int .i64 v, .bool b]) = .returned (numTuple o) := by subst h1; subst h2; rfl
theorem In_yes (x a b : Int) (w : World) (h1 : a ≤ x) (h2 : x ≤ b) : Calls Tryz.prog 34 #[.int .i64 x, .int .i64 a, .int .i64 b] w fun e w' => e = .returned (.bool true) ∧ w = w' :=
  (spec_In x a b w).mono fun e w' ⟨he, hw⟩ => ⟨by rw [he]; simp [h1, h2], hw⟩
theorem In_no (x a b : Int) (w : World) (h : x < a ∨ b < x) : Calls Tryz.prog 34 #[.int .i64 x, .int .i64 a, .int .i64 b] w fun e w' => e = .returned (.bool false) ∧ w = w' :=
  (spec_In x a b w).mono fun e w' ⟨he, hw⟩ => ⟨by rw [he]; simp; omega, hw⟩
theorem at_byte (s : ByteArray) (k : Nat) (h : k < s.size) : s.data.toList[k]? = some s[k] := by
  rw [List.getElem?_eq_getElem (by simpa using h)]; rfl
theorem no_digit {s : ByteArray} {k : Nat} (h : k < s.size) (hd : ¬ (48 ≤ (s[k].toNat : Int) ∧ (s[k].toNat : Int) ≤ 57)) : parseNum s.data.toList = none := by
  apply spec_none_byte
  cases hc : decFrom 0 s.data.toList with
  | none => rfl
  | some n =>
    obtain ⟨d, hd'⟩ := digit_of_decFrom _ _ _ hc k _ (at_byte s k h)
    have := digitVal_eq hd'
    omega
theorem dec_next {s : ByteArray} {k m : Nat} (h : k < s.size) (hm : decFrom 0 (s.data.toList.take k) = some m) (h1 : 48 ≤ (s[k].toNat : Int)) (h2 : (s[k].toNat : Int) ≤ 57) :
    decFrom 0 (s.data.toList.take (k + 1)) = some (m * 10 + (s[k].toNat - 48)) := by
  refine decFrom_take _ k 0 m _ _ hm (at_byte s k h) ?_
  unfold digitVal
  rw [if_pos (by omega)]
theorem dec_all {s : ByteArray} {k m : Nat} (h : s.size ≤ k) (hm : decFrom 0 (s.data.toList.take k) = some m) : decFrom 0 s.data.toList = some m := by
  rwa [List.take_of_length_le (by simpa using h)] at hm
theorem out_none {s : ByteArray} (h : s.size = 0 ∨ 10 < s.size) : parseNum s.data.toList = none := by
  rcases h with h | h
  · have e : s.data.toList = [] := List.length_eq_zero_iff.1 (by simpa using h)
    rw [e]; exact spec_none_nil
  · exact spec_none_long (by simpa using h)
theorem head_of (s : ByteArray) (h : 0 < s.size) (h0 : (s[0].toNat : Int) = 48) : s.data.toList.head? = some 48 := by
  rw [List.head?_eq_getElem?, at_byte s 0 h]
  congr 1
  apply UInt8.toNat_inj.1
  show s[0].toNat = 48
  omega
theorem head_is (s : ByteArray) (h : 0 < s.size) (h0 : s.data.toList.head? = some 48) : (s[0].toNat : Int) = 48 := by
  rw [List.head?_eq_getElem?, at_byte s 0 h] at h0
  rw [Option.some.inj h0]; rfl
set_option maxHeartbeats 400000 in
theorem spec_ParseNum (s : ByteArray) (hlim : s.size ≤ 281474976710656) (w : World) :
    Calls Tryz.prog 156 #[.string s] w fun e w' => e = .returned (numTuple (parseNum s.data.toList)) ∧ w = w' := by
  go_enter Tryz.func156, Tryz.ntmps156
  go_wp2
  go_loop [4, 5] (fun n i => ∃ k m : Nat, k ≤ s.size ∧ k ≤ 11 ∧ n = .int .i64 m ∧ i = .int .i64 k ∧ Hid (decFrom 0 (s.data.toList.take k) = some m)) (fun _ i => s.size - (RowKit.intOf i).toNat)
  case atStart => exact ⟨0, 0, by omega, by omega, rfl, rfl, rfl⟩
  case round =>
    obtain ⟨k, m, hk, hk2, rfl, rfl, hm⟩ := hrel
    have hmb := decFrom_take_lt hm.out (by omega)
    by_cases hlt : k < s.size ∧ k < 11
    · obtain ⟨hlt, h11⟩ := hlt
      by_cases hd : 48 ≤ (s[k].toNat : Int) ∧ (s[k].toNat : Int) ≤ 57
      · obtain ⟨hd1, hd2⟩ := hd
        have hn : Hid _ := dec_next hlt hm.out hd1 hd2
        go_wp2_with (go_at_call 34; refine (In_yes _ _ _ _ hd1 hd2).mono ?_; rintro e w' ⟨rfl, rfl⟩)
        go_round
        case rel => exact ⟨k + 1, m * 10 + (s[k].toNat - 48), by omega, by omega, val_int (by omega), by go_num, hn⟩
        case measure => simp [RowKit.intOf]; omega
      · have hp := no_digit hlt hd
        have Hp := hid hp
        clear hp
        have hd' : (s[k].toNat : Int) < 48 ∨ 57 < (s[k].toNat : Int) := by omega
        clear hd
        have Hd := hid hd'
        clear hd'
        have hc2 : (s[k].toNat : Int) ≤ 255 := by have := s[k].toNat_lt; omega
        go_wp2_with (go_at_call 34; refine (In_no _ _ _ _ Hd.out).mono ?_; rintro e w' ⟨rfl, rfl⟩)
        go_ret2
        exact ⟨ret_num (by rw [Hp.out]; rfl) (by rw [Hp.out]; rfl), rfl⟩
    · by_cases hz : s.size = 0 ∨ 10 < s.size
      · have Hp : Hid (parseNum s.data.toList = none) := out_none hz
        have Hz : Hid ((s.size : Int) < 1 ∨ 10 < (s.size : Int)) := show (s.size : Int) < 1 ∨ 10 < (s.size : Int) by omega
        clear hz
        by_cases hlt2 : k < s.size
        · have h11 : ¬ k < 11 := fun h => hlt ⟨hlt2, h⟩
          clear hlt
          go_wp2_with (go_at_call 34; refine (In_no _ _ _ _ Hz.out).mono ?_; rintro e w' ⟨rfl, rfl⟩)
          go_ret2
          exact ⟨ret_num (by rw [Hp.out]; rfl) (by rw [Hp.out]; rfl), rfl⟩
        · clear hlt
          go_wp2_with (go_at_call 34; refine (In_no _ _ _ _ Hz.out).mono ?_; rintro e w' ⟨rfl, rfl⟩)
          go_ret2
          exact ⟨ret_num (by rw [Hp.out]; rfl) (by rw [Hp.out]; rfl), rfl⟩
      have hall : Hid _ := dec_all (by omega) hm.out
      have hnlt : ¬ k < s.size := by omega
      have b1 : (1 : Int) ≤ (s.size : Int) := by omega
      have b2 : (s.size : Int) ≤ 10 := by omega
      clear hlt hz
      by_cases h1 : 1 < s.size
      · by_cases h0 : (s[0].toNat : Int) = 48
        · have Hp : Hid (parseNum s.data.toList = none) := spec_none_nought (by simpa using h1) (head_of s (by omega) h0)
          go_wp2_with (go_at_call 34; refine (In_yes _ _ _ _ b1 b2).mono ?_; rintro e w' ⟨rfl, rfl⟩)
          go_ret2
          exact ⟨ret_num (by rw [Hp.out]; rfl) (by rw [Hp.out]; rfl), rfl⟩
        · have hB : ((s[0].toNat : Int) == 48) = false := by simpa using h0
          by_cases hg : m ≤ 2147483647
          · have Hp : Hid (parseNum s.data.toList = some m) := spec_some hall.out (by simp; omega) (fun hx => h0 (head_is s (by omega) hx.2)) hg
            clear h0
            go_wp2_with (go_at_call 34; refine (In_yes _ _ _ _ b1 b2).mono ?_; rintro e w' ⟨rfl, rfl⟩)
            go_ret2
            exact ⟨ret_num (by rw [Hp.out]; rfl) (by rw [Hp.out]; rfl), rfl⟩
          · have Hp : Hid (parseNum s.data.toList = none) := spec_none_great hall.out (by omega)
            clear h0
            go_wp2_with (go_at_call 34; refine (In_yes _ _ _ _ b1 b2).mono ?_; rintro e w' ⟨rfl, rfl⟩)
            go_ret2
            exact ⟨ret_num (by rw [Hp.out]; rfl) (by rw [Hp.out]; rfl), rfl⟩
      · have hm9 : m ≤ 2147483647 := by
          have := decFrom_lt _ _ _ hall.out
          have e : s.data.toList.length = 1 := by simp; omega
          rw [e] at this
          omega
        have Hp : Hid (parseNum s.data.toList = some m) := spec_some hall.out (by simp; omega) (fun hx => h1 (by simpa using hx.1)) hm9
        go_wp2_with (go_at_call 34; refine (In_yes _ _ _ _ b1 b2).mono ?_; rintro e w' ⟨rfl, rfl⟩)
        go_ret2
        exact ⟨ret_num (by rw [Hp.out]; rfl) (by rw [Hp.out]; rfl), rfl⟩
theorem spec_ParseNum_is (s : ByteArray) (hlim : s.size ≤ 281474976710656) (u : Int) (b : Bool) (hu : (((parseNum s.data.toList).getD 0 : Nat) : Int) = u) (hb : (parseNum s.data.toList).isSome = b) (w : World) :
    Calls Tryz.prog 156 #[.string s] w fun e w' => e = .returned (.tuple #[.int .i64 u, .bool b]) ∧ w = w' := by
  subst hu; subst hb
  exact spec_ParseNum s hlim w
end Go.Proofs.YtpinockfakndlaaGreat
