/-
  Texts in one: TokName, RngOk.
-/
import Derived.Test.YtjdpddcnogdekaaGreatP08ofMx
import Derived.Test.YtjdpddcnogdekaaGreatP09ofMx
import Derived.Test.YtjdpddcnogdekaaGreatP05ofMx
import Derived.Deep.RegionHeld
import Derived.Deep.QuietTactic
import Derived.BigQuiet
import Derived.Shelf.Abstract
/-
  The contracts of NameOk, the specification's and the landed code's, and of what both call.
-/
namespace Go.Proofs.YtjdpddcnogdekaaGreat
open Go.RowKit Go.Lib
set_option linter.unusedSimpArgs false

theorem ret_kind {k : IntKind} {a b : Int} (h : a = b) : Ending.returned (.int k a) = .returned (.int k b) := by rw [h]
theorem ret_bool {a b : Bool} (h : a = b) : Ending.returned (.bool a) = .returned (.bool b) := by rw [h]
def marksB : ByteArray := ⟨#[59, 61, 91, 93, 40, 41, 123, 125, 43, 45, 42, 44]⟩
theorem asc_marks : Asci marksB := by
  intro b hb
  simp only [marksB, List.mem_cons, List.not_mem_nil, or_false] at hb
  rcases hb with rfl | rfl | rfl | rfl | rfl | rfl | rfl | rfl | rfl | rfl | rfl | rfl <;> decide
theorem marks_any (b : UInt8) : (marksB.data.toList.any (· == b)) = decide (b ∈ marksL) := by
  by_cases h : b ∈ marksL
  · rw [decide_eq_true h, List.any_eq_true]; exact ⟨b, h, by simp⟩
  · rw [decide_eq_false h, List.any_eq_false]; intro x hx hxb; rw [beq_iff_eq] at hxb; subst hxb; exact h hx
theorem ContainsMark (b : UInt8) (hb : b.toNat < 128) (v : Bool) (hv : decide (b ∈ marksL) = v) (w : World) :
    Calls Tryz.prog 96 #[.string ⟨#[59, 61, 91, 93, 40, 41, 123, 125, 43, 45, 42, 44]⟩, .int .i32 (b.toNat : Int)] w fun e w' => e = .returned (.bool v) ∧ w = w' := by
  subst hv
  have e : ((b.toNat : Int)).toNat.toUInt8 = b := by simp
  refine (ContainsRune_ascii marksB (b.toNat : Int) w (by omega) (by omega)).mono ?_
  rintro x w' ⟨rfl, rfl⟩
  rw [e, marks_any]
  exact ⟨rfl, rfl⟩
set_option maxHeartbeats 1000000 in
theorem runeKind_ascii (b : UInt8) (hb : b.toNat < 128) (w : World) :
    Calls Tryz.prog 86 #[.int .i32 (b.toNat : Int)] w fun e w' => e = .returned (.int .i64 (kind b : Int)) ∧ w = w' := by
  by_cases g : b.toNat = 32 ∨ b.toNat = 10
  · have Hk : Hid (kind b = 0) := show kind b = 0 by unfold kind; rw [if_pos g]
    rcases g with g | g
    · have g' : (b.toNat : Int) = 32 := by omega
      clear g
      go_enter Tryz.func86, Tryz.ntmps86
      go_wp2
      go_ret
      exact ⟨ret_kind (by rw [Hk.out]; rfl), rfl⟩
    · have g' : (b.toNat : Int) = 10 := by omega
      clear g
      go_enter Tryz.func86, Tryz.ntmps86
      go_wp2
      go_ret
      exact ⟨ret_kind (by rw [Hk.out]; rfl), rfl⟩
  have g1 : ((b.toNat : Int) == 32) = false := by rw [beq_eq_false_iff_ne]; omega
  have g2 : ((b.toNat : Int) == 10) = false := by rw [beq_eq_false_iff_ne]; omega
  by_cases l : 97 ≤ b.toNat ∧ b.toNat ≤ 122
  · have Hk : Hid (kind b = 1) := show kind b = 1 by unfold kind; rw [if_neg g, if_pos l]
    have l1 : 97 ≤ (b.toNat : Int) := by omega
    have l2 : (b.toNat : Int) ≤ 122 := by omega
    clear g l
    go_enter Tryz.func86, Tryz.ntmps86
    go_wp2
    go_ret
    exact ⟨ret_kind (by rw [Hk.out]; rfl), rfl⟩
  by_cases d : 48 ≤ b.toNat ∧ b.toNat ≤ 57
  · have Hk : Hid (kind b = 2) := show kind b = 2 by unfold kind; rw [if_neg g, if_neg l, if_pos d]
    have d1 : 48 ≤ (b.toNat : Int) := by omega
    have d2 : (b.toNat : Int) ≤ 57 := by omega
    clear g l d
    go_enter Tryz.func86, Tryz.ntmps86
    go_wp2
    go_ret
    exact ⟨ret_kind (by rw [Hk.out]; rfl), rfl⟩
  have Hl : Hid (¬ (97 ≤ (b.toNat : Int) ∧ (b.toNat : Int) ≤ 122)) := show ¬ (97 ≤ (b.toNat : Int) ∧ (b.toNat : Int) ≤ 122) by omega
  have Hd : Hid (¬ (48 ≤ (b.toNat : Int) ∧ (b.toNat : Int) ≤ 57)) := show ¬ (48 ≤ (b.toNat : Int) ∧ (b.toNat : Int) ≤ 57) by omega
  by_cases m : b ∈ marksL
  · have Hk : Hid (kind b = 3) := show kind b = 3 by unfold kind; rw [if_neg g, if_neg l, if_neg d, if_pos m]
    have Hm : Hid (decide (b ∈ marksL) = true) := decide_eq_true m
    clear g l d m
    go_enter Tryz.func86, Tryz.ntmps86
    go_wp2_with (go_at_call 96; refine (ContainsMark b hb true Hm.out _).mono ?_; rintro e w' ⟨rfl, rfl⟩)
    all_goals first
      | exact absurd ⟨by assumption, by assumption⟩ Hl.out
      | exact absurd ⟨by assumption, by assumption⟩ Hd.out
      | (go_ret; exact ⟨ret_kind (by rw [Hk.out]; rfl), rfl⟩)
  · have Hk : Hid (kind b = 4) := show kind b = 4 by unfold kind; rw [if_neg g, if_neg l, if_neg d, if_neg m]
    have Hm : Hid (decide (b ∈ marksL) = false) := decide_eq_false m
    clear g l d m
    go_enter Tryz.func86, Tryz.ntmps86
    go_wp2_with (go_at_call 96; refine (ContainsMark b hb false Hm.out _).mono ?_; rintro e w' ⟨rfl, rfl⟩)
    all_goals first
      | exact absurd ⟨by assumption, by assumption⟩ Hl.out
      | exact absurd ⟨by assumption, by assumption⟩ Hd.out
      | (go_ret; exact ⟨ret_kind (by rw [Hk.out]; rfl), rfl⟩)
set_option maxHeartbeats 1000000 in
theorem runeKind_high (r : Int) (h0 : 128 ≤ r) (h1 : r ≤ 1114111) (w : World) :
    Calls Tryz.prog 86 #[.int .i32 r] w fun e w' => e = .returned (.int .i64 4) ∧ Below w.heap.size w w' := by
  have g1 : (r == 32) = false := by rw [beq_eq_false_iff_ne]; omega
  have g2 : (r == 10) = false := by rw [beq_eq_false_iff_ne]; omega
  go_enter Tryz.func86, Tryz.ntmps86
  go_wp2_with (go_at_call 96; refine (ContainsRune_high marksB asc_marks (by decide) r h0 h1 _).mono ?_; rintro e w' ⟨rfl, hb⟩)
  all_goals first
    | omega
    | (go_ret; exact ⟨rfl, hb⟩)
/-- The kind of the rune that stands at a place is the kind of its first byte. -/
theorem runeKind_at (s : ByteArray) (pos : Nat) (h : pos < s.size) (w : World) :
    Calls Tryz.prog 86 #[.int .i32 ((Utf8.decode s pos).1 : Int)] w fun e w' => e = .returned (.int .i64 (kind (s[pos]'h) : Int)) ∧ Below w.heap.size w w' := by
  by_cases ha : (s[pos]'h).toNat < 128
  · rw [decode_ascii s pos h ha]
    refine (runeKind_ascii _ ha w).mono ?_
    rintro e w' ⟨rfl, rfl⟩
    exact ⟨rfl, Below.refl _ _⟩
  · have hd := (decode_high s pos h (by omega)).1
    have hm := decode_max s pos
    rw [kind_high (by omega)]
    exact runeKind_high _ (by omega) (by omega) w

/-! ### the landed code's NameOk -/
theorem isKept_is (s : ByteArray) (b : Bool) (hb : keptL.contains s.data.toList = b) (w : World) :
    Calls Tryz.prog 67 #[.string s] w fun e w' => e = .returned (.bool b) ∧ w = w' := by
  subst hb
  have hl : s.toList = s.data.toList := ByteArray.toList_eq s
  generalize s.data.toList = l at hl
  have e : keptL.contains l = ((l == [97, 114, 114, 97, 121]) || (l == [102, 111, 114]) || (l == [116, 111]) || (l == [112, 114, 105, 110, 116]) || (l == [109, 105, 110]) || (l == [109, 97, 120])) := by
    simp only [keptL, List.contains_cons, List.contains_nil, Bool.or_false, Bool.or_assoc]
  rw [e]
  clear e
  go_enter Tryz.func67, Tryz.ntmps67
  go_wp2
  all_goals
    go_ret
    refine ⟨ret_bool ?_, rfl⟩
    simp_all
set_option maxHeartbeats 1000000 in
theorem allLetters_is (s : ByteArray) (b : Bool) (hb : s.data.toList.all (fun b => kind b == 1) = b) (w : World) :
    Calls Tryz.prog 66 #[.string s] w fun e w' => e = .returned (.bool b) ∧ Below w.heap.size w w' := by
  subst hb
  go_enter Tryz.func66, Tryz.ntmps66
  go_wp2
  go_loopw [] (fun wr => ∃ pos, pos ≤ s.size ∧ wr.heap[w.heap.size]? = some (.stringIter s pos) ∧ Below w.heap.size w wr ∧ Hid (∀ j (h : j < s.size), j < pos → kind (s[j]'h) = 1)) (fun wr => s.size - wr.iterPos w.heap.size)
  case atStart => exact ⟨0, by omega, World.iter_heap w s 0, (Below.refl _ w).alloc (Nat.le_refl _) _, fun j _ h => absurd h (by omega)⟩
  case round =>
    obtain ⟨pos, hpos, hit, hbw, hall⟩ := hrel
    by_cases hp : pos < s.size
    · have hnx : ∀ ty, (Instr.next (.pointer (some ⟨w.heap.size, 0, none⟩)) true ty).run Tryz.prog wr = _ := fun ty => Lib.run_next_any_at wr w.heap.size s pos ty hit hp
      have hit2 := Lib.iterAt_heap wr w.heap.size s pos (pos + (Utf8.decode s pos).2) hit
      have hbw2 := Lib.below_iterAt hbw (k := w.heap.size) (Nat.le_refl _) s (pos + (Utf8.decode s pos).2)
      by_cases hk : kind (s[pos]'hp) = 1
      · have ha := kind_low (b := s[pos]'hp) (by omega)
        have Hd : Hid (Utf8.decode s pos = ((s[pos]'hp).toNat, 1)) := decode_ascii s pos hp ha
        have Hk : Hid (kind (s[pos]'hp) = 1) := hk
        clear hk
        go_wp2_with fail
        refine (runeKind_at s pos hp _).mono ?_
        rintro e w1 ⟨rfl, hb1⟩
        rw [Hk.out]
        go_wp2
        have hit3 : w1.heap[w.heap.size]? = some (.stringIter s (pos + 1)) := by
          have := hb1.block w.heap.size (by rw [Lib.iterAt_size]; exact (Array.getElem?_eq_some_iff.1 hit).1)
          rw [this, hit2, Hd.out]
        go_roundw
        case rel =>
          refine ⟨pos + 1, by omega, hit3, hbw2.trans (hb1.mono (by rw [Lib.iterAt_size]; exact hbw.size)), fun j hj hlt => ?_⟩
          · rcases Nat.lt_or_ge j pos with h1 | h1
            · exact hall.out j hj h1
            · have : j = pos := by omega
              subst this; exact Hk.out
        case measure =>
          simp only [World.iterPos, hit3, hit]
          omega
      · have Hf : Hid (s.data.toList.all (fun b => kind b == 1) = false) := by
          show s.data.toList.all (fun b => kind b == 1) = false
          rw [List.all_eq_false]
          exact ⟨s[pos]'hp, Array.getElem_mem_toList (xs := s.data) hp, by simpa using hk⟩
        have Hk : Hid (((kind (s[pos]'hp) : Int) == 1) = false) := show ((kind (s[pos]'hp) : Int) == 1) = false by rw [beq_eq_false_iff_ne]; omega
        clear hk
        go_wp2_with fail
        refine (runeKind_at s pos hp _).mono ?_
        rintro e w1 ⟨rfl, hb1⟩
        have hk := Hk.out
        go_wp2
        go_ret
        exact ⟨ret_bool Hf.out.symm, hbw2.trans (hb1.mono (by rw [Lib.iterAt_size]; exact hbw.size))⟩
    · have hnx : ∀ ty, (Instr.next (.pointer (some ⟨w.heap.size, 0, none⟩)) true ty).run Tryz.prog wr = _ := fun ty => Lib.run_next_end_at wr w.heap.size s pos ty hit hp
      go_wp2
      go_ret
      refine ⟨ret_bool ?_, hbw⟩
      symm
      rw [List.all_eq_true]
      intro x hx
      obtain ⟨j, hj, rfl⟩ := List.getElem_of_mem hx
      have hj' : j < s.size := by simpa using hj
      have := hall.out j hj' (by omega)
      rw [beq_iff_eq, Array.getElem_toList]; exact this
theorem nameOk_eq (l : List UInt8) : nameOk l = (decide (1 ≤ l.length) && decide (l.length ≤ 6) && l.all (fun b => kind b == 1) && !(keptL.contains l)) := rfl
set_option maxHeartbeats 1000000 in
theorem impl_NameOk (s : ByteArray) (b : Bool) (hb : nameOk s.data.toList = b) (w : World) :
    Calls Tryz.prog 45 #[.string s] w fun e w' => e = .returned (.bool b) ∧ Below w.heap.size w w' := by
  subst hb
  have hlen : s.data.toList.length = s.size := by simp
  have hl : s.toList = s.data.toList := ByteArray.toList_eq s
  by_cases h0 : s.size = 0
  · have Hn : Hid (nameOk s.data.toList = false) := show nameOk s.data.toList = false by rw [nameOk_eq, hlen, h0]; simp
    have he : (s.toList == []) = true := by rw [hl]; have : s.data.toList = [] := List.length_eq_zero_iff.1 (by omega); rw [this]; rfl
    clear h0 hlen hl
    go_enter Tryz.func45, Tryz.ntmps45
    go_wp2
    go_ret
    exact ⟨ret_bool Hn.out.symm, Below.refl _ _⟩
  have he : (s.toList == []) = false := by
    rw [hl, beq_eq_false_iff_ne]; intro e; rw [e] at hlen; exact h0 (by simpa using hlen.symm)
  by_cases h6 : s.size ≤ 6
  · have h6' : (s.size : Int) ≤ 6 := by omega
    cases ha : s.data.toList.all (fun b => kind b == 1) with
    | false =>
      have Hn : Hid (nameOk s.data.toList = false) := show nameOk s.data.toList = false by rw [nameOk_eq, ha]; simp
      have Ha := Lib.hid ha
      clear ha h0 hlen hl
      go_enter Tryz.func45, Tryz.ntmps45
      go_wp2_with (go_at_call 66; refine (allLetters_is s false Ha.out _).mono ?_; rintro e w' ⟨rfl, hb⟩)
      go_ret
      exact ⟨ret_bool Hn.out.symm, hb⟩
    | true =>
      cases hk : keptL.contains s.data.toList with
      | false =>
        have Hn : Hid (nameOk s.data.toList = true) := show nameOk s.data.toList = true by rw [nameOk_eq, ha, hk, hlen, decide_eq_true (by omega), decide_eq_true h6]; rfl
        have Ha := Lib.hid ha
        have Hk := Lib.hid hk
        clear ha hk h0 hlen hl
        go_enter Tryz.func45, Tryz.ntmps45
        go_wp2_with (first | (go_at_call 66; refine (allLetters_is s true Ha.out _).mono ?_; rintro e w' ⟨rfl, hb⟩) | (go_at_call 67; refine (isKept_is s false Hk.out _).mono ?_; rintro e w' ⟨rfl, rfl⟩))
        go_ret
        exact ⟨ret_bool Hn.out.symm, hb⟩
      | true =>
        have Hn : Hid (nameOk s.data.toList = false) := show nameOk s.data.toList = false by rw [nameOk_eq, hk]; simp
        have Ha := Lib.hid ha
        have Hk := Lib.hid hk
        clear ha hk h0 hlen hl
        go_enter Tryz.func45, Tryz.ntmps45
        go_wp2_with (first | (go_at_call 66; refine (allLetters_is s true Ha.out _).mono ?_; rintro e w' ⟨rfl, hb⟩) | (go_at_call 67; refine (isKept_is s true Hk.out _).mono ?_; rintro e w' ⟨rfl, rfl⟩))
        go_ret
        exact ⟨ret_bool Hn.out.symm, hb⟩
  · have Hn : Hid (nameOk s.data.toList = false) := show nameOk s.data.toList = false by rw [nameOk_eq, hlen, decide_eq_false h6]; simp
    have h6' : decide ((s.size : Int) ≤ 6) = false := decide_eq_false (by omega)
    clear h6 h0 hlen hl
    go_enter Tryz.func45, Tryz.ntmps45
    go_wp2
    go_ret
    exact ⟨ret_bool Hn.out.symm, Below.refl _ _⟩

/-! ### the specification's NameOk -/
theorem In_is (x a b : Int) (v : Bool) (hv : (decide (a ≤ x) && decide (x ≤ b)) = v) (w : World) : Calls Tryz.prog 38 #[.int .i64 x, .int .i64 a, .int .i64 b] w fun e w' => e = .returned (.bool v) ∧ w = w' := by
  subst hv
  by_cases h1 : a ≤ x
  · by_cases h2 : x ≤ b
    all_goals
      go_enter Tryz.func38, Tryz.ntmps38
      go_wp2
      go_ret
      exact ⟨ret_bool (by simp [h1, h2]), rfl⟩
  · go_enter Tryz.func38, Tryz.ntmps38
    go_wp2
    go_ret
    exact ⟨ret_bool (by rw [decide_eq_false (by omega : ¬ a ≤ x)]; rfl), rfl⟩
theorem kind1_iff (b : UInt8) : kind b = 1 ↔ 97 ≤ b.toNat ∧ b.toNat ≤ 122 := by
  unfold kind
  by_cases h0 : b.toNat = 32 ∨ b.toNat = 10
  · rw [if_pos h0]; omega
  · rw [if_neg h0]
    by_cases h1 : 97 ≤ b.toNat ∧ b.toNat ≤ 122
    · rw [if_pos h1]; simp [h1]
    · rw [if_neg h1]
      constructor
      · intro h; split at h
        · omega
        · split at h <;> omega
      · intro h; exact absurd h h1
theorem kind2_iff (b : UInt8) : kind b = 2 ↔ 48 ≤ b.toNat ∧ b.toNat ≤ 57 := by
  unfold kind
  by_cases h0 : b.toNat = 32 ∨ b.toNat = 10
  · rw [if_pos h0]; omega
  · rw [if_neg h0]
    by_cases h1 : 97 ≤ b.toNat ∧ b.toNat ≤ 122
    · rw [if_pos h1]; omega
    · rw [if_neg h1]
      by_cases h2 : 48 ≤ b.toNat ∧ b.toNat ≤ 57
      · rw [if_pos h2]; simp [h2]
      · rw [if_neg h2]
        constructor
        · intro h; split at h <;> omega
        · intro h; exact absurd h h2
set_option maxRecDepth 100000 in
theorem l2Small_is (b : UInt8) (v : Bool) (hv : decide (kind b = 1) = v) (w : World) : Calls Tryz.prog 88 #[.int .u8 (b.toNat : Int)] w fun e w' => e = .returned (.bool v) ∧ w = w' := by
  have Hv : Hid ((decide ((97 : Int) ≤ (b.toNat : Int)) && decide ((b.toNat : Int) ≤ 122)) = v) := show (decide ((97 : Int) ≤ (b.toNat : Int)) && decide ((b.toNat : Int) ≤ 122)) = v by
    subst hv
    by_cases h : kind b = 1
    · have := (kind1_iff b).1 h
      rw [decide_eq_true h, decide_eq_true (by omega), decide_eq_true (by omega)]; rfl
    · have : ¬ (97 ≤ b.toNat ∧ b.toNat ≤ 122) := fun x => h ((kind1_iff b).2 x)
      rw [decide_eq_false h]
      rcases Nat.lt_or_ge b.toNat 97 with h1 | h1
      · rw [decide_eq_false (by omega : ¬ (97 : Int) ≤ (b.toNat : Int))]; rfl
      · rw [decide_eq_false (by omega : ¬ (b.toNat : Int) ≤ 122), Bool.and_false]
  have hc2 : (b.toNat : Int) ≤ 255 := by have := b.toNat_lt; omega
  clear hv
  go_enter Tryz.func88, Tryz.ntmps88
  go_wp2_with fail
  refine (In_is (b.toNat : Int) 97 122 v Hv.out _).mono ?_
  rintro e w' ⟨rfl, rfl⟩
  go_wp2
  go_ret
  exact ⟨rfl, rfl⟩
set_option maxHeartbeats 1000000 in
theorem l2Has_is (lb n c : Nat) (ss : List (List UInt8)) (hn : ss.length = n) (hn1 : n ≤ 1000) (s : ByteArray) (v : Bool) (hv : ss.contains s.data.toList = v) (w : World)
    (hc : ∀ j l, ss[j]? = some l → w.cell? ⟨lb, j, Option.none⟩ = some (.string ⟨l.toArray⟩)) :
    Calls Tryz.prog 97 #[.slice (some ⟨lb, 0, Option.none⟩) n c, .string s] w fun e w' => e = .returned (.bool v) ∧ w = w' := by
  have Hv := Lib.hid hv
  have Hc := Lib.hid hc
  clear hc hv
  go_enter Tryz.func97, Tryz.ntmps97
  go_wp2
  go_loop [5] (fun i => ∃ k : Nat, k ≤ n ∧ i = .int .i64 k ∧ Hid (∀ j, j < k → ss[j]? ≠ some s.data.toList)) (fun i => n - (RowKit.intOf i).toNat)
  case atStart => exact ⟨0, by omega, rfl, fun j h => absurd h (by omega)⟩
  case round =>
    obtain ⟨k, hk, rfl, hall⟩ := hrel
    by_cases hlt : k < n
    · obtain ⟨l, hl⟩ : ∃ l, ss[k]? = some l := ⟨ss[k]'(by omega), List.getElem?_eq_getElem (by omega)⟩
      have hcell := Hc.out k l hl
      have Hl := Lib.hid hl
      clear hl
      by_cases he : l = s.data.toList
      · have hE : (l == s.toList) = true := by rw [ByteArray.toList_eq, he]; simp
        subst he
        go_wp2
        go_ret
        refine ⟨ret_bool ?_, rfl⟩
        rw [← Hv.out]; symm
        rw [List.contains_iff_mem]
        exact List.mem_of_getElem? Hl.out
      · have hE : (l == s.toList) = false := by rw [ByteArray.toList_eq, beq_eq_false_iff_ne]; exact he
        have He := Lib.hid he
        clear he
        go_wp2
        go_round
        case rel =>
          refine ⟨k + 1, by omega, by go_num, fun j hj => ?_⟩
          rcases Nat.lt_or_ge j k with h1 | h1
          · exact hall.out j h1
          · have : j = k := by omega
            subst this; rw [Hl.out]; intro e; exact He.out (Option.some.inj e)
        case measure => simp [RowKit.intOf]; omega
    · go_wp2
      go_ret
      refine ⟨ret_bool ?_, rfl⟩
      rw [← Hv.out]; symm
      rw [← Bool.not_eq_true, List.contains_iff_mem]
      intro hm
      obtain ⟨j, hj, e⟩ := List.getElem_of_mem hm
      exact hall.out j (by omega) (by rw [List.getElem?_eq_getElem hj, e])
/-- What a slice of constant strings holds when it has just been laid. -/
def strs (ss : List (List UInt8)) : List Value := ss.map fun l => .string ⟨l.toArray⟩
theorem strs_cells (w : World) (ss : List (List UInt8)) (t : TypeId) : ∀ j l, ss[j]? = some l → (w.alloc (.cells (strs ss).toArray t)).cell? ⟨w.heap.size, j, Option.none⟩ = some (.string ⟨l.toArray⟩) := by
  intro j l h
  have e : (w.alloc (.cells (strs ss).toArray t)).heap[w.heap.size]? = some (.cells (strs ss).toArray t (0, 0)) := by
    show (w.heap.push (Obj.cells (strs ss).toArray t (0, 0)))[w.heap.size]? = _
    simp
  simp only [World.cell?, e]
  simp [strs, h]
theorem l2Kept_is (s : ByteArray) (v : Bool) (hv : keptL.contains s.data.toList = v) (w : World) :
    Calls Tryz.prog 89 #[.string s] w fun e w' => e = .returned (.bool v) ∧ Below w.heap.size w w' := by
  have Hv := Lib.hid hv
  clear hv
  go_enter Tryz.func89, Tryz.ntmps89
  go_wp2_with fail
  refine (l2Has_is _ 6 _ keptL rfl (by decide) s v Hv.out _ (strs_cells w keptL _)).mono ?_
  rintro e w' ⟨rfl, rfl⟩
  go_wp2
  go_ret
  exact ⟨rfl, (Below.refl _ w).alloc (Nat.le_refl _) _⟩
set_option maxHeartbeats 1000000 in
theorem spec_NameOk (s : ByteArray) (v : Bool) (hv : nameOk s.data.toList = v) (hlim : s.size ≤ 281474976710656) (w : World) :
    Calls Tryz.prog 73 #[.string s] w fun e w' => e = .returned (.bool v) ∧ Below w.heap.size w w' := by
  have hlen : s.data.toList.length = s.size := by simp
  have Hv := Lib.hid hv
  clear hv
  go_enter Tryz.func73, Tryz.ntmps73
  go_wp2
  go_loop [3] (fun i => ∃ k : Nat, k ≤ s.size ∧ i = .int .i64 k ∧ Hid (∀ j (h : j < s.size), j < k → kind (s[j]'h) = 1)) (fun i => s.size - (RowKit.intOf i).toNat)
  case atStart => exact ⟨0, by omega, rfl, fun j _ h => absurd h (by omega)⟩
  case round =>
    obtain ⟨k, hk, rfl, hall⟩ := hrel
    by_cases hlt : k < s.size
    · by_cases hd : kind (s[k]'hlt) = 1
      · have Hd : Hid (decide (kind (s[k]'hlt) = 1) = true) := decide_eq_true hd
        have Hd1 := Lib.hid hd
        clear hd
        go_wp2_with (go_at_call 88; refine (l2Small_is (s[k]'hlt) true Hd.out _).mono ?_; rintro e w' ⟨rfl, rfl⟩)
        go_round
        case rel =>
          refine ⟨k + 1, by omega, by go_num, fun j hj hjk => ?_⟩
          rcases Nat.lt_or_ge j k with h1 | h1
          · exact hall.out j hj h1
          · have : j = k := by omega
            subst this; exact Hd1.out
        case measure => simp [RowKit.intOf]; omega
      · have Hd : Hid (decide (kind (s[k]'hlt) = 1) = false) := decide_eq_false hd
        have Hn : Hid (v = false) := show v = false by
          rw [← Hv.out, nameOk_eq]
          have : s.data.toList.all (fun b => kind b == 1) = false := by
            rw [List.all_eq_false]; exact ⟨s[k]'hlt, Array.getElem_mem_toList (xs := s.data) hlt, by simpa using hd⟩
          rw [this]; simp
        clear hd
        go_wp2_with (go_at_call 88; refine (l2Small_is (s[k]'hlt) false Hd.out _).mono ?_; rintro e w' ⟨rfl, rfl⟩)
        go_ret
        exact ⟨ret_bool Hn.out.symm, Below.refl _ _⟩
    · have Ha : Hid (s.data.toList.all (fun b => kind b == 1) = true) := show s.data.toList.all (fun b => kind b == 1) = true by
        rw [List.all_eq_true]
        intro x hx
        obtain ⟨j, hj, rfl⟩ := List.getElem_of_mem hx
        have hj' : j < s.size := by simpa using hj
        rw [beq_iff_eq, Array.getElem_toList]; exact hall.out j hj' (by omega)
      by_cases hn : 1 ≤ s.size ∧ s.size ≤ 6
      · have Hi : Hid ((decide ((1 : Int) ≤ (s.size : Int)) && decide ((s.size : Int) ≤ 6)) = true) := show (decide ((1 : Int) ≤ (s.size : Int)) && decide ((s.size : Int) ≤ 6)) = true by simp; omega
        cases hq : keptL.contains s.data.toList with
        | false =>
          have Hn : Hid (v = true) := show v = true by rw [← Hv.out, nameOk_eq, Ha.out, hq, hlen, decide_eq_true hn.1, decide_eq_true hn.2]; rfl
          have Hq := Lib.hid hq
          clear hq hn hlen
          go_wp2_with (first | (go_at_call 38; refine (In_is _ _ _ true Hi.out _).mono ?_; rintro e w' ⟨rfl, rfl⟩) | (go_at_call 89; refine (l2Kept_is s false Hq.out _).mono ?_; rintro e w' ⟨rfl, hb⟩))
          go_ret
          exact ⟨ret_bool Hn.out.symm, hb⟩
        | true =>
          have Hn : Hid (v = false) := show v = false by rw [← Hv.out, nameOk_eq, hq]; simp
          have Hq := Lib.hid hq
          clear hq hn hlen
          go_wp2_with (first | (go_at_call 38; refine (In_is _ _ _ true Hi.out _).mono ?_; rintro e w' ⟨rfl, rfl⟩) | (go_at_call 89; refine (l2Kept_is s true Hq.out _).mono ?_; rintro e w' ⟨rfl, hb⟩))
          go_ret
          exact ⟨ret_bool Hn.out.symm, hb⟩
      · have Hi : Hid ((decide ((1 : Int) ≤ (s.size : Int)) && decide ((s.size : Int) ≤ 6)) = false) := show (decide ((1 : Int) ≤ (s.size : Int)) && decide ((s.size : Int) ≤ 6)) = false by simp; omega
        have Hn : Hid (v = false) := show v = false by
          rw [← Hv.out, nameOk_eq, hlen]
          rcases Nat.lt_or_ge s.size 1 with h1 | h1
          · rw [decide_eq_false (by omega : ¬ 1 ≤ s.size)]; simp
          · rw [decide_eq_false (by omega : ¬ s.size ≤ 6)]; simp
        clear hn hlen
        go_wp2_with (go_at_call 38; refine (In_is _ _ _ false Hi.out _).mono ?_; rintro e w' ⟨rfl, rfl⟩)
        go_ret
        exact ⟨ret_bool Hn.out.symm, Below.refl _ _⟩
end Go.Proofs.YtjdpddcnogdekaaGreat
/-
  Boxes: what is right; slices.ContainsFunc over ranges; hasRng, hasWays, rngEndOk, BoxOk of the landed code; l9At of the specification.
-/
namespace Go.Proofs.YtjdpddcnogdekaaGreat
open Go.RowKit Go.Lib Go.Shelf
set_option linter.unusedSimpArgs false
set_option linter.unusedVariables false

def inEnd9 (n : Int) : Bool := decide (-10000 ≤ n) && decide (n ≤ 10000)
def hasR9 (rs : List RG) (s : ByteArray) : Bool := rs.any fun r => decide (r.s = s)
def rgOk9 (pre : List RG) (t : RG) : Bool := nameOk t.s.data.toList && inEnd9 t.lo && inEnd9 t.hi && !(hasR9 pre t.s)
def boxGo9 (rs : List RG) : Nat → Nat → Bool
  | _, 0 => true
  | k, n + 1 => (match rs[k]? with | some t => rgOk9 (rs.take k) t | none => true) && boxGo9 rs (k + 1) n
def boxOk9 (rs : List RG) : Bool := decide (rs.length ≤ 8) && boxGo9 rs 0 rs.length
def waysOk9 (rs : List RG) : Bool := boxOk9 rs && !(rs.any fun r => decide (r.lo > r.hi))
theorem boxGo9_at {rs : List RG} {k : Nat} {t : RG} (h : rs[k]? = some t) : boxGo9 rs k (rs.length - k) = (rgOk9 (rs.take k) t && boxGo9 rs (k + 1) (rs.length - (k + 1))) := by
  have hlt := (List.getElem?_eq_some_iff.1 h).1
  rw [show rs.length - k = (rs.length - (k + 1)) + 1 by omega, boxGo9, h]
theorem drop9 {ts : List RG} {k : Nat} {t : RG} (h : ts[k]? = some t) : ts.drop k = t :: ts.drop (k + 1) := by
  have hlt := (List.getElem?_eq_some_iff.1 h).1
  rw [List.drop_eq_getElem_cons hlt]; congr 1; rw [List.getElem?_eq_getElem hlt] at h; injection h
/-- Where the first one is that p says yes of. -/
def findR9 (p : RG → Bool) : List RG → Nat → Int
  | [], _ => -1
  | t :: r, k => if p t = true then (k : Int) else findR9 p r (k + 1)
theorem findR9_any (p : RG → Bool) : ∀ (l : List RG) (k : Nat), decide (findR9 p l k ≥ 0) = l.any p
  | [], _ => by simp [findR9]
  | t :: r, k => by
    unfold findR9
    by_cases h : p t = true
    · rw [if_pos h]; simp [h]
    · rw [if_neg h, findR9_any p r (k + 1)]; simp [h]
set_option maxHeartbeats 1000000 in
theorem IndexFunc9 (rs : List RG) (hn : rs.length ≤ 1000000000) (p : RG → Bool) (kf : Nat) (caps : Array Value) (hent : ∀ (args : Array Value) (w : World), (callFunc kf args).run Tryz.prog w = .ok (.enter kf args) w) (J : World → Prop) (hon : ∀ w w', J w → Below w.heap.size w w' → J w')
    (hcall : ∀ w, J w → ∀ t : RG, Calls Tryz.prog kf (#[.agg #[.string t.s, .int .i64 t.lo, .int .i64 t.hi]] ++ caps) w fun e w' => e = .returned (.bool (p t)) ∧ Below w.heap.size w w') (v : Value) (w : World) (hJ : J w) (hr : RV w 0 v rs) :
    Calls Tryz.prog 87 #[v, .func (.func kf) #[] caps] w fun e w' => e = .returned (.int .i64 (findR9 p rs 0)) ∧ Below w.heap.size w w' := by
  obtain ⟨ao, cap, rfl, _, hr⟩ := hr
  have Hr := Lib.hid hr
  have HJ := Lib.hid hJ
  have HO := Lib.hid hon
  have HC := Lib.hid hcall
  clear hr hJ hon hcall
  go_enter Tryz.func87, Tryz.ntmps87
  go_wp2
  go_loopw [8] (fun i wr => ∃ k : Nat, k ≤ rs.length ∧ i = .int .i64 k ∧ Hid (findR9 p rs 0 = findR9 p (rs.drop k) k) ∧ Hid (Below w.heap.size w wr)) (fun i _ => rs.length - (RowKit.intOf i).toNat)
  case atStart => exact ⟨0, by omega, rfl, rfl, Below.refl _ _⟩
  case round =>
    obtain ⟨k, hk, rfl, hg, HB⟩ := hrel
    by_cases hlt : k < rs.length
    · have hltI : (k : Int) < (rs.length : Int) := by omega
      obtain ⟨t, ht⟩ : ∃ t, rs[k]? = some t := ⟨rs[k], List.getElem?_eq_getElem hlt⟩
      rcases Hr.out with hr | ⟨g, off, rfl, _, gl, hc⟩
      · subst hr; simp at hlt
      have A0 := (HB.out.cell (p := ⟨g, off + k * 3, Option.none⟩) gl).trans (hc k t ht).1
      have A1 := (HB.out.cell (p := ⟨g, off + k * 3 + 1, Option.none⟩) gl).trans (hc k t ht).2.1
      have A2 := (HB.out.cell (p := ⟨g, off + k * 3 + 2, Option.none⟩) gl).trans (hc k t ht).2.2
      have hd : Hid (rs.drop k = t :: rs.drop (k + 1)) := drop9 ht
      have Jr := Lib.hid (HO.out _ _ HJ.out HB.out)
      clear hc ht
      cases hp : p t with
      | true =>
        have R : Hid (findR9 p rs 0 = (k : Int)) := by show findR9 p rs 0 = (k : Int); rw [hg.out, hd.out, findR9, if_pos hp]
        have HP := Lib.hid hp
        clear hp
        go_wp2_with fail
        refine (HC.out _ Jr.out t).mono ?_
        rintro e w1 ⟨rfl, hb1⟩
        rw [HP.out]
        have B1 := Lib.hid (HB.out.trans (hb1.mono HB.out.size))
        clear hb1 A0 A1 A2
        go_wp2
        go_ret
        exact retI R.out.symm B1.out
      | false =>
        have R : Hid (findR9 p rs 0 = findR9 p (rs.drop (k + 1)) (k + 1)) := by show findR9 p rs 0 = _; rw [hg.out, hd.out, findR9, if_neg (by simp [hp])]
        have HP := Lib.hid hp
        clear hp
        go_wp2_with fail
        refine (HC.out _ Jr.out t).mono ?_
        rintro e w1 ⟨rfl, hb1⟩
        rw [HP.out]
        have B1 := Lib.hid (HB.out.trans (hb1.mono HB.out.size))
        clear hb1 A0 A1 A2
        go_wp2
        go_roundw
        case rel => exact ⟨k + 1, by omega, by go_num, R.out, B1.out⟩
        case measure => simp [RowKit.intOf]; omega
    · have R : Hid (findR9 p rs 0 = -1) := by show findR9 p rs 0 = -1; rw [hg.out, List.drop_of_length_le (by omega)]; rfl
      go_wp2
      go_ret
      exact retI R.out.symm HB.out
theorem ContainsFunc9 (rs : List RG) (hn : rs.length ≤ 1000000000) (p : RG → Bool) (kf : Nat) (caps : Array Value) (hent : ∀ (args : Array Value) (w : World), (callFunc kf args).run Tryz.prog w = .ok (.enter kf args) w) (J : World → Prop) (hon : ∀ w w', J w → Below w.heap.size w w' → J w')
    (hcall : ∀ w, J w → ∀ t : RG, Calls Tryz.prog kf (#[.agg #[.string t.s, .int .i64 t.lo, .int .i64 t.hi]] ++ caps) w fun e w' => e = .returned (.bool (p t)) ∧ Below w.heap.size w w') (v : Value) (w : World) (hJ : J w) (hr : RV w 0 v rs) :
    Calls Tryz.prog 68 #[v, .func (.func kf) #[] caps] w fun e w' => e = .returned (.bool (rs.any p)) ∧ Below w.heap.size w w' := by
  have HX := Lib.hid (IndexFunc9 rs hn p kf caps hent J hon hcall v w hJ hr)
  clear hcall hJ hr hon hent
  go_enter Tryz.func68, Tryz.ntmps68
  go_wp2_with fail
  refine HX.out.mono ?_
  rintro e w1 ⟨rfl, hb1⟩
  have HB := Lib.hid hb1
  clear hb1
  go_wp2
  go_ret
  exact ⟨ret_bool (findR9_any p rs 0), HB.out⟩
theorem belowD9 {B : Nat} {w w' : World} (h : Below B w w') (n : Nat) : Below B w (w'.drewN n) := ⟨h.os, h.tape, h.output, h.size, h.block⟩
theorem enters_hasRng (args : Array Value) (w : World) : (callFunc 69 args).run Tryz.prog w = .ok (.enter 69 args) w := enters_of Tryz.func69 (by kernel_rfl) rfl args w
theorem enters_hasWays (args : Array Value) (w : World) : (callFunc 93 args).run Tryz.prog w = .ok (.enter 93 args) w := enters_of Tryz.func93 (by kernel_rfl) rfl args w
theorem hasRng1_is (s : ByteArray) (b : Nat) (w : World) (hw : w.cell? ⟨b, 0, Option.none⟩ = some (.string s)) (t : RG) :
    Calls Tryz.prog 69 #[.agg #[.string t.s, .int .i64 t.lo, .int .i64 t.hi], .pointer (some ⟨b, 0, Option.none⟩)] w fun e w' => e = .returned (.bool (decide (t.s = s))) ∧ Below w.heap.size w w' := by
  have q := keeps (alloc_below w (.cells #[.string t.s, .int .i64 t.lo, .int .i64 t.hi] 32)) hw
  have B := Lib.hid (alloc_below w (.cells #[.string t.s, .int .i64 t.lo, .int .i64 t.hi] 32))
  by_cases he : t.s = s
  · subst he
    go_enter Tryz.func69, Tryz.ntmps69
    go_wp2
    go_ret
    exact ⟨ret_bool (by simp), B.out⟩
  · have hne := str_ne he
    have R : Hid (decide (t.s = s) = false) := decide_eq_false he
    clear he
    go_enter Tryz.func69, Tryz.ntmps69
    go_wp2
    go_ret
    exact ⟨ret_bool R.out.symm, B.out⟩
theorem hasWays1_is (w : World) (t : RG) :
    Calls Tryz.prog 93 #[.agg #[.string t.s, .int .i64 t.lo, .int .i64 t.hi]] w fun e w' => e = .returned (.bool (decide (t.lo > t.hi))) ∧ Below w.heap.size w w' := by
  have B := Lib.hid (alloc_below w (.cells #[.string t.s, .int .i64 t.lo, .int .i64 t.hi] 32))
  go_enter Tryz.func93, Tryz.ntmps93
  go_wp2
  go_ret
  exact ⟨rfl, B.out⟩
set_option maxHeartbeats 1000000 in
theorem hasRng_is (rs : List RG) (hn : rs.length ≤ 1000000000) (s : ByteArray) (v : Value) (w : World) (hr : RV w 0 v rs) (b : Bool) (hb : hasR9 rs s = b) :
    Calls Tryz.prog 47 #[v, .string s] w fun e w' => e = .returned (.bool b) ∧ Below w.heap.size w w' := by
  subst hb
  have B := Lib.hid (alloc_below w (.cells #[.string s] 9))
  have HX := Lib.hid (ContainsFunc9 rs hn (fun r => decide (r.s = s)) 69 #[.pointer (some ⟨w.heap.size, 0, Option.none⟩)] enters_hasRng (fun W => W.cell? ⟨w.heap.size, 0, Option.none⟩ = some (.string s)) (fun W W' h hb => keeps hb h) (fun W h t => hasRng1_is s w.heap.size W h t) v (w.alloc (.cells #[.string s] 9)) (box_cell (Below.refl _ _) rfl) (hr.later B.out))
  clear hr
  go_enter Tryz.func47, Tryz.ntmps47
  go_wp2_with fail
  refine HX.out.mono ?_
  rintro e w1 ⟨rfl, hb1⟩
  have HB := Lib.hid (B.out.trans (hb1.mono B.out.size))
  clear hb1 HX
  go_wp2
  go_ret
  exact ⟨rfl, HB.out⟩
theorem rngEndOk_is (n : Int) (v : Bool) (hv : inEnd9 n = v) (w : World) : Calls Tryz.prog 46 #[.int .i64 n] w fun e w' => e = .returned (.bool v) ∧ w = w' := by
  subst hv
  by_cases h1 : -10000 ≤ n
  · by_cases h2 : n ≤ 10000
    all_goals
      go_enter Tryz.func46, Tryz.ntmps46
      go_wp2
      go_ret
      exact ⟨ret_bool (by simp [inEnd9, h1, h2]), rfl⟩
  · go_enter Tryz.func46, Tryz.ntmps46
    go_wp2
    go_ret
    exact ⟨ret_bool (by have h0 : decide ((-10000 : Int) ≤ n) = false := decide_eq_false (by omega); unfold inEnd9; rw [h0]; rfl), rfl⟩
end Go.Proofs.YtjdpddcnogdekaaGreat
