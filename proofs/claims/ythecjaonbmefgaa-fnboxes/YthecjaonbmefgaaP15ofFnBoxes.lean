/-
  Texts in one: TokName, AffOk.
-/
import Derived.Test.YthecjaonbmefgaaP14ofFnBoxes
import Derived.Test.YthecjaonbmefgaaP10ofFnBoxes
import Derived.Test.YthecjaonbmefgaaP07ofFnBoxes
import Derived.Deep.QuietTactic
import Derived.BigQuiet
/-
  The contracts of NameOk, the specification's and the landed code's, and of what both call.
-/
namespace Go.Proofs.Ythecjaonbmefgaa
open Go.RowKit Go.Lib
set_option linter.unusedSimpArgs false

theorem ret_kind {k : IntKind} {a b : Int} (h : a = b) : Ending.returned (.int k a) = .returned (.int k b) := by rw [h]
theorem ret_bool {a b : Bool} (h : a = b) : Ending.returned (.bool a) = .returned (.bool b) := by rw [h]
def marksB : ByteArray := ⟨#[59, 61, 91, 93, 40, 41, 123, 125, 43, 45, 42, 44]⟩
theorem asc_marks : Asci marksB := by
  intro b hb
  simp only [marksB, List.mem_cons, List.not_mem_nil, or_false] at hb
  rcases hb with rfl | rfl | rfl | rfl | rfl | rfl | rfl | rfl | rfl | rfl | rfl | rfl <;> decide
theorem marks_any (b : UInt8) : (marksB.data.toList.any (· == b)) = decide (b ∈ marksL) := by
  by_cases h : b ∈ marksL
  · rw [decide_eq_true h, List.any_eq_true]; exact ⟨b, h, by simp⟩
  · rw [decide_eq_false h, List.any_eq_false]; intro x hx hxb; rw [beq_iff_eq] at hxb; subst hxb; exact h hx
theorem ContainsMark (b : UInt8) (hb : b.toNat < 128) (v : Bool) (hv : decide (b ∈ marksL) = v) (w : World) :
    Calls Try.prog 68 #[.string ⟨#[59, 61, 91, 93, 40, 41, 123, 125, 43, 45, 42, 44]⟩, .int .i32 (b.toNat : Int)] w fun e w' => e = .returned (.bool v) ∧ w = w' := by
  subst hv
  have e : ((b.toNat : Int)).toNat.toUInt8 = b := by simp
  refine (ContainsRune_ascii marksB (b.toNat : Int) w (by omega) (by omega)).mono ?_
  rintro x w' ⟨rfl, rfl⟩
  rw [e, marks_any]
  exact ⟨rfl, rfl⟩
set_option maxHeartbeats 1000000 in
theorem runeKind_ascii (b : UInt8) (hb : b.toNat < 128) (w : World) :
    Calls Try.prog 65 #[.int .i32 (b.toNat : Int)] w fun e w' => e = .returned (.int .i64 (kind b : Int)) ∧ w = w' := by
  by_cases g : b.toNat = 32 ∨ b.toNat = 10
  · have Hk : Hid (kind b = 0) := show kind b = 0 by unfold kind; rw [if_pos g]
    rcases g with g | g
    · have g' : (b.toNat : Int) = 32 := by omega
      clear g
      go_enter Try.func65, Try.ntmps65
      go_wp2
      go_ret
      exact ⟨ret_kind (by rw [Hk.out]; rfl), rfl⟩
    · have g' : (b.toNat : Int) = 10 := by omega
      clear g
      go_enter Try.func65, Try.ntmps65
      go_wp2
      go_ret
      exact ⟨ret_kind (by rw [Hk.out]; rfl), rfl⟩
  have g1 : ((b.toNat : Int) == 32) = false := by rw [beq_eq_false_iff_ne]; omega
  have g2 : ((b.toNat : Int) == 10) = false := by rw [beq_eq_false_iff_ne]; omega
  by_cases l : 97 ≤ b.toNat ∧ b.toNat ≤ 122
  · have Hk : Hid (kind b = 1) := show kind b = 1 by unfold kind; rw [if_neg g, if_pos l]
    have l1 : 97 ≤ (b.toNat : Int) := by omega
    have l2 : (b.toNat : Int) ≤ 122 := by omega
    clear g l
    go_enter Try.func65, Try.ntmps65
    go_wp2
    go_ret
    exact ⟨ret_kind (by rw [Hk.out]; rfl), rfl⟩
  by_cases d : 48 ≤ b.toNat ∧ b.toNat ≤ 57
  · have Hk : Hid (kind b = 2) := show kind b = 2 by unfold kind; rw [if_neg g, if_neg l, if_pos d]
    have d1 : 48 ≤ (b.toNat : Int) := by omega
    have d2 : (b.toNat : Int) ≤ 57 := by omega
    clear g l d
    go_enter Try.func65, Try.ntmps65
    go_wp2
    go_ret
    exact ⟨ret_kind (by rw [Hk.out]; rfl), rfl⟩
  have Hl : Hid (¬ (97 ≤ (b.toNat : Int) ∧ (b.toNat : Int) ≤ 122)) := show ¬ (97 ≤ (b.toNat : Int) ∧ (b.toNat : Int) ≤ 122) by omega
  have Hd : Hid (¬ (48 ≤ (b.toNat : Int) ∧ (b.toNat : Int) ≤ 57)) := show ¬ (48 ≤ (b.toNat : Int) ∧ (b.toNat : Int) ≤ 57) by omega
  by_cases m : b ∈ marksL
  · have Hk : Hid (kind b = 3) := show kind b = 3 by unfold kind; rw [if_neg g, if_neg l, if_neg d, if_pos m]
    have Hm : Hid (decide (b ∈ marksL) = true) := decide_eq_true m
    clear g l d m
    go_enter Try.func65, Try.ntmps65
    go_wp2_with (go_at_call 68; refine (ContainsMark b hb true Hm.out _).mono ?_; rintro e w' ⟨rfl, rfl⟩)
    all_goals first
      | exact absurd ⟨by assumption, by assumption⟩ Hl.out
      | exact absurd ⟨by assumption, by assumption⟩ Hd.out
      | (go_ret; exact ⟨ret_kind (by rw [Hk.out]; rfl), rfl⟩)
  · have Hk : Hid (kind b = 4) := show kind b = 4 by unfold kind; rw [if_neg g, if_neg l, if_neg d, if_neg m]
    have Hm : Hid (decide (b ∈ marksL) = false) := decide_eq_false m
    clear g l d m
    go_enter Try.func65, Try.ntmps65
    go_wp2_with (go_at_call 68; refine (ContainsMark b hb false Hm.out _).mono ?_; rintro e w' ⟨rfl, rfl⟩)
    all_goals first
      | exact absurd ⟨by assumption, by assumption⟩ Hl.out
      | exact absurd ⟨by assumption, by assumption⟩ Hd.out
      | (go_ret; exact ⟨ret_kind (by rw [Hk.out]; rfl), rfl⟩)
set_option maxHeartbeats 1000000 in
theorem runeKind_high (r : Int) (h0 : 128 ≤ r) (h1 : r ≤ 1114111) (w : World) :
    Calls Try.prog 65 #[.int .i32 r] w fun e w' => e = .returned (.int .i64 4) ∧ Below w.heap.size w w' := by
  have g1 : (r == 32) = false := by rw [beq_eq_false_iff_ne]; omega
  have g2 : (r == 10) = false := by rw [beq_eq_false_iff_ne]; omega
  go_enter Try.func65, Try.ntmps65
  go_wp2_with (go_at_call 68; refine (ContainsRune_high marksB asc_marks (by decide) r h0 h1 _).mono ?_; rintro e w' ⟨rfl, hb⟩)
  all_goals first
    | omega
    | (go_ret; exact ⟨rfl, hb⟩)
/-- The kind of the rune that stands at a place is the kind of its first byte. -/
theorem runeKind_at (s : ByteArray) (pos : Nat) (h : pos < s.size) (w : World) :
    Calls Try.prog 65 #[.int .i32 ((Utf8.decode s pos).1 : Int)] w fun e w' => e = .returned (.int .i64 (kind (s[pos]'h) : Int)) ∧ Below w.heap.size w w' := by
  by_cases ha : (s[pos]'h).toNat < 128
  · rw [decode_ascii s pos h ha]
    refine (runeKind_ascii _ ha w).mono ?_
    rintro e w' ⟨rfl, rfl⟩
    exact ⟨rfl, Below.refl _ _⟩
  · have hd := (decode_high s pos h (by omega)).1
    have hm := decode_max s pos
    rw [kind_high (by omega)]
    exact runeKind_high _ (by omega) (by omega) w

/-! ### the landed code's NameOk -/
theorem isKept_is (s : ByteArray) (b : Bool) (hb : keptL.contains s.data.toList = b) (w : World) :
    Calls Try.prog 53 #[.string s] w fun e w' => e = .returned (.bool b) ∧ w = w' := by
  subst hb
  have hl : s.toList = s.data.toList := ByteArray.toList_eq s
  generalize s.data.toList = l at hl
  have e : keptL.contains l = ((l == [97, 114, 114, 97, 121]) || (l == [102, 111, 114]) || (l == [116, 111]) || (l == [112, 114, 105, 110, 116]) || (l == [109, 105, 110]) || (l == [109, 97, 120])) := by
    simp only [keptL, List.contains_cons, List.contains_nil, Bool.or_false, Bool.or_assoc]
  rw [e]
  clear e
  go_enter Try.func53, Try.ntmps53
  go_wp2
  all_goals
    go_ret
    refine ⟨ret_bool ?_, rfl⟩
    simp_all
set_option maxHeartbeats 1000000 in
theorem allLetters_is (s : ByteArray) (b : Bool) (hb : s.data.toList.all (fun b => kind b == 1) = b) (w : World) :
    Calls Try.prog 52 #[.string s] w fun e w' => e = .returned (.bool b) ∧ Below w.heap.size w w' := by
  subst hb
  go_enter Try.func52, Try.ntmps52
  go_wp2
  go_loopw [] (fun wr => ∃ pos, pos ≤ s.size ∧ wr.heap[w.heap.size]? = some (.stringIter s pos) ∧ Below w.heap.size w wr ∧ Hid (∀ j (h : j < s.size), j < pos → kind (s[j]'h) = 1)) (fun wr => s.size - wr.iterPos w.heap.size)
  case atStart => exact ⟨0, by omega, World.iter_heap w s 0, (Below.refl _ w).alloc (Nat.le_refl _) _, fun j _ h => absurd h (by omega)⟩
  case round =>
    obtain ⟨pos, hpos, hit, hbw, hall⟩ := hrel
    by_cases hp : pos < s.size
    · have hnx : ∀ ty, (Instr.next (.pointer (some ⟨w.heap.size, 0, none⟩)) true ty).run Try.prog wr = _ := fun ty => Lib.run_next_any_at wr w.heap.size s pos ty hit hp
      have hit2 := Lib.iterAt_heap wr w.heap.size s pos (pos + (Utf8.decode s pos).2) hit
      have hbw2 := Lib.below_iterAt hbw (k := w.heap.size) (Nat.le_refl _) s (pos + (Utf8.decode s pos).2)
      by_cases hk : kind (s[pos]'hp) = 1
      · have ha := kind_low (b := s[pos]'hp) (by omega)
        have Hd : Hid (Utf8.decode s pos = ((s[pos]'hp).toNat, 1)) := decode_ascii s pos hp ha
        have Hk : Hid (kind (s[pos]'hp) = 1) := hk
        clear hk
        go_wp2_with fail
        refine (runeKind_at s pos hp _).mono ?_
        rintro e w1 ⟨rfl, hb1⟩
        rw [Hk.out]
        go_wp2
        have hit3 : w1.heap[w.heap.size]? = some (.stringIter s (pos + 1)) := by
          have := hb1.block w.heap.size (by rw [Lib.iterAt_size]; exact (Array.getElem?_eq_some_iff.1 hit).1)
          rw [this, hit2, Hd.out]
        go_roundw
        case rel =>
          refine ⟨pos + 1, by omega, hit3, hbw2.trans (hb1.mono (by rw [Lib.iterAt_size]; exact hbw.size)), fun j hj hlt => ?_⟩
          · rcases Nat.lt_or_ge j pos with h1 | h1
            · exact hall.out j hj h1
            · have : j = pos := by omega
              subst this; exact Hk.out
        case measure =>
          simp only [World.iterPos, hit3, hit]
          omega
      · have Hf : Hid (s.data.toList.all (fun b => kind b == 1) = false) := by
          show s.data.toList.all (fun b => kind b == 1) = false
          rw [List.all_eq_false]
          exact ⟨s[pos]'hp, Array.getElem_mem_toList (xs := s.data) hp, by simpa using hk⟩
        have Hk : Hid (((kind (s[pos]'hp) : Int) == 1) = false) := show ((kind (s[pos]'hp) : Int) == 1) = false by rw [beq_eq_false_iff_ne]; omega
        clear hk
        go_wp2_with fail
        refine (runeKind_at s pos hp _).mono ?_
        rintro e w1 ⟨rfl, hb1⟩
        have hk := Hk.out
        go_wp2
        go_ret
        exact ⟨ret_bool Hf.out.symm, hbw2.trans (hb1.mono (by rw [Lib.iterAt_size]; exact hbw.size))⟩
    · have hnx : ∀ ty, (Instr.next (.pointer (some ⟨w.heap.size, 0, none⟩)) true ty).run Try.prog wr = _ := fun ty => Lib.run_next_end_at wr w.heap.size s pos ty hit hp
      go_wp2
      go_ret
      refine ⟨ret_bool ?_, hbw⟩
      symm
      rw [List.all_eq_true]
      intro x hx
      obtain ⟨j, hj, rfl⟩ := List.getElem_of_mem hx
      have hj' : j < s.size := by simpa using hj
      have := hall.out j hj' (by omega)
      rw [beq_iff_eq, Array.getElem_toList]; exact this
theorem nameOk_eq (l : List UInt8) : nameOk l = (decide (1 ≤ l.length) && decide (l.length ≤ 6) && l.all (fun b => kind b == 1) && !(keptL.contains l)) := rfl
set_option maxHeartbeats 1000000 in
theorem impl_NameOk (s : ByteArray) (b : Bool) (hb : nameOk s.data.toList = b) (w : World) :
    Calls Try.prog 32 #[.string s] w fun e w' => e = .returned (.bool b) ∧ Below w.heap.size w w' := by
  subst hb
  have hlen : s.data.toList.length = s.size := by simp
  have hl : s.toList = s.data.toList := ByteArray.toList_eq s
  by_cases h0 : s.size = 0
  · have Hn : Hid (nameOk s.data.toList = false) := show nameOk s.data.toList = false by rw [nameOk_eq, hlen, h0]; simp
    have he : (s.toList == []) = true := by rw [hl]; have : s.data.toList = [] := List.length_eq_zero_iff.1 (by omega); rw [this]; rfl
    clear h0 hlen hl
    go_enter Try.func32, Try.ntmps32
    go_wp2
    go_ret
    exact ⟨ret_bool Hn.out.symm, Below.refl _ _⟩
  have he : (s.toList == []) = false := by
    rw [hl, beq_eq_false_iff_ne]; intro e; rw [e] at hlen; exact h0 (by simpa using hlen.symm)
  by_cases h6 : s.size ≤ 6
  · have h6' : (s.size : Int) ≤ 6 := by omega
    cases ha : s.data.toList.all (fun b => kind b == 1) with
    | false =>
      have Hn : Hid (nameOk s.data.toList = false) := show nameOk s.data.toList = false by rw [nameOk_eq, ha]; simp
      have Ha := Lib.hid ha
      clear ha h0 hlen hl
      go_enter Try.func32, Try.ntmps32
      go_wp2_with (go_at_call 52; refine (allLetters_is s false Ha.out _).mono ?_; rintro e w' ⟨rfl, hb⟩)
      go_ret
      exact ⟨ret_bool Hn.out.symm, hb⟩
    | true =>
      cases hk : keptL.contains s.data.toList with
      | false =>
        have Hn : Hid (nameOk s.data.toList = true) := show nameOk s.data.toList = true by rw [nameOk_eq, ha, hk, hlen, decide_eq_true (by omega), decide_eq_true h6]; rfl
        have Ha := Lib.hid ha
        have Hk := Lib.hid hk
        clear ha hk h0 hlen hl
        go_enter Try.func32, Try.ntmps32
        go_wp2_with (first | (go_at_call 52; refine (allLetters_is s true Ha.out _).mono ?_; rintro e w' ⟨rfl, hb⟩) | (go_at_call 53; refine (isKept_is s false Hk.out _).mono ?_; rintro e w' ⟨rfl, rfl⟩))
        go_ret
        exact ⟨ret_bool Hn.out.symm, hb⟩
      | true =>
        have Hn : Hid (nameOk s.data.toList = false) := show nameOk s.data.toList = false by rw [nameOk_eq, hk]; simp
        have Ha := Lib.hid ha
        have Hk := Lib.hid hk
        clear ha hk h0 hlen hl
        go_enter Try.func32, Try.ntmps32
        go_wp2_with (first | (go_at_call 52; refine (allLetters_is s true Ha.out _).mono ?_; rintro e w' ⟨rfl, hb⟩) | (go_at_call 53; refine (isKept_is s true Hk.out _).mono ?_; rintro e w' ⟨rfl, rfl⟩))
        go_ret
        exact ⟨ret_bool Hn.out.symm, hb⟩
  · have Hn : Hid (nameOk s.data.toList = false) := show nameOk s.data.toList = false by rw [nameOk_eq, hlen, decide_eq_false h6]; simp
    have h6' : decide ((s.size : Int) ≤ 6) = false := decide_eq_false (by omega)
    clear h6 h0 hlen hl
    go_enter Try.func32, Try.ntmps32
    go_wp2
    go_ret
    exact ⟨ret_bool Hn.out.symm, Below.refl _ _⟩

/-! ### the specification's NameOk -/
theorem In_is (x a b : Int) (v : Bool) (hv : (decide (a ≤ x) && decide (x ≤ b)) = v) (w : World) : Calls Try.prog 40 #[.int .i64 x, .int .i64 a, .int .i64 b] w fun e w' => e = .returned (.bool v) ∧ w = w' := by
  subst hv
  by_cases h1 : a ≤ x
  · by_cases h2 : x ≤ b
    all_goals
      go_enter Try.func40, Try.ntmps40
      go_wp2
      go_ret
      exact ⟨ret_bool (by simp [h1, h2]), rfl⟩
  · go_enter Try.func40, Try.ntmps40
    go_wp2
    go_ret
    exact ⟨ret_bool (by rw [decide_eq_false (by omega : ¬ a ≤ x)]; rfl), rfl⟩
theorem kind1_iff (b : UInt8) : kind b = 1 ↔ 97 ≤ b.toNat ∧ b.toNat ≤ 122 := by
  unfold kind
  by_cases h0 : b.toNat = 32 ∨ b.toNat = 10
  · rw [if_pos h0]; omega
  · rw [if_neg h0]
    by_cases h1 : 97 ≤ b.toNat ∧ b.toNat ≤ 122
    · rw [if_pos h1]; simp [h1]
    · rw [if_neg h1]
      constructor
      · intro h; split at h
        · omega
        · split at h <;> omega
      · intro h; exact absurd h h1
theorem kind2_iff (b : UInt8) : kind b = 2 ↔ 48 ≤ b.toNat ∧ b.toNat ≤ 57 := by
  unfold kind
  by_cases h0 : b.toNat = 32 ∨ b.toNat = 10
  · rw [if_pos h0]; omega
  · rw [if_neg h0]
    by_cases h1 : 97 ≤ b.toNat ∧ b.toNat ≤ 122
    · rw [if_pos h1]; omega
    · rw [if_neg h1]
      by_cases h2 : 48 ≤ b.toNat ∧ b.toNat ≤ 57
      · rw [if_pos h2]; simp [h2]
      · rw [if_neg h2]
        constructor
        · intro h; split at h <;> omega
        · intro h; exact absurd h h2
set_option maxRecDepth 100000 in
theorem l2Small_is (b : UInt8) (v : Bool) (hv : decide (kind b = 1) = v) (w : World) : Calls Try.prog 57 #[.int .u8 (b.toNat : Int)] w fun e w' => e = .returned (.bool v) ∧ w = w' := by
  have Hv : Hid ((decide ((97 : Int) ≤ (b.toNat : Int)) && decide ((b.toNat : Int) ≤ 122)) = v) := show (decide ((97 : Int) ≤ (b.toNat : Int)) && decide ((b.toNat : Int) ≤ 122)) = v by
    subst hv
    by_cases h : kind b = 1
    · have := (kind1_iff b).1 h
      rw [decide_eq_true h, decide_eq_true (by omega), decide_eq_true (by omega)]; rfl
    · have : ¬ (97 ≤ b.toNat ∧ b.toNat ≤ 122) := fun x => h ((kind1_iff b).2 x)
      rw [decide_eq_false h]
      rcases Nat.lt_or_ge b.toNat 97 with h1 | h1
      · rw [decide_eq_false (by omega : ¬ (97 : Int) ≤ (b.toNat : Int))]; rfl
      · rw [decide_eq_false (by omega : ¬ (b.toNat : Int) ≤ 122), Bool.and_false]
  have hc2 : (b.toNat : Int) ≤ 255 := by have := b.toNat_lt; omega
  clear hv
  go_enter Try.func57, Try.ntmps57
  go_wp2_with fail
  refine (In_is (b.toNat : Int) 97 122 v Hv.out _).mono ?_
  rintro e w' ⟨rfl, rfl⟩
  go_wp2
  go_ret
  exact ⟨rfl, rfl⟩
set_option maxHeartbeats 1000000 in
theorem l2Has_is (lb n c : Nat) (ss : List (List UInt8)) (hn : ss.length = n) (hn1 : n ≤ 1000) (s : ByteArray) (v : Bool) (hv : ss.contains s.data.toList = v) (w : World)
    (hc : ∀ j l, ss[j]? = some l → w.cell? ⟨lb, j, Option.none⟩ = some (.string ⟨l.toArray⟩)) :
    Calls Try.prog 67 #[.slice (some ⟨lb, 0, Option.none⟩) n c, .string s] w fun e w' => e = .returned (.bool v) ∧ w = w' := by
  have Hv := Lib.hid hv
  have Hc := Lib.hid hc
  clear hc hv
  go_enter Try.func67, Try.ntmps67
  go_wp2
  go_loop [5] (fun i => ∃ k : Nat, k ≤ n ∧ i = .int .i64 k ∧ Hid (∀ j, j < k → ss[j]? ≠ some s.data.toList)) (fun i => n - (RowKit.intOf i).toNat)
  case atStart => exact ⟨0, by omega, rfl, fun j h => absurd h (by omega)⟩
  case round =>
    obtain ⟨k, hk, rfl, hall⟩ := hrel
    by_cases hlt : k < n
    · obtain ⟨l, hl⟩ : ∃ l, ss[k]? = some l := ⟨ss[k]'(by omega), List.getElem?_eq_getElem (by omega)⟩
      have hcell := Hc.out k l hl
      have Hl := Lib.hid hl
      clear hl
      by_cases he : l = s.data.toList
      · have hE : (l == s.toList) = true := by rw [ByteArray.toList_eq, he]; simp
        subst he
        go_wp2
        go_ret
        refine ⟨ret_bool ?_, rfl⟩
        rw [← Hv.out]; symm
        rw [List.contains_iff_mem]
        exact List.mem_of_getElem? Hl.out
      · have hE : (l == s.toList) = false := by rw [ByteArray.toList_eq, beq_eq_false_iff_ne]; exact he
        have He := Lib.hid he
        clear he
        go_wp2
        go_round
        case rel =>
          refine ⟨k + 1, by omega, by go_num, fun j hj => ?_⟩
          rcases Nat.lt_or_ge j k with h1 | h1
          · exact hall.out j h1
          · have : j = k := by omega
            subst this; rw [Hl.out]; intro e; exact He.out (Option.some.inj e)
        case measure => simp [RowKit.intOf]; omega
    · go_wp2
      go_ret
      refine ⟨ret_bool ?_, rfl⟩
      rw [← Hv.out]; symm
      rw [← Bool.not_eq_true, List.contains_iff_mem]
      intro hm
      obtain ⟨j, hj, e⟩ := List.getElem_of_mem hm
      exact hall.out j (by omega) (by rw [List.getElem?_eq_getElem hj, e])
/-- What a slice of constant strings holds when it has just been laid. -/
def strs (ss : List (List UInt8)) : List Value := ss.map fun l => .string ⟨l.toArray⟩
theorem strs_cells (w : World) (ss : List (List UInt8)) (t : TypeId) : ∀ j l, ss[j]? = some l → (w.alloc (.cells (strs ss).toArray t)).cell? ⟨w.heap.size, j, Option.none⟩ = some (.string ⟨l.toArray⟩) := by
  intro j l h
  have e : (w.alloc (.cells (strs ss).toArray t)).heap[w.heap.size]? = some (.cells (strs ss).toArray t (0, 0)) := by
    show (w.heap.push (Obj.cells (strs ss).toArray t (0, 0)))[w.heap.size]? = _
    simp
  simp only [World.cell?, e]
  simp [strs, h]
theorem l2Kept_is (s : ByteArray) (v : Bool) (hv : keptL.contains s.data.toList = v) (w : World) :
    Calls Try.prog 58 #[.string s] w fun e w' => e = .returned (.bool v) ∧ Below w.heap.size w w' := by
  have Hv := Lib.hid hv
  clear hv
  go_enter Try.func58, Try.ntmps58
  go_wp2_with fail
  refine (l2Has_is _ 6 _ keptL rfl (by decide) s v Hv.out _ (strs_cells w keptL _)).mono ?_
  rintro e w' ⟨rfl, rfl⟩
  go_wp2
  go_ret
  exact ⟨rfl, (Below.refl _ w).alloc (Nat.le_refl _) _⟩
set_option maxHeartbeats 1000000 in
theorem spec_NameOk (s : ByteArray) (v : Bool) (hv : nameOk s.data.toList = v) (hlim : s.size ≤ 281474976710656) (w : World) :
    Calls Try.prog 39 #[.string s] w fun e w' => e = .returned (.bool v) ∧ Below w.heap.size w w' := by
  have hlen : s.data.toList.length = s.size := by simp
  have Hv := Lib.hid hv
  clear hv
  go_enter Try.func39, Try.ntmps39
  go_wp2
  go_loop [3] (fun i => ∃ k : Nat, k ≤ s.size ∧ i = .int .i64 k ∧ Hid (∀ j (h : j < s.size), j < k → kind (s[j]'h) = 1)) (fun i => s.size - (RowKit.intOf i).toNat)
  case atStart => exact ⟨0, by omega, rfl, fun j _ h => absurd h (by omega)⟩
  case round =>
    obtain ⟨k, hk, rfl, hall⟩ := hrel
    by_cases hlt : k < s.size
    · by_cases hd : kind (s[k]'hlt) = 1
      · have Hd : Hid (decide (kind (s[k]'hlt) = 1) = true) := decide_eq_true hd
        have Hd1 := Lib.hid hd
        clear hd
        go_wp2_with (go_at_call 57; refine (l2Small_is (s[k]'hlt) true Hd.out _).mono ?_; rintro e w' ⟨rfl, rfl⟩)
        go_round
        case rel =>
          refine ⟨k + 1, by omega, by go_num, fun j hj hjk => ?_⟩
          rcases Nat.lt_or_ge j k with h1 | h1
          · exact hall.out j hj h1
          · have : j = k := by omega
            subst this; exact Hd1.out
        case measure => simp [RowKit.intOf]; omega
      · have Hd : Hid (decide (kind (s[k]'hlt) = 1) = false) := decide_eq_false hd
        have Hn : Hid (v = false) := show v = false by
          rw [← Hv.out, nameOk_eq]
          have : s.data.toList.all (fun b => kind b == 1) = false := by
            rw [List.all_eq_false]; exact ⟨s[k]'hlt, Array.getElem_mem_toList (xs := s.data) hlt, by simpa using hd⟩
          rw [this]; simp
        clear hd
        go_wp2_with (go_at_call 57; refine (l2Small_is (s[k]'hlt) false Hd.out _).mono ?_; rintro e w' ⟨rfl, rfl⟩)
        go_ret
        exact ⟨ret_bool Hn.out.symm, Below.refl _ _⟩
    · have Ha : Hid (s.data.toList.all (fun b => kind b == 1) = true) := show s.data.toList.all (fun b => kind b == 1) = true by
        rw [List.all_eq_true]
        intro x hx
        obtain ⟨j, hj, rfl⟩ := List.getElem_of_mem hx
        have hj' : j < s.size := by simpa using hj
        rw [beq_iff_eq, Array.getElem_toList]; exact hall.out j hj' (by omega)
      by_cases hn : 1 ≤ s.size ∧ s.size ≤ 6
      · have Hi : Hid ((decide ((1 : Int) ≤ (s.size : Int)) && decide ((s.size : Int) ≤ 6)) = true) := show (decide ((1 : Int) ≤ (s.size : Int)) && decide ((s.size : Int) ≤ 6)) = true by simp; omega
        cases hq : keptL.contains s.data.toList with
        | false =>
          have Hn : Hid (v = true) := show v = true by rw [← Hv.out, nameOk_eq, Ha.out, hq, hlen, decide_eq_true hn.1, decide_eq_true hn.2]; rfl
          have Hq := Lib.hid hq
          clear hq hn hlen
          go_wp2_with (first | (go_at_call 40; refine (In_is _ _ _ true Hi.out _).mono ?_; rintro e w' ⟨rfl, rfl⟩) | (go_at_call 58; refine (l2Kept_is s false Hq.out _).mono ?_; rintro e w' ⟨rfl, hb⟩))
          go_ret
          exact ⟨ret_bool Hn.out.symm, hb⟩
        | true =>
          have Hn : Hid (v = false) := show v = false by rw [← Hv.out, nameOk_eq, hq]; simp
          have Hq := Lib.hid hq
          clear hq hn hlen
          go_wp2_with (first | (go_at_call 40; refine (In_is _ _ _ true Hi.out _).mono ?_; rintro e w' ⟨rfl, rfl⟩) | (go_at_call 58; refine (l2Kept_is s true Hq.out _).mono ?_; rintro e w' ⟨rfl, hb⟩))
          go_ret
          exact ⟨ret_bool Hn.out.symm, hb⟩
      · have Hi : Hid ((decide ((1 : Int) ≤ (s.size : Int)) && decide ((s.size : Int) ≤ 6)) = false) := show (decide ((1 : Int) ≤ (s.size : Int)) && decide ((s.size : Int) ≤ 6)) = false by simp; omega
        have Hn : Hid (v = false) := show v = false by
          rw [← Hv.out, nameOk_eq, hlen]
          rcases Nat.lt_or_ge s.size 1 with h1 | h1
          · rw [decide_eq_false (by omega : ¬ 1 ≤ s.size)]; simp
          · rw [decide_eq_false (by omega : ¬ s.size ≤ 6)]; simp
        clear hn hlen
        go_wp2_with (go_at_call 40; refine (In_is _ _ _ false Hi.out _).mono ?_; rintro e w' ⟨rfl, rfl⟩)
        go_ret
        exact ⟨ret_bool Hn.out.symm, Below.refl _ _⟩
end Go.Proofs.Ythecjaonbmefgaa
/-
  The contracts of AffOk, the landed code's and the specification's, and of what both call.
-/
namespace Go.Proofs.Ythecjaonbmefgaa
open Go.RowKit Go.Lib
set_option linter.unusedSimpArgs false
set_option linter.unusedVariables false

theorem coefOk_is (n : Int) (v : Bool) (hv : inMax8 n = v) (w : World) : Calls Try.prog 60 #[.int .i64 n] w fun e w' => e = .returned (.bool v) ∧ w = w' := by
  subst hv
  by_cases h1 : -100000 ≤ n
  · by_cases h2 : n ≤ 100000
    all_goals
      go_enter Try.func60, Try.ntmps60
      go_wp2
      go_ret
      exact ⟨ret_bool (by simp [inMax8, h1, h2]), rfl⟩
  · go_enter Try.func60, Try.ntmps60
    go_wp2
    go_ret
    exact ⟨ret_bool (by have h0 : decide ((-100000 : Int) ≤ n) = false := decide_eq_false (by omega); unfold inMax8; rw [h0]; rfl), rfl⟩
theorem l8Num_is (n : Int) (v : Bool) (hv : inMax8 n = v) (w : World) : Calls Try.prog 66 #[.int .i64 n] w fun e w' => e = .returned (.bool v) ∧ w = w' := by
  go_enter Try.func66, Try.ntmps66
  go_wp2_with (go_at_call 40; refine (In_is _ _ _ v hv _).mono ?_; rintro e w' ⟨rfl, rfl⟩)
  go_ret
  exact ⟨rfl, rfl⟩
theorem belowN8 {B : Nat} {w w' : World} (h : Below B w w') (n : Nat) : Below B w (w'.drewN n) := ⟨h.os, h.tape, h.output, h.size, h.block⟩
theorem geq8 {a b : ByteArray} (h : blt a b = true) : Op.bytesLess a.toList b.toList = true := h
/-- What makes one of the terms wrong, or none. -/
theorem term8_cases (p : Option ByteArray) (t : AR) :
    (nameOk t.s.data.toList = false ∧ termOk8 p t = false) ∨ (nameOk t.s.data.toList = true ∧ t.n = 0 ∧ termOk8 p t = false) ∨
    (nameOk t.s.data.toList = true ∧ (t.n == 0) = false ∧ inMax8 t.n = false ∧ termOk8 p t = false) ∨
    (nameOk t.s.data.toList = true ∧ (t.n == 0) = false ∧ inMax8 t.n = true ∧ ltPrev8 p t.s = false ∧ termOk8 p t = false) ∨
    (nameOk t.s.data.toList = true ∧ (t.n == 0) = false ∧ inMax8 t.n = true ∧ ltPrev8 p t.s = true ∧ termOk8 p t = true) := by
  cases h1 : nameOk t.s.data.toList with
  | false => exact .inl ⟨rfl, by simp [termOk8, h1]⟩
  | true =>
    cases h2 : t.n == 0 with
    | true => exact .inr (.inl ⟨rfl, by simpa using h2, by simp [termOk8, h2]⟩)
    | false =>
      cases h3 : inMax8 t.n with
      | false => exact .inr (.inr (.inl ⟨rfl, rfl, rfl, by simp [termOk8, h3]⟩))
      | true =>
        cases h4 : ltPrev8 p t.s with
        | false => exact .inr (.inr (.inr (.inl ⟨rfl, rfl, rfl, rfl, by simp [termOk8, h4]⟩)))
        | true => exact .inr (.inr (.inr (.inr ⟨rfl, rfl, rfl, rfl, by simp [termOk8, h1, h2, h3, h4]⟩)))
set_option maxHeartbeats 2000000 in
set_option maxRecDepth 100000 in
theorem impl_AffOk (c : Int) (ts : List AR) (hn : ts.length ≤ 1000000000) (va : Value) (w : World) (ha : AV w 0 va ts) (v : Bool) (hv : affOk8 c ts = v) :
    Calls Try.prog 45 #[.agg #[.int .i64 c, va]] w fun e w' => e = .returned (.bool v) ∧ Below w.heap.size w w' := by
  subst hv
  obtain ⟨ao, cap, rfl, hr⟩ := ha
  have Hr := Lib.hid hr
  clear hr
  have hc0 : (w.alloc (.cells #[.int .i64 c, .slice ao ts.length cap] 26)).cell? ⟨w.heap.size, 0, Option.none⟩ = some (.int .i64 c) := box_cell (Below.refl _ _) rfl
  have hc1 : (w.alloc (.cells #[.int .i64 c, .slice ao ts.length cap] 26)).cell? ⟨w.heap.size, 1, Option.none⟩ = some (.slice ao ts.length cap) := box_cell (Below.refl _ _) rfl
  have B := Lib.hid (alloc_below w (.cells #[.int .i64 c, .slice ao ts.length cap] 26))
  have BX := Lib.hid (fun w1 (hb : Below (w.alloc (.cells #[.int .i64 c, .slice ao ts.length cap] 26)).heap.size (w.alloc (.cells #[.int .i64 c, .slice ao ts.length cap] 26)) w1) => (box_cell hb rfl : w1.cell? ⟨w.heap.size, 1, Option.none⟩ = some (.slice ao ts.length cap)))
  cases hm : inMax8 c with
  | false =>
    have Hm := Lib.hid hm
    have HV : Hid (affOk8 c ts = false) := show affOk8 c ts = false by simp [affOk8, hm]
    clear hm
    go_enter Try.func45, Try.ntmps45
    go_wp2_with fail
    refine (coefOk_is c false Hm.out _).mono ?_
    rintro e w1 ⟨rfl, rfl⟩
    go_wp2
    go_ret
    exact ⟨ret_bool HV.out.symm, B.out⟩
  | true =>
    have Hm := Lib.hid hm
    have HV : Hid (affOk8 c ts = okFrom8 none ts) := show affOk8 c ts = okFrom8 none ts by simp [affOk8, hm]
    clear hm
    go_enter Try.func45, Try.ntmps45
    go_wp2_with fail
    refine (coefOk_is c true Hm.out _).mono ?_
    rintro e w1 ⟨rfl, rfl⟩
    go_wp2
    go_loopw [12] (fun i wr => ∃ k : Nat, k ≤ ts.length ∧ i = .int .i64 k ∧ Hid (affOk8 c ts = okFrom8 (prev8 ts k) (ts.drop k)) ∧ Hid (Below (w.alloc (.cells #[.int .i64 c, .slice ao ts.length cap] 26)).heap.size (w.alloc (.cells #[.int .i64 c, .slice ao ts.length cap] 26)) wr)) (fun i _ => ts.length - (RowKit.intOf i).toNat)
    case atStart => exact ⟨0, by omega, rfl, HV.out, Below.refl _ _⟩
    case round =>
      obtain ⟨k, hk, rfl, hg, HB⟩ := hrel
      by_cases hlt : k < ts.length
      · have hltI : (k : Int) < (ts.length : Int) := by omega
        obtain ⟨t, ht⟩ : ∃ t, ts[k]? = some t := ⟨ts[k], List.getElem?_eq_getElem hlt⟩
        rcases Hr.out with hr | ⟨g, off, rfl, _, gl, hc⟩
        · subst hr; simp at hlt
        have hbw := below_alloc HB.out
        have A0 := (hbw.cell (p := ⟨g, off + k * 2, Option.none⟩) gl).trans (hc k t ht).1
        have A1 := (hbw.cell (p := ⟨g, off + k * 2 + 1, Option.none⟩) gl).trans (hc k t ht).2
        have X1 := BX.out wr HB.out
        have hd : Hid (ts.drop k = t :: ts.drop (k + 1)) := drop8 ht
        have HT := Lib.hid ht
        have HC := Lib.hid hc
        have hw1 : w.heap.size < wr.heap.size := by have := HB.out.size; simp at this; omega
        have hgw : g < wr.heap.size := Nat.lt_of_lt_of_le gl hbw.size
        clear hc ht hc0 hc1
        rcases term8_cases (prev8 ts k) t with ⟨c1, cb⟩ | ⟨c1, c2, cb⟩ | ⟨c1, c2, c3, cb⟩ | ⟨c1, c2, c3, c4, cb⟩ | ⟨c1, c2, c3, c4, cb⟩
        · have C1 := Lib.hid c1
          have R : Hid (affOk8 c ts = false) := show affOk8 c ts = false by rw [hg.out, hd.out, okFrom8_bad cb]
          clear c1 cb
          go_wp2_with (go_at_call 32; refine (impl_NameOk t.s false C1.out _).mono ?_; rintro e w2 ⟨rfl, hb2⟩)
          go_ret
          exact ⟨ret_bool R.out.symm, hbw.trans ((below_alloc hb2).mono hbw.size)⟩
        · have C1 := Lib.hid c1
          have R : Hid (affOk8 c ts = false) := show affOk8 c ts = false by rw [hg.out, hd.out, okFrom8_bad cb]
          obtain ⟨ts', tn⟩ := t
          simp only at c2
          subst c2
          clear c1 cb
          go_wp2_with fail
          refine (impl_NameOk ts' true C1.out _).mono ?_
          rintro e w2 ⟨rfl, hb2⟩
          obtain ⟨⟨q0, q1⟩, _, _⟩ := blk2 ((hb2.block wr.heap.size (by simp)).trans (heap_last wr _))
          go_wp2
          go_ret
          exact ⟨ret_bool R.out.symm, hbw.trans ((below_alloc hb2).mono hbw.size)⟩
        · have C1 := Lib.hid c1
          have C3 := Lib.hid c3
          have R : Hid (affOk8 c ts = false) := show affOk8 c ts = false by rw [hg.out, hd.out, okFrom8_bad cb]
          clear c1 c3 cb
          go_wp2_with fail
          refine (impl_NameOk t.s true C1.out _).mono ?_
          rintro e w2 ⟨rfl, hb2⟩
          obtain ⟨⟨q0, q1⟩, _, _⟩ := blk2 ((hb2.block wr.heap.size (by simp)).trans (heap_last wr _))
          go_wp2_with fail
          refine (coefOk_is t.n false C3.out _).mono ?_
          rintro e w3 ⟨rfl, rfl⟩
          go_wp2
          go_ret
          exact ⟨ret_bool R.out.symm, hbw.trans ((below_alloc hb2).mono hbw.size)⟩
        · have C1 := Lib.hid c1
          have C3 := Lib.hid c3
          have R : Hid (affOk8 c ts = false) := show affOk8 c ts = false by rw [hg.out, hd.out, okFrom8_bad cb]
          clear c1 c3 cb
          obtain ⟨j, rfl⟩ : ∃ j, k = j + 1 := by
            cases k with
            | zero => cases c4
            | succ j => exact ⟨j, rfl⟩
          obtain ⟨u, hu⟩ : ∃ u, ts[j]? = some u := ⟨ts[j], List.getElem?_eq_getElem (by omega)⟩
          rw [prev8_succ hu] at c4
          have c5 : Op.bytesLess u.s.toList t.s.toList = false := c4
          have D0 := (hbw.cell (p := ⟨g, off + j * 2, Option.none⟩) gl).trans (HC.out j u hu).1
          clear hu c4
          go_wp2_with fail
          refine (impl_NameOk t.s true C1.out _).mono ?_
          rintro e w2 ⟨rfl, hb2⟩
          obtain ⟨⟨q0, q1⟩, _, _⟩ := blk2 ((hb2.block wr.heap.size (by simp)).trans (heap_last wr _))
          go_wp2_with fail
          refine (coefOk_is t.n true C3.out _).mono ?_
          rintro e w3 ⟨rfl, rfl⟩
          have hb3 := below_alloc hb2
          have D2 := (hb3.cell (p := ⟨g, off + j * 2, Option.none⟩) hgw).trans D0
          have Y1 := (hb3.cell (p := ⟨w.heap.size, 1, Option.none⟩) hw1).trans X1
          have e1 : IntKind.i64.wrap (((j + 1 : Nat) : Int) - 1) = (j : Int) := by rw [IntKind.wrap_i64]; omega
          have e2 : decide (((j + 1 : Nat) : Int) > 0) = true := decide_eq_true (by omega)
          have e3 : (j : Int) < (ts.length : Int) := by omega
          have e4 : (0 : Int) ≤ (j : Int) := by omega
          have HN := Lib.hid (hbw.trans (hb3.mono hbw.size))
          clear D0 X1 A0 A1 hb2 hb3
          go_wp2_with fail
          go_quiet (fail)
          go_wp2
          go_ret
          exact ⟨ret_bool R.out.symm, belowN8 HN.out _⟩
        · have C1 := Lib.hid c1
          have C3 := Lib.hid c3
          have R : Hid (affOk8 c ts = okFrom8 (prev8 ts (k + 1)) (ts.drop (k + 1))) := show affOk8 c ts = okFrom8 (prev8 ts (k + 1)) (ts.drop (k + 1)) by rw [hg.out, hd.out, okFrom8_good cb, prev8_succ HT.out]
          clear c1 c3 cb
          rcases Nat.eq_zero_or_pos k with hk0 | hk0
          · have e2 : decide ((k : Int) > 0) = false := decide_eq_false (by omega)
            have e2' : decide (0 < k) = false := decide_eq_false (by omega)
            have e2'' : decide ((0 : Int) < (k : Int)) = false := decide_eq_false (by omega)
            clear hk0 c4
            go_wp2_with fail
            refine (impl_NameOk t.s true C1.out _).mono ?_
            rintro e w2 ⟨rfl, hb2⟩
            obtain ⟨⟨q0, q1⟩, _, _⟩ := blk2 ((hb2.block wr.heap.size (by simp)).trans (heap_last wr _))
            go_wp2_with fail
            refine (coefOk_is t.n true C3.out _).mono ?_
            rintro e w3 ⟨rfl, rfl⟩
            have HN := Lib.hid (HB.out.trans ((below_alloc hb2).mono HB.out.size))
            clear X1 A0 A1 hb2
            go_wp2_with fail
            go_quiet (fail)
            go_wp2
            go_roundw
            case rel => exact ⟨k + 1, by omega, by go_num, R.out, belowN8 HN.out _⟩
            case measure => simp [RowKit.intOf]; omega
          · obtain ⟨j, rfl⟩ : ∃ j, k = j + 1 := ⟨k - 1, by omega⟩
            obtain ⟨u, hu⟩ : ∃ u, ts[j]? = some u := ⟨ts[j], List.getElem?_eq_getElem (by omega)⟩
            rw [prev8_succ hu] at c4
            have c5 : Op.bytesLess u.s.toList t.s.toList = true := c4
            have D0 := (hbw.cell (p := ⟨g, off + j * 2, Option.none⟩) gl).trans (HC.out j u hu).1
            clear hu c4
            go_wp2_with fail
            refine (impl_NameOk t.s true C1.out _).mono ?_
            rintro e w2 ⟨rfl, hb2⟩
            obtain ⟨⟨q0, q1⟩, _, _⟩ := blk2 ((hb2.block wr.heap.size (by simp)).trans (heap_last wr _))
            go_wp2_with fail
            refine (coefOk_is t.n true C3.out _).mono ?_
            rintro e w3 ⟨rfl, rfl⟩
            have hb3 := below_alloc hb2
            have D2 := (hb3.cell (p := ⟨g, off + j * 2, Option.none⟩) hgw).trans D0
            have Y1 := (hb3.cell (p := ⟨w.heap.size, 1, Option.none⟩) hw1).trans X1
            have e1 : IntKind.i64.wrap (((j + 1 : Nat) : Int) - 1) = (j : Int) := by rw [IntKind.wrap_i64]; omega
            have e2 : decide (((j + 1 : Nat) : Int) > 0) = true := decide_eq_true (by omega)
            have e3 : (j : Int) < (ts.length : Int) := by omega
            have e4 : (0 : Int) ≤ (j : Int) := by omega
            have HN := Lib.hid (HB.out.trans (hb3.mono HB.out.size))
            clear D0 X1 A0 A1 hb2 hb3
            go_wp2_with fail
            go_quiet (fail)
            go_wp2
            go_roundw
            case rel => exact ⟨j + 1 + 1, by omega, by go_num, R.out, belowN8 HN.out _⟩
            case measure => simp [RowKit.intOf]; omega
      · have he2 : Hid (affOk8 c ts = true) := by show affOk8 c ts = true; rw [hg.out, List.drop_of_length_le (by omega)]; cases prev8 ts k <;> rfl
        go_wp2
        go_ret
        exact ⟨ret_bool he2.out.symm, below_alloc HB.out⟩
end Go.Proofs.Ythecjaonbmefgaa
