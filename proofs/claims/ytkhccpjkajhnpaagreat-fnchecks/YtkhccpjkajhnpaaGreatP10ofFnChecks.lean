/-
  Texts in one: TokName, AstOpen, AstPOpen, ProgHas, ChkText.
-/
import Derived.Test.YtkhccpjkajhnpaaGreatP09ofFnChecks
import Derived.Test.YtkhccpjkajhnpaaGreatP00ofFnChecks
import Derived.ProofKit
import Derived.OpenShut
import Derived.ShutString
import Derived.ChangeOld
import Derived.Deep.Slices
import Derived.Test.YtkhccpjkajhnpaaGreatP05ofFnChecks
import Derived.Test.YtkhccpjkajhnpaaGreatP08ofFnChecks
/-
  The contracts of NameOk, the specification's and the landed code's, and of what both call.
-/
namespace Go.Proofs.YtkhccpjkajhnpaaGreat
open Go.RowKit Go.Lib
set_option linter.unusedSimpArgs false

theorem ret_kind {k : IntKind} {a b : Int} (h : a = b) : Ending.returned (.int k a) = .returned (.int k b) := by rw [h]
theorem ret_bool {a b : Bool} (h : a = b) : Ending.returned (.bool a) = .returned (.bool b) := by rw [h]
def marksB : ByteArray := ⟨#[59, 61, 91, 93, 40, 41, 123, 125, 43, 45, 42, 44]⟩
theorem asc_marks : Asci marksB := by
  intro b hb
  simp only [marksB, List.mem_cons, List.not_mem_nil, or_false] at hb
  rcases hb with rfl | rfl | rfl | rfl | rfl | rfl | rfl | rfl | rfl | rfl | rfl | rfl <;> decide
theorem marks_any (b : UInt8) : (marksB.data.toList.any (· == b)) = decide (b ∈ marksL) := by
  by_cases h : b ∈ marksL
  · rw [decide_eq_true h, List.any_eq_true]; exact ⟨b, h, by simp⟩
  · rw [decide_eq_false h, List.any_eq_false]; intro x hx hxb; rw [beq_iff_eq] at hxb; subst hxb; exact h hx
theorem ContainsMark (b : UInt8) (hb : b.toNat < 128) (v : Bool) (hv : decide (b ∈ marksL) = v) (w : World) :
    Calls Tryz.prog 106 #[.string ⟨#[59, 61, 91, 93, 40, 41, 123, 125, 43, 45, 42, 44]⟩, .int .i32 (b.toNat : Int)] w fun e w' => e = .returned (.bool v) ∧ w = w' := by
  subst hv
  have e : ((b.toNat : Int)).toNat.toUInt8 = b := by simp
  refine (ContainsRune_ascii marksB (b.toNat : Int) w (by omega) (by omega)).mono ?_
  rintro x w' ⟨rfl, rfl⟩
  rw [e, marks_any]
  exact ⟨rfl, rfl⟩
set_option maxHeartbeats 1000000 in
theorem runeKind_ascii (b : UInt8) (hb : b.toNat < 128) (w : World) :
    Calls Tryz.prog 86 #[.int .i32 (b.toNat : Int)] w fun e w' => e = .returned (.int .i64 (kind b : Int)) ∧ w = w' := by
  by_cases g : b.toNat = 32 ∨ b.toNat = 10
  · have Hk : Hid (kind b = 0) := show kind b = 0 by unfold kind; rw [if_pos g]
    rcases g with g | g
    · have g' : (b.toNat : Int) = 32 := by omega
      clear g
      go_enter Tryz.func86, Tryz.ntmps86
      go_wp2
      go_ret
      exact ⟨ret_kind (by rw [Hk.out]; rfl), rfl⟩
    · have g' : (b.toNat : Int) = 10 := by omega
      clear g
      go_enter Tryz.func86, Tryz.ntmps86
      go_wp2
      go_ret
      exact ⟨ret_kind (by rw [Hk.out]; rfl), rfl⟩
  have g1 : ((b.toNat : Int) == 32) = false := by rw [beq_eq_false_iff_ne]; omega
  have g2 : ((b.toNat : Int) == 10) = false := by rw [beq_eq_false_iff_ne]; omega
  by_cases l : 97 ≤ b.toNat ∧ b.toNat ≤ 122
  · have Hk : Hid (kind b = 1) := show kind b = 1 by unfold kind; rw [if_neg g, if_pos l]
    have l1 : 97 ≤ (b.toNat : Int) := by omega
    have l2 : (b.toNat : Int) ≤ 122 := by omega
    clear g l
    go_enter Tryz.func86, Tryz.ntmps86
    go_wp2
    go_ret
    exact ⟨ret_kind (by rw [Hk.out]; rfl), rfl⟩
  by_cases d : 48 ≤ b.toNat ∧ b.toNat ≤ 57
  · have Hk : Hid (kind b = 2) := show kind b = 2 by unfold kind; rw [if_neg g, if_neg l, if_pos d]
    have d1 : 48 ≤ (b.toNat : Int) := by omega
    have d2 : (b.toNat : Int) ≤ 57 := by omega
    clear g l d
    go_enter Tryz.func86, Tryz.ntmps86
    go_wp2
    go_ret
    exact ⟨ret_kind (by rw [Hk.out]; rfl), rfl⟩
  have Hl : Hid (¬ (97 ≤ (b.toNat : Int) ∧ (b.toNat : Int) ≤ 122)) := show ¬ (97 ≤ (b.toNat : Int) ∧ (b.toNat : Int) ≤ 122) by omega
  have Hd : Hid (¬ (48 ≤ (b.toNat : Int) ∧ (b.toNat : Int) ≤ 57)) := show ¬ (48 ≤ (b.toNat : Int) ∧ (b.toNat : Int) ≤ 57) by omega
  by_cases m : b ∈ marksL
  · have Hk : Hid (kind b = 3) := show kind b = 3 by unfold kind; rw [if_neg g, if_neg l, if_neg d, if_pos m]
    have Hm : Hid (decide (b ∈ marksL) = true) := decide_eq_true m
    clear g l d m
    go_enter Tryz.func86, Tryz.ntmps86
    go_wp2_with (go_at_call 106; refine (ContainsMark b hb true Hm.out _).mono ?_; rintro e w' ⟨rfl, rfl⟩)
    all_goals first
      | exact absurd ⟨by assumption, by assumption⟩ Hl.out
      | exact absurd ⟨by assumption, by assumption⟩ Hd.out
      | (go_ret; exact ⟨ret_kind (by rw [Hk.out]; rfl), rfl⟩)
  · have Hk : Hid (kind b = 4) := show kind b = 4 by unfold kind; rw [if_neg g, if_neg l, if_neg d, if_neg m]
    have Hm : Hid (decide (b ∈ marksL) = false) := decide_eq_false m
    clear g l d m
    go_enter Tryz.func86, Tryz.ntmps86
    go_wp2_with (go_at_call 106; refine (ContainsMark b hb false Hm.out _).mono ?_; rintro e w' ⟨rfl, rfl⟩)
    all_goals first
      | exact absurd ⟨by assumption, by assumption⟩ Hl.out
      | exact absurd ⟨by assumption, by assumption⟩ Hd.out
      | (go_ret; exact ⟨ret_kind (by rw [Hk.out]; rfl), rfl⟩)
set_option maxHeartbeats 1000000 in
theorem runeKind_high (r : Int) (h0 : 128 ≤ r) (h1 : r ≤ 1114111) (w : World) :
    Calls Tryz.prog 86 #[.int .i32 r] w fun e w' => e = .returned (.int .i64 4) ∧ Below w.heap.size w w' := by
  have g1 : (r == 32) = false := by rw [beq_eq_false_iff_ne]; omega
  have g2 : (r == 10) = false := by rw [beq_eq_false_iff_ne]; omega
  go_enter Tryz.func86, Tryz.ntmps86
  go_wp2_with (go_at_call 106; refine (ContainsRune_high marksB asc_marks (by decide) r h0 h1 _).mono ?_; rintro e w' ⟨rfl, hb⟩)
  all_goals first
    | omega
    | (go_ret; exact ⟨rfl, hb⟩)
/-- The kind of the rune that stands at a place is the kind of its first byte. -/
theorem runeKind_at (s : ByteArray) (pos : Nat) (h : pos < s.size) (w : World) :
    Calls Tryz.prog 86 #[.int .i32 ((Utf8.decode s pos).1 : Int)] w fun e w' => e = .returned (.int .i64 (kind (s[pos]'h) : Int)) ∧ Below w.heap.size w w' := by
  by_cases ha : (s[pos]'h).toNat < 128
  · rw [decode_ascii s pos h ha]
    refine (runeKind_ascii _ ha w).mono ?_
    rintro e w' ⟨rfl, rfl⟩
    exact ⟨rfl, Below.refl _ _⟩
  · have hd := (decode_high s pos h (by omega)).1
    have hm := decode_max s pos
    rw [kind_high (by omega)]
    exact runeKind_high _ (by omega) (by omega) w

/-! ### the landed code's NameOk -/
theorem isKept_is (s : ByteArray) (b : Bool) (hb : keptL.contains s.data.toList = b) (w : World) :
    Calls Tryz.prog 71 #[.string s] w fun e w' => e = .returned (.bool b) ∧ w = w' := by
  subst hb
  have hl : s.toList = s.data.toList := ByteArray.toList_eq s
  generalize s.data.toList = l at hl
  have e : keptL.contains l = ((l == [97, 114, 114, 97, 121]) || (l == [102, 111, 114]) || (l == [116, 111]) || (l == [112, 114, 105, 110, 116]) || (l == [109, 105, 110]) || (l == [109, 97, 120])) := by
    simp only [keptL, List.contains_cons, List.contains_nil, Bool.or_false, Bool.or_assoc]
  rw [e]
  clear e
  go_enter Tryz.func71, Tryz.ntmps71
  go_wp2
  all_goals
    go_ret
    refine ⟨ret_bool ?_, rfl⟩
    simp_all
set_option maxHeartbeats 1000000 in
theorem allLetters_is (s : ByteArray) (b : Bool) (hb : s.data.toList.all (fun b => kind b == 1) = b) (w : World) :
    Calls Tryz.prog 70 #[.string s] w fun e w' => e = .returned (.bool b) ∧ Below w.heap.size w w' := by
  subst hb
  go_enter Tryz.func70, Tryz.ntmps70
  go_wp2
  go_loopw [] (fun wr => ∃ pos, pos ≤ s.size ∧ wr.heap[w.heap.size]? = some (.stringIter s pos) ∧ Below w.heap.size w wr ∧ Hid (∀ j (h : j < s.size), j < pos → kind (s[j]'h) = 1)) (fun wr => s.size - wr.iterPos w.heap.size)
  case atStart => exact ⟨0, by omega, World.iter_heap w s 0, (Below.refl _ w).alloc (Nat.le_refl _) _, fun j _ h => absurd h (by omega)⟩
  case round =>
    obtain ⟨pos, hpos, hit, hbw, hall⟩ := hrel
    by_cases hp : pos < s.size
    · have hnx : ∀ ty, (Instr.next (.pointer (some ⟨w.heap.size, 0, none⟩)) true ty).run Tryz.prog wr = _ := fun ty => Lib.run_next_any_at wr w.heap.size s pos ty hit hp
      have hit2 := Lib.iterAt_heap wr w.heap.size s pos (pos + (Utf8.decode s pos).2) hit
      have hbw2 := Lib.below_iterAt hbw (k := w.heap.size) (Nat.le_refl _) s (pos + (Utf8.decode s pos).2)
      by_cases hk : kind (s[pos]'hp) = 1
      · have ha := kind_low (b := s[pos]'hp) (by omega)
        have Hd : Hid (Utf8.decode s pos = ((s[pos]'hp).toNat, 1)) := decode_ascii s pos hp ha
        have Hk : Hid (kind (s[pos]'hp) = 1) := hk
        clear hk
        go_wp2_with fail
        refine (runeKind_at s pos hp _).mono ?_
        rintro e w1 ⟨rfl, hb1⟩
        rw [Hk.out]
        go_wp2
        have hit3 : w1.heap[w.heap.size]? = some (.stringIter s (pos + 1)) := by
          have := hb1.block w.heap.size (by rw [Lib.iterAt_size]; exact (Array.getElem?_eq_some_iff.1 hit).1)
          rw [this, hit2, Hd.out]
        go_roundw
        case rel =>
          refine ⟨pos + 1, by omega, hit3, hbw2.trans (hb1.mono (by rw [Lib.iterAt_size]; exact hbw.size)), fun j hj hlt => ?_⟩
          · rcases Nat.lt_or_ge j pos with h1 | h1
            · exact hall.out j hj h1
            · have : j = pos := by omega
              subst this; exact Hk.out
        case measure =>
          simp only [World.iterPos, hit3, hit]
          omega
      · have Hf : Hid (s.data.toList.all (fun b => kind b == 1) = false) := by
          show s.data.toList.all (fun b => kind b == 1) = false
          rw [List.all_eq_false]
          exact ⟨s[pos]'hp, Array.getElem_mem_toList (xs := s.data) hp, by simpa using hk⟩
        have Hk : Hid (((kind (s[pos]'hp) : Int) == 1) = false) := show ((kind (s[pos]'hp) : Int) == 1) = false by rw [beq_eq_false_iff_ne]; omega
        clear hk
        go_wp2_with fail
        refine (runeKind_at s pos hp _).mono ?_
        rintro e w1 ⟨rfl, hb1⟩
        have hk := Hk.out
        go_wp2
        go_ret
        exact ⟨ret_bool Hf.out.symm, hbw2.trans (hb1.mono (by rw [Lib.iterAt_size]; exact hbw.size))⟩
    · have hnx : ∀ ty, (Instr.next (.pointer (some ⟨w.heap.size, 0, none⟩)) true ty).run Tryz.prog wr = _ := fun ty => Lib.run_next_end_at wr w.heap.size s pos ty hit hp
      go_wp2
      go_ret
      refine ⟨ret_bool ?_, hbw⟩
      symm
      rw [List.all_eq_true]
      intro x hx
      obtain ⟨j, hj, rfl⟩ := List.getElem_of_mem hx
      have hj' : j < s.size := by simpa using hj
      have := hall.out j hj' (by omega)
      rw [beq_iff_eq, Array.getElem_toList]; exact this
theorem nameOk_eq (l : List UInt8) : nameOk l = (decide (1 ≤ l.length) && decide (l.length ≤ 6) && l.all (fun b => kind b == 1) && !(keptL.contains l)) := rfl
set_option maxHeartbeats 1000000 in
theorem impl_NameOk (s : ByteArray) (b : Bool) (hb : nameOk s.data.toList = b) (w : World) :
    Calls Tryz.prog 50 #[.string s] w fun e w' => e = .returned (.bool b) ∧ Below w.heap.size w w' := by
  subst hb
  have hlen : s.data.toList.length = s.size := by simp
  have hl : s.toList = s.data.toList := ByteArray.toList_eq s
  by_cases h0 : s.size = 0
  · have Hn : Hid (nameOk s.data.toList = false) := show nameOk s.data.toList = false by rw [nameOk_eq, hlen, h0]; simp
    have he : (s.toList == []) = true := by rw [hl]; have : s.data.toList = [] := List.length_eq_zero_iff.1 (by omega); rw [this]; rfl
    clear h0 hlen hl
    go_enter Tryz.func50, Tryz.ntmps50
    go_wp2
    go_ret
    exact ⟨ret_bool Hn.out.symm, Below.refl _ _⟩
  have he : (s.toList == []) = false := by
    rw [hl, beq_eq_false_iff_ne]; intro e; rw [e] at hlen; exact h0 (by simpa using hlen.symm)
  by_cases h6 : s.size ≤ 6
  · have h6' : (s.size : Int) ≤ 6 := by omega
    cases ha : s.data.toList.all (fun b => kind b == 1) with
    | false =>
      have Hn : Hid (nameOk s.data.toList = false) := show nameOk s.data.toList = false by rw [nameOk_eq, ha]; simp
      have Ha := Lib.hid ha
      clear ha h0 hlen hl
      go_enter Tryz.func50, Tryz.ntmps50
      go_wp2_with (go_at_call 70; refine (allLetters_is s false Ha.out _).mono ?_; rintro e w' ⟨rfl, hb⟩)
      go_ret
      exact ⟨ret_bool Hn.out.symm, hb⟩
    | true =>
      cases hk : keptL.contains s.data.toList with
      | false =>
        have Hn : Hid (nameOk s.data.toList = true) := show nameOk s.data.toList = true by rw [nameOk_eq, ha, hk, hlen, decide_eq_true (by omega), decide_eq_true h6]; rfl
        have Ha := Lib.hid ha
        have Hk := Lib.hid hk
        clear ha hk h0 hlen hl
        go_enter Tryz.func50, Tryz.ntmps50
        go_wp2_with (first | (go_at_call 70; refine (allLetters_is s true Ha.out _).mono ?_; rintro e w' ⟨rfl, hb⟩) | (go_at_call 71; refine (isKept_is s false Hk.out _).mono ?_; rintro e w' ⟨rfl, rfl⟩))
        go_ret
        exact ⟨ret_bool Hn.out.symm, hb⟩
      | true =>
        have Hn : Hid (nameOk s.data.toList = false) := show nameOk s.data.toList = false by rw [nameOk_eq, hk]; simp
        have Ha := Lib.hid ha
        have Hk := Lib.hid hk
        clear ha hk h0 hlen hl
        go_enter Tryz.func50, Tryz.ntmps50
        go_wp2_with (first | (go_at_call 70; refine (allLetters_is s true Ha.out _).mono ?_; rintro e w' ⟨rfl, hb⟩) | (go_at_call 71; refine (isKept_is s true Hk.out _).mono ?_; rintro e w' ⟨rfl, rfl⟩))
        go_ret
        exact ⟨ret_bool Hn.out.symm, hb⟩
  · have Hn : Hid (nameOk s.data.toList = false) := show nameOk s.data.toList = false by rw [nameOk_eq, hlen, decide_eq_false h6]; simp
    have h6' : decide ((s.size : Int) ≤ 6) = false := decide_eq_false (by omega)
    clear h6 h0 hlen hl
    go_enter Tryz.func50, Tryz.ntmps50
    go_wp2
    go_ret
    exact ⟨ret_bool Hn.out.symm, Below.refl _ _⟩

/-! ### the specification's NameOk -/
theorem In_is (x a b : Int) (v : Bool) (hv : (decide (a ≤ x) && decide (x ≤ b)) = v) (w : World) : Calls Tryz.prog 56 #[.int .i64 x, .int .i64 a, .int .i64 b] w fun e w' => e = .returned (.bool v) ∧ w = w' := by
  subst hv
  by_cases h1 : a ≤ x
  · by_cases h2 : x ≤ b
    all_goals
      go_enter Tryz.func56, Tryz.ntmps56
      go_wp2
      go_ret
      exact ⟨ret_bool (by simp [h1, h2]), rfl⟩
  · go_enter Tryz.func56, Tryz.ntmps56
    go_wp2
    go_ret
    exact ⟨ret_bool (by rw [decide_eq_false (by omega : ¬ a ≤ x)]; rfl), rfl⟩
theorem kind1_iff (b : UInt8) : kind b = 1 ↔ 97 ≤ b.toNat ∧ b.toNat ≤ 122 := by
  unfold kind
  by_cases h0 : b.toNat = 32 ∨ b.toNat = 10
  · rw [if_pos h0]; omega
  · rw [if_neg h0]
    by_cases h1 : 97 ≤ b.toNat ∧ b.toNat ≤ 122
    · rw [if_pos h1]; simp [h1]
    · rw [if_neg h1]
      constructor
      · intro h; split at h
        · omega
        · split at h <;> omega
      · intro h; exact absurd h h1
theorem kind2_iff (b : UInt8) : kind b = 2 ↔ 48 ≤ b.toNat ∧ b.toNat ≤ 57 := by
  unfold kind
  by_cases h0 : b.toNat = 32 ∨ b.toNat = 10
  · rw [if_pos h0]; omega
  · rw [if_neg h0]
    by_cases h1 : 97 ≤ b.toNat ∧ b.toNat ≤ 122
    · rw [if_pos h1]; omega
    · rw [if_neg h1]
      by_cases h2 : 48 ≤ b.toNat ∧ b.toNat ≤ 57
      · rw [if_pos h2]; simp [h2]
      · rw [if_neg h2]
        constructor
        · intro h; split at h <;> omega
        · intro h; exact absurd h h2
set_option maxRecDepth 100000 in
theorem l2Small_is (b : UInt8) (v : Bool) (hv : decide (kind b = 1) = v) (w : World) : Calls Tryz.prog 78 #[.int .u8 (b.toNat : Int)] w fun e w' => e = .returned (.bool v) ∧ w = w' := by
  have Hv : Hid ((decide ((97 : Int) ≤ (b.toNat : Int)) && decide ((b.toNat : Int) ≤ 122)) = v) := show (decide ((97 : Int) ≤ (b.toNat : Int)) && decide ((b.toNat : Int) ≤ 122)) = v by
    subst hv
    by_cases h : kind b = 1
    · have := (kind1_iff b).1 h
      rw [decide_eq_true h, decide_eq_true (by omega), decide_eq_true (by omega)]; rfl
    · have : ¬ (97 ≤ b.toNat ∧ b.toNat ≤ 122) := fun x => h ((kind1_iff b).2 x)
      rw [decide_eq_false h]
      rcases Nat.lt_or_ge b.toNat 97 with h1 | h1
      · rw [decide_eq_false (by omega : ¬ (97 : Int) ≤ (b.toNat : Int))]; rfl
      · rw [decide_eq_false (by omega : ¬ (b.toNat : Int) ≤ 122), Bool.and_false]
  have hc2 : (b.toNat : Int) ≤ 255 := by have := b.toNat_lt; omega
  clear hv
  go_enter Tryz.func78, Tryz.ntmps78
  go_wp2_with fail
  refine (In_is (b.toNat : Int) 97 122 v Hv.out _).mono ?_
  rintro e w' ⟨rfl, rfl⟩
  go_wp2
  go_ret
  exact ⟨rfl, rfl⟩
set_option maxHeartbeats 1000000 in
theorem l2Has_is (lb n c : Nat) (ss : List (List UInt8)) (hn : ss.length = n) (hn1 : n ≤ 1000) (s : ByteArray) (v : Bool) (hv : ss.contains s.data.toList = v) (w : World)
    (hc : ∀ j l, ss[j]? = some l → w.cell? ⟨lb, j, Option.none⟩ = some (.string ⟨l.toArray⟩)) :
    Calls Tryz.prog 61 #[.slice (some ⟨lb, 0, Option.none⟩) n c, .string s] w fun e w' => e = .returned (.bool v) ∧ w = w' := by
  have Hv := Lib.hid hv
  have Hc := Lib.hid hc
  clear hc hv
  go_enter Tryz.func61, Tryz.ntmps61
  go_wp2
  go_loop [5] (fun i => ∃ k : Nat, k ≤ n ∧ i = .int .i64 k ∧ Hid (∀ j, j < k → ss[j]? ≠ some s.data.toList)) (fun i => n - (RowKit.intOf i).toNat)
  case atStart => exact ⟨0, by omega, rfl, fun j h => absurd h (by omega)⟩
  case round =>
    obtain ⟨k, hk, rfl, hall⟩ := hrel
    by_cases hlt : k < n
    · obtain ⟨l, hl⟩ : ∃ l, ss[k]? = some l := ⟨ss[k]'(by omega), List.getElem?_eq_getElem (by omega)⟩
      have hcell := Hc.out k l hl
      have Hl := Lib.hid hl
      clear hl
      by_cases he : l = s.data.toList
      · have hE : (l == s.toList) = true := by rw [ByteArray.toList_eq, he]; simp
        subst he
        go_wp2
        go_ret
        refine ⟨ret_bool ?_, rfl⟩
        rw [← Hv.out]; symm
        rw [List.contains_iff_mem]
        exact List.mem_of_getElem? Hl.out
      · have hE : (l == s.toList) = false := by rw [ByteArray.toList_eq, beq_eq_false_iff_ne]; exact he
        have He := Lib.hid he
        clear he
        go_wp2
        go_round
        case rel =>
          refine ⟨k + 1, by omega, by go_num, fun j hj => ?_⟩
          rcases Nat.lt_or_ge j k with h1 | h1
          · exact hall.out j h1
          · have : j = k := by omega
            subst this; rw [Hl.out]; intro e; exact He.out (Option.some.inj e)
        case measure => simp [RowKit.intOf]; omega
    · go_wp2
      go_ret
      refine ⟨ret_bool ?_, rfl⟩
      rw [← Hv.out]; symm
      rw [← Bool.not_eq_true, List.contains_iff_mem]
      intro hm
      obtain ⟨j, hj, e⟩ := List.getElem_of_mem hm
      exact hall.out j (by omega) (by rw [List.getElem?_eq_getElem hj, e])
/-- What a slice of constant strings holds when it has just been laid. -/
def strs (ss : List (List UInt8)) : List Value := ss.map fun l => .string ⟨l.toArray⟩
theorem strs_cells (w : World) (ss : List (List UInt8)) (t : TypeId) : ∀ j l, ss[j]? = some l → (w.alloc (.cells (strs ss).toArray t)).cell? ⟨w.heap.size, j, Option.none⟩ = some (.string ⟨l.toArray⟩) := by
  intro j l h
  have e : (w.alloc (.cells (strs ss).toArray t)).heap[w.heap.size]? = some (.cells (strs ss).toArray t (0, 0)) := by
    show (w.heap.push (Obj.cells (strs ss).toArray t (0, 0)))[w.heap.size]? = _
    simp
  simp only [World.cell?, e]
  simp [strs, h]
theorem l2Kept_is (s : ByteArray) (v : Bool) (hv : keptL.contains s.data.toList = v) (w : World) :
    Calls Tryz.prog 79 #[.string s] w fun e w' => e = .returned (.bool v) ∧ Below w.heap.size w w' := by
  have Hv := Lib.hid hv
  clear hv
  go_enter Tryz.func79, Tryz.ntmps79
  go_wp2_with fail
  refine (l2Has_is _ 6 _ keptL rfl (by decide) s v Hv.out _ (strs_cells w keptL _)).mono ?_
  rintro e w' ⟨rfl, rfl⟩
  go_wp2
  go_ret
  exact ⟨rfl, (Below.refl _ w).alloc (Nat.le_refl _) _⟩
set_option maxHeartbeats 1000000 in
theorem spec_NameOk (s : ByteArray) (v : Bool) (hv : nameOk s.data.toList = v) (hlim : s.size ≤ 281474976710656) (w : World) :
    Calls Tryz.prog 55 #[.string s] w fun e w' => e = .returned (.bool v) ∧ Below w.heap.size w w' := by
  have hlen : s.data.toList.length = s.size := by simp
  have Hv := Lib.hid hv
  clear hv
  go_enter Tryz.func55, Tryz.ntmps55
  go_wp2
  go_loop [3] (fun i => ∃ k : Nat, k ≤ s.size ∧ i = .int .i64 k ∧ Hid (∀ j (h : j < s.size), j < k → kind (s[j]'h) = 1)) (fun i => s.size - (RowKit.intOf i).toNat)
  case atStart => exact ⟨0, by omega, rfl, fun j _ h => absurd h (by omega)⟩
  case round =>
    obtain ⟨k, hk, rfl, hall⟩ := hrel
    by_cases hlt : k < s.size
    · by_cases hd : kind (s[k]'hlt) = 1
      · have Hd : Hid (decide (kind (s[k]'hlt) = 1) = true) := decide_eq_true hd
        have Hd1 := Lib.hid hd
        clear hd
        go_wp2_with (go_at_call 78; refine (l2Small_is (s[k]'hlt) true Hd.out _).mono ?_; rintro e w' ⟨rfl, rfl⟩)
        go_round
        case rel =>
          refine ⟨k + 1, by omega, by go_num, fun j hj hjk => ?_⟩
          rcases Nat.lt_or_ge j k with h1 | h1
          · exact hall.out j hj h1
          · have : j = k := by omega
            subst this; exact Hd1.out
        case measure => simp [RowKit.intOf]; omega
      · have Hd : Hid (decide (kind (s[k]'hlt) = 1) = false) := decide_eq_false hd
        have Hn : Hid (v = false) := show v = false by
          rw [← Hv.out, nameOk_eq]
          have : s.data.toList.all (fun b => kind b == 1) = false := by
            rw [List.all_eq_false]; exact ⟨s[k]'hlt, Array.getElem_mem_toList (xs := s.data) hlt, by simpa using hd⟩
          rw [this]; simp
        clear hd
        go_wp2_with (go_at_call 78; refine (l2Small_is (s[k]'hlt) false Hd.out _).mono ?_; rintro e w' ⟨rfl, rfl⟩)
        go_ret
        exact ⟨ret_bool Hn.out.symm, Below.refl _ _⟩
    · have Ha : Hid (s.data.toList.all (fun b => kind b == 1) = true) := show s.data.toList.all (fun b => kind b == 1) = true by
        rw [List.all_eq_true]
        intro x hx
        obtain ⟨j, hj, rfl⟩ := List.getElem_of_mem hx
        have hj' : j < s.size := by simpa using hj
        rw [beq_iff_eq, Array.getElem_toList]; exact hall.out j hj' (by omega)
      by_cases hn : 1 ≤ s.size ∧ s.size ≤ 6
      · have Hi : Hid ((decide ((1 : Int) ≤ (s.size : Int)) && decide ((s.size : Int) ≤ 6)) = true) := show (decide ((1 : Int) ≤ (s.size : Int)) && decide ((s.size : Int) ≤ 6)) = true by simp; omega
        cases hq : keptL.contains s.data.toList with
        | false =>
          have Hn : Hid (v = true) := show v = true by rw [← Hv.out, nameOk_eq, Ha.out, hq, hlen, decide_eq_true hn.1, decide_eq_true hn.2]; rfl
          have Hq := Lib.hid hq
          clear hq hn hlen
          go_wp2_with (first | (go_at_call 56; refine (In_is _ _ _ true Hi.out _).mono ?_; rintro e w' ⟨rfl, rfl⟩) | (go_at_call 79; refine (l2Kept_is s false Hq.out _).mono ?_; rintro e w' ⟨rfl, hb⟩))
          go_ret
          exact ⟨ret_bool Hn.out.symm, hb⟩
        | true =>
          have Hn : Hid (v = false) := show v = false by rw [← Hv.out, nameOk_eq, hq]; simp
          have Hq := Lib.hid hq
          clear hq hn hlen
          go_wp2_with (first | (go_at_call 56; refine (In_is _ _ _ true Hi.out _).mono ?_; rintro e w' ⟨rfl, rfl⟩) | (go_at_call 79; refine (l2Kept_is s true Hq.out _).mono ?_; rintro e w' ⟨rfl, hb⟩))
          go_ret
          exact ⟨ret_bool Hn.out.symm, hb⟩
      · have Hi : Hid ((decide ((1 : Int) ≤ (s.size : Int)) && decide ((s.size : Int) ≤ 6)) = false) := show (decide ((1 : Int) ≤ (s.size : Int)) && decide ((s.size : Int) ≤ 6)) = false by simp; omega
        have Hn : Hid (v = false) := show v = false by
          rw [← Hv.out, nameOk_eq, hlen]
          rcases Nat.lt_or_ge s.size 1 with h1 | h1
          · rw [decide_eq_false (by omega : ¬ 1 ≤ s.size)]; simp
          · rw [decide_eq_false (by omega : ¬ s.size ≤ 6)]; simp
        clear hn hlen
        go_wp2_with (go_at_call 56; refine (In_is _ _ _ false Hi.out _).mono ?_; rintro e w' ⟨rfl, rfl⟩)
        go_ret
        exact ⟨ret_bool Hn.out.symm, Below.refl _ _⟩
end Go.Proofs.YtkhccpjkajhnpaaGreat
/-
  Expressions and statements that came in, opened into trees.
-/
namespace Go.Proofs.YtkhccpjkajhnpaaGreat
open Go.ChangeShapes Go.WideShapes Go.ChangeAt Go.RowKit
set_option linter.unusedSimpArgs false
set_option linter.unusedVariables false

theorem cI : Tryz.prog.cellsOf 3 = 1 := by kernel_rfl
theorem cT : Tryz.prog.cellsOf 9 = 1 := by kernel_rfl
theorem part_get {cs xs : List Value} {o n : Nat} (h : (cs.drop o).take n = xs) : ∀ j u, xs[j]? = some u → cs[o + j]? = some u := by
  intro j u hj
  rw [← h, List.getElem?_take] at hj
  split at hj
  · rw [List.getElem?_drop] at hj; exact hj
  · cases hj
theorem build_exps {W : World} {b o len : Nat} (each : ∀ i, i < len → ∃ x : X, xok x ∧ XC W 0 x b (o + i * 4)) : ∀ d, d ≤ len → ∃ R : EF, elen R = d ∧ eok R ∧ EIn W 0 R b (o + (len - d) * 4)
  | 0, _ => ⟨.nil, rfl, trivial, trivial⟩
  | d + 1, hd => by
    obtain ⟨R, h1, h2, h3⟩ := build_exps each d (by omega)
    obtain ⟨x, k, hx⟩ := each (len - (d + 1)) (by omega)
    refine ⟨.node 0 0 x.h x.l R, by simp only [elen]; omega, ⟨k.1, k.2.1, k.2.2, h2⟩, EIn_node.2 ⟨hx, ?_⟩⟩
    rw [show o + (len - (d + 1)) * 4 + 4 = o + (len - d) * 4 by omega]; exact h3
theorem build_stmts {W : World} {b o len : Nat} (each : ∀ i, i < len → ∃ (h : SH) (l : SF), (h.s.size ≤ 9223372036854775807 ∧ xok h.x1 ∧ xok h.x2 ∧ xok h.x3 ∧ xok h.x4 ∧ slen l ≤ 9223372036854775807 ∧ sok l) ∧ SC W 0 h l b (o + i * 19)) : ∀ d, d ≤ len → ∃ R : SF, slen R = d ∧ sok R ∧ SIn W 0 R b (o + (len - d) * 19)
  | 0, _ => ⟨.nil, rfl, trivial, trivial⟩
  | d + 1, hd => by
    obtain ⟨R, h1, h2, h3⟩ := build_stmts each d (by omega)
    obtain ⟨h, l, ⟨k1, k2, k3, k4, k5, k6, k7⟩, hx⟩ := each (len - (d + 1)) (by omega)
    refine ⟨.node 0 0 h l R, by simp only [slen]; omega, ⟨k1, k2, k3, k4, k5, k6, k7, h2⟩, SIn_node.2 ⟨hx, ?_⟩⟩
    rw [show o + (len - (d + 1)) * 19 + 19 = o + (len - d) * 19 by omega]; exact h3
section
variable {H : Type} {enc : TypeId × Value → H} {W : World} {sp : Nat → Bool} {held : Bool}
end
end Go.Proofs.YtkhccpjkajhnpaaGreat
/-
  Programs that came in, opened; a program in two cells.
-/
namespace Go.Proofs.YtkhccpjkajhnpaaGreat
open Go.ChangeShapes Go.WideShapes Go.ChangeAt Go.RowKit
set_option linter.unusedSimpArgs false
set_option linter.unusedVariables false

section
variable {H : Type} {enc : TypeId × Value → H} {W : World} {sp : Nat → Bool} {held : Bool}
theorem build_arrs {b o len : Nat} (each : ∀ i, i < len → ∃ t : AR, t.s.size ≤ 9223372036854775807 ∧ W.cell? ⟨b, o + i * 2, Option.none⟩ = some (.string t.s) ∧ W.cell? ⟨b, o + i * 2 + 1, Option.none⟩ = some (.int .i64 t.n)) :
    ∀ d, d ≤ len → ∃ R : List AR, R.length = d ∧ (∀ t ∈ R, t.s.size ≤ 9223372036854775807) ∧ ∀ i t, R[i]? = some t → W.cell? ⟨b, o + i * 2, Option.none⟩ = some (.string t.s) ∧ W.cell? ⟨b, o + i * 2 + 1, Option.none⟩ = some (.int .i64 t.n)
  | 0, _ => ⟨[], rfl, fun _ h => by simp at h, fun i t h => by simp at h⟩
  | d + 1, hd => by
    obtain ⟨R, h1, h2, h3⟩ := build_arrs each d (by omega)
    obtain ⟨t, k, c0, c1⟩ := each d (by omega)
    refine ⟨R ++ [t], by simp [h1], fun u hu => ?_, fun i u hu => ?_⟩
    · rcases List.mem_append.1 hu with hu | hu
      · exact h2 u hu
      · simp only [List.mem_cons, List.not_mem_nil, or_false] at hu; subst hu; exact k
    · rcases Nat.lt_or_ge i R.length with hi | hi
      · rw [List.getElem?_append_left hi] at hu; exact h3 i u hu
      · rw [List.getElem?_append_right hi] at hu
        have hi2 : i = d := by have := (List.getElem?_eq_some_iff.1 hu).1; simp at this; omega
        subst hi2
        rw [h1, Nat.sub_self] at hu
        simp at hu; subst hu; exact ⟨c0, c1⟩
end
theorem sizeIP : (Tryz.prog.info? 27).map (·.size) = some 2 := by kernel_rfl
/-- A program in two cells of a block. -/
structure Pt (w0 w : World) (n : Nat) (va vb : Value) (ts : List AR) (F : SF) : Prop where
  rg : w.rangeAt n 0 [va, vb]
  av : AV w 0 va ts
  sv : SV w 0 F vb
  low : Below w0.heap.size w0 w
theorem Pt.later {w0 w w' : World} {n : Nat} {va vb : Value} {ts : List AR} {F : SF} (h : Pt w0 w n va vb ts F) (hb : Below w.heap.size w w') : Pt w0 w' n va vb ts F :=
  ⟨rangeAt_later h.rg hb, h.av.later hb, h.sv.later hb, h.low.trans (hb.mono h.low.size)⟩
theorem Pt.start {w : World} (t : TypeId) {va vb : Value} {ts : List AR} {F : SF} (ha : AV w 0 va ts) (hb : SV w 0 F vb) : Pt w (w.alloc (.cells #[va, vb] t)) w.heap.size va vb ts F :=
  ⟨blk_range (arr := #[va, vb]) (heap_last _ _), ha.later (alloc_below _ _), hb.later (alloc_below _ _), alloc_below _ _⟩
theorem newblk2 {w W : World} {t : TypeId} {x y : Value} (a b : Value) (hW : (w.alloc (.cells #[x, y] t)).setCells w.heap.size 0 [a, b] = W) : W.rangeAt w.heap.size 0 [a, b] ∧ Below w.heap.size w W := by
  subst hW
  exact ⟨World.rangeAt_setCells_same _ _ _ _ (blk_there (arr := #[x, y]) (t := t) (heap_last _ _) (Nat.le_refl 2)), below_sets _ _ (alloc_below _ _) (Nat.le_refl _)⟩
theorem oneP {a b : Value} (ha : a.oneCell' = true) (hb : b.oneCell' = true) : (#[a, b] : Array Value).all (·.oneCell') = true :=
  all_oneCell_toArray (cs := [a, b]) (fun v hv => by
    simp only [List.mem_cons, List.not_mem_nil, or_false] at hv
    rcases hv with rfl | rfl <;> assumption)
theorem AV.isOne {w : World} {lo : Nat} {v : Value} {ts : List AR} (h : AV w lo v ts) : v.oneCell' = true := by obtain ⟨a, c, rfl⟩ := h.shape; rfl
end Go.Proofs.YtkhccpjkajhnpaaGreat
/-
  The contracts of the specification's l2Has, l4Apart, l4Arrs.
-/
namespace Go.Proofs.YtkhccpjkajhnpaaGreat
open Go.RowKit Go.Lib
set_option linter.unusedSimpArgs false
set_option linter.unusedVariables false

theorem all_drop {α : Type} {p : α → Bool} {l : List α} {k : Nat} {x : α} (hx : l[k]? = some x) : (l.drop k).all p = (p x && (l.drop (k + 1)).all p) := by
  have hlt : k < l.length := (List.getElem?_eq_some_iff.1 hx).1
  rw [List.drop_eq_getElem_cons hlt, List.all_cons]
  have e : l[k] = x := (List.getElem?_eq_some_iff.1 hx).2
  rw [e]
theorem and_t {a b r : Bool} (h : (a && b) = r) (ha : a = true) : b = r := by rw [ha, Bool.true_and] at h; exact h
theorem and_f {a b r : Bool} (h : (a && b) = r) (ha : a = false) : r = false := by rw [ha, Bool.false_and] at h; exact h.symm
theorem all_end {α : Type} {p : α → Bool} {l : List α} {k : Nat} {r : Bool} (h : (l.drop k).all p = r) (hk : l.length ≤ k) : r = true := by rw [List.drop_of_length_le hk] at h; exact h.symm
theorem not_false {b : Bool} (h : (!b) = false) : b = true := by cases b <;> simp_all
theorem not_true' {b : Bool} (h : (!b) = true) : b = false := by cases b <;> simp_all
theorem TV.cells {w : World} {v : Value} {ns : List ByteArray} (h : TV w 0 v ns) {k : Nat} {x : ByteArray} (hx : ns[k]? = some x) : ∃ g off c, v = .slice (some ⟨g, off, Option.none⟩) ns.length c ∧ w.cell? ⟨g, off + k, Option.none⟩ = some (.string x) := by
  obtain ⟨ao, cap, rfl, h⟩ := h
  rcases h with h | ⟨g, off, rfl, _, _, h⟩
  · subst h; simp at hx
  · exact ⟨g, off, cap, rfl, h k x hx⟩
set_option maxHeartbeats 1000000 in
theorem has_is (ns : List ByteArray) (hn : ns.length ≤ 10000000) (s : ByteArray) (b : Bool) (hb : ns.all (fun t => !decide (t = s)) = !b) (v : Value) (w : World) (hv : TV w 0 v ns) :
    Calls Tryz.prog 61 #[v, .string s] w fun e w' => e = .returned (.bool b) ∧ w = w' := by
  have Hv := Lib.hid hv
  obtain ⟨ao, cap, rfl⟩ := hv.shape
  have Hb : Hid ((ns.drop 0).all (fun t => !decide (t = s)) = !b) := by rw [List.drop_zero]; exact hb
  clear hv hb
  go_enter Tryz.func61, Tryz.ntmps61
  go_wp2
  go_loop [5] (fun i => ∃ k : Nat, k ≤ ns.length ∧ i = .int .i64 k ∧ Hid ((ns.drop k).all (fun t => !decide (t = s)) = !b)) (fun i => ns.length - (RowKit.intOf i).toNat)
  case atStart => exact ⟨0, by omega, rfl, Hb⟩
  case round =>
    obtain ⟨k, hk, rfl, hall⟩ := hrel
    clear Hb
    by_cases hlt : k < ns.length
    · have hltI : (k : Int) < (ns.length : Int) := by omega
      obtain ⟨x, hx⟩ : ∃ x, ns[k]? = some x := ⟨ns[k], List.getElem?_eq_getElem hlt⟩
      obtain ⟨g, off, c, hvv, hcell⟩ := Hv.out.cells hx
      injection hvv with e1 e2 e3
      subst e1
      have hd : Hid ((!decide (x = s) && (ns.drop (k + 1)).all (fun t => !decide (t = s))) = !b) := by rw [← all_drop (p := fun t => !decide (t = s)) hx]; exact hall.out
      clear hx hall Hv e2 e3
      by_cases he : x = s
      · have h1 := Lib.hid (not_false (and_f hd.out (by rw [decide_eq_true he]; rfl)))
        subst he
        clear hd
        go_wp2
        go_ret
        exact ⟨ret_bool h1.out.symm, rfl⟩
      · have h1 := Lib.hid (and_t hd.out (by rw [decide_eq_false he]; rfl))
        have hne := str_ne he
        clear hd
        go_wp2
        go_round
        case rel => exact ⟨k + 1, by omega, by go_num, h1⟩
        case measure => simp [RowKit.intOf]; omega
    · have h1 := Lib.hid (not_true' (all_end hall.out (by omega)))
      go_wp2
      go_ret
      exact ⟨ret_bool h1.out.symm, rfl⟩
/-- Two lists have nothing in common. -/
def apart (a b : List ByteArray) : Bool := a.all (fun s => b.all (fun t => !decide (t = s)))
set_option maxHeartbeats 1000000 in
theorem l4Apart_is (xs bs : List ByteArray) (hna : xs.length ≤ 10000000) (hnb : bs.length ≤ 10000000) (r : Bool) (hr : apart xs bs = r) (va vb : Value) (w : World) (ha : TV w 0 va xs) (hb : TV w 0 vb bs) :
    Calls Tryz.prog 40 #[va, vb] w fun e w' => e = .returned (.bool r) ∧ w = w' := by
  have Hv := Lib.hid ha
  have Hw := Lib.hid hb
  obtain ⟨ao, cap, rfl⟩ := ha.shape
  obtain ⟨bo, bcap, rfl⟩ := hb.shape
  have Hr : Hid ((xs.drop 0).all (fun s => bs.all (fun t => !decide (t = s))) = r) := by rw [List.drop_zero]; exact hr
  clear ha hb hr
  go_enter Tryz.func40, Tryz.ntmps40
  go_wp2
  go_loop [5] (fun i => ∃ k : Nat, k ≤ xs.length ∧ i = .int .i64 k ∧ Hid ((xs.drop k).all (fun s => bs.all (fun t => !decide (t = s))) = r)) (fun i => xs.length - (RowKit.intOf i).toNat)
  case atStart => exact ⟨0, by omega, rfl, Hr⟩
  case round =>
    obtain ⟨k, hk, rfl, hall⟩ := hrel
    clear Hr
    by_cases hlt : k < xs.length
    · have hltI : (k : Int) < (xs.length : Int) := by omega
      obtain ⟨x, hx⟩ : ∃ x, xs[k]? = some x := ⟨xs[k], List.getElem?_eq_getElem hlt⟩
      obtain ⟨g, off, c, hvv, hcell⟩ := Hv.out.cells hx
      injection hvv with e1 e2 e3
      subst e1
      have hd : Hid ((bs.all (fun t => !decide (t = x)) && (xs.drop (k + 1)).all (fun s => bs.all (fun t => !decide (t = s)))) = r) := by rw [← all_drop (p := fun s => bs.all (fun t => !decide (t = s))) hx]; exact hall.out
      clear hx hall Hv e2 e3
      cases hq : bs.all (fun t => !decide (t = x)) with
      | false =>
        have h1 := Lib.hid (and_f hd.out hq)
        have C := Lib.hid (has_is bs hnb x true (by rw [hq]; rfl) _ w Hw.out)
        clear hd hq
        go_wp2_with fail
        refine C.out.mono ?_
        rintro e w' ⟨rfl, rfl⟩
        go_wp2
        go_ret
        exact ⟨ret_bool h1.out.symm, rfl⟩
      | true =>
        have h1 := Lib.hid (and_t hd.out hq)
        have C := Lib.hid (has_is bs hnb x false (by rw [hq]; rfl) _ w Hw.out)
        clear hd hq
        go_wp2_with fail
        refine C.out.mono ?_
        rintro e w' ⟨rfl, rfl⟩
        go_wp2
        go_round
        case rel => exact ⟨k + 1, by omega, by go_num, h1⟩
        case measure => simp [RowKit.intOf]; omega
    · have h1 := Lib.hid (all_end hall.out (by omega))
      go_wp2
      go_ret
      exact ⟨ret_bool h1.out.symm, rfl⟩
/-- Each of these is an array. -/
def allArrs (ts : List AR) (ns : List ByteArray) : Bool := ns.all (fun s => decide (0 ≤ arrGo ts 0 s))
set_option maxHeartbeats 2000000 in
set_option maxRecDepth 100000 in
theorem l4Arrs_is (ts : List AR) (hn : ts.length ≤ 1048576) (ns : List ByteArray) (hnn : ns.length ≤ 10000000) (r : Bool) (hr : allArrs ts ns = r) (va vb vl : Value) (hvb : vb.oneCell' = true) (w : World) (ha : AV w 0 va ts) (hl : TV w 0 vl ns) :
    Calls Tryz.prog 38 #[.agg #[va, vb], vl] w fun e w' => e = .returned (.bool r) ∧ Below w.heap.size w w' := by
  have Hv := Lib.hid hl
  have Ha := Lib.hid ha
  obtain ⟨ao, cap, rfl⟩ := ha.shape
  obtain ⟨lo, lcap, rfl⟩ := hl.shape
  have B := Lib.hid (alloc_below w (.cells #[.slice ao ts.length cap, vb] 27))
  have R : Hid ((w.alloc (.cells #[.slice ao ts.length cap, vb] 27)).rangeAt w.heap.size 0 [.slice ao ts.length cap, vb]) := blk_range (arr := #[.slice ao ts.length cap, vb]) (heap_last _ _)
  have Hr : Hid ((ns.drop 0).all (fun s => decide (0 ≤ arrGo ts 0 s)) = r) := by rw [List.drop_zero]; exact hr
  clear ha hl hr
  go_enter Tryz.func38, Tryz.ntmps38
  go_wp2
  go_loopw [5] (fun i wr => ∃ k : Nat, k ≤ ns.length ∧ i = .int .i64 k ∧ Hid ((ns.drop k).all (fun s => decide (0 ≤ arrGo ts 0 s)) = r) ∧ Hid (Below w.heap.size w wr) ∧ Hid (wr.rangeAt w.heap.size 0 [.slice ao ts.length cap, vb])) (fun i _ => ns.length - (RowKit.intOf i).toNat)
  case atStart => exact ⟨0, by omega, rfl, Hr, B, R⟩
  case round =>
    obtain ⟨k, hk, rfl, hall, hbr, hrg⟩ := hrel
    clear Hr B R
    by_cases hlt : k < ns.length
    · have hltI : (k : Int) < (ns.length : Int) := by omega
      obtain ⟨x, hx⟩ : ∃ x, ns[k]? = some x := ⟨ns[k], List.getElem?_eq_getElem hlt⟩
      obtain ⟨g, off, c, hvv, hcell⟩ := (Hv.out.later hbr.out).cells hx
      injection hvv with e1 e2 e3
      subst e1
      have hd : Hid ((decide (0 ≤ arrGo ts 0 x) && (ns.drop (k + 1)).all (fun s => decide (0 ≤ arrGo ts 0 s))) = r) := by rw [← all_drop (p := fun s => decide (0 ≤ arrGo ts 0 s)) hx]; exact hall.out
      have Hcell := Lib.hid hcell
      clear hx hall Hv e2 e3 hcell
      have bd : Below wr.heap.size wr wr.drew := (Below.refl _ wr).drew
      have CA : Hid (∀ (w2 : World), Below wr.heap.size wr w2 → Calls Tryz.prog 13 #[.agg #[.slice ao ts.length cap, vb], .string x] w2 fun e w' => e = .returned (.int .i64 (arrGo ts 0 x)) ∧ Below w2.heap.size w2 w') := fun w2 hb2 => spec_ArrAt ts hn x _ _ hvb w2 ((Ha.out.later hbr.out).later hb2)
      clear Ha
      by_cases hge : 0 ≤ arrGo ts 0 x
      · have h1 := Lib.hid (and_t hd.out (decide_eq_true hge))
        have hge' : ¬ arrGo ts 0 x < 0 := by omega
        clear hd
        go_wp2_with fail
        refine wp_region_held_drew (S := fun w' => w'.rangeAt w.heap.size 0 [.slice ao ts.length cap, vb] ∧ w'.cell? ⟨g, off + k, Option.none⟩ = some (.string x)) (by kernel_rfl) ⟨(World.rangeAt_drew _ _ _ _).2 hrg.out, keeps bd Hcell.out⟩ (fun hHeld => ?_)
        refine wpAnyH_take (i := 0) (v := .agg ([.slice ao ts.length cap, vb]).toArray) rfl (by kernel_rfl) (by kernel_rfl) (by kernel_rfl) (fun _ _ _ h => h) (yieldsIf_load_mid (by rfl) 27 _ rfl (w.heap.size) (0) rfl ([.slice ao ts.length cap, vb]) _ (fun w h => h.1) Tryz.underlying27 rfl sizeIP) hHeld ?_
        simp only [Act.put, List.getElem_toArray, List.getElem_cons_succ, List.getElem_cons_zero, List.setIfInBounds_toArray, List.set_cons_zero, List.set_cons_succ]
        refine wpAnyH_take (i := 1) (v := .slice (some ⟨g, off, Option.none⟩) ns.length lcap) rfl (by kernel_rfl) (by kernel_rfl) (by kernel_rfl) (fun _ _ _ h => h) (Or.inl ⟨by rfl, ?ya1⟩) hHeld ?_
        case ya1 => intro w hSw; go_simp
        simp only [Act.put, List.getElem_toArray, List.getElem_cons_succ, List.getElem_cons_zero, List.setIfInBounds_toArray, List.set_cons_zero, List.set_cons_succ]
        refine wpAnyH_take (i := 2) (v := .int .i64 (k : Int)) rfl (by kernel_rfl) (by kernel_rfl) (by kernel_rfl) (fun _ _ _ h => h) (Or.inl ⟨by rfl, ?ya2⟩) hHeld ?_
        case ya2 => intro w hSw; go_simp
        simp only [Act.put, List.getElem_toArray, List.getElem_cons_succ, List.getElem_cons_zero, List.setIfInBounds_toArray, List.set_cons_zero, List.set_cons_succ]
        refine wpAnyH_take (i := 3) (v := .pointer (some ⟨g, off + k, Option.none⟩)) rfl (by kernel_rfl) (by kernel_rfl) (by kernel_rfl) (fun _ _ _ h => h) (Or.inl ⟨by rfl, ?ya3⟩) hHeld ?_
        case ya3 => intro w hSw; go_simp
        simp only [Act.put, List.getElem_toArray, List.getElem_cons_succ, List.getElem_cons_zero, List.setIfInBounds_toArray, List.set_cons_zero, List.set_cons_succ]
        refine wpAnyH_take (i := 4) (v := .string x) rfl (by kernel_rfl) (by kernel_rfl) (by kernel_rfl) (fun _ _ _ h => h) (Or.inl ⟨by rfl, ?ya4⟩) hHeld ?_
        case ya4 => intro w hSw; have q := hSw.2; go_simp
        simp only [Act.put, List.getElem_toArray, List.getElem_cons_succ, List.getElem_cons_zero, List.setIfInBounds_toArray, List.set_cons_zero, List.set_cons_succ]
        refine wpAnyH_ready (rs := [5]) (by kernel_rfl) (by simp) ?_
        refine AllReadyH.cons rfl (fun K hK => ?_) AllReadyH.nil
        rw [if_pos (by rfl)]
        simp only [List.getElem_toArray, List.getElem_cons_succ, List.getElem_cons_zero]
        go_wp2_with fail
        refine (CA.out _ bd).mono ?_
        rintro e w4 ⟨rfl, hb4⟩
        go_wp2_with fail
        refine hK.out _ _ (⟨rangeAt_later hHeld.1 hb4, keeps hb4 hHeld.2⟩) (fun hHeld => ?_)
        refine wpAnyH_take (i := 6) (v := .bool false) rfl (by kernel_rfl) (by kernel_rfl) (by kernel_rfl) (fun _ _ _ h => h) (Or.inl ⟨by rfl, ?ya6⟩) hHeld ?_
        case ya6 => intro w hSw; go_simp
        simp only [Act.put, List.getElem_toArray, List.getElem_cons_succ, List.getElem_cons_zero, List.setIfInBounds_toArray, List.set_cons_zero, List.set_cons_succ]
        refine wpAnyH_done (by kernel_rfl) ?_ _
        have B4 := Lib.hid (hbr.out.trans ((bd.trans (hb4.mono bd.size)).mono hbr.out.size))
        have R4 := Lib.hid hHeld.1
        clear hHeld hb4 bd Hcell hrg hbr
        go_wp2
        go_roundw
        case rel => exact ⟨k + 1, by omega, by go_num, h1, B4, R4⟩
        case measure => simp [RowKit.intOf]; omega
      · have h1 := Lib.hid (and_f hd.out (decide_eq_false hge))
        have hge' : arrGo ts 0 x < 0 := by omega
        clear hd
        go_wp2_with fail
        refine wp_region_held_drew (S := fun w' => w'.rangeAt w.heap.size 0 [.slice ao ts.length cap, vb] ∧ w'.cell? ⟨g, off + k, Option.none⟩ = some (.string x)) (by kernel_rfl) ⟨(World.rangeAt_drew _ _ _ _).2 hrg.out, keeps bd Hcell.out⟩ (fun hHeld => ?_)
        refine wpAnyH_take (i := 0) (v := .agg ([.slice ao ts.length cap, vb]).toArray) rfl (by kernel_rfl) (by kernel_rfl) (by kernel_rfl) (fun _ _ _ h => h) (yieldsIf_load_mid (by rfl) 27 _ rfl (w.heap.size) (0) rfl ([.slice ao ts.length cap, vb]) _ (fun w h => h.1) Tryz.underlying27 rfl sizeIP) hHeld ?_
        simp only [Act.put, List.getElem_toArray, List.getElem_cons_succ, List.getElem_cons_zero, List.setIfInBounds_toArray, List.set_cons_zero, List.set_cons_succ]
        refine wpAnyH_take (i := 1) (v := .slice (some ⟨g, off, Option.none⟩) ns.length lcap) rfl (by kernel_rfl) (by kernel_rfl) (by kernel_rfl) (fun _ _ _ h => h) (Or.inl ⟨by rfl, ?yb1⟩) hHeld ?_
        case yb1 => intro w hSw; go_simp
        simp only [Act.put, List.getElem_toArray, List.getElem_cons_succ, List.getElem_cons_zero, List.setIfInBounds_toArray, List.set_cons_zero, List.set_cons_succ]
        refine wpAnyH_take (i := 2) (v := .int .i64 (k : Int)) rfl (by kernel_rfl) (by kernel_rfl) (by kernel_rfl) (fun _ _ _ h => h) (Or.inl ⟨by rfl, ?yb2⟩) hHeld ?_
        case yb2 => intro w hSw; go_simp
        simp only [Act.put, List.getElem_toArray, List.getElem_cons_succ, List.getElem_cons_zero, List.setIfInBounds_toArray, List.set_cons_zero, List.set_cons_succ]
        refine wpAnyH_take (i := 3) (v := .pointer (some ⟨g, off + k, Option.none⟩)) rfl (by kernel_rfl) (by kernel_rfl) (by kernel_rfl) (fun _ _ _ h => h) (Or.inl ⟨by rfl, ?yb3⟩) hHeld ?_
        case yb3 => intro w hSw; go_simp
        simp only [Act.put, List.getElem_toArray, List.getElem_cons_succ, List.getElem_cons_zero, List.setIfInBounds_toArray, List.set_cons_zero, List.set_cons_succ]
        refine wpAnyH_take (i := 4) (v := .string x) rfl (by kernel_rfl) (by kernel_rfl) (by kernel_rfl) (fun _ _ _ h => h) (Or.inl ⟨by rfl, ?yb4⟩) hHeld ?_
        case yb4 => intro w hSw; have q := hSw.2; go_simp
        simp only [Act.put, List.getElem_toArray, List.getElem_cons_succ, List.getElem_cons_zero, List.setIfInBounds_toArray, List.set_cons_zero, List.set_cons_succ]
        refine wpAnyH_ready (rs := [5]) (by kernel_rfl) (by simp) ?_
        refine AllReadyH.cons rfl (fun K hK => ?_) AllReadyH.nil
        rw [if_pos (by rfl)]
        simp only [List.getElem_toArray, List.getElem_cons_succ, List.getElem_cons_zero]
        go_wp2_with fail
        refine (CA.out _ bd).mono ?_
        rintro e w4 ⟨rfl, hb4⟩
        go_wp2_with fail
        refine hK.out _ _ (⟨rangeAt_later hHeld.1 hb4, keeps hb4 hHeld.2⟩) (fun hHeld => ?_)
        refine wpAnyH_take (i := 6) (v := .bool true) rfl (by kernel_rfl) (by kernel_rfl) (by kernel_rfl) (fun _ _ _ h => h) (Or.inl ⟨by rfl, ?yb6⟩) hHeld ?_
        case yb6 => intro w hSw; go_simp
        simp only [Act.put, List.getElem_toArray, List.getElem_cons_succ, List.getElem_cons_zero, List.setIfInBounds_toArray, List.set_cons_zero, List.set_cons_succ]
        refine wpAnyH_done (by kernel_rfl) ?_ _
        have B4 := Lib.hid (hbr.out.trans ((bd.trans (hb4.mono bd.size)).mono hbr.out.size))
        have R4 := Lib.hid hHeld.1
        clear hHeld hb4 bd Hcell hrg hbr
        go_wp2
        go_ret
        exact ⟨ret_bool h1.out.symm, B4.out⟩
    · have h1 := Lib.hid (all_end hall.out (by omega))
      go_wp2
      go_ret
      exact ⟨ret_bool h1.out.symm, hbr.out⟩
end Go.Proofs.YtkhccpjkajhnpaaGreat
/-
  The contracts of laws.sameTexts, ascending, hasText at what the law of chapter 4 hands them.
-/
namespace Go.Proofs.YtkhccpjkajhnpaaGreat
open Go.RowKit Go.Lib
set_option linter.unusedSimpArgs false
set_option linter.unusedVariables false

set_option maxHeartbeats 2000000 in
theorem sameTexts_is (ns : List ByteArray) (hn : ns.length ≤ 10000000) (va vb : Value) (w : World) (ha : TV w 0 va ns) (hb : TV w 0 vb ns) :
    Calls Tryz.prog 14 #[va, vb] w fun e w' => e = .returned (.bool true) ∧ Below w.heap.size w w' := by
  have Ha := Lib.hid ha
  have Hb := Lib.hid hb
  obtain ⟨ao, ca, rfl⟩ := ha.shape
  obtain ⟨bo, cb, rfl⟩ := hb.shape
  clear ha hb
  go_enter Tryz.func14, Tryz.ntmps14
  go_wp2
  go_loopw [5] (fun i wr => ∃ k : Nat, k ≤ ns.length ∧ i = .int .i64 k ∧ Hid (Below w.heap.size w wr)) (fun i _ => ns.length - (RowKit.intOf i).toNat)
  case atStart => exact ⟨0, by omega, rfl, Below.refl _ _⟩
  case round =>
    obtain ⟨k, hk, rfl, hbw⟩ := hrel
    by_cases hlt : k < ns.length
    · have hltI : (k : Int) < (ns.length : Int) := by omega
      obtain ⟨x, hx⟩ : ∃ x, ns[k]? = some x := ⟨ns[k], List.getElem?_eq_getElem hlt⟩
      obtain ⟨g, off, c, hvv, hcell⟩ := (Ha.out.later hbw.out).cells hx
      injection hvv with e1 e2 e3
      subst e1
      obtain ⟨g', off', c', hvv', hcell'⟩ := (Hb.out.later hbw.out).cells hx
      injection hvv' with f1 f2 f3
      subst f1
      have hne : (x.toList != x.toList) = false := by simp
      clear hx e2 e3 f2 f3
      go_wp2
      go_quiet (fail)
      go_wp2
      go_roundw
      case rel => exact ⟨k + 1, by omega, by go_num, ⟨hbw.out.os, hbw.out.tape, hbw.out.output, hbw.out.size, hbw.out.block⟩⟩
      case measure => simp [RowKit.intOf]; omega
    · have hltI : ¬ (k : Int) < (ns.length : Int) := by omega
      go_wp2
      go_ret
      exact ⟨rfl, hbw.out⟩
set_option maxHeartbeats 2000000 in
theorem ascending_law (ns : List ByteArray) (hn : ns.length ≤ 10000000) (hA : Asc ns) (va : Value) (w : World) (ha : TV w 0 va ns) :
    Calls Tryz.prog 18 #[va] w fun e w' => e = .returned (.bool true) ∧ Below w.heap.size w w' := by
  have Ha := Lib.hid ha
  have HA := Lib.hid hA
  obtain ⟨ao, ca, rfl⟩ := ha.shape
  clear ha hA
  go_enter Tryz.func18, Tryz.ntmps18
  go_wp2
  go_loopw [3] (fun i wr => ∃ k : Nat, 1 ≤ k ∧ k ≤ ns.length + 1 ∧ i = .int .i64 k ∧ Hid (Below w.heap.size w wr)) (fun i _ => ns.length + 1 - (RowKit.intOf i).toNat)
  case atStart => exact ⟨1, by omega, by omega, rfl, Below.refl _ _⟩
  case round =>
    obtain ⟨k, hk1, hk, rfl, hbw⟩ := hrel
    by_cases hlt : k < ns.length
    · have hltI : (k : Int) < (ns.length : Int) := by omega
      obtain ⟨j, rfl⟩ : ∃ j, k = j + 1 := ⟨k - 1, by omega⟩
      obtain ⟨x, hx⟩ : ∃ x, ns[j]? = some x := ⟨ns[j], List.getElem?_eq_getElem (by omega)⟩
      obtain ⟨y, hy⟩ : ∃ y, ns[j + 1]? = some y := ⟨ns[j + 1], List.getElem?_eq_getElem hlt⟩
      obtain ⟨g, off, c, hvv, hcell⟩ := (Ha.out.later hbw.out).cells hx
      injection hvv with e1 e2 e3
      subst e1
      obtain ⟨g', off', c', hvv', hcell'⟩ := (Ha.out.later hbw.out).cells hy
      injection hvv' with f1 f2 f3
      injection f1 with f1
      injection f1 with f4 f5
      subst f4; subst f5
      have hls : Op.bytesLess x.toList y.toList = true := by
        have h1 := List.getElem?_eq_some_iff.1 hx
        have h2 := List.getElem?_eq_some_iff.1 hy
        have := List.pairwise_iff_getElem.1 HA.out j (j + 1) h1.1 h2.1 (by omega)
        rw [h1.2, h2.2] at this
        exact this
      have hw1 : IntKind.i64.wrap (((j + 1 : Nat) : Int) - 1) = (j : Int) := by rw [show ((j + 1 : Nat) : Int) - 1 = (j : Int) by omega]; exact wrap_small _ (by omega) (by omega)
      have hw2 : IntKind.i64.wrap ((j : Int) + 1 - 1) = (j : Int) := by rw [show (j : Int) + 1 - 1 = (j : Int) by omega]; exact wrap_small _ (by omega) (by omega)
      have hj0 : (0 : Int) ≤ (j : Int) := by omega
      have hjl : (j : Int) < (ns.length : Int) := by omega
      have hlt2 : (j : Int) + 1 < (ns.length : Int) := by omega
      have hcell2 : wr.cell? ⟨g, off + (j + 1), Option.none⟩ = some (.string y) := hcell'
      clear hx hy e2 e3 f2 f3 hcell'
      go_wp2
      go_quiet (fail)
      go_wp2
      go_roundw
      case rel => exact ⟨j + 2, by omega, by omega, by go_num, ⟨hbw.out.os, hbw.out.tape, hbw.out.output, hbw.out.size, hbw.out.block⟩⟩
      case measure => simp [RowKit.intOf]; omega
    · have hltI : ¬ (k : Int) < (ns.length : Int) := by omega
      go_wp2
      go_ret
      exact ⟨rfl, hbw.out⟩
theorem hasText_no (ns : List ByteArray) (hn : ns.length ≤ 10000000) (s : ByteArray) (hs : s ∉ ns) (va : Value) (w : World) (ha : TV w 0 va ns) :
    Calls Tryz.prog 19 #[va, .string s] w fun e w' => e = .returned (.bool false) ∧ w = w' := by
  have Ha := Lib.hid ha
  have HS := Lib.hid hs
  obtain ⟨ao, ca, rfl⟩ := ha.shape
  clear ha hs
  go_enter Tryz.func19, Tryz.ntmps19
  go_wp2
  go_loop [5] (fun i => ∃ k : Nat, k ≤ ns.length ∧ i = .int .i64 k) (fun i => ns.length - (RowKit.intOf i).toNat)
  case atStart => exact ⟨0, by omega, rfl⟩
  case round =>
    obtain ⟨k, hk, rfl⟩ := hrel
    by_cases hlt : k < ns.length
    · have hltI : (k : Int) < (ns.length : Int) := by omega
      obtain ⟨x, hx⟩ : ∃ x, ns[k]? = some x := ⟨ns[k], List.getElem?_eq_getElem hlt⟩
      obtain ⟨g, off, c, hvv, hcell⟩ := Ha.out.cells hx
      injection hvv with e1 e2 e3
      subst e1
      have he : ¬ x = s := fun e => HS.out (e ▸ List.mem_of_getElem? hx)
      have hne := str_ne he
      clear hx e2 e3
      go_wp2
      go_round
      case rel => exact ⟨k + 1, by omega, by go_num⟩
      case measure => simp [RowKit.intOf]; omega
    · have hltI : ¬ (k : Int) < (ns.length : Int) := by omega
      go_wp2
      go_ret
      exact ⟨rfl, rfl⟩
end Go.Proofs.YtkhccpjkajhnpaaGreat
