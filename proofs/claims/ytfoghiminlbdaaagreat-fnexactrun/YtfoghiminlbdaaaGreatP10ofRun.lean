/-
  Texts in one: TokPlain, TokName, AstTold, AstVisE, AstCountE.
-/
import Derived.Test.YtfoghiminlbdaaaGreatP05ofRun
import Derived.Laws.RangeAny
import Derived.Stop.FmtRuneSmall
import Derived.Test.YtfoghiminlbdaaaGreatP09ofRun
import Derived.Test.YtfoghiminlbdaaaGreatP03ofRun
import Derived.Test.YtfoghiminlbdaaaGreatP02ofRun
namespace Go.Proofs.YtfoghiminlbdaaaGreat
open Go.Lib Go.RowKit
set_option linter.unusedSimpArgs false
set_option linter.unusedVariables false
def marksL : List UInt8 := [59, 61, 91, 93, 40, 41, 123, 125, 43, 45, 42, 44]
def keptL : List (List UInt8) := [[97, 114, 114, 97, 121], [102, 111, 114], [116, 111], [112, 114, 105, 110, 116], [109, 105, 110], [109, 97, 120]]
def kind (b : UInt8) : Nat :=
  if b.toNat = 32 ∨ b.toNat = 10 then 0 else if 97 ≤ b.toNat ∧ b.toNat ≤ 122 then 1 else if 48 ≤ b.toNat ∧ b.toNat ≤ 57 then 2 else if b ∈ marksL then 3 else 4
def goes (k : Nat) : Bool := k == 1 || k == 2
structure T where
  k : Int
  s : List UInt8
  n : Int
def nameOk (l : List UInt8) : Bool := decide (1 ≤ l.length) && decide (l.length ≤ 6) && l.all (fun b => kind b == 1) && !(keptL.contains l)
def put (t : T) : Option (List T) → Option (List T)
  | some ts => some (t :: ts)
  | none => none
def text1 (t : T) : List UInt8 := if t.k = 2 then itoa t.n else t.s
def textFrom : List T → List UInt8
  | [] => []
  | t :: ts => 32 :: (text1 t ++ textFrom ts)
def text : List T → List UInt8
  | [] => []
  | t :: ts => text1 t ++ textFrom ts
theorem kind_high {b : UInt8} (h : 128 ≤ b.toNat) : kind b = 4 := by
  unfold kind
  rw [if_neg (by omega), if_neg (by omega), if_neg (by omega), if_neg]
  intro hm
  simp only [marksL, List.mem_cons, List.not_mem_nil, or_false] at hm
  rcases hm with rfl | rfl | rfl | rfl | rfl | rfl | rfl | rfl | rfl | rfl | rfl | rfl <;> revert h <;> decide
theorem kind_low {b : UInt8} (h : kind b ≠ 4) : b.toNat < 128 := by
  rcases Nat.lt_or_ge b.toNat 128 with h1 | h1
  · exact h1
  · exact absurd (kind_high h1) h
end Go.Proofs.YtfoghiminlbdaaaGreat
namespace Go.Proofs.YtfoghiminlbdaaaGreat
open Go.RowKit Go.Lib
set_option linter.unusedSimpArgs false
set_option linter.unusedVariables false
theorem ret_kind {k : IntKind} {a b : Int} (h : a = b) : Ending.returned (.int k a) = .returned (.int k b) := by rw [h]
theorem ret_bool {a b : Bool} (h : a = b) : Ending.returned (.bool a) = .returned (.bool b) := by rw [h]
def marksB : ByteArray := ⟨#[59, 61, 91, 93, 40, 41, 123, 125, 43, 45, 42, 44]⟩
theorem asc_marks : Asci marksB := by
  intro b hb
  simp only [marksB, List.mem_cons, List.not_mem_nil, or_false] at hb
  rcases hb with rfl | rfl | rfl | rfl | rfl | rfl | rfl | rfl | rfl | rfl | rfl | rfl <;> decide
theorem marks_any (b : UInt8) : (marksB.data.toList.any (· == b)) = decide (b ∈ marksL) := by
  by_cases h : b ∈ marksL
  · rw [decide_eq_true h, List.any_eq_true]; exact ⟨b, h, by simp⟩
  · rw [decide_eq_false h, List.any_eq_false]; intro x hx hxb; rw [beq_iff_eq] at hxb; subst hxb; exact h hx
theorem ContainsMark (b : UInt8) (hb : b.toNat < 128) (v : Bool) (hv : decide (b ∈ marksL) = v) (w : World) :
    Calls Tryz.prog 206 #[.string ⟨#[59, 61, 91, 93, 40, 41, 123, 125, 43, 45, 42, 44]⟩, .int .i32 (b.toNat : Int)] w fun e w' => e = .returned (.bool v) ∧ w = w' := by
  subst hv
  have e : ((b.toNat : Int)).toNat.toUInt8 = b := by simp
  refine (ContainsRune_ascii marksB (b.toNat : Int) w (by omega) (by omega)).mono ?_
  rintro x w' ⟨rfl, rfl⟩
  rw [e, marks_any]
  exact ⟨rfl, rfl⟩
set_option maxHeartbeats 1000000 in
theorem runeKind_ascii (b : UInt8) (hb : b.toNat < 128) (w : World) :
    Calls Tryz.prog 194 #[.int .i32 (b.toNat : Int)] w fun e w' => e = .returned (.int .i64 (kind b : Int)) ∧ w = w' := by
  by_cases g : b.toNat = 32 ∨ b.toNat = 10
  · have Hk : Hid (kind b = 0) := show kind b = 0 by unfold kind; rw [if_pos g]
    rcases g with g | g
    · have g' : (b.toNat : Int) = 32 := by omega
      clear g
      go_enter Tryz.func194, Tryz.ntmps194
      go_wp2
      go_ret
      exact ⟨ret_kind (by rw [Hk.out]; rfl), rfl⟩
    · have g' : (b.toNat : Int) = 10 := by omega
      clear g
      go_enter Tryz.func194, Tryz.ntmps194
      go_wp2
      go_ret
      exact ⟨ret_kind (by rw [Hk.out]; rfl), rfl⟩
  have g1 : ((b.toNat : Int) == 32) = false := by rw [beq_eq_false_iff_ne]; omega
  have g2 : ((b.toNat : Int) == 10) = false := by rw [beq_eq_false_iff_ne]; omega
  by_cases l : 97 ≤ b.toNat ∧ b.toNat ≤ 122
  · have Hk : Hid (kind b = 1) := show kind b = 1 by unfold kind; rw [if_neg g, if_pos l]
    have l1 : 97 ≤ (b.toNat : Int) := by omega
    have l2 : (b.toNat : Int) ≤ 122 := by omega
    clear g l
    go_enter Tryz.func194, Tryz.ntmps194
    go_wp2
    go_ret
    exact ⟨ret_kind (by rw [Hk.out]; rfl), rfl⟩
  by_cases d : 48 ≤ b.toNat ∧ b.toNat ≤ 57
  · have Hk : Hid (kind b = 2) := show kind b = 2 by unfold kind; rw [if_neg g, if_neg l, if_pos d]
    have d1 : 48 ≤ (b.toNat : Int) := by omega
    have d2 : (b.toNat : Int) ≤ 57 := by omega
    clear g l d
    go_enter Tryz.func194, Tryz.ntmps194
    go_wp2
    go_ret
    exact ⟨ret_kind (by rw [Hk.out]; rfl), rfl⟩
  have Hl : Hid (¬ (97 ≤ (b.toNat : Int) ∧ (b.toNat : Int) ≤ 122)) := show ¬ (97 ≤ (b.toNat : Int) ∧ (b.toNat : Int) ≤ 122) by omega
  have Hd : Hid (¬ (48 ≤ (b.toNat : Int) ∧ (b.toNat : Int) ≤ 57)) := show ¬ (48 ≤ (b.toNat : Int) ∧ (b.toNat : Int) ≤ 57) by omega
  by_cases m : b ∈ marksL
  · have Hk : Hid (kind b = 3) := show kind b = 3 by unfold kind; rw [if_neg g, if_neg l, if_neg d, if_pos m]
    have Hm : Hid (decide (b ∈ marksL) = true) := decide_eq_true m
    clear g l d m
    go_enter Tryz.func194, Tryz.ntmps194
    go_wp2_with (go_at_call 206; refine (ContainsMark b hb true Hm.out _).mono ?_; rintro e w' ⟨rfl, rfl⟩)
    all_goals first
      | exact absurd ⟨by assumption, by assumption⟩ Hl.out
      | exact absurd ⟨by assumption, by assumption⟩ Hd.out
      | (go_ret; exact ⟨ret_kind (by rw [Hk.out]; rfl), rfl⟩)
  · have Hk : Hid (kind b = 4) := show kind b = 4 by unfold kind; rw [if_neg g, if_neg l, if_neg d, if_neg m]
    have Hm : Hid (decide (b ∈ marksL) = false) := decide_eq_false m
    clear g l d m
    go_enter Tryz.func194, Tryz.ntmps194
    go_wp2_with (go_at_call 206; refine (ContainsMark b hb false Hm.out _).mono ?_; rintro e w' ⟨rfl, rfl⟩)
    all_goals first
      | exact absurd ⟨by assumption, by assumption⟩ Hl.out
      | exact absurd ⟨by assumption, by assumption⟩ Hd.out
      | (go_ret; exact ⟨ret_kind (by rw [Hk.out]; rfl), rfl⟩)
set_option maxHeartbeats 1000000 in
theorem runeKind_high (r : Int) (h0 : 128 ≤ r) (h1 : r ≤ 1114111) (w : World) :
    Calls Tryz.prog 194 #[.int .i32 r] w fun e w' => e = .returned (.int .i64 4) ∧ Below w.heap.size w w' := by
  have g1 : (r == 32) = false := by rw [beq_eq_false_iff_ne]; omega
  have g2 : (r == 10) = false := by rw [beq_eq_false_iff_ne]; omega
  go_enter Tryz.func194, Tryz.ntmps194
  go_wp2_with (go_at_call 206; refine (ContainsRune_high marksB asc_marks (by decide) r h0 h1 _).mono ?_; rintro e w' ⟨rfl, hb⟩)
  all_goals first
    | omega
    | (go_ret; exact ⟨rfl, hb⟩)
theorem runeKind_at (s : ByteArray) (pos : Nat) (h : pos < s.size) (w : World) :
    Calls Tryz.prog 194 #[.int .i32 ((Utf8.decode s pos).1 : Int)] w fun e w' => e = .returned (.int .i64 (kind (s[pos]'h) : Int)) ∧ Below w.heap.size w w' := by
  by_cases ha : (s[pos]'h).toNat < 128
  · rw [decode_ascii s pos h ha]
    refine (runeKind_ascii _ ha w).mono ?_
    rintro e w' ⟨rfl, rfl⟩
    exact ⟨rfl, Below.refl _ _⟩
  · have hd := (decode_high s pos h (by omega)).1
    have hm := decode_max s pos
    rw [kind_high (by omega)]
    exact runeKind_high _ (by omega) (by omega) w
theorem isKept_is (s : ByteArray) (b : Bool) (hb : keptL.contains s.data.toList = b) (w : World) :
    Calls Tryz.prog 170 #[.string s] w fun e w' => e = .returned (.bool b) ∧ w = w' := by
  subst hb
  have hl : s.toList = s.data.toList := ByteArray.toList_eq s
  generalize s.data.toList = l at hl
  have e : keptL.contains l = ((l == [97, 114, 114, 97, 121]) || (l == [102, 111, 114]) || (l == [116, 111]) || (l == [112, 114, 105, 110, 116]) || (l == [109, 105, 110]) || (l == [109, 97, 120])) := by
    simp only [keptL, List.contains_cons, List.contains_nil, Bool.or_false, Bool.or_assoc]
  rw [e]
  clear e
  go_enter Tryz.func170, Tryz.ntmps170
  go_wp2
  all_goals
    go_ret
    refine ⟨ret_bool ?_, rfl⟩
    simp_all
set_option maxHeartbeats 1000000 in
theorem allLetters_is (s : ByteArray) (b : Bool) (hb : s.data.toList.all (fun b => kind b == 1) = b) (w : World) :
    Calls Tryz.prog 169 #[.string s] w fun e w' => e = .returned (.bool b) ∧ Below w.heap.size w w' := by
  subst hb
  go_enter Tryz.func169, Tryz.ntmps169
  go_wp2
  go_loopw [] (fun wr => ∃ pos, pos ≤ s.size ∧ wr.heap[w.heap.size]? = some (.stringIter s pos) ∧ Below w.heap.size w wr ∧ Hid (∀ j (h : j < s.size), j < pos → kind (s[j]'h) = 1)) (fun wr => s.size - wr.iterPos w.heap.size)
  case atStart => exact ⟨0, by omega, World.iter_heap w s 0, (Below.refl _ w).alloc (Nat.le_refl _) _, fun j _ h => absurd h (by omega)⟩
  case round =>
    obtain ⟨pos, hpos, hit, hbw, hall⟩ := hrel
    by_cases hp : pos < s.size
    · have hnx : ∀ ty, (Instr.next (.pointer (some ⟨w.heap.size, 0, none⟩)) true ty).run Tryz.prog wr = _ := fun ty => Lib.run_next_any_at wr w.heap.size s pos ty hit hp
      have hit2 := Lib.iterAt_heap wr w.heap.size s pos (pos + (Utf8.decode s pos).2) hit
      have hbw2 := Lib.below_iterAt hbw (k := w.heap.size) (Nat.le_refl _) s (pos + (Utf8.decode s pos).2)
      by_cases hk : kind (s[pos]'hp) = 1
      · have ha := kind_low (b := s[pos]'hp) (by omega)
        have Hd : Hid (Utf8.decode s pos = ((s[pos]'hp).toNat, 1)) := decode_ascii s pos hp ha
        have Hk : Hid (kind (s[pos]'hp) = 1) := hk
        clear hk
        go_wp2_with fail
        refine (runeKind_at s pos hp _).mono ?_
        rintro e w1 ⟨rfl, hb1⟩
        rw [Hk.out]
        go_wp2
        have hit3 : w1.heap[w.heap.size]? = some (.stringIter s (pos + 1)) := by
          have := hb1.block w.heap.size (by rw [Lib.iterAt_size]; exact (Array.getElem?_eq_some_iff.1 hit).1)
          rw [this, hit2, Hd.out]
        go_roundw
        case rel =>
          refine ⟨pos + 1, by omega, hit3, hbw2.trans (hb1.mono (by rw [Lib.iterAt_size]; exact hbw.size)), fun j hj hlt => ?_⟩
          · rcases Nat.lt_or_ge j pos with h1 | h1
            · exact hall.out j hj h1
            · have : j = pos := by omega
              subst this; exact Hk.out
        case measure =>
          simp only [World.iterPos, hit3, hit]
          omega
      · have Hf : Hid (s.data.toList.all (fun b => kind b == 1) = false) := by
          show s.data.toList.all (fun b => kind b == 1) = false
          rw [List.all_eq_false]
          exact ⟨s[pos]'hp, Array.getElem_mem_toList (xs := s.data) hp, by simpa using hk⟩
        have Hk : Hid (((kind (s[pos]'hp) : Int) == 1) = false) := show ((kind (s[pos]'hp) : Int) == 1) = false by rw [beq_eq_false_iff_ne]; omega
        clear hk
        go_wp2_with fail
        refine (runeKind_at s pos hp _).mono ?_
        rintro e w1 ⟨rfl, hb1⟩
        have hk := Hk.out
        go_wp2
        go_ret
        exact ⟨ret_bool Hf.out.symm, hbw2.trans (hb1.mono (by rw [Lib.iterAt_size]; exact hbw.size))⟩
    · have hnx : ∀ ty, (Instr.next (.pointer (some ⟨w.heap.size, 0, none⟩)) true ty).run Tryz.prog wr = _ := fun ty => Lib.run_next_end_at wr w.heap.size s pos ty hit hp
      go_wp2
      go_ret
      refine ⟨ret_bool ?_, hbw⟩
      symm
      rw [List.all_eq_true]
      intro x hx
      obtain ⟨j, hj, rfl⟩ := List.getElem_of_mem hx
      have hj' : j < s.size := by simpa using hj
      have := hall.out j hj' (by omega)
      rw [beq_iff_eq, Array.getElem_toList]; exact this
theorem nameOk_eq (l : List UInt8) : nameOk l = (decide (1 ≤ l.length) && decide (l.length ≤ 6) && l.all (fun b => kind b == 1) && !(keptL.contains l)) := rfl
set_option maxHeartbeats 1000000 in
theorem impl_NameOk (s : ByteArray) (b : Bool) (hb : nameOk s.data.toList = b) (w : World) :
    Calls Tryz.prog 127 #[.string s] w fun e w' => e = .returned (.bool b) ∧ Below w.heap.size w w' := by
  subst hb
  have hlen : s.data.toList.length = s.size := by simp
  have hl : s.toList = s.data.toList := ByteArray.toList_eq s
  by_cases h0 : s.size = 0
  · have Hn : Hid (nameOk s.data.toList = false) := show nameOk s.data.toList = false by rw [nameOk_eq, hlen, h0]; simp
    have he : (s.toList == []) = true := by rw [hl]; have : s.data.toList = [] := List.length_eq_zero_iff.1 (by omega); rw [this]; rfl
    clear h0 hlen hl
    go_enter Tryz.func127, Tryz.ntmps127
    go_wp2
    go_ret
    exact ⟨ret_bool Hn.out.symm, Below.refl _ _⟩
  have he : (s.toList == []) = false := by
    rw [hl, beq_eq_false_iff_ne]; intro e; rw [e] at hlen; exact h0 (by simpa using hlen.symm)
  by_cases h6 : s.size ≤ 6
  · have h6' : (s.size : Int) ≤ 6 := by omega
    cases ha : s.data.toList.all (fun b => kind b == 1) with
    | false =>
      have Hn : Hid (nameOk s.data.toList = false) := show nameOk s.data.toList = false by rw [nameOk_eq, ha]; simp
      have Ha := hid ha
      clear ha h0 hlen hl
      go_enter Tryz.func127, Tryz.ntmps127
      go_wp2_with (go_at_call 169; refine (allLetters_is s false Ha.out _).mono ?_; rintro e w' ⟨rfl, hb⟩)
      go_ret
      exact ⟨ret_bool Hn.out.symm, hb⟩
    | true =>
      cases hk : keptL.contains s.data.toList with
      | false =>
        have Hn : Hid (nameOk s.data.toList = true) := show nameOk s.data.toList = true by rw [nameOk_eq, ha, hk, hlen, decide_eq_true (by omega), decide_eq_true h6]; rfl
        have Ha := hid ha
        have Hk := hid hk
        clear ha hk h0 hlen hl
        go_enter Tryz.func127, Tryz.ntmps127
        go_wp2_with (first | (go_at_call 169; refine (allLetters_is s true Ha.out _).mono ?_; rintro e w' ⟨rfl, hb⟩) | (go_at_call 170; refine (isKept_is s false Hk.out _).mono ?_; rintro e w' ⟨rfl, rfl⟩))
        go_ret
        exact ⟨ret_bool Hn.out.symm, hb⟩
      | true =>
        have Hn : Hid (nameOk s.data.toList = false) := show nameOk s.data.toList = false by rw [nameOk_eq, hk]; simp
        have Ha := hid ha
        have Hk := hid hk
        clear ha hk h0 hlen hl
        go_enter Tryz.func127, Tryz.ntmps127
        go_wp2_with (first | (go_at_call 169; refine (allLetters_is s true Ha.out _).mono ?_; rintro e w' ⟨rfl, hb⟩) | (go_at_call 170; refine (isKept_is s true Hk.out _).mono ?_; rintro e w' ⟨rfl, rfl⟩))
        go_ret
        exact ⟨ret_bool Hn.out.symm, hb⟩
  · have Hn : Hid (nameOk s.data.toList = false) := show nameOk s.data.toList = false by rw [nameOk_eq, hlen, decide_eq_false h6]; simp
    have h6' : decide ((s.size : Int) ≤ 6) = false := decide_eq_false (by omega)
    clear h6 h0 hlen hl
    go_enter Tryz.func127, Tryz.ntmps127
    go_wp2
    go_ret
    exact ⟨ret_bool Hn.out.symm, Below.refl _ _⟩
theorem In_is (x a b : Int) (v : Bool) (hv : (decide (a ≤ x) && decide (x ≤ b)) = v) (w : World) : Calls Tryz.prog 42 #[.int .i64 x, .int .i64 a, .int .i64 b] w fun e w' => e = .returned (.bool v) ∧ w = w' := by
  subst hv
  by_cases h1 : a ≤ x
  · by_cases h2 : x ≤ b
    all_goals
      go_enter Tryz.func42, Tryz.ntmps42
      go_wp2
      go_ret
      exact ⟨ret_bool (by simp [h1, h2]), rfl⟩
  · go_enter Tryz.func42, Tryz.ntmps42
    go_wp2
    go_ret
    exact ⟨ret_bool (by rw [decide_eq_false (by omega : ¬ a ≤ x)]; rfl), rfl⟩
theorem kind1_iff (b : UInt8) : kind b = 1 ↔ 97 ≤ b.toNat ∧ b.toNat ≤ 122 := by
  unfold kind
  by_cases h0 : b.toNat = 32 ∨ b.toNat = 10
  · rw [if_pos h0]; omega
  · rw [if_neg h0]
    by_cases h1 : 97 ≤ b.toNat ∧ b.toNat ≤ 122
    · rw [if_pos h1]; simp [h1]
    · rw [if_neg h1]
      constructor
      · intro h; split at h
        · omega
        · split at h <;> omega
      · intro h; exact absurd h h1
set_option maxRecDepth 100000 in
theorem l2Small_is (b : UInt8) (v : Bool) (hv : decide (kind b = 1) = v) (w : World) : Calls Tryz.prog 181 #[.int .u8 (b.toNat : Int)] w fun e w' => e = .returned (.bool v) ∧ w = w' := by
  have Hv : Hid ((decide ((97 : Int) ≤ (b.toNat : Int)) && decide ((b.toNat : Int) ≤ 122)) = v) := show (decide ((97 : Int) ≤ (b.toNat : Int)) && decide ((b.toNat : Int) ≤ 122)) = v by
    subst hv
    by_cases h : kind b = 1
    · have := (kind1_iff b).1 h
      rw [decide_eq_true h, decide_eq_true (by omega), decide_eq_true (by omega)]; rfl
    · have : ¬ (97 ≤ b.toNat ∧ b.toNat ≤ 122) := fun x => h ((kind1_iff b).2 x)
      rw [decide_eq_false h]
      rcases Nat.lt_or_ge b.toNat 97 with h1 | h1
      · rw [decide_eq_false (by omega : ¬ (97 : Int) ≤ (b.toNat : Int))]; rfl
      · rw [decide_eq_false (by omega : ¬ (b.toNat : Int) ≤ 122), Bool.and_false]
  have hc2 : (b.toNat : Int) ≤ 255 := by have := b.toNat_lt; omega
  clear hv
  go_enter Tryz.func181, Tryz.ntmps181
  go_wp2_with fail
  refine (In_is (b.toNat : Int) 97 122 v Hv.out _).mono ?_
  rintro e w' ⟨rfl, rfl⟩
  go_wp2
  go_ret
  exact ⟨rfl, rfl⟩
set_option maxHeartbeats 1000000 in
theorem l2Has_is (lb n c : Nat) (ss : List (List UInt8)) (hn : ss.length = n) (hn1 : n ≤ 1000) (s : ByteArray) (v : Bool) (hv : ss.contains s.data.toList = v) (w : World)
    (hc : ∀ j l, ss[j]? = some l → w.cell? ⟨lb, j, Option.none⟩ = some (.string ⟨l.toArray⟩)) :
    Calls Tryz.prog 148 #[.slice (some ⟨lb, 0, Option.none⟩) n c, .string s] w fun e w' => e = .returned (.bool v) ∧ w = w' := by
  have Hv := hid hv
  have Hc := hid hc
  clear hc hv
  go_enter Tryz.func148, Tryz.ntmps148
  go_wp2
  go_loop [5] (fun i => ∃ k : Nat, k ≤ n ∧ i = .int .i64 k ∧ Hid (∀ j, j < k → ss[j]? ≠ some s.data.toList)) (fun i => n - (RowKit.intOf i).toNat)
  case atStart => exact ⟨0, by omega, rfl, fun j h => absurd h (by omega)⟩
  case round =>
    obtain ⟨k, hk, rfl, hall⟩ := hrel
    by_cases hlt : k < n
    · obtain ⟨l, hl⟩ : ∃ l, ss[k]? = some l := ⟨ss[k]'(by omega), List.getElem?_eq_getElem (by omega)⟩
      have hcell := Hc.out k l hl
      have Hl := hid hl
      clear hl
      by_cases he : l = s.data.toList
      · have hE : (l == s.toList) = true := by rw [ByteArray.toList_eq, he]; simp
        subst he
        go_wp2
        go_ret
        refine ⟨ret_bool ?_, rfl⟩
        rw [← Hv.out]; symm
        rw [List.contains_iff_mem]
        exact List.mem_of_getElem? Hl.out
      · have hE : (l == s.toList) = false := by rw [ByteArray.toList_eq, beq_eq_false_iff_ne]; exact he
        have He := hid he
        clear he
        go_wp2
        go_round
        case rel =>
          refine ⟨k + 1, by omega, by go_num, fun j hj => ?_⟩
          rcases Nat.lt_or_ge j k with h1 | h1
          · exact hall.out j h1
          · have : j = k := by omega
            subst this; rw [Hl.out]; intro e; exact He.out (Option.some.inj e)
        case measure => simp [RowKit.intOf]; omega
    · go_wp2
      go_ret
      refine ⟨ret_bool ?_, rfl⟩
      rw [← Hv.out]; symm
      rw [← Bool.not_eq_true, List.contains_iff_mem]
      intro hm
      obtain ⟨j, hj, e⟩ := List.getElem_of_mem hm
      exact hall.out j (by omega) (by rw [List.getElem?_eq_getElem hj, e])
def strs (ss : List (List UInt8)) : List Value := ss.map fun l => .string ⟨l.toArray⟩
theorem strs_cells (w : World) (ss : List (List UInt8)) (t : TypeId) : ∀ j l, ss[j]? = some l → (w.alloc (.cells (strs ss).toArray t)).cell? ⟨w.heap.size, j, Option.none⟩ = some (.string ⟨l.toArray⟩) := by
  intro j l h
  have e : (w.alloc (.cells (strs ss).toArray t)).heap[w.heap.size]? = some (.cells (strs ss).toArray t (0, 0)) := by
    show (w.heap.push (Obj.cells (strs ss).toArray t (0, 0)))[w.heap.size]? = _
    simp
  simp only [World.cell?, e]
  simp [strs, h]
theorem l2Kept_is (s : ByteArray) (v : Bool) (hv : keptL.contains s.data.toList = v) (w : World) :
    Calls Tryz.prog 182 #[.string s] w fun e w' => e = .returned (.bool v) ∧ Below w.heap.size w w' := by
  have Hv := hid hv
  clear hv
  go_enter Tryz.func182, Tryz.ntmps182
  go_wp2_with fail
  refine (l2Has_is _ 6 _ keptL rfl (by decide) s v Hv.out _ (strs_cells w keptL _)).mono ?_
  rintro e w' ⟨rfl, rfl⟩
  go_wp2
  go_ret
  exact ⟨rfl, (Below.refl _ w).alloc (Nat.le_refl _) _⟩
set_option maxHeartbeats 1000000 in
theorem spec_NameOk (s : ByteArray) (v : Bool) (hv : nameOk s.data.toList = v) (hlim : s.size ≤ 281474976710656) (w : World) :
    Calls Tryz.prog 143 #[.string s] w fun e w' => e = .returned (.bool v) ∧ Below w.heap.size w w' := by
  have hlen : s.data.toList.length = s.size := by simp
  have Hv := hid hv
  clear hv
  go_enter Tryz.func143, Tryz.ntmps143
  go_wp2
  go_loop [3] (fun i => ∃ k : Nat, k ≤ s.size ∧ i = .int .i64 k ∧ Hid (∀ j (h : j < s.size), j < k → kind (s[j]'h) = 1)) (fun i => s.size - (RowKit.intOf i).toNat)
  case atStart => exact ⟨0, by omega, rfl, fun j _ h => absurd h (by omega)⟩
  case round =>
    obtain ⟨k, hk, rfl, hall⟩ := hrel
    by_cases hlt : k < s.size
    · by_cases hd : kind (s[k]'hlt) = 1
      · have Hd : Hid (decide (kind (s[k]'hlt) = 1) = true) := decide_eq_true hd
        have Hd1 := hid hd
        clear hd
        go_wp2_with (go_at_call 181; refine (l2Small_is (s[k]'hlt) true Hd.out _).mono ?_; rintro e w' ⟨rfl, rfl⟩)
        go_round
        case rel =>
          refine ⟨k + 1, by omega, by go_num, fun j hj hjk => ?_⟩
          rcases Nat.lt_or_ge j k with h1 | h1
          · exact hall.out j hj h1
          · have : j = k := by omega
            subst this; exact Hd1.out
        case measure => simp [RowKit.intOf]; omega
      · have Hd : Hid (decide (kind (s[k]'hlt) = 1) = false) := decide_eq_false hd
        have Hn : Hid (v = false) := show v = false by
          rw [← Hv.out, nameOk_eq]
          have : s.data.toList.all (fun b => kind b == 1) = false := by
            rw [List.all_eq_false]; exact ⟨s[k]'hlt, Array.getElem_mem_toList (xs := s.data) hlt, by simpa using hd⟩
          rw [this]; simp
        clear hd
        go_wp2_with (go_at_call 181; refine (l2Small_is (s[k]'hlt) false Hd.out _).mono ?_; rintro e w' ⟨rfl, rfl⟩)
        go_ret
        exact ⟨ret_bool Hn.out.symm, Below.refl _ _⟩
    · have Ha : Hid (s.data.toList.all (fun b => kind b == 1) = true) := show s.data.toList.all (fun b => kind b == 1) = true by
        rw [List.all_eq_true]
        intro x hx
        obtain ⟨j, hj, rfl⟩ := List.getElem_of_mem hx
        have hj' : j < s.size := by simpa using hj
        rw [beq_iff_eq, Array.getElem_toList]; exact hall.out j hj' (by omega)
      by_cases hn : 1 ≤ s.size ∧ s.size ≤ 6
      · have Hi : Hid ((decide ((1 : Int) ≤ (s.size : Int)) && decide ((s.size : Int) ≤ 6)) = true) := show (decide ((1 : Int) ≤ (s.size : Int)) && decide ((s.size : Int) ≤ 6)) = true by simp; omega
        cases hq : keptL.contains s.data.toList with
        | false =>
          have Hn : Hid (v = true) := show v = true by rw [← Hv.out, nameOk_eq, Ha.out, hq, hlen, decide_eq_true hn.1, decide_eq_true hn.2]; rfl
          have Hq := hid hq
          clear hq hn hlen
          go_wp2_with (first | (go_at_call 42; refine (In_is _ _ _ true Hi.out _).mono ?_; rintro e w' ⟨rfl, rfl⟩) | (go_at_call 182; refine (l2Kept_is s false Hq.out _).mono ?_; rintro e w' ⟨rfl, hb⟩))
          go_ret
          exact ⟨ret_bool Hn.out.symm, hb⟩
        | true =>
          have Hn : Hid (v = false) := show v = false by rw [← Hv.out, nameOk_eq, hq]; simp
          have Hq := hid hq
          clear hq hn hlen
          go_wp2_with (first | (go_at_call 42; refine (In_is _ _ _ true Hi.out _).mono ?_; rintro e w' ⟨rfl, rfl⟩) | (go_at_call 182; refine (l2Kept_is s true Hq.out _).mono ?_; rintro e w' ⟨rfl, hb⟩))
          go_ret
          exact ⟨ret_bool Hn.out.symm, hb⟩
      · have Hi : Hid ((decide ((1 : Int) ≤ (s.size : Int)) && decide ((s.size : Int) ≤ 6)) = false) := show (decide ((1 : Int) ≤ (s.size : Int)) && decide ((s.size : Int) ≤ 6)) = false by simp; omega
        have Hn : Hid (v = false) := show v = false by
          rw [← Hv.out, nameOk_eq, hlen]
          rcases Nat.lt_or_ge s.size 1 with h1 | h1
          · rw [decide_eq_false (by omega : ¬ 1 ≤ s.size)]; simp
          · rw [decide_eq_false (by omega : ¬ s.size ≤ 6)]; simp
        clear hn hlen
        go_wp2_with (go_at_call 42; refine (In_is _ _ _ false Hi.out _).mono ?_; rintro e w' ⟨rfl, rfl⟩)
        go_ret
        exact ⟨ret_bool Hn.out.symm, Below.refl _ _⟩
def here (h : EH) (n : Nat) : Bool :=
  match fnum h n with
  | 1 => decide (0 ≤ h.n) && decide (h.n ≤ 999999)
  | 2 => nameOk h.s.data.toList
  | 3 => nameOk h.s.data.toList
  | 4 => true
  | _ => false
def toldF : Nat → EF → Bool
  | _, .nil => true
  | d, .node _ _ h l r => decide (1 ≤ d) && (here h (elen l) && (toldF (d - 1) l && toldF d r))
def toldX (d : Nat) (x : X) : Bool := decide (1 ≤ d) && (here x.h (elen x.l) && toldF (d - 1) x.l)
theorem toldX_zero (x : X) : toldX 0 x = false := rfl
theorem toldX_num {d : Nat} {x : X} (h : fnum x.h (elen x.l) = 1) : toldX (d + 1) x = (decide (0 ≤ x.h.n) && decide (x.h.n ≤ 999999)) := by
  have hl : elen x.l = 0 := by
    unfold fnum at h
    split at h
    · rename_i e; exact e.2.2
    · split at h
      · cases h
      · split at h
        · cases h
        · split at h <;> cases h
  have hn : x.l = .nil := by
    cases hx : x.l with
    | nil => rfl
    | node _ _ _ _ _ => rw [hx] at hl; simp [elen] at hl
  simp only [toldX, here, h]
  rw [hn]; simp [toldF]
theorem toldX_var {d : Nat} {x : X} (h : fnum x.h (elen x.l) = 2) : toldX (d + 1) x = nameOk x.h.s.data.toList := by
  have hl : elen x.l = 0 := by
    unfold fnum at h
    split at h
    · cases h
    · split at h
      · rename_i e; exact e.2.2
      · split at h
        · cases h
        · split at h <;> cases h
  have hn : x.l = .nil := by
    cases hx : x.l with
    | nil => rfl
    | node _ _ _ _ _ => rw [hx] at hl; simp [elen] at hl
  simp only [toldX, here, h]
  rw [hn]; simp [toldF]
theorem toldX_at {d p q : Nat} {x y : X} (h : fnum x.h (elen x.l) = 3) (e : x.l = .node p q y.h y.l .nil) : toldX (d + 1) x = (nameOk x.h.s.data.toList && toldX d y) := by
  have hh : here x.h (elen x.l) = nameOk x.h.s.data.toList := by simp [here, h]
  unfold toldX
  rw [hh, e]; simp [toldF]
theorem toldX_pair {d p q p' q' : Nat} {x y z : X} (h : fnum x.h (elen x.l) = 4) (e : x.l = .node p q y.h y.l (.node p' q' z.h z.l .nil)) : toldX (d + 1) x = (toldX d y && toldX d z) := by
  have hh : here x.h (elen x.l) = true := by simp [here, h]
  unfold toldX
  rw [hh, e]; simp [toldF, Bool.and_assoc]
theorem toldX_none {d : Nat} {x : X} (h : fnum x.h (elen x.l) = 0) : toldX (d + 1) x = false := by simp [toldX, here, h]
theorem as_nn (v : Value) (w : World) : (Instr.typeAssert (.iface 142 v) 139 142 true).run Tryz.prog w = .ok (.tuple #[v, .bool true]) w := by kernel_rfl
theorem as_vn (v : Value) (w : World) : (Instr.typeAssert (.iface 144 v) 139 142 true).run Tryz.prog w = .ok (.tuple #[.agg #[.int .i64 0], .bool false]) w := by kernel_rfl
theorem as_vv (v : Value) (w : World) : (Instr.typeAssert (.iface 144 v) 139 144 true).run Tryz.prog w = .ok (.tuple #[v, .bool true]) w := by kernel_rfl
theorem as_an (v : Value) (w : World) : (Instr.typeAssert (.iface 146 v) 139 142 true).run Tryz.prog w = .ok (.tuple #[.agg #[.int .i64 0], .bool false]) w := by kernel_rfl
theorem as_av (v : Value) (w : World) : (Instr.typeAssert (.iface 146 v) 139 144 true).run Tryz.prog w = .ok (.tuple #[.agg #[.string ⟨#[]⟩], .bool false]) w := by kernel_rfl
theorem as_aa (v : Value) (w : World) : (Instr.typeAssert (.iface 146 v) 139 146 true).run Tryz.prog w = .ok (.tuple #[v, .bool true]) w := by kernel_rfl
theorem as_pn (v : Value) (w : World) : (Instr.typeAssert (.iface 149 v) 139 142 true).run Tryz.prog w = .ok (.tuple #[.agg #[.int .i64 0], .bool false]) w := by kernel_rfl
theorem as_pv (v : Value) (w : World) : (Instr.typeAssert (.iface 149 v) 139 144 true).run Tryz.prog w = .ok (.tuple #[.agg #[.string ⟨#[]⟩], .bool false]) w := by kernel_rfl
theorem as_pa (v : Value) (w : World) : (Instr.typeAssert (.iface 149 v) 139 146 true).run Tryz.prog w = .ok (.tuple #[.agg #[.string ⟨#[]⟩, .int .i64 0, .int .i64 0, .string ⟨#[]⟩, .slice Option.none 0 0], .bool false]) w := by kernel_rfl
theorem as_pp (v : Value) (w : World) : (Instr.typeAssert (.iface 149 v) 139 149 true).run Tryz.prog w = .ok (.tuple #[v, .bool true]) w := by kernel_rfl
theorem as_0n (w : World) : (Instr.typeAssert .nilIface 139 142 true).run Tryz.prog w = .ok (.tuple #[.agg #[.int .i64 0], .bool false]) w := by kernel_rfl
theorem as_0v (w : World) : (Instr.typeAssert .nilIface 139 144 true).run Tryz.prog w = .ok (.tuple #[.agg #[.string ⟨#[]⟩], .bool false]) w := by kernel_rfl
theorem as_0a (w : World) : (Instr.typeAssert .nilIface 139 146 true).run Tryz.prog w = .ok (.tuple #[.agg #[.string ⟨#[]⟩, .int .i64 0, .int .i64 0, .string ⟨#[]⟩, .slice Option.none 0 0], .bool false]) w := by kernel_rfl
theorem as_0p (w : World) : (Instr.typeAssert .nilIface 139 149 true).run Tryz.prog w = .ok (.tuple #[.agg #[.int .i64 0, .int .i64 0, .string ⟨#[]⟩, .slice Option.none 0 0, .int .i64 0, .int .i64 0, .string ⟨#[]⟩, .slice Option.none 0 0], .bool false]) w := by kernel_rfl
theorem expAsTold_zero (x : X) (w : World) (v : Value) : Calls Tryz.prog 99 #[.agg #[.int .i64 x.h.k, .int .i64 x.h.n, .string x.h.s, v], .int .i64 0] w fun e w' => e = .returned (.bool false) ∧ Below w.heap.size w w' := by
  go_enter Tryz.func99, Tryz.ntmps99
  go_wp2
  go_ret
  exact ⟨rfl, alloc_below _ _⟩
set_option maxHeartbeats 2000000 in
set_option maxRecDepth 100000 in
theorem expAsTold_step (d : Nat) (hd : d ≤ 100) (ih : ∀ (x : X) (w : World) (v : Value), EV w 0 x.l v → Calls Tryz.prog 99 #[.agg #[.int .i64 x.h.k, .int .i64 x.h.n, .string x.h.s, v], .int .i64 (d : Int)] w fun e w' => e = .returned (.bool (toldX d x)) ∧ Below w.heap.size w w')
    (x : X) (w : World) (v : Value) (hv : EV w 0 x.l v) : Calls Tryz.prog 99 #[.agg #[.int .i64 x.h.k, .int .i64 x.h.n, .string x.h.s, v], .int .i64 ((d : Int) + 1)] w fun e w' => e = .returned (.bool (toldX (d + 1) x)) ∧ Below w.heap.size w w' := by
  have h0 : (((d : Int) + 1) == 0) = false := int_ne (by omega)
  have hdI : (d : Int) ≤ 100 := by omega
  have Hih := hid ih
  have Hv := hid hv
  have hb0 : Below w.heap.size w (w.alloc (.cells #[.int .i64 x.h.k, .int .i64 x.h.n, .string x.h.s, v] 43)) := alloc_below _ _
  have Hq : Hid (∀ w, EV w 0 x.l v → Calls Tryz.prog 102 #[.agg #[.int .i64 x.h.k, .int .i64 x.h.n, .string x.h.s, v]] w fun e w' => ∃ fv, e = .returned fv ∧ FormIs w x fv ∧ Below w.heap.size w w') := fun w hv => formOf_is x w v hv
  clear ih hv
  go_enter Tryz.func99, Tryz.ntmps99
  go_wp2_with fail
  refine (Hq.out _ (Hv.out.later hb0)).mono ?_
  rintro e w1 ⟨fv, rfl, hform, hb1⟩
  have B1 := hb0.trans (hb1.mono hb0.size)
  have Hb1 := hid hb1
  clear hb0 hb1 Hq
  rcases hform with ⟨hf, rfl⟩ | ⟨hf, rfl⟩ | ⟨hf, p, q, y, u, hl, hu, rfl⟩ | ⟨hf, p, q, p', q', y, z, u, u', hl, hu, hu', rfl⟩ | ⟨hf, rfl⟩
  · have ht := hid (toldX_num (d := d) hf)
    have q1 := as_nn
    clear hf
    by_cases h1 : 0 ≤ x.h.n
    · by_cases h2 : x.h.n ≤ 999999
      · go_wp2
        go_ret
        exact retB (by rw [ht.out, decide_eq_true h1, decide_eq_true h2]; rfl) (B1.alloc B1.size _)
      · have h2' : ¬ x.h.n ≤ 999999 := h2
        go_wp2
        go_ret
        exact retB (by rw [ht.out, decide_eq_true h1]; simp) (B1.alloc B1.size _)
    · have h1' : ¬ 0 ≤ x.h.n := h1
      go_wp2
      go_ret
      exact retB (by rw [ht.out, decide_eq_false (by omega)]; rfl) (B1.alloc B1.size _)
  · have ht := hid (toldX_var (d := d) hf)
    have q1 := as_vn
    have q2 := as_vv
    obtain ⟨nb, hnb⟩ : ∃ b, nameOk x.h.s.data.toList = b := ⟨_, rfl⟩
    have Hnb := hid hnb
    clear hf hnb
    go_wp2_with fail
    refine (impl_NameOk x.h.s nb Hnb.out _).mono ?_
    rintro e w2 ⟨rfl, hb2⟩
    have B2 := B1.trans ((below_alloc hb2).mono B1.size)
    clear hb2
    go_wp2
    go_ret
    exact retB (by rw [ht.out, Hnb.out]) B2
  · have ht := hid (toldX_at (d := d) hf hl)
    have q1 := as_an
    have q2 := as_av
    have q3 := as_aa
    obtain ⟨nb, hnb⟩ : ∃ b, nameOk x.h.s.data.toList = b := ⟨_, rfl⟩
    have Hnb := hid hnb
    have HU := hid hu
    obtain ⟨ua, uc, rfl⟩ := hu.shape
    obtain ⟨tv, htv⟩ : ∃ t, toldX d y = t := ⟨_, rfl⟩
    have Htv := hid htv
    clear hf hnb hu hl htv
    go_wp2_with fail
    refine (impl_NameOk x.h.s nb Hnb.out _).mono ?_
    rintro e w2 ⟨rfl, hb2⟩
    have B2 := B1.trans ((below_alloc hb2).mono B1.size)
    cases nb with
    | false =>
      clear hb2
      go_wp2
      go_ret
      exact retB (by rw [ht.out, Hnb.out]; rfl) B2
    | true =>
      have c1 := box_cell (i := 1) hb2 rfl
      have c2 := box_cell (i := 2) hb2 rfl
      have c3 := box_cell (i := 3) hb2 rfl
      have c4 := box_cell (i := 4) hb2 rfl
      have V2 := hid (HU.out.later (Hb1.out.trans ((below_alloc hb2).mono Hb1.out.size)))
      clear hb2
      go_wp2_with fail
      refine (Hih.out y _ _ V2.out).mono ?_
      rintro e w3 ⟨rfl, hb3⟩
      rw [Htv.out]
      have B3 := B2.trans (hb3.mono B2.size)
      clear hb3 c1 c2 c3 c4
      go_wp2
      go_ret
      exact retB (by rw [ht.out, Hnb.out, Htv.out]; rfl) B3
  · have ht := hid (toldX_pair (d := d) hf hl)
    have q1 := as_pn
    have q2 := as_pv
    have q3 := as_pa
    have q4 := as_pp
    have HU := hid (And.intro hu hu')
    obtain ⟨ua, uc, rfl⟩ := hu.shape
    obtain ⟨ua', uc', rfl⟩ := hu'.shape
    obtain ⟨tv, htv⟩ : ∃ t, toldX d y = t := ⟨_, rfl⟩
    obtain ⟨tz, htz⟩ : ∃ t, toldX d z = t := ⟨_, rfl⟩
    have Htv := hid (And.intro htv htz)
    clear hf hu hu' hl htv htz
    go_wp2_with fail
    have V1 := HU.out.1.later (Hb1.out.alloc Hb1.out.size (.cells #[.int .i64 y.h.k, .int .i64 y.h.n, .string y.h.s, .slice ua (elen y.l) uc, .int .i64 z.h.k, .int .i64 z.h.n, .string z.h.s, .slice ua' (elen z.l) uc'] 149))
    refine (Hih.out y _ _ V1).mono ?_
    rintro e w2 ⟨rfl, hb2⟩
    rw [Htv.out.1]
    have B2 := B1.trans ((below_alloc hb2).mono B1.size)
    cases tv with
    | false =>
      clear hb2 V1
      go_wp2
      go_ret
      exact retB (by rw [ht.out, Htv.out.1]; rfl) B2
    | true =>
      have c1 := box_cell (i := 4) hb2 rfl
      have c2 := box_cell (i := 5) hb2 rfl
      have c3 := box_cell (i := 6) hb2 rfl
      have c4 := box_cell (i := 7) hb2 rfl
      have V2 := hid (HU.out.2.later (Hb1.out.trans ((below_alloc hb2).mono Hb1.out.size)))
      clear hb2 V1
      go_wp2_with fail
      refine (Hih.out z _ _ V2.out).mono ?_
      rintro e w3 ⟨rfl, hb3⟩
      rw [Htv.out.2]
      have B3 := B2.trans (hb3.mono B2.size)
      clear hb3 c1 c2 c3 c4
      go_wp2
      go_ret
      exact retB (by rw [ht.out, Htv.out.1, Htv.out.2]; rfl) B3
  · have ht := hid (toldX_none (d := d) hf)
    have q1 := as_0n
    have q2 := as_0v
    have q3 := as_0a
    have q4 := as_0p
    clear hf
    go_wp2
    go_ret
    exact retB ht.out B1
theorem expAsTold_all : ∀ (d : Nat), d ≤ 100 → ∀ (x : X) (w : World) (v : Value), EV w 0 x.l v → Calls Tryz.prog 99 #[.agg #[.int .i64 x.h.k, .int .i64 x.h.n, .string x.h.s, v], .int .i64 (d : Int)] w fun e w' => e = .returned (.bool (toldX d x)) ∧ Below w.heap.size w w'
  | 0, _, x, w, v, _ => expAsTold_zero x w v
  | d + 1, h, x, w, v, hv => expAsTold_step d (by omega) (fun x w v hv => expAsTold_all d (by omega) x w v hv) x w v hv
abbrev TdC := List (EF × Value)
theorem infoEE : (Tryz.prog.info? 41).map (fun i => (i.zero, i.size, i.bytes)) = some (some (.slice Option.none 0 0), 1, 24) := by kernel_rfl
abbrev EN := EH × EF
def enall : EF → List EN
  | .nil => []
  | .node _ _ h l r => (h, l) :: (enall l ++ enall r)
theorem enall_len : ∀ F : EF, (enall F).length = enodes F
  | .nil => rfl
  | .node _ _ h l r => by have := enall_len l; have := enall_len r; simp only [enall, enodes, List.length_cons, List.length_append]; omega
def ctall : TdC → List EN
  | [] => []
  | p :: r => enall p.1 ++ ctall r
theorem ctall_app (a b : TdC) : ctall (a ++ b) = ctall a ++ ctall b := by
  induction a with
  | nil => rfl
  | cons p a ih => simp only [List.cons_append, ctall, ih, List.append_assoc]
structure VisE (w : World) (F : EF) (td : TdC) (vs : List EN) (m : Nat) : Prop where
  all : ∀ p ∈ td, EV w 0 p.1 p.2
  perm : (vs ++ ctall td).Perm (enall F)
  len : td.length + (ctall td).length = m
  big : m ≤ enodes F + 1
structure VisRE (w : World) (F : EF) (td : TdC) (vs : List EN) (m : Nat) (R G : EF) (k b o : Nat) : Prop where
  all : ∀ p ∈ td, EV w 0 p.1 p.2
  perm : (vs ++ (ctall td ++ enall R)).Perm (enall F)
  len : td.length + (ctall td).length + (enall R).length + 1 = m
  big : m ≤ enodes F + 1
  at_ : EIn w 0 R b (o + k * 4)
  num : k + elen R = elen G
theorem VisE.pop {w : World} {F : EF} {td : TdC} {vs : List EN} {m : Nat} {p : EF × Value} {b o : Nat} (h : VisE w F (td ++ [p]) vs m) (hin : EIn w 0 p.1 b o) : VisRE w F td vs m p.1 p.1 0 b o := by
  have h1 := h.perm; have h2 := h.len; have h3 := h.big
  rw [ctall_app] at h1 h2
  simp only [ctall, List.length_append, List.length_cons, List.length_nil, List.append_nil] at h1 h2
  exact ⟨fun q hq => h.all q (List.mem_append_left _ hq), h1, by omega, h3, by simpa using hin, by omega⟩
theorem VisRE.push {w : World} {F : EF} {td : TdC} {vs : List EN} {m p q : Nat} {hd : EH} {l r G : EF} {k b o : Nat} {u : Value} (h : VisRE w F td vs m (.node p q hd l r) G k b o) (hu : EV w 0 l u) : VisRE w F (td ++ [(l, u)]) (vs ++ [(hd, l)]) m r G (k + 1) b o := by
  have h1 := h.perm; have h2 := h.len; have h4 := h.num
  simp only [enall, elen, List.length_cons, List.length_append] at h1 h2 h4
  refine ⟨fun q hq => ?_, ?_, ?_, h.big, ?_, by omega⟩
  · rcases List.mem_append.1 hq with hq | hq
    · exact h.all q hq
    · simp only [List.mem_cons, List.not_mem_nil, or_false] at hq; subst hq; exact hu
  · refine List.Perm.trans ?_ h1
    rw [ctall_app]
    simp only [ctall, List.append_nil, List.append_assoc, List.singleton_append, List.cons_append, List.nil_append]
    exact (List.perm_middle.symm).append_left vs
  · rw [ctall_app]; simp only [ctall, List.length_append, List.length_cons, List.length_nil]; omega
  · rw [show o + (k + 1) * 4 = o + k * 4 + 4 by omega]; exact (EIn_node.1 h.at_).2
theorem VisRE.done {w : World} {F : EF} {td : TdC} {vs : List EN} {m : Nat} {G : EF} {k b o : Nat} (h : VisRE w F td vs m .nil G k b o) : VisE w F td vs (m - 1) := by
  have h1 := h.perm; have h2 := h.len; have h3 := h.big
  simp only [enall, List.length_nil, List.append_nil] at h1 h2
  exact ⟨h.all, h1, by omega, by omega⟩
theorem VisRE.mem {w : World} {F : EF} {td : TdC} {vs : List EN} {m p q : Nat} {hd : EH} {l r G : EF} {k b o : Nat} (h : VisRE w F td vs m (.node p q hd l r) G k b o) : (hd, l) ∈ enall F ∧ vs.length < enodes F := by
  have h1 := h.perm
  refine ⟨h1.subset (by simp [enall]), ?_⟩
  have := h1.length_eq
  rw [enall_len] at this
  simp only [enall, List.length_append, List.length_cons] at this
  omega
theorem snocH {w w5 w6 : World} {lo hi : Nat} {td : TdC} {t v' u : Value} {l : EF} {o : Obj} (hown : w5.ownsRow w.heap.size 41 1 t td.length (td.map (·.2))) (hb : Gap lo hi w w5) (hg : (w5.alloc o).grownBy w6 t.ownBlock)
    (h : w6.ownsRow w.heap.size 41 1 v' (td.length + 1) (td.map (·.2) ++ [u])) : w6.ownsRow w.heap.size 41 1 v' (td ++ [(l, u)]).length ((td ++ [(l, u)]).map (·.2)) ∧ Gap lo hi w w6 ∧ w5.heap.size ≤ w6.heap.size ∧ ∀ k, k < w.heap.size → w6.heap[k]? = w5.heap[k]? := by
  have hbl : Below w.heap.size w5 w6 := ((Below.refl w.heap.size w5).alloc hb.size o).grown hg (by have := hb.size; simp; omega) (fun k hk => (hown.lt k hk).1)
  refine ⟨by rw [List.length_append, List.map_append]; exact h, ?_, hbl.size, hbl.block⟩
  exact ⟨hbl.os.trans hb.os, hbl.tape.trans hb.tape, hbl.output.trans hb.output, Nat.le_trans hb.size hbl.size, fun k hk hc => (hbl.block k hk).trans (hb.block k hk hc)⟩
def DoesE (w0 : World) (n lo hi : Nat) (F : EF) (kf : Nat) (caps : Array Value) (J : List EN → World → Prop) : Prop :=
  ∀ (vs : List EN) (h : EH) (l : EF) (u : Value) (w1 : World), J vs w1 → Below w0.heap.size w0 w1 → n ≤ w1.heap.size → EV w0 0 l u → (h, l) ∈ enall F → vs.length < enodes F →
    Calls Tryz.prog kf (#[.agg (xcells ⟨h, l⟩ u).toArray] ++ caps) w1 fun e w2 => e = .returned (.tuple #[]) ∧ J (vs ++ [(h, l)]) w2 ∧ Gap lo hi w1 w2
set_option maxHeartbeats 4000000 in
set_option maxRecDepth 100000 in
theorem visitAllE_is (F : EF) (hF : enodes F ≤ 10000000) (w0 w : World) (hb0 : Below w0.heap.size w0 w) (lo hi : Nat) (hlo : w0.heap.size ≤ lo) (hhi : hi ≤ w.heap.size) (v : Value) (hv : EV w0 0 F v) (kf : Nat) (hent : ∀ (args : Array Value) (w : World), (callFunc kf args).run Tryz.prog w = .ok (.enter kf args) w) (caps : Array Value) (J : List EN → World → Prop) (hq : Quiet lo hi J) (hJ : J [] w) (hdo : DoesE w0 w.heap.size lo hi F kf caps J) :
    Calls Tryz.prog 151 #[v, .func (.func 101) #[] #[], .func (.func kf) #[] caps] w fun e w' => e = .returned (.tuple #[]) ∧ (∃ vs, J vs w' ∧ vs.Perm (enall F)) ∧ Gap lo hi w w' := by
  obtain ⟨i0, hi0, hz0, hz1, hz2⟩ := info_parts infoEE
  have C0 : Hid (VisE w0 F [(F, v)] [] (enodes F + 1)) := ⟨fun p hp => by simp only [List.mem_cons, List.not_mem_nil, or_false] at hp; subst hp; exact hv, by simp [ctall], by simp [ctall, enall_len]; omega, Nat.le_refl _⟩
  have Hdo := hid hdo
  have Hq := hid hq
  have HJ := hid hJ
  have Hb0 := hid hb0
  have hsz0 := hb0.size
  obtain ⟨a0, c0, rfl⟩ := hv.shape
  clear hv hdo hq hJ hb0
  go_enter Tryz.func151, Tryz.ntmps151
  go_wp2
  go_loopg [6] (enodes F + 1) (fun m t wr => ∃ (td : TdC) (vs : List EN), Hid (VisE w0 F td vs m) ∧ wr.ownsRow w.heap.size 41 1 t td.length (td.map (·.2)) ∧ Hid (J vs wr) ∧ Gap lo hi w wr)
  case atStart => exact ⟨[(F, .slice a0 (elen F) c0)], [], C0.out, ⟨rfl, .inr ⟨w.heap.size, 1, #[.slice a0 (elen F) c0], rfl, Nat.le_refl _, (by show (w.heap.push _)[w.heap.size]? = _; simp), Nat.le_refl _, (by unfold maxLen; omega), rfl, rfl⟩⟩, Hq.out.below HJ.out hhi (alloc_below _ _), Gap.of _ _ (alloc_below _ _)⟩
  case round =>
    obtain ⟨td, vs, hC, hown, hJv, hbw⟩ := hrel
    clear C0
    rcases List.eq_nil_or_concat td with rfl | ⟨ti, p, htd⟩
    · obtain ⟨a, cap, rfl⟩ := own_none hown
      have hs := hC.out.perm
      simp only [ctall, List.append_nil] at hs
      have Hs := hid hs
      clear hs
      go_wp2
      go_end0
      exact ⟨rfl, ⟨vs, hJv.out, Hs.out⟩, hbw⟩
    · rw [List.concat_eq_append] at htd
      subst htd
      rw [List.length_append, List.map_append] at hown
      obtain ⟨g, cap, rfl, hc1, hc2, hBg, hg⟩ := own_some hown
      have hcell := own_cell hown (j := ti.length) (u := p.2) (by rw [List.getElem?_append_right (by simp)]; simp)
      have hpop := own_pop hown (by simp)
      obtain ⟨b, o, pa, pc, hpv, hpa, _, hpin⟩ := hC.out.all p (by simp)
      have hR := hC.out.pop hpin
      rw [hpv] at hcell
      have hnp : elen p.1 ≤ 10000000 := by have := hR.len; have := hR.big; have := elen_le p.1; rw [enall_len] at *; omega
      have hlen : ti.length ≤ 10000001 := by have := hR.len; have := hR.big; omega
      have HR := hid hR
      have hcapI : (ti.length : Int) + 1 ≤ (cap : Int) := by omega
      have hlenI : (ti.length : Int) ≤ 10000001 := by omega
      have hmx : (cap : Int) ≤ 9223372036854775807 := by unfold maxLen at hc2; omega
      clear hC hown hpin hR hc1 hlen hc2
      go_wp2
      go_loopw [6, 28] (fun t i wr2 => ∃ (td : TdC) (vs : List EN) (R : EF) (k : Nat), i = .int .i64 (k : Int) ∧ Hid (VisRE w0 F td vs gk R p.1 k b o) ∧ wr2.ownsRow w.heap.size 41 1 t td.length (td.map (·.2)) ∧ Hid (J vs wr2) ∧ Gap lo hi w wr2) (fun _ i _ => elen p.1 - (RowKit.intOf i).toNat)
      case atStart => exact ⟨ti, vs, p.1, 0, rfl, HR.out, hpop, hJv.out, hbw⟩
      case round =>
        obtain ⟨td, vs, R, k, rfl, hR, hown, hJv2, hbr⟩ := hrel
        clear hcell hpop HR hbw hJv
        cases R with
        | nil =>
          have hk : ¬ (k : Int) < (elen p.1 : Int) := by have := hR.out.num; simp only [elen] at this; omega
          go_wp2
          go_roundg (gk - 1)
          case measure => have := hR.out.len; omega
          case rel => exact ⟨td, vs, hR.out.done, hown, hJv2, hbr⟩
        | node p' q' h l r =>
          have hlt : (k : Int) < (elen p.1 : Int) := by have := hR.out.num; simp only [elen] at this; omega
          have hne : ¬ p.1 = .nil := by intro e; have := hR.out.num; rw [e] at this; simp only [elen] at this; omega
          obtain rfl : pa = some ⟨b, o, Option.none⟩ := hpa.resolve_right hne
          have hbz : Below w0.heap.size w0 wr := Hb0.out.trans (hbr.below hlo hsz0)
          obtain ⟨⟨a0, a1, a2, u, a3, hul⟩, _⟩ := EIn_node.1 hR.out.at_
          have hrg := x_range (x := ⟨h, l⟩) a0 a1 a2 a3
          have Hrg := hid (rangeAt_later hrg hbz)
          have Hbz := hid hbz
          have hR2 := hid (hR.out.push hul)
          have hM := hid hR.out.mem
          have HL := hid hul
          have o5 := hul.isOne
          obtain ⟨ua, uc, rfl⟩ := hul.shape
          have hn1 : td.length ≤ 10000001 := by have := hR.out.len; have := hR.out.big; omega
          have Hn1 := hid hn1
          have hsz := hbr.size
          clear hrg hul hR hne hn1 hpa hbz a0 a1 a2 a3
          go_wp2_with (first | (refine wpList_load_mid rfl 43 _ rfl b (o + k * 4) rfl _ _ Hrg.out Tryz.underlying43 rfl sizeIE2 ?_) | (refine store_abs rfl 43 _ _ rfl _ _ _ rfl rfl ?ht sizeIE2 ?ho ?_; exact (newthere4 wr _); exact (oneX ⟨h, l⟩ _ o5); intro W hW; have HW := hid (newblk4 ⟨h, l⟩ _ hW); clear hW) | (refine wpList_load_mid rfl 43 _ rfl wr.heap.size 0 rfl _ _ HW.out.1 Tryz.underlying43 rfl sizeIE2 ?_))
          refine (Hdo.out vs h l (.slice ua (elen l) uc) _ (Hq.out.below hJv2.out (Nat.le_trans hhi hsz) HW.out.2) (Hbz.out.trans (HW.out.2.mono Hbz.out.size)) (Nat.le_trans hsz HW.out.2.size) HL.out hM.out.1 hM.out.2).mono ?_
          rintro e w4 ⟨rfl, hJ4, hg4⟩
          have HJ4 := hid hJ4
          have hown4 := ownM (ownB hown HW.out.2) hg4 hhi
          have hbr4 := hbr.trans ((Gap.of lo hi HW.out.2).trans hg4)
          have hr4 : w4.rangeAt wr.heap.size 0 (xcells ⟨h, l⟩ (.slice ua (elen l) uc)) := fun j x hx => by
            have h1 := HW.out.1 j x hx
            have h2 := lt_of_cellA h1
            have h3 := hg4.block wr.heap.size h2 (.inr (Nat.le_trans hhi hsz))
            unfold World.cell? at h1 ⊢
            simp only [h3]
            exact h1
          have Hr4 := hid hr4
          have hs4 := hbr4.size
          have hs4' := HW.out.2.size
          have hs4'' := hg4.size
          clear hJ4 hg4 hr4 hown hbr HW Hrg hJv2 HL
          go_wp2_with (refine wpList_load_mid rfl 43 _ rfl wr.heap.size 0 rfl _ _ Hr4.out Tryz.underlying43 rfl sizeIE2 ?_)
          refine (partsOf_is ⟨h, l⟩ _ _).mono ?_
          rintro e w5 ⟨rfl, hb5⟩
          have hown5 := ownB hown4 hb5
          have hbr5 := hbr4.trans (Gap.of lo hi hb5)
          have HJ5 := hid (Hq.out.below HJ4.out (Nat.le_trans hhi hs4) hb5)
          have HO := hid hown5
          have hs5 := hbr5.size
          have hlt5 : td.length ≤ 10000001 := Hn1.out
          obtain ⟨ta, tc, rfl⟩ : ∃ ta tc, u6 = .slice ta td.length tc := by
            rcases hown5.2 with ⟨h1, h0⟩ | ⟨g, cap, cur, h1, _⟩
            · exact ⟨_, _, by rw [h0]; exact h1⟩
            · exact ⟨_, _, h1⟩
          clear hb5 hown4 hbr4 Hr4 o5
          go_wp2_with (at_builtin; refine wpList_append_own _ rfl _ _ 228 rfl w.heap.size 41 i0 _ 1 24 Tryz.underlying228 hi0 hz0 hz1 hz2 rfl (by decide) _ _ _ rfl (hown5.alloc _) ⟨w5.heap.size, 0, Option.none⟩ 1 1 [.slice ua (elen l) uc] rfl rfl ?c1 ?c2 ?c3 ?c4 ?c5 ?_)
          case c1 => exact new1 _ _ _
          case c2 => intro x hx; simp only [List.mem_cons, List.not_mem_nil, or_false] at hx; subst hx; rfl
          case c3 => unfold maxLen; omega
          case c4 => omega
          case c5 => simp; omega
          intro v' w6 hown' hgrow _
          obtain ⟨n1, n2, n3⟩ := snocH (l := l) hown5 hbr5 hgrow hown'
          have HJ6 := hid (Hq.out (vs ++ [(h, l)]) w5 w6 HJ5.out n3.1 (fun k _ hk => n3.2 k (by omega)))
          clear hown' hgrow hown5 hbr5 HO
          go_wp2
          go_roundw
          case rel => exact ⟨td ++ [(l, .slice ua (elen l) uc)], vs ++ [(h, l)], r, k + 1, by go_num, hR2, n1, HJ6, n2⟩
          case measure => simp [RowKit.intOf]; omega
set_option maxHeartbeats 1000000 in
set_option maxRecDepth 100000 in
theorem cntE_is (x : X) (v : Value) (w : World) (cb : Nat) (c : Nat) (hc : NumAt w cb (c : Int)) (hs : c < 10000000) :
    Calls Tryz.prog 152 #[.agg (xcells x v).toArray, .pointer (some ⟨cb, 0, Option.none⟩)] w fun e w' => e = .returned (.tuple #[]) ∧ NumAt w' cb (c + 1 : Nat) ∧ Gap cb (cb + 1) w w' := by
  show Calls Tryz.prog 152 #[.agg #[.int .i64 x.h.k, .int .i64 x.h.n, .string x.h.s, v], .pointer (some ⟨cb, 0, Option.none⟩)] w _
  have H := hid (fun (o : Obj) (d : Int) => below_boxset (o := o) (d := d) hc)
  have hlt := lt_of_block hc
  have c1 : ∀ o, (w.alloc o).cell? ⟨cb, 0, Option.none⟩ = some (.int .i64 (c : Int)) := fun o => cell_of_one ((Below.heap_alloc _ _ cb hlt).trans hc)
  have c2 : ∀ o, (w.alloc o).frozen? ⟨cb, 0, Option.none⟩ = false := fun o => free_of_one ((Below.heap_alloc _ _ cb hlt).trans hc)
  have hsI : (c : Int) + 1 ≤ 10000000 := by omega
  clear hc
  go_enter Tryz.func152, Tryz.ntmps152
  go_wp2
  go_end0
  exact ⟨rfl, H.out _ _⟩
set_option maxHeartbeats 1000000 in
set_option maxRecDepth 100000 in
theorem countAllE_is (F : EF) (hF : enodes F ≤ 10000000) (w : World) (v : Value) (hv : EV w 0 F v) :
    Calls Tryz.prog 100 #[v, .func (.func 101) #[] #[]] w fun e w' => e = .returned (.int .i64 (enodes F : Int)) ∧ Below w.heap.size w w' := by
  have hmf : ∀ (fn : Fn) (first cap : Array Value) (w : World), (Instr.makeFunc fn first cap).run Tryz.prog w = .ok (.func fn first cap) w := fun _ _ _ _ => rfl
  have N := hid (new_num w 0)
  have Hv := hid (fun (W : World) (hN : NumAt W w.heap.size 0) (hb : Below w.heap.size w W) (hW : W.heap.size = w.heap.size + 1) =>
    visitAllE_is F hF w W hb w.heap.size (w.heap.size + 1) (Nat.le_refl _) (by omega) v hv 152 (fun _ _ => rfl) #[.pointer (some ⟨w.heap.size, 0, Option.none⟩)] (fun vs w' => NumAt w' w.heap.size (vs.length : Int))
      (fun vs w1 w2 hj _ hk => (hk _ (Nat.le_refl _) (Nat.lt_succ_self _)).trans hj) hN (fun vs h l u w1 hj _ _ _ _ hl => (cntE_is ⟨h, l⟩ u w1 _ vs.length hj (by omega)).mono (by
        rintro e w2 ⟨rfl, h1, h2⟩
        refine ⟨rfl, ?_, h2⟩
        show NumAt w2 w.heap.size ((vs ++ [(h, l)]).length : Int)
        rw [List.length_append]; exact h1)))
  go_enter Tryz.func100, Tryz.ntmps100
  go_wp2_with fail
  refine (Hv.out _ N.out.1 N.out.2 (by simp)).mono ?_
  rintro e w1 ⟨rfl, ⟨vs, hj, hp⟩, hg⟩
  have hl : (vs.length : Int) = (enodes F : Int) := by rw [hp.length_eq, enall_len]
  have hcell := cell_of_one hj
  have hB := hid (gap_own N.out.2 (hg.wider (Nat.le_refl _) (by simp)))
  clear hj hp hg N Hv
  rw [hl] at hcell
  go_wp2
  go_ret
  exact ⟨rfl, hB.out⟩
end Go.Proofs.YtfoghiminlbdaaaGreat
