/-
  strings.ContainsRune over the marks, at every rune that a text holds: below 128 it asks for the byte, above it answers false.
-/
import Derived.Test.YtjdpddcnogdekabRows
import Derived.WalkKit
import Derived.WalkLawsBesides
import Derived.Laws.Runes
import Derived.Laws.RangeAny
import Derived.Lib.OthersKept
import Derived.Lib.Hide
import Derived.WalkMore
import Derived.Laws.Strings2
import Derived.Laws.Strings3
import Derived.Laws.DeepStrings4
import Derived.Deep.QuietTactic
import Derived.BigQuiet
set_option linter.unusedSimpArgs false
namespace Go.Proofs.Ytjdpddcnogdekab
open Go.RowKit Go.Lib

set_option maxHeartbeats 1000000 in
set_option maxRecDepth 100000 in
theorem slite_IndexByte (s : ByteArray) (c : Int) (w : World) :
    Calls Try.prog 89 #[.string s, .int .u8 c] w fun e w' => e = .returned (.int .i64 (firstIdx s c.toNat.toUInt8)) ∧ w = w' := by
  go_enter Try.func89, Try.ntmps89
  go_wp2
  rw [run_callFunc_extern Try.func90 (by kernel_rfl) (by kernel_rfl) (by kernel_rfl) (e := Extern.BytealgIndexByte.indexByte) (by kernel_rfl), run_indexByte_string]
  simp only [Result.andThen]
  rw [Oper.upon_value]
  go_wp2
  go_ret
  exact ⟨rfl, rfl⟩
set_option maxHeartbeats 1000000 in
theorem strings_IndexByte (s : ByteArray) (c : Int) (w : World) :
    Calls Try.prog 84 #[.string s, .int .u8 c] w fun e w' => e = .returned (.int .i64 (firstIdx s c.toNat.toUInt8)) ∧ w = w' := by
  go_enter Try.func84, Try.ntmps84
  go_wp2_with (go_at_call 89; refine (slite_IndexByte _ _ _).mono ?_; rintro e w' ⟨rfl, rfl⟩)
  go_ret
  exact ⟨rfl, rfl⟩

set_option maxHeartbeats 1000000 in
set_option maxRecDepth 100000 in
theorem IndexRune_ascii (s : ByteArray) (r : Int) (w : World) (h0 : 0 ≤ r) (h1 : r < 128) :
    Calls Try.prog 77 #[.string s, .int .i32 r] w fun e w' => e = .returned (.int .i64 (firstIdx s r.toNat.toUInt8)) ∧ w = w' := by
  go_enter Try.func77, Try.ntmps77
  go_wp2_with (go_at_call 84; refine (strings_IndexByte _ _ _).mono ?_; rintro e w' ⟨rfl, rfl⟩)
  go_ret
  exact ⟨rfl, rfl⟩

set_option maxHeartbeats 1000000 in
theorem ContainsRune_ascii (s : ByteArray) (r : Int) (w : World) (h0 : 0 ≤ r) (h1 : r < 128) :
    Calls Try.prog 64 #[.string s, .int .i32 r] w fun e w' => e = .returned (.bool (s.data.toList.any (· == r.toNat.toUInt8))) ∧ w = w' := by
  go_enter Try.func64, Try.ntmps64
  go_wp2_with (go_at_call 77; refine (IndexRune_ascii _ _ _ h0 h1).mono ?_; rintro e w' ⟨rfl, rfl⟩)
  go_ret
  exact ⟨by rw [← firstIdx_nonneg]; rfl, rfl⟩

/-- Every byte of this text is below 128. -/
def Asci (s : ByteArray) : Prop := ∀ b ∈ s.data.toList, b.toNat < 128
set_option maxHeartbeats 2000000 in
set_option maxRecDepth 100000 in
theorem IndexRune_error (s : ByteArray) (hs : Asci s) (w : World) :
    Calls Try.prog 77 #[.string s, .int .i32 65533] w fun e w' => e = .returned (.int .i64 (-1)) ∧ Below w.heap.size w w' := by
  go_enter Try.func77, Try.ntmps77
  go_wp2
  go_loopw [] (fun wr => ∃ pos, pos ≤ s.size ∧ wr = w.iter s pos) (fun wr => s.size - wr.iterPos w.heap.size)
  case atStart => exact ⟨0, by omega, rfl⟩
  case round =>
    obtain ⟨pos, hpos, rfl⟩ := hrel
    by_cases hp : pos < s.size
    · have ha : (s[pos]'hp).toNat < 128 := hs _ (Array.getElem_mem_toList (xs := s.data) hp)
      have hnx : ∀ ty, (Instr.next (.pointer (some ⟨w.heap.size, 0, none⟩)) true ty).run Try.prog (w.iter s pos) = _ := fun ty => run_next_ascii w s pos ty hp ha
      have hne : ¬ ((s[pos]'hp).toNat : Int) = 65533 := by omega
      go_wp2
      go_roundw
      case rel => exact ⟨pos + 1, by omega, rfl⟩
      case measure => simp [World.iterPos, World.iter_heap]; omega
    · have hnx : ∀ ty, (Instr.next (.pointer (some ⟨w.heap.size, 0, none⟩)) true ty).run Try.prog (w.iter s pos) = _ := fun ty => run_next_end w s pos ty hp
      go_wp2
      go_ret
      exact ⟨rfl, (Below.refl _ w).alloc (Nat.le_refl _) _⟩
theorem IndexByte_none (s : ByteArray) (c : UInt8) (hs : Asci s) (hc : 128 ≤ c.toNat) (a e n : Nat) (w : World) :
    Calls Try.prog 84 #[.string (s.extract a e), .int .u8 c.toNat] (w.drewN n) fun x w' => x = .returned (.int .i64 (-1)) ∧ w' = w.drewN n := by
  refine (strings_IndexByte _ _ _).mono ?_
  rintro x w' ⟨rfl, rfl⟩
  refine ⟨?_, rfl⟩
  have : ((c.toNat : Int)).toNat.toUInt8 = c := by simp
  rw [this, firstIdx_ascii s a e c hs hc]
theorem ValidRune_is (r : Int) (h0 : 0 ≤ r) (h1 : r ≤ 1114111) (b : Bool) (hb : Utf8.valid r = b) (w : World) :
    Calls Try.prog 85 #[.int .i32 r] w fun e w' => e = .returned (.bool b) ∧ w = w' := by
  subst hb
  have e : Utf8.valid r = (decide (r < 55296) || decide (57343 < r)) := by
    rw [validRune_eq]; unfold validRune
    by_cases h : r < 55296 <;> by_cases h' : 57343 < r <;> simp [h, h', h0, h1] <;> omega
  rw [e]
  by_cases h : r < 55296
  · go_enter Try.func85, Try.ntmps85
    go_wp2
    go_ret
    exact ⟨by simp [h], rfl⟩
  · by_cases h' : 57343 < r
    · go_enter Try.func85, Try.ntmps85
      go_wp2
      go_ret
      exact ⟨by simp [h, h'], rfl⟩
    · go_enter Try.func85, Try.ntmps85
      go_wp2
      go_ret
      exact ⟨by simp [h, h'], rfl⟩
set_option maxHeartbeats 4000000 in
set_option maxRecDepth 100000 in
theorem IndexRune_high (s : ByteArray) (hs : Asci s) (hl : s.size ≤ 1000000) (r : Int) (h0 : 128 ≤ r) (h1 : r ≤ 1114111) (hne : ¬ r = 65533) (w : World) :
    Calls Try.prog 77 #[.string s, .int .i32 r] w fun e w' => e = .returned (.int .i64 (-1)) ∧ Below w.heap.size w w' := by
  by_cases hv : Utf8.valid r = true
  · obtain ⟨e1, e2, e3⟩ := encode_facts r hv h0
    have hcv : ∀ w, (convert 21 9 (.int .i32 r)).run Try.prog w = .ok (.string (Utf8.encode r)) w := fun w => run_convert_int_string w _ _ _ _ (by rw [Try.underlying21]; rfl) Try.underlying9
    have hV := Lib.hid hv
    generalize Utf8.encode r = E at e1 e2 e3 hcv
    have h3 := e3 (by omega)
    clear e3 hv
    obtain ⟨n, hn⟩ : ∃ n, E.size = n + 1 := ⟨E.size - 1, by omega⟩
    have hnE : n < E.size := by omega
    have h4 : 128 ≤ (E[n]'hnE).toNat := by
      have e : ∀ m (hm : m < E.size), m = n → (E[m]'hm).toNat = (E[n]'hnE).toNat := by intro m hm e; subst e; rfl
      rw [← e (E.size - 1) (by omega) (by omega)]; exact h3
    clear h3
    go_enter Try.func77, Try.ntmps77
    go_wp2_with (go_at_call 85; refine (ValidRune_is r (by omega) h1 true hV.out _).mono ?_; rintro e w' ⟨rfl, rfl⟩)
    go_step3
    go_wp2
    go_loop [9, 10] (fun i f => i = .int .i64 (n : Int) ∧ f = .int .i64 0) (fun _ _ => 0)
    case atStart => exact ⟨by go_num, rfl⟩
    case round =>
      obtain ⟨rfl, rfl⟩ := hrel
      clear hn
      by_cases hp : n < s.size
      · have ha : (s[n]'hp).toNat < 128 := hs _ (Array.getElem_mem_toList (xs := s.data) hp)
        have hneq : ¬ ((s[n]'hp).toNat : Int) = ((E[n]'hnE).toNat : Int) := by omega
        have hpI : (n : Int) < (s.size : Int) := by omega
        have hnI : (n : Int) < (E.size : Int) := by omega
        have hwr : IntKind.i64.wrap ((n : Int) + 1) = (n : Int) + 1 := wrap_small _ (by omega) (by omega)
        have hsl : ∀ w, (Instr.slice 9 (.string s) (some (.int .i64 ((n : Int) + 1))) Option.none Option.none).run Try.prog w = .ok (.string (s.extract (n + 1) s.size)) w := by
          intro w
          rw [run_slice_string_from_if w _ _ _ _ Try.underlying9, if_pos ⟨by omega, by omega⟩]
          rfl
        go_wp2
        go_step3
        go_wp2
        go_quiet (fail)
        go_wp2
        go_quiet (exact (IndexByte_none s E[n] hs h4 _ _ _ w).mono fun _ _ h => ⟨h.1, _, h.2⟩)
        go_wp2
        rw [Exit.noGoto_ret]
        go_wp2
        rw [Exit.noGoto_ret]
        go_wp2
        go_ret
        exact ⟨rfl, ⟨rfl, rfl, rfl, Nat.le_refl _, fun _ _ => rfl⟩⟩
      · go_wp2
        go_ret
        exact ⟨rfl, Below.refl _ _⟩
  · have hV := Lib.hid (by simpa using hv : Utf8.valid r = false)
    clear hv
    go_enter Try.func77, Try.ntmps77
    go_wp2_with (go_at_call 85; refine (ValidRune_is r (by omega) h1 false hV.out _).mono ?_; rintro e w' ⟨rfl, rfl⟩)
    go_ret
    exact ⟨rfl, Below.refl _ _⟩
set_option maxHeartbeats 1000000 in
/-- Above 128 nothing is found in a text of bytes below 128. -/
theorem ContainsRune_high (s : ByteArray) (hs : Asci s) (hl : s.size ≤ 1000000) (r : Int) (h0 : 128 ≤ r) (h1 : r ≤ 1114111) (w : World) :
    Calls Try.prog 64 #[.string s, .int .i32 r] w fun e w' => e = .returned (.bool false) ∧ Below w.heap.size w w' := by
  have hI : Calls Try.prog 77 #[.string s, .int .i32 r] w fun e w' => e = .returned (.int .i64 (-1)) ∧ Below w.heap.size w w' := by
    by_cases he : r = 65533
    · subst he; exact IndexRune_error s hs w
    · exact IndexRune_high s hs hl r h0 h1 he w
  go_enter Try.func64, Try.ntmps64
  go_wp2_with (go_at_call 77; refine hI.mono ?_; rintro e w' ⟨rfl, hb⟩)
  go_ret
  exact ⟨rfl, hb⟩
end Go.Proofs.Ytjdpddcnogdekab
