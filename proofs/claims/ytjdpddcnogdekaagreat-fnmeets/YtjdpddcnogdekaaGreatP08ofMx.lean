/-
  Texts in one: RngRow, TokRune.
-/
import Derived.Test.YtjdpddcnogdekaaGreatP03ofMx
import Derived.Test.YtjdpddcnogdekaaGreatP07ofMx
import Derived.Test.YtjdpddcnogdekaaGreatRows
import Derived.WalkKit
import Derived.WalkLawsBesides
import Derived.Laws.Runes
import Derived.Laws.RangeAny
import Derived.Lib.OthersKept
import Derived.Lib.Hide
import Derived.WalkMore
import Derived.Laws.Strings2
import Derived.Laws.Strings3
import Derived.Laws.DeepStrings4
import Derived.Deep.QuietTactic
import Derived.BigQuiet
/-
  Rows of ranges: how they lie in memory, their sizes, copies, and whether they are the same; rows that came in, opened.
-/
namespace Go.Proofs.YtjdpddcnogdekaaGreat
open Go.RowKit Go.Lib
set_option linter.unusedSimpArgs false
set_option linter.unusedVariables false

/-- A range: its name, from where, to where. -/
structure RG where
  s : ByteArray
  lo : Int
  hi : Int
/-- A slice that holds these ranges, at l or above. -/
def RV (w : World) (l : Nat) (v : Value) (ts : List RG) : Prop :=
  ∃ ao cap, v = .slice ao ts.length cap ∧ ts.length ≤ cap ∧ (ts = [] ∨ ∃ g off, ao = some ⟨g, off, Option.none⟩ ∧ l ≤ g ∧ g < w.heap.size ∧ ∀ i t, ts[i]? = some t →
    w.cell? ⟨g, off + i * 3, Option.none⟩ = some (.string t.s) ∧ w.cell? ⟨g, off + i * 3 + 1, Option.none⟩ = some (.int .i64 t.lo) ∧ w.cell? ⟨g, off + i * 3 + 2, Option.none⟩ = some (.int .i64 t.hi))
theorem RV.same {w w' : World} {lo lo' : Nat} {v : Value} {ts : List RG} (hlo : lo' ≤ lo) (h : RV w lo v ts) (hk : Keeps lo w w') (hz : w.heap.size ≤ w'.heap.size) : RV w' lo' v ts := by
  obtain ⟨ao, cap, hv, hcap, h⟩ := h
  refine ⟨ao, cap, hv, hcap, ?_⟩
  rcases h with h | ⟨g, off, h1, h0, h2, h3⟩
  · exact .inl h
  · refine .inr ⟨g, off, h1, Nat.le_trans hlo h0, Nat.lt_of_lt_of_le h2 hz, fun i t hi => ?_⟩
    obtain ⟨a, b, c⟩ := h3 i t hi
    exact ⟨hk _ _ h0 a, hk _ _ h0 b, hk _ _ h0 c⟩
theorem RV.later {w w' : World} {lo : Nat} {v : Value} {ts : List RG} (h : RV w lo v ts) (hb : Below w.heap.size w w') : RV w' lo v ts := h.same (Nat.le_refl _) (Keeps.later hb) hb.size
theorem RV.low {w : World} {lo : Nat} {v : Value} {ts : List RG} (h : RV w lo v ts) : RV w 0 v ts := h.same (Nat.zero_le _) (Keeps.refl _ _) (Nat.le_refl _)
theorem RV.shape {w : World} {lo : Nat} {v : Value} {ts : List RG} (h : RV w lo v ts) : ∃ a c, v = .slice a ts.length c := by obtain ⟨a, c, h1, _⟩ := h; exact ⟨a, c, h1⟩
theorem RV.isOne {w : World} {lo : Nat} {v : Value} {ts : List RG} (h : RV w lo v ts) : v.oneCell' = true := by obtain ⟨a, c, rfl⟩ := h.shape; rfl
/-- How many bytes their names have together. -/
def rbytes : List RG → Nat
  | [] => 0
  | t :: ts => t.s.size + rbytes ts
def rsize8 (ts : List RG) : Nat := ts.length + rbytes ts
theorem rbytes_snoc (ts : List RG) (t : RG) : rbytes (ts ++ [t]) = rbytes ts + t.s.size := by
  induction ts with
  | nil => simp [rbytes]
  | cons u us ih => simp only [List.cons_append, rbytes, ih]; omega
theorem rbytes_take (ts : List RG) (k : Nat) : rbytes (ts.take k) ≤ rbytes ts := by
  induction ts generalizing k with
  | nil => simp [rbytes]
  | cons u us ih => cases k with
    | zero => simp [rbytes]
    | succ k => have := ih k; simp only [List.take_succ_cons, rbytes]; omega
theorem rbytes_mem {ts : List RG} {t : RG} (h : t ∈ ts) : t.s.size ≤ rbytes ts := by
  induction ts with
  | nil => simp at h
  | cons u us ih =>
    rcases List.mem_cons.1 h with rfl | h
    · simp only [rbytes]; omega
    · have := ih h; simp only [rbytes]; omega
theorem take_snocR {ts : List RG} {k : Nat} {t : RG} (h : ts[k]? = some t) : ts.take (k + 1) = ts.take k ++ [t] := by
  rw [List.take_add_one, h]; rfl
/-- The cells of a row of ranges. -/
def rcells8 : List RG → List Value
  | [] => []
  | t :: ts => .string t.s :: .int .i64 t.lo :: .int .i64 t.hi :: rcells8 ts
theorem rcells8_len (ts : List RG) : (rcells8 ts).length = ts.length * 3 := by
  induction ts with
  | nil => rfl
  | cons t ts ih => simp only [rcells8, List.length_cons, ih]; omega
theorem rcells8_snoc (ts : List RG) (t : RG) : rcells8 (ts ++ [t]) = rcells8 ts ++ [.string t.s, .int .i64 t.lo, .int .i64 t.hi] := by
  induction ts with
  | nil => rfl
  | cons u us ih => simp only [List.cons_append, rcells8, ih]
theorem rcells8_get (ts : List RG) : ∀ i t, ts[i]? = some t → (rcells8 ts)[i * 3]? = some (.string t.s) ∧ (rcells8 ts)[i * 3 + 1]? = some (.int .i64 t.lo) ∧ (rcells8 ts)[i * 3 + 2]? = some (.int .i64 t.hi) := by
  induction ts with
  | nil => intro i t h; simp at h
  | cons u us ih =>
    intro i t h
    cases i with
    | zero => simp at h; subst h; exact ⟨rfl, rfl, rfl⟩
    | succ i =>
      have := ih i t (by simpa using h)
      rw [show (i + 1) * 3 = i * 3 + 3 by omega]
      simpa [rcells8] using this
theorem RV.laid {w : World} {g c : Nat} {ts : List RG} (hcap : ts.length ≤ c) (hg : g < w.heap.size) (hr : w.rangeAt g 0 (rcells8 ts)) : RV w g (.slice (some ⟨g, 0, Option.none⟩) ts.length c) ts :=
  ⟨_, c, rfl, hcap, .inr ⟨g, 0, rfl, Nat.le_refl _, hg, fun i t hi => ⟨hr _ _ (rcells8_get ts i t hi).1, by have := hr _ _ (rcells8_get ts i t hi).2.1; rwa [← Nat.add_assoc] at this, by have := hr _ _ (rcells8_get ts i t hi).2.2; rwa [← Nat.add_assoc] at this⟩⟩⟩
theorem all3r (t : ByteArray) (k n : Int) : (#[.string t, .int .i64 k, .int .i64 n] : Array Value).all (·.oneCell') = true :=
  all_oneCell_toArray (cs := [.string t, .int .i64 k, .int .i64 n]) (fun v hv => by
    simp only [List.mem_cons, List.not_mem_nil, or_false] at hv
    rcases hv with rfl | rfl | rfl <;> rfl)
theorem infoIR9 : (Tryz.prog.info? 32).map (fun i => (i.zero, i.size, i.bytes)) = some (some (.agg #[.string ⟨#[]⟩, .int .i64 0, .int .i64 0]), 3, 32) := by kernel_rfl
theorem sizeIR9 : (Tryz.prog.info? 32).map (·.size) = some 3 := by kernel_rfl
end Go.Proofs.YtjdpddcnogdekaaGreat
namespace Go.Proofs.YtjdpddcnogdekaaGreat
open Go.ChangeShapes Go.WideShapes Go.ChangeAt Go.RowKit
section
variable {H : Type} {enc : TypeId × Value → H} {W : World} {sp : Nat → Bool} {held : Bool}
theorem build_rngs {b o len : Nat} (each : ∀ i, i < len → ∃ t : RG, t.s.size ≤ 9223372036854775807 ∧ W.cell? ⟨b, o + i * 3, Option.none⟩ = some (.string t.s) ∧ W.cell? ⟨b, o + i * 3 + 1, Option.none⟩ = some (.int .i64 t.lo) ∧ W.cell? ⟨b, o + i * 3 + 2, Option.none⟩ = some (.int .i64 t.hi)) :
    ∀ d, d ≤ len → ∃ R : List RG, R.length = d ∧ (∀ t ∈ R, t.s.size ≤ 9223372036854775807) ∧ ∀ i t, R[i]? = some t → W.cell? ⟨b, o + i * 3, Option.none⟩ = some (.string t.s) ∧ W.cell? ⟨b, o + i * 3 + 1, Option.none⟩ = some (.int .i64 t.lo) ∧ W.cell? ⟨b, o + i * 3 + 2, Option.none⟩ = some (.int .i64 t.hi)
  | 0, _ => ⟨[], rfl, fun _ h => by simp at h, fun i t h => by simp at h⟩
  | d + 1, hd => by
    obtain ⟨R, h1, h2, h3⟩ := build_rngs each d (by omega)
    obtain ⟨t, k, c0, c1, c2⟩ := each d (by omega)
    refine ⟨R ++ [t], by simp [h1], fun u hu => ?_, fun i u hu => ?_⟩
    · rcases List.mem_append.1 hu with hu | hu
      · exact h2 u hu
      · simp only [List.mem_cons, List.not_mem_nil, or_false] at hu; subst hu; exact k
    · rcases Nat.lt_or_ge i R.length with hi | hi
      · rw [List.getElem?_append_left hi] at hu; exact h3 i u hu
      · rw [List.getElem?_append_right hi] at hu
        have hi2 : i = d := by have := (List.getElem?_eq_some_iff.1 hu).1; simp at this; omega
        subst hi2
        rw [h1, Nat.sub_self] at hu
        simp at hu; subst hu; exact ⟨c0, c1, c2⟩
end
end Go.Proofs.YtjdpddcnogdekaaGreat
/-
  strings.ContainsRune over the marks, at every rune that a text holds: below 128 it asks for the byte, above it answers false.
-/
set_option linter.unusedSimpArgs false
namespace Go.Proofs.YtjdpddcnogdekaaGreat
open Go.RowKit Go.Lib

set_option maxHeartbeats 1000000 in
set_option maxRecDepth 100000 in
theorem slite_IndexByte (s : ByteArray) (c : Int) (w : World) :
    Calls Tryz.prog 122 #[.string s, .int .u8 c] w fun e w' => e = .returned (.int .i64 (firstIdx s c.toNat.toUInt8)) ∧ w = w' := by
  go_enter Tryz.func122, Tryz.ntmps122
  go_wp2
  rw [run_callFunc_extern Tryz.func123 (by kernel_rfl) (by kernel_rfl) (by kernel_rfl) (e := Extern.BytealgIndexByte.indexByte) (by kernel_rfl), run_indexByte_string]
  simp only [Result.andThen]
  rw [Oper.upon_value]
  go_wp2
  go_ret
  exact ⟨rfl, rfl⟩
set_option maxHeartbeats 1000000 in
theorem strings_IndexByte (s : ByteArray) (c : Int) (w : World) :
    Calls Tryz.prog 117 #[.string s, .int .u8 c] w fun e w' => e = .returned (.int .i64 (firstIdx s c.toNat.toUInt8)) ∧ w = w' := by
  go_enter Tryz.func117, Tryz.ntmps117
  go_wp2_with (go_at_call 122; refine (slite_IndexByte _ _ _).mono ?_; rintro e w' ⟨rfl, rfl⟩)
  go_ret
  exact ⟨rfl, rfl⟩

set_option maxHeartbeats 1000000 in
set_option maxRecDepth 100000 in
theorem IndexRune_ascii (s : ByteArray) (r : Int) (w : World) (h0 : 0 ≤ r) (h1 : r < 128) :
    Calls Tryz.prog 110 #[.string s, .int .i32 r] w fun e w' => e = .returned (.int .i64 (firstIdx s r.toNat.toUInt8)) ∧ w = w' := by
  go_enter Tryz.func110, Tryz.ntmps110
  go_wp2_with (go_at_call 117; refine (strings_IndexByte _ _ _).mono ?_; rintro e w' ⟨rfl, rfl⟩)
  go_ret
  exact ⟨rfl, rfl⟩

set_option maxHeartbeats 1000000 in
theorem ContainsRune_ascii (s : ByteArray) (r : Int) (w : World) (h0 : 0 ≤ r) (h1 : r < 128) :
    Calls Tryz.prog 96 #[.string s, .int .i32 r] w fun e w' => e = .returned (.bool (s.data.toList.any (· == r.toNat.toUInt8))) ∧ w = w' := by
  go_enter Tryz.func96, Tryz.ntmps96
  go_wp2_with (go_at_call 110; refine (IndexRune_ascii _ _ _ h0 h1).mono ?_; rintro e w' ⟨rfl, rfl⟩)
  go_ret
  exact ⟨by rw [← firstIdx_nonneg]; rfl, rfl⟩

/-- Every byte of this text is below 128. -/
def Asci (s : ByteArray) : Prop := ∀ b ∈ s.data.toList, b.toNat < 128
set_option maxHeartbeats 2000000 in
set_option maxRecDepth 100000 in
theorem IndexRune_error (s : ByteArray) (hs : Asci s) (w : World) :
    Calls Tryz.prog 110 #[.string s, .int .i32 65533] w fun e w' => e = .returned (.int .i64 (-1)) ∧ Below w.heap.size w w' := by
  go_enter Tryz.func110, Tryz.ntmps110
  go_wp2
  go_loopw [] (fun wr => ∃ pos, pos ≤ s.size ∧ wr = w.iter s pos) (fun wr => s.size - wr.iterPos w.heap.size)
  case atStart => exact ⟨0, by omega, rfl⟩
  case round =>
    obtain ⟨pos, hpos, rfl⟩ := hrel
    by_cases hp : pos < s.size
    · have ha : (s[pos]'hp).toNat < 128 := hs _ (Array.getElem_mem_toList (xs := s.data) hp)
      have hnx : ∀ ty, (Instr.next (.pointer (some ⟨w.heap.size, 0, none⟩)) true ty).run Tryz.prog (w.iter s pos) = _ := fun ty => run_next_ascii w s pos ty hp ha
      have hne : ¬ ((s[pos]'hp).toNat : Int) = 65533 := by omega
      go_wp2
      go_roundw
      case rel => exact ⟨pos + 1, by omega, rfl⟩
      case measure => simp [World.iterPos, World.iter_heap]; omega
    · have hnx : ∀ ty, (Instr.next (.pointer (some ⟨w.heap.size, 0, none⟩)) true ty).run Tryz.prog (w.iter s pos) = _ := fun ty => run_next_end w s pos ty hp
      go_wp2
      go_ret
      exact ⟨rfl, (Below.refl _ w).alloc (Nat.le_refl _) _⟩
theorem IndexByte_none (s : ByteArray) (c : UInt8) (hs : Asci s) (hc : 128 ≤ c.toNat) (a e n : Nat) (w : World) :
    Calls Tryz.prog 117 #[.string (s.extract a e), .int .u8 c.toNat] (w.drewN n) fun x w' => x = .returned (.int .i64 (-1)) ∧ w' = w.drewN n := by
  refine (strings_IndexByte _ _ _).mono ?_
  rintro x w' ⟨rfl, rfl⟩
  refine ⟨?_, rfl⟩
  have : ((c.toNat : Int)).toNat.toUInt8 = c := by simp
  rw [this, firstIdx_ascii s a e c hs hc]
theorem ValidRune_is (r : Int) (h0 : 0 ≤ r) (h1 : r ≤ 1114111) (b : Bool) (hb : Utf8.valid r = b) (w : World) :
    Calls Tryz.prog 118 #[.int .i32 r] w fun e w' => e = .returned (.bool b) ∧ w = w' := by
  subst hb
  have e : Utf8.valid r = (decide (r < 55296) || decide (57343 < r)) := by
    rw [validRune_eq]; unfold validRune
    by_cases h : r < 55296 <;> by_cases h' : 57343 < r <;> simp [h, h', h0, h1] <;> omega
  rw [e]
  by_cases h : r < 55296
  · go_enter Tryz.func118, Tryz.ntmps118
    go_wp2
    go_ret
    exact ⟨by simp [h], rfl⟩
  · by_cases h' : 57343 < r
    · go_enter Tryz.func118, Tryz.ntmps118
      go_wp2
      go_ret
      exact ⟨by simp [h, h'], rfl⟩
    · go_enter Tryz.func118, Tryz.ntmps118
      go_wp2
      go_ret
      exact ⟨by simp [h, h'], rfl⟩
set_option maxHeartbeats 4000000 in
set_option maxRecDepth 100000 in
theorem IndexRune_high (s : ByteArray) (hs : Asci s) (hl : s.size ≤ 1000000) (r : Int) (h0 : 128 ≤ r) (h1 : r ≤ 1114111) (hne : ¬ r = 65533) (w : World) :
    Calls Tryz.prog 110 #[.string s, .int .i32 r] w fun e w' => e = .returned (.int .i64 (-1)) ∧ Below w.heap.size w w' := by
  by_cases hv : Utf8.valid r = true
  · obtain ⟨e1, e2, e3⟩ := encode_facts r hv h0
    have hcv : ∀ w, (convert 21 9 (.int .i32 r)).run Tryz.prog w = .ok (.string (Utf8.encode r)) w := fun w => run_convert_int_string w _ _ _ _ (by rw [Tryz.underlying21]; rfl) Tryz.underlying9
    have hV := Lib.hid hv
    generalize Utf8.encode r = E at e1 e2 e3 hcv
    have h3 := e3 (by omega)
    clear e3 hv
    obtain ⟨n, hn⟩ : ∃ n, E.size = n + 1 := ⟨E.size - 1, by omega⟩
    have hnE : n < E.size := by omega
    have h4 : 128 ≤ (E[n]'hnE).toNat := by
      have e : ∀ m (hm : m < E.size), m = n → (E[m]'hm).toNat = (E[n]'hnE).toNat := by intro m hm e; subst e; rfl
      rw [← e (E.size - 1) (by omega) (by omega)]; exact h3
    clear h3
    go_enter Tryz.func110, Tryz.ntmps110
    go_wp2_with (go_at_call 118; refine (ValidRune_is r (by omega) h1 true hV.out _).mono ?_; rintro e w' ⟨rfl, rfl⟩)
    go_step3
    go_wp2
    go_loop [9, 10] (fun i f => i = .int .i64 (n : Int) ∧ f = .int .i64 0) (fun _ _ => 0)
    case atStart => exact ⟨by go_num, rfl⟩
    case round =>
      obtain ⟨rfl, rfl⟩ := hrel
      clear hn
      by_cases hp : n < s.size
      · have ha : (s[n]'hp).toNat < 128 := hs _ (Array.getElem_mem_toList (xs := s.data) hp)
        have hneq : ¬ ((s[n]'hp).toNat : Int) = ((E[n]'hnE).toNat : Int) := by omega
        have hpI : (n : Int) < (s.size : Int) := by omega
        have hnI : (n : Int) < (E.size : Int) := by omega
        have hwr : IntKind.i64.wrap ((n : Int) + 1) = (n : Int) + 1 := wrap_small _ (by omega) (by omega)
        have hsl : ∀ w, (Instr.slice 9 (.string s) (some (.int .i64 ((n : Int) + 1))) Option.none Option.none).run Tryz.prog w = .ok (.string (s.extract (n + 1) s.size)) w := by
          intro w
          rw [run_slice_string_from_if w _ _ _ _ Tryz.underlying9, if_pos ⟨by omega, by omega⟩]
          rfl
        go_wp2
        go_step3
        go_wp2
        go_quiet (fail)
        go_wp2
        go_quiet (exact (IndexByte_none s E[n] hs h4 _ _ _ w).mono fun _ _ h => ⟨h.1, _, h.2⟩)
        go_wp2
        rw [Exit.noGoto_ret]
        go_wp2
        rw [Exit.noGoto_ret]
        go_wp2
        go_ret
        exact ⟨rfl, ⟨rfl, rfl, rfl, Nat.le_refl _, fun _ _ => rfl⟩⟩
      · go_wp2
        go_ret
        exact ⟨rfl, Below.refl _ _⟩
  · have hV := Lib.hid (by simpa using hv : Utf8.valid r = false)
    clear hv
    go_enter Tryz.func110, Tryz.ntmps110
    go_wp2_with (go_at_call 118; refine (ValidRune_is r (by omega) h1 false hV.out _).mono ?_; rintro e w' ⟨rfl, rfl⟩)
    go_ret
    exact ⟨rfl, Below.refl _ _⟩
set_option maxHeartbeats 1000000 in
/-- Above 128 nothing is found in a text of bytes below 128. -/
theorem ContainsRune_high (s : ByteArray) (hs : Asci s) (hl : s.size ≤ 1000000) (r : Int) (h0 : 128 ≤ r) (h1 : r ≤ 1114111) (w : World) :
    Calls Tryz.prog 96 #[.string s, .int .i32 r] w fun e w' => e = .returned (.bool false) ∧ Below w.heap.size w w' := by
  have hI : Calls Tryz.prog 110 #[.string s, .int .i32 r] w fun e w' => e = .returned (.int .i64 (-1)) ∧ Below w.heap.size w w' := by
    by_cases he : r = 65533
    · subst he; exact IndexRune_error s hs w
    · exact IndexRune_high s hs hl r h0 h1 he w
  go_enter Tryz.func96, Tryz.ntmps96
  go_wp2_with (go_at_call 110; refine hI.mono ?_; rintro e w' ⟨rfl, hb⟩)
  go_ret
  exact ⟨rfl, hb⟩
end Go.Proofs.YtjdpddcnogdekaaGreat
