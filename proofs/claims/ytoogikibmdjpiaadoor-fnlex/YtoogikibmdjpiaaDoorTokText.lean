/-
  The contracts of TokText, the specification's and the landed code's.
-/
import Derived.Test.YtoogikibmdjpiaaDoorTokLaws
import Derived.Test.YtoogikibmdjpiaaDoorTokBuild
import Derived.Test.YtoogikibmdjpiaaDoorNumEnv
namespace Go.Proofs.YtoogikibmdjpiaaDoor
open Go.RowKit Go.Lib
set_option linter.unusedSimpArgs false

theorem textFrom_snoc (ts : List T) (t : T) : textFrom (ts ++ [t]) = textFrom ts ++ 32 :: text1 t := by
  induction ts with
  | nil => simp [textFrom]
  | cons u us ih => simp only [List.cons_append, textFrom, ih, List.append_assoc, List.cons_append]
theorem text_snoc (ts : List T) (t : T) (h : ts ≠ []) : text (ts ++ [t]) = (text ts ++ [32]) ++ text1 t := by
  cases ts with
  | nil => exact absurd rfl h
  | cons u us => simp only [List.cons_append, text, textFrom_snoc, List.append_assoc, List.cons_append, List.nil_append]
theorem take_snoc {ts : List T} {k : Nat} {t : T} (h : ts[k]? = some t) : ts.take (k + 1) = ts.take k ++ [t] := by
  have hk : k < ts.length := (List.getElem?_eq_some_iff.1 h).1
  rw [List.take_succ_eq_append_getElem hk]
  have := (List.getElem?_eq_some_iff.1 h).2
  rw [this]
theorem text_take_zero {ts : List T} {t : T} (h : ts[0]? = some t) : text (ts.take 1) = text1 t := by
  rw [show (1 : Nat) = 0 + 1 from rfl, take_snoc h]
  simp [text, textFrom]
theorem text_take_succ {ts : List T} {k : Nat} {t : T} (h : ts[k]? = some t) (hk : 0 < k) : text (ts.take (k + 1)) = (text (ts.take k) ++ [32]) ++ text1 t := by
  rw [take_snoc h, text_snoc]
  intro e
  have hl : k < ts.length := (List.getElem?_eq_some_iff.1 h).1
  have : (ts.take k).length = 0 := by rw [e]; rfl
  rw [List.length_take] at this
  omega
theorem text_take_le (ts : List T) : ∀ k, (text (ts.take k)).length ≤ (text ts).length := by
  have h1 : ∀ (us : List T) k, (textFrom (us.take k)).length ≤ (textFrom us).length := by
    intro us
    induction us with
    | nil => intro k; simp [textFrom]
    | cons u us ih =>
      intro k
      cases k with
      | zero => simp [textFrom]
      | succ k => have := ih k; simp only [List.take_succ_cons, textFrom, List.length_cons, List.length_append]; omega
  intro k
  cases ts with
  | nil => simp [text]
  | cons u us =>
    cases k with
    | zero => simp [text]
    | succ k => have := h1 us k; simp only [List.take_succ_cons, text, List.length_append]; omega
/-- The table of the powers of ten stands as the text lays it. -/
def Tab (w : World) : Prop := Lib.TabIs Tryd.prog w "internal/strconv.uint64pow10" .u64 Lib.pow10Tab
theorem Tab.later {B : Nat} {w w' : World} (h : Tab w) (hb : Below B w w') (hB : w.heap.size ≤ B) : Tab w' := Joins.tab_stays gPow h hb hB
/-- A number that fits an int. -/
def Fits (t : T) : Prop := -9223372036854775808 ≤ t.n ∧ t.n ≤ 9223372036854775807
set_option maxHeartbeats 1000000 in
theorem oneTokText_is (t : T) (ht : Fits t) (w : World) (hE : Tab w) :
    Calls Tryd.prog 39 #[.agg #[.int .i64 t.k, .string ⟨t.s.toArray⟩, .int .i64 t.n]] w fun e w' => e = .returned (.string ⟨(text1 t).toArray⟩) ∧ Below w.heap.size w w' := by
  by_cases hk : t.k = 2
  · have Ht : Hid (text1 t = itoa t.n) := show text1 t = itoa t.n by rw [text1, if_pos hk]
    have hE1 : Tab (w.alloc (.cells #[.int .i64 2, .string ⟨t.s.toArray⟩, .int .i64 t.n] 47)) := hE.later ((Below.refl _ w).alloc (Nat.le_refl _) _) (Nat.le_refl _)
    go_enter Tryd.func39, Tryd.ntmps39
    go_wp2_with fail
    refine (impl_NumText t.n ht.1 ht.2 _ hE1).mono ?_
    rintro e w1 ⟨rfl, hb⟩
    have hw := below3 hb
    clear hb
    go_wp2
    go_ret
    exact ⟨ret_str (by rw [Ht.out]), hw⟩
  · have Ht : Hid (text1 t = t.s) := show text1 t = t.s by rw [text1, if_neg hk]
    have hk' : (t.k == 2) = false := by rw [beq_eq_false_iff_ne]; exact hk
    clear hk
    go_enter Tryd.func39, Tryd.ntmps39
    go_wp2
    go_ret
    exact ⟨ret_str (by rw [Ht.out]), (Below.refl _ w).alloc (Nat.le_refl _) _⟩
theorem bld_below {B b : Nat} {l : List UInt8} {w w' : World} (h : Bld B b l w) (hb : Below w.heap.size w w') : Bld B b l w' := by
  have key : ∀ p, Lib.BuilderAtF 56 5 B b p (Lib.byteCells l) w → Lib.BuilderAtF 56 5 B b p (Lib.byteCells l) w' := by
    rintro p ⟨hB, v, hbk, hown, hne⟩
    refine ⟨hB, v, (hb.block b (lt_blk hbk)).trans hbk, ⟨hown.1, ?_⟩, hne⟩
    rcases hown.2 with h0 | ⟨g, cap, cur, fz, h1, h2, h3, h4⟩
    · exact .inl h0
    · exact .inr ⟨g, cap, cur, fz, h1, h2, (hb.block g (lt_blk h3)).trans h3, h4⟩
  exact h.elim (fun x => .inl (key _ x)) (fun x => .inr (key _ x))
/-- A struct of three cells that was just laid lies there still, whatever a builder has written. -/
theorem kept3 {w w1 : World} {b : Nat} {x y z : Value} (hk : Lib.OthersKept 5 (some b) (w.alloc (.cells #[x, y, z] 47)) w1) (hb : b < w.heap.size) : w1.heap[w.heap.size]? = some (.cells #[x, y, z] 47 (0, 0)) := by
  refine hk w.heap.size _ ?_ (by intro e; injection e with e; omega) (by intro c fz e; injection e with _ e _; exact absurd e (by decide))
  show (w.heap.push (Obj.cells #[x, y, z] 47 (0, 0)))[w.heap.size]? = _
  simp
theorem sz_text (l : List UInt8) : (⟨l.toArray⟩ : ByteArray).size = l.length := by show l.toArray.size = _; simp
set_option maxHeartbeats 4000000 in
set_option maxRecDepth 100000 in
theorem impl_TokText (ts : List T) (hts : ∀ t ∈ ts, Fits t) (hn : ts.length ≤ 100000000) (hlen : (text ts).length ≤ 1000000000000) (v : Value) (w : World) (hE : Tab w) (hr : Row w v ts) :
    Calls Tryd.prog 15 #[v] w fun e w' => e = .returned (.string ⟨(text ts).toArray⟩) ∧ Below w.heap.size w w' := by
  obtain ⟨ao, cap, rfl, hr⟩ := hr
  have Hts := Lib.hid hts
  have Hlen := Lib.hid hlen
  have Hn := Lib.hid hn
  clear hts hlen
  go_enter Tryd.func15, Tryd.ntmps15
  go_wp2
  go_loopw [8] (fun i wr => ∃ k : Nat, k ≤ ts.length ∧ i = .int .i64 k ∧ Bld w.heap.size w.heap.size (text (ts.take k)) wr ∧ Below w.heap.size w wr) (fun i _ => ts.length - (RowKit.intOf i).toNat)
  case atStart =>
    refine ⟨0, by omega, rfl, ?_, (Below.refl _ w).alloc (Nat.le_refl _) _⟩
    exact Lib.IsBuilderF.of (Lib.fresh_isBuilder 56 5 w)
  case round =>
    obtain ⟨k, hk, rfl, hB, hbw⟩ := hrel
    by_cases hlt : k < ts.length
    · have hltI : (k : Int) < (ts.length : Int) := by omega
      obtain ⟨t, ht⟩ : ∃ t, ts[k]? = some t := ⟨ts[k], List.getElem?_eq_getElem hlt⟩
      have hfit : Fits t := Hts.out t (List.mem_of_getElem? ht)
      rcases hr with hr | ⟨g, rfl, gl, hc⟩
      · subst hr; simp at hlt
      obtain ⟨a0, a1, a2⟩ := hc k t ht
      have A0 := (hbw.cell (p := ⟨g, k * 3, Option.none⟩) gl).trans a0
      have A1 := (hbw.cell (p := ⟨g, k * 3 + 1, Option.none⟩) gl).trans a1
      have A2 := (hbw.cell (p := ⟨g, k * 3 + 2, Option.none⟩) gl).trans a2
      have hl1 := Nat.le_trans (text_take_le ts (k + 1)) Hlen.out
      have hsz := hbw.size
      have hbb : w.heap.size < wr.heap.size := by
        rcases hB with h | h
        · exact lt_blk h.2.choose_spec.1
        · exact lt_blk h.2.choose_spec.1
      clear a0 a1 a2 hc
      by_cases hk0 : k = 0
      · subst hk0
        have htx := text_take_zero ht
        have Htx := Lib.hid htx
        rw [htx] at hl1
        clear htx ht
        have hB0 : Bld w.heap.size w.heap.size [] (wr.alloc (.cells #[.int .i64 t.k, .string ⟨t.s.toArray⟩, .int .i64 t.n] 47)) := by
          have := Lib.IsBuilderF.alloc hB (.cells #[.int .i64 t.k, .string ⟨t.s.toArray⟩, .int .i64 t.n] 47)
          simpa [text] using this
        have hbw1 := hbw.alloc hbw.size (.cells #[.int .i64 t.k, .string ⟨t.s.toArray⟩, .int .i64 t.n] 47)
        have hE1 := hE.later hbw1 (Nat.le_refl _)
        clear hB
        go_wp2_with fail
        refine (oneTokText_is t hfit _ hE1).mono ?_
        rintro e w2 ⟨rfl, hb2⟩
        have hB2 := bld_below hB0 hb2
        have hbw2 := hbw1.trans (hb2.mono hbw1.size)
        clear hB0 hE1 hbw1 hbw A0 A1 A2
        go_wp2_with fail
        refine (WriteString_is _ _ _ _ _ hB2 (by rw [sz_text]; simp; omega) hbw2.size).mono ?_
        rintro e w3 ⟨rfl, hB3, hb3, _⟩
        have hbw3 := hbw2.trans hb3
        clear hB2 hb3 hbw2 hb2
        go_wp2
        go_roundw
        case rel => exact ⟨1, by omega, by go_num, by rw [Htx.out]; simpa using hB3, hbw3⟩
        case measure => simp [RowKit.intOf]; omega
      · have hk0' : (0 : Int) < (k : Int) := by omega
        have htx := text_take_succ ht (by omega)
        have Htx := Lib.hid htx
        rw [htx, List.length_append, List.length_append] at hl1
        simp only [List.length_cons, List.length_nil] at hl1
        clear htx ht
        have hB0 := Lib.IsBuilderF.alloc hB (.cells #[.int .i64 t.k, .string ⟨t.s.toArray⟩, .int .i64 t.n] 47)
        have hbw1 := hbw.alloc hbw.size (.cells #[.int .i64 t.k, .string ⟨t.s.toArray⟩, .int .i64 t.n] 47)
        clear hB hk0
        go_wp2_with fail
        refine (WriteByte_is _ _ _ 32 _ hB0 (by omega) hbw1.size).mono ?_
        rintro e w2 ⟨rfl, hB2, hb2, hk2⟩
        obtain ⟨⟨c0, c1, c2⟩, _⟩ := cell3 (kept3 hk2 hbb)
        have hbw2 := hbw1.trans hb2
        have hE2 := hE.later hbw2 (Nat.le_refl _)
        clear hB0 hbw1 hbw A0 A1 A2 hk2 hb2
        go_wp2_with fail
        refine (oneTokText_is t hfit _ hE2).mono ?_
        rintro e w3 ⟨rfl, hb3⟩
        have hB3 := bld_below hB2 hb3
        have hbw3 := hbw2.trans (hb3.mono hbw2.size)
        clear hB2 hE2 hbw2 c0 c1 c2 hb3
        go_wp2_with fail
        refine (WriteString_is _ _ _ _ _ hB3 (by rw [sz_text, List.length_append]; simp; omega) hbw3.size).mono ?_
        rintro e w4 ⟨rfl, hB4, hb4, _⟩
        have hbw4 := hbw3.trans hb4
        clear hB3 hb4 hbw3
        go_wp2
        go_roundw
        case rel => exact ⟨k + 1, by omega, by go_num, by rw [Htx.out]; exact hB4, hbw4⟩
        case measure => simp [RowKit.intOf]; omega
    · have hkk : ts.take k = ts := List.take_of_length_le (by omega)
      rw [hkk] at hB
      go_wp2_with fail
      refine (String_is _ _ _ _ hB hbw.size).mono ?_
      rintro e w2 ⟨rfl, hb2⟩
      have hbw2 := hbw.trans hb2
      clear hB hb2 hbw
      go_wp2
      go_ret
      exact ⟨rfl, hbw2⟩
theorem cat2 (a b : List UInt8) : (⟨a.toArray⟩ : ByteArray) ++ ⟨b.toArray⟩ = ⟨(a ++ b).toArray⟩ := cat1 a b
set_option maxHeartbeats 4000000 in
set_option maxRecDepth 100000 in
theorem spec_TokText (ts : List T) (hts : ∀ t ∈ ts, Fits t) (hn : ts.length ≤ 100000000) (hlen : (text ts).length ≤ 1000000000000) (v : Value) (w : World) (hr : Row w v ts) :
    Calls Tryd.prog 16 #[v] w fun e w' => e = .returned (.string ⟨(text ts).toArray⟩) ∧ Below w.heap.size w w' := by
  obtain ⟨ao, cap, rfl, hr⟩ := hr
  have Hts := Lib.hid hts
  have Hlen := Lib.hid hlen
  have Hn := Lib.hid hn
  clear hts hlen
  go_enter Tryd.func16, Tryd.ntmps16
  go_wp2
  go_loopw [3, 4] (fun x i wr => ∃ k : Nat, k ≤ ts.length ∧ i = .int .i64 k ∧ x = .string ⟨(text (ts.take k)).toArray⟩ ∧ Below w.heap.size w wr) (fun _ i _ => ts.length - (RowKit.intOf i).toNat)
  case atStart => exact ⟨0, by omega, rfl, rfl, Below.refl _ _⟩
  case round =>
    obtain ⟨k, hk, rfl, rfl, hbw⟩ := hrel
    by_cases hlt : k < ts.length
    · have hltI : (k : Int) < (ts.length : Int) := by omega
      obtain ⟨t, ht⟩ : ∃ t, ts[k]? = some t := ⟨ts[k], List.getElem?_eq_getElem hlt⟩
      have hfit : Fits t := Hts.out t (List.mem_of_getElem? ht)
      rcases hr with hr | ⟨g, rfl, gl, hc⟩
      · subst hr; simp at hlt
      obtain ⟨a0, a1, a2⟩ := hc k t ht
      have A0 := (hbw.cell (p := ⟨g, k * 3, Option.none⟩) gl).trans a0
      have A1 := (hbw.cell (p := ⟨g, k * 3 + 1, Option.none⟩) gl).trans a1
      have A2 := (hbw.cell (p := ⟨g, k * 3 + 2, Option.none⟩) gl).trans a2
      have hl1 := Nat.le_trans (text_take_le ts (k + 1)) Hlen.out
      clear a0 a1 a2 hc
      by_cases hk0 : k = 0
      · have hk0I : ¬ (0 : Int) < (k : Int) := by omega
        have H0 : Hid (text (ts.take k) = []) := show text (ts.take k) = [] by rw [hk0]; rfl
        have Htx : Hid (text (ts.take (k + 1)) = text1 t) := show text (ts.take (k + 1)) = text1 t by subst hk0; exact text_take_zero ht
        have hl0 : (text (ts.take k)).length ≤ 0 := by rw [H0.out]; exact Nat.le_refl _
        rw [Htx.out] at hl1
        clear ht hk0
        by_cases h2 : t.k = 2
        · have Ht : Hid (text1 t = itoa t.n) := show text1 t = itoa t.n by rw [text1, if_pos h2]
          rw [Ht.out] at hl1
          go_wp2_with fail
          refine (spec_NumText t.n hfit.1 hfit.2 _).mono ?_
          rintro e w1 ⟨rfl, hb1⟩
          have hbw1 := hbw.trans (hb1.mono hbw.size)
          clear A0 A1 A2 hb1 hbw
          go_wp2
          go_roundw
          case rel => exact ⟨k + 1, by omega, by go_num, val_str (by rw [Htx.out, Ht.out, H0.out, cat2]; rfl), hbw1⟩
          case measure => simp [RowKit.intOf]; omega
        · have Ht : Hid (text1 t = t.s) := show text1 t = t.s by rw [text1, if_neg h2]
          have h2' : (t.k == 2) = false := by rw [beq_eq_false_iff_ne]; exact h2
          rw [Ht.out] at hl1
          clear h2
          go_wp2
          go_roundw
          case rel => exact ⟨k + 1, by omega, by go_num, val_str (by rw [Htx.out, Ht.out, H0.out, cat2]; rfl), hbw⟩
          case measure => simp [RowKit.intOf]; omega
      · have hk0' : (0 : Int) < (k : Int) := by omega
        have htx := text_take_succ ht (by omega)
        have Htx := Lib.hid htx
        rw [htx, List.length_append, List.length_append] at hl1
        simp only [List.length_cons, List.length_nil] at hl1
        clear htx ht hk0
        by_cases h2 : t.k = 2
        · have Ht : Hid (text1 t = itoa t.n) := show text1 t = itoa t.n by rw [text1, if_pos h2]
          rw [Ht.out] at hl1
          go_wp2_with fail
          refine (spec_NumText t.n hfit.1 hfit.2 _).mono ?_
          rintro e w1 ⟨rfl, hb1⟩
          have hbw1 := hbw.trans (hb1.mono hbw.size)
          clear A0 A1 A2 hb1 hbw
          go_wp2
          go_roundw
          case rel => exact ⟨k + 1, by omega, by go_num, val_str (by rw [Htx.out, Ht.out, ← cat2, ← cat2]), hbw1⟩
          case measure => simp [RowKit.intOf]; omega
        · have Ht : Hid (text1 t = t.s) := show text1 t = t.s by rw [text1, if_neg h2]
          have h2' : (t.k == 2) = false := by rw [beq_eq_false_iff_ne]; exact h2
          rw [Ht.out] at hl1
          clear h2
          go_wp2
          go_roundw
          case rel => exact ⟨k + 1, by omega, by go_num, val_str (by rw [Htx.out, Ht.out, ← cat2, ← cat2]), hbw⟩
          case measure => simp [RowKit.intOf]; omega
    · have hkk : ts.take k = ts := List.take_of_length_le (by omega)
      rw [hkk]
      go_wp2
      go_ret
      exact ⟨rfl, hbw⟩
end Go.Proofs.YtoogikibmdjpiaaDoor
