/-
  Texts in one: AstPOpen, RngRow, TokRune, NumPlain, TokPlain.
-/
import Derived.Test.YtphegbnnijehbaaP01ofRounds
import Derived.Test.YtphegbnnijehbaaP02ofRounds
import Derived.Test.YtphegbnnijehbaaRows
import Derived.WalkKit
import Derived.WalkLawsBesides
import Derived.Laws.Runes
import Derived.Laws.RangeAny
import Derived.Lib.OthersKept
import Derived.Lib.Hide
import Derived.WalkMore
import Derived.Laws.Strings2
import Derived.Laws.Strings3
import Derived.Laws.DeepStrings4
import Derived.Deep.QuietTactic
import Derived.BigQuiet
import Derived.RowKit
import Derived.Lib.Atoi
import Derived.Lib.AtoiAll
import Derived.Lib.AtoiAllCases
import Derived.Lib.AtoiTie
import Derived.Lib.ItoaNum
import Derived.Lib.ItoaMem
import Derived.Stop.FmtRuneSmall
/-
  Programs that came in, opened; a program in two cells.
-/
namespace Go.Proofs.Ytphegbnnijehbaa
open Go.ChangeShapes Go.WideShapes Go.ChangeAt Go.RowKit
set_option linter.unusedSimpArgs false
set_option linter.unusedVariables false

section
variable {H : Type} {enc : TypeId × Value → H} {W : World} {sp : Nat → Bool} {held : Bool}
theorem build_arrs {b o len : Nat} (each : ∀ i, i < len → ∃ t : AR, t.s.size ≤ 9223372036854775807 ∧ W.cell? ⟨b, o + i * 2, Option.none⟩ = some (.string t.s) ∧ W.cell? ⟨b, o + i * 2 + 1, Option.none⟩ = some (.int .i64 t.n)) :
    ∀ d, d ≤ len → ∃ R : List AR, R.length = d ∧ (∀ t ∈ R, t.s.size ≤ 9223372036854775807) ∧ ∀ i t, R[i]? = some t → W.cell? ⟨b, o + i * 2, Option.none⟩ = some (.string t.s) ∧ W.cell? ⟨b, o + i * 2 + 1, Option.none⟩ = some (.int .i64 t.n)
  | 0, _ => ⟨[], rfl, fun _ h => by simp at h, fun i t h => by simp at h⟩
  | d + 1, hd => by
    obtain ⟨R, h1, h2, h3⟩ := build_arrs each d (by omega)
    obtain ⟨t, k, c0, c1⟩ := each d (by omega)
    refine ⟨R ++ [t], by simp [h1], fun u hu => ?_, fun i u hu => ?_⟩
    · rcases List.mem_append.1 hu with hu | hu
      · exact h2 u hu
      · simp only [List.mem_cons, List.not_mem_nil, or_false] at hu; subst hu; exact k
    · rcases Nat.lt_or_ge i R.length with hi | hi
      · rw [List.getElem?_append_left hi] at hu; exact h3 i u hu
      · rw [List.getElem?_append_right hi] at hu
        have hi2 : i = d := by have := (List.getElem?_eq_some_iff.1 hu).1; simp at this; omega
        subst hi2
        rw [h1, Nat.sub_self] at hu
        simp at hu; subst hu; exact ⟨c0, c1⟩
end
/-- A program in two cells of a block. -/
structure Pt (w0 w : World) (n : Nat) (va vb : Value) (ts : List AR) (F : SF) : Prop where
  rg : w.rangeAt n 0 [va, vb]
  av : AV w 0 va ts
  sv : SV w 0 F vb
  low : Below w0.heap.size w0 w
theorem Pt.later {w0 w w' : World} {n : Nat} {va vb : Value} {ts : List AR} {F : SF} (h : Pt w0 w n va vb ts F) (hb : Below w.heap.size w w') : Pt w0 w' n va vb ts F :=
  ⟨rangeAt_later h.rg hb, h.av.later hb, h.sv.later hb, h.low.trans (hb.mono h.low.size)⟩
theorem Pt.start {w : World} (t : TypeId) {va vb : Value} {ts : List AR} {F : SF} (ha : AV w 0 va ts) (hb : SV w 0 F vb) : Pt w (w.alloc (.cells #[va, vb] t)) w.heap.size va vb ts F :=
  ⟨blk_range (arr := #[va, vb]) (heap_last _ _), ha.later (alloc_below _ _), hb.later (alloc_below _ _), alloc_below _ _⟩
theorem newblk2 {w W : World} {t : TypeId} {x y : Value} (a b : Value) (hW : (w.alloc (.cells #[x, y] t)).setCells w.heap.size 0 [a, b] = W) : W.rangeAt w.heap.size 0 [a, b] ∧ Below w.heap.size w W := by
  subst hW
  exact ⟨World.rangeAt_setCells_same _ _ _ _ (blk_there (arr := #[x, y]) (t := t) (heap_last _ _) (Nat.le_refl 2)), below_sets _ _ (alloc_below _ _) (Nat.le_refl _)⟩
theorem oneP {a b : Value} (ha : a.oneCell' = true) (hb : b.oneCell' = true) : (#[a, b] : Array Value).all (·.oneCell') = true :=
  all_oneCell_toArray (cs := [a, b]) (fun v hv => by
    simp only [List.mem_cons, List.not_mem_nil, or_false] at hv
    rcases hv with rfl | rfl <;> assumption)
theorem AV.isOne {w : World} {lo : Nat} {v : Value} {ts : List AR} (h : AV w lo v ts) : v.oneCell' = true := by obtain ⟨a, c, rfl⟩ := h.shape; rfl
end Go.Proofs.Ytphegbnnijehbaa
/-
  Rows of ranges: how they lie in memory, their sizes, copies, and whether they are the same; rows that came in, opened.
-/
namespace Go.Proofs.Ytphegbnnijehbaa
open Go.RowKit Go.Lib
set_option linter.unusedSimpArgs false
set_option linter.unusedVariables false

/-- A range: its name, from where, to where. -/
structure RG where
  s : ByteArray
  lo : Int
  hi : Int
/-- A slice that holds these ranges, at l or above. -/
def RV (w : World) (l : Nat) (v : Value) (ts : List RG) : Prop :=
  ∃ ao cap, v = .slice ao ts.length cap ∧ ts.length ≤ cap ∧ (ts = [] ∨ ∃ g off, ao = some ⟨g, off, Option.none⟩ ∧ l ≤ g ∧ g < w.heap.size ∧ ∀ i t, ts[i]? = some t →
    w.cell? ⟨g, off + i * 3, Option.none⟩ = some (.string t.s) ∧ w.cell? ⟨g, off + i * 3 + 1, Option.none⟩ = some (.int .i64 t.lo) ∧ w.cell? ⟨g, off + i * 3 + 2, Option.none⟩ = some (.int .i64 t.hi))
theorem RV.same {w w' : World} {lo lo' : Nat} {v : Value} {ts : List RG} (hlo : lo' ≤ lo) (h : RV w lo v ts) (hk : Keeps lo w w') (hz : w.heap.size ≤ w'.heap.size) : RV w' lo' v ts := by
  obtain ⟨ao, cap, hv, hcap, h⟩ := h
  refine ⟨ao, cap, hv, hcap, ?_⟩
  rcases h with h | ⟨g, off, h1, h0, h2, h3⟩
  · exact .inl h
  · refine .inr ⟨g, off, h1, Nat.le_trans hlo h0, Nat.lt_of_lt_of_le h2 hz, fun i t hi => ?_⟩
    obtain ⟨a, b, c⟩ := h3 i t hi
    exact ⟨hk _ _ h0 a, hk _ _ h0 b, hk _ _ h0 c⟩
theorem RV.later {w w' : World} {lo : Nat} {v : Value} {ts : List RG} (h : RV w lo v ts) (hb : Below w.heap.size w w') : RV w' lo v ts := h.same (Nat.le_refl _) (Keeps.later hb) hb.size
theorem RV.low {w : World} {lo : Nat} {v : Value} {ts : List RG} (h : RV w lo v ts) : RV w 0 v ts := h.same (Nat.zero_le _) (Keeps.refl _ _) (Nat.le_refl _)
theorem RV.shape {w : World} {lo : Nat} {v : Value} {ts : List RG} (h : RV w lo v ts) : ∃ a c, v = .slice a ts.length c := by obtain ⟨a, c, h1, _⟩ := h; exact ⟨a, c, h1⟩
theorem RV.isOne {w : World} {lo : Nat} {v : Value} {ts : List RG} (h : RV w lo v ts) : v.oneCell' = true := by obtain ⟨a, c, rfl⟩ := h.shape; rfl
/-- How many bytes their names have together. -/
def rbytes : List RG → Nat
  | [] => 0
  | t :: ts => t.s.size + rbytes ts
def rsize8 (ts : List RG) : Nat := ts.length + rbytes ts
theorem rbytes_snoc (ts : List RG) (t : RG) : rbytes (ts ++ [t]) = rbytes ts + t.s.size := by
  induction ts with
  | nil => simp [rbytes]
  | cons u us ih => simp only [List.cons_append, rbytes, ih]; omega
theorem rbytes_take (ts : List RG) (k : Nat) : rbytes (ts.take k) ≤ rbytes ts := by
  induction ts generalizing k with
  | nil => simp [rbytes]
  | cons u us ih => cases k with
    | zero => simp [rbytes]
    | succ k => have := ih k; simp only [List.take_succ_cons, rbytes]; omega
theorem rbytes_mem {ts : List RG} {t : RG} (h : t ∈ ts) : t.s.size ≤ rbytes ts := by
  induction ts with
  | nil => simp at h
  | cons u us ih =>
    rcases List.mem_cons.1 h with rfl | h
    · simp only [rbytes]; omega
    · have := ih h; simp only [rbytes]; omega
theorem take_snocR {ts : List RG} {k : Nat} {t : RG} (h : ts[k]? = some t) : ts.take (k + 1) = ts.take k ++ [t] := by
  rw [List.take_add_one, h]; rfl
/-- The cells of a row of ranges. -/
def rcells8 : List RG → List Value
  | [] => []
  | t :: ts => .string t.s :: .int .i64 t.lo :: .int .i64 t.hi :: rcells8 ts
theorem rcells8_len (ts : List RG) : (rcells8 ts).length = ts.length * 3 := by
  induction ts with
  | nil => rfl
  | cons t ts ih => simp only [rcells8, List.length_cons, ih]; omega
theorem rcells8_snoc (ts : List RG) (t : RG) : rcells8 (ts ++ [t]) = rcells8 ts ++ [.string t.s, .int .i64 t.lo, .int .i64 t.hi] := by
  induction ts with
  | nil => rfl
  | cons u us ih => simp only [List.cons_append, rcells8, ih]
theorem rcells8_get (ts : List RG) : ∀ i t, ts[i]? = some t → (rcells8 ts)[i * 3]? = some (.string t.s) ∧ (rcells8 ts)[i * 3 + 1]? = some (.int .i64 t.lo) ∧ (rcells8 ts)[i * 3 + 2]? = some (.int .i64 t.hi) := by
  induction ts with
  | nil => intro i t h; simp at h
  | cons u us ih =>
    intro i t h
    cases i with
    | zero => simp at h; subst h; exact ⟨rfl, rfl, rfl⟩
    | succ i =>
      have := ih i t (by simpa using h)
      rw [show (i + 1) * 3 = i * 3 + 3 by omega]
      simpa [rcells8] using this
theorem RV.laid {w : World} {g c : Nat} {ts : List RG} (hcap : ts.length ≤ c) (hg : g < w.heap.size) (hr : w.rangeAt g 0 (rcells8 ts)) : RV w g (.slice (some ⟨g, 0, Option.none⟩) ts.length c) ts :=
  ⟨_, c, rfl, hcap, .inr ⟨g, 0, rfl, Nat.le_refl _, hg, fun i t hi => ⟨hr _ _ (rcells8_get ts i t hi).1, by have := hr _ _ (rcells8_get ts i t hi).2.1; rwa [← Nat.add_assoc] at this, by have := hr _ _ (rcells8_get ts i t hi).2.2; rwa [← Nat.add_assoc] at this⟩⟩⟩
theorem all3r (t : ByteArray) (k n : Int) : (#[.string t, .int .i64 k, .int .i64 n] : Array Value).all (·.oneCell') = true :=
  all_oneCell_toArray (cs := [.string t, .int .i64 k, .int .i64 n]) (fun v hv => by
    simp only [List.mem_cons, List.not_mem_nil, or_false] at hv
    rcases hv with rfl | rfl | rfl <;> rfl)
set_option maxHeartbeats 1000000 in
theorem szRng_is (t : RG) (ht : t.s.size ≤ 9223372036854775807) (left : Int) (h0 : 0 ≤ left) (h1 : left ≤ 1048576) (w : World) :
    Calls Try.prog 41 #[.agg #[.string t.s, .int .i64 t.lo, .int .i64 t.hi], .int .i64 left] w (Sz t.s.size left w) := by
  have hsI : (t.s.size : Int) ≤ 9223372036854775807 := by omega
  by_cases h : left < (t.s.size : Int)
  · have h' : left - (t.s.size : Int) < 0 := by omega
    go_enter Try.func41, Try.ntmps41
    go_wp2
    all_goals first
      | omega
      | (go_ret; exact Sz.less h (alloc_below _ _))
  · have h' : ¬ left - (t.s.size : Int) < 0 := by omega
    go_enter Try.func41, Try.ntmps41
    go_wp2
    all_goals first
      | omega
      | (go_ret; exact Sz.more (by omega) rfl (alloc_below _ _))
set_option maxHeartbeats 2000000 in
theorem szRngS_is (ts : List RG) (hts : ∀ t ∈ ts, t.s.size ≤ 9223372036854775807) (hM : ts.length ≤ 9223372036854775807) (v : Value) (w : World) (hr : RV w 0 v ts) (left : Int) (h0 : 0 ≤ left) (h1 : left ≤ 1048576) :
    Calls Try.prog 18 #[v, .int .i64 left] w (Sz (rsize8 ts) left w) := by
  obtain ⟨ao, cap, rfl, _, hr⟩ := hr
  have Hts := Lib.hid hts
  clear hts
  obtain ⟨L0, rfl⟩ : ∃ L0 : Nat, left = (L0 : Int) := ⟨left.toNat, by omega⟩
  have HZ : Hid (rsize8 ts = ts.length + rbytes ts) := show rsize8 ts = ts.length + rbytes ts from rfl
  have hMI : (ts.length : Int) ≤ 9223372036854775807 := by omega
  by_cases hbig : (L0 : Int) < (ts.length : Int)
  · have hb' : (L0 : Int) - (ts.length : Int) < 0 := by omega
    go_enter Try.func18, Try.ntmps18
    go_wp2
    all_goals first
      | omega
      | (go_ret; exact Sz.less (by rw [HZ.out]; omega) (Below.refl _ _))
  · have hb' : ¬ (L0 : Int) - (ts.length : Int) < 0 := by omega
    go_enter Try.func18, Try.ntmps18
    go_wp2
    go_loopw [1, 5] (fun x i wr => ∃ k left : Nat, k ≤ ts.length ∧ i = .int .i64 k ∧ x = .int .i64 (left : Int) ∧ Hid (left + ts.length + rbytes (ts.take k) = L0) ∧ Below w.heap.size w wr) (fun _ i _ => ts.length - (RowKit.intOf i).toNat)
    case atStart => exact ⟨0, L0 - ts.length, by omega, rfl, val_intA (by omega), (by show L0 - ts.length + ts.length + 0 = L0; omega), Below.refl _ _⟩
    case round =>
      obtain ⟨k, left, hk, rfl, rfl, hl, hbw⟩ := hrel
      have hlb := hl.out
      by_cases hlt : k < ts.length
      · have hltI : (k : Int) < (ts.length : Int) := by omega
        obtain ⟨t, ht⟩ : ∃ t, ts[k]? = some t := ⟨ts[k], List.getElem?_eq_getElem hlt⟩
        have htl := Hts.out t (List.mem_of_getElem? ht)
        rcases hr with hr | ⟨g, off, rfl, _, gl, hc⟩
        · subst hr; simp at hlt
        obtain ⟨a0, a1, a2⟩ := hc k t ht
        have A0 := (hbw.cell (p := ⟨g, off + k * 3, Option.none⟩) gl).trans a0
        have A1 := (hbw.cell (p := ⟨g, off + k * 3 + 1, Option.none⟩) gl).trans a1
        have A2 := (hbw.cell (p := ⟨g, off + k * 3 + 2, Option.none⟩) gl).trans a2
        have Htk : Hid (rbytes (ts.take (k + 1)) = rbytes (ts.take k) + t.s.size ∧ rbytes (ts.take (k + 1)) ≤ rbytes ts) := ⟨by rw [take_snocR ht, rbytes_snoc], rbytes_take _ _⟩
        have hl0 : (0 : Int) ≤ (left : Int) := by omega
        have hl1 : (left : Int) ≤ 1048576 := by omega
        clear a0 a1 a2 hc ht
        by_cases hd : (left : Int) < (t.s.size : Int)
        · go_wp2_with fail
          refine (szRng_is t htl (left : Int) hl0 hl1 _).mono ?_
          rintro e w1 ⟨rfl, hb1⟩
          rw [if_pos hd]
          have hbw1 := hbw.trans (hb1.mono hbw.size)
          clear hb1 hbw A0 A1 A2
          go_wp2
          go_ret
          exact Sz.less (by have := Htk.out; rw [HZ.out]; omega) hbw1
        · go_wp2_with fail
          refine (szRng_is t htl (left : Int) hl0 hl1 _).mono ?_
          rintro e w1 ⟨rfl, hb1⟩
          rw [if_neg (by omega)]
          have hbw1 := hbw.trans (hb1.mono hbw.size)
          have hnn : ¬ (left : Int) - (t.s.size : Int) < 0 := by omega
          clear hb1 hbw A0 A1 A2
          go_wp2
          all_goals first
            | omega
            | (go_roundw
               case rel => exact ⟨k + 1, left - t.s.size, by omega, by go_num, val_intA (by omega), (by have h1 := hl.out; have h2 := Htk.out; show left - t.s.size + ts.length + rbytes (ts.take (k + 1)) = L0; omega), hbw1⟩
               case measure => simp [RowKit.intOf]; omega)
      · have hkk : ts.take k = ts := List.take_of_length_le (by omega)
        rw [hkk] at hlb
        go_wp2
        go_ret
        exact Sz.more (by rw [HZ.out]; omega) (by rw [HZ.out]; omega) hbw
set_option maxHeartbeats 1000000 in
theorem toRng_is (t : RG) (w : World) :
    Calls Try.prog 45 #[.agg #[.string t.s, .int .i64 t.lo, .int .i64 t.hi]] w fun e w' => e = .returned (.agg #[.string t.s, .int .i64 t.lo, .int .i64 t.hi]) ∧ Below w.heap.size w w' := by
  go_enter Try.func45, Try.ntmps45
  go_wp2
  exact bodyPost_ret (v := .agg #[.string t.s, .int .i64 t.lo, .int .i64 t.hi]) (by simp [results, Try.results45, go_sem]) rfl ⟨rfl, (((Below.refl _ w).alloc (Nat.le_refl _) _).alloc (by simp) _).alloc (by simp; omega) _⟩
theorem infoIR9 : (Try.prog.info? 33).map (fun i => (i.zero, i.size, i.bytes)) = some (some (.agg #[.string ⟨#[]⟩, .int .i64 0, .int .i64 0]), 3, 32) := by kernel_rfl
theorem sizeIR9 : (Try.prog.info? 33).map (·.size) = some 3 := by kernel_rfl
set_option maxHeartbeats 2000000 in
theorem toRngS_is (ts : List RG) (hn : ts.length ≤ 1048576) (v : Value) (w : World) (hr : RV w 0 v ts) :
    Calls Try.prog 20 #[v] w fun e w' => ∃ v', e = .returned v' ∧ RV w' w.heap.size v' ts ∧ Below w.heap.size w w' := by
  obtain ⟨ao, cap, rfl, _, hr⟩ := hr
  obtain ⟨i0, hi, hz0, hz1, hz2⟩ := info_parts infoIR9
  go_enter Try.func20, Try.ntmps20
  go_wp2_with (refine wpList_make_full _ rfl _ _ 27 rfl w.heap.size 33 i0 _ 3 Try.underlying27 hi hz0 hz1 .i64 .i64 _ _ ts.length rfl rfl rfl rfl ?c1 ?c2 ?c3 ?_)
  case c1 => rw [hz2]; omega
  case c2 => unfold maxLen; omega
  case c3 => exact Nat.le_refl _
  intro w1 hown hgrow
  obtain ⟨cur, hcur, _, hcs, _⟩ := own_block hown
  have hbw : Below w.heap.size w w1 := (Below.refl _ w).grown hgrow (Nat.le_refl _) (fun k hk => by cases hk)
  have Hth : Hid (w1.there w.heap.size 0 (ts.length * 3)) := blk_there hcur (by omega)
  have hsz : w.heap.size < w1.heap.size := (Array.getElem?_eq_some_iff.1 hcur).1
  clear hown hgrow hcur hcs
  go_wp2
  go_loopw [4] (fun i wr => ∃ k : Nat, k ≤ ts.length ∧ i = .int .i64 k ∧ Hid (wr.there w.heap.size 0 (ts.length * 3) ∧ wr.rangeAt w.heap.size 0 (rcells8 (ts.take k)) ∧ w.heap.size < wr.heap.size) ∧ Below w.heap.size w wr) (fun i _ => ts.length - (RowKit.intOf i).toNat)
  case atStart => exact ⟨0, by omega, rfl, ⟨Hth.out, (fun j v hv => by simp [rcells8] at hv), hsz⟩, hbw⟩
  case round =>
    obtain ⟨k, hk, rfl, hm, hb⟩ := hrel
    by_cases hlt : k < ts.length
    · have hltI : (k : Int) < (ts.length : Int) := by omega
      obtain ⟨t, ht⟩ : ∃ t, ts[k]? = some t := ⟨ts[k], List.getElem?_eq_getElem hlt⟩
      rcases hr with hr | ⟨g, off, rfl, _, gl, hc⟩
      · subst hr; simp at hlt
      obtain ⟨a0, a1, a2⟩ := hc k t ht
      have A0 := (hb.cell (p := ⟨g, off + k * 3, Option.none⟩) gl).trans a0
      have A1 := (hb.cell (p := ⟨g, off + k * 3 + 1, Option.none⟩) gl).trans a1
      have A2 := (hb.cell (p := ⟨g, off + k * 3 + 2, Option.none⟩) gl).trans a2
      have htl : Hid ((rcells8 (ts.take k)).length = k * 3) := show (rcells8 (ts.take k)).length = k * 3 by rw [rcells8_len, List.length_take]; omega
      have Htk : Hid (rcells8 (ts.take (k + 1)) = rcells8 (ts.take k) ++ [.string t.s, .int .i64 t.lo, .int .i64 t.hi]) := show rcells8 (ts.take (k + 1)) = _ by rw [take_snocR ht, rcells8_snoc]
      clear a0 a1 a2 hc ht
      go_wp2_with fail
      refine (toRng_is t _).mono ?_
      rintro e w2 ⟨rfl, hb2⟩
      obtain ⟨t1, t2, t4⟩ := hm.out
      have t1' := there_later t1 hb2
      have hbw2 := hb.trans (hb2.mono hb.size)
      have ht4 : w2.there w.heap.size (k * 3) 3 := by have := there_part t1' (k * 3) 3 (by omega); rwa [Nat.zero_add] at this
      clear A0 A1 A2
      go_wp2_with (refine wpList_store_mid rfl 33 _ _ rfl _ _ _ rfl rfl ?ht sizeIR9 (all3r _ _ _) ?_)
      case ht => exact ht4
      have n2 : (w2.setCells w.heap.size (k * 3) [.string t.s, .int .i64 t.lo, .int .i64 t.hi]).rangeAt w.heap.size 0 (rcells8 (ts.take (k + 1))) := by
        rw [Htk.out]
        refine rangeAt_app (World.rangeAt_setCells_apart (rangeAt_later t2 hb2) w.heap.size (k * 3) [.string t.s, .int .i64 t.lo, .int .i64 t.hi] (.inr (.inl (by rw [htl.out]; omega)))) ?_
        rw [htl.out, Nat.zero_add]
        exact World.rangeAt_setCells_same _ _ _ _ ht4
      have n3 := World.there_setCells t1' w.heap.size (k * 3) [.string t.s, .int .i64 t.lo, .int .i64 t.hi]
      have n4 := below_sets [.string t.s, .int .i64 t.lo, .int .i64 t.hi] (k * 3) hbw2 (Nat.le_refl _)
      have n5 : w.heap.size < (w2.setCells w.heap.size (k * 3) [.string t.s, .int .i64 t.lo, .int .i64 t.hi]).heap.size := by rw [size_sets]; exact Nat.lt_of_lt_of_le t4 hb2.size
      have N := Lib.hid (And.intro n2 (And.intro n3 n5))
      clear t1 t2 t1' ht4 hb2 hbw2 n2 n3 n5 hm hb
      go_wp2
      go_roundw
      case rel => exact ⟨k + 1, by omega, by go_num, ⟨N.out.2.1, N.out.1, N.out.2.2⟩, n4⟩
      case measure => simp [RowKit.intOf]; omega
    · have hkk : ts.take k = ts := List.take_of_length_le (by omega)
      have hm2 := hm.out
      rw [hkk] at hm2
      have Hm := Lib.hid hm2
      clear hm2 hm
      go_wp2
      go_ret
      exact ⟨_, rfl, RV.laid (Nat.le_refl _) Hm.out.2.2 Hm.out.2.1, hb⟩
set_option maxHeartbeats 1000000 in
theorem eqRng_same (k n : Int) (s : ByteArray) (w : World) :
    Calls Try.prog 46 #[.agg #[.string s, .int .i64 k, .int .i64 n], .agg #[.string s, .int .i64 k, .int .i64 n]] w fun e w' => e = .returned (.bool true) ∧ Below w.heap.size w w' := by
  go_enter Try.func46, Try.ntmps46
  go_wp2
  go_ret
  exact ⟨rfl, ((Below.refl _ w).alloc (Nat.le_refl _) _).alloc (by simp) _⟩
set_option maxHeartbeats 2000000 in
theorem eqRngS_same (ts : List RG) (hlen : ts.length ≤ 100000000) (va vb : Value) (w : World) (ha : RV w 0 va ts) (hb : RV w 0 vb ts) :
    Calls Try.prog 21 #[va, vb] w fun e w' => e = .returned (.bool true) ∧ Below w.heap.size w w' := by
  obtain ⟨ao, ca, rfl, _, ha⟩ := ha
  obtain ⟨bo, cb, rfl, _, hb⟩ := hb
  go_enter Try.func21, Try.ntmps21
  go_wp2
  go_loopw [5] (fun i wr => ∃ k : Nat, k ≤ ts.length ∧ i = .int .i64 k ∧ Below w.heap.size w wr) (fun i _ => ts.length - (RowKit.intOf i).toNat)
  case atStart => exact ⟨0, by omega, rfl, Below.refl _ _⟩
  case round =>
    obtain ⟨k, hk, rfl, hbw⟩ := hrel
    by_cases hlt : k < ts.length
    · obtain ⟨t, ht⟩ : ∃ t, ts[k]? = some t := ⟨ts[k], List.getElem?_eq_getElem hlt⟩
      rcases ha with ha | ⟨ga, oa, rfl, _, gla, hca⟩
      · subst ha; simp at hlt
      rcases hb with hb | ⟨gb, ob, rfl, _, glb, hcb⟩
      · subst hb; simp at hlt
      obtain ⟨a0, a1, a2⟩ := hca k t ht
      obtain ⟨b0, b1, b2⟩ := hcb k t ht
      have A0 := (hbw.cell (p := ⟨ga, oa + k * 3, Option.none⟩) gla).trans a0
      have A1 := (hbw.cell (p := ⟨ga, oa + k * 3 + 1, Option.none⟩) gla).trans a1
      have A2 := (hbw.cell (p := ⟨ga, oa + k * 3 + 2, Option.none⟩) gla).trans a2
      have B0 := (hbw.cell (p := ⟨gb, ob + k * 3, Option.none⟩) glb).trans b0
      have B1 := (hbw.cell (p := ⟨gb, ob + k * 3 + 1, Option.none⟩) glb).trans b1
      have B2 := (hbw.cell (p := ⟨gb, ob + k * 3 + 2, Option.none⟩) glb).trans b2
      have hltI : (k : Int) < (ts.length : Int) := by omega
      clear a0 a1 a2 b0 b1 b2 hca hcb ht
      go_wp2_with fail
      go_cut [26] from 11 to 26 (fun v wx => v = .bool false ∧ Below wr.heap.size wr wx)
      case first =>
        go_region_with (go_at_call 46; refine (eqRng_same _ _ _ _).mono ?_; rintro e w1 ⟨rfl, hb1⟩)
        all_goals (try go_wp2_with fail)
        all_goals go_meet
        all_goals exact ⟨rfl, ⟨hb1.os, hb1.tape, hb1.output, hb1.size, hb1.block⟩⟩
      case rest =>
        obtain ⟨rfl, hb1⟩ := hcut
        have hbw2 := hbw.trans (hb1.mono hbw.size)
        clear A0 A1 A2 B0 B1 B2 hb1
        go_wp2
        go_roundw
        case rel => exact ⟨k + 1, by omega, by go_num, hbw2⟩
        case measure => simp [RowKit.intOf]; omega
    · go_wp2
      go_ret
      exact ⟨rfl, hbw⟩
end Go.Proofs.Ytphegbnnijehbaa
namespace Go.Proofs.Ytphegbnnijehbaa
open Go.ChangeShapes Go.WideShapes Go.ChangeAt Go.RowKit
theorem cR9 : Try.prog.cellsOf 69 = 3 := by kernel_rfl
section
variable {H : Type} {enc : TypeId × Value → H} {W : World} {sp : Nat → Bool} {held : Bool}
theorem build_rngs {b o len : Nat} (each : ∀ i, i < len → ∃ t : RG, t.s.size ≤ 9223372036854775807 ∧ W.cell? ⟨b, o + i * 3, Option.none⟩ = some (.string t.s) ∧ W.cell? ⟨b, o + i * 3 + 1, Option.none⟩ = some (.int .i64 t.lo) ∧ W.cell? ⟨b, o + i * 3 + 2, Option.none⟩ = some (.int .i64 t.hi)) :
    ∀ d, d ≤ len → ∃ R : List RG, R.length = d ∧ (∀ t ∈ R, t.s.size ≤ 9223372036854775807) ∧ ∀ i t, R[i]? = some t → W.cell? ⟨b, o + i * 3, Option.none⟩ = some (.string t.s) ∧ W.cell? ⟨b, o + i * 3 + 1, Option.none⟩ = some (.int .i64 t.lo) ∧ W.cell? ⟨b, o + i * 3 + 2, Option.none⟩ = some (.int .i64 t.hi)
  | 0, _ => ⟨[], rfl, fun _ h => by simp at h, fun i t h => by simp at h⟩
  | d + 1, hd => by
    obtain ⟨R, h1, h2, h3⟩ := build_rngs each d (by omega)
    obtain ⟨t, k, c0, c1, c2⟩ := each d (by omega)
    refine ⟨R ++ [t], by simp [h1], fun u hu => ?_, fun i u hu => ?_⟩
    · rcases List.mem_append.1 hu with hu | hu
      · exact h2 u hu
      · simp only [List.mem_cons, List.not_mem_nil, or_false] at hu; subst hu; exact k
    · rcases Nat.lt_or_ge i R.length with hi | hi
      · rw [List.getElem?_append_left hi] at hu; exact h3 i u hu
      · rw [List.getElem?_append_right hi] at hu
        have hi2 : i = d := by have := (List.getElem?_eq_some_iff.1 hu).1; simp at this; omega
        subst hi2
        rw [h1, Nat.sub_self] at hu
        simp at hu; subst hu; exact ⟨c0, c1, c2⟩
set_option maxRecDepth 100000 in
theorem open_rng {fuel : Nat} {cs : List Value} {y : DataW H × List MemPlace} (h : DataW.trod enc Try.prog W 0 sp held fuel 69 cs = some y) : ∃ t : RG, cs = [.string t.s, .int .i64 t.lo, .int .i64 t.hi] ∧ t.s.size ≤ 9223372036854775807 := by
  obtain ⟨xs, m, hm, _, hlen, hxl, hf⟩ := DataW.trod_struct Try.underlying69 h
  rw [cR9] at hlen
  match xs, hxl, cs, hlen with
  | [y0, y1, y2], _, [v0, v1, v2], _ =>
    have g0 := hf 0 _ rfl
    have g1 := hf 1 _ rfl
    have g2 := hf 2 _ rfl
    simp [cI, cT] at g0 g1 g2
    obtain ⟨s, e0, _, hs⟩ := DataW.trod_string Try.underlying9 g0
    obtain ⟨n, e1, _, _⟩ := DataW.trod_int Try.underlying3 g1
    obtain ⟨n2, e2, _, _⟩ := DataW.trod_int Try.underlying3 g2
    injection e0 with e0; injection e1 with e1; injection e2 with e2
    subst e0; subst e1; subst e2
    exact ⟨⟨s, n, n2⟩, rfl, by unfold maxLen at hs; show s.size ≤ _; omega⟩
theorem open_rngs {fuel : Nat} {cs : List Value} {x : DataW H × List MemPlace} (h : DataW.trod enc Try.prog W 0 sp held fuel 42 cs = some x) : ∃ (v : Value) (ts : List RG), cs = [v] ∧ (∀ t ∈ ts, t.s.size ≤ 9223372036854775807) ∧ ts.length ≤ 9223372036854775807 ∧ RV W 0 v ts := by
  rcases DataW.trod_slice Try.underlying42 h with ⟨rfl, _⟩ | ⟨a, len, cap, elems, rest, n, hn, rfl, _, _, hl, hmx, hlen, hel, _, _⟩
  · exact ⟨_, [], rfl, fun _ h => by simp at h, by simp, _, _, rfl, Nat.zero_le _, .inl rfl⟩
  · rw [cR9] at hel
    have each : ∀ i, i < len → ∃ (cs' : List Value) (y : DataW H × List MemPlace), W.cells? 0 (a.add (i * 3)) 3 = some cs' ∧ DataW.trod enc Try.prog W 0 sp held n 69 cs' = some y := fun i hi => by
      have h1 := hel i hi
      rw [List.getElem?_eq_getElem (by omega), Option.bind_eq_some_iff] at h1
      obtain ⟨cs', h2, h3⟩ := h1
      exact ⟨cs', _, h2, h3⟩
    rcases Nat.eq_zero_or_pos len with h0 | h0
    · subst h0; exact ⟨_, [], rfl, fun _ h => by simp at h, by simp, _, _, rfl, Nat.zero_le _, .inl rfl⟩
    · have each2 : ∀ i, i < len → ∃ t : RG, t.s.size ≤ 9223372036854775807 ∧ ∀ j u, [Value.string t.s, .int .i64 t.lo, .int .i64 t.hi][j]? = some u → W.cell? ((a.add (i * 3)).add j) = some u := fun i hi => by
        obtain ⟨cs', y, h1, h2⟩ := each i hi
        obtain ⟨_, hc, hcell⟩ := World.cells?_some h1
        obtain ⟨t, rfl, k1⟩ := open_rng h2
        refine ⟨t, k1, fun j u hj => ?_⟩
        have hj4 : j < 3 := by have := (List.getElem?_eq_some_iff.1 hj).1; simpa using this
        rw [hcell j hj4]; exact hj
      obtain ⟨b, off, spot⟩ := a
      have hsp : spot = Option.none := by
        obtain ⟨x, _, hc⟩ := each2 0 h0
        have := World.cell?_spot (hc 0 _ rfl)
        simpa [Addr.add] using this
      subst hsp
      have e : ∀ i j, ((⟨b, off, Option.none⟩ : Addr).add i).add j = ⟨b, off + i + j, Option.none⟩ := fun i j => by rw [add_plain, add_plain]
      obtain ⟨R, r1, r2, r3⟩ := build_rngs (W := W) (b := b) (o := off) (len := len) (fun i hi => by
        obtain ⟨t, k1, hc⟩ := each2 i hi
        have c0 := hc 0 _ rfl; have c1 := hc 1 _ rfl; have c2 := hc 2 _ rfl
        rw [e] at c0 c1 c2
        exact ⟨t, k1, c0, c1, c2⟩) len (Nat.le_refl _)
      have hlt : b < W.heap.size := by
        obtain ⟨t, _, hc⟩ := each2 0 h0
        have := hc 0 _ rfl
        rw [e] at this
        exact lt_of_cellA this
      refine ⟨_, R, rfl, r2, by unfold maxLen at hmx; omega, _, cap, by rw [r1], by rw [r1]; exact hl, .inr ⟨b, off, rfl, Nat.zero_le _, hlt, r3⟩⟩
end
end Go.Proofs.Ytphegbnnijehbaa
/-
  strings.ContainsRune over the marks, at every rune that a text holds: below 128 it asks for the byte, above it answers false.
-/
set_option linter.unusedSimpArgs false
namespace Go.Proofs.Ytphegbnnijehbaa
open Go.RowKit Go.Lib

set_option maxHeartbeats 1000000 in
set_option maxRecDepth 100000 in
theorem slite_IndexByte (s : ByteArray) (c : Int) (w : World) :
    Calls Try.prog 86 #[.string s, .int .u8 c] w fun e w' => e = .returned (.int .i64 (firstIdx s c.toNat.toUInt8)) ∧ w = w' := by
  go_enter Try.func86, Try.ntmps86
  go_wp2
  rw [run_callFunc_extern Try.func87 (by kernel_rfl) (by kernel_rfl) (by kernel_rfl) (e := Extern.BytealgIndexByte.indexByte) (by kernel_rfl), run_indexByte_string]
  simp only [Result.andThen]
  rw [Oper.upon_value]
  go_wp2
  go_ret
  exact ⟨rfl, rfl⟩
set_option maxHeartbeats 1000000 in
theorem strings_IndexByte (s : ByteArray) (c : Int) (w : World) :
    Calls Try.prog 82 #[.string s, .int .u8 c] w fun e w' => e = .returned (.int .i64 (firstIdx s c.toNat.toUInt8)) ∧ w = w' := by
  go_enter Try.func82, Try.ntmps82
  go_wp2_with (go_at_call 86; refine (slite_IndexByte _ _ _).mono ?_; rintro e w' ⟨rfl, rfl⟩)
  go_ret
  exact ⟨rfl, rfl⟩

set_option maxHeartbeats 1000000 in
set_option maxRecDepth 100000 in
theorem IndexRune_ascii (s : ByteArray) (r : Int) (w : World) (h0 : 0 ≤ r) (h1 : r < 128) :
    Calls Try.prog 81 #[.string s, .int .i32 r] w fun e w' => e = .returned (.int .i64 (firstIdx s r.toNat.toUInt8)) ∧ w = w' := by
  go_enter Try.func81, Try.ntmps81
  go_wp2_with (go_at_call 82; refine (strings_IndexByte _ _ _).mono ?_; rintro e w' ⟨rfl, rfl⟩)
  go_ret
  exact ⟨rfl, rfl⟩

set_option maxHeartbeats 1000000 in
theorem ContainsRune_ascii (s : ByteArray) (r : Int) (w : World) (h0 : 0 ≤ r) (h1 : r < 128) :
    Calls Try.prog 80 #[.string s, .int .i32 r] w fun e w' => e = .returned (.bool (s.data.toList.any (· == r.toNat.toUInt8))) ∧ w = w' := by
  go_enter Try.func80, Try.ntmps80
  go_wp2_with (go_at_call 81; refine (IndexRune_ascii _ _ _ h0 h1).mono ?_; rintro e w' ⟨rfl, rfl⟩)
  go_ret
  exact ⟨by rw [← firstIdx_nonneg]; rfl, rfl⟩

/-- Every byte of this text is below 128. -/
def Asci (s : ByteArray) : Prop := ∀ b ∈ s.data.toList, b.toNat < 128
set_option maxHeartbeats 2000000 in
set_option maxRecDepth 100000 in
theorem IndexRune_error (s : ByteArray) (hs : Asci s) (w : World) :
    Calls Try.prog 81 #[.string s, .int .i32 65533] w fun e w' => e = .returned (.int .i64 (-1)) ∧ Below w.heap.size w w' := by
  go_enter Try.func81, Try.ntmps81
  go_wp2
  go_loopw [] (fun wr => ∃ pos, pos ≤ s.size ∧ wr = w.iter s pos) (fun wr => s.size - wr.iterPos w.heap.size)
  case atStart => exact ⟨0, by omega, rfl⟩
  case round =>
    obtain ⟨pos, hpos, rfl⟩ := hrel
    by_cases hp : pos < s.size
    · have ha : (s[pos]'hp).toNat < 128 := hs _ (Array.getElem_mem_toList (xs := s.data) hp)
      have hnx : ∀ ty, (Instr.next (.pointer (some ⟨w.heap.size, 0, none⟩)) true ty).run Try.prog (w.iter s pos) = _ := fun ty => run_next_ascii w s pos ty hp ha
      have hne : ¬ ((s[pos]'hp).toNat : Int) = 65533 := by omega
      go_wp2
      go_roundw
      case rel => exact ⟨pos + 1, by omega, rfl⟩
      case measure => simp [World.iterPos, World.iter_heap]; omega
    · have hnx : ∀ ty, (Instr.next (.pointer (some ⟨w.heap.size, 0, none⟩)) true ty).run Try.prog (w.iter s pos) = _ := fun ty => run_next_end w s pos ty hp
      go_wp2
      go_ret
      exact ⟨rfl, (Below.refl _ w).alloc (Nat.le_refl _) _⟩
theorem IndexByte_none (s : ByteArray) (c : UInt8) (hs : Asci s) (hc : 128 ≤ c.toNat) (a e n : Nat) (w : World) :
    Calls Try.prog 82 #[.string (s.extract a e), .int .u8 c.toNat] (w.drewN n) fun x w' => x = .returned (.int .i64 (-1)) ∧ w' = w.drewN n := by
  refine (strings_IndexByte _ _ _).mono ?_
  rintro x w' ⟨rfl, rfl⟩
  refine ⟨?_, rfl⟩
  have : ((c.toNat : Int)).toNat.toUInt8 = c := by simp
  rw [this, firstIdx_ascii s a e c hs hc]
theorem ValidRune_is (r : Int) (h0 : 0 ≤ r) (h1 : r ≤ 1114111) (b : Bool) (hb : Utf8.valid r = b) (w : World) :
    Calls Try.prog 83 #[.int .i32 r] w fun e w' => e = .returned (.bool b) ∧ w = w' := by
  subst hb
  have e : Utf8.valid r = (decide (r < 55296) || decide (57343 < r)) := by
    rw [validRune_eq]; unfold validRune
    by_cases h : r < 55296 <;> by_cases h' : 57343 < r <;> simp [h, h', h0, h1] <;> omega
  rw [e]
  by_cases h : r < 55296
  · go_enter Try.func83, Try.ntmps83
    go_wp2
    go_ret
    exact ⟨by simp [h], rfl⟩
  · by_cases h' : 57343 < r
    · go_enter Try.func83, Try.ntmps83
      go_wp2
      go_ret
      exact ⟨by simp [h, h'], rfl⟩
    · go_enter Try.func83, Try.ntmps83
      go_wp2
      go_ret
      exact ⟨by simp [h, h'], rfl⟩
set_option maxHeartbeats 4000000 in
set_option maxRecDepth 100000 in
theorem IndexRune_high (s : ByteArray) (hs : Asci s) (hl : s.size ≤ 1000000) (r : Int) (h0 : 128 ≤ r) (h1 : r ≤ 1114111) (hne : ¬ r = 65533) (w : World) :
    Calls Try.prog 81 #[.string s, .int .i32 r] w fun e w' => e = .returned (.int .i64 (-1)) ∧ Below w.heap.size w w' := by
  by_cases hv : Utf8.valid r = true
  · obtain ⟨e1, e2, e3⟩ := encode_facts r hv h0
    have hcv : ∀ w, (convert 21 9 (.int .i32 r)).run Try.prog w = .ok (.string (Utf8.encode r)) w := fun w => run_convert_int_string w _ _ _ _ (by rw [Try.underlying21]; rfl) Try.underlying9
    have hV := Lib.hid hv
    generalize Utf8.encode r = E at e1 e2 e3 hcv
    have h3 := e3 (by omega)
    clear e3 hv
    obtain ⟨n, hn⟩ : ∃ n, E.size = n + 1 := ⟨E.size - 1, by omega⟩
    have hnE : n < E.size := by omega
    have h4 : 128 ≤ (E[n]'hnE).toNat := by
      have e : ∀ m (hm : m < E.size), m = n → (E[m]'hm).toNat = (E[n]'hnE).toNat := by intro m hm e; subst e; rfl
      rw [← e (E.size - 1) (by omega) (by omega)]; exact h3
    clear h3
    go_enter Try.func81, Try.ntmps81
    go_wp2_with (go_at_call 83; refine (ValidRune_is r (by omega) h1 true hV.out _).mono ?_; rintro e w' ⟨rfl, rfl⟩)
    go_step3
    go_wp2
    go_loop [9, 10] (fun i f => i = .int .i64 (n : Int) ∧ f = .int .i64 0) (fun _ _ => 0)
    case atStart => exact ⟨by go_num, rfl⟩
    case round =>
      obtain ⟨rfl, rfl⟩ := hrel
      clear hn
      by_cases hp : n < s.size
      · have ha : (s[n]'hp).toNat < 128 := hs _ (Array.getElem_mem_toList (xs := s.data) hp)
        have hneq : ¬ ((s[n]'hp).toNat : Int) = ((E[n]'hnE).toNat : Int) := by omega
        have hpI : (n : Int) < (s.size : Int) := by omega
        have hnI : (n : Int) < (E.size : Int) := by omega
        have hwr : IntKind.i64.wrap ((n : Int) + 1) = (n : Int) + 1 := wrap_small _ (by omega) (by omega)
        have hsl : ∀ w, (Instr.slice 9 (.string s) (some (.int .i64 ((n : Int) + 1))) Option.none Option.none).run Try.prog w = .ok (.string (s.extract (n + 1) s.size)) w := by
          intro w
          rw [run_slice_string_from_if w _ _ _ _ Try.underlying9, if_pos ⟨by omega, by omega⟩]
          rfl
        go_wp2
        go_step3
        go_wp2
        go_quiet (fail)
        go_wp2
        go_quiet (exact (IndexByte_none s E[n] hs h4 _ _ _ w).mono fun _ _ h => ⟨h.1, _, h.2⟩)
        go_wp2
        rw [Exit.noGoto_ret]
        go_wp2
        rw [Exit.noGoto_ret]
        go_wp2
        go_ret
        exact ⟨rfl, ⟨rfl, rfl, rfl, Nat.le_refl _, fun _ _ => rfl⟩⟩
      · go_wp2
        go_ret
        exact ⟨rfl, Below.refl _ _⟩
  · have hV := Lib.hid (by simpa using hv : Utf8.valid r = false)
    clear hv
    go_enter Try.func81, Try.ntmps81
    go_wp2_with (go_at_call 83; refine (ValidRune_is r (by omega) h1 false hV.out _).mono ?_; rintro e w' ⟨rfl, rfl⟩)
    go_ret
    exact ⟨rfl, Below.refl _ _⟩
set_option maxHeartbeats 1000000 in
/-- Above 128 nothing is found in a text of bytes below 128. -/
theorem ContainsRune_high (s : ByteArray) (hs : Asci s) (hl : s.size ≤ 1000000) (r : Int) (h0 : 128 ≤ r) (h1 : r ≤ 1114111) (w : World) :
    Calls Try.prog 80 #[.string s, .int .i32 r] w fun e w' => e = .returned (.bool false) ∧ Below w.heap.size w w' := by
  have hI : Calls Try.prog 81 #[.string s, .int .i32 r] w fun e w' => e = .returned (.int .i64 (-1)) ∧ Below w.heap.size w w' := by
    by_cases he : r = 65533
    · subst he; exact IndexRune_error s hs w
    · exact IndexRune_high s hs hl r h0 h1 he w
  go_enter Try.func80, Try.ntmps80
  go_wp2_with (go_at_call 81; refine hI.mono ?_; rintro e w' ⟨rfl, hb⟩)
  go_ret
  exact ⟨rfl, hb⟩
end Go.Proofs.Ytphegbnnijehbaa
/-
  Plain facts on numbers and their digits: no Go in sight.
-/
namespace Go.Proofs.Ytphegbnnijehbaa
open Go.Lib Go.RowKit

/-! ### words that go round -/
theorem wrap32_bd (n : Int) : -2147483648 ≤ wrap32 n ∧ wrap32 n ≤ 2147483647 := by unfold wrap32; omega
theorem wrap32_id (n : Int) (h0 : -2147483648 ≤ n) (h1 : n ≤ 2147483647) : wrap32 n = n := by unfold wrap32; omega
theorem mul_bd (a b : Int) (ha0 : -2147483648 ≤ a) (ha : a ≤ 2147483647) (hb0 : -2147483648 ≤ b) (hb : b ≤ 2147483647) : -9223372036854775808 ≤ a * b ∧ a * b ≤ 9223372036854775807 := by
  have h1 : a.natAbs ≤ 2147483648 := by omega
  have h2 : b.natAbs ≤ 2147483648 := by omega
  have h3 : (a * b).natAbs ≤ 2147483648 * 2147483648 := by rw [Int.natAbs_mul]; exact Nat.mul_le_mul h1 h2
  omega

/-! ### the greatest that divides both -/
theorem gcd_step (x y : Int) : Int.gcd y (x.tmod y) = Int.gcd x y := by
  rw [Int.gcd_comm x y]
  simp only [Int.gcd, Int.natAbs_tmod]
  rw [Nat.gcd_comm, ← Nat.gcd_rec]
theorem gcd_zero (x : Int) : (Int.gcd x 0 : Int) = if x < 0 then -x else x := by
  simp
  split <;> omega
theorem tmod_lt (x y : Int) (h : y ≠ 0) : (x.tmod y).natAbs < y.natAbs := by
  rw [Int.natAbs_tmod]
  exact Nat.mod_lt _ (by omega)
theorem gcd_dvd_tmod (x y : Int) : x.tmod (Int.gcd x y) = 0 ∧ y.tmod (Int.gcd x y) = 0 :=
  ⟨Int.tmod_eq_zero_of_dvd (Int.gcd_dvd_left ..), Int.tmod_eq_zero_of_dvd (Int.gcd_dvd_right ..)⟩
theorem gcd_none {x y : Int} (h : Int.gcd x y = 0) : x = 0 ∧ y = 0 := Int.gcd_eq_zero_iff.1 h
theorem gcd_le (x y : Int) (h0 : -2147483648 ≤ x) (h1 : x ≤ 2147483647) (h2 : -2147483648 ≤ y) (h3 : y ≤ 2147483647) : (Int.gcd x y : Int) ≤ 2147483648 := by
  by_cases hx : x = 0
  · subst hx; rw [Int.gcd_comm, gcd_zero]; split <;> omega
  · have := Nat.le_of_dvd (by omega) (Nat.gcd_dvd_left x.natAbs y.natAbs)
    have e : Int.gcd x y = Nat.gcd x.natAbs y.natAbs := rfl
    omega

/-! ### the digits, from the last one on -/
theorem decDigits_last (u : Nat) : decDigits u = (if u / 10 = 0 then [] else decDigits (u / 10)) ++ [UInt8.ofNat (48 + u % 10)] := by
  by_cases h : u < 10
  · rw [decDigits, dif_pos h, if_pos (by omega), Nat.mod_eq_of_lt h]; rfl
  · rw [decDigits, dif_neg h, if_neg (by omega)]
/-- What is left to be written of n's digits, and what has been: together they are the digits. -/
def Digs (n u : Nat) (t : List UInt8) : Prop := decDigits n = (if u = 0 then [] else decDigits u) ++ t
theorem digs_start (n : Nat) (h : 1 ≤ n) : Digs n n [] := by unfold Digs; rw [if_neg (by omega)]; simp
theorem digs_step {n u : Nat} {t : List UInt8} (h : Digs n u t) (hu : u ≠ 0) : Digs n (u / 10) (UInt8.ofNat (48 + u % 10) :: t) := by
  unfold Digs at h ⊢
  rw [if_neg hu, decDigits_last u] at h
  rw [h]; simp
theorem digs_end {n : Nat} {t : List UInt8} (h : Digs n 0 t) : decDigits n = t := by
  unfold Digs at h; simpa using h


theorem head_append {a : List UInt8} (b : List UInt8) (h : a ≠ []) : (a ++ b).head? = a.head? := by
  cases a with
  | nil => exact absurd rfl h
  | cons _ _ => rfl

theorem decFrom_append : ∀ (a b : List UInt8) (acc : Nat), decFrom acc (a ++ b) = (decFrom acc a).bind fun n => decFrom n b
  | [], b, acc => by simp [decFrom]
  | c :: r, b, acc => by
    simp only [List.cons_append, decFrom]
    cases digitVal c with
    | none => simp
    | some d => simpa using decFrom_append r b _

theorem digitVal_of (d : Nat) (h : d < 10) : digitVal (UInt8.ofNat (48 + d)) = some d := by
  have : (UInt8.ofNat (48 + d)).toNat = 48 + d := by simp; omega
  unfold digitVal
  rw [if_pos (by omega), this]
  simp

theorem byte_of_digit {b : UInt8} {d : Nat} (h : digitVal b = some d) : b = UInt8.ofNat (48 + d) ∧ d < 10 := by
  obtain ⟨h1, h2, h3⟩ := digitVal_eq h
  refine ⟨?_, by omega⟩
  apply UInt8.toNat_inj.1
  simp
  omega

/-- The digits of u spell u. -/
theorem decFrom_decDigits (u : Nat) : decFrom 0 (decDigits u) = some u := by
  induction u using Nat.strongRecOn with
  | _ u ih =>
    by_cases h : u < 10
    · rw [decDigits, dif_pos h]
      simp only [decFrom, digitVal_of u h]
      simp
    · rw [decDigits, dif_neg h, decFrom_append, ih (u / 10) (by omega)]
      simp only [Option.bind_some, decFrom, digitVal_of (u % 10) (by omega)]
      simp
      omega

theorem decDigits_ne (u : Nat) : decDigits u ≠ [] := by
  rw [decDigits]
  split <;> simp

/-- No needless nought stands ahead of u's digits. -/
theorem decDigits_head (u : Nat) (h : 1 ≤ u) : (decDigits u).head? ≠ some 48 := by
  induction u using Nat.strongRecOn with
  | _ u ih =>
    by_cases h10 : u < 10
    · rw [decDigits, dif_pos h10]
      simp only [List.head?_cons]
      intro he
      have he := Option.some.inj he
      have : (UInt8.ofNat (48 + u)).toNat = 48 := by rw [he]; rfl
      simp at this
      omega
    · rw [decDigits, dif_neg h10, head_append _ (decDigits_ne _)]
      exact ih _ (by omega) (by omega)

theorem nDigits_le10 (u : Nat) (h : u < 10000000000) : nDigits u ≤ 10 := by
  have step : ∀ k v, v < 10 ^ k → 1 ≤ k → nDigits v ≤ k := by
    intro k
    induction k with
    | zero => intro v _ h; omega
    | succ k ih =>
      intro v hv _
      rw [nDigits]
      split
      · omega
      · rename_i h10
        have : v / 10 < 10 ^ k := by rw [Nat.pow_succ] at hv; omega
        have hk : 1 ≤ k := by
          rcases k with _ | k
          · simp at this; omega
          · omega
        have := ih _ this hk
        omega
  exact step 10 u (by simpa using h) (by omega)

/-- A row of digits without a needless nought ahead is the digits of what it spells. -/
theorem decDigits_of (l : List UInt8) : ∀ u, decFrom 0 l = some u → l ≠ [] → (l.length > 1 → l.head? ≠ some 48) → l = decDigits u := by
  induction hn : l.length generalizing l with
  | zero => intro u _ h; exact absurd (List.length_eq_zero_iff.1 hn) h
  | succ n ih =>
    intro u hu hne hh
    obtain ⟨r, b, rfl⟩ : ∃ r b, l = r ++ [b] := ⟨l.dropLast, l.getLast hne, (List.dropLast_concat_getLast hne).symm⟩
    rw [decFrom_append] at hu
    cases hr : decFrom 0 r with
    | none => simp [hr] at hu
    | some v =>
      simp only [hr, Option.bind_some, decFrom] at hu
      cases hb : digitVal b with
      | none => simp [hb] at hu
      | some d =>
        simp only [hb, Option.some.injEq] at hu
        obtain ⟨rfl, hd⟩ := byte_of_digit hb
        by_cases hre : r = []
        · subst hre
          simp [decFrom] at hr
          subst hr
          rw [decDigits, dif_pos (by omega)]
          simp at hu ⊢
          rw [hu]
        · have hlen : r.length = n := by simpa using hn
          have hr1 : 1 ≤ r.length := by cases r with | nil => exact absurd rfl hre | cons _ _ => simp
          have hhd : (r ++ [UInt8.ofNat (48 + d)]).head? = r.head? := head_append _ hre
          have h48 : r.head? ≠ some 48 := by rw [← hhd]; exact hh (by simp; omega)
          have er := ih r hlen v hr hre (fun _ => h48)
          have hv : 1 ≤ v := by
            rcases Nat.eq_zero_or_pos v with h0 | h0
            · subst h0
              rw [decDigits, dif_pos (by omega)] at er
              rw [er] at h48
              exact absurd rfl h48
            · exact h0
          rw [decDigits, dif_neg (by omega), er]
          congr 1
          · congr 1; omega
          · congr 2; omega

/-- ParseNum as the document has it: the digits of a word that is not below 0, and nothing else. -/
def parseNum (l : List UInt8) : Option Nat :=
  match decFrom 0 l with
  | some u => if u ≤ 2147483647 ∧ l = decDigits u then some u else none
  | none => none

theorem parseNum_some {l : List UInt8} {u : Nat} : parseNum l = some u ↔ u ≤ 2147483647 ∧ l = decDigits u := by
  unfold parseNum
  constructor
  · intro h
    split at h
    · split at h
      · rename_i hx; injection h with h; subst h; exact hx
      · cases h
    · cases h
  · rintro ⟨h, rfl⟩
    simp [decFrom_decDigits, h]

theorem atoiAll_decDigits (u : Nat) (h : u ≤ 2147483647) : atoiAll (decDigits u) = .ok (u : Int) := by
  have hl : (decDigits u).length ≤ 18 := by rw [decDigits_length]; have := nDigits_le10 u (by omega); omega
  rw [atoiAll_short _ hl]
  have hd := decFrom_decDigits u
  cases hdd : decDigits u with
  | nil => exact absurd hdd (decDigits_ne u)
  | cons b r =>
    rw [hdd] at hd
    obtain ⟨d, hb⟩ := digit_of_decFrom _ _ _ hd 0 b (by simp)
    obtain ⟨h1, h2, _⟩ := digitVal_eq hb
    have n1 : (b == 45) = false := by rw [beq_eq_false_iff_ne]; intro e; rw [e] at h1; exact absurd h1 (by decide)
    have n2 : (b == 43) = false := by rw [beq_eq_false_iff_ne]; intro e; rw [e] at h1; exact absurd h1 (by decide)
    simp only [atoi, n1, n2, decNat, hd]
    simp [NumEnd.ofOption]

/-- What the landed code tests behind Atoi, and what it then answers, is parseNum. -/
theorem impl_some {l : List UInt8} {v : Int} (h : atoiAll l = .ok v) (h0 : 0 ≤ v) (h1 : v ≤ 2147483647) (h2 : l = itoa v) : parseNum l = some v.toNat := by
  obtain ⟨u, rfl⟩ := Int.eq_ofNat_of_zero_le h0
  rw [itoa_nonneg] at h2
  exact parseNum_some.2 ⟨by simp; omega, by simpa using h2⟩

theorem impl_none {l : List UInt8} (h : ∀ v, atoiAll l = .ok v → 0 ≤ v → v ≤ 2147483647 → l ≠ itoa v) : parseNum l = none := by
  cases hp : parseNum l with
  | none => rfl
  | some u =>
    obtain ⟨h1, rfl⟩ := parseNum_some.1 hp
    exact absurd (itoa_nonneg u).symm (h u (atoiAll_decDigits u h1) (by omega) (by omega))

/-- What the specification tests is parseNum. -/
theorem spec_some {l : List UInt8} {u : Nat} (h : decFrom 0 l = some u) (h1 : 1 ≤ l.length) (h3 : ¬ (1 < l.length ∧ l.head? = some 48)) (h4 : u ≤ 2147483647) : parseNum l = some u :=
  parseNum_some.2 ⟨h4, decDigits_of l u h (by intro e; simp [e] at h1) (fun hl hh => h3 ⟨hl, hh⟩)⟩

theorem spec_none_byte {l : List UInt8} (h : decFrom 0 l = none) : parseNum l = none := by simp [parseNum, h]

theorem spec_none_long {l : List UInt8} (h : 10 < l.length) : parseNum l = none := by
  cases hp : parseNum l with
  | none => rfl
  | some u =>
    obtain ⟨h1, rfl⟩ := parseNum_some.1 hp
    rw [decDigits_length] at h
    have := nDigits_le10 u (by omega)
    omega

theorem spec_none_nil : parseNum [] = none := by
  cases hp : parseNum [] with
  | none => rfl
  | some u => exact absurd (parseNum_some.1 hp).2.symm (decDigits_ne u)

theorem spec_none_nought {l : List UInt8} (h : 1 < l.length) (hh : l.head? = some 48) : parseNum l = none := by
  cases hp : parseNum l with
  | none => rfl
  | some u =>
    obtain ⟨h1, rfl⟩ := parseNum_some.1 hp
    rcases Nat.eq_zero_or_pos u with h0 | h0
    · subst h0
      rw [decDigits, dif_pos (by omega)] at h
      simp at h
    · exact absurd hh (decDigits_head u h0)

theorem spec_none_great {l : List UInt8} {u : Nat} (h : decFrom 0 l = some u) (h4 : 2147483647 < u) : parseNum l = none := by
  unfold parseNum
  rw [h]
  simp only
  rw [if_neg (by omega)]
end Go.Proofs.Ytphegbnnijehbaa
/-
  Plain facts on signs: what a text is made of, and that signs come back of their own text: no Go in sight.
-/
namespace Go.Proofs.Ytphegbnnijehbaa
open Go.Lib Go.RowKit

def marksL : List UInt8 := [59, 61, 91, 93, 40, 41, 123, 125, 43, 45, 42, 44]
def keptL : List (List UInt8) := [[97, 114, 114, 97, 121], [102, 111, 114], [116, 111], [112, 114, 105, 110, 116], [109, 105, 110], [109, 97, 120]]
/-- What a byte is: 0 a gap, 1 a letter, 2 a digit, 3 a mark, 4 none of these. -/
def kind (b : UInt8) : Nat :=
  if b.toNat = 32 ∨ b.toNat = 10 then 0 else if 97 ≤ b.toNat ∧ b.toNat ≤ 122 then 1 else if 48 ≤ b.toNat ∧ b.toNat ≤ 57 then 2 else if b ∈ marksL then 3 else 4
def goes (k : Nat) : Bool := k == 1 || k == 2
structure T where
  k : Int
  s : List UInt8
  n : Int
/-- The sign that a piece of one kind is, where it is one. -/
def tok (k : Nat) (p : List UInt8) : Option T :=
  if k = 1 then (if p ∈ keptL then some ⟨3, p, 0⟩ else if p.length ≤ 6 then some ⟨1, p, 0⟩ else none)
  else if k = 2 then (match parseNum p with | some n => if n ≤ 999999 then some ⟨2, [], n⟩ else none | none => none)
  else if k = 3 then some ⟨4, p, 0⟩
  else none
/-- The signs of what is left, where a piece p of kind k stands open; what is open at the end is dropped. -/
def pend : Nat → List UInt8 → List UInt8 → Option (List T)
  | _, _, [] => some []
  | k, p, b :: r =>
    if kind b = k ∧ goes k = true then pend k (p ++ [b]) r
    else if k = 0 then pend (kind b) [b] r
    else match tok k p with
      | some t => (match pend (kind b) [b] r with | some ts => some (t :: ts) | none => none)
      | none => none
def cut (done : List T) : Option (List T) → Option (List T)
  | some ts => if done.length + ts.length ≤ 600 then some (done ++ ts) else none
  | none => none
/-- What Lex answers of a text's bytes. -/
def lex (l : List UInt8) : Option (List T) := if 3000 < l.length then none else cut [] (pend 0 [] (l ++ [32]))
def nameOk (l : List UInt8) : Bool := decide (1 ≤ l.length) && decide (l.length ≤ 6) && l.all (fun b => kind b == 1) && !(keptL.contains l)

theorem kind_lt (b : UInt8) : kind b ≤ 4 := by unfold kind; repeat' split <;> try omega
theorem pend_gap (p r : List UInt8) : pend 0 p r = pend 0 [] r := by
  cases r with
  | nil => rfl
  | cons b r => simp [pend, goes]
theorem pend_start (p r : List UInt8) (b : UInt8) : pend 0 p (b :: r) = pend (kind b) [b] r := by simp [pend, goes]
theorem pend_on {k : Nat} (p r : List UInt8) {b : UInt8} (hk : kind b = k) (hg : goes k = true) : pend k p (b :: r) = pend k (p ++ [b]) r := by
  rw [pend, if_pos ⟨hk, hg⟩]
theorem pend_run {k : Nat} (hg : goes k = true) : ∀ (v p r : List UInt8), (∀ b ∈ v, kind b = k) → pend k p (v ++ r) = pend k (p ++ v) r
  | [], p, r, _ => by simp
  | b :: v, p, r, h => by
    rw [List.cons_append, pend_on _ _ (h b (by simp)) hg, pend_run hg v _ r (fun c hc => h c (by simp [hc]))]
    simp
def put (t : T) : Option (List T) → Option (List T)
  | some ts => some (t :: ts)
  | none => none
theorem pend_end {k : Nat} (p r : List UInt8) {b : UInt8} (h0 : k ≠ 0) (h : ¬ (kind b = k ∧ goes k = true)) :
    pend k p (b :: r) = match tok k p with | some t => put t (pend 0 [] (b :: r)) | none => none := by
  rw [pend, if_neg h, if_neg h0, pend_start]
  cases tok k p <;> rfl
theorem pend_other (p r : List UInt8) (b : UInt8) : pend 4 p (b :: r) = none := by
  simp [pend, goes, tok]
theorem cut_put {done : List T} {t : T} (o : Option (List T)) : cut done (put t o) = cut (done ++ [t]) o := by
  cases o with
  | none => rfl
  | some ts =>
    simp only [put, cut, List.length_cons, List.length_append, List.length_nil]
    by_cases h : done.length + (ts.length + 1) ≤ 600
    · rw [if_pos h, if_pos (by omega)]; simp
    · rw [if_neg h, if_neg (by omega)]
theorem cut_full {done : List T} {t : T} (h : done.length = 600) (o : Option (List T)) : cut done (put t o) = none := by
  cases o with
  | none => rfl
  | some ts => simp only [put, cut, List.length_cons]; rw [if_neg (by omega)]
theorem cut_nil {done : List T} (h : done.length ≤ 600) : cut done (some []) = some done := by
  simp only [cut, List.length_nil]; rw [if_pos (by omega)]; simp

/-! ### signs come back of their own text -/
def text1 (t : T) : List UInt8 := if t.k = 2 then itoa t.n else t.s
def textFrom : List T → List UInt8
  | [] => []
  | t :: ts => 32 :: (text1 t ++ textFrom ts)
def text : List T → List UInt8
  | [] => []
  | t :: ts => text1 t ++ textFrom ts
/-- A sign that a piece of one kind is, and its own text is that piece. -/
def Good (t : T) : Prop := ∃ k p, (k = 1 ∨ k = 2 ∨ k = 3) ∧ p ≠ [] ∧ (∀ b ∈ p, kind b = k) ∧ (goes k = true ∨ p.length = 1) ∧ tok k p = some t
theorem tok_text {k : Nat} {p : List UInt8} {t : T} (h : tok k p = some t) : text1 t = p := by
  unfold tok at h
  split at h
  · split at h
    · injection h with h; subst h; simp [text1]
    · split at h
      · injection h with h; subst h; simp [text1]
      · cases h
  · split at h
    · split at h
      · rename_i n hn
        split at h
        · injection h with h; subst h
          simp only [text1, if_true]
          rw [itoa_nonneg, (parseNum_some.1 hn).2]
        · cases h
      · cases h
    · split at h
      · injection h with h; subst h; simp [text1]
      · cases h
theorem pend_good : ∀ (r p : List UInt8) (k : Nat) (ts : List T), (k = 0 ∨ (p ≠ [] ∧ (∀ b ∈ p, kind b = k) ∧ (goes k = true ∨ p.length = 1))) → pend k p r = some ts → ∀ t ∈ ts, Good t
  | [], p, k, ts, _, h => by
    rw [pend] at h; injection h with h; subst h; intro t ht; cases ht
  | b :: r, p, k, ts, hp, h => by
    rw [pend] at h
    split at h
    · rename_i hk
      refine pend_good r (p ++ [b]) k ts ?_ h
      rcases hp with h0 | ⟨h1, h2, h3⟩
      · exact .inl h0
      · refine .inr ⟨by simp, ?_, .inl hk.2⟩
        intro c hc
        rcases List.mem_append.1 hc with hc | hc
        · exact h2 c hc
        · simp at hc; subst hc; exact hk.1
    · have hs : kind b = 0 ∨ ([b] ≠ [] ∧ (∀ c ∈ [b], kind c = kind b) ∧ (goes (kind b) = true ∨ [b].length = 1)) := .inr ⟨by simp, by intro c hc; simp at hc; subst hc; rfl, .inr rfl⟩
      split at h
      · exact pend_good r [b] (kind b) ts hs h
      · rename_i h0
        split at h
        · rename_i t ht
          split at h
          · rename_i ts' hts
            injection h with h; subst h
            intro u hu
            rcases List.mem_cons.1 hu with hu | hu
            · subst hu
              rcases hp with hp | ⟨h1, h2, h3⟩
              · exact absurd hp h0
              · refine ⟨k, p, ?_, h1, h2, h3, ht⟩
                by_cases e1 : k = 1
                · exact .inl e1
                · by_cases e2 : k = 2
                  · exact .inr (.inl e2)
                  · by_cases e3 : k = 3
                    · exact .inr (.inr e3)
                    · simp [tok, e1, e2, e3] at ht
            · exact pend_good r [b] (kind b) ts' hs hts u hu
          · cases h
        · cases h
theorem kind32 : kind 32 = 0 := by decide
/-- One good sign's text, and a blank behind. -/
theorem pend_text1 {t : T} (h : Good t) (r : List UInt8) : pend 0 [] (text1 t ++ 32 :: r) = put t (pend 0 [] r) := by
  obtain ⟨k, p, hk, hp, hall, hg, ht⟩ := h
  rw [tok_text ht]
  have hk0 : k ≠ 0 := by omega
  have hend : ∀ q, pend k q (32 :: r) = match tok k q with | some t => put t (pend 0 [] r) | none => none := by
    intro q
    rw [pend_end q r hk0 (by rw [kind32]; omega), pend_start, kind32, pend_gap]
  cases p with
  | nil => exact absurd rfl hp
  | cons b v =>
    have hb : kind b = k := hall b (by simp)
    rw [List.cons_append, pend_start, hb]
    rcases hg with hg | hg
    · rw [pend_run hg v [b] _ (fun c hc => hall c (by simp [hc])), hend]
      simp only [List.cons_append, List.nil_append, ht]
    · have : v = [] := by simpa using hg
      subst this
      rw [List.nil_append, hend, ht]
theorem pend_textFrom : ∀ (ts : List T), (∀ t ∈ ts, Good t) → pend 0 [] (textFrom ts ++ [32]) = some ts
  | [], _ => by simp [textFrom, pend_start, pend]
  | t :: ts, h => by
    have ih := pend_textFrom ts (fun u hu => h u (by simp [hu]))
    rw [textFrom, List.cons_append, pend_start, kind32, pend_gap, List.append_assoc]
    cases ts with
    | nil =>
      simp only [textFrom, List.nil_append]
      rw [pend_text1 (h t (by simp))]
      rfl
    | cons u us =>
      rw [textFrom, List.cons_append, pend_text1 (h t (by simp))]
      rw [textFrom, List.cons_append, pend_start, kind32, pend_gap] at ih
      rw [ih]
      rfl
theorem pend_text (ts : List T) (h : ∀ t ∈ ts, Good t) : pend 0 [] (text ts ++ [32]) = some ts := by
  cases ts with
  | nil => simp [text, pend_start, pend]
  | cons t ts =>
    have := pend_textFrom (t :: ts) h
    rw [textFrom, List.cons_append, pend_start, kind32, pend_gap] at this
    exact this
theorem lex_good {l : List UInt8} {ts : List T} (h : lex l = some ts) : (∀ t ∈ ts, Good t) ∧ ts.length ≤ 600 := by
  unfold lex at h
  split at h
  · cases h
  · cases hp : pend 0 [] (l ++ [32]) with
    | none => rw [hp] at h; cases h
    | some us =>
      rw [hp] at h
      simp only [cut, List.length_nil, List.nil_append] at h
      split at h
      · injection h with h; subst h
        exact ⟨pend_good _ _ _ _ (.inl rfl) hp, by omega⟩
      · cases h
/-- What is read of its own text is the list again, wherever that text is short enough. -/
theorem lex_text {ts : List T} (hg : ∀ t ∈ ts, Good t) (hn : ts.length ≤ 600) : lex (text ts) = if 3000 < (text ts).length then none else some ts := by
  unfold lex
  split
  · rfl
  · rw [pend_text ts hg]
    exact (by simp only [cut, List.length_nil, List.nil_append]; rw [if_pos (by omega)])
/-! ### runes of a text -/
theorem get_bang (s : ByteArray) (k : Nat) (h : k < s.size) : s.get! k = s[k]'h := by
  show s.data[k]! = _
  rw [getElem!_pos s.data k h]; rfl
/-- A rune of more than one byte ends ahead of a byte below 128 that is the last one. -/
theorem decode_inside (s : ByteArray) (pos : Nat) (h : pos < s.size) (hl : ∀ k, k + 1 = s.size → (s.get! k).toNat < 128) (hh : 128 ≤ (s.get! pos).toNat) : pos + (Utf8.decode s pos).2 < s.size := by
  have one : pos + 1 < s.size := by
    rcases Nat.lt_or_ge (pos + 1) s.size with h1 | h1
    · exact h1
    · have := hl pos (by omega); omega
  have more : ∀ k, (decide (pos + k < s.size) && (s.get! (pos + k)).toNat / 64 == 2) = true → pos + (k + 1) < s.size := by
    intro k hk
    simp only [Bool.and_eq_true, decide_eq_true_eq, beq_iff_eq] at hk
    rcases Nat.lt_or_ge (pos + k + 1) s.size with h1 | h1
    · exact h1
    · have := hl (pos + k) (by omega); omega
  unfold Utf8.decode
  simp only [Nat.add_zero]
  rw [if_neg (by omega)]
  split
  · rename_i hc
    rw [Bool.and_eq_true] at hc
    have := more 1 hc.2
    split <;> simp only <;> omega
  · split
    · rename_i hc
      rw [Bool.and_eq_true] at hc
      have := more 2 hc.2
      split <;> simp only <;> omega
    · split
      · rename_i hc
        rw [Bool.and_eq_true] at hc
        have := more 3 hc.2
        split <;> simp only <;> omega
      · simp only; omega
/-- A byte below 128 is its own rune. -/
theorem decode_low (s : ByteArray) (pos : Nat) (h : pos < s.size) (hk : (s[pos]'h).toNat < 128) : Utf8.decode s pos = ((s[pos]'h).toNat, 1) := decode_ascii s pos h hk
theorem kind_high {b : UInt8} (h : 128 ≤ b.toNat) : kind b = 4 := by
  unfold kind
  rw [if_neg (by omega), if_neg (by omega), if_neg (by omega), if_neg]
  intro hm
  simp only [marksL, List.mem_cons, List.not_mem_nil, or_false] at hm
  rcases hm with rfl | rfl | rfl | rfl | rfl | rfl | rfl | rfl | rfl | rfl | rfl | rfl <;> revert h <;> decide
theorem kind_low {b : UInt8} (h : kind b ≠ 4) : b.toNat < 128 := by
  rcases Nat.lt_or_ge b.toNat 128 with h1 | h1
  · exact h1
  · exact absurd (kind_high h1) h
end Go.Proofs.Ytphegbnnijehbaa
