/-
  Texts in one: RngRow, B9Draw.
-/
import Derived.Test.YthecjaonbmefgaaP03ofFnBoxesBent
import Derived.Test.YthecjaonbmefgaaP07ofFnBoxesBent
import Derived.Test.YthecjaonbmefgaaP27ofFnBoxesBent
/-
  Rows of ranges: how they lie in memory, their sizes, copies, and whether they are the same; rows that came in, opened.
-/
namespace Go.Proofs.Ythecjaonbmefgaa
open Go.RowKit Go.Lib
set_option linter.unusedSimpArgs false
set_option linter.unusedVariables false

/-- A range: its name, from where, to where. -/
structure RG where
  s : ByteArray
  lo : Int
  hi : Int
/-- A slice that holds these ranges, at l or above. -/
def RV (w : World) (l : Nat) (v : Value) (ts : List RG) : Prop :=
  ∃ ao cap, v = .slice ao ts.length cap ∧ ts.length ≤ cap ∧ (ts = [] ∨ ∃ g off, ao = some ⟨g, off, Option.none⟩ ∧ l ≤ g ∧ g < w.heap.size ∧ ∀ i t, ts[i]? = some t →
    w.cell? ⟨g, off + i * 3, Option.none⟩ = some (.string t.s) ∧ w.cell? ⟨g, off + i * 3 + 1, Option.none⟩ = some (.int .i64 t.lo) ∧ w.cell? ⟨g, off + i * 3 + 2, Option.none⟩ = some (.int .i64 t.hi))
theorem RV.same {w w' : World} {lo lo' : Nat} {v : Value} {ts : List RG} (hlo : lo' ≤ lo) (h : RV w lo v ts) (hk : Keeps lo w w') (hz : w.heap.size ≤ w'.heap.size) : RV w' lo' v ts := by
  obtain ⟨ao, cap, hv, hcap, h⟩ := h
  refine ⟨ao, cap, hv, hcap, ?_⟩
  rcases h with h | ⟨g, off, h1, h0, h2, h3⟩
  · exact .inl h
  · refine .inr ⟨g, off, h1, Nat.le_trans hlo h0, Nat.lt_of_lt_of_le h2 hz, fun i t hi => ?_⟩
    obtain ⟨a, b, c⟩ := h3 i t hi
    exact ⟨hk _ _ h0 a, hk _ _ h0 b, hk _ _ h0 c⟩
theorem RV.later {w w' : World} {lo : Nat} {v : Value} {ts : List RG} (h : RV w lo v ts) (hb : Below w.heap.size w w') : RV w' lo v ts := h.same (Nat.le_refl _) (Keeps.later hb) hb.size
theorem RV.low {w : World} {lo : Nat} {v : Value} {ts : List RG} (h : RV w lo v ts) : RV w 0 v ts := h.same (Nat.zero_le _) (Keeps.refl _ _) (Nat.le_refl _)
theorem RV.shape {w : World} {lo : Nat} {v : Value} {ts : List RG} (h : RV w lo v ts) : ∃ a c, v = .slice a ts.length c := by obtain ⟨a, c, h1, _⟩ := h; exact ⟨a, c, h1⟩
theorem RV.isOne {w : World} {lo : Nat} {v : Value} {ts : List RG} (h : RV w lo v ts) : v.oneCell' = true := by obtain ⟨a, c, rfl⟩ := h.shape; rfl
/-- How many bytes their names have together. -/
def rbytes : List RG → Nat
  | [] => 0
  | t :: ts => t.s.size + rbytes ts
def rsize8 (ts : List RG) : Nat := ts.length + rbytes ts
theorem rbytes_snoc (ts : List RG) (t : RG) : rbytes (ts ++ [t]) = rbytes ts + t.s.size := by
  induction ts with
  | nil => simp [rbytes]
  | cons u us ih => simp only [List.cons_append, rbytes, ih]; omega
theorem rbytes_take (ts : List RG) (k : Nat) : rbytes (ts.take k) ≤ rbytes ts := by
  induction ts generalizing k with
  | nil => simp [rbytes]
  | cons u us ih => cases k with
    | zero => simp [rbytes]
    | succ k => have := ih k; simp only [List.take_succ_cons, rbytes]; omega
theorem rbytes_mem {ts : List RG} {t : RG} (h : t ∈ ts) : t.s.size ≤ rbytes ts := by
  induction ts with
  | nil => simp at h
  | cons u us ih =>
    rcases List.mem_cons.1 h with rfl | h
    · simp only [rbytes]; omega
    · have := ih h; simp only [rbytes]; omega
theorem take_snocR {ts : List RG} {k : Nat} {t : RG} (h : ts[k]? = some t) : ts.take (k + 1) = ts.take k ++ [t] := by
  rw [List.take_add_one, h]; rfl
/-- The cells of a row of ranges. -/
def rcells8 : List RG → List Value
  | [] => []
  | t :: ts => .string t.s :: .int .i64 t.lo :: .int .i64 t.hi :: rcells8 ts
theorem rcells8_len (ts : List RG) : (rcells8 ts).length = ts.length * 3 := by
  induction ts with
  | nil => rfl
  | cons t ts ih => simp only [rcells8, List.length_cons, ih]; omega
theorem rcells8_snoc (ts : List RG) (t : RG) : rcells8 (ts ++ [t]) = rcells8 ts ++ [.string t.s, .int .i64 t.lo, .int .i64 t.hi] := by
  induction ts with
  | nil => rfl
  | cons u us ih => simp only [List.cons_append, rcells8, ih]
theorem rcells8_get (ts : List RG) : ∀ i t, ts[i]? = some t → (rcells8 ts)[i * 3]? = some (.string t.s) ∧ (rcells8 ts)[i * 3 + 1]? = some (.int .i64 t.lo) ∧ (rcells8 ts)[i * 3 + 2]? = some (.int .i64 t.hi) := by
  induction ts with
  | nil => intro i t h; simp at h
  | cons u us ih =>
    intro i t h
    cases i with
    | zero => simp at h; subst h; exact ⟨rfl, rfl, rfl⟩
    | succ i =>
      have := ih i t (by simpa using h)
      rw [show (i + 1) * 3 = i * 3 + 3 by omega]
      simpa [rcells8] using this
theorem RV.laid {w : World} {g c : Nat} {ts : List RG} (hcap : ts.length ≤ c) (hg : g < w.heap.size) (hr : w.rangeAt g 0 (rcells8 ts)) : RV w g (.slice (some ⟨g, 0, Option.none⟩) ts.length c) ts :=
  ⟨_, c, rfl, hcap, .inr ⟨g, 0, rfl, Nat.le_refl _, hg, fun i t hi => ⟨hr _ _ (rcells8_get ts i t hi).1, by have := hr _ _ (rcells8_get ts i t hi).2.1; rwa [← Nat.add_assoc] at this, by have := hr _ _ (rcells8_get ts i t hi).2.2; rwa [← Nat.add_assoc] at this⟩⟩⟩
theorem all3r (t : ByteArray) (k n : Int) : (#[.string t, .int .i64 k, .int .i64 n] : Array Value).all (·.oneCell') = true :=
  all_oneCell_toArray (cs := [.string t, .int .i64 k, .int .i64 n]) (fun v hv => by
    simp only [List.mem_cons, List.not_mem_nil, or_false] at hv
    rcases hv with rfl | rfl | rfl <;> rfl)
theorem infoIR9 : (Try.prog.info? 33).map (fun i => (i.zero, i.size, i.bytes)) = some (some (.agg #[.string ⟨#[]⟩, .int .i64 0, .int .i64 0]), 3, 32) := by kernel_rfl
theorem sizeIR9 : (Try.prog.info? 33).map (·.size) = some 3 := by kernel_rfl
end Go.Proofs.Ythecjaonbmefgaa
namespace Go.Proofs.Ythecjaonbmefgaa
open Go.ChangeShapes Go.WideShapes Go.ChangeAt Go.RowKit
section
variable {H : Type} {enc : TypeId × Value → H} {W : World} {sp : Nat → Bool} {held : Bool}
theorem build_rngs {b o len : Nat} (each : ∀ i, i < len → ∃ t : RG, t.s.size ≤ 9223372036854775807 ∧ W.cell? ⟨b, o + i * 3, Option.none⟩ = some (.string t.s) ∧ W.cell? ⟨b, o + i * 3 + 1, Option.none⟩ = some (.int .i64 t.lo) ∧ W.cell? ⟨b, o + i * 3 + 2, Option.none⟩ = some (.int .i64 t.hi)) :
    ∀ d, d ≤ len → ∃ R : List RG, R.length = d ∧ (∀ t ∈ R, t.s.size ≤ 9223372036854775807) ∧ ∀ i t, R[i]? = some t → W.cell? ⟨b, o + i * 3, Option.none⟩ = some (.string t.s) ∧ W.cell? ⟨b, o + i * 3 + 1, Option.none⟩ = some (.int .i64 t.lo) ∧ W.cell? ⟨b, o + i * 3 + 2, Option.none⟩ = some (.int .i64 t.hi)
  | 0, _ => ⟨[], rfl, fun _ h => by simp at h, fun i t h => by simp at h⟩
  | d + 1, hd => by
    obtain ⟨R, h1, h2, h3⟩ := build_rngs each d (by omega)
    obtain ⟨t, k, c0, c1, c2⟩ := each d (by omega)
    refine ⟨R ++ [t], by simp [h1], fun u hu => ?_, fun i u hu => ?_⟩
    · rcases List.mem_append.1 hu with hu | hu
      · exact h2 u hu
      · simp only [List.mem_cons, List.not_mem_nil, or_false] at hu; subst hu; exact k
    · rcases Nat.lt_or_ge i R.length with hi | hi
      · rw [List.getElem?_append_left hi] at hu; exact h3 i u hu
      · rw [List.getElem?_append_right hi] at hu
        have hi2 : i = d := by have := (List.getElem?_eq_some_iff.1 hu).1; simp at this; omega
        subst hi2
        rw [h1, Nat.sub_self] at hu
        simp at hu; subst hu; exact ⟨c0, c1, c2⟩
end
end Go.Proofs.Ythecjaonbmefgaa
/-
  The draws of chapter 9: l9Draw, l9Any.
-/
namespace Go.Proofs.Ythecjaonbmefgaa
open Go.RowKit Go.Lib
set_option linter.unusedSimpArgs false
set_option linter.unusedVariables false

theorem newL9 (w : World) (l : List Value) (t : TypeId) : ∀ j x, l[j]? = some x → (w.alloc (.cells l.toArray t)).cell? ((⟨w.heap.size, 0, Option.none⟩ : Addr).add j) = some x := by
  intro j x h
  have e : (⟨w.heap.size, 0, Option.none⟩ : Addr).add j = ⟨w.heap.size, j, Option.none⟩ := by simp [Addr.add]; omega
  rw [e, World.cell?_alloc_new]
  simpa using h
theorem three9 (s : ByteArray) (a b : Int) : ∀ u ∈ [Value.string s, Value.int .i64 a, Value.int .i64 b], u.oneCell' = true := by
  intro x hx; simp only [List.mem_cons, List.not_mem_nil, or_false] at hx; rcases hx with rfl | rfl | rfl <;> rfl
theorem own_type9 {w : World} {B sz n p : Nat} {e t : TypeId} {v : Value} {xs : List Value} {c : Array Value} (h : w.ownsRow B e sz v n xs) (hp : w.heap[p]? = some (.cells c t (0, 0))) (hne : e ≠ t) : v.ownBlock ≠ some p := by
  intro hv
  rcases h.2 with ⟨h0, _⟩ | ⟨g, cap, cur, h1, _, h3, _⟩
  · rw [h0] at hv; cases hv
  · rw [h1] at hv
    have e1 : g = p := by simpa [Value.ownBlock] using hv
    subst e1
    have h2 := Option.some.inj (hp.symm.trans h3)
    injection h2 with _ h4 _
    exact hne h4.symm
theorem RV.ofOwn9 {w : World} {B n c k : Nat} {a : Option Addr} {rs : List RG} (h : w.ownsRow B 33 3 (.slice a n c) n (rcells8 rs)) (hn : n = rs.length) (hk : k ≤ n) : RV w B (.slice a k c) (rs.take k) := by
  subst hn
  have hlk : (rs.take k).length = k := by rw [List.length_take]; omega
  rcases h.2 with ⟨h0, h1⟩ | ⟨g, cap, cur, h1, h2, h3, h4, h5⟩
  · have hr : rs = [] := List.length_eq_zero_iff.1 h1
    subst hr
    have h00 : k = 0 := by simpa using hk
    subst h00
    injection h0 with e1 e2 e3
    exact ⟨a, c, rfl, Nat.zero_le _, .inl (by simp)⟩
  · have hc := h.cells (g := g) (by rw [h1]; rfl)
    injection h1 with e1 e2 e3
    subst e1; subst e3
    refine ⟨_, c, by rw [hlk], by rw [hlk]; omega, .inr ⟨g, 0, rfl, h2, (Array.getElem?_eq_some_iff.1 h3).1, fun i t hi => ?_⟩⟩
    have hi2 : rs[i]? = some t := by
      rw [List.getElem?_take] at hi
      split at hi
      · exact hi
      · cases hi
    have hg := rcells8_get rs i t hi2
    have e : ∀ j, (⟨g, 0, Option.none⟩ : Addr).add j = ⟨g, j, Option.none⟩ := fun j => by simp [Addr.add]; omega
    have a := hc _ _ hg.1; have b := hc _ _ hg.2.1; have d := hc _ _ hg.2.2
    rw [e] at a b d
    exact ⟨by rw [Nat.zero_add]; exact a, by rw [Nat.zero_add]; exact b, by rw [Nat.zero_add]; exact d⟩
theorem Dw.grown8 {B : Nat} {a : Option Addr} {len cap b : Nat} {r : Option Nat} {A C : World} (d : Dw B a len cap b A) (hg : A.grownBy C r) (hr : ∀ k, r = some k → b < k) : Dw B a len cap b C := by
  have hb : Below (b + 1) A C := ⟨hg.os, hg.tape, hg.output, hg.size, fun k hk => hg.block k (Nat.lt_of_lt_of_le hk d.cur.lt) (fun e => by have := hr k e.symm; omega)⟩
  exact d.below8 hb (Nat.lt_succ_self _)
theorem Wr.grown8 {b : Nat} {r : Option Nat} {w A C : World} (h : Wr b w A) (hg : A.grownBy C r) (hr : ∀ k, r = some k → w.heap.size ≤ k) : Wr b w C :=
  ⟨hg.os.trans h.os, hg.tape.trans h.tape, hg.output.trans h.output, Nat.le_trans h.size hg.size, fun i hi hne => (hg.block i (Nat.lt_of_lt_of_le hi h.size) (fun e => by have := hr i e.symm; omega)).trans (h.block i hi hne)⟩
/-- Ranges of the first k names, in order, the right way round. -/
def Bx9 (k : Nat) (rs : List RG) : Prop := rs.length = k ∧ ∀ (j : Nat) (t : RG), rs[j]? = some t → nm3[j]? = some t.s ∧ -1 ≤ t.lo ∧ t.lo ≤ 3 ∧ t.lo ≤ t.hi ∧ t.hi ≤ t.lo + 4
theorem Bx9.snoc {k : Nat} {rs : List RG} {s : ByteArray} {lo hi : Int} (h : Bx9 k rs) (hs : nm3[k]? = some s) (h1 : -1 ≤ lo ∧ lo ≤ 3) (h2 : lo ≤ hi ∧ hi ≤ lo + 4) : Bx9 (k + 1) (rs ++ [⟨s, lo, hi⟩]) := by
  refine ⟨by rw [List.length_append, h.1]; rfl, fun j t ht => ?_⟩
  rcases Nat.lt_or_ge j rs.length with hj | hj
  · rw [List.getElem?_append_left hj] at ht; exact h.2 j t ht
  · rw [List.getElem?_append_right hj] at ht
    have hz : j - rs.length = 0 := by have := (List.getElem?_eq_some_iff.1 ht).1; simp at this; omega
    rw [hz] at ht
    simp only [List.getElem?_cons_zero, Option.some.injEq] at ht
    subst ht
    have hjk : j = k := by have := h.1; omega
    subst hjk
    exact ⟨hs, h1.1, h1.2, h2.1, h2.2⟩
/-- Ranges were drawn. -/
def DrawnR9 (p : List RG → Prop) (B : Nat) (a : Option Addr) (len cap b : Nat) (w : World) (e : Ending) (w' : World) : Prop :=
  ∃ (rs : List RG) (v : Value), e = .returned v ∧ p rs ∧ w'.ownsRow w.heap.size 33 3 v rs.length (rcells8 rs) ∧ Dw B a len cap b w' ∧ Wr b w w'
set_option maxHeartbeats 4000000 in
set_option maxRecDepth 100000 in
theorem l9Draw_is (B : Nat) (a : Option Addr) (len cap b : Nat) (w : World) (d : Dw B a len cap b w) :
    Calls Try.prog 25 #[.pointer (some ⟨b, 0, none⟩)] w (DrawnR9 (Bx9 3) B a len cap b w) := by
  obtain ⟨i0, hi0, hz0, hz1, hz2⟩ := info_parts infoIR9
  have hbz : b < w.heap.size := d.cur.lt
  have bz : Below w.heap.size w ((w.alloc (.cells #[] 33)).alloc (.cells #[.string ⟨#[105]⟩, .string ⟨#[106]⟩, .string ⟨#[107]⟩] 9)) := (alloc_below w _).alloc (by simp) _
  obtain ⟨q0, q1⟩ := heap2t w (.cells #[] 33) (.cells #[.string ⟨#[105]⟩, .string ⟨#[106]⟩, .string ⟨#[107]⟩] 9)
  have own0 : ((w.alloc (.cells #[] 33)).alloc (.cells #[.string ⟨#[105]⟩, .string ⟨#[106]⟩, .string ⟨#[107]⟩] 9)).ownsRow w.heap.size 33 3 (.slice (some ⟨w.heap.size, 0, Option.none⟩) 0 0) 0 (rcells8 []) := ⟨rfl, .inr ⟨w.heap.size, 0, #[], rfl, Nat.le_refl _, q0, Nat.le_refl _, (by unfold maxLen; omega), rfl, rfl⟩⟩
  have D0 := Lib.hid (d.later bz)
  have WR0 : Hid (Wr b w ((w.alloc (.cells #[] 33)).alloc (.cells #[.string ⟨#[105]⟩, .string ⟨#[106]⟩, .string ⟨#[107]⟩] 9))) := Wr.of_below bz
  have O0 := Lib.hid own0
  have N0 := Lib.hid q1
  clear d bz own0 q0 q1
  go_enter Try.func25, Try.ntmps25
  go_wp2
  go_loopw [3, 5] (fun v i wr => ∃ (k : Nat) (X : List RG), k ≤ 3 ∧ i = .int .i64 (k : Int) ∧ Hid (Bx9 k X) ∧ Hid (wr.ownsRow w.heap.size 33 3 v X.length (rcells8 X)) ∧ Hid (wr.heap[w.heap.size + 1]? = some (.cells #[.string ⟨#[105]⟩, .string ⟨#[106]⟩, .string ⟨#[107]⟩] 9)) ∧ Hid (Dw B a len cap b wr) ∧ Hid (Wr b w wr)) (fun _ i _ => 3 - (RowKit.intOf i).toNat)
  case atStart => exact ⟨0, [], by omega, rfl, ⟨rfl, fun j t h => by simp at h⟩, O0.out, N0.out, D0.out, WR0.out⟩
  case round =>
    obtain ⟨k, X, hk, rfl, HX, HOw, HN, HD, HW⟩ := hrel
    obtain ⟨oa, oc, rfl⟩ := ownShape HOw.out
    by_cases hlt : k < 3
    · have hltI : (k : Int) < 3 := by omega
      go_wp2_with fail
      refine (l1Below_is B a len cap b 5 _ HD.out (by omega)).mono ?_
      rintro e w5 ⟨x, rfl, ⟨x0, x1⟩, d5, wr5⟩
      obtain ⟨lo, hlo⟩ : ∃ lo, x - 1 = lo := ⟨_, rfl⟩
      have HLO : Hid (-1 ≤ lo ∧ lo ≤ 3) := show _ ∧ _ by omega
      have O5 := Lib.hid (own_w8 HOw.out wr5 (by omega))
      have N5 := Lib.hid (heap_w8 HN.out wr5 (by omega))
      have D5 := Lib.hid d5
      have W5 := Lib.hid (HW.out.trans wr5)
      obtain ⟨s, hs⟩ : ∃ s, nm3[k]? = some s := ⟨nm3[k]'(by simpa [nm3] using hlt), List.getElem?_eq_getElem _⟩
      have HS := Lib.hid hs
      have NC : Hid (∀ wx : World, wx.heap[w.heap.size + 1]? = some (.cells #[.string ⟨#[105]⟩, .string ⟨#[106]⟩, .string ⟨#[107]⟩] 9) → wx.cell? ⟨w.heap.size + 1, k, Option.none⟩ = some (.string s)) := show ∀ wx : World, _ → _ from by
        intro wx hx
        have : k = 0 ∨ k = 1 ∨ k = 2 := by omega
        rcases this with rfl | rfl | rfl <;> (simp only [nm3, List.getElem?_cons_zero, List.getElem?_cons_succ, Option.some.injEq] at hs; subst hs; simp [World.cell?, hx])
      clear d5 wr5 hs HOw HN HD HW
      go_wp2_with fail
      clear x0 x1 hlo
      have bd : Below w5.heap.size w5 w5.drew := (Below.refl _ w5).drew
      obtain ⟨w7, Wd⟩ : ∃ w7, Hid (w7 = w5.drew) := ⟨_, rfl⟩
      have hS : w7.heap[w.heap.size + 1]? = some (.cells #[.string ⟨#[105]⟩, .string ⟨#[106]⟩, .string ⟨#[107]⟩] 9) := by rw [Wd.out]; exact heap_b8 N5.out bd
      refine wp_region_last (fun w' => w'.heap[w.heap.size + 1]? = some (.cells #[.string ⟨#[105]⟩, .string ⟨#[106]⟩, .string ⟨#[107]⟩] 9)) 13 (by kernel_rfl) ?_
      rw [← Wd.out] at bd ⊢
      have O7 := Lib.hid (own_below8 O5.out bd)
      have D7 := Lib.hid (D5.out.later bd)
      have W7 := Lib.hid (W5.out.trans (.of_below bd))
      clear bd Wd O5 N5 D5 W5
      refine wpAnyL_take (i := 0) (v := .slice oa X.length oc) rfl (by kernel_rfl) (by kernel_rfl) (by kernel_rfl) (by kernel_rfl) (fun _ _ _ h => h) (Or.inl ⟨by rfl, ?yda0⟩) hS ?_
      case yda0 => intro w hSw; go_simp
      simp only [Act.put, List.getElem_toArray, List.getElem_cons_succ, List.getElem_cons_zero, List.setIfInBounds_toArray, List.set_cons_zero, List.set_cons_succ]
      refine wpAnyL_take (i := 1) (v := .slice (some ⟨w.heap.size + 1, 0, Option.none⟩) 3 3) rfl (by kernel_rfl) (by kernel_rfl) (by kernel_rfl) (by kernel_rfl) (fun _ _ _ h => h) (Or.inl ⟨by rfl, ?yda1⟩) hS ?_
      case yda1 => intro w hSw; go_simp
      simp only [Act.put, List.getElem_toArray, List.getElem_cons_succ, List.getElem_cons_zero, List.setIfInBounds_toArray, List.set_cons_zero, List.set_cons_succ]
      refine wpAnyL_take (i := 2) (v := .int .i64 (k : Int)) rfl (by kernel_rfl) (by kernel_rfl) (by kernel_rfl) (by kernel_rfl) (fun _ _ _ h => h) (Or.inl ⟨by rfl, ?yda2⟩) hS ?_
      case yda2 => intro w hSw; go_simp
      simp only [Act.put, List.getElem_toArray, List.getElem_cons_succ, List.getElem_cons_zero, List.setIfInBounds_toArray, List.set_cons_zero, List.set_cons_succ]
      refine wpAnyL_take (i := 3) (v := .pointer (some ⟨w.heap.size + 1, k, Option.none⟩)) rfl (by kernel_rfl) (by kernel_rfl) (by kernel_rfl) (by kernel_rfl) (fun _ _ _ h => h) (Or.inl ⟨by rfl, ?yda3⟩) hS ?_
      case yda3 => intro w hSw; go_simp
      simp only [Act.put, List.getElem_toArray, List.getElem_cons_succ, List.getElem_cons_zero, List.setIfInBounds_toArray, List.set_cons_zero, List.set_cons_succ]
      refine wpAnyL_take (i := 4) (v := .string s) rfl (by kernel_rfl) (by kernel_rfl) (by kernel_rfl) (by kernel_rfl) (fun _ _ _ h => h) (Or.inl ⟨by rfl, ?yda4⟩) hS ?_
      case yda4 => intro w hSw; have q := NC.out _ hSw; go_simp
      simp only [Act.put, List.getElem_toArray, List.getElem_cons_succ, List.getElem_cons_zero, List.setIfInBounds_toArray, List.set_cons_zero, List.set_cons_succ]
      refine wpAnyL_take (i := 5) (v := .int .i64 lo) rfl (by kernel_rfl) (by kernel_rfl) (by kernel_rfl) (by kernel_rfl) (fun _ _ _ h => h) (Or.inl ⟨by rfl, ?yda5⟩) hS ?_
      case yda5 => intro w hSw; go_simp
      simp only [Act.put, List.getElem_toArray, List.getElem_cons_succ, List.getElem_cons_zero, List.setIfInBounds_toArray, List.set_cons_zero, List.set_cons_succ]
      refine wpAnyL_take (i := 6) (v := .int .i64 lo) rfl (by kernel_rfl) (by kernel_rfl) (by kernel_rfl) (by kernel_rfl) (fun _ _ _ h => h) (Or.inl ⟨by rfl, ?yda6⟩) hS ?_
      case yda6 => intro w hSw; go_simp
      simp only [Act.put, List.getElem_toArray, List.getElem_cons_succ, List.getElem_cons_zero, List.setIfInBounds_toArray, List.set_cons_zero, List.set_cons_succ]
      refine wpAnyL_take (i := 7) (v := .pointer (some ⟨b, 0, Option.none⟩)) rfl (by kernel_rfl) (by kernel_rfl) (by kernel_rfl) (by kernel_rfl) (fun _ _ _ h => h) (Or.inl ⟨by rfl, ?yda7⟩) hS ?_
      case yda7 => intro w hSw; go_simp
      simp only [Act.put, List.getElem_toArray, List.getElem_cons_succ, List.getElem_cons_zero, List.setIfInBounds_toArray, List.set_cons_zero, List.set_cons_succ]
      refine wpAnyL_ready (rs := [8]) (by kernel_rfl) (by simp) ?_
      refine AllReadyL.cons rfl (fun K hK => ?_) AllReadyL.nil
      rw [if_pos (by rfl)]
      simp only [List.getElem_toArray, List.getElem_cons_succ, List.getElem_cons_zero]
      go_wp2_with fail
      refine (l1Below_is B a len cap b 5 _ D7.out (by omega)).mono ?_
      rintro e w8 ⟨y, rfl, ⟨y0, y1⟩, d8, wr8⟩
      obtain ⟨hi, hhi⟩ : ∃ hi, lo + y = hi := ⟨_, rfl⟩
      have hl0 := HLO.out.1
      have hl1 := HLO.out.2
      have HHI : Hid (lo ≤ hi ∧ hi ≤ lo + 4) := show _ ∧ _ by omega
      have O8 := Lib.hid (own_w8 O7.out wr8 (by omega))
      have D8 := Lib.hid d8
      have W8 := Lib.hid (W7.out.trans wr8)
      have hw8 := wr8
      clear d8 wr8 O7 D7 W7
      go_wp2_with fail
      have hS2 := heap_w8 hS hw8 (by omega)
      refine hK.out _ _ (fun _ => hS2) ?_
      clear hS hK
      have hS := hS2
      clear hS2
      clear hw8
      have hwh : IntKind.i64.wrap hi = hi := wrap8 (by have h1 := HLO.out; have h2 := HHI.out; omega) (by have h1 := HLO.out; have h2 := HHI.out; omega)
      refine wpAnyL_take (i := 9) (v := .int .i64 hi) rfl (by kernel_rfl) (by kernel_rfl) (by kernel_rfl) (by kernel_rfl) (fun _ _ _ h => h) (Or.inl ⟨by rfl, ?yda9⟩) hS ?_
      case yda9 => intro w hSw; go_simp
      simp only [Act.put, List.getElem_toArray, List.getElem_cons_succ, List.getElem_cons_zero, List.setIfInBounds_toArray, List.set_cons_zero, List.set_cons_succ]
      refine wpAnyL_take (i := 10) (v := .agg #[.string s, .int .i64 lo, .int .i64 hi]) rfl (by kernel_rfl) (by kernel_rfl) (by kernel_rfl) (by kernel_rfl) (fun _ _ _ h => h) (Or.inl ⟨by rfl, ?yda10⟩) hS ?_
      case yda10 => intro w hSw; go_simp
      simp only [Act.put, List.getElem_toArray, List.getElem_cons_succ, List.getElem_cons_zero, List.setIfInBounds_toArray, List.set_cons_zero, List.set_cons_succ]
      have NE := Lib.hid (own_type9 O8.out hS (by decide))
      have HV := Lib.hid O8.out.lt
      have hq5 : w.heap.size ≤ w8.heap.size := W8.out.size
      have HS0 := Lib.hid hS
      refine wpAnyL_ready (rs := [11]) (by kernel_rfl) (by simp) ?_
      refine AllReadyL.cons rfl (fun K hK => ?_) AllReadyL.nil
      rw [if_pos (by rfl)]
      simp only [List.getElem_toArray, List.getElem_cons_succ, List.getElem_cons_zero]
      go_wp2_with fail
      have hS2 := heap_b8 hS (alloc_below w8 (.cells #[.string s, .int .i64 lo, .int .i64 hi] 33))
      refine hK.out _ _ (fun _ => hS2) ?_
      clear hS hK
      have hS := hS2
      clear hS2
      refine wpAnyL_ready (rs := [12]) (by kernel_rfl) (by simp) ?_
      refine AllReadyL.cons rfl (fun K hK => ?_) AllReadyL.nil
      rw [if_pos (by rfl)]
      simp only [List.getElem_toArray, List.getElem_cons_succ, List.getElem_cons_zero]
      refine wp_append_own _ _ _ 27 (by rfl) w.heap.size 33 i0 _ 3 32 Try.underlying27 hi0 hz0 hz1 hz2 rfl (by decide) _ _ _ (by rfl) (O8.out.alloc _) ⟨w8.heap.size, 0, Option.none⟩ 1 1 [.string s, .int .i64 lo, .int .i64 hi] (by rfl) (by rfl) (newL9 w8 [.string s, .int .i64 lo, .int .i64 hi] _) (three9 _ _ _) (by have := HX.out.1; unfold maxLen; omega) (by have := HX.out.1; omega) (by simp; omega) ?_
      intro v' w9 hown9 hgrow9 _
      obtain ⟨a9, c9, rfl⟩ := ownShape hown9
      have F9 : Below w.heap.size w8 w9 := ((Below.refl _ w8).alloc hq5 _).grown hgrow9 (by simp; omega) (fun k hk => (HV.out k hk).1)
      have D9 := Lib.hid (D8.out.below8 F9 hbz)
      have W9 := Lib.hid (W8.out.below8 F9 (Nat.le_refl _))
      have hS2 := heap_g8 hS hgrow9 NE.out
      refine hK.out _ _ (fun _ => hS2) ?_
      clear hS hK
      have hS := hS2
      clear hS2
      have N9 := Lib.hid hS
      clear F9
      simp only [Act.put, List.getElem_toArray, List.getElem_cons_succ, List.getElem_cons_zero, List.setIfInBounds_toArray, List.set_cons_zero, List.set_cons_succ]
      refine wpAnyL_ready (rs := [13]) (by kernel_rfl) (by simp) ?_
      refine AllReadyL.cons rfl (fun K hK => ?_) AllReadyL.nil
      rw [if_pos (by rfl)]
      simp only [List.getElem_toArray, List.getElem_cons_succ, List.getElem_cons_zero]
      go_wp2_with fail
      refine hK.out _ _ (fun e => absurd rfl e) ?_
      clear hK hS
      refine wpAnyL_done (by kernel_rfl) ?_ _
      have HX9 := Lib.hid (HX.out.snoc HS.out HLO.out HHI.out)
      have O9 : Hid (w9.ownsRow w.heap.size 33 3 (.slice a9 (X.length + 1) c9) (X ++ [(⟨s, lo, hi⟩ : RG)]).length (rcells8 (X ++ [(⟨s, lo, hi⟩ : RG)]))) := by
        rw [List.length_append, rcells8_snoc]
        exact hown9
      clear hown9 hgrow9 y0 y1 hhi hl0 hl1
      go_wp2
      go_roundw
      case rel => exact ⟨k + 1, X ++ [(⟨s, lo, hi⟩ : RG)], by omega, by go_num, HX9.out, O9.out, N9.out, D9.out, W9.out⟩
      case measure => simp [RowKit.intOf]; omega
    · obtain rfl : k = 3 := by omega
      go_wp2
      go_ret
      exact ⟨X, _, rfl, HX.out, HOw.out, HD.out, HW.out⟩
end Go.Proofs.Ythecjaonbmefgaa
