/-
  Texts in one: AffsP9, RngRow.
-/
import Derived.Test.YthecjaonbmefgaaP27ofFnBoxes
import Derived.Test.YthecjaonbmefgaaP28ofFnBoxes
import Derived.Test.YthecjaonbmefgaaP03ofFnBoxes
import Derived.Test.YthecjaonbmefgaaP07ofFnBoxes
/-
  Small sums, plainly: what they come to, name by name.
-/
namespace Go.Proofs.Ythecjaonbmefgaa
open Go.RowKit Go.Lib
set_option linter.unusedSimpArgs false
set_option linter.unusedVariables false

def sumT8 (f : ByteArray → Int) : List AR → Int
  | [] => 0
  | t :: r => t.n * f t.s + sumT8 f r
def sumN8 (f : ByteArray → Int) (ts : List AR) : List ByteArray → Int
  | [] => 0
  | s :: r => coefA ts s * f s + sumN8 f ts r
theorem sumN8_nil (f : ByteArray → Int) : ∀ N, sumN8 f [] N = 0
  | [] => rfl
  | s :: N => by rw [sumN8, sumN8_nil f N, coefA]; simp
theorem sumN8_off (f : ByteArray → Int) (t : AR) (r : List AR) : ∀ (N : List ByteArray), t.s ∉ N → sumN8 f (t :: r) N = sumN8 f r N
  | [], _ => rfl
  | s :: N, h => by
    have h1 : ¬ t.s = s := fun e => h (by simp [e])
    rw [sumN8, sumN8, sumN8_off f t r N (fun e => h (by simp [e])), coefA, if_neg h1]
theorem sumN8_on (f : ByteArray → Int) (t : AR) (r : List AR) (h0 : coefA r t.s = 0) : ∀ (N : List ByteArray), N.Pairwise (fun a b => a ≠ b) → t.s ∈ N → sumN8 f (t :: r) N = t.n * f t.s + sumN8 f r N
  | [], _, h => by simp at h
  | s :: N, hp, h => by
    have hp' := List.pairwise_cons.1 hp
    by_cases e : t.s = s
    · subst e
      have hn : t.s ∉ N := fun hm => hp'.1 _ hm rfl
      rw [sumN8, sumN8, sumN8_off f t r N hn, coefA, if_pos rfl, h0]
      omega
    · have hm : t.s ∈ N := by rcases List.mem_cons.1 h with h | h; exact absurd h e; exact h
      rw [sumN8, sumN8, sumN8_on f t r h0 N hp'.2 hm, coefA, if_neg e]
      omega
theorem sumT8_N (f : ByteArray → Int) (N : List ByteArray) (hp : N.Pairwise (fun a b => a ≠ b)) : ∀ (ts : List AR), Asc8 ts → (∀ t ∈ ts, t.s ∈ N) → sumT8 f ts = sumN8 f ts N
  | [], _, _ => (sumN8_nil f N).symm
  | t :: r, ha, hm => by
    have ha' := List.pairwise_cons.1 ha
    rw [sumT8, sumT8_N f N hp r ha'.2 (fun u hu => hm u (by simp [hu])), sumN8_on f t r (coefA_high8 ha'.1) N hp (hm t (by simp))]
theorem sumN8_lin (f : ByteArray → Int) (n : Int) (a b c : List AR) : ∀ (N : List ByteArray), (∀ s ∈ N, coefA c s = coefA a s + n * coefA b s) → sumN8 f c N = sumN8 f a N + n * sumN8 f b N
  | [], _ => by simp [sumN8]
  | s :: N, h => by
    rw [sumN8, sumN8, sumN8, sumN8_lin f n a b c N (fun u hu => h u (by simp [hu])), h s (by simp), Int.add_mul, Int.mul_add, Int.mul_assoc]
    omega
theorem affGo8_is (nm : ByteArray → Int) : ∀ (ts : List AR) (c : Int), IntKind.i64.wrap c = c → affGo8 nm c ts = IntKind.i64.wrap (c + sumT8 nm ts)
  | [], c, h => by rw [affGo8, sumT8, Int.add_zero, h]
  | t :: r, c, h => by
    have hw : ∀ x : Int, IntKind.i64.wrap x = (x + 9223372036854775808) % 18446744073709551616 - 9223372036854775808 := fun x => IntKind.wrap_i64 x
    rw [affGo8, affGo8_is nm r _ (by simp only [hw]; omega), sumT8]
    generalize t.n * nm t.s = p
    generalize sumT8 nm r = q
    simp only [hw]
    omega
theorem asc_ne {N : List ByteArray} (h : Asc N) : N.Pairwise (fun a b => a ≠ b) := List.Pairwise.imp (fun hab e => by subst e; rw [blt_irrefl] at hab; cases hab) h
theorem mem_coef8 : ∀ (ts : List AR), Asc8 ts → ∀ t ∈ ts, coefA ts t.s = t.n
  | [], _, t, h => by simp at h
  | u :: r, ha, t, h => by
    have ha' := List.pairwise_cons.1 ha
    rcases List.mem_cons.1 h with rfl | h
    · rw [coefA, if_pos rfl]
    · rw [coefA, if_neg (fun e => (blt_ne8 (ha'.1 t h)) e.symm), mem_coef8 r ha'.2 t h]
theorem coefA_sm8 (s : ByteArray) : ∀ (ts : List AR), (∀ t ∈ ts, -4 ≤ t.n ∧ t.n ≤ 4) → -4 ≤ coefA ts s ∧ coefA ts s ≤ 4
  | [], _ => by simp [coefA]
  | t :: ts, h => by
    rw [coefA]
    split
    · exact h t (by simp)
    · exact coefA_sm8 s ts (fun u hu => h u (by simp [hu]))
theorem okFrom8_of : ∀ (ts : List AR) (p : Option ByteArray), (∀ t ∈ ts, ∀ q, p = some q → blt q t.s = true) → Asc8 ts → Bd8 ts → Nz8 ts → (∀ t ∈ ts, nameOk t.s.data.toList = true) → okFrom8 p ts = true
  | [], _, _, _, _, _, _ => rfl
  | t :: r, p, hp, ha, hb, hn, ho => by
    have ha' := List.pairwise_cons.1 ha
    have ih := okFrom8_of r (some t.s) (fun u hu q hq => by injection hq with hq; subst hq; exact ha'.1 u hu) ha'.2 (fun u hu => hb u (by simp [hu])) (fun u hu => hn u (by simp [hu])) (fun u hu => ho u (by simp [hu]))
    have h1 : ltPrev8 p t.s = true := by
      cases p with
      | none => rfl
      | some q => exact hp t (by simp) q rfl
    have h2 : (t.n == 0) = false := beq_false_of_ne (hn t (by simp))
    rw [okFrom8, termOk8, ho t (by simp), h1, h2, (inMax8_iff t.n).2 (hb t (by simp)), ih]
    rfl
theorem affOk8_of {c : Int} {ts : List AR} (hc : -100000 ≤ c ∧ c ≤ 100000) (ha : Asc8 ts) (hb : Bd8 ts) (hn : Nz8 ts) (ho : ∀ t ∈ ts, nameOk t.s.data.toList = true) : affOk8 c ts = true := by
  rw [affOk8, (inMax8_iff c).2 hc, okFrom8_of ts none (by simp) ha hb hn ho]; rfl
theorem nm3_ok {j : Nat} {s : ByteArray} (h : nm3[j]? = some s) : nameOk s.data.toList = true := by
  have h3 : j < 3 := (List.getElem?_eq_some_iff.1 h).1
  have : j = 0 ∨ j = 1 ∨ j = 2 := by omega
  rcases this with rfl | rfl | rfl <;> (simp only [nm3, List.getElem?_cons_zero, List.getElem?_cons_succ, Option.some.injEq] at h; subst h; decide +kernel)
theorem Small8.nz {c : Int} {ts : List AR} (h : Small8 c ts) : Nz8 ts := fun t ht => (h.2.2.2 t ht).2.2.2
theorem Small8.bd {c : Int} {ts : List AR} (h : Small8 c ts) : Bd8 ts := fun t ht => by have := (h.2.2.2 t ht).2; omega
theorem Small8.b4 {c : Int} {ts : List AR} (h : Small8 c ts) : ∀ t ∈ ts, -4 ≤ t.n ∧ t.n ≤ 4 := fun t ht => by have := (h.2.2.2 t ht).2; omega
theorem Small8.nm {c : Int} {ts : List AR} (h : Small8 c ts) : ∀ t ∈ ts, ∃ j : Nat, nm3[j]? = some t.s := fun t ht => by obtain ⟨⟨j, _, h2⟩, _⟩ := h.2.2.2 t ht; exact ⟨j, h2⟩
theorem Small8.ok {c : Int} {ts : List AR} (h : Small8 c ts) : affOk8 c ts = true :=
  affOk8_of (by have := h.1; omega) h.2.1 h.bd h.nz (fun t ht => by obtain ⟨j, hj⟩ := h.nm t ht; exact nm3_ok hj)
end Go.Proofs.Ythecjaonbmefgaa
/-
  Rows of ranges: how they lie in memory, their sizes, copies, and whether they are the same; rows that came in, opened.
-/
namespace Go.Proofs.Ythecjaonbmefgaa
open Go.RowKit Go.Lib
set_option linter.unusedSimpArgs false
set_option linter.unusedVariables false

/-- A range: its name, from where, to where. -/
structure RG where
  s : ByteArray
  lo : Int
  hi : Int
/-- A slice that holds these ranges, at l or above. -/
def RV (w : World) (l : Nat) (v : Value) (ts : List RG) : Prop :=
  ∃ ao cap, v = .slice ao ts.length cap ∧ ts.length ≤ cap ∧ (ts = [] ∨ ∃ g off, ao = some ⟨g, off, Option.none⟩ ∧ l ≤ g ∧ g < w.heap.size ∧ ∀ i t, ts[i]? = some t →
    w.cell? ⟨g, off + i * 3, Option.none⟩ = some (.string t.s) ∧ w.cell? ⟨g, off + i * 3 + 1, Option.none⟩ = some (.int .i64 t.lo) ∧ w.cell? ⟨g, off + i * 3 + 2, Option.none⟩ = some (.int .i64 t.hi))
theorem RV.same {w w' : World} {lo lo' : Nat} {v : Value} {ts : List RG} (hlo : lo' ≤ lo) (h : RV w lo v ts) (hk : Keeps lo w w') (hz : w.heap.size ≤ w'.heap.size) : RV w' lo' v ts := by
  obtain ⟨ao, cap, hv, hcap, h⟩ := h
  refine ⟨ao, cap, hv, hcap, ?_⟩
  rcases h with h | ⟨g, off, h1, h0, h2, h3⟩
  · exact .inl h
  · refine .inr ⟨g, off, h1, Nat.le_trans hlo h0, Nat.lt_of_lt_of_le h2 hz, fun i t hi => ?_⟩
    obtain ⟨a, b, c⟩ := h3 i t hi
    exact ⟨hk _ _ h0 a, hk _ _ h0 b, hk _ _ h0 c⟩
theorem RV.later {w w' : World} {lo : Nat} {v : Value} {ts : List RG} (h : RV w lo v ts) (hb : Below w.heap.size w w') : RV w' lo v ts := h.same (Nat.le_refl _) (Keeps.later hb) hb.size
theorem RV.low {w : World} {lo : Nat} {v : Value} {ts : List RG} (h : RV w lo v ts) : RV w 0 v ts := h.same (Nat.zero_le _) (Keeps.refl _ _) (Nat.le_refl _)
theorem RV.shape {w : World} {lo : Nat} {v : Value} {ts : List RG} (h : RV w lo v ts) : ∃ a c, v = .slice a ts.length c := by obtain ⟨a, c, h1, _⟩ := h; exact ⟨a, c, h1⟩
theorem RV.isOne {w : World} {lo : Nat} {v : Value} {ts : List RG} (h : RV w lo v ts) : v.oneCell' = true := by obtain ⟨a, c, rfl⟩ := h.shape; rfl
/-- How many bytes their names have together. -/
def rbytes : List RG → Nat
  | [] => 0
  | t :: ts => t.s.size + rbytes ts
def rsize8 (ts : List RG) : Nat := ts.length + rbytes ts
theorem rbytes_snoc (ts : List RG) (t : RG) : rbytes (ts ++ [t]) = rbytes ts + t.s.size := by
  induction ts with
  | nil => simp [rbytes]
  | cons u us ih => simp only [List.cons_append, rbytes, ih]; omega
theorem rbytes_take (ts : List RG) (k : Nat) : rbytes (ts.take k) ≤ rbytes ts := by
  induction ts generalizing k with
  | nil => simp [rbytes]
  | cons u us ih => cases k with
    | zero => simp [rbytes]
    | succ k => have := ih k; simp only [List.take_succ_cons, rbytes]; omega
theorem rbytes_mem {ts : List RG} {t : RG} (h : t ∈ ts) : t.s.size ≤ rbytes ts := by
  induction ts with
  | nil => simp at h
  | cons u us ih =>
    rcases List.mem_cons.1 h with rfl | h
    · simp only [rbytes]; omega
    · have := ih h; simp only [rbytes]; omega
theorem take_snocR {ts : List RG} {k : Nat} {t : RG} (h : ts[k]? = some t) : ts.take (k + 1) = ts.take k ++ [t] := by
  rw [List.take_add_one, h]; rfl
/-- The cells of a row of ranges. -/
def rcells8 : List RG → List Value
  | [] => []
  | t :: ts => .string t.s :: .int .i64 t.lo :: .int .i64 t.hi :: rcells8 ts
theorem rcells8_len (ts : List RG) : (rcells8 ts).length = ts.length * 3 := by
  induction ts with
  | nil => rfl
  | cons t ts ih => simp only [rcells8, List.length_cons, ih]; omega
theorem rcells8_snoc (ts : List RG) (t : RG) : rcells8 (ts ++ [t]) = rcells8 ts ++ [.string t.s, .int .i64 t.lo, .int .i64 t.hi] := by
  induction ts with
  | nil => rfl
  | cons u us ih => simp only [List.cons_append, rcells8, ih]
theorem rcells8_get (ts : List RG) : ∀ i t, ts[i]? = some t → (rcells8 ts)[i * 3]? = some (.string t.s) ∧ (rcells8 ts)[i * 3 + 1]? = some (.int .i64 t.lo) ∧ (rcells8 ts)[i * 3 + 2]? = some (.int .i64 t.hi) := by
  induction ts with
  | nil => intro i t h; simp at h
  | cons u us ih =>
    intro i t h
    cases i with
    | zero => simp at h; subst h; exact ⟨rfl, rfl, rfl⟩
    | succ i =>
      have := ih i t (by simpa using h)
      rw [show (i + 1) * 3 = i * 3 + 3 by omega]
      simpa [rcells8] using this
theorem RV.laid {w : World} {g c : Nat} {ts : List RG} (hcap : ts.length ≤ c) (hg : g < w.heap.size) (hr : w.rangeAt g 0 (rcells8 ts)) : RV w g (.slice (some ⟨g, 0, Option.none⟩) ts.length c) ts :=
  ⟨_, c, rfl, hcap, .inr ⟨g, 0, rfl, Nat.le_refl _, hg, fun i t hi => ⟨hr _ _ (rcells8_get ts i t hi).1, by have := hr _ _ (rcells8_get ts i t hi).2.1; rwa [← Nat.add_assoc] at this, by have := hr _ _ (rcells8_get ts i t hi).2.2; rwa [← Nat.add_assoc] at this⟩⟩⟩
theorem all3r (t : ByteArray) (k n : Int) : (#[.string t, .int .i64 k, .int .i64 n] : Array Value).all (·.oneCell') = true :=
  all_oneCell_toArray (cs := [.string t, .int .i64 k, .int .i64 n]) (fun v hv => by
    simp only [List.mem_cons, List.not_mem_nil, or_false] at hv
    rcases hv with rfl | rfl | rfl <;> rfl)
theorem infoIR9 : (Try.prog.info? 33).map (fun i => (i.zero, i.size, i.bytes)) = some (some (.agg #[.string ⟨#[]⟩, .int .i64 0, .int .i64 0]), 3, 32) := by kernel_rfl
theorem sizeIR9 : (Try.prog.info? 33).map (·.size) = some 3 := by kernel_rfl
end Go.Proofs.Ythecjaonbmefgaa
namespace Go.Proofs.Ythecjaonbmefgaa
open Go.ChangeShapes Go.WideShapes Go.ChangeAt Go.RowKit
section
variable {H : Type} {enc : TypeId × Value → H} {W : World} {sp : Nat → Bool} {held : Bool}
theorem build_rngs {b o len : Nat} (each : ∀ i, i < len → ∃ t : RG, t.s.size ≤ 9223372036854775807 ∧ W.cell? ⟨b, o + i * 3, Option.none⟩ = some (.string t.s) ∧ W.cell? ⟨b, o + i * 3 + 1, Option.none⟩ = some (.int .i64 t.lo) ∧ W.cell? ⟨b, o + i * 3 + 2, Option.none⟩ = some (.int .i64 t.hi)) :
    ∀ d, d ≤ len → ∃ R : List RG, R.length = d ∧ (∀ t ∈ R, t.s.size ≤ 9223372036854775807) ∧ ∀ i t, R[i]? = some t → W.cell? ⟨b, o + i * 3, Option.none⟩ = some (.string t.s) ∧ W.cell? ⟨b, o + i * 3 + 1, Option.none⟩ = some (.int .i64 t.lo) ∧ W.cell? ⟨b, o + i * 3 + 2, Option.none⟩ = some (.int .i64 t.hi)
  | 0, _ => ⟨[], rfl, fun _ h => by simp at h, fun i t h => by simp at h⟩
  | d + 1, hd => by
    obtain ⟨R, h1, h2, h3⟩ := build_rngs each d (by omega)
    obtain ⟨t, k, c0, c1, c2⟩ := each d (by omega)
    refine ⟨R ++ [t], by simp [h1], fun u hu => ?_, fun i u hu => ?_⟩
    · rcases List.mem_append.1 hu with hu | hu
      · exact h2 u hu
      · simp only [List.mem_cons, List.not_mem_nil, or_false] at hu; subst hu; exact k
    · rcases Nat.lt_or_ge i R.length with hi | hi
      · rw [List.getElem?_append_left hi] at hu; exact h3 i u hu
      · rw [List.getElem?_append_right hi] at hu
        have hi2 : i = d := by have := (List.getElem?_eq_some_iff.1 hu).1; simp at this; omega
        subst hi2
        rw [h1, Nat.sub_self] at hu
        simp at hu; subst hu; exact ⟨c0, c1, c2⟩
end
end Go.Proofs.Ythecjaonbmefgaa
