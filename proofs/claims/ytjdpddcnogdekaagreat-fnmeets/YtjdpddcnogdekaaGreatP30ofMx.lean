/-
  Texts in one: AffSame, AffLaw.
-/
import Derived.Test.YtjdpddcnogdekaaGreatP29ofMx
import Derived.Test.YtjdpddcnogdekaaGreatP28ofMx
/-
  What both sides make of two sums is the same.
-/
namespace Go.Proofs.YtjdpddcnogdekaaGreat
open Go.RowKit Go.Lib
set_option linter.unusedSimpArgs false
set_option linter.unusedVariables false

theorem coefA_bd8 (s : ByteArray) : ∀ (ts : List AR), Bd8 ts → -100000 ≤ coefA ts s ∧ coefA ts s ≤ 100000
  | [], _ => by simp [coefA]
  | t :: ts, h => by
    rw [coefA]
    split
    · exact h t (by simp)
    · exact coefA_bd8 s ts (fun u hu => h u (by simp [hu]))
theorem inMax8_iff (n : Int) : inMax8 n = true ↔ -100000 ≤ n ∧ n ≤ 100000 := by simp [inMax8]
theorem okFrom8_facts : ∀ (ts : List AR) (p : Option ByteArray), okFrom8 p ts = true → (∀ t ∈ ts, ∀ q, p = some q → blt q t.s = true) ∧ Asc8 ts ∧ Bd8 ts ∧ Nz8 ts
  | [], _, _ => ⟨by simp, by simp [Asc8], by simp [Bd8], by simp [Nz8]⟩
  | t :: r, p, h => by
    rw [okFrom8, Bool.and_eq_true] at h
    obtain ⟨h1, h2⟩ := h
    obtain ⟨a1, a2, a3, a4⟩ := okFrom8_facts r (some t.s) h2
    simp only [termOk8, Bool.and_eq_true, Bool.not_eq_true', beq_eq_false_iff_ne, ne_eq] at h1
    have hm := (inMax8_iff t.n).1 h1.1.2
    have hp : ∀ q, p = some q → blt q t.s = true := by
      intro q hq; subst hq; exact h1.2
    refine ⟨fun u hu q hq => ?_, List.pairwise_cons.2 ⟨fun u hu => a1 u hu _ rfl, a2⟩, fun u hu => ?_, fun u hu => ?_⟩
    · rcases List.mem_cons.1 hu with rfl | hu
      · exact hp q hq
      · exact blt_trans (hp q hq) (a1 u hu _ rfl)
    · rcases List.mem_cons.1 hu with rfl | hu
      · exact hm
      · exact a3 u hu
    · rcases List.mem_cons.1 hu with rfl | hu
      · exact h1.1.1.2
      · exact a4 u hu
theorem affOk8_facts {c : Int} {ts : List AR} (h : affOk8 c ts = true) : (-100000 ≤ c ∧ c ≤ 100000) ∧ Asc8 ts ∧ Bd8 ts ∧ Nz8 ts := by
  rw [affOk8, Bool.and_eq_true] at h
  obtain ⟨_, a⟩ := okFrom8_facts ts none h.2
  exact ⟨(inMax8_iff c).1 h.1, a⟩
theorem sumsW8_is {a b : List AR} {n : Int} (hn : n = 1 ∨ n = -1) (ba : Bd8 a) (bb : Bd8 b) (names : List ByteArray) : sumsW8 a b n names = sums8 a b n names := by
  have e : ∀ s, one8 a b n s = coefA a s + n * coefA b s := fun s => by
    have h1 := coefA_bd8 s a ba
    have h2 := coefA_bd8 s b bb
    rw [one8]
    rcases hn with rfl | rfl
    · rw [wrap8 (n := 1 * coefA b s) (by omega) (by omega), wrap8 (by omega) (by omega)]
    · rw [wrap8 (n := -1 * coefA b s) (by omega) (by omega), wrap8 (by omega) (by omega)]
  unfold sumsW8 sums8
  simp only [e]
theorem puts8_mem (la lb : List AR) : Asc (puts8 (puts8 [] la) lb) ∧ ∀ s, s ∈ puts8 (puts8 [] la) lb ↔ (∃ t ∈ la, t.s = s) ∨ ∃ t ∈ lb, t.s = s := by
  obtain ⟨a1, a2⟩ := puts8_asc la [] (by simp [Asc])
  obtain ⟨b1, b2⟩ := puts8_asc lb _ a1
  refine ⟨b1, fun s => ?_⟩
  rw [b2, a2]
  constructor
  · rintro (h | h | h)
    · exact .inr h
    · exact .inl h
    · simp at h
  · rintro (h | h)
    · exact .inr (.inl h)
    · exact .inl h
theorem sumA8_nm {la lb : List AR} (n : Int) (nl : NmB8 la) (nm : NmB8 lb) : NmB8 (sumA8 la lb n) := by
  intro t ht
  rw [sumA8, sumsW8, List.mem_filterMap] at ht
  obtain ⟨s, hs, h⟩ := ht
  have e : t.s = s := by
    split at h
    · cases h
    · injection h with h; rw [← h]
  rw [e]
  rcases ((puts8_mem la lb).2 s).1 hs with ⟨u, hu, rfl⟩ | ⟨u, hu, rfl⟩
  · exact nl u hu
  · exact nm u hu
theorem sumA8_len (la lb : List AR) (n : Int) : (sumA8 la lb n).length ≤ la.length + lb.length := by
  have h1 := sumsW8_len la lb n (puts8 (puts8 [] la) lb)
  have h2 := puts8_len lb (puts8 [] la)
  have h3 := puts8_len la []
  simp only [List.length_nil] at h3
  show (sumsW8 la lb n _).length ≤ _
  omega
theorem sub_same8 (ca cb : Int) (la lb : List AR) :
    subOk8 ca cb la lb = sumOk8 ca cb (-1) la lb (sumA8 la lb (-1)) ∧ (subOk8 ca cb la lb = true → IntKind.i64.wrap (ca - cb) = IntKind.i64.wrap (ca + IntKind.i64.wrap (-1 * cb)) ∧ less8 (la.length + lb.length) la lb = sumA8 la lb (-1)) := by
  cases ho : affOk8 ca la with
  | false => rw [subOk8, sumOk8, ho]; exact ⟨rfl, fun h => by simp at h⟩
  | true =>
    cases ho2 : affOk8 cb lb with
    | false => rw [subOk8, sumOk8, ho, ho2]; exact ⟨rfl, fun h => by simp at h⟩
    | true =>
      obtain ⟨c1, a1, b1, n1⟩ := affOk8_facts ho
      obtain ⟨c2, a2, b2, n2⟩ := affOk8_facts ho2
      have e1 : IntKind.i64.wrap (ca - cb) = IntKind.i64.wrap (ca + IntKind.i64.wrap (-1 * cb)) := by
        rw [wrap8 (n := -1 * cb) (by omega) (by omega)]; congr 1; omega
      have e2 : less8 (la.length + lb.length) la lb = sumA8 la lb (-1) := by
        obtain ⟨p1, p2⟩ := puts8_mem la lb
        rw [sumA8, sumsW8_is (.inr rfl) b1 b2]
        exact less8_sums _ (Nat.le_refl _) a1 a2 b1 b2 n1 n2 p1 p2
      refine ⟨?_, fun _ => ⟨e1, e2⟩⟩
      rw [subOk8, sumOk8, ho, ho2, e1, e2]
theorem negOk8 : ∀ (ts : List AR) (p : Option ByteArray), (∀ t ∈ ts, -9223372036854775808 ≤ t.n ∧ t.n ≤ 9223372036854775807) → okFrom8 p (ts.map negT8) = okFrom8 p ts
  | [], _, _ => rfl
  | t :: r, p, h => by
    have ht := h t (by simp)
    have hw : IntKind.i64.wrap (-t.n) = (-t.n + 9223372036854775808) % 18446744073709551616 - 9223372036854775808 := IntKind.wrap_i64 _
    have e : termOk8 p (negT8 t) = termOk8 p t := by
      have e1 : inMax8 (negT8 t).n = inMax8 t.n := by
        rw [Bool.eq_iff_iff, inMax8_iff, inMax8_iff]
        show (-100000 ≤ IntKind.i64.wrap (-t.n) ∧ IntKind.i64.wrap (-t.n) ≤ 100000) ↔ _
        rw [hw]; omega
      have e2 : ((negT8 t).n == 0) = (t.n == 0) := by
        rw [Bool.eq_iff_iff, beq_iff_eq, beq_iff_eq]
        show IntKind.i64.wrap (-t.n) = 0 ↔ _
        rw [hw]; omega
      unfold termOk8
      rw [e1, e2]; rfl
    have ih := negOk8 r (some t.s) (fun u hu => h u (by simp [hu]))
    rw [List.map_cons, okFrom8, okFrom8, e]
    show (termOk8 p t && okFrom8 (some t.s) (r.map negT8)) = _
    rw [ih]
theorem neg_coef {lb : List AR} (b : Bd8 lb) (s : ByteArray) : coefA (lb.map negT8) s = -coefA lb s := coefA_neg8 s lb b
theorem add_same8 (ca cb : Int) (la lb : List AR) (hc : -9223372036854775808 ≤ cb ∧ cb ≤ 9223372036854775807) (hb : ∀ t ∈ lb, -9223372036854775808 ≤ t.n ∧ t.n ≤ 9223372036854775807) :
    subOk8 ca (IntKind.i64.wrap (-cb)) la (lb.map negT8) = sumOk8 ca cb 1 la lb (sumA8 la lb 1) ∧ (subOk8 ca (IntKind.i64.wrap (-cb)) la (lb.map negT8) = true → IntKind.i64.wrap (ca - IntKind.i64.wrap (-cb)) = IntKind.i64.wrap (ca + IntKind.i64.wrap (1 * cb)) ∧ less8 (la.length + (lb.map negT8).length) la (lb.map negT8) = sumA8 la lb 1) := by
  have hw : IntKind.i64.wrap (-cb) = (-cb + 9223372036854775808) % 18446744073709551616 - 9223372036854775808 := IntKind.wrap_i64 _
  have hneg : affOk8 (IntKind.i64.wrap (-cb)) (lb.map negT8) = affOk8 cb lb := by
    have e1 : inMax8 (IntKind.i64.wrap (-cb)) = inMax8 cb := by
      rw [Bool.eq_iff_iff, inMax8_iff, inMax8_iff, hw]; omega
    rw [affOk8, affOk8, e1, negOk8 lb none hb]
  cases ho : affOk8 ca la with
  | false => rw [subOk8, sumOk8, ho]; exact ⟨rfl, fun h => by simp at h⟩
  | true =>
    cases ho2 : affOk8 cb lb with
    | false => rw [subOk8, sumOk8, ho, hneg, ho2]; exact ⟨rfl, fun h => by simp at h⟩
    | true =>
      obtain ⟨c1, a1, b1, n1⟩ := affOk8_facts ho
      obtain ⟨c2, a2, b2, n2⟩ := affOk8_facts ho2
      obtain ⟨c3, a3, b3, n3⟩ := affOk8_facts (hneg.trans ho2)
      have e0 : IntKind.i64.wrap (-cb) = -cb := wrap8 (by omega) (by omega)
      have e1 : IntKind.i64.wrap (ca - IntKind.i64.wrap (-cb)) = IntKind.i64.wrap (ca + IntKind.i64.wrap (1 * cb)) := by
        rw [wrap8 (n := 1 * cb) (by omega) (by omega), e0]; congr 1; omega
      have e2 : less8 (la.length + (lb.map negT8).length) la (lb.map negT8) = sumA8 la lb 1 := by
        obtain ⟨p1, p2⟩ := puts8_mem la lb
        rw [sumA8, sumsW8_is (.inl rfl) b1 b2, less8_sums (names := puts8 (puts8 [] la) lb) _ (Nat.le_refl _) a1 a3 b1 b3 n1 n3 p1 (fun s => by
          rw [p2]
          have : (∃ t ∈ lb.map negT8, t.s = s) ↔ ∃ t ∈ lb, t.s = s := by
            constructor
            · rintro ⟨t, ht, h⟩
              obtain ⟨u, hu, rfl⟩ := List.mem_map.1 ht
              exact ⟨u, hu, h⟩
            · rintro ⟨t, ht, h⟩
              exact ⟨negT8 t, List.mem_map_of_mem ht, h⟩
          rw [this])]
        unfold sums8
        have e3 : ∀ s, coefA la s + -1 * coefA (lb.map negT8) s = coefA la s + 1 * coefA lb s := fun s => by rw [neg_coef b2]; omega
        simp only [e3]
      refine ⟨?_, fun _ => ⟨e1, e2⟩⟩
      rw [subOk8, sumOk8, ho, hneg, ho2, e1, e2]
end Go.Proofs.YtjdpddcnogdekaaGreat
/-
  Steps of a law over sums: what stands in blocks is carried on, over calls and over marks.
-/
namespace Go.Proofs.YtjdpddcnogdekaaGreat
open Go.RowKit Go.Lib
set_option linter.unusedSimpArgs false
set_option linter.unusedVariables false

theorem heap_b8 {A B : World} {b : Nat} {x : Obj} (h : A.heap[b]? = some x) (hb : Below A.heap.size A B) : B.heap[b]? = some x := (hb.block b (lt_of_heap h)).trans h
theorem heap_g8 {A B : World} {r : Option Nat} {b : Nat} {x : Obj} (h : A.heap[b]? = some x) (hg : A.grownBy B r) (hne : r ≠ some b) : B.heap[b]? = some x := (hg.block b (lt_of_heap h) (fun e => hne e.symm)).trans h
theorem own_g8 {A B : World} {r : Option Nat} {D sz n : Nat} {e : TypeId} {v : Value} {xs : List Value} (h : A.ownsRow D e sz v n xs) (hg : A.grownBy B r) (hne : ∀ k, v.ownBlock = some k → r ≠ some k) : B.ownsRow D e sz v n xs := by
  refine ⟨h.1, ?_⟩
  rcases h.2 with h0 | ⟨g, cap, cur, h1, h2, h3, h4⟩
  · exact .inl h0
  · exact .inr ⟨g, cap, cur, h1, h2, heap_g8 h3 hg (hne g (by rw [h1]; rfl)), h4⟩
theorem low_g8 {w A B : World} {n : Nat} {r : Option Nat} (h : Below n w A) (hg : A.grownBy B r) (hn : n ≤ w.heap.size) (hr : ∀ k, r = some k → n ≤ k) : Below n w B :=
  ⟨hg.os.trans h.os, hg.tape.trans h.tape, hg.output.trans h.output, Nat.le_trans h.size hg.size, fun k hk => (hg.block k (Nat.lt_of_lt_of_le hk (Nat.le_trans hn h.size)) (fun e => absurd (hr k e.symm) (Nat.not_le.2 hk))).trans (h.block k hk)⟩
theorem ne_types8 {w : World} {g p : Nat} {c : Array Value} {x : Array Value} (hh : w.heap[g]? = some (.cells c 70 (0, 0))) (hp : w.heap[p]? = some (.cells x 26 (0, 0))) : g ≠ p := by
  intro e
  subst e
  have h2 := Option.some.inj (hp.symm.trans hh)
  injection h2 with _ h3 _
  exact absurd h3 (by decide)
theorem slack8 {w : World} {B n : Nat} {ts : List AR} {a : Option Addr} {c : Nat} (h : w.ownsRow B 70 2 (.slice a n c) n (acells ts)) (hn : n = ts.length) : AV w 0 (.slice a n c) ts := by subst hn; exact AV.ofOwn8 h
end Go.Proofs.YtjdpddcnogdekaaGreat
