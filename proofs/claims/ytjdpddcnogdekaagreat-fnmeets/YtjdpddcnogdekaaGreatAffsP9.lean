/-
  Small sums, plainly: what they come to, name by name.
-/
import Derived.Test.YtjdpddcnogdekaaGreatP36ofMx
import Derived.Test.YtjdpddcnogdekaaGreatAffAtI
namespace Go.Proofs.YtjdpddcnogdekaaGreat
open Go.RowKit Go.Lib
set_option linter.unusedSimpArgs false
set_option linter.unusedVariables false

def sumT8 (f : ByteArray → Int) : List AR → Int
  | [] => 0
  | t :: r => t.n * f t.s + sumT8 f r
def sumN8 (f : ByteArray → Int) (ts : List AR) : List ByteArray → Int
  | [] => 0
  | s :: r => coefA ts s * f s + sumN8 f ts r
theorem sumN8_nil (f : ByteArray → Int) : ∀ N, sumN8 f [] N = 0
  | [] => rfl
  | s :: N => by rw [sumN8, sumN8_nil f N, coefA]; simp
theorem sumN8_off (f : ByteArray → Int) (t : AR) (r : List AR) : ∀ (N : List ByteArray), t.s ∉ N → sumN8 f (t :: r) N = sumN8 f r N
  | [], _ => rfl
  | s :: N, h => by
    have h1 : ¬ t.s = s := fun e => h (by simp [e])
    rw [sumN8, sumN8, sumN8_off f t r N (fun e => h (by simp [e])), coefA, if_neg h1]
theorem sumN8_on (f : ByteArray → Int) (t : AR) (r : List AR) (h0 : coefA r t.s = 0) : ∀ (N : List ByteArray), N.Pairwise (fun a b => a ≠ b) → t.s ∈ N → sumN8 f (t :: r) N = t.n * f t.s + sumN8 f r N
  | [], _, h => by simp at h
  | s :: N, hp, h => by
    have hp' := List.pairwise_cons.1 hp
    by_cases e : t.s = s
    · subst e
      have hn : t.s ∉ N := fun hm => hp'.1 _ hm rfl
      rw [sumN8, sumN8, sumN8_off f t r N hn, coefA, if_pos rfl, h0]
      omega
    · have hm : t.s ∈ N := by rcases List.mem_cons.1 h with h | h; exact absurd h e; exact h
      rw [sumN8, sumN8, sumN8_on f t r h0 N hp'.2 hm, coefA, if_neg e]
      omega
theorem sumT8_N (f : ByteArray → Int) (N : List ByteArray) (hp : N.Pairwise (fun a b => a ≠ b)) : ∀ (ts : List AR), Asc8 ts → (∀ t ∈ ts, t.s ∈ N) → sumT8 f ts = sumN8 f ts N
  | [], _, _ => (sumN8_nil f N).symm
  | t :: r, ha, hm => by
    have ha' := List.pairwise_cons.1 ha
    rw [sumT8, sumT8_N f N hp r ha'.2 (fun u hu => hm u (by simp [hu])), sumN8_on f t r (coefA_high8 ha'.1) N hp (hm t (by simp))]
theorem sumN8_lin (f : ByteArray → Int) (n : Int) (a b c : List AR) : ∀ (N : List ByteArray), (∀ s ∈ N, coefA c s = coefA a s + n * coefA b s) → sumN8 f c N = sumN8 f a N + n * sumN8 f b N
  | [], _ => by simp [sumN8]
  | s :: N, h => by
    rw [sumN8, sumN8, sumN8, sumN8_lin f n a b c N (fun u hu => h u (by simp [hu])), h s (by simp), Int.add_mul, Int.mul_add, Int.mul_assoc]
    omega
theorem affGo8_is (nm : ByteArray → Int) : ∀ (ts : List AR) (c : Int), IntKind.i64.wrap c = c → affGo8 nm c ts = IntKind.i64.wrap (c + sumT8 nm ts)
  | [], c, h => by rw [affGo8, sumT8, Int.add_zero, h]
  | t :: r, c, h => by
    have hw : ∀ x : Int, IntKind.i64.wrap x = (x + 9223372036854775808) % 18446744073709551616 - 9223372036854775808 := fun x => IntKind.wrap_i64 x
    rw [affGo8, affGo8_is nm r _ (by simp only [hw]; omega), sumT8]
    generalize t.n * nm t.s = p
    generalize sumT8 nm r = q
    simp only [hw]
    omega
theorem asc_ne {N : List ByteArray} (h : Asc N) : N.Pairwise (fun a b => a ≠ b) := List.Pairwise.imp (fun hab e => by subst e; rw [blt_irrefl] at hab; cases hab) h
theorem mem_coef8 : ∀ (ts : List AR), Asc8 ts → ∀ t ∈ ts, coefA ts t.s = t.n
  | [], _, t, h => by simp at h
  | u :: r, ha, t, h => by
    have ha' := List.pairwise_cons.1 ha
    rcases List.mem_cons.1 h with rfl | h
    · rw [coefA, if_pos rfl]
    · rw [coefA, if_neg (fun e => (blt_ne8 (ha'.1 t h)) e.symm), mem_coef8 r ha'.2 t h]
theorem coefA_sm8 (s : ByteArray) : ∀ (ts : List AR), (∀ t ∈ ts, -4 ≤ t.n ∧ t.n ≤ 4) → -4 ≤ coefA ts s ∧ coefA ts s ≤ 4
  | [], _ => by simp [coefA]
  | t :: ts, h => by
    rw [coefA]
    split
    · exact h t (by simp)
    · exact coefA_sm8 s ts (fun u hu => h u (by simp [hu]))
theorem okFrom8_of : ∀ (ts : List AR) (p : Option ByteArray), (∀ t ∈ ts, ∀ q, p = some q → blt q t.s = true) → Asc8 ts → Bd8 ts → Nz8 ts → (∀ t ∈ ts, nameOk t.s.data.toList = true) → okFrom8 p ts = true
  | [], _, _, _, _, _, _ => rfl
  | t :: r, p, hp, ha, hb, hn, ho => by
    have ha' := List.pairwise_cons.1 ha
    have ih := okFrom8_of r (some t.s) (fun u hu q hq => by injection hq with hq; subst hq; exact ha'.1 u hu) ha'.2 (fun u hu => hb u (by simp [hu])) (fun u hu => hn u (by simp [hu])) (fun u hu => ho u (by simp [hu]))
    have h1 : ltPrev8 p t.s = true := by
      cases p with
      | none => rfl
      | some q => exact hp t (by simp) q rfl
    have h2 : (t.n == 0) = false := beq_false_of_ne (hn t (by simp))
    rw [okFrom8, termOk8, ho t (by simp), h1, h2, (inMax8_iff t.n).2 (hb t (by simp)), ih]
    rfl
theorem affOk8_of {c : Int} {ts : List AR} (hc : -100000 ≤ c ∧ c ≤ 100000) (ha : Asc8 ts) (hb : Bd8 ts) (hn : Nz8 ts) (ho : ∀ t ∈ ts, nameOk t.s.data.toList = true) : affOk8 c ts = true := by
  rw [affOk8, (inMax8_iff c).2 hc, okFrom8_of ts none (by simp) ha hb hn ho]; rfl
theorem nm3_ok {j : Nat} {s : ByteArray} (h : nm3[j]? = some s) : nameOk s.data.toList = true := by
  have h3 : j < 3 := (List.getElem?_eq_some_iff.1 h).1
  have : j = 0 ∨ j = 1 ∨ j = 2 := by omega
  rcases this with rfl | rfl | rfl <;> (simp only [nm3, List.getElem?_cons_zero, List.getElem?_cons_succ, Option.some.injEq] at h; subst h; decide +kernel)
theorem Small8.nz {c : Int} {ts : List AR} (h : Small8 c ts) : Nz8 ts := fun t ht => (h.2.2.2 t ht).2.2.2
theorem Small8.bd {c : Int} {ts : List AR} (h : Small8 c ts) : Bd8 ts := fun t ht => by have := (h.2.2.2 t ht).2; omega
theorem Small8.b4 {c : Int} {ts : List AR} (h : Small8 c ts) : ∀ t ∈ ts, -4 ≤ t.n ∧ t.n ≤ 4 := fun t ht => by have := (h.2.2.2 t ht).2; omega
theorem Small8.nm {c : Int} {ts : List AR} (h : Small8 c ts) : ∀ t ∈ ts, ∃ j : Nat, nm3[j]? = some t.s := fun t ht => by obtain ⟨⟨j, _, h2⟩, _⟩ := h.2.2.2 t ht; exact ⟨j, h2⟩
theorem Small8.ok {c : Int} {ts : List AR} (h : Small8 c ts) : affOk8 c ts = true :=
  affOk8_of (by have := h.1; omega) h.2.1 h.bd h.nz (fun t ht => by obtain ⟨j, hj⟩ := h.nm t ht; exact nm3_ok hj)
end Go.Proofs.YtjdpddcnogdekaaGreat
