/-
  Texts in one: AffsP9, B9P.
-/
import Derived.Test.YtjdpddcnogdekaaGreatP36ofMx
import Derived.Test.YtjdpddcnogdekaaGreatP51ofMx
import Derived.Test.YtjdpddcnogdekaaGreatP38ofMx
import Derived.Test.YtjdpddcnogdekaaGreatP15ofMx
/-
  Small sums, plainly: what they come to, name by name.
-/
namespace Go.Proofs.YtjdpddcnogdekaaGreat
open Go.RowKit Go.Lib
set_option linter.unusedSimpArgs false
set_option linter.unusedVariables false

def sumT8 (f : ByteArray → Int) : List AR → Int
  | [] => 0
  | t :: r => t.n * f t.s + sumT8 f r
def sumN8 (f : ByteArray → Int) (ts : List AR) : List ByteArray → Int
  | [] => 0
  | s :: r => coefA ts s * f s + sumN8 f ts r
theorem sumN8_nil (f : ByteArray → Int) : ∀ N, sumN8 f [] N = 0
  | [] => rfl
  | s :: N => by rw [sumN8, sumN8_nil f N, coefA]; simp
theorem sumN8_off (f : ByteArray → Int) (t : AR) (r : List AR) : ∀ (N : List ByteArray), t.s ∉ N → sumN8 f (t :: r) N = sumN8 f r N
  | [], _ => rfl
  | s :: N, h => by
    have h1 : ¬ t.s = s := fun e => h (by simp [e])
    rw [sumN8, sumN8, sumN8_off f t r N (fun e => h (by simp [e])), coefA, if_neg h1]
theorem sumN8_on (f : ByteArray → Int) (t : AR) (r : List AR) (h0 : coefA r t.s = 0) : ∀ (N : List ByteArray), N.Pairwise (fun a b => a ≠ b) → t.s ∈ N → sumN8 f (t :: r) N = t.n * f t.s + sumN8 f r N
  | [], _, h => by simp at h
  | s :: N, hp, h => by
    have hp' := List.pairwise_cons.1 hp
    by_cases e : t.s = s
    · subst e
      have hn : t.s ∉ N := fun hm => hp'.1 _ hm rfl
      rw [sumN8, sumN8, sumN8_off f t r N hn, coefA, if_pos rfl, h0]
      omega
    · have hm : t.s ∈ N := by rcases List.mem_cons.1 h with h | h; exact absurd h e; exact h
      rw [sumN8, sumN8, sumN8_on f t r h0 N hp'.2 hm, coefA, if_neg e]
      omega
theorem sumT8_N (f : ByteArray → Int) (N : List ByteArray) (hp : N.Pairwise (fun a b => a ≠ b)) : ∀ (ts : List AR), Asc8 ts → (∀ t ∈ ts, t.s ∈ N) → sumT8 f ts = sumN8 f ts N
  | [], _, _ => (sumN8_nil f N).symm
  | t :: r, ha, hm => by
    have ha' := List.pairwise_cons.1 ha
    rw [sumT8, sumT8_N f N hp r ha'.2 (fun u hu => hm u (by simp [hu])), sumN8_on f t r (coefA_high8 ha'.1) N hp (hm t (by simp))]
theorem sumN8_lin (f : ByteArray → Int) (n : Int) (a b c : List AR) : ∀ (N : List ByteArray), (∀ s ∈ N, coefA c s = coefA a s + n * coefA b s) → sumN8 f c N = sumN8 f a N + n * sumN8 f b N
  | [], _ => by simp [sumN8]
  | s :: N, h => by
    rw [sumN8, sumN8, sumN8, sumN8_lin f n a b c N (fun u hu => h u (by simp [hu])), h s (by simp), Int.add_mul, Int.mul_add, Int.mul_assoc]
    omega
theorem affGo8_is (nm : ByteArray → Int) : ∀ (ts : List AR) (c : Int), IntKind.i64.wrap c = c → affGo8 nm c ts = IntKind.i64.wrap (c + sumT8 nm ts)
  | [], c, h => by rw [affGo8, sumT8, Int.add_zero, h]
  | t :: r, c, h => by
    have hw : ∀ x : Int, IntKind.i64.wrap x = (x + 9223372036854775808) % 18446744073709551616 - 9223372036854775808 := fun x => IntKind.wrap_i64 x
    rw [affGo8, affGo8_is nm r _ (by simp only [hw]; omega), sumT8]
    generalize t.n * nm t.s = p
    generalize sumT8 nm r = q
    simp only [hw]
    omega
theorem asc_ne {N : List ByteArray} (h : Asc N) : N.Pairwise (fun a b => a ≠ b) := List.Pairwise.imp (fun hab e => by subst e; rw [blt_irrefl] at hab; cases hab) h
theorem mem_coef8 : ∀ (ts : List AR), Asc8 ts → ∀ t ∈ ts, coefA ts t.s = t.n
  | [], _, t, h => by simp at h
  | u :: r, ha, t, h => by
    have ha' := List.pairwise_cons.1 ha
    rcases List.mem_cons.1 h with rfl | h
    · rw [coefA, if_pos rfl]
    · rw [coefA, if_neg (fun e => (blt_ne8 (ha'.1 t h)) e.symm), mem_coef8 r ha'.2 t h]
theorem coefA_sm8 (s : ByteArray) : ∀ (ts : List AR), (∀ t ∈ ts, -4 ≤ t.n ∧ t.n ≤ 4) → -4 ≤ coefA ts s ∧ coefA ts s ≤ 4
  | [], _ => by simp [coefA]
  | t :: ts, h => by
    rw [coefA]
    split
    · exact h t (by simp)
    · exact coefA_sm8 s ts (fun u hu => h u (by simp [hu]))
theorem okFrom8_of : ∀ (ts : List AR) (p : Option ByteArray), (∀ t ∈ ts, ∀ q, p = some q → blt q t.s = true) → Asc8 ts → Bd8 ts → Nz8 ts → (∀ t ∈ ts, nameOk t.s.data.toList = true) → okFrom8 p ts = true
  | [], _, _, _, _, _, _ => rfl
  | t :: r, p, hp, ha, hb, hn, ho => by
    have ha' := List.pairwise_cons.1 ha
    have ih := okFrom8_of r (some t.s) (fun u hu q hq => by injection hq with hq; subst hq; exact ha'.1 u hu) ha'.2 (fun u hu => hb u (by simp [hu])) (fun u hu => hn u (by simp [hu])) (fun u hu => ho u (by simp [hu]))
    have h1 : ltPrev8 p t.s = true := by
      cases p with
      | none => rfl
      | some q => exact hp t (by simp) q rfl
    have h2 : (t.n == 0) = false := beq_false_of_ne (hn t (by simp))
    rw [okFrom8, termOk8, ho t (by simp), h1, h2, (inMax8_iff t.n).2 (hb t (by simp)), ih]
    rfl
theorem affOk8_of {c : Int} {ts : List AR} (hc : -100000 ≤ c ∧ c ≤ 100000) (ha : Asc8 ts) (hb : Bd8 ts) (hn : Nz8 ts) (ho : ∀ t ∈ ts, nameOk t.s.data.toList = true) : affOk8 c ts = true := by
  rw [affOk8, (inMax8_iff c).2 hc, okFrom8_of ts none (by simp) ha hb hn ho]; rfl
theorem nm3_ok {j : Nat} {s : ByteArray} (h : nm3[j]? = some s) : nameOk s.data.toList = true := by
  have h3 : j < 3 := (List.getElem?_eq_some_iff.1 h).1
  have : j = 0 ∨ j = 1 ∨ j = 2 := by omega
  rcases this with rfl | rfl | rfl <;> (simp only [nm3, List.getElem?_cons_zero, List.getElem?_cons_succ, Option.some.injEq] at h; subst h; decide +kernel)
theorem Small8.nz {c : Int} {ts : List AR} (h : Small8 c ts) : Nz8 ts := fun t ht => (h.2.2.2 t ht).2.2.2
theorem Small8.bd {c : Int} {ts : List AR} (h : Small8 c ts) : Bd8 ts := fun t ht => by have := (h.2.2.2 t ht).2; omega
theorem Small8.b4 {c : Int} {ts : List AR} (h : Small8 c ts) : ∀ t ∈ ts, -4 ≤ t.n ∧ t.n ≤ 4 := fun t ht => by have := (h.2.2.2 t ht).2; omega
theorem Small8.nm {c : Int} {ts : List AR} (h : Small8 c ts) : ∀ t ∈ ts, ∃ j : Nat, nm3[j]? = some t.s := fun t ht => by obtain ⟨⟨j, _, h2⟩, _⟩ := h.2.2.2 t ht; exact ⟨j, h2⟩
theorem Small8.ok {c : Int} {ts : List AR} (h : Small8 c ts) : affOk8 c ts = true :=
  affOk8_of (by have := h.1; omega) h.2.1 h.bd h.nz (fun t ht => by obtain ⟨j, hj⟩ := h.nm t ht; exact nm3_ok hj)
end Go.Proofs.YtjdpddcnogdekaaGreat
/-
  A small sum over three small ranges, plainly: its least and its most are met, and it is never less or more.
-/
namespace Go.Proofs.YtjdpddcnogdekaaGreat
open Go.RowKit Go.Lib
set_option linter.unusedSimpArgs false
set_option linter.unusedVariables false

def nI : ByteArray := ⟨#[105]⟩
def nJ : ByteArray := ⟨#[106]⟩
def nK : ByteArray := ⟨#[107]⟩
theorem nIJ : ¬ nI = nJ := by decide
theorem nIK : ¬ nI = nK := by decide
theorem nJK : ¬ nJ = nK := by decide
theorem nJI : ¬ nJ = nI := by decide
theorem nKI : ¬ nK = nI := by decide
theorem nKJ : ¬ nK = nJ := by decide
theorem mul_b9 {a x : Int} (h1 : -4 ≤ a ∧ a ≤ 4) (h2 : -20 ≤ x ∧ x ≤ 20) : -80 ≤ a * x ∧ a * x ≤ 80 := by
  have : a = -4 ∨ a = -3 ∨ a = -2 ∨ a = -1 ∨ a = 0 ∨ a = 1 ∨ a = 2 ∨ a = 3 ∨ a = 4 := by omega
  rcases this with rfl | rfl | rfl | rfl | rfl | rfl | rfl | rfl | rfl <;> omega
/-- Where the least (the most) of n times a range is. -/
def pt9 (most : Bool) (n : Int) (r : RG) : Int := if (decide (n > 0) == most) = true then r.hi else r.lo
theorem end_pt9 (most : Bool) (n : Int) (r : RG) : end9 most n r = n * pt9 most n r := rfl
theorem pt_in9 (most : Bool) (n : Int) (r : RG) (h : r.lo ≤ r.hi) : r.lo ≤ pt9 most n r ∧ pt9 most n r ≤ r.hi := by
  unfold pt9; split <;> omega
theorem end_bd9 {n x : Int} {r : RG} (hn : -4 ≤ n ∧ n ≤ 4) (h : r.lo ≤ x ∧ x ≤ r.hi) : end9 false n r ≤ n * x ∧ n * x ≤ end9 true n r := by
  have : n = -4 ∨ n = -3 ∨ n = -2 ∨ n = -1 ∨ n = 0 ∨ n = 1 ∨ n = 2 ∨ n = 3 ∨ n = 4 := by omega
  rcases this with rfl | rfl | rfl | rfl | rfl | rfl | rfl | rfl | rfl <;> simp [end9] <;> omega
/-- The sum at three numbers. -/
def at3 (c : Int) (ts : List AR) (x y z : Int) : Int := affAt8 c ts [⟨nI, x⟩, ⟨nJ, y⟩, ⟨nK, z⟩]
theorem nm3_mem {j : Nat} {s : ByteArray} (h : nm3[j]? = some s) : s ∈ [nI, nJ, nK] := List.mem_of_getElem? (l := [nI, nJ, nK]) (i := j) h
theorem at3_is {c : Int} {ts : List AR} (h : Small8 c ts) {x y z : Int} (hx : -20 ≤ x ∧ x ≤ 20) (hy : -20 ≤ y ∧ y ≤ 20) (hz : -20 ≤ z ∧ z ≤ 20) :
    at3 c ts x y z = c + (coefA ts nI * x + (coefA ts nJ * y + coefA ts nK * z)) := by
  have hc := h.1
  have h1 := mul_b9 (coefA_sm8 nI ts h.b4) hx
  have h2 := mul_b9 (coefA_sm8 nJ ts h.b4) hy
  have h3 := mul_b9 (coefA_sm8 nK ts h.b4) hz
  have hp : [nI, nJ, nK].Pairwise (fun a b => a ≠ b) := by
    refine List.pairwise_cons.2 ⟨fun b hb => ?_, List.pairwise_cons.2 ⟨fun b hb => ?_, by simp⟩⟩
    · simp only [List.mem_cons, List.not_mem_nil, or_false] at hb
      rcases hb with rfl | rfl
      · exact nIJ
      · exact nIK
    · simp only [List.mem_cons, List.not_mem_nil, or_false] at hb
      subst hb; exact nJK
  have f1 : withN [⟨nI, x⟩, ⟨nJ, y⟩, ⟨nK, z⟩] (fun _ => 0) nI = x := by simp [withN, bindOf, nJI, nKI]
  have f2 : withN [⟨nI, x⟩, ⟨nJ, y⟩, ⟨nK, z⟩] (fun _ => 0) nJ = y := by simp [withN, bindOf, nKJ]
  have f3 : withN [⟨nI, x⟩, ⟨nJ, y⟩, ⟨nK, z⟩] (fun _ => 0) nK = z := by simp [withN, bindOf]
  rw [at3, affAt8, affGo8_is _ ts c (wrap8 (by omega) (by omega)), sumT8_N _ [nI, nJ, nK] hp ts h.2.1 (fun t ht => by obtain ⟨j, hj⟩ := h.nm t ht; exact nm3_mem hj), sumN8, sumN8, sumN8, sumN8, f1, f2, f3, wrap8 (by omega) (by omega)]
  omega
/-- What the drawn ranges are. -/
theorem box3 {rs : List RG} (h : Bx9 3 rs) : ∃ l0 h0 l1 h1 l2 h2, rs = [⟨nI, l0, h0⟩, ⟨nJ, l1, h1⟩, ⟨nK, l2, h2⟩] ∧ (-1 ≤ l0 ∧ l0 ≤ 3 ∧ l0 ≤ h0 ∧ h0 ≤ l0 + 4) ∧ (-1 ≤ l1 ∧ l1 ≤ 3 ∧ l1 ≤ h1 ∧ h1 ≤ l1 + 4) ∧ (-1 ≤ l2 ∧ l2 ≤ 3 ∧ l2 ≤ h2 ∧ h2 ≤ l2 + 4) := by
  obtain ⟨hl, hh⟩ := h
  match rs, hl with
  | [⟨s0, l0, h0⟩, ⟨s1, l1, h1⟩, ⟨s2, l2, h2⟩], _ =>
    obtain ⟨a0, b0⟩ := hh 0 _ rfl
    obtain ⟨a1, b1⟩ := hh 1 _ rfl
    obtain ⟨a2, b2⟩ := hh 2 _ rfl
    have e0 : nI = s0 := Option.some.inj a0
    have e1 : nJ = s1 := Option.some.inj a1
    have e2 : nK = s2 := Option.some.inj a2
    subst e0; subst e1; subst e2
    exact ⟨l0, h0, l1, h1, l2, h2, rfl, b0, b1, b2⟩
theorem inE9 {n : Int} (h : -10000 ≤ n ∧ n ≤ 10000) : inEnd9 n = true := by simp [inEnd9, h.1, h.2]
theorem box_ok9 {l0 h0 l1 h1 l2 h2 : Int} (b0 : -1 ≤ l0 ∧ l0 ≤ 3 ∧ l0 ≤ h0 ∧ h0 ≤ l0 + 4) (b1 : -1 ≤ l1 ∧ l1 ≤ 3 ∧ l1 ≤ h1 ∧ h1 ≤ l1 + 4) (b2 : -1 ≤ l2 ∧ l2 ≤ 3 ∧ l2 ≤ h2 ∧ h2 ≤ l2 + 4) :
    boxOk9 [⟨nI, l0, h0⟩, ⟨nJ, l1, h1⟩, ⟨nK, l2, h2⟩] = true ∧ waysOk9 [⟨nI, l0, h0⟩, ⟨nJ, l1, h1⟩, ⟨nK, l2, h2⟩] = true := by
  have o1 : nameOk nI.data.toList = true := by decide +kernel
  have o2 : nameOk nJ.data.toList = true := by decide +kernel
  have o3 : nameOk nK.data.toList = true := by decide +kernel
  have g1 : ¬ l0 > h0 := by omega
  have g2 : ¬ l1 > h1 := by omega
  have g3 : ¬ l2 > h2 := by omega
  have hb : boxOk9 [⟨nI, l0, h0⟩, ⟨nJ, l1, h1⟩, ⟨nK, l2, h2⟩] = true := by
    simp [boxOk9, boxGo9, rgOk9, hasR9, o1, o2, o3, nIJ, nIK, nJK, inE9 (n := l0) (by omega), inE9 (n := h0) (by omega), inE9 (n := l1) (by omega), inE9 (n := h1) (by omega), inE9 (n := l2) (by omega), inE9 (n := h2) (by omega)]
  refine ⟨hb, ?_⟩
  rw [waysOk9, hb]
  simp [g1, g2, g3]
theorem all_in9 {c : Int} {ts : List AR} (h : Small8 c ts) (l0 h0 l1 h1 l2 h2 : Int) : (ts.all fun t => hasR9 [⟨nI, l0, h0⟩, ⟨nJ, l1, h1⟩, ⟨nK, l2, h2⟩] t.s) = true := by
  rw [List.all_eq_true]
  intro t ht
  obtain ⟨j, hj⟩ := h.nm t ht
  have := nm3_mem hj
  simp only [List.mem_cons, List.not_mem_nil, or_false] at this
  rcases this with e | e | e <;> simp [hasR9, e]
theorem far3 {c : Int} {ts : List AR} (h : Small8 c ts) {l0 h0 l1 h1 l2 h2 : Int} (b0 : -1 ≤ l0 ∧ l0 ≤ 3 ∧ l0 ≤ h0 ∧ h0 ≤ l0 + 4) (b1 : -1 ≤ l1 ∧ l1 ≤ 3 ∧ l1 ≤ h1 ∧ h1 ≤ l1 + 4) (b2 : -1 ≤ l2 ∧ l2 ≤ 3 ∧ l2 ≤ h2 ∧ h2 ≤ l2 + 4) (m : Bool) :
    far9 m c ts [⟨nI, l0, h0⟩, ⟨nJ, l1, h1⟩, ⟨nK, l2, h2⟩] = some (at3 c ts (pt9 m (coefA ts nI) ⟨nI, l0, h0⟩) (pt9 m (coefA ts nJ) ⟨nJ, l1, h1⟩) (pt9 m (coefA ts nK) ⟨nK, l2, h2⟩)) := by
  obtain ⟨_, hw⟩ := box_ok9 b0 b1 b2
  have ha := all_in9 h l0 h0 l1 h1 l2 h2
  have p0 := pt_in9 m (coefA ts nI) ⟨nI, l0, h0⟩ b0.2.2.1
  have p1 := pt_in9 m (coefA ts nJ) ⟨nJ, l1, h1⟩ b1.2.2.1
  have p2 := pt_in9 m (coefA ts nK) ⟨nK, l2, h2⟩ b2.2.2.1
  simp only at p0 p1 p2
  have q0 : -20 ≤ pt9 m (coefA ts nI) ⟨nI, l0, h0⟩ ∧ pt9 m (coefA ts nI) ⟨nI, l0, h0⟩ ≤ 20 := by omega
  have q1 : -20 ≤ pt9 m (coefA ts nJ) ⟨nJ, l1, h1⟩ ∧ pt9 m (coefA ts nJ) ⟨nJ, l1, h1⟩ ≤ 20 := by omega
  have q2 : -20 ≤ pt9 m (coefA ts nK) ⟨nK, l2, h2⟩ ∧ pt9 m (coefA ts nK) ⟨nK, l2, h2⟩ ≤ 20 := by omega
  have s1 := mul_b9 (coefA_sm8 nI ts h.b4) q0
  have s2 := mul_b9 (coefA_sm8 nJ ts h.b4) q1
  have s3 := mul_b9 (coefA_sm8 nK ts h.b4) q2
  have hc := h.1
  have hok : okFrom8 none ts = true := by have := h.ok; rw [affOk8, Bool.and_eq_true] at this; exact this.2
  have hs := sum_swap9 m _ (dist_of hw) none ts hok ha
  rw [far9, h.ok, hw, ha, if_pos (by rfl), ← hs, at3_is h q0 q1 q2, sumR9, sumR9, sumR9, sumR9]
  simp only [end_pt9]
  rw [wrap8 (by omega) (by omega)]
  congr 1
  omega
/-- All that the law asks of the least and the most. -/
structure Ends9 (c : Int) (ts : List AR) (l0 h0 l1 h1 l2 h2 : Int) (m : Bool) (v X Y Z : Int) : Prop where
  x : l0 ≤ X ∧ X ≤ h0
  y : l1 ≤ Y ∧ Y ≤ h1
  z : l2 ≤ Z ∧ Z ≤ h2
  is : at3 c ts X Y Z = v
  rg : -300 ≤ v ∧ v ≤ 300
  bd : ∀ x y z, (l0 ≤ x ∧ x ≤ h0) → (l1 ≤ y ∧ y ≤ h1) → (l2 ≤ z ∧ z ≤ h2) → if m = true then at3 c ts x y z ≤ v else v ≤ at3 c ts x y z
theorem ends3 {c : Int} {ts : List AR} (h : Small8 c ts) {l0 h0 l1 h1 l2 h2 : Int} (b0 : -1 ≤ l0 ∧ l0 ≤ 3 ∧ l0 ≤ h0 ∧ h0 ≤ l0 + 4) (b1 : -1 ≤ l1 ∧ l1 ≤ 3 ∧ l1 ≤ h1 ∧ h1 ≤ l1 + 4) (b2 : -1 ≤ l2 ∧ l2 ≤ 3 ∧ l2 ≤ h2 ∧ h2 ≤ l2 + 4) (m : Bool) :
    ∃ v X Y Z, far9 m c ts [⟨nI, l0, h0⟩, ⟨nJ, l1, h1⟩, ⟨nK, l2, h2⟩] = some v ∧ Ends9 c ts l0 h0 l1 h1 l2 h2 m v X Y Z := by
  have p0 := pt_in9 m (coefA ts nI) ⟨nI, l0, h0⟩ b0.2.2.1
  have p1 := pt_in9 m (coefA ts nJ) ⟨nJ, l1, h1⟩ b1.2.2.1
  have p2 := pt_in9 m (coefA ts nK) ⟨nK, l2, h2⟩ b2.2.2.1
  simp only at p0 p1 p2
  have c1 := coefA_sm8 nI ts h.b4
  have c2 := coefA_sm8 nJ ts h.b4
  have c3 := coefA_sm8 nK ts h.b4
  have e := at3_is h (x := pt9 m (coefA ts nI) ⟨nI, l0, h0⟩) (y := pt9 m (coefA ts nJ) ⟨nJ, l1, h1⟩) (z := pt9 m (coefA ts nK) ⟨nK, l2, h2⟩) (by omega) (by omega) (by omega)
  have s1 := mul_b9 c1 (x := pt9 m (coefA ts nI) ⟨nI, l0, h0⟩) (by omega)
  have s2 := mul_b9 c2 (x := pt9 m (coefA ts nJ) ⟨nJ, l1, h1⟩) (by omega)
  have s3 := mul_b9 c3 (x := pt9 m (coefA ts nK) ⟨nK, l2, h2⟩) (by omega)
  have hc := h.1
  refine ⟨_, _, _, _, far3 h b0 b1 b2 m, p0, p1, p2, rfl, by rw [e]; omega, fun x y z hx hy hz => ?_⟩
  have g := at3_is h (x := x) (y := y) (z := z) (by omega) (by omega) (by omega)
  have d1 := end_bd9 (r := ⟨nI, l0, h0⟩) c1 hx
  have d2 := end_bd9 (r := ⟨nJ, l1, h1⟩) c2 hy
  have d3 := end_bd9 (r := ⟨nK, l2, h2⟩) c3 hz
  simp only [end_pt9] at d1 d2 d3
  rw [e, g]
  cases m with
  | true => rw [if_pos rfl]; omega
  | false => rw [if_neg (by decide)]; omega
theorem mul5 {a b A : Int} (h1 : 1 ≤ a ∧ a ≤ A) (h2 : 1 ≤ b ∧ b ≤ 5) : 1 ≤ a * b ∧ a * b ≤ 5 * A := by
  have : b = 1 ∨ b = 2 ∨ b = 3 ∨ b = 4 ∨ b = 5 := by omega
  rcases this with rfl | rfl | rfl | rfl | rfl <;> omega
theorem rounds3 {l0 h0 l1 h1 l2 h2 : Int} (b0 : -1 ≤ l0 ∧ l0 ≤ 3 ∧ l0 ≤ h0 ∧ h0 ≤ l0 + 4) (b1 : -1 ≤ l1 ∧ l1 ≤ 3 ∧ l1 ≤ h1 ∧ h1 ≤ l1 + 4) (b2 : -1 ≤ l2 ∧ l2 ≤ 3 ∧ l2 ≤ h2 ∧ h2 ≤ l2 + 4) :
    rounds9 [⟨nI, l0, h0⟩, ⟨nJ, l1, h1⟩, ⟨nK, l2, h2⟩] = (h0 - l0 + 1) * ((h1 - l1 + 1) * (h2 - l2 + 1)) := by
  have d1 := mul5 (a := h0 - l0 + 1) (b := h1 - l1 + 1) (A := 5) (by omega) (by omega)
  have d2 := mul5 (a := (h0 - l0 + 1) * (h1 - l1 + 1)) (b := h2 - l2 + 1) (A := 25) (by omega) (by omega)
  have e1 : lim9 (1 * (h0 - l0 + 1)) = h0 - l0 + 1 := by rw [lim9, if_neg (by omega)]; omega
  have e2 : lim9 ((h0 - l0 + 1) * (h1 - l1 + 1)) = (h0 - l0 + 1) * (h1 - l1 + 1) := by rw [lim9, if_neg (by omega)]
  have e3 : lim9 ((h0 - l0 + 1) * (h1 - l1 + 1) * (h2 - l2 + 1)) = (h0 - l0 + 1) * (h1 - l1 + 1) * (h2 - l2 + 1) := by rw [lim9, if_neg (by omega)]
  rw [rounds9, (box_ok9 b0 b1 b2).2, if_pos rfl, ways9, ways9, ways9, ways9]
  simp only [e1, e2, e3]
  rw [Int.mul_assoc]
end Go.Proofs.YtjdpddcnogdekaaGreat
