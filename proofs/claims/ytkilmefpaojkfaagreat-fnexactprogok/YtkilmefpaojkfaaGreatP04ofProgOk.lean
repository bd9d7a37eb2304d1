/-
  Texts in one: NumPlain, TokPlain, TokName, ProgHas, AstTop.
-/
import Derived.RowKit
import Derived.Lib.Atoi
import Derived.Lib.AtoiAll
import Derived.Lib.AtoiAllCases
import Derived.Lib.AtoiTie
import Derived.Lib.ItoaNum
import Derived.Lib.ItoaMem
import Derived.Laws.RangeAny
import Derived.Stop.FmtRuneSmall
import Derived.Test.YtkilmefpaojkfaaGreatP03ofProgOk
import Derived.Test.YtkilmefpaojkfaaGreatP02ofProgOk
/-
  Plain facts on numbers and their digits: no Go in sight.
-/
namespace Go.Proofs.YtkilmefpaojkfaaGreat
open Go.Lib Go.RowKit

/-! ### words that go round -/
theorem wrap32_bd (n : Int) : -2147483648 ≤ wrap32 n ∧ wrap32 n ≤ 2147483647 := by unfold wrap32; omega
theorem wrap32_id (n : Int) (h0 : -2147483648 ≤ n) (h1 : n ≤ 2147483647) : wrap32 n = n := by unfold wrap32; omega
theorem mul_bd (a b : Int) (ha0 : -2147483648 ≤ a) (ha : a ≤ 2147483647) (hb0 : -2147483648 ≤ b) (hb : b ≤ 2147483647) : -9223372036854775808 ≤ a * b ∧ a * b ≤ 9223372036854775807 := by
  have h1 : a.natAbs ≤ 2147483648 := by omega
  have h2 : b.natAbs ≤ 2147483648 := by omega
  have h3 : (a * b).natAbs ≤ 2147483648 * 2147483648 := by rw [Int.natAbs_mul]; exact Nat.mul_le_mul h1 h2
  omega

/-! ### the greatest that divides both -/
theorem gcd_step (x y : Int) : Int.gcd y (x.tmod y) = Int.gcd x y := by
  rw [Int.gcd_comm x y]
  simp only [Int.gcd, Int.natAbs_tmod]
  rw [Nat.gcd_comm, ← Nat.gcd_rec]
theorem gcd_zero (x : Int) : (Int.gcd x 0 : Int) = if x < 0 then -x else x := by
  simp
  split <;> omega
theorem tmod_lt (x y : Int) (h : y ≠ 0) : (x.tmod y).natAbs < y.natAbs := by
  rw [Int.natAbs_tmod]
  exact Nat.mod_lt _ (by omega)
theorem gcd_dvd_tmod (x y : Int) : x.tmod (Int.gcd x y) = 0 ∧ y.tmod (Int.gcd x y) = 0 :=
  ⟨Int.tmod_eq_zero_of_dvd (Int.gcd_dvd_left ..), Int.tmod_eq_zero_of_dvd (Int.gcd_dvd_right ..)⟩
theorem gcd_none {x y : Int} (h : Int.gcd x y = 0) : x = 0 ∧ y = 0 := Int.gcd_eq_zero_iff.1 h
theorem gcd_le (x y : Int) (h0 : -2147483648 ≤ x) (h1 : x ≤ 2147483647) (h2 : -2147483648 ≤ y) (h3 : y ≤ 2147483647) : (Int.gcd x y : Int) ≤ 2147483648 := by
  by_cases hx : x = 0
  · subst hx; rw [Int.gcd_comm, gcd_zero]; split <;> omega
  · have := Nat.le_of_dvd (by omega) (Nat.gcd_dvd_left x.natAbs y.natAbs)
    have e : Int.gcd x y = Nat.gcd x.natAbs y.natAbs := rfl
    omega

/-! ### the digits, from the last one on -/
theorem decDigits_last (u : Nat) : decDigits u = (if u / 10 = 0 then [] else decDigits (u / 10)) ++ [UInt8.ofNat (48 + u % 10)] := by
  by_cases h : u < 10
  · rw [decDigits, dif_pos h, if_pos (by omega), Nat.mod_eq_of_lt h]; rfl
  · rw [decDigits, dif_neg h, if_neg (by omega)]
/-- What is left to be written of n's digits, and what has been: together they are the digits. -/
def Digs (n u : Nat) (t : List UInt8) : Prop := decDigits n = (if u = 0 then [] else decDigits u) ++ t
theorem digs_start (n : Nat) (h : 1 ≤ n) : Digs n n [] := by unfold Digs; rw [if_neg (by omega)]; simp
theorem digs_step {n u : Nat} {t : List UInt8} (h : Digs n u t) (hu : u ≠ 0) : Digs n (u / 10) (UInt8.ofNat (48 + u % 10) :: t) := by
  unfold Digs at h ⊢
  rw [if_neg hu, decDigits_last u] at h
  rw [h]; simp
theorem digs_end {n : Nat} {t : List UInt8} (h : Digs n 0 t) : decDigits n = t := by
  unfold Digs at h; simpa using h


theorem head_append {a : List UInt8} (b : List UInt8) (h : a ≠ []) : (a ++ b).head? = a.head? := by
  cases a with
  | nil => exact absurd rfl h
  | cons _ _ => rfl

theorem decFrom_append : ∀ (a b : List UInt8) (acc : Nat), decFrom acc (a ++ b) = (decFrom acc a).bind fun n => decFrom n b
  | [], b, acc => by simp [decFrom]
  | c :: r, b, acc => by
    simp only [List.cons_append, decFrom]
    cases digitVal c with
    | none => simp
    | some d => simpa using decFrom_append r b _

theorem digitVal_of (d : Nat) (h : d < 10) : digitVal (UInt8.ofNat (48 + d)) = some d := by
  have : (UInt8.ofNat (48 + d)).toNat = 48 + d := by simp; omega
  unfold digitVal
  rw [if_pos (by omega), this]
  simp

theorem byte_of_digit {b : UInt8} {d : Nat} (h : digitVal b = some d) : b = UInt8.ofNat (48 + d) ∧ d < 10 := by
  obtain ⟨h1, h2, h3⟩ := digitVal_eq h
  refine ⟨?_, by omega⟩
  apply UInt8.toNat_inj.1
  simp
  omega

/-- The digits of u spell u. -/
theorem decFrom_decDigits (u : Nat) : decFrom 0 (decDigits u) = some u := by
  induction u using Nat.strongRecOn with
  | _ u ih =>
    by_cases h : u < 10
    · rw [decDigits, dif_pos h]
      simp only [decFrom, digitVal_of u h]
      simp
    · rw [decDigits, dif_neg h, decFrom_append, ih (u / 10) (by omega)]
      simp only [Option.bind_some, decFrom, digitVal_of (u % 10) (by omega)]
      simp
      omega

theorem decDigits_ne (u : Nat) : decDigits u ≠ [] := by
  rw [decDigits]
  split <;> simp

/-- No needless nought stands ahead of u's digits. -/
theorem decDigits_head (u : Nat) (h : 1 ≤ u) : (decDigits u).head? ≠ some 48 := by
  induction u using Nat.strongRecOn with
  | _ u ih =>
    by_cases h10 : u < 10
    · rw [decDigits, dif_pos h10]
      simp only [List.head?_cons]
      intro he
      have he := Option.some.inj he
      have : (UInt8.ofNat (48 + u)).toNat = 48 := by rw [he]; rfl
      simp at this
      omega
    · rw [decDigits, dif_neg h10, head_append _ (decDigits_ne _)]
      exact ih _ (by omega) (by omega)

theorem nDigits_le10 (u : Nat) (h : u < 10000000000) : nDigits u ≤ 10 := by
  have step : ∀ k v, v < 10 ^ k → 1 ≤ k → nDigits v ≤ k := by
    intro k
    induction k with
    | zero => intro v _ h; omega
    | succ k ih =>
      intro v hv _
      rw [nDigits]
      split
      · omega
      · rename_i h10
        have : v / 10 < 10 ^ k := by rw [Nat.pow_succ] at hv; omega
        have hk : 1 ≤ k := by
          rcases k with _ | k
          · simp at this; omega
          · omega
        have := ih _ this hk
        omega
  exact step 10 u (by simpa using h) (by omega)

/-- A row of digits without a needless nought ahead is the digits of what it spells. -/
theorem decDigits_of (l : List UInt8) : ∀ u, decFrom 0 l = some u → l ≠ [] → (l.length > 1 → l.head? ≠ some 48) → l = decDigits u := by
  induction hn : l.length generalizing l with
  | zero => intro u _ h; exact absurd (List.length_eq_zero_iff.1 hn) h
  | succ n ih =>
    intro u hu hne hh
    obtain ⟨r, b, rfl⟩ : ∃ r b, l = r ++ [b] := ⟨l.dropLast, l.getLast hne, (List.dropLast_concat_getLast hne).symm⟩
    rw [decFrom_append] at hu
    cases hr : decFrom 0 r with
    | none => simp [hr] at hu
    | some v =>
      simp only [hr, Option.bind_some, decFrom] at hu
      cases hb : digitVal b with
      | none => simp [hb] at hu
      | some d =>
        simp only [hb, Option.some.injEq] at hu
        obtain ⟨rfl, hd⟩ := byte_of_digit hb
        by_cases hre : r = []
        · subst hre
          simp [decFrom] at hr
          subst hr
          rw [decDigits, dif_pos (by omega)]
          simp at hu ⊢
          rw [hu]
        · have hlen : r.length = n := by simpa using hn
          have hr1 : 1 ≤ r.length := by cases r with | nil => exact absurd rfl hre | cons _ _ => simp
          have hhd : (r ++ [UInt8.ofNat (48 + d)]).head? = r.head? := head_append _ hre
          have h48 : r.head? ≠ some 48 := by rw [← hhd]; exact hh (by simp; omega)
          have er := ih r hlen v hr hre (fun _ => h48)
          have hv : 1 ≤ v := by
            rcases Nat.eq_zero_or_pos v with h0 | h0
            · subst h0
              rw [decDigits, dif_pos (by omega)] at er
              rw [er] at h48
              exact absurd rfl h48
            · exact h0
          rw [decDigits, dif_neg (by omega), er]
          congr 1
          · congr 1; omega
          · congr 2; omega

/-- ParseNum as the document has it: the digits of a word that is not below 0, and nothing else. -/
def parseNum (l : List UInt8) : Option Nat :=
  match decFrom 0 l with
  | some u => if u ≤ 2147483647 ∧ l = decDigits u then some u else none
  | none => none

theorem parseNum_some {l : List UInt8} {u : Nat} : parseNum l = some u ↔ u ≤ 2147483647 ∧ l = decDigits u := by
  unfold parseNum
  constructor
  · intro h
    split at h
    · split at h
      · rename_i hx; injection h with h; subst h; exact hx
      · cases h
    · cases h
  · rintro ⟨h, rfl⟩
    simp [decFrom_decDigits, h]

theorem atoiAll_decDigits (u : Nat) (h : u ≤ 2147483647) : atoiAll (decDigits u) = .ok (u : Int) := by
  have hl : (decDigits u).length ≤ 18 := by rw [decDigits_length]; have := nDigits_le10 u (by omega); omega
  rw [atoiAll_short _ hl]
  have hd := decFrom_decDigits u
  cases hdd : decDigits u with
  | nil => exact absurd hdd (decDigits_ne u)
  | cons b r =>
    rw [hdd] at hd
    obtain ⟨d, hb⟩ := digit_of_decFrom _ _ _ hd 0 b (by simp)
    obtain ⟨h1, h2, _⟩ := digitVal_eq hb
    have n1 : (b == 45) = false := by rw [beq_eq_false_iff_ne]; intro e; rw [e] at h1; exact absurd h1 (by decide)
    have n2 : (b == 43) = false := by rw [beq_eq_false_iff_ne]; intro e; rw [e] at h1; exact absurd h1 (by decide)
    simp only [atoi, n1, n2, decNat, hd]
    simp [NumEnd.ofOption]

/-- What the landed code tests behind Atoi, and what it then answers, is parseNum. -/
theorem impl_some {l : List UInt8} {v : Int} (h : atoiAll l = .ok v) (h0 : 0 ≤ v) (h1 : v ≤ 2147483647) (h2 : l = itoa v) : parseNum l = some v.toNat := by
  obtain ⟨u, rfl⟩ := Int.eq_ofNat_of_zero_le h0
  rw [itoa_nonneg] at h2
  exact parseNum_some.2 ⟨by simp; omega, by simpa using h2⟩

theorem impl_none {l : List UInt8} (h : ∀ v, atoiAll l = .ok v → 0 ≤ v → v ≤ 2147483647 → l ≠ itoa v) : parseNum l = none := by
  cases hp : parseNum l with
  | none => rfl
  | some u =>
    obtain ⟨h1, rfl⟩ := parseNum_some.1 hp
    exact absurd (itoa_nonneg u).symm (h u (atoiAll_decDigits u h1) (by omega) (by omega))

/-- What the specification tests is parseNum. -/
theorem spec_some {l : List UInt8} {u : Nat} (h : decFrom 0 l = some u) (h1 : 1 ≤ l.length) (h3 : ¬ (1 < l.length ∧ l.head? = some 48)) (h4 : u ≤ 2147483647) : parseNum l = some u :=
  parseNum_some.2 ⟨h4, decDigits_of l u h (by intro e; simp [e] at h1) (fun hl hh => h3 ⟨hl, hh⟩)⟩

theorem spec_none_byte {l : List UInt8} (h : decFrom 0 l = none) : parseNum l = none := by simp [parseNum, h]

theorem spec_none_long {l : List UInt8} (h : 10 < l.length) : parseNum l = none := by
  cases hp : parseNum l with
  | none => rfl
  | some u =>
    obtain ⟨h1, rfl⟩ := parseNum_some.1 hp
    rw [decDigits_length] at h
    have := nDigits_le10 u (by omega)
    omega

theorem spec_none_nil : parseNum [] = none := by
  cases hp : parseNum [] with
  | none => rfl
  | some u => exact absurd (parseNum_some.1 hp).2.symm (decDigits_ne u)

theorem spec_none_nought {l : List UInt8} (h : 1 < l.length) (hh : l.head? = some 48) : parseNum l = none := by
  cases hp : parseNum l with
  | none => rfl
  | some u =>
    obtain ⟨h1, rfl⟩ := parseNum_some.1 hp
    rcases Nat.eq_zero_or_pos u with h0 | h0
    · subst h0
      rw [decDigits, dif_pos (by omega)] at h
      simp at h
    · exact absurd hh (decDigits_head u h0)

theorem spec_none_great {l : List UInt8} {u : Nat} (h : decFrom 0 l = some u) (h4 : 2147483647 < u) : parseNum l = none := by
  unfold parseNum
  rw [h]
  simp only
  rw [if_neg (by omega)]
end Go.Proofs.YtkilmefpaojkfaaGreat
/-
  Plain facts on signs: what a text is made of, and that signs come back of their own text: no Go in sight.
-/
namespace Go.Proofs.YtkilmefpaojkfaaGreat
open Go.Lib Go.RowKit

def marksL : List UInt8 := [59, 61, 91, 93, 40, 41, 123, 125, 43, 45, 42, 44]
def keptL : List (List UInt8) := [[97, 114, 114, 97, 121], [102, 111, 114], [116, 111], [112, 114, 105, 110, 116], [109, 105, 110], [109, 97, 120]]
/-- What a byte is: 0 a gap, 1 a letter, 2 a digit, 3 a mark, 4 none of these. -/
def kind (b : UInt8) : Nat :=
  if b.toNat = 32 ∨ b.toNat = 10 then 0 else if 97 ≤ b.toNat ∧ b.toNat ≤ 122 then 1 else if 48 ≤ b.toNat ∧ b.toNat ≤ 57 then 2 else if b ∈ marksL then 3 else 4
def goes (k : Nat) : Bool := k == 1 || k == 2
structure T where
  k : Int
  s : List UInt8
  n : Int
/-- The sign that a piece of one kind is, where it is one. -/
def tok (k : Nat) (p : List UInt8) : Option T :=
  if k = 1 then (if p ∈ keptL then some ⟨3, p, 0⟩ else if p.length ≤ 6 then some ⟨1, p, 0⟩ else none)
  else if k = 2 then (match parseNum p with | some n => if n ≤ 999999 then some ⟨2, [], n⟩ else none | none => none)
  else if k = 3 then some ⟨4, p, 0⟩
  else none
/-- The signs of what is left, where a piece p of kind k stands open; what is open at the end is dropped. -/
def pend : Nat → List UInt8 → List UInt8 → Option (List T)
  | _, _, [] => some []
  | k, p, b :: r =>
    if kind b = k ∧ goes k = true then pend k (p ++ [b]) r
    else if k = 0 then pend (kind b) [b] r
    else match tok k p with
      | some t => (match pend (kind b) [b] r with | some ts => some (t :: ts) | none => none)
      | none => none
def cut (done : List T) : Option (List T) → Option (List T)
  | some ts => if done.length + ts.length ≤ 600 then some (done ++ ts) else none
  | none => none
/-- What Lex answers of a text's bytes. -/
def lex (l : List UInt8) : Option (List T) := if 3000 < l.length then none else cut [] (pend 0 [] (l ++ [32]))
def nameOk (l : List UInt8) : Bool := decide (1 ≤ l.length) && decide (l.length ≤ 6) && l.all (fun b => kind b == 1) && !(keptL.contains l)

theorem kind_lt (b : UInt8) : kind b ≤ 4 := by unfold kind; repeat' split <;> try omega
theorem pend_gap (p r : List UInt8) : pend 0 p r = pend 0 [] r := by
  cases r with
  | nil => rfl
  | cons b r => simp [pend, goes]
theorem pend_start (p r : List UInt8) (b : UInt8) : pend 0 p (b :: r) = pend (kind b) [b] r := by simp [pend, goes]
theorem pend_on {k : Nat} (p r : List UInt8) {b : UInt8} (hk : kind b = k) (hg : goes k = true) : pend k p (b :: r) = pend k (p ++ [b]) r := by
  rw [pend, if_pos ⟨hk, hg⟩]
theorem pend_run {k : Nat} (hg : goes k = true) : ∀ (v p r : List UInt8), (∀ b ∈ v, kind b = k) → pend k p (v ++ r) = pend k (p ++ v) r
  | [], p, r, _ => by simp
  | b :: v, p, r, h => by
    rw [List.cons_append, pend_on _ _ (h b (by simp)) hg, pend_run hg v _ r (fun c hc => h c (by simp [hc]))]
    simp
def put (t : T) : Option (List T) → Option (List T)
  | some ts => some (t :: ts)
  | none => none
theorem pend_end {k : Nat} (p r : List UInt8) {b : UInt8} (h0 : k ≠ 0) (h : ¬ (kind b = k ∧ goes k = true)) :
    pend k p (b :: r) = match tok k p with | some t => put t (pend 0 [] (b :: r)) | none => none := by
  rw [pend, if_neg h, if_neg h0, pend_start]
  cases tok k p <;> rfl
theorem pend_other (p r : List UInt8) (b : UInt8) : pend 4 p (b :: r) = none := by
  simp [pend, goes, tok]
theorem cut_put {done : List T} {t : T} (o : Option (List T)) : cut done (put t o) = cut (done ++ [t]) o := by
  cases o with
  | none => rfl
  | some ts =>
    simp only [put, cut, List.length_cons, List.length_append, List.length_nil]
    by_cases h : done.length + (ts.length + 1) ≤ 600
    · rw [if_pos h, if_pos (by omega)]; simp
    · rw [if_neg h, if_neg (by omega)]
theorem cut_full {done : List T} {t : T} (h : done.length = 600) (o : Option (List T)) : cut done (put t o) = none := by
  cases o with
  | none => rfl
  | some ts => simp only [put, cut, List.length_cons]; rw [if_neg (by omega)]
theorem cut_nil {done : List T} (h : done.length ≤ 600) : cut done (some []) = some done := by
  simp only [cut, List.length_nil]; rw [if_pos (by omega)]; simp

/-! ### signs come back of their own text -/
def text1 (t : T) : List UInt8 := if t.k = 2 then itoa t.n else t.s
def textFrom : List T → List UInt8
  | [] => []
  | t :: ts => 32 :: (text1 t ++ textFrom ts)
def text : List T → List UInt8
  | [] => []
  | t :: ts => text1 t ++ textFrom ts
/-- A sign that a piece of one kind is, and its own text is that piece. -/
def Good (t : T) : Prop := ∃ k p, (k = 1 ∨ k = 2 ∨ k = 3) ∧ p ≠ [] ∧ (∀ b ∈ p, kind b = k) ∧ (goes k = true ∨ p.length = 1) ∧ tok k p = some t
theorem tok_text {k : Nat} {p : List UInt8} {t : T} (h : tok k p = some t) : text1 t = p := by
  unfold tok at h
  split at h
  · split at h
    · injection h with h; subst h; simp [text1]
    · split at h
      · injection h with h; subst h; simp [text1]
      · cases h
  · split at h
    · split at h
      · rename_i n hn
        split at h
        · injection h with h; subst h
          simp only [text1, if_true]
          rw [itoa_nonneg, (parseNum_some.1 hn).2]
        · cases h
      · cases h
    · split at h
      · injection h with h; subst h; simp [text1]
      · cases h
theorem pend_good : ∀ (r p : List UInt8) (k : Nat) (ts : List T), (k = 0 ∨ (p ≠ [] ∧ (∀ b ∈ p, kind b = k) ∧ (goes k = true ∨ p.length = 1))) → pend k p r = some ts → ∀ t ∈ ts, Good t
  | [], p, k, ts, _, h => by
    rw [pend] at h; injection h with h; subst h; intro t ht; cases ht
  | b :: r, p, k, ts, hp, h => by
    rw [pend] at h
    split at h
    · rename_i hk
      refine pend_good r (p ++ [b]) k ts ?_ h
      rcases hp with h0 | ⟨h1, h2, h3⟩
      · exact .inl h0
      · refine .inr ⟨by simp, ?_, .inl hk.2⟩
        intro c hc
        rcases List.mem_append.1 hc with hc | hc
        · exact h2 c hc
        · simp at hc; subst hc; exact hk.1
    · have hs : kind b = 0 ∨ ([b] ≠ [] ∧ (∀ c ∈ [b], kind c = kind b) ∧ (goes (kind b) = true ∨ [b].length = 1)) := .inr ⟨by simp, by intro c hc; simp at hc; subst hc; rfl, .inr rfl⟩
      split at h
      · exact pend_good r [b] (kind b) ts hs h
      · rename_i h0
        split at h
        · rename_i t ht
          split at h
          · rename_i ts' hts
            injection h with h; subst h
            intro u hu
            rcases List.mem_cons.1 hu with hu | hu
            · subst hu
              rcases hp with hp | ⟨h1, h2, h3⟩
              · exact absurd hp h0
              · refine ⟨k, p, ?_, h1, h2, h3, ht⟩
                by_cases e1 : k = 1
                · exact .inl e1
                · by_cases e2 : k = 2
                  · exact .inr (.inl e2)
                  · by_cases e3 : k = 3
                    · exact .inr (.inr e3)
                    · simp [tok, e1, e2, e3] at ht
            · exact pend_good r [b] (kind b) ts' hs hts u hu
          · cases h
        · cases h
theorem kind32 : kind 32 = 0 := by decide
/-- One good sign's text, and a blank behind. -/
theorem pend_text1 {t : T} (h : Good t) (r : List UInt8) : pend 0 [] (text1 t ++ 32 :: r) = put t (pend 0 [] r) := by
  obtain ⟨k, p, hk, hp, hall, hg, ht⟩ := h
  rw [tok_text ht]
  have hk0 : k ≠ 0 := by omega
  have hend : ∀ q, pend k q (32 :: r) = match tok k q with | some t => put t (pend 0 [] r) | none => none := by
    intro q
    rw [pend_end q r hk0 (by rw [kind32]; omega), pend_start, kind32, pend_gap]
  cases p with
  | nil => exact absurd rfl hp
  | cons b v =>
    have hb : kind b = k := hall b (by simp)
    rw [List.cons_append, pend_start, hb]
    rcases hg with hg | hg
    · rw [pend_run hg v [b] _ (fun c hc => hall c (by simp [hc])), hend]
      simp only [List.cons_append, List.nil_append, ht]
    · have : v = [] := by simpa using hg
      subst this
      rw [List.nil_append, hend, ht]
theorem pend_textFrom : ∀ (ts : List T), (∀ t ∈ ts, Good t) → pend 0 [] (textFrom ts ++ [32]) = some ts
  | [], _ => by simp [textFrom, pend_start, pend]
  | t :: ts, h => by
    have ih := pend_textFrom ts (fun u hu => h u (by simp [hu]))
    rw [textFrom, List.cons_append, pend_start, kind32, pend_gap, List.append_assoc]
    cases ts with
    | nil =>
      simp only [textFrom, List.nil_append]
      rw [pend_text1 (h t (by simp))]
      rfl
    | cons u us =>
      rw [textFrom, List.cons_append, pend_text1 (h t (by simp))]
      rw [textFrom, List.cons_append, pend_start, kind32, pend_gap] at ih
      rw [ih]
      rfl
theorem pend_text (ts : List T) (h : ∀ t ∈ ts, Good t) : pend 0 [] (text ts ++ [32]) = some ts := by
  cases ts with
  | nil => simp [text, pend_start, pend]
  | cons t ts =>
    have := pend_textFrom (t :: ts) h
    rw [textFrom, List.cons_append, pend_start, kind32, pend_gap] at this
    exact this
theorem lex_good {l : List UInt8} {ts : List T} (h : lex l = some ts) : (∀ t ∈ ts, Good t) ∧ ts.length ≤ 600 := by
  unfold lex at h
  split at h
  · cases h
  · cases hp : pend 0 [] (l ++ [32]) with
    | none => rw [hp] at h; cases h
    | some us =>
      rw [hp] at h
      simp only [cut, List.length_nil, List.nil_append] at h
      split at h
      · injection h with h; subst h
        exact ⟨pend_good _ _ _ _ (.inl rfl) hp, by omega⟩
      · cases h
/-- What is read of its own text is the list again, wherever that text is short enough. -/
theorem lex_text {ts : List T} (hg : ∀ t ∈ ts, Good t) (hn : ts.length ≤ 600) : lex (text ts) = if 3000 < (text ts).length then none else some ts := by
  unfold lex
  split
  · rfl
  · rw [pend_text ts hg]
    exact (by simp only [cut, List.length_nil, List.nil_append]; rw [if_pos (by omega)])
/-! ### runes of a text -/
theorem get_bang (s : ByteArray) (k : Nat) (h : k < s.size) : s.get! k = s[k]'h := by
  show s.data[k]! = _
  rw [getElem!_pos s.data k h]; rfl
/-- A rune of more than one byte ends ahead of a byte below 128 that is the last one. -/
theorem decode_inside (s : ByteArray) (pos : Nat) (h : pos < s.size) (hl : ∀ k, k + 1 = s.size → (s.get! k).toNat < 128) (hh : 128 ≤ (s.get! pos).toNat) : pos + (Utf8.decode s pos).2 < s.size := by
  have one : pos + 1 < s.size := by
    rcases Nat.lt_or_ge (pos + 1) s.size with h1 | h1
    · exact h1
    · have := hl pos (by omega); omega
  have more : ∀ k, (decide (pos + k < s.size) && (s.get! (pos + k)).toNat / 64 == 2) = true → pos + (k + 1) < s.size := by
    intro k hk
    simp only [Bool.and_eq_true, decide_eq_true_eq, beq_iff_eq] at hk
    rcases Nat.lt_or_ge (pos + k + 1) s.size with h1 | h1
    · exact h1
    · have := hl (pos + k) (by omega); omega
  unfold Utf8.decode
  simp only [Nat.add_zero]
  rw [if_neg (by omega)]
  split
  · rename_i hc
    rw [Bool.and_eq_true] at hc
    have := more 1 hc.2
    split <;> simp only <;> omega
  · split
    · rename_i hc
      rw [Bool.and_eq_true] at hc
      have := more 2 hc.2
      split <;> simp only <;> omega
    · split
      · rename_i hc
        rw [Bool.and_eq_true] at hc
        have := more 3 hc.2
        split <;> simp only <;> omega
      · simp only; omega
/-- A byte below 128 is its own rune. -/
theorem decode_low (s : ByteArray) (pos : Nat) (h : pos < s.size) (hk : (s[pos]'h).toNat < 128) : Utf8.decode s pos = ((s[pos]'h).toNat, 1) := decode_ascii s pos h hk
theorem kind_high {b : UInt8} (h : 128 ≤ b.toNat) : kind b = 4 := by
  unfold kind
  rw [if_neg (by omega), if_neg (by omega), if_neg (by omega), if_neg]
  intro hm
  simp only [marksL, List.mem_cons, List.not_mem_nil, or_false] at hm
  rcases hm with rfl | rfl | rfl | rfl | rfl | rfl | rfl | rfl | rfl | rfl | rfl | rfl <;> revert h <;> decide
theorem kind_low {b : UInt8} (h : kind b ≠ 4) : b.toNat < 128 := by
  rcases Nat.lt_or_ge b.toNat 128 with h1 | h1
  · exact h1
  · exact absurd (kind_high h1) h
end Go.Proofs.YtkilmefpaojkfaaGreat
/-
  The contracts of NameOk, the specification's and the landed code's, and of what both call.
-/
namespace Go.Proofs.YtkilmefpaojkfaaGreat
open Go.RowKit Go.Lib
set_option linter.unusedSimpArgs false

theorem ret_kind {k : IntKind} {a b : Int} (h : a = b) : Ending.returned (.int k a) = .returned (.int k b) := by rw [h]
theorem ret_bool {a b : Bool} (h : a = b) : Ending.returned (.bool a) = .returned (.bool b) := by rw [h]
def marksB : ByteArray := ⟨#[59, 61, 91, 93, 40, 41, 123, 125, 43, 45, 42, 44]⟩
theorem asc_marks : Asci marksB := by
  intro b hb
  simp only [marksB, List.mem_cons, List.not_mem_nil, or_false] at hb
  rcases hb with rfl | rfl | rfl | rfl | rfl | rfl | rfl | rfl | rfl | rfl | rfl | rfl <;> decide
theorem marks_any (b : UInt8) : (marksB.data.toList.any (· == b)) = decide (b ∈ marksL) := by
  by_cases h : b ∈ marksL
  · rw [decide_eq_true h, List.any_eq_true]; exact ⟨b, h, by simp⟩
  · rw [decide_eq_false h, List.any_eq_false]; intro x hx hxb; rw [beq_iff_eq] at hxb; subst hxb; exact h hx
theorem ContainsMark (b : UInt8) (hb : b.toNat < 128) (v : Bool) (hv : decide (b ∈ marksL) = v) (w : World) :
    Calls Tryz.prog 128 #[.string ⟨#[59, 61, 91, 93, 40, 41, 123, 125, 43, 45, 42, 44]⟩, .int .i32 (b.toNat : Int)] w fun e w' => e = .returned (.bool v) ∧ w = w' := by
  subst hv
  have e : ((b.toNat : Int)).toNat.toUInt8 = b := by simp
  refine (ContainsRune_ascii marksB (b.toNat : Int) w (by omega) (by omega)).mono ?_
  rintro x w' ⟨rfl, rfl⟩
  rw [e, marks_any]
  exact ⟨rfl, rfl⟩
set_option maxHeartbeats 1000000 in
theorem runeKind_ascii (b : UInt8) (hb : b.toNat < 128) (w : World) :
    Calls Tryz.prog 105 #[.int .i32 (b.toNat : Int)] w fun e w' => e = .returned (.int .i64 (kind b : Int)) ∧ w = w' := by
  by_cases g : b.toNat = 32 ∨ b.toNat = 10
  · have Hk : Hid (kind b = 0) := show kind b = 0 by unfold kind; rw [if_pos g]
    rcases g with g | g
    · have g' : (b.toNat : Int) = 32 := by omega
      clear g
      go_enter Tryz.func105, Tryz.ntmps105
      go_wp2
      go_ret
      exact ⟨ret_kind (by rw [Hk.out]; rfl), rfl⟩
    · have g' : (b.toNat : Int) = 10 := by omega
      clear g
      go_enter Tryz.func105, Tryz.ntmps105
      go_wp2
      go_ret
      exact ⟨ret_kind (by rw [Hk.out]; rfl), rfl⟩
  have g1 : ((b.toNat : Int) == 32) = false := by rw [beq_eq_false_iff_ne]; omega
  have g2 : ((b.toNat : Int) == 10) = false := by rw [beq_eq_false_iff_ne]; omega
  by_cases l : 97 ≤ b.toNat ∧ b.toNat ≤ 122
  · have Hk : Hid (kind b = 1) := show kind b = 1 by unfold kind; rw [if_neg g, if_pos l]
    have l1 : 97 ≤ (b.toNat : Int) := by omega
    have l2 : (b.toNat : Int) ≤ 122 := by omega
    clear g l
    go_enter Tryz.func105, Tryz.ntmps105
    go_wp2
    go_ret
    exact ⟨ret_kind (by rw [Hk.out]; rfl), rfl⟩
  by_cases d : 48 ≤ b.toNat ∧ b.toNat ≤ 57
  · have Hk : Hid (kind b = 2) := show kind b = 2 by unfold kind; rw [if_neg g, if_neg l, if_pos d]
    have d1 : 48 ≤ (b.toNat : Int) := by omega
    have d2 : (b.toNat : Int) ≤ 57 := by omega
    clear g l d
    go_enter Tryz.func105, Tryz.ntmps105
    go_wp2
    go_ret
    exact ⟨ret_kind (by rw [Hk.out]; rfl), rfl⟩
  have Hl : Hid (¬ (97 ≤ (b.toNat : Int) ∧ (b.toNat : Int) ≤ 122)) := show ¬ (97 ≤ (b.toNat : Int) ∧ (b.toNat : Int) ≤ 122) by omega
  have Hd : Hid (¬ (48 ≤ (b.toNat : Int) ∧ (b.toNat : Int) ≤ 57)) := show ¬ (48 ≤ (b.toNat : Int) ∧ (b.toNat : Int) ≤ 57) by omega
  by_cases m : b ∈ marksL
  · have Hk : Hid (kind b = 3) := show kind b = 3 by unfold kind; rw [if_neg g, if_neg l, if_neg d, if_pos m]
    have Hm : Hid (decide (b ∈ marksL) = true) := decide_eq_true m
    clear g l d m
    go_enter Tryz.func105, Tryz.ntmps105
    go_wp2_with (go_at_call 128; refine (ContainsMark b hb true Hm.out _).mono ?_; rintro e w' ⟨rfl, rfl⟩)
    all_goals first
      | exact absurd ⟨by assumption, by assumption⟩ Hl.out
      | exact absurd ⟨by assumption, by assumption⟩ Hd.out
      | (go_ret; exact ⟨ret_kind (by rw [Hk.out]; rfl), rfl⟩)
  · have Hk : Hid (kind b = 4) := show kind b = 4 by unfold kind; rw [if_neg g, if_neg l, if_neg d, if_neg m]
    have Hm : Hid (decide (b ∈ marksL) = false) := decide_eq_false m
    clear g l d m
    go_enter Tryz.func105, Tryz.ntmps105
    go_wp2_with (go_at_call 128; refine (ContainsMark b hb false Hm.out _).mono ?_; rintro e w' ⟨rfl, rfl⟩)
    all_goals first
      | exact absurd ⟨by assumption, by assumption⟩ Hl.out
      | exact absurd ⟨by assumption, by assumption⟩ Hd.out
      | (go_ret; exact ⟨ret_kind (by rw [Hk.out]; rfl), rfl⟩)
set_option maxHeartbeats 1000000 in
theorem runeKind_high (r : Int) (h0 : 128 ≤ r) (h1 : r ≤ 1114111) (w : World) :
    Calls Tryz.prog 105 #[.int .i32 r] w fun e w' => e = .returned (.int .i64 4) ∧ Below w.heap.size w w' := by
  have g1 : (r == 32) = false := by rw [beq_eq_false_iff_ne]; omega
  have g2 : (r == 10) = false := by rw [beq_eq_false_iff_ne]; omega
  go_enter Tryz.func105, Tryz.ntmps105
  go_wp2_with (go_at_call 128; refine (ContainsRune_high marksB asc_marks (by decide) r h0 h1 _).mono ?_; rintro e w' ⟨rfl, hb⟩)
  all_goals first
    | omega
    | (go_ret; exact ⟨rfl, hb⟩)
/-- The kind of the rune that stands at a place is the kind of its first byte. -/
theorem runeKind_at (s : ByteArray) (pos : Nat) (h : pos < s.size) (w : World) :
    Calls Tryz.prog 105 #[.int .i32 ((Utf8.decode s pos).1 : Int)] w fun e w' => e = .returned (.int .i64 (kind (s[pos]'h) : Int)) ∧ Below w.heap.size w w' := by
  by_cases ha : (s[pos]'h).toNat < 128
  · rw [decode_ascii s pos h ha]
    refine (runeKind_ascii _ ha w).mono ?_
    rintro e w' ⟨rfl, rfl⟩
    exact ⟨rfl, Below.refl _ _⟩
  · have hd := (decode_high s pos h (by omega)).1
    have hm := decode_max s pos
    rw [kind_high (by omega)]
    exact runeKind_high _ (by omega) (by omega) w

/-! ### the landed code's NameOk -/
theorem isKept_is (s : ByteArray) (b : Bool) (hb : keptL.contains s.data.toList = b) (w : World) :
    Calls Tryz.prog 87 #[.string s] w fun e w' => e = .returned (.bool b) ∧ w = w' := by
  subst hb
  have hl : s.toList = s.data.toList := ByteArray.toList_eq s
  generalize s.data.toList = l at hl
  have e : keptL.contains l = ((l == [97, 114, 114, 97, 121]) || (l == [102, 111, 114]) || (l == [116, 111]) || (l == [112, 114, 105, 110, 116]) || (l == [109, 105, 110]) || (l == [109, 97, 120])) := by
    simp only [keptL, List.contains_cons, List.contains_nil, Bool.or_false, Bool.or_assoc]
  rw [e]
  clear e
  go_enter Tryz.func87, Tryz.ntmps87
  go_wp2
  all_goals
    go_ret
    refine ⟨ret_bool ?_, rfl⟩
    simp_all
set_option maxHeartbeats 1000000 in
theorem allLetters_is (s : ByteArray) (b : Bool) (hb : s.data.toList.all (fun b => kind b == 1) = b) (w : World) :
    Calls Tryz.prog 86 #[.string s] w fun e w' => e = .returned (.bool b) ∧ Below w.heap.size w w' := by
  subst hb
  go_enter Tryz.func86, Tryz.ntmps86
  go_wp2
  go_loopw [] (fun wr => ∃ pos, pos ≤ s.size ∧ wr.heap[w.heap.size]? = some (.stringIter s pos) ∧ Below w.heap.size w wr ∧ Hid (∀ j (h : j < s.size), j < pos → kind (s[j]'h) = 1)) (fun wr => s.size - wr.iterPos w.heap.size)
  case atStart => exact ⟨0, by omega, World.iter_heap w s 0, (Below.refl _ w).alloc (Nat.le_refl _) _, fun j _ h => absurd h (by omega)⟩
  case round =>
    obtain ⟨pos, hpos, hit, hbw, hall⟩ := hrel
    by_cases hp : pos < s.size
    · have hnx : ∀ ty, (Instr.next (.pointer (some ⟨w.heap.size, 0, none⟩)) true ty).run Tryz.prog wr = _ := fun ty => Lib.run_next_any_at wr w.heap.size s pos ty hit hp
      have hit2 := Lib.iterAt_heap wr w.heap.size s pos (pos + (Utf8.decode s pos).2) hit
      have hbw2 := Lib.below_iterAt hbw (k := w.heap.size) (Nat.le_refl _) s (pos + (Utf8.decode s pos).2)
      by_cases hk : kind (s[pos]'hp) = 1
      · have ha := kind_low (b := s[pos]'hp) (by omega)
        have Hd : Hid (Utf8.decode s pos = ((s[pos]'hp).toNat, 1)) := decode_ascii s pos hp ha
        have Hk : Hid (kind (s[pos]'hp) = 1) := hk
        clear hk
        go_wp2_with fail
        refine (runeKind_at s pos hp _).mono ?_
        rintro e w1 ⟨rfl, hb1⟩
        rw [Hk.out]
        go_wp2
        have hit3 : w1.heap[w.heap.size]? = some (.stringIter s (pos + 1)) := by
          have := hb1.block w.heap.size (by rw [Lib.iterAt_size]; exact (Array.getElem?_eq_some_iff.1 hit).1)
          rw [this, hit2, Hd.out]
        go_roundw
        case rel =>
          refine ⟨pos + 1, by omega, hit3, hbw2.trans (hb1.mono (by rw [Lib.iterAt_size]; exact hbw.size)), fun j hj hlt => ?_⟩
          · rcases Nat.lt_or_ge j pos with h1 | h1
            · exact hall.out j hj h1
            · have : j = pos := by omega
              subst this; exact Hk.out
        case measure =>
          simp only [World.iterPos, hit3, hit]
          omega
      · have Hf : Hid (s.data.toList.all (fun b => kind b == 1) = false) := by
          show s.data.toList.all (fun b => kind b == 1) = false
          rw [List.all_eq_false]
          exact ⟨s[pos]'hp, Array.getElem_mem_toList (xs := s.data) hp, by simpa using hk⟩
        have Hk : Hid (((kind (s[pos]'hp) : Int) == 1) = false) := show ((kind (s[pos]'hp) : Int) == 1) = false by rw [beq_eq_false_iff_ne]; omega
        clear hk
        go_wp2_with fail
        refine (runeKind_at s pos hp _).mono ?_
        rintro e w1 ⟨rfl, hb1⟩
        have hk := Hk.out
        go_wp2
        go_ret
        exact ⟨ret_bool Hf.out.symm, hbw2.trans (hb1.mono (by rw [Lib.iterAt_size]; exact hbw.size))⟩
    · have hnx : ∀ ty, (Instr.next (.pointer (some ⟨w.heap.size, 0, none⟩)) true ty).run Tryz.prog wr = _ := fun ty => Lib.run_next_end_at wr w.heap.size s pos ty hit hp
      go_wp2
      go_ret
      refine ⟨ret_bool ?_, hbw⟩
      symm
      rw [List.all_eq_true]
      intro x hx
      obtain ⟨j, hj, rfl⟩ := List.getElem_of_mem hx
      have hj' : j < s.size := by simpa using hj
      have := hall.out j hj' (by omega)
      rw [beq_iff_eq, Array.getElem_toList]; exact this
theorem nameOk_eq (l : List UInt8) : nameOk l = (decide (1 ≤ l.length) && decide (l.length ≤ 6) && l.all (fun b => kind b == 1) && !(keptL.contains l)) := rfl
set_option maxHeartbeats 1000000 in
theorem impl_NameOk (s : ByteArray) (b : Bool) (hb : nameOk s.data.toList = b) (w : World) :
    Calls Tryz.prog 60 #[.string s] w fun e w' => e = .returned (.bool b) ∧ Below w.heap.size w w' := by
  subst hb
  have hlen : s.data.toList.length = s.size := by simp
  have hl : s.toList = s.data.toList := ByteArray.toList_eq s
  by_cases h0 : s.size = 0
  · have Hn : Hid (nameOk s.data.toList = false) := show nameOk s.data.toList = false by rw [nameOk_eq, hlen, h0]; simp
    have he : (s.toList == []) = true := by rw [hl]; have : s.data.toList = [] := List.length_eq_zero_iff.1 (by omega); rw [this]; rfl
    clear h0 hlen hl
    go_enter Tryz.func60, Tryz.ntmps60
    go_wp2
    go_ret
    exact ⟨ret_bool Hn.out.symm, Below.refl _ _⟩
  have he : (s.toList == []) = false := by
    rw [hl, beq_eq_false_iff_ne]; intro e; rw [e] at hlen; exact h0 (by simpa using hlen.symm)
  by_cases h6 : s.size ≤ 6
  · have h6' : (s.size : Int) ≤ 6 := by omega
    cases ha : s.data.toList.all (fun b => kind b == 1) with
    | false =>
      have Hn : Hid (nameOk s.data.toList = false) := show nameOk s.data.toList = false by rw [nameOk_eq, ha]; simp
      have Ha := Lib.hid ha
      clear ha h0 hlen hl
      go_enter Tryz.func60, Tryz.ntmps60
      go_wp2_with (go_at_call 86; refine (allLetters_is s false Ha.out _).mono ?_; rintro e w' ⟨rfl, hb⟩)
      go_ret
      exact ⟨ret_bool Hn.out.symm, hb⟩
    | true =>
      cases hk : keptL.contains s.data.toList with
      | false =>
        have Hn : Hid (nameOk s.data.toList = true) := show nameOk s.data.toList = true by rw [nameOk_eq, ha, hk, hlen, decide_eq_true (by omega), decide_eq_true h6]; rfl
        have Ha := Lib.hid ha
        have Hk := Lib.hid hk
        clear ha hk h0 hlen hl
        go_enter Tryz.func60, Tryz.ntmps60
        go_wp2_with (first | (go_at_call 86; refine (allLetters_is s true Ha.out _).mono ?_; rintro e w' ⟨rfl, hb⟩) | (go_at_call 87; refine (isKept_is s false Hk.out _).mono ?_; rintro e w' ⟨rfl, rfl⟩))
        go_ret
        exact ⟨ret_bool Hn.out.symm, hb⟩
      | true =>
        have Hn : Hid (nameOk s.data.toList = false) := show nameOk s.data.toList = false by rw [nameOk_eq, hk]; simp
        have Ha := Lib.hid ha
        have Hk := Lib.hid hk
        clear ha hk h0 hlen hl
        go_enter Tryz.func60, Tryz.ntmps60
        go_wp2_with (first | (go_at_call 86; refine (allLetters_is s true Ha.out _).mono ?_; rintro e w' ⟨rfl, hb⟩) | (go_at_call 87; refine (isKept_is s true Hk.out _).mono ?_; rintro e w' ⟨rfl, rfl⟩))
        go_ret
        exact ⟨ret_bool Hn.out.symm, hb⟩
  · have Hn : Hid (nameOk s.data.toList = false) := show nameOk s.data.toList = false by rw [nameOk_eq, hlen, decide_eq_false h6]; simp
    have h6' : decide ((s.size : Int) ≤ 6) = false := decide_eq_false (by omega)
    clear h6 h0 hlen hl
    go_enter Tryz.func60, Tryz.ntmps60
    go_wp2
    go_ret
    exact ⟨ret_bool Hn.out.symm, Below.refl _ _⟩

/-! ### the specification's NameOk -/
theorem In_is (x a b : Int) (v : Bool) (hv : (decide (a ≤ x) && decide (x ≤ b)) = v) (w : World) : Calls Tryz.prog 66 #[.int .i64 x, .int .i64 a, .int .i64 b] w fun e w' => e = .returned (.bool v) ∧ w = w' := by
  subst hv
  by_cases h1 : a ≤ x
  · by_cases h2 : x ≤ b
    all_goals
      go_enter Tryz.func66, Tryz.ntmps66
      go_wp2
      go_ret
      exact ⟨ret_bool (by simp [h1, h2]), rfl⟩
  · go_enter Tryz.func66, Tryz.ntmps66
    go_wp2
    go_ret
    exact ⟨ret_bool (by rw [decide_eq_false (by omega : ¬ a ≤ x)]; rfl), rfl⟩
theorem kind1_iff (b : UInt8) : kind b = 1 ↔ 97 ≤ b.toNat ∧ b.toNat ≤ 122 := by
  unfold kind
  by_cases h0 : b.toNat = 32 ∨ b.toNat = 10
  · rw [if_pos h0]; omega
  · rw [if_neg h0]
    by_cases h1 : 97 ≤ b.toNat ∧ b.toNat ≤ 122
    · rw [if_pos h1]; simp [h1]
    · rw [if_neg h1]
      constructor
      · intro h; split at h
        · omega
        · split at h <;> omega
      · intro h; exact absurd h h1
theorem kind2_iff (b : UInt8) : kind b = 2 ↔ 48 ≤ b.toNat ∧ b.toNat ≤ 57 := by
  unfold kind
  by_cases h0 : b.toNat = 32 ∨ b.toNat = 10
  · rw [if_pos h0]; omega
  · rw [if_neg h0]
    by_cases h1 : 97 ≤ b.toNat ∧ b.toNat ≤ 122
    · rw [if_pos h1]; omega
    · rw [if_neg h1]
      by_cases h2 : 48 ≤ b.toNat ∧ b.toNat ≤ 57
      · rw [if_pos h2]; simp [h2]
      · rw [if_neg h2]
        constructor
        · intro h; split at h <;> omega
        · intro h; exact absurd h h2
set_option maxRecDepth 100000 in
theorem l2Small_is (b : UInt8) (v : Bool) (hv : decide (kind b = 1) = v) (w : World) : Calls Tryz.prog 94 #[.int .u8 (b.toNat : Int)] w fun e w' => e = .returned (.bool v) ∧ w = w' := by
  have Hv : Hid ((decide ((97 : Int) ≤ (b.toNat : Int)) && decide ((b.toNat : Int) ≤ 122)) = v) := show (decide ((97 : Int) ≤ (b.toNat : Int)) && decide ((b.toNat : Int) ≤ 122)) = v by
    subst hv
    by_cases h : kind b = 1
    · have := (kind1_iff b).1 h
      rw [decide_eq_true h, decide_eq_true (by omega), decide_eq_true (by omega)]; rfl
    · have : ¬ (97 ≤ b.toNat ∧ b.toNat ≤ 122) := fun x => h ((kind1_iff b).2 x)
      rw [decide_eq_false h]
      rcases Nat.lt_or_ge b.toNat 97 with h1 | h1
      · rw [decide_eq_false (by omega : ¬ (97 : Int) ≤ (b.toNat : Int))]; rfl
      · rw [decide_eq_false (by omega : ¬ (b.toNat : Int) ≤ 122), Bool.and_false]
  have hc2 : (b.toNat : Int) ≤ 255 := by have := b.toNat_lt; omega
  clear hv
  go_enter Tryz.func94, Tryz.ntmps94
  go_wp2_with fail
  refine (In_is (b.toNat : Int) 97 122 v Hv.out _).mono ?_
  rintro e w' ⟨rfl, rfl⟩
  go_wp2
  go_ret
  exact ⟨rfl, rfl⟩
set_option maxHeartbeats 1000000 in
theorem l2Has_is (lb n c : Nat) (ss : List (List UInt8)) (hn : ss.length = n) (hn1 : n ≤ 1000) (s : ByteArray) (v : Bool) (hv : ss.contains s.data.toList = v) (w : World)
    (hc : ∀ j l, ss[j]? = some l → w.cell? ⟨lb, j, Option.none⟩ = some (.string ⟨l.toArray⟩)) :
    Calls Tryz.prog 71 #[.slice (some ⟨lb, 0, Option.none⟩) n c, .string s] w fun e w' => e = .returned (.bool v) ∧ w = w' := by
  have Hv := Lib.hid hv
  have Hc := Lib.hid hc
  clear hc hv
  go_enter Tryz.func71, Tryz.ntmps71
  go_wp2
  go_loop [5] (fun i => ∃ k : Nat, k ≤ n ∧ i = .int .i64 k ∧ Hid (∀ j, j < k → ss[j]? ≠ some s.data.toList)) (fun i => n - (RowKit.intOf i).toNat)
  case atStart => exact ⟨0, by omega, rfl, fun j h => absurd h (by omega)⟩
  case round =>
    obtain ⟨k, hk, rfl, hall⟩ := hrel
    by_cases hlt : k < n
    · obtain ⟨l, hl⟩ : ∃ l, ss[k]? = some l := ⟨ss[k]'(by omega), List.getElem?_eq_getElem (by omega)⟩
      have hcell := Hc.out k l hl
      have Hl := Lib.hid hl
      clear hl
      by_cases he : l = s.data.toList
      · have hE : (l == s.toList) = true := by rw [ByteArray.toList_eq, he]; simp
        subst he
        go_wp2
        go_ret
        refine ⟨ret_bool ?_, rfl⟩
        rw [← Hv.out]; symm
        rw [List.contains_iff_mem]
        exact List.mem_of_getElem? Hl.out
      · have hE : (l == s.toList) = false := by rw [ByteArray.toList_eq, beq_eq_false_iff_ne]; exact he
        have He := Lib.hid he
        clear he
        go_wp2
        go_round
        case rel =>
          refine ⟨k + 1, by omega, by go_num, fun j hj => ?_⟩
          rcases Nat.lt_or_ge j k with h1 | h1
          · exact hall.out j h1
          · have : j = k := by omega
            subst this; rw [Hl.out]; intro e; exact He.out (Option.some.inj e)
        case measure => simp [RowKit.intOf]; omega
    · go_wp2
      go_ret
      refine ⟨ret_bool ?_, rfl⟩
      rw [← Hv.out]; symm
      rw [← Bool.not_eq_true, List.contains_iff_mem]
      intro hm
      obtain ⟨j, hj, e⟩ := List.getElem_of_mem hm
      exact hall.out j (by omega) (by rw [List.getElem?_eq_getElem hj, e])
/-- What a slice of constant strings holds when it has just been laid. -/
def strs (ss : List (List UInt8)) : List Value := ss.map fun l => .string ⟨l.toArray⟩
theorem strs_cells (w : World) (ss : List (List UInt8)) (t : TypeId) : ∀ j l, ss[j]? = some l → (w.alloc (.cells (strs ss).toArray t)).cell? ⟨w.heap.size, j, Option.none⟩ = some (.string ⟨l.toArray⟩) := by
  intro j l h
  have e : (w.alloc (.cells (strs ss).toArray t)).heap[w.heap.size]? = some (.cells (strs ss).toArray t (0, 0)) := by
    show (w.heap.push (Obj.cells (strs ss).toArray t (0, 0)))[w.heap.size]? = _
    simp
  simp only [World.cell?, e]
  simp [strs, h]
theorem l2Kept_is (s : ByteArray) (v : Bool) (hv : keptL.contains s.data.toList = v) (w : World) :
    Calls Tryz.prog 95 #[.string s] w fun e w' => e = .returned (.bool v) ∧ Below w.heap.size w w' := by
  have Hv := Lib.hid hv
  clear hv
  go_enter Tryz.func95, Tryz.ntmps95
  go_wp2_with fail
  refine (l2Has_is _ 6 _ keptL rfl (by decide) s v Hv.out _ (strs_cells w keptL _)).mono ?_
  rintro e w' ⟨rfl, rfl⟩
  go_wp2
  go_ret
  exact ⟨rfl, (Below.refl _ w).alloc (Nat.le_refl _) _⟩
set_option maxHeartbeats 1000000 in
theorem spec_NameOk (s : ByteArray) (v : Bool) (hv : nameOk s.data.toList = v) (hlim : s.size ≤ 281474976710656) (w : World) :
    Calls Tryz.prog 65 #[.string s] w fun e w' => e = .returned (.bool v) ∧ Below w.heap.size w w' := by
  have hlen : s.data.toList.length = s.size := by simp
  have Hv := Lib.hid hv
  clear hv
  go_enter Tryz.func65, Tryz.ntmps65
  go_wp2
  go_loop [3] (fun i => ∃ k : Nat, k ≤ s.size ∧ i = .int .i64 k ∧ Hid (∀ j (h : j < s.size), j < k → kind (s[j]'h) = 1)) (fun i => s.size - (RowKit.intOf i).toNat)
  case atStart => exact ⟨0, by omega, rfl, fun j _ h => absurd h (by omega)⟩
  case round =>
    obtain ⟨k, hk, rfl, hall⟩ := hrel
    by_cases hlt : k < s.size
    · by_cases hd : kind (s[k]'hlt) = 1
      · have Hd : Hid (decide (kind (s[k]'hlt) = 1) = true) := decide_eq_true hd
        have Hd1 := Lib.hid hd
        clear hd
        go_wp2_with (go_at_call 94; refine (l2Small_is (s[k]'hlt) true Hd.out _).mono ?_; rintro e w' ⟨rfl, rfl⟩)
        go_round
        case rel =>
          refine ⟨k + 1, by omega, by go_num, fun j hj hjk => ?_⟩
          rcases Nat.lt_or_ge j k with h1 | h1
          · exact hall.out j hj h1
          · have : j = k := by omega
            subst this; exact Hd1.out
        case measure => simp [RowKit.intOf]; omega
      · have Hd : Hid (decide (kind (s[k]'hlt) = 1) = false) := decide_eq_false hd
        have Hn : Hid (v = false) := show v = false by
          rw [← Hv.out, nameOk_eq]
          have : s.data.toList.all (fun b => kind b == 1) = false := by
            rw [List.all_eq_false]; exact ⟨s[k]'hlt, Array.getElem_mem_toList (xs := s.data) hlt, by simpa using hd⟩
          rw [this]; simp
        clear hd
        go_wp2_with (go_at_call 94; refine (l2Small_is (s[k]'hlt) false Hd.out _).mono ?_; rintro e w' ⟨rfl, rfl⟩)
        go_ret
        exact ⟨ret_bool Hn.out.symm, Below.refl _ _⟩
    · have Ha : Hid (s.data.toList.all (fun b => kind b == 1) = true) := show s.data.toList.all (fun b => kind b == 1) = true by
        rw [List.all_eq_true]
        intro x hx
        obtain ⟨j, hj, rfl⟩ := List.getElem_of_mem hx
        have hj' : j < s.size := by simpa using hj
        rw [beq_iff_eq, Array.getElem_toList]; exact hall.out j hj' (by omega)
      by_cases hn : 1 ≤ s.size ∧ s.size ≤ 6
      · have Hi : Hid ((decide ((1 : Int) ≤ (s.size : Int)) && decide ((s.size : Int) ≤ 6)) = true) := show (decide ((1 : Int) ≤ (s.size : Int)) && decide ((s.size : Int) ≤ 6)) = true by simp; omega
        cases hq : keptL.contains s.data.toList with
        | false =>
          have Hn : Hid (v = true) := show v = true by rw [← Hv.out, nameOk_eq, Ha.out, hq, hlen, decide_eq_true hn.1, decide_eq_true hn.2]; rfl
          have Hq := Lib.hid hq
          clear hq hn hlen
          go_wp2_with (first | (go_at_call 66; refine (In_is _ _ _ true Hi.out _).mono ?_; rintro e w' ⟨rfl, rfl⟩) | (go_at_call 95; refine (l2Kept_is s false Hq.out _).mono ?_; rintro e w' ⟨rfl, hb⟩))
          go_ret
          exact ⟨ret_bool Hn.out.symm, hb⟩
        | true =>
          have Hn : Hid (v = false) := show v = false by rw [← Hv.out, nameOk_eq, hq]; simp
          have Hq := Lib.hid hq
          clear hq hn hlen
          go_wp2_with (first | (go_at_call 66; refine (In_is _ _ _ true Hi.out _).mono ?_; rintro e w' ⟨rfl, rfl⟩) | (go_at_call 95; refine (l2Kept_is s true Hq.out _).mono ?_; rintro e w' ⟨rfl, hb⟩))
          go_ret
          exact ⟨ret_bool Hn.out.symm, hb⟩
      · have Hi : Hid ((decide ((1 : Int) ≤ (s.size : Int)) && decide ((s.size : Int) ≤ 6)) = false) := show (decide ((1 : Int) ≤ (s.size : Int)) && decide ((s.size : Int) ≤ 6)) = false by simp; omega
        have Hn : Hid (v = false) := show v = false by
          rw [← Hv.out, nameOk_eq, hlen]
          rcases Nat.lt_or_ge s.size 1 with h1 | h1
          · rw [decide_eq_false (by omega : ¬ 1 ≤ s.size)]; simp
          · rw [decide_eq_false (by omega : ¬ s.size ≤ 6)]; simp
        clear hn hlen
        go_wp2_with (go_at_call 66; refine (In_is _ _ _ false Hi.out _).mono ?_; rintro e w' ⟨rfl, rfl⟩)
        go_ret
        exact ⟨ret_bool Hn.out.symm, Below.refl _ _⟩
end Go.Proofs.YtkilmefpaojkfaaGreat
/-
  The contracts of the specification's l2Has, l4Apart, l4Arrs.
-/
namespace Go.Proofs.YtkilmefpaojkfaaGreat
open Go.RowKit Go.Lib
set_option linter.unusedSimpArgs false
set_option linter.unusedVariables false

theorem all_drop {α : Type} {p : α → Bool} {l : List α} {k : Nat} {x : α} (hx : l[k]? = some x) : (l.drop k).all p = (p x && (l.drop (k + 1)).all p) := by
  have hlt : k < l.length := (List.getElem?_eq_some_iff.1 hx).1
  rw [List.drop_eq_getElem_cons hlt, List.all_cons]
  have e : l[k] = x := (List.getElem?_eq_some_iff.1 hx).2
  rw [e]
theorem and_t {a b r : Bool} (h : (a && b) = r) (ha : a = true) : b = r := by rw [ha, Bool.true_and] at h; exact h
theorem and_f {a b r : Bool} (h : (a && b) = r) (ha : a = false) : r = false := by rw [ha, Bool.false_and] at h; exact h.symm
theorem all_end {α : Type} {p : α → Bool} {l : List α} {k : Nat} {r : Bool} (h : (l.drop k).all p = r) (hk : l.length ≤ k) : r = true := by rw [List.drop_of_length_le hk] at h; exact h.symm
theorem not_false {b : Bool} (h : (!b) = false) : b = true := by cases b <;> simp_all
theorem not_true' {b : Bool} (h : (!b) = true) : b = false := by cases b <;> simp_all
theorem TV.cells {w : World} {v : Value} {ns : List ByteArray} (h : TV w 0 v ns) {k : Nat} {x : ByteArray} (hx : ns[k]? = some x) : ∃ g off c, v = .slice (some ⟨g, off, Option.none⟩) ns.length c ∧ w.cell? ⟨g, off + k, Option.none⟩ = some (.string x) := by
  obtain ⟨ao, cap, rfl, h⟩ := h
  rcases h with h | ⟨g, off, rfl, _, _, h⟩
  · subst h; simp at hx
  · exact ⟨g, off, cap, rfl, h k x hx⟩
set_option maxHeartbeats 1000000 in
theorem has_is (ns : List ByteArray) (hn : ns.length ≤ 10000000) (s : ByteArray) (b : Bool) (hb : ns.all (fun t => !decide (t = s)) = !b) (v : Value) (w : World) (hv : TV w 0 v ns) :
    Calls Tryz.prog 71 #[v, .string s] w fun e w' => e = .returned (.bool b) ∧ w = w' := by
  have Hv := Lib.hid hv
  obtain ⟨ao, cap, rfl⟩ := hv.shape
  have Hb : Hid ((ns.drop 0).all (fun t => !decide (t = s)) = !b) := by rw [List.drop_zero]; exact hb
  clear hv hb
  go_enter Tryz.func71, Tryz.ntmps71
  go_wp2
  go_loop [5] (fun i => ∃ k : Nat, k ≤ ns.length ∧ i = .int .i64 k ∧ Hid ((ns.drop k).all (fun t => !decide (t = s)) = !b)) (fun i => ns.length - (RowKit.intOf i).toNat)
  case atStart => exact ⟨0, by omega, rfl, Hb⟩
  case round =>
    obtain ⟨k, hk, rfl, hall⟩ := hrel
    clear Hb
    by_cases hlt : k < ns.length
    · have hltI : (k : Int) < (ns.length : Int) := by omega
      obtain ⟨x, hx⟩ : ∃ x, ns[k]? = some x := ⟨ns[k], List.getElem?_eq_getElem hlt⟩
      obtain ⟨g, off, c, hvv, hcell⟩ := Hv.out.cells hx
      injection hvv with e1 e2 e3
      subst e1
      have hd : Hid ((!decide (x = s) && (ns.drop (k + 1)).all (fun t => !decide (t = s))) = !b) := by rw [← all_drop (p := fun t => !decide (t = s)) hx]; exact hall.out
      clear hx hall Hv e2 e3
      by_cases he : x = s
      · have h1 := Lib.hid (not_false (and_f hd.out (by rw [decide_eq_true he]; rfl)))
        subst he
        clear hd
        go_wp2
        go_ret
        exact ⟨ret_bool h1.out.symm, rfl⟩
      · have h1 := Lib.hid (and_t hd.out (by rw [decide_eq_false he]; rfl))
        have hne := str_ne he
        clear hd
        go_wp2
        go_round
        case rel => exact ⟨k + 1, by omega, by go_num, h1⟩
        case measure => simp [RowKit.intOf]; omega
    · have h1 := Lib.hid (not_true' (all_end hall.out (by omega)))
      go_wp2
      go_ret
      exact ⟨ret_bool h1.out.symm, rfl⟩
/-- Two lists have nothing in common. -/
def apart (a b : List ByteArray) : Bool := a.all (fun s => b.all (fun t => !decide (t = s)))
set_option maxHeartbeats 1000000 in
theorem l4Apart_is (xs bs : List ByteArray) (hna : xs.length ≤ 10000000) (hnb : bs.length ≤ 10000000) (r : Bool) (hr : apart xs bs = r) (va vb : Value) (w : World) (ha : TV w 0 va xs) (hb : TV w 0 vb bs) :
    Calls Tryz.prog 44 #[va, vb] w fun e w' => e = .returned (.bool r) ∧ w = w' := by
  have Hv := Lib.hid ha
  have Hw := Lib.hid hb
  obtain ⟨ao, cap, rfl⟩ := ha.shape
  obtain ⟨bo, bcap, rfl⟩ := hb.shape
  have Hr : Hid ((xs.drop 0).all (fun s => bs.all (fun t => !decide (t = s))) = r) := by rw [List.drop_zero]; exact hr
  clear ha hb hr
  go_enter Tryz.func44, Tryz.ntmps44
  go_wp2
  go_loop [5] (fun i => ∃ k : Nat, k ≤ xs.length ∧ i = .int .i64 k ∧ Hid ((xs.drop k).all (fun s => bs.all (fun t => !decide (t = s))) = r)) (fun i => xs.length - (RowKit.intOf i).toNat)
  case atStart => exact ⟨0, by omega, rfl, Hr⟩
  case round =>
    obtain ⟨k, hk, rfl, hall⟩ := hrel
    clear Hr
    by_cases hlt : k < xs.length
    · have hltI : (k : Int) < (xs.length : Int) := by omega
      obtain ⟨x, hx⟩ : ∃ x, xs[k]? = some x := ⟨xs[k], List.getElem?_eq_getElem hlt⟩
      obtain ⟨g, off, c, hvv, hcell⟩ := Hv.out.cells hx
      injection hvv with e1 e2 e3
      subst e1
      have hd : Hid ((bs.all (fun t => !decide (t = x)) && (xs.drop (k + 1)).all (fun s => bs.all (fun t => !decide (t = s)))) = r) := by rw [← all_drop (p := fun s => bs.all (fun t => !decide (t = s))) hx]; exact hall.out
      clear hx hall Hv e2 e3
      cases hq : bs.all (fun t => !decide (t = x)) with
      | false =>
        have h1 := Lib.hid (and_f hd.out hq)
        have C := Lib.hid (has_is bs hnb x true (by rw [hq]; rfl) _ w Hw.out)
        clear hd hq
        go_wp2_with fail
        refine C.out.mono ?_
        rintro e w' ⟨rfl, rfl⟩
        go_wp2
        go_ret
        exact ⟨ret_bool h1.out.symm, rfl⟩
      | true =>
        have h1 := Lib.hid (and_t hd.out hq)
        have C := Lib.hid (has_is bs hnb x false (by rw [hq]; rfl) _ w Hw.out)
        clear hd hq
        go_wp2_with fail
        refine C.out.mono ?_
        rintro e w' ⟨rfl, rfl⟩
        go_wp2
        go_round
        case rel => exact ⟨k + 1, by omega, by go_num, h1⟩
        case measure => simp [RowKit.intOf]; omega
    · have h1 := Lib.hid (all_end hall.out (by omega))
      go_wp2
      go_ret
      exact ⟨ret_bool h1.out.symm, rfl⟩
/-- Each of these is an array. -/
def allArrs (ts : List AR) (ns : List ByteArray) : Bool := ns.all (fun s => decide (0 ≤ arrGo ts 0 s))
set_option maxHeartbeats 2000000 in
set_option maxRecDepth 100000 in
theorem l4Arrs_is (ts : List AR) (hn : ts.length ≤ 1048576) (ns : List ByteArray) (hnn : ns.length ≤ 10000000) (r : Bool) (hr : allArrs ts ns = r) (va vb vl : Value) (hvb : vb.oneCell' = true) (w : World) (ha : AV w 0 va ts) (hl : TV w 0 vl ns) :
    Calls Tryz.prog 42 #[.agg #[va, vb], vl] w fun e w' => e = .returned (.bool r) ∧ Below w.heap.size w w' := by
  have Hv := Lib.hid hl
  have Ha := Lib.hid ha
  obtain ⟨ao, cap, rfl⟩ := ha.shape
  obtain ⟨lo, lcap, rfl⟩ := hl.shape
  have B := Lib.hid (alloc_below w (.cells #[.slice ao ts.length cap, vb] 27))
  have R : Hid ((w.alloc (.cells #[.slice ao ts.length cap, vb] 27)).rangeAt w.heap.size 0 [.slice ao ts.length cap, vb]) := blk_range (arr := #[.slice ao ts.length cap, vb]) (heap_last _ _)
  have Hr : Hid ((ns.drop 0).all (fun s => decide (0 ≤ arrGo ts 0 s)) = r) := by rw [List.drop_zero]; exact hr
  clear ha hl hr
  go_enter Tryz.func42, Tryz.ntmps42
  go_wp2
  go_loopw [5] (fun i wr => ∃ k : Nat, k ≤ ns.length ∧ i = .int .i64 k ∧ Hid ((ns.drop k).all (fun s => decide (0 ≤ arrGo ts 0 s)) = r) ∧ Hid (Below w.heap.size w wr) ∧ Hid (wr.rangeAt w.heap.size 0 [.slice ao ts.length cap, vb])) (fun i _ => ns.length - (RowKit.intOf i).toNat)
  case atStart => exact ⟨0, by omega, rfl, Hr, B, R⟩
  case round =>
    obtain ⟨k, hk, rfl, hall, hbr, hrg⟩ := hrel
    clear Hr B R
    by_cases hlt : k < ns.length
    · have hltI : (k : Int) < (ns.length : Int) := by omega
      obtain ⟨x, hx⟩ : ∃ x, ns[k]? = some x := ⟨ns[k], List.getElem?_eq_getElem hlt⟩
      obtain ⟨g, off, c, hvv, hcell⟩ := (Hv.out.later hbr.out).cells hx
      injection hvv with e1 e2 e3
      subst e1
      have hd : Hid ((decide (0 ≤ arrGo ts 0 x) && (ns.drop (k + 1)).all (fun s => decide (0 ≤ arrGo ts 0 s))) = r) := by rw [← all_drop (p := fun s => decide (0 ≤ arrGo ts 0 s)) hx]; exact hall.out
      have Hcell := Lib.hid hcell
      clear hx hall Hv e2 e3 hcell
      have bd : Below wr.heap.size wr wr.drew := (Below.refl _ wr).drew
      have CA : Hid (∀ (w2 : World), Below wr.heap.size wr w2 → Calls Tryz.prog 14 #[.agg #[.slice ao ts.length cap, vb], .string x] w2 fun e w' => e = .returned (.int .i64 (arrGo ts 0 x)) ∧ Below w2.heap.size w2 w') := fun w2 hb2 => spec_ArrAt ts hn x _ _ hvb w2 ((Ha.out.later hbr.out).later hb2)
      clear Ha
      by_cases hge : 0 ≤ arrGo ts 0 x
      · have h1 := Lib.hid (and_t hd.out (decide_eq_true hge))
        have hge' : ¬ arrGo ts 0 x < 0 := by omega
        clear hd
        go_wp2_with fail
        refine wp_region_held_drew (S := fun w' => w'.rangeAt w.heap.size 0 [.slice ao ts.length cap, vb] ∧ w'.cell? ⟨g, off + k, Option.none⟩ = some (.string x)) (by kernel_rfl) ⟨(World.rangeAt_drew _ _ _ _).2 hrg.out, keeps bd Hcell.out⟩ (fun hHeld => ?_)
        refine wpAnyH_take (i := 0) (v := .agg ([.slice ao ts.length cap, vb]).toArray) rfl (by kernel_rfl) (by kernel_rfl) (by kernel_rfl) (fun _ _ _ h => h) (yieldsIf_load_mid (by rfl) 27 _ rfl (w.heap.size) (0) rfl ([.slice ao ts.length cap, vb]) _ (fun w h => h.1) Tryz.underlying27 rfl sizeIP) hHeld ?_
        simp only [Act.put, List.getElem_toArray, List.getElem_cons_succ, List.getElem_cons_zero, List.setIfInBounds_toArray, List.set_cons_zero, List.set_cons_succ]
        refine wpAnyH_take (i := 1) (v := .slice (some ⟨g, off, Option.none⟩) ns.length lcap) rfl (by kernel_rfl) (by kernel_rfl) (by kernel_rfl) (fun _ _ _ h => h) (Or.inl ⟨by rfl, ?ya1⟩) hHeld ?_
        case ya1 => intro w hSw; go_simp
        simp only [Act.put, List.getElem_toArray, List.getElem_cons_succ, List.getElem_cons_zero, List.setIfInBounds_toArray, List.set_cons_zero, List.set_cons_succ]
        refine wpAnyH_take (i := 2) (v := .int .i64 (k : Int)) rfl (by kernel_rfl) (by kernel_rfl) (by kernel_rfl) (fun _ _ _ h => h) (Or.inl ⟨by rfl, ?ya2⟩) hHeld ?_
        case ya2 => intro w hSw; go_simp
        simp only [Act.put, List.getElem_toArray, List.getElem_cons_succ, List.getElem_cons_zero, List.setIfInBounds_toArray, List.set_cons_zero, List.set_cons_succ]
        refine wpAnyH_take (i := 3) (v := .pointer (some ⟨g, off + k, Option.none⟩)) rfl (by kernel_rfl) (by kernel_rfl) (by kernel_rfl) (fun _ _ _ h => h) (Or.inl ⟨by rfl, ?ya3⟩) hHeld ?_
        case ya3 => intro w hSw; go_simp
        simp only [Act.put, List.getElem_toArray, List.getElem_cons_succ, List.getElem_cons_zero, List.setIfInBounds_toArray, List.set_cons_zero, List.set_cons_succ]
        refine wpAnyH_take (i := 4) (v := .string x) rfl (by kernel_rfl) (by kernel_rfl) (by kernel_rfl) (fun _ _ _ h => h) (Or.inl ⟨by rfl, ?ya4⟩) hHeld ?_
        case ya4 => intro w hSw; have q := hSw.2; go_simp
        simp only [Act.put, List.getElem_toArray, List.getElem_cons_succ, List.getElem_cons_zero, List.setIfInBounds_toArray, List.set_cons_zero, List.set_cons_succ]
        refine wpAnyH_ready (rs := [5]) (by kernel_rfl) (by simp) ?_
        refine AllReadyH.cons rfl (fun K hK => ?_) AllReadyH.nil
        rw [if_pos (by rfl)]
        simp only [List.getElem_toArray, List.getElem_cons_succ, List.getElem_cons_zero]
        go_wp2_with fail
        refine (CA.out _ bd).mono ?_
        rintro e w4 ⟨rfl, hb4⟩
        go_wp2_with fail
        refine hK.out _ _ (⟨rangeAt_later hHeld.1 hb4, keeps hb4 hHeld.2⟩) (fun hHeld => ?_)
        refine wpAnyH_take (i := 6) (v := .bool false) rfl (by kernel_rfl) (by kernel_rfl) (by kernel_rfl) (fun _ _ _ h => h) (Or.inl ⟨by rfl, ?ya6⟩) hHeld ?_
        case ya6 => intro w hSw; go_simp
        simp only [Act.put, List.getElem_toArray, List.getElem_cons_succ, List.getElem_cons_zero, List.setIfInBounds_toArray, List.set_cons_zero, List.set_cons_succ]
        refine wpAnyH_done (by kernel_rfl) ?_ _
        have B4 := Lib.hid (hbr.out.trans ((bd.trans (hb4.mono bd.size)).mono hbr.out.size))
        have R4 := Lib.hid hHeld.1
        clear hHeld hb4 bd Hcell hrg hbr
        go_wp2
        go_roundw
        case rel => exact ⟨k + 1, by omega, by go_num, h1, B4, R4⟩
        case measure => simp [RowKit.intOf]; omega
      · have h1 := Lib.hid (and_f hd.out (decide_eq_false hge))
        have hge' : arrGo ts 0 x < 0 := by omega
        clear hd
        go_wp2_with fail
        refine wp_region_held_drew (S := fun w' => w'.rangeAt w.heap.size 0 [.slice ao ts.length cap, vb] ∧ w'.cell? ⟨g, off + k, Option.none⟩ = some (.string x)) (by kernel_rfl) ⟨(World.rangeAt_drew _ _ _ _).2 hrg.out, keeps bd Hcell.out⟩ (fun hHeld => ?_)
        refine wpAnyH_take (i := 0) (v := .agg ([.slice ao ts.length cap, vb]).toArray) rfl (by kernel_rfl) (by kernel_rfl) (by kernel_rfl) (fun _ _ _ h => h) (yieldsIf_load_mid (by rfl) 27 _ rfl (w.heap.size) (0) rfl ([.slice ao ts.length cap, vb]) _ (fun w h => h.1) Tryz.underlying27 rfl sizeIP) hHeld ?_
        simp only [Act.put, List.getElem_toArray, List.getElem_cons_succ, List.getElem_cons_zero, List.setIfInBounds_toArray, List.set_cons_zero, List.set_cons_succ]
        refine wpAnyH_take (i := 1) (v := .slice (some ⟨g, off, Option.none⟩) ns.length lcap) rfl (by kernel_rfl) (by kernel_rfl) (by kernel_rfl) (fun _ _ _ h => h) (Or.inl ⟨by rfl, ?yb1⟩) hHeld ?_
        case yb1 => intro w hSw; go_simp
        simp only [Act.put, List.getElem_toArray, List.getElem_cons_succ, List.getElem_cons_zero, List.setIfInBounds_toArray, List.set_cons_zero, List.set_cons_succ]
        refine wpAnyH_take (i := 2) (v := .int .i64 (k : Int)) rfl (by kernel_rfl) (by kernel_rfl) (by kernel_rfl) (fun _ _ _ h => h) (Or.inl ⟨by rfl, ?yb2⟩) hHeld ?_
        case yb2 => intro w hSw; go_simp
        simp only [Act.put, List.getElem_toArray, List.getElem_cons_succ, List.getElem_cons_zero, List.setIfInBounds_toArray, List.set_cons_zero, List.set_cons_succ]
        refine wpAnyH_take (i := 3) (v := .pointer (some ⟨g, off + k, Option.none⟩)) rfl (by kernel_rfl) (by kernel_rfl) (by kernel_rfl) (fun _ _ _ h => h) (Or.inl ⟨by rfl, ?yb3⟩) hHeld ?_
        case yb3 => intro w hSw; go_simp
        simp only [Act.put, List.getElem_toArray, List.getElem_cons_succ, List.getElem_cons_zero, List.setIfInBounds_toArray, List.set_cons_zero, List.set_cons_succ]
        refine wpAnyH_take (i := 4) (v := .string x) rfl (by kernel_rfl) (by kernel_rfl) (by kernel_rfl) (fun _ _ _ h => h) (Or.inl ⟨by rfl, ?yb4⟩) hHeld ?_
        case yb4 => intro w hSw; have q := hSw.2; go_simp
        simp only [Act.put, List.getElem_toArray, List.getElem_cons_succ, List.getElem_cons_zero, List.setIfInBounds_toArray, List.set_cons_zero, List.set_cons_succ]
        refine wpAnyH_ready (rs := [5]) (by kernel_rfl) (by simp) ?_
        refine AllReadyH.cons rfl (fun K hK => ?_) AllReadyH.nil
        rw [if_pos (by rfl)]
        simp only [List.getElem_toArray, List.getElem_cons_succ, List.getElem_cons_zero]
        go_wp2_with fail
        refine (CA.out _ bd).mono ?_
        rintro e w4 ⟨rfl, hb4⟩
        go_wp2_with fail
        refine hK.out _ _ (⟨rangeAt_later hHeld.1 hb4, keeps hb4 hHeld.2⟩) (fun hHeld => ?_)
        refine wpAnyH_take (i := 6) (v := .bool true) rfl (by kernel_rfl) (by kernel_rfl) (by kernel_rfl) (fun _ _ _ h => h) (Or.inl ⟨by rfl, ?yb6⟩) hHeld ?_
        case yb6 => intro w hSw; go_simp
        simp only [Act.put, List.getElem_toArray, List.getElem_cons_succ, List.getElem_cons_zero, List.setIfInBounds_toArray, List.set_cons_zero, List.set_cons_succ]
        refine wpAnyH_done (by kernel_rfl) ?_ _
        have B4 := Lib.hid (hbr.out.trans ((bd.trans (hb4.mono bd.size)).mono hbr.out.size))
        have R4 := Lib.hid hHeld.1
        clear hHeld hb4 bd Hcell hrg hbr
        go_wp2
        go_ret
        exact ⟨ret_bool h1.out.symm, B4.out⟩
    · have h1 := Lib.hid (all_end hall.out (by omega))
      go_wp2
      go_ret
      exact ⟨ret_bool h1.out.symm, hbr.out⟩
end Go.Proofs.YtkilmefpaojkfaaGreat
/-
  The contracts of sameTop, partsOf.
-/
namespace Go.Proofs.YtkilmefpaojkfaaGreat
open Go.RowKit Go.Lib
set_option linter.unusedSimpArgs false
set_option linter.unusedVariables false

set_option maxHeartbeats 1000000 in
set_option maxRecDepth 100000 in
theorem sameTop_is (x y : X) (va vb : Value) (w : World) :
    Calls Tryz.prog 130 #[.agg (xcells x va).toArray, .agg (xcells y vb).toArray] w fun e w' => e = .returned (.bool (hsame x.h y.h)) ∧ Below w.heap.size w w' := by
  obtain ⟨⟨xk, xn, xs⟩, xl⟩ := x
  obtain ⟨⟨yk, yn, ys⟩, yl⟩ := y
  show Calls Tryz.prog 130 #[.agg #[.int .i64 xk, .int .i64 xn, .string xs, va], .agg #[.int .i64 yk, .int .i64 yn, .string ys, vb]] w _
  have hB : Hid (∀ a b, Below w.heap.size w ((w.alloc a).alloc b)) := fun a b => (alloc_below w a).alloc (by simp) b
  by_cases hk : xk = yk
  case neg =>
    have hf : Hid (hsame ⟨xk, xn, xs⟩ ⟨yk, yn, ys⟩ = false) := show hsame _ _ = false by simp [hsame, hk]
    have h1 := int_ne hk
    go_enter Tryz.func130, Tryz.ntmps130
    go_wp2
    go_ret
    exact retB hf.out (hB.out _ _)
  by_cases hn : xn = yn
  case neg =>
    have hf : Hid (hsame ⟨xk, xn, xs⟩ ⟨yk, yn, ys⟩ = false) := show hsame _ _ = false by simp [hsame, hn]
    have h1 := int_ne hn
    subst hk
    go_enter Tryz.func130, Tryz.ntmps130
    go_wp2
    go_ret
    exact retB hf.out (hB.out _ _)
  by_cases hs : xs = ys
  case neg =>
    have hf : Hid (hsame ⟨xk, xn, xs⟩ ⟨yk, yn, ys⟩ = false) := show hsame _ _ = false by simp [hsame, hs]
    have h1 := str_ne hs
    subst hk
    subst hn
    clear hs
    go_enter Tryz.func130, Tryz.ntmps130
    go_wp2
    go_ret
    exact retB hf.out (hB.out _ _)
  subst hk
  subst hn
  subst hs
  have hf : Hid (hsame ⟨xk, xn, xs⟩ ⟨xk, xn, xs⟩ = true) := show hsame _ _ = true by simp [hsame]
  go_enter Tryz.func130, Tryz.ntmps130
  go_wp2
  go_ret
  exact retB hf.out (hB.out _ _)
end Go.Proofs.YtkilmefpaojkfaaGreat
