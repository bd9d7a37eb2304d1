/-
  Plain facts on numbers and their digits: no Go in sight.
-/
import Derived.RowKit
import Derived.Lib.Atoi
import Derived.Lib.AtoiAll
import Derived.Lib.AtoiAllCases
import Derived.Lib.AtoiTie
import Derived.Lib.ItoaNum
import Derived.Lib.ItoaMem
namespace Go.Proofs.Ytjdpddcnogdekab
open Go.Lib Go.RowKit

/-! ### words that go round -/
theorem wrap32_bd (n : Int) : -2147483648 ≤ wrap32 n ∧ wrap32 n ≤ 2147483647 := by unfold wrap32; omega
theorem wrap32_id (n : Int) (h0 : -2147483648 ≤ n) (h1 : n ≤ 2147483647) : wrap32 n = n := by unfold wrap32; omega
theorem mul_bd (a b : Int) (ha0 : -2147483648 ≤ a) (ha : a ≤ 2147483647) (hb0 : -2147483648 ≤ b) (hb : b ≤ 2147483647) : -9223372036854775808 ≤ a * b ∧ a * b ≤ 9223372036854775807 := by
  have h1 : a.natAbs ≤ 2147483648 := by omega
  have h2 : b.natAbs ≤ 2147483648 := by omega
  have h3 : (a * b).natAbs ≤ 2147483648 * 2147483648 := by rw [Int.natAbs_mul]; exact Nat.mul_le_mul h1 h2
  omega

/-! ### the greatest that divides both -/
theorem gcd_step (x y : Int) : Int.gcd y (x.tmod y) = Int.gcd x y := by
  rw [Int.gcd_comm x y]
  simp only [Int.gcd, Int.natAbs_tmod]
  rw [Nat.gcd_comm, ← Nat.gcd_rec]
theorem gcd_zero (x : Int) : (Int.gcd x 0 : Int) = if x < 0 then -x else x := by
  simp
  split <;> omega
theorem tmod_lt (x y : Int) (h : y ≠ 0) : (x.tmod y).natAbs < y.natAbs := by
  rw [Int.natAbs_tmod]
  exact Nat.mod_lt _ (by omega)
theorem gcd_dvd_tmod (x y : Int) : x.tmod (Int.gcd x y) = 0 ∧ y.tmod (Int.gcd x y) = 0 :=
  ⟨Int.tmod_eq_zero_of_dvd (Int.gcd_dvd_left ..), Int.tmod_eq_zero_of_dvd (Int.gcd_dvd_right ..)⟩
theorem gcd_none {x y : Int} (h : Int.gcd x y = 0) : x = 0 ∧ y = 0 := Int.gcd_eq_zero_iff.1 h
theorem gcd_le (x y : Int) (h0 : -2147483648 ≤ x) (h1 : x ≤ 2147483647) (h2 : -2147483648 ≤ y) (h3 : y ≤ 2147483647) : (Int.gcd x y : Int) ≤ 2147483648 := by
  by_cases hx : x = 0
  · subst hx; rw [Int.gcd_comm, gcd_zero]; split <;> omega
  · have := Nat.le_of_dvd (by omega) (Nat.gcd_dvd_left x.natAbs y.natAbs)
    have e : Int.gcd x y = Nat.gcd x.natAbs y.natAbs := rfl
    omega

/-! ### the digits, from the last one on -/
theorem decDigits_last (u : Nat) : decDigits u = (if u / 10 = 0 then [] else decDigits (u / 10)) ++ [UInt8.ofNat (48 + u % 10)] := by
  by_cases h : u < 10
  · rw [decDigits, dif_pos h, if_pos (by omega), Nat.mod_eq_of_lt h]; rfl
  · rw [decDigits, dif_neg h, if_neg (by omega)]
/-- What is left to be written of n's digits, and what has been: together they are the digits. -/
def Digs (n u : Nat) (t : List UInt8) : Prop := decDigits n = (if u = 0 then [] else decDigits u) ++ t
theorem digs_start (n : Nat) (h : 1 ≤ n) : Digs n n [] := by unfold Digs; rw [if_neg (by omega)]; simp
theorem digs_step {n u : Nat} {t : List UInt8} (h : Digs n u t) (hu : u ≠ 0) : Digs n (u / 10) (UInt8.ofNat (48 + u % 10) :: t) := by
  unfold Digs at h ⊢
  rw [if_neg hu, decDigits_last u] at h
  rw [h]; simp
theorem digs_end {n : Nat} {t : List UInt8} (h : Digs n 0 t) : decDigits n = t := by
  unfold Digs at h; simpa using h


theorem head_append {a : List UInt8} (b : List UInt8) (h : a ≠ []) : (a ++ b).head? = a.head? := by
  cases a with
  | nil => exact absurd rfl h
  | cons _ _ => rfl

theorem decFrom_append : ∀ (a b : List UInt8) (acc : Nat), decFrom acc (a ++ b) = (decFrom acc a).bind fun n => decFrom n b
  | [], b, acc => by simp [decFrom]
  | c :: r, b, acc => by
    simp only [List.cons_append, decFrom]
    cases digitVal c with
    | none => simp
    | some d => simpa using decFrom_append r b _

theorem digitVal_of (d : Nat) (h : d < 10) : digitVal (UInt8.ofNat (48 + d)) = some d := by
  have : (UInt8.ofNat (48 + d)).toNat = 48 + d := by simp; omega
  unfold digitVal
  rw [if_pos (by omega), this]
  simp

theorem byte_of_digit {b : UInt8} {d : Nat} (h : digitVal b = some d) : b = UInt8.ofNat (48 + d) ∧ d < 10 := by
  obtain ⟨h1, h2, h3⟩ := digitVal_eq h
  refine ⟨?_, by omega⟩
  apply UInt8.toNat_inj.1
  simp
  omega

/-- The digits of u spell u. -/
theorem decFrom_decDigits (u : Nat) : decFrom 0 (decDigits u) = some u := by
  induction u using Nat.strongRecOn with
  | _ u ih =>
    by_cases h : u < 10
    · rw [decDigits, dif_pos h]
      simp only [decFrom, digitVal_of u h]
      simp
    · rw [decDigits, dif_neg h, decFrom_append, ih (u / 10) (by omega)]
      simp only [Option.bind_some, decFrom, digitVal_of (u % 10) (by omega)]
      simp
      omega

theorem decDigits_ne (u : Nat) : decDigits u ≠ [] := by
  rw [decDigits]
  split <;> simp

/-- No needless nought stands ahead of u's digits. -/
theorem decDigits_head (u : Nat) (h : 1 ≤ u) : (decDigits u).head? ≠ some 48 := by
  induction u using Nat.strongRecOn with
  | _ u ih =>
    by_cases h10 : u < 10
    · rw [decDigits, dif_pos h10]
      simp only [List.head?_cons]
      intro he
      have he := Option.some.inj he
      have : (UInt8.ofNat (48 + u)).toNat = 48 := by rw [he]; rfl
      simp at this
      omega
    · rw [decDigits, dif_neg h10, head_append _ (decDigits_ne _)]
      exact ih _ (by omega) (by omega)

theorem nDigits_le10 (u : Nat) (h : u < 10000000000) : nDigits u ≤ 10 := by
  have step : ∀ k v, v < 10 ^ k → 1 ≤ k → nDigits v ≤ k := by
    intro k
    induction k with
    | zero => intro v _ h; omega
    | succ k ih =>
      intro v hv _
      rw [nDigits]
      split
      · omega
      · rename_i h10
        have : v / 10 < 10 ^ k := by rw [Nat.pow_succ] at hv; omega
        have hk : 1 ≤ k := by
          rcases k with _ | k
          · simp at this; omega
          · omega
        have := ih _ this hk
        omega
  exact step 10 u (by simpa using h) (by omega)

/-- A row of digits without a needless nought ahead is the digits of what it spells. -/
theorem decDigits_of (l : List UInt8) : ∀ u, decFrom 0 l = some u → l ≠ [] → (l.length > 1 → l.head? ≠ some 48) → l = decDigits u := by
  induction hn : l.length generalizing l with
  | zero => intro u _ h; exact absurd (List.length_eq_zero_iff.1 hn) h
  | succ n ih =>
    intro u hu hne hh
    obtain ⟨r, b, rfl⟩ : ∃ r b, l = r ++ [b] := ⟨l.dropLast, l.getLast hne, (List.dropLast_concat_getLast hne).symm⟩
    rw [decFrom_append] at hu
    cases hr : decFrom 0 r with
    | none => simp [hr] at hu
    | some v =>
      simp only [hr, Option.bind_some, decFrom] at hu
      cases hb : digitVal b with
      | none => simp [hb] at hu
      | some d =>
        simp only [hb, Option.some.injEq] at hu
        obtain ⟨rfl, hd⟩ := byte_of_digit hb
        by_cases hre : r = []
        · subst hre
          simp [decFrom] at hr
          subst hr
          rw [decDigits, dif_pos (by omega)]
          simp at hu ⊢
          rw [hu]
        · have hlen : r.length = n := by simpa using hn
          have hr1 : 1 ≤ r.length := by cases r with | nil => exact absurd rfl hre | cons _ _ => simp
          have hhd : (r ++ [UInt8.ofNat (48 + d)]).head? = r.head? := head_append _ hre
          have h48 : r.head? ≠ some 48 := by rw [← hhd]; exact hh (by simp; omega)
          have er := ih r hlen v hr hre (fun _ => h48)
          have hv : 1 ≤ v := by
            rcases Nat.eq_zero_or_pos v with h0 | h0
            · subst h0
              rw [decDigits, dif_pos (by omega)] at er
              rw [er] at h48
              exact absurd rfl h48
            · exact h0
          rw [decDigits, dif_neg (by omega), er]
          congr 1
          · congr 1; omega
          · congr 2; omega

/-- ParseNum as the document has it: the digits of a word that is not below 0, and nothing else. -/
def parseNum (l : List UInt8) : Option Nat :=
  match decFrom 0 l with
  | some u => if u ≤ 2147483647 ∧ l = decDigits u then some u else none
  | none => none

theorem parseNum_some {l : List UInt8} {u : Nat} : parseNum l = some u ↔ u ≤ 2147483647 ∧ l = decDigits u := by
  unfold parseNum
  constructor
  · intro h
    split at h
    · split at h
      · rename_i hx; injection h with h; subst h; exact hx
      · cases h
    · cases h
  · rintro ⟨h, rfl⟩
    simp [decFrom_decDigits, h]

theorem atoiAll_decDigits (u : Nat) (h : u ≤ 2147483647) : atoiAll (decDigits u) = .ok (u : Int) := by
  have hl : (decDigits u).length ≤ 18 := by rw [decDigits_length]; have := nDigits_le10 u (by omega); omega
  rw [atoiAll_short _ hl]
  have hd := decFrom_decDigits u
  cases hdd : decDigits u with
  | nil => exact absurd hdd (decDigits_ne u)
  | cons b r =>
    rw [hdd] at hd
    obtain ⟨d, hb⟩ := digit_of_decFrom _ _ _ hd 0 b (by simp)
    obtain ⟨h1, h2, _⟩ := digitVal_eq hb
    have n1 : (b == 45) = false := by rw [beq_eq_false_iff_ne]; intro e; rw [e] at h1; exact absurd h1 (by decide)
    have n2 : (b == 43) = false := by rw [beq_eq_false_iff_ne]; intro e; rw [e] at h1; exact absurd h1 (by decide)
    simp only [atoi, n1, n2, decNat, hd]
    simp [NumEnd.ofOption]

/-- What the landed code tests behind Atoi, and what it then answers, is parseNum. -/
theorem impl_some {l : List UInt8} {v : Int} (h : atoiAll l = .ok v) (h0 : 0 ≤ v) (h1 : v ≤ 2147483647) (h2 : l = itoa v) : parseNum l = some v.toNat := by
  obtain ⟨u, rfl⟩ := Int.eq_ofNat_of_zero_le h0
  rw [itoa_nonneg] at h2
  exact parseNum_some.2 ⟨by simp; omega, by simpa using h2⟩

theorem impl_none {l : List UInt8} (h : ∀ v, atoiAll l = .ok v → 0 ≤ v → v ≤ 2147483647 → l ≠ itoa v) : parseNum l = none := by
  cases hp : parseNum l with
  | none => rfl
  | some u =>
    obtain ⟨h1, rfl⟩ := parseNum_some.1 hp
    exact absurd (itoa_nonneg u).symm (h u (atoiAll_decDigits u h1) (by omega) (by omega))

/-- What the specification tests is parseNum. -/
theorem spec_some {l : List UInt8} {u : Nat} (h : decFrom 0 l = some u) (h1 : 1 ≤ l.length) (h3 : ¬ (1 < l.length ∧ l.head? = some 48)) (h4 : u ≤ 2147483647) : parseNum l = some u :=
  parseNum_some.2 ⟨h4, decDigits_of l u h (by intro e; simp [e] at h1) (fun hl hh => h3 ⟨hl, hh⟩)⟩

theorem spec_none_byte {l : List UInt8} (h : decFrom 0 l = none) : parseNum l = none := by simp [parseNum, h]

theorem spec_none_long {l : List UInt8} (h : 10 < l.length) : parseNum l = none := by
  cases hp : parseNum l with
  | none => rfl
  | some u =>
    obtain ⟨h1, rfl⟩ := parseNum_some.1 hp
    rw [decDigits_length] at h
    have := nDigits_le10 u (by omega)
    omega

theorem spec_none_nil : parseNum [] = none := by
  cases hp : parseNum [] with
  | none => rfl
  | some u => exact absurd (parseNum_some.1 hp).2.symm (decDigits_ne u)

theorem spec_none_nought {l : List UInt8} (h : 1 < l.length) (hh : l.head? = some 48) : parseNum l = none := by
  cases hp : parseNum l with
  | none => rfl
  | some u =>
    obtain ⟨h1, rfl⟩ := parseNum_some.1 hp
    rcases Nat.eq_zero_or_pos u with h0 | h0
    · subst h0
      rw [decDigits, dif_pos (by omega)] at h
      simp at h
    · exact absurd hh (decDigits_head u h0)

theorem spec_none_great {l : List UInt8} {u : Nat} (h : decFrom 0 l = some u) (h4 : 2147483647 < u) : parseNum l = none := by
  unfold parseNum
  rw [h]
  simp only
  rw [if_neg (by omega)]
end Go.Proofs.Ytjdpddcnogdekab
