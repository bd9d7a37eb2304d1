/-
  Texts in one: NumPlain, TokPlain.
-/
import Derived.RowKit
import Derived.Lib.Atoi
import Derived.Lib.AtoiAll
import Derived.Lib.AtoiAllCases
import Derived.Lib.AtoiTie
import Derived.Lib.ItoaNum
import Derived.Lib.ItoaMem
import Derived.Laws.RangeAny
import Derived.Stop.FmtRuneSmall
/-
  Plain facts on numbers and their digits: no Go in sight.
-/
namespace Go.Proofs.YtjdpddcnogdekaaGreat
open Go.Lib Go.RowKit

/-! ### words that go round -/
theorem wrap32_bd (n : Int) : -2147483648 ≤ wrap32 n ∧ wrap32 n ≤ 2147483647 := by unfold wrap32; omega
theorem wrap32_id (n : Int) (h0 : -2147483648 ≤ n) (h1 : n ≤ 2147483647) : wrap32 n = n := by unfold wrap32; omega
theorem mul_bd (a b : Int) (ha0 : -2147483648 ≤ a) (ha : a ≤ 2147483647) (hb0 : -2147483648 ≤ b) (hb : b ≤ 2147483647) : -9223372036854775808 ≤ a * b ∧ a * b ≤ 9223372036854775807 := by
  have h1 : a.natAbs ≤ 2147483648 := by omega
  have h2 : b.natAbs ≤ 2147483648 := by omega
  have h3 : (a * b).natAbs ≤ 2147483648 * 2147483648 := by rw [Int.natAbs_mul]; exact Nat.mul_le_mul h1 h2
  omega

/-! ### the greatest that divides both -/
theorem gcd_step (x y : Int) : Int.gcd y (x.tmod y) = Int.gcd x y := by
  rw [Int.gcd_comm x y]
  simp only [Int.gcd, Int.natAbs_tmod]
  rw [Nat.gcd_comm, ← Nat.gcd_rec]
theorem gcd_zero (x : Int) : (Int.gcd x 0 : Int) = if x < 0 then -x else x := by
  simp
  split <;> omega
theorem tmod_lt (x y : Int) (h : y ≠ 0) : (x.tmod y).natAbs < y.natAbs := by
  rw [Int.natAbs_tmod]
  exact Nat.mod_lt _ (by omega)
theorem gcd_dvd_tmod (x y : Int) : x.tmod (Int.gcd x y) = 0 ∧ y.tmod (Int.gcd x y) = 0 :=
  ⟨Int.tmod_eq_zero_of_dvd (Int.gcd_dvd_left ..), Int.tmod_eq_zero_of_dvd (Int.gcd_dvd_right ..)⟩
theorem gcd_none {x y : Int} (h : Int.gcd x y = 0) : x = 0 ∧ y = 0 := Int.gcd_eq_zero_iff.1 h
theorem gcd_le (x y : Int) (h0 : -2147483648 ≤ x) (h1 : x ≤ 2147483647) (h2 : -2147483648 ≤ y) (h3 : y ≤ 2147483647) : (Int.gcd x y : Int) ≤ 2147483648 := by
  by_cases hx : x = 0
  · subst hx; rw [Int.gcd_comm, gcd_zero]; split <;> omega
  · have := Nat.le_of_dvd (by omega) (Nat.gcd_dvd_left x.natAbs y.natAbs)
    have e : Int.gcd x y = Nat.gcd x.natAbs y.natAbs := rfl
    omega

/-! ### the digits, from the last one on -/
theorem decDigits_last (u : Nat) : decDigits u = (if u / 10 = 0 then [] else decDigits (u / 10)) ++ [UInt8.ofNat (48 + u % 10)] := by
  by_cases h : u < 10
  · rw [decDigits, dif_pos h, if_pos (by omega), Nat.mod_eq_of_lt h]; rfl
  · rw [decDigits, dif_neg h, if_neg (by omega)]
/-- What is left to be written of n's digits, and what has been: together they are the digits. -/
def Digs (n u : Nat) (t : List UInt8) : Prop := decDigits n = (if u = 0 then [] else decDigits u) ++ t
theorem digs_start (n : Nat) (h : 1 ≤ n) : Digs n n [] := by unfold Digs; rw [if_neg (by omega)]; simp
theorem digs_step {n u : Nat} {t : List UInt8} (h : Digs n u t) (hu : u ≠ 0) : Digs n (u / 10) (UInt8.ofNat (48 + u % 10) :: t) := by
  unfold Digs at h ⊢
  rw [if_neg hu, decDigits_last u] at h
  rw [h]; simp
theorem digs_end {n : Nat} {t : List UInt8} (h : Digs n 0 t) : decDigits n = t := by
  unfold Digs at h; simpa using h


theorem head_append {a : List UInt8} (b : List UInt8) (h : a ≠ []) : (a ++ b).head? = a.head? := by
  cases a with
  | nil => exact absurd rfl h
  | cons _ _ => rfl

theorem decFrom_append : ∀ (a b : List UInt8) (acc : Nat), decFrom acc (a ++ b) = (decFrom acc a).bind fun n => decFrom n b
  | [], b, acc => by simp [decFrom]
  | c :: r, b, acc => by
    simp only [List.cons_append, decFrom]
    cases digitVal c with
    | none => simp
    | some d => simpa using decFrom_append r b _

theorem digitVal_of (d : Nat) (h : d < 10) : digitVal (UInt8.ofNat (48 + d)) = some d := by
  have : (UInt8.ofNat (48 + d)).toNat = 48 + d := by simp; omega
  unfold digitVal
  rw [if_pos (by omega), this]
  simp

theorem byte_of_digit {b : UInt8} {d : Nat} (h : digitVal b = some d) : b = UInt8.ofNat (48 + d) ∧ d < 10 := by
  obtain ⟨h1, h2, h3⟩ := digitVal_eq h
  refine ⟨?_, by omega⟩
  apply UInt8.toNat_inj.1
  simp
  omega

/-- The digits of u spell u. -/
theorem decFrom_decDigits (u : Nat) : decFrom 0 (decDigits u) = some u := by
  induction u using Nat.strongRecOn with
  | _ u ih =>
    by_cases h : u < 10
    · rw [decDigits, dif_pos h]
      simp only [decFrom, digitVal_of u h]
      simp
    · rw [decDigits, dif_neg h, decFrom_append, ih (u / 10) (by omega)]
      simp only [Option.bind_some, decFrom, digitVal_of (u % 10) (by omega)]
      simp
      omega

theorem decDigits_ne (u : Nat) : decDigits u ≠ [] := by
  rw [decDigits]
  split <;> simp

/-- No needless nought stands ahead of u's digits. -/
theorem decDigits_head (u : Nat) (h : 1 ≤ u) : (decDigits u).head? ≠ some 48 := by
  induction u using Nat.strongRecOn with
  | _ u ih =>
    by_cases h10 : u < 10
    · rw [decDigits, dif_pos h10]
      simp only [List.head?_cons]
      intro he
      have he := Option.some.inj he
      have : (UInt8.ofNat (48 + u)).toNat = 48 := by rw [he]; rfl
      simp at this
      omega
    · rw [decDigits, dif_neg h10, head_append _ (decDigits_ne _)]
      exact ih _ (by omega) (by omega)

theorem nDigits_le10 (u : Nat) (h : u < 10000000000) : nDigits u ≤ 10 := by
  have step : ∀ k v, v < 10 ^ k → 1 ≤ k → nDigits v ≤ k := by
    intro k
    induction k with
    | zero => intro v _ h; omega
    | succ k ih =>
      intro v hv _
      rw [nDigits]
      split
      · omega
      · rename_i h10
        have : v / 10 < 10 ^ k := by rw [Nat.pow_succ] at hv; omega
        have hk : 1 ≤ k := by
          rcases k with _ | k
          · simp at this; omega
          · omega
        have := ih _ this hk
        omega
  exact step 10 u (by simpa using h) (by omega)

/-- A row of digits without a needless nought ahead is the digits of what it spells. -/
theorem decDigits_of (l : List UInt8) : ∀ u, decFrom 0 l = some u → l ≠ [] → (l.length > 1 → l.head? ≠ some 48) → l = decDigits u := by
  induction hn : l.length generalizing l with
  | zero => intro u _ h; exact absurd (List.length_eq_zero_iff.1 hn) h
  | succ n ih =>
    intro u hu hne hh
    obtain ⟨r, b, rfl⟩ : ∃ r b, l = r ++ [b] := ⟨l.dropLast, l.getLast hne, (List.dropLast_concat_getLast hne).symm⟩
    rw [decFrom_append] at hu
    cases hr : decFrom 0 r with
    | none => simp [hr] at hu
    | some v =>
      simp only [hr, Option.bind_some, decFrom] at hu
      cases hb : digitVal b with
      | none => simp [hb] at hu
      | some d =>
        simp only [hb, Option.some.injEq] at hu
        obtain ⟨rfl, hd⟩ := byte_of_digit hb
        by_cases hre : r = []
        · subst hre
          simp [decFrom] at hr
          subst hr
          rw [decDigits, dif_pos (by omega)]
          simp at hu ⊢
          rw [hu]
        · have hlen : r.length = n := by simpa using hn
          have hr1 : 1 ≤ r.length := by cases r with | nil => exact absurd rfl hre | cons _ _ => simp
          have hhd : (r ++ [UInt8.ofNat (48 + d)]).head? = r.head? := head_append _ hre
          have h48 : r.head? ≠ some 48 := by rw [← hhd]; exact hh (by simp; omega)
          have er := ih r hlen v hr hre (fun _ => h48)
          have hv : 1 ≤ v := by
            rcases Nat.eq_zero_or_pos v with h0 | h0
            · subst h0
              rw [decDigits, dif_pos (by omega)] at er
              rw [er] at h48
              exact absurd rfl h48
            · exact h0
          rw [decDigits, dif_neg (by omega), er]
          congr 1
          · congr 1; omega
          · congr 2; omega

/-- ParseNum as the document has it: the digits of a word that is not below 0, and nothing else. -/
def parseNum (l : List UInt8) : Option Nat :=
  match decFrom 0 l with
  | some u => if u ≤ 2147483647 ∧ l = decDigits u then some u else none
  | none => none

theorem parseNum_some {l : List UInt8} {u : Nat} : parseNum l = some u ↔ u ≤ 2147483647 ∧ l = decDigits u := by
  unfold parseNum
  constructor
  · intro h
    split at h
    · split at h
      · rename_i hx; injection h with h; subst h; exact hx
      · cases h
    · cases h
  · rintro ⟨h, rfl⟩
    simp [decFrom_decDigits, h]

theorem atoiAll_decDigits (u : Nat) (h : u ≤ 2147483647) : atoiAll (decDigits u) = .ok (u : Int) := by
  have hl : (decDigits u).length ≤ 18 := by rw [decDigits_length]; have := nDigits_le10 u (by omega); omega
  rw [atoiAll_short _ hl]
  have hd := decFrom_decDigits u
  cases hdd : decDigits u with
  | nil => exact absurd hdd (decDigits_ne u)
  | cons b r =>
    rw [hdd] at hd
    obtain ⟨d, hb⟩ := digit_of_decFrom _ _ _ hd 0 b (by simp)
    obtain ⟨h1, h2, _⟩ := digitVal_eq hb
    have n1 : (b == 45) = false := by rw [beq_eq_false_iff_ne]; intro e; rw [e] at h1; exact absurd h1 (by decide)
    have n2 : (b == 43) = false := by rw [beq_eq_false_iff_ne]; intro e; rw [e] at h1; exact absurd h1 (by decide)
    simp only [atoi, n1, n2, decNat, hd]
    simp [NumEnd.ofOption]

/-- What the landed code tests behind Atoi, and what it then answers, is parseNum. -/
theorem impl_some {l : List UInt8} {v : Int} (h : atoiAll l = .ok v) (h0 : 0 ≤ v) (h1 : v ≤ 2147483647) (h2 : l = itoa v) : parseNum l = some v.toNat := by
  obtain ⟨u, rfl⟩ := Int.eq_ofNat_of_zero_le h0
  rw [itoa_nonneg] at h2
  exact parseNum_some.2 ⟨by simp; omega, by simpa using h2⟩

theorem impl_none {l : List UInt8} (h : ∀ v, atoiAll l = .ok v → 0 ≤ v → v ≤ 2147483647 → l ≠ itoa v) : parseNum l = none := by
  cases hp : parseNum l with
  | none => rfl
  | some u =>
    obtain ⟨h1, rfl⟩ := parseNum_some.1 hp
    exact absurd (itoa_nonneg u).symm (h u (atoiAll_decDigits u h1) (by omega) (by omega))

/-- What the specification tests is parseNum. -/
theorem spec_some {l : List UInt8} {u : Nat} (h : decFrom 0 l = some u) (h1 : 1 ≤ l.length) (h3 : ¬ (1 < l.length ∧ l.head? = some 48)) (h4 : u ≤ 2147483647) : parseNum l = some u :=
  parseNum_some.2 ⟨h4, decDigits_of l u h (by intro e; simp [e] at h1) (fun hl hh => h3 ⟨hl, hh⟩)⟩

theorem spec_none_byte {l : List UInt8} (h : decFrom 0 l = none) : parseNum l = none := by simp [parseNum, h]

theorem spec_none_long {l : List UInt8} (h : 10 < l.length) : parseNum l = none := by
  cases hp : parseNum l with
  | none => rfl
  | some u =>
    obtain ⟨h1, rfl⟩ := parseNum_some.1 hp
    rw [decDigits_length] at h
    have := nDigits_le10 u (by omega)
    omega

theorem spec_none_nil : parseNum [] = none := by
  cases hp : parseNum [] with
  | none => rfl
  | some u => exact absurd (parseNum_some.1 hp).2.symm (decDigits_ne u)

theorem spec_none_nought {l : List UInt8} (h : 1 < l.length) (hh : l.head? = some 48) : parseNum l = none := by
  cases hp : parseNum l with
  | none => rfl
  | some u =>
    obtain ⟨h1, rfl⟩ := parseNum_some.1 hp
    rcases Nat.eq_zero_or_pos u with h0 | h0
    · subst h0
      rw [decDigits, dif_pos (by omega)] at h
      simp at h
    · exact absurd hh (decDigits_head u h0)

theorem spec_none_great {l : List UInt8} {u : Nat} (h : decFrom 0 l = some u) (h4 : 2147483647 < u) : parseNum l = none := by
  unfold parseNum
  rw [h]
  simp only
  rw [if_neg (by omega)]
end Go.Proofs.YtjdpddcnogdekaaGreat
/-
  Plain facts on signs: what a text is made of, and that signs come back of their own text: no Go in sight.
-/
namespace Go.Proofs.YtjdpddcnogdekaaGreat
open Go.Lib Go.RowKit

def marksL : List UInt8 := [59, 61, 91, 93, 40, 41, 123, 125, 43, 45, 42, 44]
def keptL : List (List UInt8) := [[97, 114, 114, 97, 121], [102, 111, 114], [116, 111], [112, 114, 105, 110, 116], [109, 105, 110], [109, 97, 120]]
/-- What a byte is: 0 a gap, 1 a letter, 2 a digit, 3 a mark, 4 none of these. -/
def kind (b : UInt8) : Nat :=
  if b.toNat = 32 ∨ b.toNat = 10 then 0 else if 97 ≤ b.toNat ∧ b.toNat ≤ 122 then 1 else if 48 ≤ b.toNat ∧ b.toNat ≤ 57 then 2 else if b ∈ marksL then 3 else 4
def goes (k : Nat) : Bool := k == 1 || k == 2
structure T where
  k : Int
  s : List UInt8
  n : Int
/-- The sign that a piece of one kind is, where it is one. -/
def tok (k : Nat) (p : List UInt8) : Option T :=
  if k = 1 then (if p ∈ keptL then some ⟨3, p, 0⟩ else if p.length ≤ 6 then some ⟨1, p, 0⟩ else none)
  else if k = 2 then (match parseNum p with | some n => if n ≤ 999999 then some ⟨2, [], n⟩ else none | none => none)
  else if k = 3 then some ⟨4, p, 0⟩
  else none
/-- The signs of what is left, where a piece p of kind k stands open; what is open at the end is dropped. -/
def pend : Nat → List UInt8 → List UInt8 → Option (List T)
  | _, _, [] => some []
  | k, p, b :: r =>
    if kind b = k ∧ goes k = true then pend k (p ++ [b]) r
    else if k = 0 then pend (kind b) [b] r
    else match tok k p with
      | some t => (match pend (kind b) [b] r with | some ts => some (t :: ts) | none => none)
      | none => none
def cut (done : List T) : Option (List T) → Option (List T)
  | some ts => if done.length + ts.length ≤ 600 then some (done ++ ts) else none
  | none => none
/-- What Lex answers of a text's bytes. -/
def lex (l : List UInt8) : Option (List T) := if 3000 < l.length then none else cut [] (pend 0 [] (l ++ [32]))
def nameOk (l : List UInt8) : Bool := decide (1 ≤ l.length) && decide (l.length ≤ 6) && l.all (fun b => kind b == 1) && !(keptL.contains l)

theorem kind_lt (b : UInt8) : kind b ≤ 4 := by unfold kind; repeat' split <;> try omega
theorem pend_gap (p r : List UInt8) : pend 0 p r = pend 0 [] r := by
  cases r with
  | nil => rfl
  | cons b r => simp [pend, goes]
theorem pend_start (p r : List UInt8) (b : UInt8) : pend 0 p (b :: r) = pend (kind b) [b] r := by simp [pend, goes]
theorem pend_on {k : Nat} (p r : List UInt8) {b : UInt8} (hk : kind b = k) (hg : goes k = true) : pend k p (b :: r) = pend k (p ++ [b]) r := by
  rw [pend, if_pos ⟨hk, hg⟩]
theorem pend_run {k : Nat} (hg : goes k = true) : ∀ (v p r : List UInt8), (∀ b ∈ v, kind b = k) → pend k p (v ++ r) = pend k (p ++ v) r
  | [], p, r, _ => by simp
  | b :: v, p, r, h => by
    rw [List.cons_append, pend_on _ _ (h b (by simp)) hg, pend_run hg v _ r (fun c hc => h c (by simp [hc]))]
    simp
def put (t : T) : Option (List T) → Option (List T)
  | some ts => some (t :: ts)
  | none => none
theorem pend_end {k : Nat} (p r : List UInt8) {b : UInt8} (h0 : k ≠ 0) (h : ¬ (kind b = k ∧ goes k = true)) :
    pend k p (b :: r) = match tok k p with | some t => put t (pend 0 [] (b :: r)) | none => none := by
  rw [pend, if_neg h, if_neg h0, pend_start]
  cases tok k p <;> rfl
theorem pend_other (p r : List UInt8) (b : UInt8) : pend 4 p (b :: r) = none := by
  simp [pend, goes, tok]
theorem cut_put {done : List T} {t : T} (o : Option (List T)) : cut done (put t o) = cut (done ++ [t]) o := by
  cases o with
  | none => rfl
  | some ts =>
    simp only [put, cut, List.length_cons, List.length_append, List.length_nil]
    by_cases h : done.length + (ts.length + 1) ≤ 600
    · rw [if_pos h, if_pos (by omega)]; simp
    · rw [if_neg h, if_neg (by omega)]
theorem cut_full {done : List T} {t : T} (h : done.length = 600) (o : Option (List T)) : cut done (put t o) = none := by
  cases o with
  | none => rfl
  | some ts => simp only [put, cut, List.length_cons]; rw [if_neg (by omega)]
theorem cut_nil {done : List T} (h : done.length ≤ 600) : cut done (some []) = some done := by
  simp only [cut, List.length_nil]; rw [if_pos (by omega)]; simp

/-! ### signs come back of their own text -/
def text1 (t : T) : List UInt8 := if t.k = 2 then itoa t.n else t.s
def textFrom : List T → List UInt8
  | [] => []
  | t :: ts => 32 :: (text1 t ++ textFrom ts)
def text : List T → List UInt8
  | [] => []
  | t :: ts => text1 t ++ textFrom ts
/-- A sign that a piece of one kind is, and its own text is that piece. -/
def Good (t : T) : Prop := ∃ k p, (k = 1 ∨ k = 2 ∨ k = 3) ∧ p ≠ [] ∧ (∀ b ∈ p, kind b = k) ∧ (goes k = true ∨ p.length = 1) ∧ tok k p = some t
theorem tok_text {k : Nat} {p : List UInt8} {t : T} (h : tok k p = some t) : text1 t = p := by
  unfold tok at h
  split at h
  · split at h
    · injection h with h; subst h; simp [text1]
    · split at h
      · injection h with h; subst h; simp [text1]
      · cases h
  · split at h
    · split at h
      · rename_i n hn
        split at h
        · injection h with h; subst h
          simp only [text1, if_true]
          rw [itoa_nonneg, (parseNum_some.1 hn).2]
        · cases h
      · cases h
    · split at h
      · injection h with h; subst h; simp [text1]
      · cases h
theorem pend_good : ∀ (r p : List UInt8) (k : Nat) (ts : List T), (k = 0 ∨ (p ≠ [] ∧ (∀ b ∈ p, kind b = k) ∧ (goes k = true ∨ p.length = 1))) → pend k p r = some ts → ∀ t ∈ ts, Good t
  | [], p, k, ts, _, h => by
    rw [pend] at h; injection h with h; subst h; intro t ht; cases ht
  | b :: r, p, k, ts, hp, h => by
    rw [pend] at h
    split at h
    · rename_i hk
      refine pend_good r (p ++ [b]) k ts ?_ h
      rcases hp with h0 | ⟨h1, h2, h3⟩
      · exact .inl h0
      · refine .inr ⟨by simp, ?_, .inl hk.2⟩
        intro c hc
        rcases List.mem_append.1 hc with hc | hc
        · exact h2 c hc
        · simp at hc; subst hc; exact hk.1
    · have hs : kind b = 0 ∨ ([b] ≠ [] ∧ (∀ c ∈ [b], kind c = kind b) ∧ (goes (kind b) = true ∨ [b].length = 1)) := .inr ⟨by simp, by intro c hc; simp at hc; subst hc; rfl, .inr rfl⟩
      split at h
      · exact pend_good r [b] (kind b) ts hs h
      · rename_i h0
        split at h
        · rename_i t ht
          split at h
          · rename_i ts' hts
            injection h with h; subst h
            intro u hu
            rcases List.mem_cons.1 hu with hu | hu
            · subst hu
              rcases hp with hp | ⟨h1, h2, h3⟩
              · exact absurd hp h0
              · refine ⟨k, p, ?_, h1, h2, h3, ht⟩
                by_cases e1 : k = 1
                · exact .inl e1
                · by_cases e2 : k = 2
                  · exact .inr (.inl e2)
                  · by_cases e3 : k = 3
                    · exact .inr (.inr e3)
                    · simp [tok, e1, e2, e3] at ht
            · exact pend_good r [b] (kind b) ts' hs hts u hu
          · cases h
        · cases h
theorem kind32 : kind 32 = 0 := by decide
/-- One good sign's text, and a blank behind. -/
theorem pend_text1 {t : T} (h : Good t) (r : List UInt8) : pend 0 [] (text1 t ++ 32 :: r) = put t (pend 0 [] r) := by
  obtain ⟨k, p, hk, hp, hall, hg, ht⟩ := h
  rw [tok_text ht]
  have hk0 : k ≠ 0 := by omega
  have hend : ∀ q, pend k q (32 :: r) = match tok k q with | some t => put t (pend 0 [] r) | none => none := by
    intro q
    rw [pend_end q r hk0 (by rw [kind32]; omega), pend_start, kind32, pend_gap]
  cases p with
  | nil => exact absurd rfl hp
  | cons b v =>
    have hb : kind b = k := hall b (by simp)
    rw [List.cons_append, pend_start, hb]
    rcases hg with hg | hg
    · rw [pend_run hg v [b] _ (fun c hc => hall c (by simp [hc])), hend]
      simp only [List.cons_append, List.nil_append, ht]
    · have : v = [] := by simpa using hg
      subst this
      rw [List.nil_append, hend, ht]
theorem pend_textFrom : ∀ (ts : List T), (∀ t ∈ ts, Good t) → pend 0 [] (textFrom ts ++ [32]) = some ts
  | [], _ => by simp [textFrom, pend_start, pend]
  | t :: ts, h => by
    have ih := pend_textFrom ts (fun u hu => h u (by simp [hu]))
    rw [textFrom, List.cons_append, pend_start, kind32, pend_gap, List.append_assoc]
    cases ts with
    | nil =>
      simp only [textFrom, List.nil_append]
      rw [pend_text1 (h t (by simp))]
      rfl
    | cons u us =>
      rw [textFrom, List.cons_append, pend_text1 (h t (by simp))]
      rw [textFrom, List.cons_append, pend_start, kind32, pend_gap] at ih
      rw [ih]
      rfl
theorem pend_text (ts : List T) (h : ∀ t ∈ ts, Good t) : pend 0 [] (text ts ++ [32]) = some ts := by
  cases ts with
  | nil => simp [text, pend_start, pend]
  | cons t ts =>
    have := pend_textFrom (t :: ts) h
    rw [textFrom, List.cons_append, pend_start, kind32, pend_gap] at this
    exact this
theorem lex_good {l : List UInt8} {ts : List T} (h : lex l = some ts) : (∀ t ∈ ts, Good t) ∧ ts.length ≤ 600 := by
  unfold lex at h
  split at h
  · cases h
  · cases hp : pend 0 [] (l ++ [32]) with
    | none => rw [hp] at h; cases h
    | some us =>
      rw [hp] at h
      simp only [cut, List.length_nil, List.nil_append] at h
      split at h
      · injection h with h; subst h
        exact ⟨pend_good _ _ _ _ (.inl rfl) hp, by omega⟩
      · cases h
/-- What is read of its own text is the list again, wherever that text is short enough. -/
theorem lex_text {ts : List T} (hg : ∀ t ∈ ts, Good t) (hn : ts.length ≤ 600) : lex (text ts) = if 3000 < (text ts).length then none else some ts := by
  unfold lex
  split
  · rfl
  · rw [pend_text ts hg]
    exact (by simp only [cut, List.length_nil, List.nil_append]; rw [if_pos (by omega)])
/-! ### runes of a text -/
theorem get_bang (s : ByteArray) (k : Nat) (h : k < s.size) : s.get! k = s[k]'h := by
  show s.data[k]! = _
  rw [getElem!_pos s.data k h]; rfl
/-- A rune of more than one byte ends ahead of a byte below 128 that is the last one. -/
theorem decode_inside (s : ByteArray) (pos : Nat) (h : pos < s.size) (hl : ∀ k, k + 1 = s.size → (s.get! k).toNat < 128) (hh : 128 ≤ (s.get! pos).toNat) : pos + (Utf8.decode s pos).2 < s.size := by
  have one : pos + 1 < s.size := by
    rcases Nat.lt_or_ge (pos + 1) s.size with h1 | h1
    · exact h1
    · have := hl pos (by omega); omega
  have more : ∀ k, (decide (pos + k < s.size) && (s.get! (pos + k)).toNat / 64 == 2) = true → pos + (k + 1) < s.size := by
    intro k hk
    simp only [Bool.and_eq_true, decide_eq_true_eq, beq_iff_eq] at hk
    rcases Nat.lt_or_ge (pos + k + 1) s.size with h1 | h1
    · exact h1
    · have := hl (pos + k) (by omega); omega
  unfold Utf8.decode
  simp only [Nat.add_zero]
  rw [if_neg (by omega)]
  split
  · rename_i hc
    rw [Bool.and_eq_true] at hc
    have := more 1 hc.2
    split <;> simp only <;> omega
  · split
    · rename_i hc
      rw [Bool.and_eq_true] at hc
      have := more 2 hc.2
      split <;> simp only <;> omega
    · split
      · rename_i hc
        rw [Bool.and_eq_true] at hc
        have := more 3 hc.2
        split <;> simp only <;> omega
      · simp only; omega
/-- A byte below 128 is its own rune. -/
theorem decode_low (s : ByteArray) (pos : Nat) (h : pos < s.size) (hk : (s[pos]'h).toNat < 128) : Utf8.decode s pos = ((s[pos]'h).toNat, 1) := decode_ascii s pos h hk
theorem kind_high {b : UInt8} (h : 128 ≤ b.toNat) : kind b = 4 := by
  unfold kind
  rw [if_neg (by omega), if_neg (by omega), if_neg (by omega), if_neg]
  intro hm
  simp only [marksL, List.mem_cons, List.not_mem_nil, or_false] at hm
  rcases hm with rfl | rfl | rfl | rfl | rfl | rfl | rfl | rfl | rfl | rfl | rfl | rfl <;> revert h <;> decide
theorem kind_low {b : UInt8} (h : kind b ≠ 4) : b.toNat < 128 := by
  rcases Nat.lt_or_ge b.toNat 128 with h1 | h1
  · exact h1
  · exact absurd (kind_high h1) h
end Go.Proofs.YtjdpddcnogdekaaGreat
