/-
  Texts in one: NumPlain, NumShelf, NumWalks, NumSpec, NumEnv.
-/
import Derived.RowKit
import Derived.Lib.Atoi
import Derived.Lib.AtoiAll
import Derived.Lib.AtoiAllCases
import Derived.Lib.AtoiTie
import Derived.Lib.ItoaNum
import Derived.Lib.ItoaMem
import Derived.Shelf.Strconv.Itoa4
import Derived.Shelf.Strconv.AtoiAll
import Derived.Shelf.Strconv.ErrVarAll
import Derived.Shelf.LaysM
import Derived.Shelf.LaysC
import Derived.Test.YtkilmefpaojkfaaDoorProg
import Derived.Test.YtkilmefpaojkfaaDoorRows
import Derived.WalkKit
import Derived.WalkLawsBesides
import Derived.Lib.SmallJoins
import Derived.Lib.AppendIntMem
import Derived.Lib.ItoaLen
import Derived.Deep.QuietTactic
import Derived.BigQuiet
/-
  Plain facts on numbers and their digits: no Go in sight.
-/
namespace Go.Proofs.YtkilmefpaojkfaaDoor
open Go.Lib Go.RowKit

/-! ### words that go round -/
theorem wrap32_bd (n : Int) : -2147483648 ≤ wrap32 n ∧ wrap32 n ≤ 2147483647 := by unfold wrap32; omega
theorem wrap32_id (n : Int) (h0 : -2147483648 ≤ n) (h1 : n ≤ 2147483647) : wrap32 n = n := by unfold wrap32; omega
theorem mul_bd (a b : Int) (ha0 : -2147483648 ≤ a) (ha : a ≤ 2147483647) (hb0 : -2147483648 ≤ b) (hb : b ≤ 2147483647) : -9223372036854775808 ≤ a * b ∧ a * b ≤ 9223372036854775807 := by
  have h1 : a.natAbs ≤ 2147483648 := by omega
  have h2 : b.natAbs ≤ 2147483648 := by omega
  have h3 : (a * b).natAbs ≤ 2147483648 * 2147483648 := by rw [Int.natAbs_mul]; exact Nat.mul_le_mul h1 h2
  omega

/-! ### the greatest that divides both -/
theorem gcd_step (x y : Int) : Int.gcd y (x.tmod y) = Int.gcd x y := by
  rw [Int.gcd_comm x y]
  simp only [Int.gcd, Int.natAbs_tmod]
  rw [Nat.gcd_comm, ← Nat.gcd_rec]
theorem gcd_zero (x : Int) : (Int.gcd x 0 : Int) = if x < 0 then -x else x := by
  simp
  split <;> omega
theorem tmod_lt (x y : Int) (h : y ≠ 0) : (x.tmod y).natAbs < y.natAbs := by
  rw [Int.natAbs_tmod]
  exact Nat.mod_lt _ (by omega)
theorem gcd_dvd_tmod (x y : Int) : x.tmod (Int.gcd x y) = 0 ∧ y.tmod (Int.gcd x y) = 0 :=
  ⟨Int.tmod_eq_zero_of_dvd (Int.gcd_dvd_left ..), Int.tmod_eq_zero_of_dvd (Int.gcd_dvd_right ..)⟩
theorem gcd_none {x y : Int} (h : Int.gcd x y = 0) : x = 0 ∧ y = 0 := Int.gcd_eq_zero_iff.1 h
theorem gcd_le (x y : Int) (h0 : -2147483648 ≤ x) (h1 : x ≤ 2147483647) (h2 : -2147483648 ≤ y) (h3 : y ≤ 2147483647) : (Int.gcd x y : Int) ≤ 2147483648 := by
  by_cases hx : x = 0
  · subst hx; rw [Int.gcd_comm, gcd_zero]; split <;> omega
  · have := Nat.le_of_dvd (by omega) (Nat.gcd_dvd_left x.natAbs y.natAbs)
    have e : Int.gcd x y = Nat.gcd x.natAbs y.natAbs := rfl
    omega

/-! ### the digits, from the last one on -/
theorem decDigits_last (u : Nat) : decDigits u = (if u / 10 = 0 then [] else decDigits (u / 10)) ++ [UInt8.ofNat (48 + u % 10)] := by
  by_cases h : u < 10
  · rw [decDigits, dif_pos h, if_pos (by omega), Nat.mod_eq_of_lt h]; rfl
  · rw [decDigits, dif_neg h, if_neg (by omega)]
/-- What is left to be written of n's digits, and what has been: together they are the digits. -/
def Digs (n u : Nat) (t : List UInt8) : Prop := decDigits n = (if u = 0 then [] else decDigits u) ++ t
theorem digs_start (n : Nat) (h : 1 ≤ n) : Digs n n [] := by unfold Digs; rw [if_neg (by omega)]; simp
theorem digs_step {n u : Nat} {t : List UInt8} (h : Digs n u t) (hu : u ≠ 0) : Digs n (u / 10) (UInt8.ofNat (48 + u % 10) :: t) := by
  unfold Digs at h ⊢
  rw [if_neg hu, decDigits_last u] at h
  rw [h]; simp
theorem digs_end {n : Nat} {t : List UInt8} (h : Digs n 0 t) : decDigits n = t := by
  unfold Digs at h; simpa using h


theorem head_append {a : List UInt8} (b : List UInt8) (h : a ≠ []) : (a ++ b).head? = a.head? := by
  cases a with
  | nil => exact absurd rfl h
  | cons _ _ => rfl

theorem decFrom_append : ∀ (a b : List UInt8) (acc : Nat), decFrom acc (a ++ b) = (decFrom acc a).bind fun n => decFrom n b
  | [], b, acc => by simp [decFrom]
  | c :: r, b, acc => by
    simp only [List.cons_append, decFrom]
    cases digitVal c with
    | none => simp
    | some d => simpa using decFrom_append r b _

theorem digitVal_of (d : Nat) (h : d < 10) : digitVal (UInt8.ofNat (48 + d)) = some d := by
  have : (UInt8.ofNat (48 + d)).toNat = 48 + d := by simp; omega
  unfold digitVal
  rw [if_pos (by omega), this]
  simp

theorem byte_of_digit {b : UInt8} {d : Nat} (h : digitVal b = some d) : b = UInt8.ofNat (48 + d) ∧ d < 10 := by
  obtain ⟨h1, h2, h3⟩ := digitVal_eq h
  refine ⟨?_, by omega⟩
  apply UInt8.toNat_inj.1
  simp
  omega

/-- The digits of u spell u. -/
theorem decFrom_decDigits (u : Nat) : decFrom 0 (decDigits u) = some u := by
  induction u using Nat.strongRecOn with
  | _ u ih =>
    by_cases h : u < 10
    · rw [decDigits, dif_pos h]
      simp only [decFrom, digitVal_of u h]
      simp
    · rw [decDigits, dif_neg h, decFrom_append, ih (u / 10) (by omega)]
      simp only [Option.bind_some, decFrom, digitVal_of (u % 10) (by omega)]
      simp
      omega

theorem decDigits_ne (u : Nat) : decDigits u ≠ [] := by
  rw [decDigits]
  split <;> simp

/-- No needless nought stands ahead of u's digits. -/
theorem decDigits_head (u : Nat) (h : 1 ≤ u) : (decDigits u).head? ≠ some 48 := by
  induction u using Nat.strongRecOn with
  | _ u ih =>
    by_cases h10 : u < 10
    · rw [decDigits, dif_pos h10]
      simp only [List.head?_cons]
      intro he
      have he := Option.some.inj he
      have : (UInt8.ofNat (48 + u)).toNat = 48 := by rw [he]; rfl
      simp at this
      omega
    · rw [decDigits, dif_neg h10, head_append _ (decDigits_ne _)]
      exact ih _ (by omega) (by omega)

theorem nDigits_le10 (u : Nat) (h : u < 10000000000) : nDigits u ≤ 10 := by
  have step : ∀ k v, v < 10 ^ k → 1 ≤ k → nDigits v ≤ k := by
    intro k
    induction k with
    | zero => intro v _ h; omega
    | succ k ih =>
      intro v hv _
      rw [nDigits]
      split
      · omega
      · rename_i h10
        have : v / 10 < 10 ^ k := by rw [Nat.pow_succ] at hv; omega
        have hk : 1 ≤ k := by
          rcases k with _ | k
          · simp at this; omega
          · omega
        have := ih _ this hk
        omega
  exact step 10 u (by simpa using h) (by omega)

/-- A row of digits without a needless nought ahead is the digits of what it spells. -/
theorem decDigits_of (l : List UInt8) : ∀ u, decFrom 0 l = some u → l ≠ [] → (l.length > 1 → l.head? ≠ some 48) → l = decDigits u := by
  induction hn : l.length generalizing l with
  | zero => intro u _ h; exact absurd (List.length_eq_zero_iff.1 hn) h
  | succ n ih =>
    intro u hu hne hh
    obtain ⟨r, b, rfl⟩ : ∃ r b, l = r ++ [b] := ⟨l.dropLast, l.getLast hne, (List.dropLast_concat_getLast hne).symm⟩
    rw [decFrom_append] at hu
    cases hr : decFrom 0 r with
    | none => simp [hr] at hu
    | some v =>
      simp only [hr, Option.bind_some, decFrom] at hu
      cases hb : digitVal b with
      | none => simp [hb] at hu
      | some d =>
        simp only [hb, Option.some.injEq] at hu
        obtain ⟨rfl, hd⟩ := byte_of_digit hb
        by_cases hre : r = []
        · subst hre
          simp [decFrom] at hr
          subst hr
          rw [decDigits, dif_pos (by omega)]
          simp at hu ⊢
          rw [hu]
        · have hlen : r.length = n := by simpa using hn
          have hr1 : 1 ≤ r.length := by cases r with | nil => exact absurd rfl hre | cons _ _ => simp
          have hhd : (r ++ [UInt8.ofNat (48 + d)]).head? = r.head? := head_append _ hre
          have h48 : r.head? ≠ some 48 := by rw [← hhd]; exact hh (by simp; omega)
          have er := ih r hlen v hr hre (fun _ => h48)
          have hv : 1 ≤ v := by
            rcases Nat.eq_zero_or_pos v with h0 | h0
            · subst h0
              rw [decDigits, dif_pos (by omega)] at er
              rw [er] at h48
              exact absurd rfl h48
            · exact h0
          rw [decDigits, dif_neg (by omega), er]
          congr 1
          · congr 1; omega
          · congr 2; omega

/-- ParseNum as the document has it: the digits of a word that is not below 0, and nothing else. -/
def parseNum (l : List UInt8) : Option Nat :=
  match decFrom 0 l with
  | some u => if u ≤ 2147483647 ∧ l = decDigits u then some u else none
  | none => none

theorem parseNum_some {l : List UInt8} {u : Nat} : parseNum l = some u ↔ u ≤ 2147483647 ∧ l = decDigits u := by
  unfold parseNum
  constructor
  · intro h
    split at h
    · split at h
      · rename_i hx; injection h with h; subst h; exact hx
      · cases h
    · cases h
  · rintro ⟨h, rfl⟩
    simp [decFrom_decDigits, h]

theorem atoiAll_decDigits (u : Nat) (h : u ≤ 2147483647) : atoiAll (decDigits u) = .ok (u : Int) := by
  have hl : (decDigits u).length ≤ 18 := by rw [decDigits_length]; have := nDigits_le10 u (by omega); omega
  rw [atoiAll_short _ hl]
  have hd := decFrom_decDigits u
  cases hdd : decDigits u with
  | nil => exact absurd hdd (decDigits_ne u)
  | cons b r =>
    rw [hdd] at hd
    obtain ⟨d, hb⟩ := digit_of_decFrom _ _ _ hd 0 b (by simp)
    obtain ⟨h1, h2, _⟩ := digitVal_eq hb
    have n1 : (b == 45) = false := by rw [beq_eq_false_iff_ne]; intro e; rw [e] at h1; exact absurd h1 (by decide)
    have n2 : (b == 43) = false := by rw [beq_eq_false_iff_ne]; intro e; rw [e] at h1; exact absurd h1 (by decide)
    simp only [atoi, n1, n2, decNat, hd]
    simp [NumEnd.ofOption]

/-- What the landed code tests behind Atoi, and what it then answers, is parseNum. -/
theorem impl_some {l : List UInt8} {v : Int} (h : atoiAll l = .ok v) (h0 : 0 ≤ v) (h1 : v ≤ 2147483647) (h2 : l = itoa v) : parseNum l = some v.toNat := by
  obtain ⟨u, rfl⟩ := Int.eq_ofNat_of_zero_le h0
  rw [itoa_nonneg] at h2
  exact parseNum_some.2 ⟨by simp; omega, by simpa using h2⟩

theorem impl_none {l : List UInt8} (h : ∀ v, atoiAll l = .ok v → 0 ≤ v → v ≤ 2147483647 → l ≠ itoa v) : parseNum l = none := by
  cases hp : parseNum l with
  | none => rfl
  | some u =>
    obtain ⟨h1, rfl⟩ := parseNum_some.1 hp
    exact absurd (itoa_nonneg u).symm (h u (atoiAll_decDigits u h1) (by omega) (by omega))

/-- What the specification tests is parseNum. -/
theorem spec_some {l : List UInt8} {u : Nat} (h : decFrom 0 l = some u) (h1 : 1 ≤ l.length) (h3 : ¬ (1 < l.length ∧ l.head? = some 48)) (h4 : u ≤ 2147483647) : parseNum l = some u :=
  parseNum_some.2 ⟨h4, decDigits_of l u h (by intro e; simp [e] at h1) (fun hl hh => h3 ⟨hl, hh⟩)⟩

theorem spec_none_byte {l : List UInt8} (h : decFrom 0 l = none) : parseNum l = none := by simp [parseNum, h]

theorem spec_none_long {l : List UInt8} (h : 10 < l.length) : parseNum l = none := by
  cases hp : parseNum l with
  | none => rfl
  | some u =>
    obtain ⟨h1, rfl⟩ := parseNum_some.1 hp
    rw [decDigits_length] at h
    have := nDigits_le10 u (by omega)
    omega

theorem spec_none_nil : parseNum [] = none := by
  cases hp : parseNum [] with
  | none => rfl
  | some u => exact absurd (parseNum_some.1 hp).2.symm (decDigits_ne u)

theorem spec_none_nought {l : List UInt8} (h : 1 < l.length) (hh : l.head? = some 48) : parseNum l = none := by
  cases hp : parseNum l with
  | none => rfl
  | some u =>
    obtain ⟨h1, rfl⟩ := parseNum_some.1 hp
    rcases Nat.eq_zero_or_pos u with h0 | h0
    · subst h0
      rw [decDigits, dif_pos (by omega)] at h
      simp at h
    · exact absurd hh (decDigits_head u h0)

theorem spec_none_great {l : List UInt8} {u : Nat} (h : decFrom 0 l = some u) (h4 : 2147483647 < u) : parseNum l = none := by
  unfold parseNum
  rw [h]
  simp only
  rw [if_neg (by omega)]
end Go.Proofs.YtkilmefpaojkfaaDoor
/-
  The shelf's contracts of strconv.Itoa and strconv.Atoi, laid at this dump's own numbers (the two tables of numbers and their closed facts: by the guide's program; the kernel holds each body against the body that the contract was proved of).
-/
namespace Go.Proofs
open Go.Shelf
def Tryd.laysM171_ren : Go.Shelf.Ren := ⟨fun | 171 => 31 | 243 => 42 | 246 => 47 | 283 => 51 | 284 => 52 | 285 => 53 | 286 => 54 | 129 => 57 | 317 => 56 | 318 => 58 | 319 => 59 | 320 => 60 | 337 => 65 | 338 => 66 | n => n, fun | 3 => 3 | 9 => 9 | 2 => 2 | 4 => 4 | 171 => 81 | 0 => 0 | 53 => 82 | 37 => 56 | 5 => 5 | 173 => 85 | 212 => 89 | 51 => 90 | 20 => 20 | 213 => 91 | 46 => 93 | 232 => 99 | 233 => 100 | n => n, fun | 17 => 0 | 18 => 2 | 19 => 3 | n => n⟩
theorem Tryd.laysM171 : Go.Proofs.LaysM.n171 Tryd.prog Tryd.laysM171_ren := {
  mixed := by kernel_rfl
  f129 := Tryd.func57.trans (congrArg some (by kernel_rfl))
  f171 := Tryd.func31.trans (congrArg some (by kernel_rfl))
  f243 := Tryd.func42.trans (congrArg some (by kernel_rfl))
  f246 := Tryd.func47.trans (congrArg some (by kernel_rfl))
  f283 := Tryd.func51.trans (congrArg some (by kernel_rfl))
  f284 := Tryd.func52.trans (congrArg some (by kernel_rfl))
  f285 := Tryd.func53.trans (congrArg some (by kernel_rfl))
  f286 := Tryd.func54.trans (congrArg some (by kernel_rfl))
  f317 := Tryd.func56.trans (congrArg some (by kernel_rfl))
  f318 := Tryd.func58.trans (congrArg some (by kernel_rfl))
  f319 := Tryd.func59.trans (congrArg some (by kernel_rfl))
  f320 := Tryd.func60.trans (congrArg some (by kernel_rfl))
  f337 := Tryd.func65.trans (congrArg some (by kernel_rfl))
  f338 := Tryd.func66.trans (congrArg some (by kernel_rfl))
  t0 := Tryd.underlying0
  a0 := Tryd.isAgg0
  z0 := Tryd.sizeOf0
  v0 := Tryd.zeroValue0
  t2 := Tryd.underlying2
  a2 := Tryd.isAgg2
  z2 := Tryd.sizeOf2
  v2 := Tryd.zeroValue2
  t3 := Tryd.underlying3
  a3 := Tryd.isAgg3
  z3 := Tryd.sizeOf3
  v3 := Tryd.zeroValue3
  t4 := Tryd.underlying4
  a4 := Tryd.isAgg4
  z4 := Tryd.sizeOf4
  v4 := Tryd.zeroValue4
  t5 := Tryd.underlying5
  a5 := Tryd.isAgg5
  z5 := Tryd.sizeOf5
  v5 := Tryd.zeroValue5
  t9 := Tryd.underlying9
  a9 := Tryd.isAgg9
  z9 := Tryd.sizeOf9
  v9 := Tryd.zeroValue9
  t20 := Tryd.underlying20
  a20 := Tryd.isAgg20
  z20 := Tryd.sizeOf20
  v20 := Tryd.zeroValue20
  t37 := Tryd.underlying56
  a37 := Tryd.isAgg56
  z37 := Tryd.sizeOf56
  v37 := Tryd.zeroValue56
  t46 := Tryd.underlying93
  a46 := Tryd.isAgg93
  z46 := Tryd.sizeOf93
  v46 := Tryd.zeroValue93
  t51 := Tryd.underlying90
  a51 := Tryd.isAgg90
  z51 := Tryd.sizeOf90
  v51 := Tryd.zeroValue90
  t53 := Tryd.underlying82
  a53 := Tryd.isAgg82
  z53 := Tryd.sizeOf82
  v53 := Tryd.zeroValue82
  t171 := Tryd.underlying81
  a171 := Tryd.isAgg81
  z171 := Tryd.sizeOf81
  v171 := Tryd.zeroValue81
  t173 := Tryd.underlying85
  a173 := Tryd.isAgg85
  z173 := Tryd.sizeOf85
  v173 := Tryd.zeroValue85
  t212 := Tryd.underlying89
  a212 := Tryd.isAgg89
  z212 := Tryd.sizeOf89
  v212 := Tryd.zeroValue89
  t213 := Tryd.underlying91
  a213 := Tryd.isAgg91
  z213 := Tryd.sizeOf91
  t232 := Tryd.underlying99
  a232 := Tryd.isAgg99
  z232 := Tryd.sizeOf99
  v232 := Tryd.zeroValue99
  t233 := Tryd.underlying100
  a233 := Tryd.isAgg100
  z233 := Tryd.sizeOf100
  v233 := Tryd.zeroValue100
  g17 := by kernel_rfl
  g18 := by kernel_rfl
  g19 := by kernel_rfl
  i0 := by kernel_rfl
  i2 := by kernel_rfl
  i3 := by kernel_rfl
  i4 := by kernel_rfl
  i5 := by kernel_rfl
  i9 := by kernel_rfl
  i20 := by kernel_rfl
  i37 := by kernel_rfl
  i46 := by kernel_rfl
  i51 := by kernel_rfl
  i53 := by kernel_rfl
  i171 := by kernel_rfl
  i173 := by kernel_rfl
  i212 := by kernel_rfl
  i232 := by kernel_rfl
  i233 := by kernel_rfl
  m17 := by kernel_rfl
  m18 := by kernel_rfl
  m19 := by kernel_rfl }
end Go.Proofs
namespace Go.Proofs.YtkilmefpaojkfaaDoor
open Go.RowKit
theorem strconv_Itoa (n : Int) (h0 : -9223372036854775808 ≤ n) (h1 : n ≤ 9223372036854775807) (w : World) (htab : Lib.TabIs Tryd.prog w "internal/strconv.uint64pow10" .u64 Lib.pow10Tab) :
    Calls Tryd.prog 31 #[.int .i64 n] w fun e w' => e = .returned (.string ⟨(Lib.itoa n).toArray⟩) ∧ ∃ k os, w' = Sort.grow (w.drewN k) os := Any.strconv_Itoa Tryd.laysM171 n h0 h1 w htab
end Go.Proofs.YtkilmefpaojkfaaDoor
/-
  The contracts of NumText and ParseNum, the specification's and the landed code's.
-/
namespace Go.Proofs.YtkilmefpaojkfaaDoor
open Go.RowKit Go.Lib

theorem ret_int {k : IntKind} {a b : Int} (h : a = b) : Ending.returned (.int k a) = .returned (.int k b) := by rw [h]
theorem impl_NumText (n : Int) (h0 : -9223372036854775808 ≤ n) (h1 : n ≤ 9223372036854775807) (w : World) (htab : Lib.TabIs Tryd.prog w "internal/strconv.uint64pow10" .u64 Lib.pow10Tab) :
    Calls Tryd.prog 23 #[.int .i64 n] w fun e w' => e = .returned (.string ⟨(Lib.itoa n).toArray⟩) ∧ Below w.heap.size w w' := by
  go_enter Tryd.func23, Tryd.ntmps23
  go_wp2_with (go_at_call 31; refine (strconv_Itoa _ h0 h1 _ htab).mono ?_; rintro e w' ⟨rfl, k, os, rfl⟩)
  go_ret
  exact ⟨rfl, Lib.below_grow _ _ (Nat.le_refl _) _ _⟩

theorem conv1 (w : World) (x : Int) (h0 : 0 ≤ x) (h1 : x < 256) :
    (convert 56 9 (.slice (some ⟨w.heap.size, 0, none⟩) 1 1)).run Tryd.prog (w.alloc (.cells #[.int .u8 x] 5)) = .ok (.string ⟨[UInt8.ofNat x.toNat].toArray⟩) (w.alloc (.cells #[.int .u8 x] 5)) := by
  refine run_convert_bytes_back (P := Tryd.prog) _ 56 9 5 ⟨w.heap.size, 0, none⟩ 1 [UInt8.ofNat x.toNat] Tryd.underlying56 Tryd.underlying5 Tryd.underlying9 ?_
  intro j hj
  simp at hj
  subst hj
  have e : ((UInt8.ofNat x.toNat).toNat : Int) = x := by simp; omega
  simp only [List.getElem_cons_zero, e]
  simp [Addr.add, World.cell?_alloc_new]
theorem cat1 (a b : List UInt8) : (⟨a.toArray⟩ : ByteArray) ++ ⟨b.toArray⟩ = ⟨(a ++ b).toArray⟩ := by
  apply ByteArray.ext
  simp
theorem digs_len {n u : Nat} {t : List UInt8} (h : Digs n u t) (hn : n < 18446744073709551616) : t.length ≤ 20 := by
  have hl := nDigits_le20 n hn
  rw [← decDigits_length, h] at hl
  simp at hl
  omega
theorem str_step (u : Nat) (t : List UInt8) : (⟨#[48 + UInt8.ofNat (u % 10)]⟩ : ByteArray) ++ ⟨t.toArray⟩ = ⟨(UInt8.ofNat (48 + u % 10) :: t).toArray⟩ := by
  have e : UInt8.ofNat (48 + u % 10) = 48 + UInt8.ofNat (u % 10) := by simp
  rw [e]
  exact cat1 [_] t
theorem str_step0 (u : Nat) (t : List UInt8) (h : (u : Int) % 10 ≤ 0) : (⟨#[UInt8.ofNat (48 + -((u : Int) % 10)).toNat]⟩ : ByteArray) ++ ⟨t.toArray⟩ = ⟨(UInt8.ofNat (48 + u % 10) :: t).toArray⟩ := by
  have e : (48 + -((u : Int) % 10)).toNat = 48 + u % 10 := by omega
  rw [e]
  exact cat1 [_] t
theorem val_str {a b : ByteArray} (h : a = b) : Value.string a = .string b := by rw [h]
theorem val_int {k : IntKind} {a b : Int} (h : a = b) : Value.int k a = .int k b := by rw [h]
theorem ret_str {a b : ByteArray} (h : a = b) : Ending.returned (.string a) = .returned (.string b) := by rw [h]
theorem itoa_of_neg {n : Int} {t : List UInt8} (h : n < 0) (hd : Digs n.natAbs 0 t) : itoa n = 45 :: t := by
  unfold itoa
  rw [if_pos h, digs_end hd]
theorem itoa_of_pos {n : Int} {t : List UInt8} (h : ¬ n < 0) (hd : Digs n.natAbs 0 t) : itoa n = t := by
  unfold itoa
  rw [if_neg h, ← digs_end hd]
  congr 1
  omega
set_option maxHeartbeats 400000 in
set_option maxRecDepth 100000 in
theorem spec_NumText (n : Int) (h0 : -9223372036854775808 ≤ n) (h1 : n ≤ 9223372036854775807) (w : World) :
    Calls Tryd.prog 17 #[.int .i64 n] w fun e w' => e = .returned (.string ⟨(Lib.itoa n).toArray⟩) ∧ Below w.heap.size w w' := by
  by_cases hn : n = 0
  · subst hn
    go_enter Tryd.func17, Tryd.ntmps17
    go_wp2
    go_ret
    exact ⟨ret_str (by rw [show itoa 0 = [48] by decide +kernel]), Below.refl _ _⟩
  go_enter Tryd.func17, Tryd.ntmps17
  go_wp2
  go_loopw [3, 4, 5] (fun s x _ wr => ∃ (t : List UInt8) (u : Nat), s = .string ⟨t.toArray⟩ ∧ x = .int .i64 (if n < 0 then -(u : Int) else u) ∧ u ≤ n.natAbs ∧ Hid (Digs n.natAbs u t) ∧ Below w.heap.size w wr) (fun _ x _ _ => (RowKit.intOf x).natAbs)
  case atStart => exact ⟨[], n.natAbs, rfl, by congr 1; split <;> omega, Nat.le_refl _, digs_start _ (by omega), Below.refl _ _⟩
  case round =>
    obtain ⟨t, u, rfl, rfl, hu, hd, hb⟩ := hrel
    have hlt := digs_len hd.out (by omega)
    by_cases hneg : n < 0
    · rw [if_pos hneg]
      by_cases hz : u = 0
      · subst hz
        go_wp2
        go_ret
        exact ⟨ret_str (by rw [itoa_of_neg hneg hd.out]; exact cat1 [45] t), hb⟩
      have e1 := conv1 wr (48 + -((u : Int) % 10)) (by omega) (by omega)
      have e2 := conv1 wr (48 + ((u : Int) % 10)) (by omega) (by omega)
      go_wp2
      · go_roundw
        case rel => exact ⟨_, u / 10, val_str (str_step u t), val_int (by rw [if_pos hneg]; omega), by omega, digs_step hd.out hz, hb.alloc hb.size _⟩
        case measure => simp [RowKit.intOf]; omega
      · go_roundw
        case rel => exact ⟨_, u / 10, val_str (str_step0 u t ‹_›), val_int (by rw [if_pos hneg]; omega), by omega, digs_step hd.out hz, hb.alloc hb.size _⟩
        case measure => simp [RowKit.intOf]; omega
    · rw [if_neg hneg]
      by_cases hz : u = 0
      · subst hz
        go_wp2
        go_ret
        exact ⟨ret_str (by rw [itoa_of_pos (by omega) hd.out]), hb⟩
      have e2 := conv1 wr (48 + ((u : Int) % 10)) (by omega) (by omega)
      go_wp2
      go_roundw
      case rel => exact ⟨_, u / 10, val_str (str_step u t), val_int (by rw [if_neg hneg]; omega), by omega, digs_step hd.out hz, hb.alloc hb.size _⟩
      case measure => simp [RowKit.intOf]; omega

theorem spec_In (x a b : Int) (w : World) : Calls Tryd.prog 38 #[.int .i64 x, .int .i64 a, .int .i64 b] w fun e w' => e = .returned (.bool (decide (a ≤ x) && decide (x ≤ b))) ∧ w = w' := by
  by_cases h1 : a ≤ x
  · by_cases h2 : x ≤ b
    all_goals
      go_enter Tryd.func38, Tryd.ntmps38
      go_wp2
      go_ret
      exact ⟨by simp [h1, h2], rfl⟩
  · go_enter Tryd.func38, Tryd.ntmps38
    go_wp2
    go_ret
    exact ⟨by simp; omega, rfl⟩
/-- ParseNum's two results, of what parseNum says. -/
def numTuple (o : Option Nat) : Value := .tuple #[.int .i64 (((o.getD 0 : Nat) : Int)), .bool o.isSome]
theorem ret_num {o : Option Nat} {v : Int} {b : Bool} (h1 : v = ((o.getD 0 : Nat) : Int)) (h2 : b = o.isSome) : Ending.returned (.tuple #[.int .i64 v, .bool b]) = .returned (numTuple o) := by subst h1; subst h2; rfl

theorem gPow : Tryd.prog.globalNamed "internal/strconv.uint64pow10" = some 0 := by kernel_rfl
end Go.Proofs.YtkilmefpaojkfaaDoor
/-
  The contract of the specification's ParseNum.
-/
namespace Go.Proofs.YtkilmefpaojkfaaDoor
open Go.RowKit Go.Lib

theorem In_yes (x a b : Int) (w : World) (h1 : a ≤ x) (h2 : x ≤ b) : Calls Tryd.prog 38 #[.int .i64 x, .int .i64 a, .int .i64 b] w fun e w' => e = .returned (.bool true) ∧ w = w' :=
  (spec_In x a b w).mono fun e w' ⟨he, hw⟩ => ⟨by rw [he]; simp [h1, h2], hw⟩
theorem In_no (x a b : Int) (w : World) (h : x < a ∨ b < x) : Calls Tryd.prog 38 #[.int .i64 x, .int .i64 a, .int .i64 b] w fun e w' => e = .returned (.bool false) ∧ w = w' :=
  (spec_In x a b w).mono fun e w' ⟨he, hw⟩ => ⟨by rw [he]; simp; omega, hw⟩

theorem at_byte (s : ByteArray) (k : Nat) (h : k < s.size) : s.data.toList[k]? = some s[k] := by
  rw [List.getElem?_eq_getElem (by simpa using h)]; rfl
theorem no_digit {s : ByteArray} {k : Nat} (h : k < s.size) (hd : ¬ (48 ≤ (s[k].toNat : Int) ∧ (s[k].toNat : Int) ≤ 57)) : parseNum s.data.toList = none := by
  apply spec_none_byte
  cases hc : decFrom 0 s.data.toList with
  | none => rfl
  | some n =>
    obtain ⟨d, hd'⟩ := digit_of_decFrom _ _ _ hc k _ (at_byte s k h)
    have := digitVal_eq hd'
    omega
theorem dec_next {s : ByteArray} {k m : Nat} (h : k < s.size) (hm : decFrom 0 (s.data.toList.take k) = some m) (h1 : 48 ≤ (s[k].toNat : Int)) (h2 : (s[k].toNat : Int) ≤ 57) :
    decFrom 0 (s.data.toList.take (k + 1)) = some (m * 10 + (s[k].toNat - 48)) := by
  refine decFrom_take _ k 0 m _ _ hm (at_byte s k h) ?_
  unfold digitVal
  rw [if_pos (by omega)]
theorem dec_all {s : ByteArray} {k m : Nat} (h : s.size ≤ k) (hm : decFrom 0 (s.data.toList.take k) = some m) : decFrom 0 s.data.toList = some m := by
  rwa [List.take_of_length_le (by simpa using h)] at hm

theorem out_none {s : ByteArray} (h : s.size = 0 ∨ 10 < s.size) : parseNum s.data.toList = none := by
  rcases h with h | h
  · have e : s.data.toList = [] := List.length_eq_zero_iff.1 (by simpa using h)
    rw [e]; exact spec_none_nil
  · exact spec_none_long (by simpa using h)
theorem head_of (s : ByteArray) (h : 0 < s.size) (h0 : (s[0].toNat : Int) = 48) : s.data.toList.head? = some 48 := by
  rw [List.head?_eq_getElem?, at_byte s 0 h]
  congr 1
  apply UInt8.toNat_inj.1
  show s[0].toNat = 48
  omega
theorem head_is (s : ByteArray) (h : 0 < s.size) (h0 : s.data.toList.head? = some 48) : (s[0].toNat : Int) = 48 := by
  rw [List.head?_eq_getElem?, at_byte s 0 h] at h0
  rw [Option.some.inj h0]; rfl

end Go.Proofs.YtkilmefpaojkfaaDoor
/-
  What NumText and ParseNum want of the package variables of Go's library, carried from world to world.
-/
namespace Go.Proofs.YtkilmefpaojkfaaDoor
open Go.RowKit Go.Lib

end Go.Proofs.YtkilmefpaojkfaaDoor
