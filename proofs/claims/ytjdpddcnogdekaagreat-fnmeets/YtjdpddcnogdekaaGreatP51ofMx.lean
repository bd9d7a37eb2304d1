/-
  Texts in one: AffAtI, MtAtP.
-/
import Derived.Test.YtjdpddcnogdekaaGreatP15ofMx
import Derived.Test.YtjdpddcnogdekaaGreatP20ofMx
import Derived.Test.YtjdpddcnogdekaaGreatP07ofMx
import Derived.Deep.RegionHeld
import Derived.Test.YtjdpddcnogdekaaGreatP49ofMx
/-
  The contract of the landed code's AffAt.
-/
namespace Go.Proofs.YtjdpddcnogdekaaGreat
open Go.RowKit Go.Lib
set_option linter.unusedSimpArgs false
set_option linter.unusedVariables false

/-- What a sum is, name by name, numbers going round. -/
def affGo8 (nm : ByteArray → Int) : Int → List AR → Int
  | c, [] => c
  | c, t :: r => affGo8 nm (IntKind.i64.wrap (c + IntKind.i64.wrap (t.n * nm t.s))) r
def affAt8 (c : Int) (ts bs : List AR) : Int := affGo8 (withN bs fun _ => 0) c ts
end Go.Proofs.YtjdpddcnogdekaaGreat
/-
  Where a sum may be, whatever all other names are: the two ways to say it are one.
-/
namespace Go.Proofs.YtjdpddcnogdekaaGreat
open Go.RowKit Go.Lib
set_option linter.unusedSimpArgs false
set_option linter.unusedVariables false

def sumW11 (nm : ByteArray → Int) : List AR → Int
  | [] => 0
  | t :: r => t.n * nm t.s + sumW11 nm r
theorem affGo_wrap (nm : ByteArray → Int) : ∀ (ts : List AR) (c : Int), -9223372036854775808 ≤ c ∧ c ≤ 9223372036854775807 → affGo8 nm c ts = wrap64 (c + sumW11 nm ts)
  | [], c, h => by rw [affGo8, sumW11]; unfold wrap64; omega
  | t :: r, c, h => by
    obtain ⟨p, hp⟩ : ∃ p, t.n * nm t.s = p := ⟨_, rfl⟩
    rw [affGo8, wrapE9, wrapE9, affGo_wrap nm r _ (by unfold wrap64; omega), sumW11, hp]
    unfold wrap64; omega
theorem bindOf_app (s : ByteArray) (b : AR) : ∀ (l : List AR), bindOf (l ++ [b]) s = (match bindOf l s with | some x => some x | none => if b.s = s then some b.n else none)
  | [] => by simp [bindOf]
  | a :: l => by
    rw [List.cons_append, bindOf, bindOf]
    split
    · rfl
    · exact bindOf_app s b l
theorem bindOf_none {s : ByteArray} : ∀ {l : List AR}, (∀ b ∈ l, ¬ b.s = s) → bindOf l s = none
  | [], _ => rfl
  | a :: l, h => by rw [bindOf, if_neg (h a (by simp)), bindOf_none (fun b hb => h b (by simp [hb]))]
theorem withN_cons {bs : List AR} {u : ByteArray} {m : Int} (hu : ∀ b ∈ bs, ¬ b.s = u) (x : ByteArray) : withN (⟨u, m⟩ :: bs) (fun _ => 0) x = withN bs (fun _ => 0) x + (if x = u then m else 0) := by
  unfold withN
  rw [List.reverse_cons, bindOf_app]
  by_cases hx : x = u
  · subst hx
    have h1 : bindOf bs.reverse x = none := bindOf_none (fun b hb => hu b (List.mem_reverse.1 hb))
    rw [h1]; simp
  · have hx2 : ¬ u = x := fun e => hx e.symm
    rw [if_neg hx]
    cases hh : bindOf bs.reverse x with
    | some y => simp
    | none => simp [hx2]
theorem sumW_add (f g : ByteArray → Int) : ∀ (ts : List AR), sumW11 (fun x => f x + g x) ts = sumW11 f ts + sumW11 g ts
  | [] => rfl
  | t :: r => by rw [sumW11, sumW11, sumW11, sumW_add f g r, Int.mul_add]; omega
theorem sumW_single (u : ByteArray) (m : Int) : ∀ (p : Option ByteArray) (ts : List AR), okFrom8 p ts = true → sumW11 (fun x => if x = u then m else 0) ts = coefA ts u * m
  | _, [], _ => by simp [sumW11, coefA]
  | p, t :: r, h => by
    rw [okFrom8, Bool.and_eq_true] at h
    have ih := sumW_single u m (some t.s) r h.2
    rw [sumW11, coefA]
    by_cases e : t.s = u
    · rw [if_pos e, if_pos e]
      have h0 : coefA r u = 0 := coefA_none _ _ (fun v hv e2 => by
        have := okFrom8_later r t.s h.2 v hv
        rw [e2, ← e, blt_irrefl] at this; cases this)
      rw [ih, h0]; omega
    · rw [if_neg e, if_neg e, ih]; omega
def sumB11 (ts bs : List AR) : Int := sumW11 (withN bs fun _ => 0) ts
theorem sumB_cons {ts bs : List AR} (hok : okFrom8 none ts = true) {u : ByteArray} {m : Int} (hu : ∀ b ∈ bs, ¬ b.s = u) : sumB11 ts (⟨u, m⟩ :: bs) = sumB11 ts bs + coefA ts u * m := by
  unfold sumB11
  rw [← sumW_single u m none ts hok, ← sumW_add]
  congr 1
  funext x
  exact withN_cons hu x
theorem sumB_nil (ts : List AR) : sumB11 ts [] = 0 := by
  unfold sumB11
  induction ts with
  | nil => rfl
  | cons t r ih => rw [sumW11, ih]; simp [withN, bindOf]
/-- The binds of the x-th way. -/
def bindsGo11 (s : ByteArray) : List RG → Nat → List AR → List AR
  | [], _, bs => bs
  | r :: rs, y, bs => if r.s = s then bindsGo11 s rs y bs else bindsGo11 s rs (y / cnt11 r) (⟨r.s, r.lo + ((y % cnt11 r : Nat) : Int)⟩ :: bs)
def prodS11 (s : ByteArray) : List RG → Nat
  | [] => 1
  | r :: rs => if r.s = s then prodS11 s rs else cnt11 r * prodS11 s rs
def valsL11 (c : Int) (ts : List AR) (s : ByteArray) (i : Int) (rs : List RG) : List Int := (List.range (prodS11 s rs)).map fun x => affAt8 c ts (bindsGo11 s rs x [⟨s, i⟩])
def Reach11 (ts : List AR) (s : ByteArray) : List RG → Int → Int → Prop
  | [], l, z => z = l
  | r :: rs, l, z => if coefA ts r.s = 0 ∨ r.s = s then Reach11 ts s rs l z else ∃ j : Nat, j < cnt11 r ∧ Reach11 ts s rs (wrap64 (l + wrap64 (coefA ts r.s * (r.lo + (j : Int))))) z
theorem reach_fold (ts : List AR) (s : ByteArray) (z : Int) : ∀ (rs : List RG) (L : List Int), z ∈ rs.foldl (stepP11 ts s) L ↔ ∃ l ∈ L, Reach11 ts s rs l z
  | [], L => by
    constructor
    · intro h; exact ⟨z, h, rfl⟩
    · rintro ⟨l, hl, rfl⟩; exact hl
  | r :: rs, L => by
    rw [List.foldl_cons, reach_fold ts s z rs]
    unfold stepP11
    by_cases h : coefA ts r.s = 0 ∨ r.s = s
    · rw [if_pos h]
      constructor
      · rintro ⟨l, hl, h2⟩; exact ⟨l, hl, by rw [Reach11, if_pos h]; exact h2⟩
      · rintro ⟨l, hl, h2⟩; rw [Reach11, if_pos h] at h2; exact ⟨l, hl, h2⟩
    · rw [if_neg h]
      constructor
      · rintro ⟨y, hy, h2⟩
        rw [(cmp11_all _).1, spreadL11, List.mem_flatMap] at hy
        obtain ⟨l, hl, hy⟩ := hy
        rw [rowOf11, List.mem_map] at hy
        obtain ⟨j, hj, rfl⟩ := hy
        exact ⟨l, hl, by rw [Reach11, if_neg h]; exact ⟨j, by simpa using hj, h2⟩⟩
      · rintro ⟨l, hl, h2⟩
        rw [Reach11, if_neg h] at h2
        obtain ⟨j, hj, h2⟩ := h2
        refine ⟨_, ?_, h2⟩
        rw [(cmp11_all _).1, spreadL11, List.mem_flatMap]
        exact ⟨l, hl, by rw [rowOf11, List.mem_map]; exact ⟨j, by simpa using hj, rfl⟩⟩
theorem reach_vals (c : Int) (ts : List AR) (hok : okFrom8 none ts = true) (s : ByteArray) (z : Int) : ∀ (rs : List RG) (bs : List AR), Fit9 rs → Dist9 rs → (∀ r ∈ rs, ¬ r.s = s → ∀ b ∈ bs, ¬ b.s = r.s) →
    ((∃ x, x < prodS11 s rs ∧ z = wrap64 (c + sumB11 ts (bindsGo11 s rs x bs))) ↔ Reach11 ts s rs (wrap64 (c + sumB11 ts bs)) z)
  | [], bs, _, _, _ => by
    constructor
    · rintro ⟨x, _, h⟩; exact h
    · intro h; exact ⟨0, by simp [prodS11], h⟩
  | r :: rs, bs, hf, hd, hb => by
    have hf2 : Fit9 rs := fun t ht => hf t (by simp [ht])
    obtain ⟨hd1, hd2⟩ := List.pairwise_cons.1 hd
    have hc1 : 1 ≤ cnt11 r := by have := (hf r (by simp)).1; unfold cnt11; omega
    by_cases hs : r.s = s
    · have ih := reach_vals c ts hok s z rs bs hf2 hd2 (fun t ht => hb t (by simp [ht]))
      rw [Reach11, if_pos (Or.inr hs), ← ih]
      constructor
      · rintro ⟨x, hx, h⟩
        rw [prodS11, if_pos hs] at hx
        rw [bindsGo11, if_pos hs] at h
        exact ⟨x, hx, h⟩
      · rintro ⟨x, hx, h⟩
        exact ⟨x, by rw [prodS11, if_pos hs]; exact hx, by rw [bindsGo11, if_pos hs]; exact h⟩
    · have hbr : ∀ b ∈ bs, ¬ b.s = r.s := hb r (by simp) hs
      have ih := fun (m : Int) => reach_vals c ts hok s z rs (⟨r.s, m⟩ :: bs) hf2 hd2 (fun t ht hts b hbm => by
        rcases List.mem_cons.1 hbm with rfl | hbm
        · exact hd1 t ht
        · exact hb t (by simp [ht]) hts b hbm)
      have key : (∃ x, x < prodS11 s (r :: rs) ∧ z = wrap64 (c + sumB11 ts (bindsGo11 s (r :: rs) x bs))) ↔ ∃ j : Nat, j < cnt11 r ∧ Reach11 ts s rs (wrap64 (c + sumB11 ts (⟨r.s, r.lo + (j : Int)⟩ :: bs))) z := by
        constructor
        · rintro ⟨x, hx, h⟩
          rw [prodS11, if_neg hs] at hx
          rw [bindsGo11, if_neg hs] at h
          exact ⟨x % cnt11 r, Nat.mod_lt _ hc1, (ih _).1 ⟨x / cnt11 r, Nat.div_lt_of_lt_mul hx, h⟩⟩
        · rintro ⟨j, hj, h⟩
          obtain ⟨y, hy, h2⟩ := (ih _).2 h
          refine ⟨y * cnt11 r + j, ?_, ?_⟩
          · rw [prodS11, if_neg hs]
            have h3 : (y + 1) * cnt11 r ≤ prodS11 s rs * cnt11 r := Nat.mul_le_mul_right _ hy
            rw [Nat.add_mul, Nat.one_mul] at h3
            rw [Nat.mul_comm (cnt11 r)]; omega
          · rw [bindsGo11, if_neg hs]
            have e1 : (y * cnt11 r + j) % cnt11 r = j := by rw [Nat.add_comm, Nat.add_mul_mod_self_right, Nat.mod_eq_of_lt hj]
            have e2 : (y * cnt11 r + j) / cnt11 r = y := by rw [Nat.add_comm, Nat.add_mul_div_right _ _ hc1, Nat.div_eq_of_lt hj, Nat.zero_add]
            rw [e1, e2]; exact h2
      rw [key]
      have hsum : ∀ m : Int, wrap64 (c + sumB11 ts (⟨r.s, m⟩ :: bs)) = wrap64 (wrap64 (c + sumB11 ts bs) + wrap64 (coefA ts r.s * m)) := fun m => by
        rw [sumB_cons hok hbr]
        obtain ⟨p, hp⟩ : ∃ p, coefA ts r.s * m = p := ⟨_, rfl⟩
        rw [hp]; unfold wrap64; omega
      by_cases h0 : coefA ts r.s = 0
      · rw [Reach11, if_pos (Or.inl h0)]
        have e : ∀ m : Int, wrap64 (c + sumB11 ts (⟨r.s, m⟩ :: bs)) = wrap64 (c + sumB11 ts bs) := fun m => by rw [sumB_cons hok hbr, h0, Int.zero_mul, Int.add_zero]
        constructor
        · rintro ⟨j, _, h⟩; rw [e] at h; exact h
        · intro h; exact ⟨0, hc1, by rw [e]; exact h⟩
      · rw [Reach11, if_neg (by simp [h0, hs])]
        constructor
        · rintro ⟨j, hj, h⟩; exact ⟨j, hj, by rw [← hsum]; exact h⟩
        · rintro ⟨j, hj, h⟩; exact ⟨j, hj, by rw [hsum]; exact h⟩
theorem vals_places {c : Int} {ts : List AR} (hok : affOk8 c ts = true) (s : ByteArray) (i : Int) {rs : List RG} (hf : Fit9 rs) (hd : Dist9 rs) (z : Int) : z ∈ valsL11 c ts s i rs ↔ z ∈ placesP11 c ts s i rs := by
  have hc := affOk_c hok
  have hk : okFrom8 none ts = true := by simp only [affOk8, Bool.and_eq_true] at hok; exact hok.2
  have h1 := reach_vals c ts hk s z rs [⟨s, i⟩] hf hd (fun r _ hr b hb => by simp only [List.mem_singleton] at hb; subst hb; exact fun e => hr e.symm)
  have hG : wrap64 (c + sumB11 ts [⟨s, i⟩]) = wrap64 (c + wrap64 (coefA ts s * i)) := by
    rw [sumB_cons hk (by simp), sumB_nil]
    obtain ⟨p, hp⟩ : ∃ p, coefA ts s * i = p := ⟨_, rfl⟩
    rw [hp]; unfold wrap64; omega
  rw [placesP11, reach_fold, valsL11, List.mem_map]
  rw [hG] at h1
  constructor
  · rintro ⟨x, hx, rfl⟩
    refine ⟨_, by simp, h1.1 ⟨x, by simpa using hx, ?_⟩⟩
    rw [affAt8, affGo_wrap _ _ _ (by omega)]; rfl
  · rintro ⟨l, hl, h⟩
    simp only [List.mem_singleton] at hl
    subst hl
    obtain ⟨x, hx, rfl⟩ := h1.2 h
    exact ⟨x, by simpa using hx, by rw [affAt8, affGo_wrap _ _ _ (by omega)]; rfl⟩
theorem both_vals {P Q P' Q' : List Int} (h1 : ∀ z, z ∈ P' ↔ z ∈ P) (h2 : ∀ z, z ∈ Q' ↔ z ∈ Q) : both11 P' Q' = both11 P Q := by
  rw [Bool.eq_iff_iff]
  simp only [both11, List.any_eq_true, decide_eq_true_eq, h1, h2]
end Go.Proofs.YtjdpddcnogdekaaGreat
