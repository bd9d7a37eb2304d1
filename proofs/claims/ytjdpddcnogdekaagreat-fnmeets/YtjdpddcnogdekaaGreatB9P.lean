/-
  A small sum over three small ranges, plainly: its least and its most are met, and it is never less or more.
-/
import Derived.Test.YtjdpddcnogdekaaGreatAffsP9
import Derived.Test.YtjdpddcnogdekaaGreatP38ofMx
import Derived.Test.YtjdpddcnogdekaaGreatP15ofMx
namespace Go.Proofs.YtjdpddcnogdekaaGreat
open Go.RowKit Go.Lib
set_option linter.unusedSimpArgs false
set_option linter.unusedVariables false

def nI : ByteArray := ⟨#[105]⟩
def nJ : ByteArray := ⟨#[106]⟩
def nK : ByteArray := ⟨#[107]⟩
theorem nIJ : ¬ nI = nJ := by decide
theorem nIK : ¬ nI = nK := by decide
theorem nJK : ¬ nJ = nK := by decide
theorem nJI : ¬ nJ = nI := by decide
theorem nKI : ¬ nK = nI := by decide
theorem nKJ : ¬ nK = nJ := by decide
theorem mul_b9 {a x : Int} (h1 : -4 ≤ a ∧ a ≤ 4) (h2 : -20 ≤ x ∧ x ≤ 20) : -80 ≤ a * x ∧ a * x ≤ 80 := by
  have : a = -4 ∨ a = -3 ∨ a = -2 ∨ a = -1 ∨ a = 0 ∨ a = 1 ∨ a = 2 ∨ a = 3 ∨ a = 4 := by omega
  rcases this with rfl | rfl | rfl | rfl | rfl | rfl | rfl | rfl | rfl <;> omega
/-- Where the least (the most) of n times a range is. -/
def pt9 (most : Bool) (n : Int) (r : RG) : Int := if (decide (n > 0) == most) = true then r.hi else r.lo
theorem end_pt9 (most : Bool) (n : Int) (r : RG) : end9 most n r = n * pt9 most n r := rfl
theorem pt_in9 (most : Bool) (n : Int) (r : RG) (h : r.lo ≤ r.hi) : r.lo ≤ pt9 most n r ∧ pt9 most n r ≤ r.hi := by
  unfold pt9; split <;> omega
theorem end_bd9 {n x : Int} {r : RG} (hn : -4 ≤ n ∧ n ≤ 4) (h : r.lo ≤ x ∧ x ≤ r.hi) : end9 false n r ≤ n * x ∧ n * x ≤ end9 true n r := by
  have : n = -4 ∨ n = -3 ∨ n = -2 ∨ n = -1 ∨ n = 0 ∨ n = 1 ∨ n = 2 ∨ n = 3 ∨ n = 4 := by omega
  rcases this with rfl | rfl | rfl | rfl | rfl | rfl | rfl | rfl | rfl <;> simp [end9] <;> omega
/-- The sum at three numbers. -/
def at3 (c : Int) (ts : List AR) (x y z : Int) : Int := affAt8 c ts [⟨nI, x⟩, ⟨nJ, y⟩, ⟨nK, z⟩]
theorem nm3_mem {j : Nat} {s : ByteArray} (h : nm3[j]? = some s) : s ∈ [nI, nJ, nK] := List.mem_of_getElem? (l := [nI, nJ, nK]) (i := j) h
theorem at3_is {c : Int} {ts : List AR} (h : Small8 c ts) {x y z : Int} (hx : -20 ≤ x ∧ x ≤ 20) (hy : -20 ≤ y ∧ y ≤ 20) (hz : -20 ≤ z ∧ z ≤ 20) :
    at3 c ts x y z = c + (coefA ts nI * x + (coefA ts nJ * y + coefA ts nK * z)) := by
  have hc := h.1
  have h1 := mul_b9 (coefA_sm8 nI ts h.b4) hx
  have h2 := mul_b9 (coefA_sm8 nJ ts h.b4) hy
  have h3 := mul_b9 (coefA_sm8 nK ts h.b4) hz
  have hp : [nI, nJ, nK].Pairwise (fun a b => a ≠ b) := by
    refine List.pairwise_cons.2 ⟨fun b hb => ?_, List.pairwise_cons.2 ⟨fun b hb => ?_, by simp⟩⟩
    · simp only [List.mem_cons, List.not_mem_nil, or_false] at hb
      rcases hb with rfl | rfl
      · exact nIJ
      · exact nIK
    · simp only [List.mem_cons, List.not_mem_nil, or_false] at hb
      subst hb; exact nJK
  have f1 : withN [⟨nI, x⟩, ⟨nJ, y⟩, ⟨nK, z⟩] (fun _ => 0) nI = x := by simp [withN, bindOf, nJI, nKI]
  have f2 : withN [⟨nI, x⟩, ⟨nJ, y⟩, ⟨nK, z⟩] (fun _ => 0) nJ = y := by simp [withN, bindOf, nKJ]
  have f3 : withN [⟨nI, x⟩, ⟨nJ, y⟩, ⟨nK, z⟩] (fun _ => 0) nK = z := by simp [withN, bindOf]
  rw [at3, affAt8, affGo8_is _ ts c (wrap8 (by omega) (by omega)), sumT8_N _ [nI, nJ, nK] hp ts h.2.1 (fun t ht => by obtain ⟨j, hj⟩ := h.nm t ht; exact nm3_mem hj), sumN8, sumN8, sumN8, sumN8, f1, f2, f3, wrap8 (by omega) (by omega)]
  omega
/-- What the drawn ranges are. -/
theorem box3 {rs : List RG} (h : Bx9 3 rs) : ∃ l0 h0 l1 h1 l2 h2, rs = [⟨nI, l0, h0⟩, ⟨nJ, l1, h1⟩, ⟨nK, l2, h2⟩] ∧ (-1 ≤ l0 ∧ l0 ≤ 3 ∧ l0 ≤ h0 ∧ h0 ≤ l0 + 4) ∧ (-1 ≤ l1 ∧ l1 ≤ 3 ∧ l1 ≤ h1 ∧ h1 ≤ l1 + 4) ∧ (-1 ≤ l2 ∧ l2 ≤ 3 ∧ l2 ≤ h2 ∧ h2 ≤ l2 + 4) := by
  obtain ⟨hl, hh⟩ := h
  match rs, hl with
  | [⟨s0, l0, h0⟩, ⟨s1, l1, h1⟩, ⟨s2, l2, h2⟩], _ =>
    obtain ⟨a0, b0⟩ := hh 0 _ rfl
    obtain ⟨a1, b1⟩ := hh 1 _ rfl
    obtain ⟨a2, b2⟩ := hh 2 _ rfl
    have e0 : nI = s0 := Option.some.inj a0
    have e1 : nJ = s1 := Option.some.inj a1
    have e2 : nK = s2 := Option.some.inj a2
    subst e0; subst e1; subst e2
    exact ⟨l0, h0, l1, h1, l2, h2, rfl, b0, b1, b2⟩
theorem inE9 {n : Int} (h : -10000 ≤ n ∧ n ≤ 10000) : inEnd9 n = true := by simp [inEnd9, h.1, h.2]
theorem box_ok9 {l0 h0 l1 h1 l2 h2 : Int} (b0 : -1 ≤ l0 ∧ l0 ≤ 3 ∧ l0 ≤ h0 ∧ h0 ≤ l0 + 4) (b1 : -1 ≤ l1 ∧ l1 ≤ 3 ∧ l1 ≤ h1 ∧ h1 ≤ l1 + 4) (b2 : -1 ≤ l2 ∧ l2 ≤ 3 ∧ l2 ≤ h2 ∧ h2 ≤ l2 + 4) :
    boxOk9 [⟨nI, l0, h0⟩, ⟨nJ, l1, h1⟩, ⟨nK, l2, h2⟩] = true ∧ waysOk9 [⟨nI, l0, h0⟩, ⟨nJ, l1, h1⟩, ⟨nK, l2, h2⟩] = true := by
  have o1 : nameOk nI.data.toList = true := by decide +kernel
  have o2 : nameOk nJ.data.toList = true := by decide +kernel
  have o3 : nameOk nK.data.toList = true := by decide +kernel
  have g1 : ¬ l0 > h0 := by omega
  have g2 : ¬ l1 > h1 := by omega
  have g3 : ¬ l2 > h2 := by omega
  have hb : boxOk9 [⟨nI, l0, h0⟩, ⟨nJ, l1, h1⟩, ⟨nK, l2, h2⟩] = true := by
    simp [boxOk9, boxGo9, rgOk9, hasR9, o1, o2, o3, nIJ, nIK, nJK, inE9 (n := l0) (by omega), inE9 (n := h0) (by omega), inE9 (n := l1) (by omega), inE9 (n := h1) (by omega), inE9 (n := l2) (by omega), inE9 (n := h2) (by omega)]
  refine ⟨hb, ?_⟩
  rw [waysOk9, hb]
  simp [g1, g2, g3]
theorem all_in9 {c : Int} {ts : List AR} (h : Small8 c ts) (l0 h0 l1 h1 l2 h2 : Int) : (ts.all fun t => hasR9 [⟨nI, l0, h0⟩, ⟨nJ, l1, h1⟩, ⟨nK, l2, h2⟩] t.s) = true := by
  rw [List.all_eq_true]
  intro t ht
  obtain ⟨j, hj⟩ := h.nm t ht
  have := nm3_mem hj
  simp only [List.mem_cons, List.not_mem_nil, or_false] at this
  rcases this with e | e | e <;> simp [hasR9, e]
theorem far3 {c : Int} {ts : List AR} (h : Small8 c ts) {l0 h0 l1 h1 l2 h2 : Int} (b0 : -1 ≤ l0 ∧ l0 ≤ 3 ∧ l0 ≤ h0 ∧ h0 ≤ l0 + 4) (b1 : -1 ≤ l1 ∧ l1 ≤ 3 ∧ l1 ≤ h1 ∧ h1 ≤ l1 + 4) (b2 : -1 ≤ l2 ∧ l2 ≤ 3 ∧ l2 ≤ h2 ∧ h2 ≤ l2 + 4) (m : Bool) :
    far9 m c ts [⟨nI, l0, h0⟩, ⟨nJ, l1, h1⟩, ⟨nK, l2, h2⟩] = some (at3 c ts (pt9 m (coefA ts nI) ⟨nI, l0, h0⟩) (pt9 m (coefA ts nJ) ⟨nJ, l1, h1⟩) (pt9 m (coefA ts nK) ⟨nK, l2, h2⟩)) := by
  obtain ⟨_, hw⟩ := box_ok9 b0 b1 b2
  have ha := all_in9 h l0 h0 l1 h1 l2 h2
  have p0 := pt_in9 m (coefA ts nI) ⟨nI, l0, h0⟩ b0.2.2.1
  have p1 := pt_in9 m (coefA ts nJ) ⟨nJ, l1, h1⟩ b1.2.2.1
  have p2 := pt_in9 m (coefA ts nK) ⟨nK, l2, h2⟩ b2.2.2.1
  simp only at p0 p1 p2
  have q0 : -20 ≤ pt9 m (coefA ts nI) ⟨nI, l0, h0⟩ ∧ pt9 m (coefA ts nI) ⟨nI, l0, h0⟩ ≤ 20 := by omega
  have q1 : -20 ≤ pt9 m (coefA ts nJ) ⟨nJ, l1, h1⟩ ∧ pt9 m (coefA ts nJ) ⟨nJ, l1, h1⟩ ≤ 20 := by omega
  have q2 : -20 ≤ pt9 m (coefA ts nK) ⟨nK, l2, h2⟩ ∧ pt9 m (coefA ts nK) ⟨nK, l2, h2⟩ ≤ 20 := by omega
  have s1 := mul_b9 (coefA_sm8 nI ts h.b4) q0
  have s2 := mul_b9 (coefA_sm8 nJ ts h.b4) q1
  have s3 := mul_b9 (coefA_sm8 nK ts h.b4) q2
  have hc := h.1
  have hok : okFrom8 none ts = true := by have := h.ok; rw [affOk8, Bool.and_eq_true] at this; exact this.2
  have hs := sum_swap9 m _ (dist_of hw) none ts hok ha
  rw [far9, h.ok, hw, ha, if_pos (by rfl), ← hs, at3_is h q0 q1 q2, sumR9, sumR9, sumR9, sumR9]
  simp only [end_pt9]
  rw [wrap8 (by omega) (by omega)]
  congr 1
  omega
/-- All that the law asks of the least and the most. -/
structure Ends9 (c : Int) (ts : List AR) (l0 h0 l1 h1 l2 h2 : Int) (m : Bool) (v X Y Z : Int) : Prop where
  x : l0 ≤ X ∧ X ≤ h0
  y : l1 ≤ Y ∧ Y ≤ h1
  z : l2 ≤ Z ∧ Z ≤ h2
  is : at3 c ts X Y Z = v
  rg : -300 ≤ v ∧ v ≤ 300
  bd : ∀ x y z, (l0 ≤ x ∧ x ≤ h0) → (l1 ≤ y ∧ y ≤ h1) → (l2 ≤ z ∧ z ≤ h2) → if m = true then at3 c ts x y z ≤ v else v ≤ at3 c ts x y z
theorem ends3 {c : Int} {ts : List AR} (h : Small8 c ts) {l0 h0 l1 h1 l2 h2 : Int} (b0 : -1 ≤ l0 ∧ l0 ≤ 3 ∧ l0 ≤ h0 ∧ h0 ≤ l0 + 4) (b1 : -1 ≤ l1 ∧ l1 ≤ 3 ∧ l1 ≤ h1 ∧ h1 ≤ l1 + 4) (b2 : -1 ≤ l2 ∧ l2 ≤ 3 ∧ l2 ≤ h2 ∧ h2 ≤ l2 + 4) (m : Bool) :
    ∃ v X Y Z, far9 m c ts [⟨nI, l0, h0⟩, ⟨nJ, l1, h1⟩, ⟨nK, l2, h2⟩] = some v ∧ Ends9 c ts l0 h0 l1 h1 l2 h2 m v X Y Z := by
  have p0 := pt_in9 m (coefA ts nI) ⟨nI, l0, h0⟩ b0.2.2.1
  have p1 := pt_in9 m (coefA ts nJ) ⟨nJ, l1, h1⟩ b1.2.2.1
  have p2 := pt_in9 m (coefA ts nK) ⟨nK, l2, h2⟩ b2.2.2.1
  simp only at p0 p1 p2
  have c1 := coefA_sm8 nI ts h.b4
  have c2 := coefA_sm8 nJ ts h.b4
  have c3 := coefA_sm8 nK ts h.b4
  have e := at3_is h (x := pt9 m (coefA ts nI) ⟨nI, l0, h0⟩) (y := pt9 m (coefA ts nJ) ⟨nJ, l1, h1⟩) (z := pt9 m (coefA ts nK) ⟨nK, l2, h2⟩) (by omega) (by omega) (by omega)
  have s1 := mul_b9 c1 (x := pt9 m (coefA ts nI) ⟨nI, l0, h0⟩) (by omega)
  have s2 := mul_b9 c2 (x := pt9 m (coefA ts nJ) ⟨nJ, l1, h1⟩) (by omega)
  have s3 := mul_b9 c3 (x := pt9 m (coefA ts nK) ⟨nK, l2, h2⟩) (by omega)
  have hc := h.1
  refine ⟨_, _, _, _, far3 h b0 b1 b2 m, p0, p1, p2, rfl, by rw [e]; omega, fun x y z hx hy hz => ?_⟩
  have g := at3_is h (x := x) (y := y) (z := z) (by omega) (by omega) (by omega)
  have d1 := end_bd9 (r := ⟨nI, l0, h0⟩) c1 hx
  have d2 := end_bd9 (r := ⟨nJ, l1, h1⟩) c2 hy
  have d3 := end_bd9 (r := ⟨nK, l2, h2⟩) c3 hz
  simp only [end_pt9] at d1 d2 d3
  rw [e, g]
  cases m with
  | true => rw [if_pos rfl]; omega
  | false => rw [if_neg (by decide)]; omega
theorem mul5 {a b A : Int} (h1 : 1 ≤ a ∧ a ≤ A) (h2 : 1 ≤ b ∧ b ≤ 5) : 1 ≤ a * b ∧ a * b ≤ 5 * A := by
  have : b = 1 ∨ b = 2 ∨ b = 3 ∨ b = 4 ∨ b = 5 := by omega
  rcases this with rfl | rfl | rfl | rfl | rfl <;> omega
theorem rounds3 {l0 h0 l1 h1 l2 h2 : Int} (b0 : -1 ≤ l0 ∧ l0 ≤ 3 ∧ l0 ≤ h0 ∧ h0 ≤ l0 + 4) (b1 : -1 ≤ l1 ∧ l1 ≤ 3 ∧ l1 ≤ h1 ∧ h1 ≤ l1 + 4) (b2 : -1 ≤ l2 ∧ l2 ≤ 3 ∧ l2 ≤ h2 ∧ h2 ≤ l2 + 4) :
    rounds9 [⟨nI, l0, h0⟩, ⟨nJ, l1, h1⟩, ⟨nK, l2, h2⟩] = (h0 - l0 + 1) * ((h1 - l1 + 1) * (h2 - l2 + 1)) := by
  have d1 := mul5 (a := h0 - l0 + 1) (b := h1 - l1 + 1) (A := 5) (by omega) (by omega)
  have d2 := mul5 (a := (h0 - l0 + 1) * (h1 - l1 + 1)) (b := h2 - l2 + 1) (A := 25) (by omega) (by omega)
  have e1 : lim9 (1 * (h0 - l0 + 1)) = h0 - l0 + 1 := by rw [lim9, if_neg (by omega)]; omega
  have e2 : lim9 ((h0 - l0 + 1) * (h1 - l1 + 1)) = (h0 - l0 + 1) * (h1 - l1 + 1) := by rw [lim9, if_neg (by omega)]
  have e3 : lim9 ((h0 - l0 + 1) * (h1 - l1 + 1) * (h2 - l2 + 1)) = (h0 - l0 + 1) * (h1 - l1 + 1) * (h2 - l2 + 1) := by rw [lim9, if_neg (by omega)]
  rw [rounds9, (box_ok9 b0 b1 b2).2, if_pos rfl, ways9, ways9, ways9, ways9]
  simp only [e1, e2, e3]
  rw [Int.mul_assoc]
end Go.Proofs.YtjdpddcnogdekaaGreat
