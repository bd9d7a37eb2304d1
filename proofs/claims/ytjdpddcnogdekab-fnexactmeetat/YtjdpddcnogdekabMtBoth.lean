/-
  inBoth, roundsTold of the landed code.
-/
import Derived.Test.YtjdpddcnogdekabMtSpread
import Derived.Test.YtjdpddcnogdekabRounds
namespace Go.Proofs.Ytjdpddcnogdekab
open Go.RowKit Go.Lib
set_option linter.unusedSimpArgs false
set_option linter.unusedVariables false

def both11 (P Q : List Int) : Bool := P.any fun x => Q.any fun y => decide (y = x)
def told11 (rs : List RG) : Bool := decide (0 < rounds9 rs) && decide (rounds9 rs ≤ 600)
theorem roundsTold_is (rs : List RG) (hn : rs.length ≤ 1000000000) (va : Value) (w : World) (ha : RV w 0 va rs) (v : Bool) (hv : told11 rs = v) :
    Calls Try.prog 28 #[va] w fun e w' => e = .returned (.bool v) ∧ Below w.heap.size w w' := by
  have C := Lib.hid (impl_Rounds rs hn va w ha)
  obtain ⟨x, hx⟩ : ∃ x, rounds9 rs = x := ⟨_, rfl⟩
  rw [hx] at C
  have HV : Hid ((decide (0 < x) && decide (x ≤ 600)) = v) := show _ = _ by rw [← hv, told11, hx]
  clear hx hv ha
  go_enter Try.func28, Try.ntmps28
  go_wp2_with fail
  refine C.out.mono ?_
  rintro e w1 ⟨rfl, hb⟩
  have B := Lib.hid hb
  clear hb C
  by_cases h1 : 0 < x
  · by_cases h2 : x ≤ 600
    · have HW : Hid (v = true) := show _ = _ by rw [← HV.out, decide_eq_true h1, decide_eq_true h2]; rfl
      go_wp2
      go_ret
      exact ⟨ret_bool (by rw [HW.out]), B.out⟩
    · have HW : Hid (v = false) := show _ = _ by rw [← HV.out, decide_eq_true h1, decide_eq_false h2]; rfl
      go_wp2
      go_ret
      exact ⟨ret_bool (by rw [HW.out]; exact decide_eq_false (by omega)), B.out⟩
  · have HW : Hid (v = false) := show _ = _ by rw [← HV.out, decide_eq_false h1]; rfl
    go_wp2
    go_ret
    exact ⟨by rw [HW.out]; rfl, B.out⟩
set_option maxHeartbeats 1000000 in
set_option maxRecDepth 100000 in
theorem inBoth_is (P Q : List Int) (hP : P.length ≤ 1000000) (hQ : Q.length ≤ 1000000) (hs : Q.Pairwise (· < ·)) (va vb : Value) (w : World) (ha : IV w 0 va P) (hb : IV w 0 vb Q) (v : Bool) (hv : both11 P Q = v) :
    Calls Try.prog 30 #[va, vb] w fun e w' => e = .returned (.bool v) ∧ w = w' := by
  obtain ⟨ao, ac, rfl, hra⟩ := ha
  obtain ⟨bo, bc, rfl, hrb⟩ := hb
  have HA := Lib.hid hra
  have HBb := Lib.hid hrb
  have hPI : (P.length : Int) ≤ 1000000 := by omega
  have hQI : (Q.length : Int) ≤ 1000000 := by omega
  have HS := Lib.hid hs
  have HV := Lib.hid hv
  clear hra hrb hs hP hQ hv
  go_enter Try.func30, Try.ntmps30
  go_wp2
  go_step3
  go_wp2
  go_step3
  go_wp2
  go_loop [5, 12] (fun m i => ∃ k : Nat, k ≤ P.length ∧ m = .bool false ∧ i = .int .i64 k ∧ Hid (∀ x ∈ P.take k, x ∉ Q)) (fun _ i => P.length - (RowKit.intOf i).toNat)
  case atStart => exact ⟨0, by omega, rfl, rfl, by intro x hx; simp at hx⟩
  case round =>
    obtain ⟨k, hk, rfl, rfl, HN⟩ := hrel
    by_cases hlt : k < P.length
    · have hltI : (k : Int) < (P.length : Int) := by omega
      obtain ⟨x, hx⟩ : ∃ x, P[k]? = some x := ⟨P[k], List.getElem?_eq_getElem hlt⟩
      rcases HA.out with hr | ⟨g, off, rfl, _, gl, hc⟩
      · subst hr; simp at hlt
      have A0 := hc k x hx
      have HX := Lib.hid hx
      clear hc hx
      go_wp2
      go_loop [5, 18] (fun m i => ∃ j : Nat, j ≤ Q.length ∧ m = .bool false ∧ i = .int .i64 j ∧ Hid (∀ y ∈ Q.take j, y < x)) (fun _ i => Q.length - (RowKit.intOf i).toNat)
      case atStart => exact ⟨0, by omega, rfl, rfl, by intro x hx; simp at hx⟩
      case round =>
        obtain ⟨j, hj, rfl, rfl, HY⟩ := hrel
        by_cases hjl : j < Q.length
        · have hjlI : (j : Int) < (Q.length : Int) := by omega
          obtain ⟨y, hy⟩ : ∃ y, Q[j]? = some y := ⟨Q[j], List.getElem?_eq_getElem hjl⟩
          rcases HBb.out with hr | ⟨g2, off2, rfl, _, gl2, hc2⟩
          · subst hr; simp at hjl
          have B0 := hc2 j y hy
          have HYj := Lib.hid hy
          clear hc2 hy
          by_cases h1 : y = x
          · have HW : Hid (v = true) := show _ = _ by
              rw [← HV.out, both11, List.any_eq_true]
              refine ⟨x, List.mem_of_getElem? HX.out, ?_⟩
              rw [List.any_eq_true]
              exact ⟨y, List.mem_of_getElem? HYj.out, by simp [h1]⟩
            subst h1
            go_wp2
            go_ret
            exact ⟨by rw [HW.out]; rfl, rfl⟩
          · by_cases h2 : y > x
            · have HN2 : Hid (∀ z ∈ P.take (k + 1), z ∉ Q) := by
                intro z hz hzq
                rw [List.take_add_one, HX.out] at hz
                rcases List.mem_append.1 hz with hz | hz
                · exact HN.out z hz hzq
                · simp only [Option.toList_some, List.mem_singleton] at hz
                  subst hz
                  obtain ⟨i, hi, e⟩ := List.getElem_of_mem hzq
                  by_cases hij : i < j
                  · have := HY.out z (by rw [← e]; exact List.mem_take_iff_getElem.2 ⟨i, by omega, rfl⟩); omega
                  · have hyj : Q[j] = y := by have := HYj.out; rw [List.getElem?_eq_getElem hjl] at this; injection this
                    by_cases hij2 : i = j
                    · subst hij2; omega
                    · have := List.pairwise_iff_getElem.1 HS.out j i hjl hi (by omega); omega
              have h1b : (y == x) = false := by simp [h1]
              go_wp2
              go_round
              case rel => exact ⟨k + 1, by omega, rfl, by go_num, HN2.out⟩
              case measure => simp [RowKit.intOf]; omega
            · have HY2 : Hid (∀ z ∈ Q.take (j + 1), z < x) := by
                intro z hz
                rw [List.take_add_one, HYj.out] at hz
                rcases List.mem_append.1 hz with hz | hz
                · exact HY.out z hz
                · simp only [Option.toList_some, List.mem_singleton] at hz; subst hz; omega
              have h1b : (y == x) = false := by simp [h1]
              go_wp2
              go_round
              case rel => exact ⟨j + 1, by omega, rfl, by go_num, HY2.out⟩
              case measure => simp [RowKit.intOf]; omega
        · have HN2 : Hid (∀ z ∈ P.take (k + 1), z ∉ Q) := by
            intro z hz hzq
            rw [List.take_add_one, HX.out] at hz
            rcases List.mem_append.1 hz with hz | hz
            · exact HN.out z hz hzq
            · simp only [Option.toList_some, List.mem_singleton] at hz
              subst hz
              have := HY.out z (by rw [List.take_of_length_le (by omega)]; exact hzq)
              omega
          go_wp2
          go_round
          case rel => exact ⟨k + 1, by omega, rfl, by go_num, HN2.out⟩
          case measure => simp [RowKit.intOf]; omega
    · have HW : Hid (v = false) := show _ = _ by
        rw [← HV.out, both11]
        cases hh : P.any fun x => Q.any fun y => decide (y = x) with
        | false => rfl
        | true =>
          obtain ⟨x, hx, h2⟩ := List.any_eq_true.1 hh
          obtain ⟨y, hy, h3⟩ := List.any_eq_true.1 h2
          have h4 : y = x := by simpa using h3
          subst h4
          exact absurd hy (HN.out y (by rw [List.take_of_length_le (by omega)]; exact hx))
      go_wp2
      go_ret
      exact ⟨by rw [HW.out]; rfl, rfl⟩
end Go.Proofs.Ytjdpddcnogdekab
