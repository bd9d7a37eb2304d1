/-
  Texts in one: MtSpread, MtBoth.
-/
import Derived.Test.YtjdpddcnogdekaaGreatMtSort
import Derived.Test.YtjdpddcnogdekaaGreatMtRestS
import Derived.Test.YtjdpddcnogdekaaGreatRounds
/-
  spread, inBoth, roundsTold of the landed code.
-/
namespace Go.Proofs.YtjdpddcnogdekaaGreat
open Go.RowKit Go.Lib
set_option linter.unusedSimpArgs false
set_option linter.unusedVariables false

theorem infoI11 : (Tryz.prog.info? 3).map (fun i => (i.zero, i.size, i.bytes)) = some (some (.int .i64 0), 1, 8) := by kernel_rfl
theorem appI11 {w : World} {B n : Nat} {v : Value} {X : List Int} (hown : w.ownsRow B 3 1 v n (ints X)) (hB : B ≤ w.heap.size) (z : Int) (hn : n ≤ 1000000) (ty : TypeId) :
    ∃ v' w', (Builtin.append_ #[66, 66] ty #[v, .slice (some ⟨w.heap.size, 0, Option.none⟩) 1 1]).run Tryz.prog (w.alloc (.cells #[.int .i64 z] 3)) = .ok v' w' ∧ w'.ownsRow B 3 1 v' (n + 1) (ints (X ++ [z])) ∧ Below B w w' := by
  obtain ⟨i0, hi, hz0, hz1, hz2⟩ := info_parts infoI11
  have ho := hown.alloc (.cells #[.int .i64 z] 3)
  obtain ⟨v', w', h1, h2, h3, _⟩ := run_append_own (P := Tryz.prog) (w.alloc (.cells #[.int .i64 z] 3)) B 66 ty 3 i0 _ 1 8 Tryz.underlying66 hi hz0 hz1 hz2 rfl (by decide) v n (ints X) ho ⟨w.heap.size, 0, Option.none⟩ 1 1 [.int .i64 z] rfl (fun j u hj => by
    match j, hj with
    | 0, hj =>
      have e : (⟨w.heap.size, 0, Option.none⟩ : Addr).add 0 = ⟨w.heap.size, 0, Option.none⟩ := by simp [Addr.add]
      rw [e]
      have hh : (w.alloc (.cells #[.int .i64 z] 3)).heap[w.heap.size]? = some (.cells #[.int .i64 z] 3 (0, 0)) := heap_last _ _
      simp only [World.cell?, hh]; simpa using hj
    | j + 1, hj => simp at hj) (fun u hu => by simp only [List.mem_singleton] at hu; subst hu; rfl) (by unfold maxLen; omega) (by omega) (by simp; omega)
  refine ⟨v', w', h1, by rw [show ints (X ++ [z]) = ints X ++ [.int .i64 z] by simp [ints]]; exact h2, ?_⟩
  exact ((alloc_below w _).mono hB).grown h3 (by simp; omega) (fun k hk => (ho.lt k hk).1)
def rowOf11 (n lo x : Int) (f : Nat) : List Int := (List.range f).map fun (j : Nat) => wrap64 (x + wrap64 (n * (lo + (j : Int))))
def spreadL11 (n lo : Int) (f : Nat) (P : List Int) : List Int := P.flatMap fun x => rowOf11 n lo x f
theorem rowOf11_len (n lo x : Int) (f : Nat) : (rowOf11 n lo x f).length = f := by simp [rowOf11]
theorem rowOf11_succ (n lo x : Int) (f : Nat) : rowOf11 n lo x (f + 1) = rowOf11 n lo x f ++ [wrap64 (x + wrap64 (n * (lo + (f : Int))))] := by simp [rowOf11, List.range_succ]
theorem spreadL11_len (n lo : Int) (f : Nat) (P : List Int) : (spreadL11 n lo f P).length = P.length * f := by
  induction P with
  | nil => simp [spreadL11]
  | cons x P ih => simp only [spreadL11, List.flatMap_cons, List.length_append, rowOf11_len, List.length_cons] at ih ⊢; rw [ih, Nat.add_mul, Nat.one_mul, Nat.add_comm]
theorem spreadL11_take {n lo : Int} {f : Nat} {P : List Int} {k : Nat} {x : Int} (h : P[k]? = some x) : spreadL11 n lo f (P.take (k + 1)) = spreadL11 n lo f (P.take k) ++ rowOf11 n lo x f := by
  rw [List.take_add_one, h, spreadL11, List.flatMap_append]; simp [spreadL11]
set_option maxHeartbeats 1000000 in
set_option maxRecDepth 100000 in
theorem spread_is (P : List Int) (n : Int) (r : RG) (f : Nat) (hf : (f : Int) = r.hi - r.lo + 1) (hb1 : -10000 ≤ r.lo ∧ r.lo ≤ 10000) (hb2 : -10000 ≤ r.hi ∧ r.hi ≤ 10000) (hP : P.length * f ≤ 100000) (hP2 : P.length ≤ 100000) (v : Value) (w : World) (hv : IV w 0 v P) :
    Calls Tryz.prog 63 #[v, .int .i64 n, .agg #[.string r.s, .int .i64 r.lo, .int .i64 r.hi]] w fun e w' => ∃ v', e = .returned v' ∧ IV w' 0 v' (cmp11 (spreadL11 n r.lo f P)) ∧ Below w.heap.size w w' := by
  obtain ⟨ao, cap, rfl, hr⟩ := hv
  have Hr := Lib.hid hr
  have HP := Lib.hid (And.intro hP hP2)
  have hPI : (P.length : Int) ≤ 100000 := by omega
  have HF := Lib.hid (And.intro hf (And.intro hb1 hb2))
  have hb0 : Below w.heap.size w ((w.alloc (.cells #[.string r.s, .int .i64 r.lo, .int .i64 r.hi] 32)).alloc (.cells #[] 3)) := (alloc_below w _).alloc (by simp) _
  obtain ⟨q0, q1⟩ := heap2q w (.cells #[.string r.s, .int .i64 r.lo, .int .i64 r.hi] 32) (.cells #[] 3)
  have hown0 : ((w.alloc (.cells #[.string r.s, .int .i64 r.lo, .int .i64 r.hi] 32)).alloc (.cells #[] 3)).ownsRow (w.heap.size + 1) 3 1 (.slice (some ⟨w.heap.size + 1, 0, Option.none⟩) 0 0) 0 (ints []) :=
    ⟨by simp [ints], .inr ⟨w.heap.size + 1, 0, #[], rfl, Nat.le_refl _, q1, Nat.le_refl _, by simp [maxLen], by simp, by simp [ints]⟩⟩
  obtain ⟨wB, hwB⟩ : ∃ wB, wB = (w.alloc (.cells #[.string r.s, .int .i64 r.lo, .int .i64 r.hi] 32)).alloc (.cells #[] 3) := ⟨_, rfl⟩
  rw [← hwB] at hb0 q0 hown0
  have hszB : wB.heap.size = w.heap.size + 1 + 1 := by rw [hwB]; simp
  have BX := Lib.hid (fun (wr : World) (hb : Below (w.heap.size + 1) wB wr) => blk3 ((hb.block w.heap.size (Nat.lt_succ_self _)).trans q0))
  have LOW := Lib.hid (fun (wr : World) (hb : Below (w.heap.size + 1) wB wr) => hb0.trans (hb.mono (Nat.le_succ _)))
  have O0 := Lib.hid hown0
  clear hr hP hP2 hf hb1 hb2 hb0 q0 q1 hown0
  go_enter Tryz.func63, Tryz.ntmps63
  go_wp2
  rw [← hwB]
  go_loopw [7, 14] (fun u i wr => ∃ (k : Nat) (L : List Int), k ≤ P.length ∧ i = .int .i64 (k : Int) ∧ Hid (L = spreadL11 n r.lo f (P.take k)) ∧ Hid (wr.ownsRow (w.heap.size + 1) 3 1 u L.length (ints L)) ∧ Hid (Below (w.heap.size + 1) wB wr)) (fun _ i _ => P.length - (RowKit.intOf i).toNat)
  case atStart => exact ⟨0, [], Nat.zero_le _, rfl, (by show _ = _; simp [spreadL11]), O0.out, Below.refl _ _⟩
  case round =>
    obtain ⟨k, L, hk, rfl, HL, HO, HB⟩ := hrel
    obtain ⟨ua, uc, rfl⟩ := ownShape11 HO.out
    by_cases hlt : k < P.length
    · have hltI : (k : Int) < (P.length : Int) := by omega
      obtain ⟨x, hx⟩ : ∃ x, P[k]? = some x := ⟨P[k], List.getElem?_eq_getElem hlt⟩
      rcases Hr.out with hr | ⟨g, off, rfl, _, gl, hc⟩
      · subst hr; simp at hlt
      have A0 := ((LOW.out wr HB.out).cell (p := ⟨g, off + k, Option.none⟩) gl).trans (hc k x hx)
      obtain ⟨y0, y1, y2⟩ := BX.out wr HB.out
      have HX := Lib.hid hx
      clear hc hx
      go_wp2
      go_loopw [7, 10] (fun u i wr => ∃ (j : Nat) (M : List Int), j ≤ f ∧ i = .int .i64 (r.lo + (j : Int)) ∧ Hid (M = L ++ rowOf11 n r.lo x j) ∧ Hid (wr.ownsRow (w.heap.size + 1) 3 1 u M.length (ints M)) ∧ Hid (Below (w.heap.size + 1) wB wr)) (fun _ i _ => (r.hi + 1 - RowKit.intOf i).toNat)
      case atStart => exact ⟨0, L, Nat.zero_le _, by simp, (by show _ = _; simp [rowOf11]), HO.out, HB⟩
      case round =>
        obtain ⟨j, M, hj, rfl, HM, HO2, HB2⟩ := hrel
        obtain ⟨ub, ud, rfl⟩ := ownShape11 HO2.out
        obtain ⟨z0, z1, z2⟩ := BX.out _ HB2.out
        have hMl : M.length ≤ 200000 := by
          have h1 := spreadL11_len n r.lo f (P.take k)
          have h2 : (P.take k).length * f ≤ P.length * f := Nat.mul_le_mul_right _ (by simp; omega)
          have h3 := HP.out.1
          rw [HM.out, List.length_append, rowOf11_len, HL.out, h1]
          have h4 := HF.out
          omega
        by_cases hjf : j < f
        · have hle : r.lo + (j : Int) ≤ r.hi := by have := HF.out.1; omega
          obtain ⟨zz, hzz⟩ : ∃ z, wrap64 (x + wrap64 (n * (r.lo + (j : Int)))) = z := ⟨_, rfl⟩
          have hat : wrap64 (r.lo + (j : Int) + 1) = r.lo + (j : Int) + 1 := by have := HF.out; unfold wrap64; omega
          obtain ⟨v', w8, hrun, hown, hbb⟩ := appI11 HO2.out (by have := HB2.out.size; rw [hszB] at this; omega) zz (by omega) 66
          have HM2 : Hid (M ++ [zz] = L ++ rowOf11 n r.lo x (j + 1)) := show _ = _ by rw [rowOf11_succ, ← List.append_assoc, ← HM.out, hzz]
          have HO3 : Hid (w8.ownsRow (w.heap.size + 1) 3 1 v' (M ++ [zz]).length (ints (M ++ [zz]))) := show World.ownsRow _ _ _ _ _ _ _ by rw [List.length_append]; exact hown
          have HB3 := Lib.hid (HB2.out.trans hbb)
          obtain ⟨a8, c8, rfl⟩ := ownShape11 hown
          clear hown hbb HM hMl
          go_wp2_with (at_builtin; refine wpList_app11 rfl _ _ 66 _ _ _ rfl rfl rfl hrun ?_)
          go_roundw
          case rel => exact ⟨j + 1, M ++ [zz], by omega, by simp; omega, HM2.out, HO3.out, HB3.out⟩
          case measure => simp [RowKit.intOf]; have := HF.out; omega
        · have hnle : ¬ r.lo + (j : Int) ≤ r.hi := by have := HF.out.1; omega
          have HM2 : Hid (M = spreadL11 n r.lo f (P.take (k + 1))) := show _ = _ by rw [HM.out, spreadL11_take HX.out, HL.out, show j = f by omega]
          clear hMl
          go_wp2
          go_roundw
          case rel => exact ⟨k + 1, M, by omega, by go_num, HM2.out, HO2.out, HB2.out⟩
          case measure => simp [RowKit.intOf]; omega
    · have HL2 : Hid (L = spreadL11 n r.lo f P) := show _ = _ by rw [HL.out, List.take_of_length_le (by omega)]
      have hLl : L.length ≤ 1000000 := by rw [HL2.out, spreadL11_len]; have := HP.out.1; omega
      have HLl := Lib.hid hLl
      have hs9 : w.heap.size + 1 ≤ wr.heap.size := by have := HB.out.size; rw [hszB] at this; omega
      clear hLl
      go_wp2_with fail
      refine (sortI_is L L.length (w.heap.size + 1) _ wr HO.out hs9 HLl.out).mono ?_
      rintro e w5 ⟨rfl, ho5, hb5⟩
      have HO5 := Lib.hid ho5
      have HB5 := Lib.hid (HB.out.trans hb5)
      have hs5 : w.heap.size + 1 ≤ w5.heap.size := Nat.le_trans hs9 hb5.size
      clear ho5 hb5
      go_wp2_with fail
      refine (compI_is (srt11 L) L.length (w.heap.size + 1) _ w5 HO5.out hs5 HLl.out).mono ?_
      rintro e w6 ⟨v6, rfl, ho6, hb6⟩
      have HV := Lib.hid (IV.of rfl ho6).low
      have HB6 := Lib.hid (LOW.out _ (HB5.out.trans hb6))
      obtain ⟨a6, c6, rfl⟩ := ownShape11 ho6
      clear ho6 hb6
      go_wp2
      go_ret
      exact ⟨_, rfl, by rw [← HL2.out]; exact HV.out, HB6.out⟩
end Go.Proofs.YtjdpddcnogdekaaGreat
/-
  inBoth, roundsTold of the landed code.
-/
namespace Go.Proofs.YtjdpddcnogdekaaGreat
open Go.RowKit Go.Lib
set_option linter.unusedSimpArgs false
set_option linter.unusedVariables false

def both11 (P Q : List Int) : Bool := P.any fun x => Q.any fun y => decide (y = x)
def told11 (rs : List RG) : Bool := decide (0 < rounds9 rs) && decide (rounds9 rs ≤ 600)
theorem roundsTold_is (rs : List RG) (hn : rs.length ≤ 1000000000) (va : Value) (w : World) (ha : RV w 0 va rs) (v : Bool) (hv : told11 rs = v) :
    Calls Tryz.prog 39 #[va] w fun e w' => e = .returned (.bool v) ∧ Below w.heap.size w w' := by
  have C := Lib.hid (impl_Rounds rs hn va w ha)
  obtain ⟨x, hx⟩ : ∃ x, rounds9 rs = x := ⟨_, rfl⟩
  rw [hx] at C
  have HV : Hid ((decide (0 < x) && decide (x ≤ 600)) = v) := show _ = _ by rw [← hv, told11, hx]
  clear hx hv ha
  go_enter Tryz.func39, Tryz.ntmps39
  go_wp2_with fail
  refine C.out.mono ?_
  rintro e w1 ⟨rfl, hb⟩
  have B := Lib.hid hb
  clear hb C
  by_cases h1 : 0 < x
  · by_cases h2 : x ≤ 600
    · have HW : Hid (v = true) := show _ = _ by rw [← HV.out, decide_eq_true h1, decide_eq_true h2]; rfl
      go_wp2
      go_ret
      exact ⟨ret_bool (by rw [HW.out]), B.out⟩
    · have HW : Hid (v = false) := show _ = _ by rw [← HV.out, decide_eq_true h1, decide_eq_false h2]; rfl
      go_wp2
      go_ret
      exact ⟨ret_bool (by rw [HW.out]; exact decide_eq_false (by omega)), B.out⟩
  · have HW : Hid (v = false) := show _ = _ by rw [← HV.out, decide_eq_false h1]; rfl
    go_wp2
    go_ret
    exact ⟨by rw [HW.out]; rfl, B.out⟩
set_option maxHeartbeats 1000000 in
set_option maxRecDepth 100000 in
theorem inBoth_is (P Q : List Int) (hP : P.length ≤ 1000000) (hQ : Q.length ≤ 1000000) (hs : Q.Pairwise (· < ·)) (va vb : Value) (w : World) (ha : IV w 0 va P) (hb : IV w 0 vb Q) (v : Bool) (hv : both11 P Q = v) :
    Calls Tryz.prog 41 #[va, vb] w fun e w' => e = .returned (.bool v) ∧ w = w' := by
  obtain ⟨ao, ac, rfl, hra⟩ := ha
  obtain ⟨bo, bc, rfl, hrb⟩ := hb
  have HA := Lib.hid hra
  have HBb := Lib.hid hrb
  have hPI : (P.length : Int) ≤ 1000000 := by omega
  have hQI : (Q.length : Int) ≤ 1000000 := by omega
  have HS := Lib.hid hs
  have HV := Lib.hid hv
  clear hra hrb hs hP hQ hv
  go_enter Tryz.func41, Tryz.ntmps41
  go_wp2
  go_step3
  go_wp2
  go_step3
  go_wp2
  go_loop [5, 12] (fun m i => ∃ k : Nat, k ≤ P.length ∧ m = .bool false ∧ i = .int .i64 k ∧ Hid (∀ x ∈ P.take k, x ∉ Q)) (fun _ i => P.length - (RowKit.intOf i).toNat)
  case atStart => exact ⟨0, by omega, rfl, rfl, by intro x hx; simp at hx⟩
  case round =>
    obtain ⟨k, hk, rfl, rfl, HN⟩ := hrel
    by_cases hlt : k < P.length
    · have hltI : (k : Int) < (P.length : Int) := by omega
      obtain ⟨x, hx⟩ : ∃ x, P[k]? = some x := ⟨P[k], List.getElem?_eq_getElem hlt⟩
      rcases HA.out with hr | ⟨g, off, rfl, _, gl, hc⟩
      · subst hr; simp at hlt
      have A0 := hc k x hx
      have HX := Lib.hid hx
      clear hc hx
      go_wp2
      go_loop [5, 18] (fun m i => ∃ j : Nat, j ≤ Q.length ∧ m = .bool false ∧ i = .int .i64 j ∧ Hid (∀ y ∈ Q.take j, y < x)) (fun _ i => Q.length - (RowKit.intOf i).toNat)
      case atStart => exact ⟨0, by omega, rfl, rfl, by intro x hx; simp at hx⟩
      case round =>
        obtain ⟨j, hj, rfl, rfl, HY⟩ := hrel
        by_cases hjl : j < Q.length
        · have hjlI : (j : Int) < (Q.length : Int) := by omega
          obtain ⟨y, hy⟩ : ∃ y, Q[j]? = some y := ⟨Q[j], List.getElem?_eq_getElem hjl⟩
          rcases HBb.out with hr | ⟨g2, off2, rfl, _, gl2, hc2⟩
          · subst hr; simp at hjl
          have B0 := hc2 j y hy
          have HYj := Lib.hid hy
          clear hc2 hy
          by_cases h1 : y = x
          · have HW : Hid (v = true) := show _ = _ by
              rw [← HV.out, both11, List.any_eq_true]
              refine ⟨x, List.mem_of_getElem? HX.out, ?_⟩
              rw [List.any_eq_true]
              exact ⟨y, List.mem_of_getElem? HYj.out, by simp [h1]⟩
            subst h1
            go_wp2
            go_ret
            exact ⟨by rw [HW.out]; rfl, rfl⟩
          · by_cases h2 : y > x
            · have HN2 : Hid (∀ z ∈ P.take (k + 1), z ∉ Q) := by
                intro z hz hzq
                rw [List.take_add_one, HX.out] at hz
                rcases List.mem_append.1 hz with hz | hz
                · exact HN.out z hz hzq
                · simp only [Option.toList_some, List.mem_singleton] at hz
                  subst hz
                  obtain ⟨i, hi, e⟩ := List.getElem_of_mem hzq
                  by_cases hij : i < j
                  · have := HY.out z (by rw [← e]; exact List.mem_take_iff_getElem.2 ⟨i, by omega, rfl⟩); omega
                  · have hyj : Q[j] = y := by have := HYj.out; rw [List.getElem?_eq_getElem hjl] at this; injection this
                    by_cases hij2 : i = j
                    · subst hij2; omega
                    · have := List.pairwise_iff_getElem.1 HS.out j i hjl hi (by omega); omega
              have h1b : (y == x) = false := by simp [h1]
              go_wp2
              go_round
              case rel => exact ⟨k + 1, by omega, rfl, by go_num, HN2.out⟩
              case measure => simp [RowKit.intOf]; omega
            · have HY2 : Hid (∀ z ∈ Q.take (j + 1), z < x) := by
                intro z hz
                rw [List.take_add_one, HYj.out] at hz
                rcases List.mem_append.1 hz with hz | hz
                · exact HY.out z hz
                · simp only [Option.toList_some, List.mem_singleton] at hz; subst hz; omega
              have h1b : (y == x) = false := by simp [h1]
              go_wp2
              go_round
              case rel => exact ⟨j + 1, by omega, rfl, by go_num, HY2.out⟩
              case measure => simp [RowKit.intOf]; omega
        · have HN2 : Hid (∀ z ∈ P.take (k + 1), z ∉ Q) := by
            intro z hz hzq
            rw [List.take_add_one, HX.out] at hz
            rcases List.mem_append.1 hz with hz | hz
            · exact HN.out z hz hzq
            · simp only [Option.toList_some, List.mem_singleton] at hz
              subst hz
              have := HY.out z (by rw [List.take_of_length_le (by omega)]; exact hzq)
              omega
          go_wp2
          go_round
          case rel => exact ⟨k + 1, by omega, rfl, by go_num, HN2.out⟩
          case measure => simp [RowKit.intOf]; omega
    · have HW : Hid (v = false) := show _ = _ by
        rw [← HV.out, both11]
        cases hh : P.any fun x => Q.any fun y => decide (y = x) with
        | false => rfl
        | true =>
          obtain ⟨x, hx, h2⟩ := List.any_eq_true.1 hh
          obtain ⟨y, hy, h3⟩ := List.any_eq_true.1 h2
          have h4 : y = x := by simpa using h3
          subst h4
          exact absurd hy (HN.out y (by rw [List.take_of_length_le (by omega)]; exact hx))
      go_wp2
      go_ret
      exact ⟨by rw [HW.out]; rfl, rfl⟩
end Go.Proofs.YtjdpddcnogdekaaGreat
