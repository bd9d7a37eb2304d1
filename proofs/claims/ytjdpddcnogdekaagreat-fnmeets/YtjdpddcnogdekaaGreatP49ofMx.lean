/-
  Texts in one: MtPlaces, MtMeet.
-/
import Derived.Test.YtjdpddcnogdekaaGreatP48ofMx
/-
  placesIn, MeetAt of the landed code.
-/
namespace Go.Proofs.YtjdpddcnogdekaaGreat
open Go.RowKit Go.Lib
set_option linter.unusedSimpArgs false
set_option linter.unusedVariables false

def cnt11 (r : RG) : Nat := (r.hi - r.lo + 1).toNat
def prodR11 : List RG → Nat
  | [] => 1
  | r :: rs => cnt11 r * prodR11 rs
theorem prodR11_app : ∀ (a b : List RG), prodR11 (a ++ b) = prodR11 a * prodR11 b
  | [], b => by simp [prodR11]
  | r :: a, b => by simp only [List.cons_append, prodR11, prodR11_app a b, Nat.mul_assoc]
theorem prodR11_pos : ∀ (rs : List RG), Fit9 rs → 1 ≤ prodR11 rs
  | [], _ => Nat.le_refl _
  | r :: rs, h => by
    have h1 := prodR11_pos rs (fun t ht => h t (by simp [ht]))
    have h2 := (h r (by simp)).1
    have h3 : 1 ≤ cnt11 r := by unfold cnt11; omega
    rw [prodR11]
    exact Nat.mul_pos h3 h1
theorem prodR11_take {rs : List RG} (h : Fit9 rs) (k : Nat) : prodR11 (rs.take k) ≤ prodR11 rs := by
  have h1 := prodR11_app (rs.take k) (rs.drop k)
  rw [List.take_append_drop] at h1
  have h2 := prodR11_pos (rs.drop k) (fun t ht => h t (List.mem_of_mem_drop ht))
  rw [h1]; exact Nat.le_mul_of_pos_right _ h2
theorem ways_prod : ∀ (rs : List RG) (a : Int), Fit9 rs → 1 ≤ a → a ≤ 1000000 → ways9 a rs ≤ 600 → a * (prodR11 rs : Int) = ways9 a rs
  | [], a, _, _, _, _ => by simp [prodR11, ways9]
  | r :: rs, a, h, h1, h2, h3 => by
    obtain ⟨f1, f2, _⟩ := h r (by simp)
    obtain ⟨m1, m2⟩ := mulb9 h1 h2 f1 f2
    have e : ways9 a (r :: rs) = ways9 (lim9 (a * (r.hi - r.lo + 1))) rs := rfl
    rw [e] at h3 ⊢
    have hfit : Fit9 rs := fun t ht => h t (by simp [ht])
    by_cases hb : a * (r.hi - r.lo + 1) < 1000000
    · rw [lim9_small hb] at h3 ⊢
      rw [← ways_prod rs _ hfit m1 (by omega) h3, prodR11]
      have : ((cnt11 r : Nat) : Int) = r.hi - r.lo + 1 := by unfold cnt11; omega
      rw [Int.natCast_mul, this, Int.mul_assoc]
    · rw [lim9_big hb, ways9_full rs hfit] at h3; omega
theorem told_prod {rs : List RG} (h : told11 rs = true) : waysOk9 rs = true ∧ prodR11 rs ≤ 600 := by
  simp only [told11, Bool.and_eq_true, decide_eq_true_eq] at h
  have hw : waysOk9 rs = true := by
    cases hh : waysOk9 rs with
    | true => rfl
    | false => have := h.1; rw [rounds9, if_neg (by simp [hh])] at this; omega
  refine ⟨hw, ?_⟩
  rw [rounds9, if_pos hw] at h
  have := ways_prod rs 1 (fit_of hw) (by omega) (by omega) h.2
  omega
def stepP11 (ts : List AR) (s : ByteArray) (l : List Int) (r : RG) : List Int := if coefA ts r.s = 0 ∨ r.s = s then l else cmp11 (spreadL11 (coefA ts r.s) r.lo (cnt11 r) l)
def placesP11 (c : Int) (ts : List AR) (s : ByteArray) (i : Int) (rs : List RG) : List Int := rs.foldl (stepP11 ts s) [wrap64 (c + wrap64 (coefA ts s * i))]
theorem stepP11_len (ts : List AR) (s : ByteArray) (l : List Int) (r : RG) (h : 1 ≤ cnt11 r) : (stepP11 ts s l r).length ≤ l.length * cnt11 r := by
  unfold stepP11
  split
  · exact Nat.le_mul_of_pos_right _ h
  · exact Nat.le_trans (cmp11_all _).2.2 (by rw [spreadL11_len]; exact Nat.le_refl _)
theorem foldP11_len (ts : List AR) (s : ByteArray) : ∀ (rs : List RG) (l : List Int), Fit9 rs → (rs.foldl (stepP11 ts s) l).length ≤ l.length * prodR11 rs
  | [], l, _ => by simp [prodR11]
  | r :: rs, l, h => by
    have h2 := (h r (by simp)).1
    have h3 : 1 ≤ cnt11 r := by unfold cnt11; omega
    rw [List.foldl_cons, prodR11, ← Nat.mul_assoc]
    exact Nat.le_trans (foldP11_len ts s rs _ (fun t ht => h t (by simp [ht]))) (Nat.mul_le_mul_right _ (stepP11_len ts s l r h3))
theorem foldP11_sorted (ts : List AR) (s : ByteArray) : ∀ (rs : List RG) (l : List Int), l.Pairwise (· < ·) → (rs.foldl (stepP11 ts s) l).Pairwise (· < ·)
  | [], l, h => h
  | r :: rs, l, h => by
    rw [List.foldl_cons]
    refine foldP11_sorted ts s rs _ ?_
    unfold stepP11; split
    · exact h
    · exact (cmp11_all _).2.1
theorem oneIV11 {w : World} {b : Nat} {z : Int} {t : TypeId} (h : w.heap[b]? = some (.cells #[.int .i64 z] t (0, 0))) : IV w 0 (.slice (some ⟨b, 0, Option.none⟩) 1 1) [z] := by
  refine ⟨_, 1, rfl, .inr ⟨b, 0, rfl, Nat.zero_le _, lt_heap11 h, fun i u hi => ?_⟩⟩
  match i, hi with
  | 0, hi => obtain rfl : z = u := by simpa using hi
             simp [World.cell?, h]
  | i + 1, hi => simp at hi
set_option maxHeartbeats 2000000 in
set_option maxRecDepth 100000 in
theorem placesIn_is (c : Int) (ts : List AR) (hn : ts.length ≤ 10000000) (s : ByteArray) (i : Int) (rs : List RG) (hm : rs.length ≤ 10000000) (hfit : Fit9 rs) (hpr : prodR11 rs ≤ 600) (va vr : Value) (w : World) (ha : AV w 0 va ts) (hr : RV w 0 vr rs) :
    Calls Tryz.prog 42 #[.agg #[.int .i64 c, va], .string s, .int .i64 i, vr] w fun e w' => ∃ v', e = .returned v' ∧ IV w' 0 v' (placesP11 c ts s i rs) ∧ Below w.heap.size w w' := by
  have T0 := Lib.hid (At8.start 26 (c := c) ha)
  have R0 := Lib.hid (hr.later (alloc_below w (.cells #[.int .i64 c, va] 26)))
  obtain ⟨a1, c1, rfl⟩ := ha.shape
  obtain ⟨a3, c3, rfl⟩ := hr.shape
  have HN := Lib.hid (And.intro hn hm)
  have hmI : (rs.length : Int) ≤ 10000000 := by omega
  have HF := Lib.hid (And.intro hfit hpr)
  obtain ⟨n, hnn⟩ : ∃ n, coefA ts s = n := ⟨_, rfl⟩
  have HNN := Lib.hid hnn
  obtain ⟨z1, hz1⟩ : ∃ z, IntKind.i64.wrap (n * i) = z := ⟨_, rfl⟩
  obtain ⟨z2, hz2⟩ : ∃ z, IntKind.i64.wrap (c + z1) = z := ⟨_, rfl⟩
  have HZ : Hid (wrap64 (c + wrap64 (coefA ts s * i)) = z2) := show _ = _ by rw [hnn, ← wrapE9, ← wrapE9, hz1, hz2]
  obtain ⟨w1, hw1⟩ : ∃ w1, w1 = w.alloc (.cells #[.int .i64 c, .slice a1 ts.length c1] 26) := ⟨_, rfl⟩
  rw [← hw1] at T0 R0
  have hsz1 : w1.heap.size = w.heap.size + 1 := by rw [hw1]; simp
  clear ha hr hn hm hfit hpr hnn
  go_enter Tryz.func42, Tryz.ntmps42
  go_wp2_with fail
  rw [← hw1]
  have bd : Below w1.heap.size w1 w1.drew := (Below.refl _ w1).drew
  refine wp_region_held_drew (S := Below w1.heap.size w1) (by kernel_rfl) bd (fun hHeld => ?_)
  obtain ⟨wd, Wd⟩ : ∃ wd, Hid (wd = w1.drew) := ⟨_, rfl⟩
  rw [← Wd.out] at hHeld ⊢
  clear bd Wd
  refine wpAnyH_take (i := 0) (v := .pointer (some ⟨w.heap.size, 0, Option.none⟩)) rfl (by kernel_rfl) (by kernel_rfl) (by kernel_rfl) (fun _ _ _ h => h) (Or.inl ⟨by rfl, ?yp0⟩) hHeld ?_
  case yp0 => intro w hSw; go_simp
  simp only [Act.put, List.getElem_toArray, List.getElem_cons_succ, List.getElem_cons_zero, List.setIfInBounds_toArray, List.set_cons_zero, List.set_cons_succ]
  refine wpAnyH_take (i := 1) (v := .int .i64 c) rfl (by kernel_rfl) (by kernel_rfl) (by kernel_rfl) (fun _ _ _ h => h) (Or.inl ⟨by rfl, ?yp1⟩) hHeld ?_
  case yp1 => intro w hSw; obtain ⟨j0, j1⟩ := And.intro (cellC11 (T0.out.later hSw).rg) (cellT11 (T0.out.later hSw).rg); go_simp
  simp only [Act.put, List.getElem_toArray, List.getElem_cons_succ, List.getElem_cons_zero, List.setIfInBounds_toArray, List.set_cons_zero, List.set_cons_succ]
  refine wpAnyH_take (i := 2) (v := .agg #[.int .i64 c, .slice a1 ts.length c1]) rfl (by kernel_rfl) (by kernel_rfl) (by kernel_rfl) (fun _ _ _ h => h) (Or.inl ⟨by rfl, ?yp2⟩) hHeld ?_
  case yp2 => intro w hSw; obtain ⟨j0, j1⟩ := And.intro (cellC11 (T0.out.later hSw).rg) (cellT11 (T0.out.later hSw).rg); go_simp
  simp only [Act.put, List.getElem_toArray, List.getElem_cons_succ, List.getElem_cons_zero, List.setIfInBounds_toArray, List.set_cons_zero, List.set_cons_succ]
  refine wpAnyH_take (i := 3) (v := .string s) rfl (by kernel_rfl) (by kernel_rfl) (by kernel_rfl) (fun _ _ _ h => h) (Or.inl ⟨by rfl, ?yp3⟩) hHeld ?_
  case yp3 => intro w hSw; go_simp
  simp only [Act.put, List.getElem_toArray, List.getElem_cons_succ, List.getElem_cons_zero, List.setIfInBounds_toArray, List.set_cons_zero, List.set_cons_succ]
  refine wpAnyH_take (i := 5) (v := .int .i64 i) rfl (by kernel_rfl) (by kernel_rfl) (by kernel_rfl) (fun _ _ _ h => h) (Or.inl ⟨by rfl, ?yp5⟩) hHeld ?_
  case yp5 => intro w hSw; go_simp
  simp only [Act.put, List.getElem_toArray, List.getElem_cons_succ, List.getElem_cons_zero, List.setIfInBounds_toArray, List.set_cons_zero, List.set_cons_succ]
  refine wpAnyH_ready (rs := [4]) (by kernel_rfl) (by simp) ?_
  refine AllReadyH.cons rfl (fun K hK => ?_) AllReadyH.nil
  rw [if_pos (by rfl)]
  simp only [List.getElem_toArray, List.getElem_cons_succ, List.getElem_cons_zero]
  go_wp2_with fail
  refine (impl_CoefOf c ts (by have := HN.out; omega) s _ _ (T0.out.later hHeld).av).mono ?_
  rintro e w2 ⟨rfl, hb2⟩
  rw [show coefA ts s = n from HNN.out]
  go_wp2_with fail
  refine hK.out _ _ (hHeld.trans (hb2.mono hHeld.size)) (fun hHeld => ?_)
  clear hb2
  refine wpAnyH_take (i := 6) (v := .int .i64 z1) rfl (by kernel_rfl) (by kernel_rfl) (by kernel_rfl) (fun _ _ _ h => h) (Or.inl ⟨by rfl, ?yp6⟩) hHeld ?_
  case yp6 => intro w hSw; go_simp; try exact hz1
  simp only [Act.put, List.getElem_toArray, List.getElem_cons_succ, List.getElem_cons_zero, List.setIfInBounds_toArray, List.set_cons_zero, List.set_cons_succ]
  refine wpAnyH_take (i := 7) (v := .int .i64 z2) rfl (by kernel_rfl) (by kernel_rfl) (by kernel_rfl) (fun _ _ _ h => h) (Or.inl ⟨by rfl, ?yp7⟩) hHeld ?_
  case yp7 => intro w hSw; go_simp; try exact hz2
  simp only [Act.put, List.getElem_toArray, List.getElem_cons_succ, List.getElem_cons_zero, List.setIfInBounds_toArray, List.set_cons_zero, List.set_cons_succ]
  refine wpAnyH_ready (rs := [8]) (by kernel_rfl) (by simp) ?_
  refine AllReadyH.cons rfl (fun K hK => ?_) AllReadyH.nil
  rw [if_pos (by rfl)]
  simp only [List.getElem_toArray, List.getElem_cons_succ, List.getElem_cons_zero]
  go_wp2_with fail
  have ba := alloc_below w2 (.cells #[.int .i64 z2] 3)
  have hh := heap_last w2 (.cells #[.int .i64 z2] 3)
  refine hK.out _ _ (hHeld.trans (ba.mono hHeld.size)) (fun hHeld => ?_)
  refine wpAnyH_take (i := 9) (v := .slice (some ⟨w2.heap.size, 0, Option.none⟩) 1 1) rfl (by kernel_rfl) (by kernel_rfl) (by kernel_rfl) (fun _ _ _ h => h) (Or.inl ⟨by rfl, ?yp9⟩) hHeld ?_
  case yp9 => intro w hSw; go_simp
  simp only [Act.put, List.getElem_toArray, List.getElem_cons_succ, List.getElem_cons_zero, List.setIfInBounds_toArray, List.set_cons_zero, List.set_cons_succ]
  refine wpAnyH_done (by kernel_rfl) ?_ _
  have hb4 := hHeld
  obtain ⟨w4, hw4⟩ : ∃ w4, w4 = w2.alloc (.cells #[.int .i64 z2] 3) := ⟨_, rfl⟩
  rw [← hw4] at hh hb4 ⊢
  have I4 := Lib.hid (oneIV11 hh)
  have T4 := Lib.hid (T0.out.later hb4)
  have R4 := Lib.hid (R0.out.later hb4)
  clear hHeld ba hh hb4 hw4 T0 R0
  go_wp2
  go_loopw [9, 24] (fun u x wr => ∃ k : Nat, k ≤ rs.length ∧ x = .int .i64 (k : Int) ∧ Hid (IV wr 0 u ((rs.take k).foldl (stepP11 ts s) [z2])) ∧ Hid (At8 w wr w.heap.size c (.slice a1 ts.length c1) ts) ∧ Hid (RV wr 0 (.slice a3 rs.length c3) rs)) (fun _ x _ => rs.length - (RowKit.intOf x).toNat)
  case atStart => exact ⟨0, Nat.zero_le _, rfl, I4, ⟨T4.out.rg, T4.out.av, T4.out.low⟩, R4⟩
  case round =>
    obtain ⟨k, hk, rfl, HI, HT, HR⟩ := hrel
    obtain ⟨ua, uc, rfl⟩ := HI.out.shape
    by_cases hlt : k < rs.length
    · have hltI : (k : Int) < (rs.length : Int) := by omega
      obtain ⟨r, hrk⟩ : ∃ r, rs[k]? = some r := ⟨rs[k], List.getElem?_eq_getElem hlt⟩
      obtain ⟨ao, cap, er, hcap, hrr⟩ := HR.out
      injection er with er1 er2 er3
      subst er1; subst er3
      rcases hrr with hr | ⟨g, off, rfl, _, gl, hc⟩
      · subst hr; simp at hlt
      obtain ⟨A0, A1, A2⟩ := hc k r hrk
      have HK := Lib.hid hrk
      have ba := alloc_below wr (.cells #[.string r.s, .int .i64 r.lo, .int .i64 r.hi] 32)
      have HI2 := Lib.hid (HI.out.later ba)
      have HT2 := Lib.hid (HT.out.later ba)
      have HR2 := Lib.hid (HR.out.later ba)
      have HX2 := Lib.hid (heap_last wr (.cells #[.string r.s, .int .i64 r.lo, .int .i64 r.hi] 32))
      obtain ⟨m, hmm⟩ : ∃ m, coefA ts r.s = m := ⟨_, rfl⟩
      have HM := Lib.hid hmm
      have htk : (rs.take (k + 1)).foldl (stepP11 ts s) [z2] = stepP11 ts s ((rs.take k).foldl (stepP11 ts s) [z2]) r := by rw [List.take_add_one, hrk]; simp
      have HTK := Lib.hid htk
      obtain ⟨L, hL⟩ : ∃ L, (rs.take k).foldl (stepP11 ts s) [z2] = L := ⟨_, rfl⟩
      have hfit := HF.out.1
      have hLl : L.length * cnt11 r ≤ 600 ∧ L.length ≤ 600 := by
        have h1 := foldP11_len ts s (rs.take k) [z2] (fun t ht => hfit t (List.mem_of_mem_take ht))
        have h2 := prodR11_take hfit (k + 1)
        have h3 := prodR11_take hfit k
        have h4 := HF.out.2
        rw [List.take_add_one, hrk] at h2
        simp only [Option.toList_some, prodR11_app, prodR11, Nat.mul_one] at h2
        rw [hL] at h1
        simp only [List.length_cons, List.length_nil, Nat.zero_add, Nat.one_mul] at h1
        have h5 := Nat.mul_le_mul_right (cnt11 r) h1
        omega
      have HLl := Lib.hid hLl
      have hfr := hfit r (List.mem_of_getElem? hrk)
      have HFR := Lib.hid hfr
      rw [hL] at HTK HI2
      clear ba hc hrk hmm HI HT HR hcap gl htk hfit hLl hfr
      have hlen : ((List.take k rs).foldl (stepP11 ts s) [z2]).length = L.length := by rw [hL]
      rw [hlen] at *
      clear hlen hL
      go_wp2_with (refine wpList_load_mid rfl 26 _ rfl w.heap.size 0 rfl _ _ HT2.out.rg Tryz.underlying26 rfl sizeIA8 ?_)
      refine (impl_CoefOf c ts (by have := HN.out; omega) r.s _ _ HT2.out.av).mono ?_
      rintro e w5 ⟨rfl, hb5⟩
      rw [show coefA ts r.s = m from HM.out]
      have HI3 := Lib.hid (HI2.out.later hb5)
      have HT3 := Lib.hid (HT2.out.later hb5)
      have HR3 := Lib.hid (HR2.out.later hb5)
      obtain ⟨x0, x1, x2⟩ := blk3 (heap_b11 HX2.out hb5)
      clear hb5 HI2 HT2 HR2 HX2
      by_cases hm0 : m = 0
      · have HS : Hid (stepP11 ts s L r = L) := show _ = _ by rw [stepP11, if_pos (Or.inl (HM.out.trans hm0))]
        clear HM
        subst hm0
        go_wp2
        go_roundw
        case rel => exact ⟨k + 1, by omega, by go_num, by rw [HTK.out, HS.out]; exact HI3, HT3, HR3⟩
        case measure => simp [RowKit.intOf]; omega
      · have hm0b : (m == 0) = false := by simp [hm0]
        by_cases hse : r.s = s
        · have HS : Hid (stepP11 ts s L r = L) := show _ = _ by rw [stepP11, if_pos (Or.inr hse)]
          subst hse
          go_wp2
          go_roundw
          case rel => exact ⟨k + 1, by omega, by go_num, by rw [HTK.out, HS.out]; exact HI3, HT3, HR3⟩
          case measure => simp [RowKit.intOf]; omega
        · have HS : Hid (stepP11 ts s L r = cmp11 (spreadL11 m r.lo (cnt11 r) L)) := show _ = _ by rw [stepP11, HM.out, if_neg (by simp [hm0, hse])]
          have hsb := str_ne hse
          go_wp2_with fail
          refine (spread_is L m r (cnt11 r) (by have := HFR.out; unfold cnt11; omega) (by have := HFR.out; omega) (by have := HFR.out; omega) (by have := HLl.out; omega) (by have := HLl.out; omega) _ _ HI3.out).mono ?_
          rintro e w6 ⟨v6, rfl, hv6, hb6⟩
          have HI4 := Lib.hid hv6
          have HT4 := Lib.hid (HT3.out.later hb6)
          have HR4 := Lib.hid (HR3.out.later hb6)
          obtain ⟨a6, c6, rfl⟩ := hv6.shape
          clear hv6 hb6 x0 x1 x2
          go_wp2
          go_roundw
          case rel => exact ⟨k + 1, by omega, by go_num, by rw [HTK.out, HS.out]; exact HI4, HT4, HR4⟩
          case measure => simp [RowKit.intOf]; omega
    · have HE : Hid ((rs.take k).foldl (stepP11 ts s) [z2] = placesP11 c ts s i rs) := show _ = _ by rw [List.take_of_length_le (by omega), placesP11, HZ.out]
      go_wp2
      go_ret
      exact ⟨_, rfl, by rw [← HE.out]; exact HI.out, HT.out.low⟩
end Go.Proofs.YtjdpddcnogdekaaGreat
/-
  MeetAt of the landed code.
-/
namespace Go.Proofs.YtjdpddcnogdekaaGreat
open Go.RowKit Go.Lib
set_option linter.unusedSimpArgs false
set_option linter.unusedVariables false

def meetAt11 (c : Int) (ts : List AR) (d : Int) (us : List AR) (s : ByteArray) (i k : Int) (rs : List RG) : Bool :=
  told11 rs && affOk8 c ts && affOk8 d us && both11 (placesP11 c ts s i rs) (placesP11 d us s k rs)
set_option maxHeartbeats 2000000 in
set_option maxRecDepth 100000 in
theorem meetA (c : Int) (ts : List AR) (d : Int) (us : List AR) (s : ByteArray) (i k : Int) (rs : List RG) (a1 a2 a3 : Option Addr) (c1 c2 c3 : Nat) (w w1 : World) (hn : ts.length ≤ 10000000 ∧ us.length ≤ 10000000 ∧ rs.length ≤ 10000000) (hw1 : w1 = (w.alloc (.cells #[.int .i64 c, .slice a1 ts.length c1] 26)).alloc (.cells #[.int .i64 d, .slice a2 us.length c2] 26)) (ht : Two11 w w1 w.heap.size (w.heap.size + 1) c d (.slice a1 ts.length c1) (.slice a2 us.length c2) (.slice a3 rs.length c3) ts us rs) (v : Bool) (h1 : told11 rs = false) (hv : v = false) :
    Calls Tryz.prog 9 #[.agg #[.int .i64 c, .slice a1 ts.length c1], .agg #[.int .i64 d, .slice a2 us.length c2], .string s, .int .i64 i, .int .i64 k, .slice a3 rs.length c3] w fun e w' => e = .returned (.bool v) ∧ Below w.heap.size w w' := by
  have HN := Lib.hid hn
  have T0 := Lib.hid ht
  have HTO := Lib.hid h1
  have HV := Lib.hid hv
  clear hn ht h1 hv
  go_enter Tryz.func9, Tryz.ntmps9
  go_wp2_with fail
  rw [← hw1]
  clear hw1
  have bd : Below w1.heap.size w1 w1.drew := (Below.refl _ w1).drew
  refine wp_region_held_drew (S := Below w1.heap.size w1) (by kernel_rfl) bd (fun hHeld => ?_)
  clear bd
  refine wpAnyH_take (i := 0) (v := .slice a3 rs.length c3) rfl (by kernel_rfl) (by kernel_rfl) (by kernel_rfl) (fun _ _ _ h => h) (Or.inl ⟨by rfl, ?yq0⟩) hHeld ?_
  case yq0 => intro w hSw; go_simp
  simp only [Act.put, List.getElem_toArray, List.getElem_cons_succ, List.getElem_cons_zero, List.setIfInBounds_toArray, List.set_cons_zero, List.set_cons_succ]
  refine wpAnyH_ready (rs := [1]) (by kernel_rfl) (by simp) ?_
  refine AllReadyH.cons rfl (fun K hK => ?_) AllReadyH.nil
  rw [if_pos (by rfl)]
  simp only [List.getElem_toArray, List.getElem_cons_succ, List.getElem_cons_zero]
  go_wp2_with fail
  refine (roundsTold_is rs (by have := HN.out; omega) _ _ (T0.out.later hHeld).rr false HTO.out).mono ?_
  rintro e wa ⟨rfl, hbb⟩
  go_wp2_with fail
  refine hK.out _ _ (hHeld.trans (hbb.mono hHeld.size)) (fun hHeld => ?_)
  clear hbb
  refine wpAnyH_take (i := 2) (v := .bool false) rfl (by kernel_rfl) (by kernel_rfl) (by kernel_rfl) (fun _ _ _ h => h) (Or.inl ⟨by rfl, ?yq2⟩) hHeld ?_
  case yq2 => intro w hSw; go_simp
  simp only [Act.put, List.getElem_toArray, List.getElem_cons_succ, List.getElem_cons_zero, List.setIfInBounds_toArray, List.set_cons_zero, List.set_cons_succ]
  refine wpAnyH_take (i := 3) (v := undef) rfl (by kernel_rfl) (by kernel_rfl) (by kernel_rfl) (fun _ _ _ h => h) (Or.inr ⟨by rfl, rfl⟩) hHeld ?_
  simp only [Act.put, List.getElem_toArray, List.getElem_cons_succ, List.getElem_cons_zero, List.setIfInBounds_toArray, List.set_cons_zero, List.set_cons_succ]
  refine wpAnyH_take (i := 4) (v := undef) rfl (by kernel_rfl) (by kernel_rfl) (by kernel_rfl) (fun _ _ _ h => h) (Or.inr ⟨by rfl, rfl⟩) hHeld ?_
  simp only [Act.put, List.getElem_toArray, List.getElem_cons_succ, List.getElem_cons_zero, List.setIfInBounds_toArray, List.set_cons_zero, List.set_cons_succ]
  refine wpAnyH_take (i := 5) (v := .bool false) rfl (by kernel_rfl) (by kernel_rfl) (by kernel_rfl) (fun _ _ _ h => h) (Or.inl ⟨by rfl, ?yq5⟩) hHeld ?_
  case yq5 => intro w hSw; go_simp
  simp only [Act.put, List.getElem_toArray, List.getElem_cons_succ, List.getElem_cons_zero, List.setIfInBounds_toArray, List.set_cons_zero, List.set_cons_succ]
  refine wpAnyH_take (i := 6) (v := .bool false) rfl (by kernel_rfl) (by kernel_rfl) (by kernel_rfl) (fun _ _ _ h => h) (Or.inl ⟨by rfl, ?yq6⟩) hHeld ?_
  case yq6 => intro w hSw; go_simp
  simp only [Act.put, List.getElem_toArray, List.getElem_cons_succ, List.getElem_cons_zero, List.setIfInBounds_toArray, List.set_cons_zero, List.set_cons_succ]
  refine wpAnyH_take (i := 7) (v := undef) rfl (by kernel_rfl) (by kernel_rfl) (by kernel_rfl) (fun _ _ _ h => h) (Or.inr ⟨by rfl, rfl⟩) hHeld ?_
  simp only [Act.put, List.getElem_toArray, List.getElem_cons_succ, List.getElem_cons_zero, List.setIfInBounds_toArray, List.set_cons_zero, List.set_cons_succ]
  refine wpAnyH_take (i := 8) (v := undef) rfl (by kernel_rfl) (by kernel_rfl) (by kernel_rfl) (fun _ _ _ h => h) (Or.inr ⟨by rfl, rfl⟩) hHeld ?_
  simp only [Act.put, List.getElem_toArray, List.getElem_cons_succ, List.getElem_cons_zero, List.setIfInBounds_toArray, List.set_cons_zero, List.set_cons_succ]
  refine wpAnyH_take (i := 9) (v := .bool false) rfl (by kernel_rfl) (by kernel_rfl) (by kernel_rfl) (fun _ _ _ h => h) (Or.inl ⟨by rfl, ?yq9⟩) hHeld ?_
  case yq9 => intro w hSw; go_simp
  simp only [Act.put, List.getElem_toArray, List.getElem_cons_succ, List.getElem_cons_zero, List.setIfInBounds_toArray, List.set_cons_zero, List.set_cons_succ]
  refine wpAnyH_take (i := 10) (v := .bool false) rfl (by kernel_rfl) (by kernel_rfl) (by kernel_rfl) (fun _ _ _ h => h) (Or.inl ⟨by rfl, ?yq10⟩) hHeld ?_
  case yq10 => intro w hSw; go_simp
  simp only [Act.put, List.getElem_toArray, List.getElem_cons_succ, List.getElem_cons_zero, List.setIfInBounds_toArray, List.set_cons_zero, List.set_cons_succ]
  refine wpAnyH_take (i := 11) (v := undef) rfl (by kernel_rfl) (by kernel_rfl) (by kernel_rfl) (fun _ _ _ h => h) (Or.inr ⟨by rfl, rfl⟩) hHeld ?_
  simp only [Act.put, List.getElem_toArray, List.getElem_cons_succ, List.getElem_cons_zero, List.setIfInBounds_toArray, List.set_cons_zero, List.set_cons_succ]
  refine wpAnyH_take (i := 12) (v := undef) rfl (by kernel_rfl) (by kernel_rfl) (by kernel_rfl) (fun _ _ _ h => h) (Or.inr ⟨by rfl, rfl⟩) hHeld ?_
  simp only [Act.put, List.getElem_toArray, List.getElem_cons_succ, List.getElem_cons_zero, List.setIfInBounds_toArray, List.set_cons_zero, List.set_cons_succ]
  refine wpAnyH_take (i := 13) (v := undef) rfl (by kernel_rfl) (by kernel_rfl) (by kernel_rfl) (fun _ _ _ h => h) (Or.inr ⟨by rfl, rfl⟩) hHeld ?_
  simp only [Act.put, List.getElem_toArray, List.getElem_cons_succ, List.getElem_cons_zero, List.setIfInBounds_toArray, List.set_cons_zero, List.set_cons_succ]
  refine wpAnyH_take (i := 14) (v := undef) rfl (by kernel_rfl) (by kernel_rfl) (by kernel_rfl) (fun _ _ _ h => h) (Or.inr ⟨by rfl, rfl⟩) hHeld ?_
  simp only [Act.put, List.getElem_toArray, List.getElem_cons_succ, List.getElem_cons_zero, List.setIfInBounds_toArray, List.set_cons_zero, List.set_cons_succ]
  refine wpAnyH_take (i := 15) (v := undef) rfl (by kernel_rfl) (by kernel_rfl) (by kernel_rfl) (fun _ _ _ h => h) (Or.inr ⟨by rfl, rfl⟩) hHeld ?_
  simp only [Act.put, List.getElem_toArray, List.getElem_cons_succ, List.getElem_cons_zero, List.setIfInBounds_toArray, List.set_cons_zero, List.set_cons_succ]
  refine wpAnyH_take (i := 16) (v := undef) rfl (by kernel_rfl) (by kernel_rfl) (by kernel_rfl) (fun _ _ _ h => h) (Or.inr ⟨by rfl, rfl⟩) hHeld ?_
  simp only [Act.put, List.getElem_toArray, List.getElem_cons_succ, List.getElem_cons_zero, List.setIfInBounds_toArray, List.set_cons_zero, List.set_cons_succ]
  refine wpAnyH_take (i := 17) (v := undef) rfl (by kernel_rfl) (by kernel_rfl) (by kernel_rfl) (fun _ _ _ h => h) (Or.inr ⟨by rfl, rfl⟩) hHeld ?_
  simp only [Act.put, List.getElem_toArray, List.getElem_cons_succ, List.getElem_cons_zero, List.setIfInBounds_toArray, List.set_cons_zero, List.set_cons_succ]
  refine wpAnyH_take (i := 18) (v := undef) rfl (by kernel_rfl) (by kernel_rfl) (by kernel_rfl) (fun _ _ _ h => h) (Or.inr ⟨by rfl, rfl⟩) hHeld ?_
  simp only [Act.put, List.getElem_toArray, List.getElem_cons_succ, List.getElem_cons_zero, List.setIfInBounds_toArray, List.set_cons_zero, List.set_cons_succ]
  refine wpAnyH_take (i := 19) (v := undef) rfl (by kernel_rfl) (by kernel_rfl) (by kernel_rfl) (fun _ _ _ h => h) (Or.inr ⟨by rfl, rfl⟩) hHeld ?_
  simp only [Act.put, List.getElem_toArray, List.getElem_cons_succ, List.getElem_cons_zero, List.setIfInBounds_toArray, List.set_cons_zero, List.set_cons_succ]
  refine wpAnyH_take (i := 20) (v := undef) rfl (by kernel_rfl) (by kernel_rfl) (by kernel_rfl) (fun _ _ _ h => h) (Or.inr ⟨by rfl, rfl⟩) hHeld ?_
  simp only [Act.put, List.getElem_toArray, List.getElem_cons_succ, List.getElem_cons_zero, List.setIfInBounds_toArray, List.set_cons_zero, List.set_cons_succ]
  refine wpAnyH_take (i := 21) (v := undef) rfl (by kernel_rfl) (by kernel_rfl) (by kernel_rfl) (fun _ _ _ h => h) (Or.inr ⟨by rfl, rfl⟩) hHeld ?_
  simp only [Act.put, List.getElem_toArray, List.getElem_cons_succ, List.getElem_cons_zero, List.setIfInBounds_toArray, List.set_cons_zero, List.set_cons_succ]
  refine wpAnyH_take (i := 22) (v := .bool false) rfl (by kernel_rfl) (by kernel_rfl) (by kernel_rfl) (fun _ _ _ h => h) (Or.inl ⟨by rfl, ?yq22⟩) hHeld ?_
  case yq22 => intro w hSw; go_simp
  simp only [Act.put, List.getElem_toArray, List.getElem_cons_succ, List.getElem_cons_zero, List.setIfInBounds_toArray, List.set_cons_zero, List.set_cons_succ]
  refine wpAnyH_take (i := 23) (v := .bool false) rfl (by kernel_rfl) (by kernel_rfl) (by kernel_rfl) (fun _ _ _ h => h) (Or.inl ⟨by rfl, ?yq23⟩) hHeld ?_
  case yq23 => intro w hSw; go_simp
  simp only [Act.put, List.getElem_toArray, List.getElem_cons_succ, List.getElem_cons_zero, List.setIfInBounds_toArray, List.set_cons_zero, List.set_cons_succ]
  refine wpAnyH_done (by kernel_rfl) ?_ _
  have B9 := Lib.hid (T0.out.low.trans (hHeld.mono T0.out.low.size))
  clear hHeld
  go_wp2
  go_ret
  exact ⟨by rw [HV.out]; rfl, B9.out⟩
set_option maxHeartbeats 2000000 in
set_option maxRecDepth 100000 in
theorem meetB (c : Int) (ts : List AR) (d : Int) (us : List AR) (s : ByteArray) (i k : Int) (rs : List RG) (a1 a2 a3 : Option Addr) (c1 c2 c3 : Nat) (w w1 : World) (hn : ts.length ≤ 10000000 ∧ us.length ≤ 10000000 ∧ rs.length ≤ 10000000) (hw1 : w1 = (w.alloc (.cells #[.int .i64 c, .slice a1 ts.length c1] 26)).alloc (.cells #[.int .i64 d, .slice a2 us.length c2] 26)) (ht : Two11 w w1 w.heap.size (w.heap.size + 1) c d (.slice a1 ts.length c1) (.slice a2 us.length c2) (.slice a3 rs.length c3) ts us rs) (v : Bool) (h1 : told11 rs = true) (h2 : affOk8 c ts = false) (hv : v = false) :
    Calls Tryz.prog 9 #[.agg #[.int .i64 c, .slice a1 ts.length c1], .agg #[.int .i64 d, .slice a2 us.length c2], .string s, .int .i64 i, .int .i64 k, .slice a3 rs.length c3] w fun e w' => e = .returned (.bool v) ∧ Below w.heap.size w w' := by
  have HN := Lib.hid hn
  have T0 := Lib.hid ht
  have HTO := Lib.hid h1
  have HV := Lib.hid hv
  have HO1 := Lib.hid h2
  clear hn ht h1 hv h2
  go_enter Tryz.func9, Tryz.ntmps9
  go_wp2_with fail
  rw [← hw1]
  clear hw1
  have bd : Below w1.heap.size w1 w1.drew := (Below.refl _ w1).drew
  refine wp_region_held_drew (S := Below w1.heap.size w1) (by kernel_rfl) bd (fun hHeld => ?_)
  clear bd
  refine wpAnyH_take (i := 0) (v := .slice a3 rs.length c3) rfl (by kernel_rfl) (by kernel_rfl) (by kernel_rfl) (fun _ _ _ h => h) (Or.inl ⟨by rfl, ?yq0⟩) hHeld ?_
  case yq0 => intro w hSw; go_simp
  simp only [Act.put, List.getElem_toArray, List.getElem_cons_succ, List.getElem_cons_zero, List.setIfInBounds_toArray, List.set_cons_zero, List.set_cons_succ]
  refine wpAnyH_ready (rs := [1]) (by kernel_rfl) (by simp) ?_
  refine AllReadyH.cons rfl (fun K hK => ?_) AllReadyH.nil
  rw [if_pos (by rfl)]
  simp only [List.getElem_toArray, List.getElem_cons_succ, List.getElem_cons_zero]
  go_wp2_with fail
  refine (roundsTold_is rs (by have := HN.out; omega) _ _ (T0.out.later hHeld).rr true HTO.out).mono ?_
  rintro e wa ⟨rfl, hbb⟩
  go_wp2_with fail
  refine hK.out _ _ (hHeld.trans (hbb.mono hHeld.size)) (fun hHeld => ?_)
  clear hbb
  refine wpAnyH_take (i := 2) (v := .bool true) rfl (by kernel_rfl) (by kernel_rfl) (by kernel_rfl) (fun _ _ _ h => h) (Or.inl ⟨by rfl, ?yq2⟩) hHeld ?_
  case yq2 => intro w hSw; go_simp
  simp only [Act.put, List.getElem_toArray, List.getElem_cons_succ, List.getElem_cons_zero, List.setIfInBounds_toArray, List.set_cons_zero, List.set_cons_succ]
  refine wpAnyH_take (i := 3) (v := .agg #[.int .i64 c, .slice a1 ts.length c1]) rfl (by kernel_rfl) (by kernel_rfl) (by kernel_rfl) (fun _ _ _ h => h) (Or.inl ⟨by rfl, ?yq3⟩) hHeld ?_
  case yq3 => intro w hSw; obtain ⟨j0, j1⟩ := And.intro (cellC11 (T0.out.later hSw).r1) (cellT11 (T0.out.later hSw).r1); go_simp
  simp only [Act.put, List.getElem_toArray, List.getElem_cons_succ, List.getElem_cons_zero, List.setIfInBounds_toArray, List.set_cons_zero, List.set_cons_succ]
  refine wpAnyH_ready (rs := [4]) (by kernel_rfl) (by simp) ?_
  refine AllReadyH.cons rfl (fun K hK => ?_) AllReadyH.nil
  rw [if_pos (by rfl)]
  simp only [List.getElem_toArray, List.getElem_cons_succ, List.getElem_cons_zero]
  go_wp2_with fail
  refine (impl_AffOk c ts (by have := HN.out; omega) _ _ (T0.out.later hHeld).a1 false HO1.out).mono ?_
  rintro e wb ⟨rfl, hbb⟩
  go_wp2_with fail
  refine hK.out _ _ (hHeld.trans (hbb.mono hHeld.size)) (fun hHeld => ?_)
  clear hbb
  refine wpAnyH_take (i := 5) (v := .bool false) rfl (by kernel_rfl) (by kernel_rfl) (by kernel_rfl) (fun _ _ _ h => h) (Or.inl ⟨by rfl, ?yq5⟩) hHeld ?_
  case yq5 => intro w hSw; go_simp
  simp only [Act.put, List.getElem_toArray, List.getElem_cons_succ, List.getElem_cons_zero, List.setIfInBounds_toArray, List.set_cons_zero, List.set_cons_succ]
  refine wpAnyH_take (i := 6) (v := .bool false) rfl (by kernel_rfl) (by kernel_rfl) (by kernel_rfl) (fun _ _ _ h => h) (Or.inl ⟨by rfl, ?yq6⟩) hHeld ?_
  case yq6 => intro w hSw; go_simp
  simp only [Act.put, List.getElem_toArray, List.getElem_cons_succ, List.getElem_cons_zero, List.setIfInBounds_toArray, List.set_cons_zero, List.set_cons_succ]
  refine wpAnyH_take (i := 7) (v := undef) rfl (by kernel_rfl) (by kernel_rfl) (by kernel_rfl) (fun _ _ _ h => h) (Or.inr ⟨by rfl, rfl⟩) hHeld ?_
  simp only [Act.put, List.getElem_toArray, List.getElem_cons_succ, List.getElem_cons_zero, List.setIfInBounds_toArray, List.set_cons_zero, List.set_cons_succ]
  refine wpAnyH_take (i := 8) (v := undef) rfl (by kernel_rfl) (by kernel_rfl) (by kernel_rfl) (fun _ _ _ h => h) (Or.inr ⟨by rfl, rfl⟩) hHeld ?_
  simp only [Act.put, List.getElem_toArray, List.getElem_cons_succ, List.getElem_cons_zero, List.setIfInBounds_toArray, List.set_cons_zero, List.set_cons_succ]
  refine wpAnyH_take (i := 9) (v := .bool false) rfl (by kernel_rfl) (by kernel_rfl) (by kernel_rfl) (fun _ _ _ h => h) (Or.inl ⟨by rfl, ?yq9⟩) hHeld ?_
  case yq9 => intro w hSw; go_simp
  simp only [Act.put, List.getElem_toArray, List.getElem_cons_succ, List.getElem_cons_zero, List.setIfInBounds_toArray, List.set_cons_zero, List.set_cons_succ]
  refine wpAnyH_take (i := 10) (v := .bool false) rfl (by kernel_rfl) (by kernel_rfl) (by kernel_rfl) (fun _ _ _ h => h) (Or.inl ⟨by rfl, ?yq10⟩) hHeld ?_
  case yq10 => intro w hSw; go_simp
  simp only [Act.put, List.getElem_toArray, List.getElem_cons_succ, List.getElem_cons_zero, List.setIfInBounds_toArray, List.set_cons_zero, List.set_cons_succ]
  refine wpAnyH_take (i := 11) (v := undef) rfl (by kernel_rfl) (by kernel_rfl) (by kernel_rfl) (fun _ _ _ h => h) (Or.inr ⟨by rfl, rfl⟩) hHeld ?_
  simp only [Act.put, List.getElem_toArray, List.getElem_cons_succ, List.getElem_cons_zero, List.setIfInBounds_toArray, List.set_cons_zero, List.set_cons_succ]
  refine wpAnyH_take (i := 12) (v := undef) rfl (by kernel_rfl) (by kernel_rfl) (by kernel_rfl) (fun _ _ _ h => h) (Or.inr ⟨by rfl, rfl⟩) hHeld ?_
  simp only [Act.put, List.getElem_toArray, List.getElem_cons_succ, List.getElem_cons_zero, List.setIfInBounds_toArray, List.set_cons_zero, List.set_cons_succ]
  refine wpAnyH_take (i := 13) (v := undef) rfl (by kernel_rfl) (by kernel_rfl) (by kernel_rfl) (fun _ _ _ h => h) (Or.inr ⟨by rfl, rfl⟩) hHeld ?_
  simp only [Act.put, List.getElem_toArray, List.getElem_cons_succ, List.getElem_cons_zero, List.setIfInBounds_toArray, List.set_cons_zero, List.set_cons_succ]
  refine wpAnyH_take (i := 14) (v := undef) rfl (by kernel_rfl) (by kernel_rfl) (by kernel_rfl) (fun _ _ _ h => h) (Or.inr ⟨by rfl, rfl⟩) hHeld ?_
  simp only [Act.put, List.getElem_toArray, List.getElem_cons_succ, List.getElem_cons_zero, List.setIfInBounds_toArray, List.set_cons_zero, List.set_cons_succ]
  refine wpAnyH_take (i := 15) (v := undef) rfl (by kernel_rfl) (by kernel_rfl) (by kernel_rfl) (fun _ _ _ h => h) (Or.inr ⟨by rfl, rfl⟩) hHeld ?_
  simp only [Act.put, List.getElem_toArray, List.getElem_cons_succ, List.getElem_cons_zero, List.setIfInBounds_toArray, List.set_cons_zero, List.set_cons_succ]
  refine wpAnyH_take (i := 16) (v := undef) rfl (by kernel_rfl) (by kernel_rfl) (by kernel_rfl) (fun _ _ _ h => h) (Or.inr ⟨by rfl, rfl⟩) hHeld ?_
  simp only [Act.put, List.getElem_toArray, List.getElem_cons_succ, List.getElem_cons_zero, List.setIfInBounds_toArray, List.set_cons_zero, List.set_cons_succ]
  refine wpAnyH_take (i := 17) (v := undef) rfl (by kernel_rfl) (by kernel_rfl) (by kernel_rfl) (fun _ _ _ h => h) (Or.inr ⟨by rfl, rfl⟩) hHeld ?_
  simp only [Act.put, List.getElem_toArray, List.getElem_cons_succ, List.getElem_cons_zero, List.setIfInBounds_toArray, List.set_cons_zero, List.set_cons_succ]
  refine wpAnyH_take (i := 18) (v := undef) rfl (by kernel_rfl) (by kernel_rfl) (by kernel_rfl) (fun _ _ _ h => h) (Or.inr ⟨by rfl, rfl⟩) hHeld ?_
  simp only [Act.put, List.getElem_toArray, List.getElem_cons_succ, List.getElem_cons_zero, List.setIfInBounds_toArray, List.set_cons_zero, List.set_cons_succ]
  refine wpAnyH_take (i := 19) (v := undef) rfl (by kernel_rfl) (by kernel_rfl) (by kernel_rfl) (fun _ _ _ h => h) (Or.inr ⟨by rfl, rfl⟩) hHeld ?_
  simp only [Act.put, List.getElem_toArray, List.getElem_cons_succ, List.getElem_cons_zero, List.setIfInBounds_toArray, List.set_cons_zero, List.set_cons_succ]
  refine wpAnyH_take (i := 20) (v := undef) rfl (by kernel_rfl) (by kernel_rfl) (by kernel_rfl) (fun _ _ _ h => h) (Or.inr ⟨by rfl, rfl⟩) hHeld ?_
  simp only [Act.put, List.getElem_toArray, List.getElem_cons_succ, List.getElem_cons_zero, List.setIfInBounds_toArray, List.set_cons_zero, List.set_cons_succ]
  refine wpAnyH_take (i := 21) (v := undef) rfl (by kernel_rfl) (by kernel_rfl) (by kernel_rfl) (fun _ _ _ h => h) (Or.inr ⟨by rfl, rfl⟩) hHeld ?_
  simp only [Act.put, List.getElem_toArray, List.getElem_cons_succ, List.getElem_cons_zero, List.setIfInBounds_toArray, List.set_cons_zero, List.set_cons_succ]
  refine wpAnyH_take (i := 22) (v := .bool false) rfl (by kernel_rfl) (by kernel_rfl) (by kernel_rfl) (fun _ _ _ h => h) (Or.inl ⟨by rfl, ?yq22⟩) hHeld ?_
  case yq22 => intro w hSw; go_simp
  simp only [Act.put, List.getElem_toArray, List.getElem_cons_succ, List.getElem_cons_zero, List.setIfInBounds_toArray, List.set_cons_zero, List.set_cons_succ]
  refine wpAnyH_take (i := 23) (v := .bool false) rfl (by kernel_rfl) (by kernel_rfl) (by kernel_rfl) (fun _ _ _ h => h) (Or.inl ⟨by rfl, ?yq23⟩) hHeld ?_
  case yq23 => intro w hSw; go_simp
  simp only [Act.put, List.getElem_toArray, List.getElem_cons_succ, List.getElem_cons_zero, List.setIfInBounds_toArray, List.set_cons_zero, List.set_cons_succ]
  refine wpAnyH_done (by kernel_rfl) ?_ _
  have B9 := Lib.hid (T0.out.low.trans (hHeld.mono T0.out.low.size))
  clear hHeld
  go_wp2
  go_ret
  exact ⟨by rw [HV.out]; rfl, B9.out⟩
set_option maxHeartbeats 2000000 in
set_option maxRecDepth 100000 in
theorem meetC (c : Int) (ts : List AR) (d : Int) (us : List AR) (s : ByteArray) (i k : Int) (rs : List RG) (a1 a2 a3 : Option Addr) (c1 c2 c3 : Nat) (w w1 : World) (hn : ts.length ≤ 10000000 ∧ us.length ≤ 10000000 ∧ rs.length ≤ 10000000) (hw1 : w1 = (w.alloc (.cells #[.int .i64 c, .slice a1 ts.length c1] 26)).alloc (.cells #[.int .i64 d, .slice a2 us.length c2] 26)) (ht : Two11 w w1 w.heap.size (w.heap.size + 1) c d (.slice a1 ts.length c1) (.slice a2 us.length c2) (.slice a3 rs.length c3) ts us rs) (v : Bool) (h1 : told11 rs = true) (h2 : affOk8 c ts = true) (h3 : affOk8 d us = false) (hv : v = false) :
    Calls Tryz.prog 9 #[.agg #[.int .i64 c, .slice a1 ts.length c1], .agg #[.int .i64 d, .slice a2 us.length c2], .string s, .int .i64 i, .int .i64 k, .slice a3 rs.length c3] w fun e w' => e = .returned (.bool v) ∧ Below w.heap.size w w' := by
  have HN := Lib.hid hn
  have T0 := Lib.hid ht
  have HTO := Lib.hid h1
  have HV := Lib.hid hv
  have HO1 := Lib.hid h2
  have HO2 := Lib.hid h3
  clear hn ht h1 hv h2 h3
  go_enter Tryz.func9, Tryz.ntmps9
  go_wp2_with fail
  rw [← hw1]
  clear hw1
  have bd : Below w1.heap.size w1 w1.drew := (Below.refl _ w1).drew
  refine wp_region_held_drew (S := Below w1.heap.size w1) (by kernel_rfl) bd (fun hHeld => ?_)
  clear bd
  refine wpAnyH_take (i := 0) (v := .slice a3 rs.length c3) rfl (by kernel_rfl) (by kernel_rfl) (by kernel_rfl) (fun _ _ _ h => h) (Or.inl ⟨by rfl, ?yq0⟩) hHeld ?_
  case yq0 => intro w hSw; go_simp
  simp only [Act.put, List.getElem_toArray, List.getElem_cons_succ, List.getElem_cons_zero, List.setIfInBounds_toArray, List.set_cons_zero, List.set_cons_succ]
  refine wpAnyH_ready (rs := [1]) (by kernel_rfl) (by simp) ?_
  refine AllReadyH.cons rfl (fun K hK => ?_) AllReadyH.nil
  rw [if_pos (by rfl)]
  simp only [List.getElem_toArray, List.getElem_cons_succ, List.getElem_cons_zero]
  go_wp2_with fail
  refine (roundsTold_is rs (by have := HN.out; omega) _ _ (T0.out.later hHeld).rr true HTO.out).mono ?_
  rintro e wa ⟨rfl, hbb⟩
  go_wp2_with fail
  refine hK.out _ _ (hHeld.trans (hbb.mono hHeld.size)) (fun hHeld => ?_)
  clear hbb
  refine wpAnyH_take (i := 2) (v := .bool true) rfl (by kernel_rfl) (by kernel_rfl) (by kernel_rfl) (fun _ _ _ h => h) (Or.inl ⟨by rfl, ?yq2⟩) hHeld ?_
  case yq2 => intro w hSw; go_simp
  simp only [Act.put, List.getElem_toArray, List.getElem_cons_succ, List.getElem_cons_zero, List.setIfInBounds_toArray, List.set_cons_zero, List.set_cons_succ]
  refine wpAnyH_take (i := 3) (v := .agg #[.int .i64 c, .slice a1 ts.length c1]) rfl (by kernel_rfl) (by kernel_rfl) (by kernel_rfl) (fun _ _ _ h => h) (Or.inl ⟨by rfl, ?yq3⟩) hHeld ?_
  case yq3 => intro w hSw; obtain ⟨j0, j1⟩ := And.intro (cellC11 (T0.out.later hSw).r1) (cellT11 (T0.out.later hSw).r1); go_simp
  simp only [Act.put, List.getElem_toArray, List.getElem_cons_succ, List.getElem_cons_zero, List.setIfInBounds_toArray, List.set_cons_zero, List.set_cons_succ]
  refine wpAnyH_ready (rs := [4]) (by kernel_rfl) (by simp) ?_
  refine AllReadyH.cons rfl (fun K hK => ?_) AllReadyH.nil
  rw [if_pos (by rfl)]
  simp only [List.getElem_toArray, List.getElem_cons_succ, List.getElem_cons_zero]
  go_wp2_with fail
  refine (impl_AffOk c ts (by have := HN.out; omega) _ _ (T0.out.later hHeld).a1 true HO1.out).mono ?_
  rintro e wb ⟨rfl, hbb⟩
  go_wp2_with fail
  refine hK.out _ _ (hHeld.trans (hbb.mono hHeld.size)) (fun hHeld => ?_)
  clear hbb
  refine wpAnyH_take (i := 5) (v := .bool true) rfl (by kernel_rfl) (by kernel_rfl) (by kernel_rfl) (fun _ _ _ h => h) (Or.inl ⟨by rfl, ?yq5⟩) hHeld ?_
  case yq5 => intro w hSw; go_simp
  simp only [Act.put, List.getElem_toArray, List.getElem_cons_succ, List.getElem_cons_zero, List.setIfInBounds_toArray, List.set_cons_zero, List.set_cons_succ]
  refine wpAnyH_take (i := 6) (v := .bool true) rfl (by kernel_rfl) (by kernel_rfl) (by kernel_rfl) (fun _ _ _ h => h) (Or.inl ⟨by rfl, ?yq6⟩) hHeld ?_
  case yq6 => intro w hSw; go_simp
  simp only [Act.put, List.getElem_toArray, List.getElem_cons_succ, List.getElem_cons_zero, List.setIfInBounds_toArray, List.set_cons_zero, List.set_cons_succ]
  refine wpAnyH_take (i := 7) (v := .agg #[.int .i64 d, .slice a2 us.length c2]) rfl (by kernel_rfl) (by kernel_rfl) (by kernel_rfl) (fun _ _ _ h => h) (Or.inl ⟨by rfl, ?yq7⟩) hHeld ?_
  case yq7 => intro w hSw; obtain ⟨j0, j1⟩ := And.intro (cellC11 (T0.out.later hSw).r2) (cellT11 (T0.out.later hSw).r2); go_simp
  simp only [Act.put, List.getElem_toArray, List.getElem_cons_succ, List.getElem_cons_zero, List.setIfInBounds_toArray, List.set_cons_zero, List.set_cons_succ]
  refine wpAnyH_ready (rs := [8]) (by kernel_rfl) (by simp) ?_
  refine AllReadyH.cons rfl (fun K hK => ?_) AllReadyH.nil
  rw [if_pos (by rfl)]
  simp only [List.getElem_toArray, List.getElem_cons_succ, List.getElem_cons_zero]
  go_wp2_with fail
  refine (impl_AffOk d us (by have := HN.out; omega) _ _ (T0.out.later hHeld).a2 false HO2.out).mono ?_
  rintro e wc ⟨rfl, hbb⟩
  go_wp2_with fail
  refine hK.out _ _ (hHeld.trans (hbb.mono hHeld.size)) (fun hHeld => ?_)
  clear hbb
  refine wpAnyH_take (i := 9) (v := .bool false) rfl (by kernel_rfl) (by kernel_rfl) (by kernel_rfl) (fun _ _ _ h => h) (Or.inl ⟨by rfl, ?yq9⟩) hHeld ?_
  case yq9 => intro w hSw; go_simp
  simp only [Act.put, List.getElem_toArray, List.getElem_cons_succ, List.getElem_cons_zero, List.setIfInBounds_toArray, List.set_cons_zero, List.set_cons_succ]
  refine wpAnyH_take (i := 10) (v := .bool false) rfl (by kernel_rfl) (by kernel_rfl) (by kernel_rfl) (fun _ _ _ h => h) (Or.inl ⟨by rfl, ?yq10⟩) hHeld ?_
  case yq10 => intro w hSw; go_simp
  simp only [Act.put, List.getElem_toArray, List.getElem_cons_succ, List.getElem_cons_zero, List.setIfInBounds_toArray, List.set_cons_zero, List.set_cons_succ]
  refine wpAnyH_take (i := 11) (v := undef) rfl (by kernel_rfl) (by kernel_rfl) (by kernel_rfl) (fun _ _ _ h => h) (Or.inr ⟨by rfl, rfl⟩) hHeld ?_
  simp only [Act.put, List.getElem_toArray, List.getElem_cons_succ, List.getElem_cons_zero, List.setIfInBounds_toArray, List.set_cons_zero, List.set_cons_succ]
  refine wpAnyH_take (i := 12) (v := undef) rfl (by kernel_rfl) (by kernel_rfl) (by kernel_rfl) (fun _ _ _ h => h) (Or.inr ⟨by rfl, rfl⟩) hHeld ?_
  simp only [Act.put, List.getElem_toArray, List.getElem_cons_succ, List.getElem_cons_zero, List.setIfInBounds_toArray, List.set_cons_zero, List.set_cons_succ]
  refine wpAnyH_take (i := 13) (v := undef) rfl (by kernel_rfl) (by kernel_rfl) (by kernel_rfl) (fun _ _ _ h => h) (Or.inr ⟨by rfl, rfl⟩) hHeld ?_
  simp only [Act.put, List.getElem_toArray, List.getElem_cons_succ, List.getElem_cons_zero, List.setIfInBounds_toArray, List.set_cons_zero, List.set_cons_succ]
  refine wpAnyH_take (i := 14) (v := undef) rfl (by kernel_rfl) (by kernel_rfl) (by kernel_rfl) (fun _ _ _ h => h) (Or.inr ⟨by rfl, rfl⟩) hHeld ?_
  simp only [Act.put, List.getElem_toArray, List.getElem_cons_succ, List.getElem_cons_zero, List.setIfInBounds_toArray, List.set_cons_zero, List.set_cons_succ]
  refine wpAnyH_take (i := 15) (v := undef) rfl (by kernel_rfl) (by kernel_rfl) (by kernel_rfl) (fun _ _ _ h => h) (Or.inr ⟨by rfl, rfl⟩) hHeld ?_
  simp only [Act.put, List.getElem_toArray, List.getElem_cons_succ, List.getElem_cons_zero, List.setIfInBounds_toArray, List.set_cons_zero, List.set_cons_succ]
  refine wpAnyH_take (i := 16) (v := undef) rfl (by kernel_rfl) (by kernel_rfl) (by kernel_rfl) (fun _ _ _ h => h) (Or.inr ⟨by rfl, rfl⟩) hHeld ?_
  simp only [Act.put, List.getElem_toArray, List.getElem_cons_succ, List.getElem_cons_zero, List.setIfInBounds_toArray, List.set_cons_zero, List.set_cons_succ]
  refine wpAnyH_take (i := 17) (v := undef) rfl (by kernel_rfl) (by kernel_rfl) (by kernel_rfl) (fun _ _ _ h => h) (Or.inr ⟨by rfl, rfl⟩) hHeld ?_
  simp only [Act.put, List.getElem_toArray, List.getElem_cons_succ, List.getElem_cons_zero, List.setIfInBounds_toArray, List.set_cons_zero, List.set_cons_succ]
  refine wpAnyH_take (i := 18) (v := undef) rfl (by kernel_rfl) (by kernel_rfl) (by kernel_rfl) (fun _ _ _ h => h) (Or.inr ⟨by rfl, rfl⟩) hHeld ?_
  simp only [Act.put, List.getElem_toArray, List.getElem_cons_succ, List.getElem_cons_zero, List.setIfInBounds_toArray, List.set_cons_zero, List.set_cons_succ]
  refine wpAnyH_take (i := 19) (v := undef) rfl (by kernel_rfl) (by kernel_rfl) (by kernel_rfl) (fun _ _ _ h => h) (Or.inr ⟨by rfl, rfl⟩) hHeld ?_
  simp only [Act.put, List.getElem_toArray, List.getElem_cons_succ, List.getElem_cons_zero, List.setIfInBounds_toArray, List.set_cons_zero, List.set_cons_succ]
  refine wpAnyH_take (i := 20) (v := undef) rfl (by kernel_rfl) (by kernel_rfl) (by kernel_rfl) (fun _ _ _ h => h) (Or.inr ⟨by rfl, rfl⟩) hHeld ?_
  simp only [Act.put, List.getElem_toArray, List.getElem_cons_succ, List.getElem_cons_zero, List.setIfInBounds_toArray, List.set_cons_zero, List.set_cons_succ]
  refine wpAnyH_take (i := 21) (v := undef) rfl (by kernel_rfl) (by kernel_rfl) (by kernel_rfl) (fun _ _ _ h => h) (Or.inr ⟨by rfl, rfl⟩) hHeld ?_
  simp only [Act.put, List.getElem_toArray, List.getElem_cons_succ, List.getElem_cons_zero, List.setIfInBounds_toArray, List.set_cons_zero, List.set_cons_succ]
  refine wpAnyH_take (i := 22) (v := .bool false) rfl (by kernel_rfl) (by kernel_rfl) (by kernel_rfl) (fun _ _ _ h => h) (Or.inl ⟨by rfl, ?yq22⟩) hHeld ?_
  case yq22 => intro w hSw; go_simp
  simp only [Act.put, List.getElem_toArray, List.getElem_cons_succ, List.getElem_cons_zero, List.setIfInBounds_toArray, List.set_cons_zero, List.set_cons_succ]
  refine wpAnyH_take (i := 23) (v := .bool false) rfl (by kernel_rfl) (by kernel_rfl) (by kernel_rfl) (fun _ _ _ h => h) (Or.inl ⟨by rfl, ?yq23⟩) hHeld ?_
  case yq23 => intro w hSw; go_simp
  simp only [Act.put, List.getElem_toArray, List.getElem_cons_succ, List.getElem_cons_zero, List.setIfInBounds_toArray, List.set_cons_zero, List.set_cons_succ]
  refine wpAnyH_done (by kernel_rfl) ?_ _
  have B9 := Lib.hid (T0.out.low.trans (hHeld.mono T0.out.low.size))
  clear hHeld
  go_wp2
  go_ret
  exact ⟨by rw [HV.out]; rfl, B9.out⟩
set_option maxHeartbeats 2000000 in
set_option maxRecDepth 100000 in
theorem meetD (c : Int) (ts : List AR) (d : Int) (us : List AR) (s : ByteArray) (i k : Int) (rs : List RG) (a1 a2 a3 : Option Addr) (c1 c2 c3 : Nat) (w w1 : World) (hn : ts.length ≤ 10000000 ∧ us.length ≤ 10000000 ∧ rs.length ≤ 10000000) (hw1 : w1 = (w.alloc (.cells #[.int .i64 c, .slice a1 ts.length c1] 26)).alloc (.cells #[.int .i64 d, .slice a2 us.length c2] 26)) (ht : Two11 w w1 w.heap.size (w.heap.size + 1) c d (.slice a1 ts.length c1) (.slice a2 us.length c2) (.slice a3 rs.length c3) ts us rs) (v : Bool) (h1 : told11 rs = true) (h2 : affOk8 c ts = true) (h3 : affOk8 d us = true) (hv : both11 (placesP11 c ts s i rs) (placesP11 d us s k rs) = v) :
    Calls Tryz.prog 9 #[.agg #[.int .i64 c, .slice a1 ts.length c1], .agg #[.int .i64 d, .slice a2 us.length c2], .string s, .int .i64 i, .int .i64 k, .slice a3 rs.length c3] w fun e w' => e = .returned (.bool v) ∧ Below w.heap.size w w' := by
  have HN := Lib.hid hn
  have T0 := Lib.hid ht
  have HTO := Lib.hid h1
  have HV := Lib.hid hv
  have HO1 := Lib.hid h2
  have HO2 := Lib.hid h3
  have HW := Lib.hid (told_prod h1)
  have HL1 := Lib.hid (Nat.le_trans (foldP11_len ts s rs [wrap64 (c + wrap64 (coefA ts s * i))] (fit_of HW.out.1)) (show 1 * prodR11 rs ≤ 600 by have := HW.out.2; omega))
  have HL2 := Lib.hid (Nat.le_trans (foldP11_len us s rs [wrap64 (d + wrap64 (coefA us s * k))] (fit_of HW.out.1)) (show 1 * prodR11 rs ≤ 600 by have := HW.out.2; omega))
  have HS2 := Lib.hid (foldP11_sorted us s rs [wrap64 (d + wrap64 (coefA us s * k))] (by simp))
  change Hid ((placesP11 c ts s i rs).length ≤ 600) at HL1
  change Hid ((placesP11 d us s k rs).length ≤ 600) at HL2
  change Hid ((placesP11 d us s k rs).Pairwise (· < ·)) at HS2
  clear hn ht h1 hv h2 h3
  go_enter Tryz.func9, Tryz.ntmps9
  go_wp2_with fail
  rw [← hw1]
  clear hw1
  have bd : Below w1.heap.size w1 w1.drew := (Below.refl _ w1).drew
  refine wp_region_held_drew (S := Below w1.heap.size w1) (by kernel_rfl) bd (fun hHeld => ?_)
  clear bd
  refine wpAnyH_take (i := 0) (v := .slice a3 rs.length c3) rfl (by kernel_rfl) (by kernel_rfl) (by kernel_rfl) (fun _ _ _ h => h) (Or.inl ⟨by rfl, ?yq0⟩) hHeld ?_
  case yq0 => intro w hSw; go_simp
  simp only [Act.put, List.getElem_toArray, List.getElem_cons_succ, List.getElem_cons_zero, List.setIfInBounds_toArray, List.set_cons_zero, List.set_cons_succ]
  refine wpAnyH_ready (rs := [1]) (by kernel_rfl) (by simp) ?_
  refine AllReadyH.cons rfl (fun K hK => ?_) AllReadyH.nil
  rw [if_pos (by rfl)]
  simp only [List.getElem_toArray, List.getElem_cons_succ, List.getElem_cons_zero]
  go_wp2_with fail
  refine (roundsTold_is rs (by have := HN.out; omega) _ _ (T0.out.later hHeld).rr true HTO.out).mono ?_
  rintro e wa ⟨rfl, hbb⟩
  go_wp2_with fail
  refine hK.out _ _ (hHeld.trans (hbb.mono hHeld.size)) (fun hHeld => ?_)
  clear hbb
  refine wpAnyH_take (i := 2) (v := .bool true) rfl (by kernel_rfl) (by kernel_rfl) (by kernel_rfl) (fun _ _ _ h => h) (Or.inl ⟨by rfl, ?yq2⟩) hHeld ?_
  case yq2 => intro w hSw; go_simp
  simp only [Act.put, List.getElem_toArray, List.getElem_cons_succ, List.getElem_cons_zero, List.setIfInBounds_toArray, List.set_cons_zero, List.set_cons_succ]
  refine wpAnyH_take (i := 3) (v := .agg #[.int .i64 c, .slice a1 ts.length c1]) rfl (by kernel_rfl) (by kernel_rfl) (by kernel_rfl) (fun _ _ _ h => h) (Or.inl ⟨by rfl, ?yq3⟩) hHeld ?_
  case yq3 => intro w hSw; obtain ⟨j0, j1⟩ := And.intro (cellC11 (T0.out.later hSw).r1) (cellT11 (T0.out.later hSw).r1); go_simp
  simp only [Act.put, List.getElem_toArray, List.getElem_cons_succ, List.getElem_cons_zero, List.setIfInBounds_toArray, List.set_cons_zero, List.set_cons_succ]
  refine wpAnyH_ready (rs := [4]) (by kernel_rfl) (by simp) ?_
  refine AllReadyH.cons rfl (fun K hK => ?_) AllReadyH.nil
  rw [if_pos (by rfl)]
  simp only [List.getElem_toArray, List.getElem_cons_succ, List.getElem_cons_zero]
  go_wp2_with fail
  refine (impl_AffOk c ts (by have := HN.out; omega) _ _ (T0.out.later hHeld).a1 true HO1.out).mono ?_
  rintro e wb ⟨rfl, hbb⟩
  go_wp2_with fail
  refine hK.out _ _ (hHeld.trans (hbb.mono hHeld.size)) (fun hHeld => ?_)
  clear hbb
  refine wpAnyH_take (i := 5) (v := .bool true) rfl (by kernel_rfl) (by kernel_rfl) (by kernel_rfl) (fun _ _ _ h => h) (Or.inl ⟨by rfl, ?yq5⟩) hHeld ?_
  case yq5 => intro w hSw; go_simp
  simp only [Act.put, List.getElem_toArray, List.getElem_cons_succ, List.getElem_cons_zero, List.setIfInBounds_toArray, List.set_cons_zero, List.set_cons_succ]
  refine wpAnyH_take (i := 6) (v := .bool true) rfl (by kernel_rfl) (by kernel_rfl) (by kernel_rfl) (fun _ _ _ h => h) (Or.inl ⟨by rfl, ?yq6⟩) hHeld ?_
  case yq6 => intro w hSw; go_simp
  simp only [Act.put, List.getElem_toArray, List.getElem_cons_succ, List.getElem_cons_zero, List.setIfInBounds_toArray, List.set_cons_zero, List.set_cons_succ]
  refine wpAnyH_take (i := 7) (v := .agg #[.int .i64 d, .slice a2 us.length c2]) rfl (by kernel_rfl) (by kernel_rfl) (by kernel_rfl) (fun _ _ _ h => h) (Or.inl ⟨by rfl, ?yq7⟩) hHeld ?_
  case yq7 => intro w hSw; obtain ⟨j0, j1⟩ := And.intro (cellC11 (T0.out.later hSw).r2) (cellT11 (T0.out.later hSw).r2); go_simp
  simp only [Act.put, List.getElem_toArray, List.getElem_cons_succ, List.getElem_cons_zero, List.setIfInBounds_toArray, List.set_cons_zero, List.set_cons_succ]
  refine wpAnyH_ready (rs := [8]) (by kernel_rfl) (by simp) ?_
  refine AllReadyH.cons rfl (fun K hK => ?_) AllReadyH.nil
  rw [if_pos (by rfl)]
  simp only [List.getElem_toArray, List.getElem_cons_succ, List.getElem_cons_zero]
  go_wp2_with fail
  refine (impl_AffOk d us (by have := HN.out; omega) _ _ (T0.out.later hHeld).a2 true HO2.out).mono ?_
  rintro e wc ⟨rfl, hbb⟩
  go_wp2_with fail
  refine hK.out _ _ (hHeld.trans (hbb.mono hHeld.size)) (fun hHeld => ?_)
  clear hbb
  refine wpAnyH_take (i := 9) (v := .bool true) rfl (by kernel_rfl) (by kernel_rfl) (by kernel_rfl) (fun _ _ _ h => h) (Or.inl ⟨by rfl, ?yq9⟩) hHeld ?_
  case yq9 => intro w hSw; go_simp
  simp only [Act.put, List.getElem_toArray, List.getElem_cons_succ, List.getElem_cons_zero, List.setIfInBounds_toArray, List.set_cons_zero, List.set_cons_succ]
  refine wpAnyH_take (i := 10) (v := .bool true) rfl (by kernel_rfl) (by kernel_rfl) (by kernel_rfl) (fun _ _ _ h => h) (Or.inl ⟨by rfl, ?yq10⟩) hHeld ?_
  case yq10 => intro w hSw; go_simp
  simp only [Act.put, List.getElem_toArray, List.getElem_cons_succ, List.getElem_cons_zero, List.setIfInBounds_toArray, List.set_cons_zero, List.set_cons_succ]
  refine wpAnyH_take (i := 11) (v := .agg #[.int .i64 c, .slice a1 ts.length c1]) rfl (by kernel_rfl) (by kernel_rfl) (by kernel_rfl) (fun _ _ _ h => h) (Or.inl ⟨by rfl, ?yq11⟩) hHeld ?_
  case yq11 => intro w hSw; obtain ⟨j0, j1⟩ := And.intro (cellC11 (T0.out.later hSw).r1) (cellT11 (T0.out.later hSw).r1); go_simp
  simp only [Act.put, List.getElem_toArray, List.getElem_cons_succ, List.getElem_cons_zero, List.setIfInBounds_toArray, List.set_cons_zero, List.set_cons_succ]
  refine wpAnyH_take (i := 12) (v := .string s) rfl (by kernel_rfl) (by kernel_rfl) (by kernel_rfl) (fun _ _ _ h => h) (Or.inl ⟨by rfl, ?yq12⟩) hHeld ?_
  case yq12 => intro w hSw; go_simp
  simp only [Act.put, List.getElem_toArray, List.getElem_cons_succ, List.getElem_cons_zero, List.setIfInBounds_toArray, List.set_cons_zero, List.set_cons_succ]
  refine wpAnyH_take (i := 13) (v := .int .i64 i) rfl (by kernel_rfl) (by kernel_rfl) (by kernel_rfl) (fun _ _ _ h => h) (Or.inl ⟨by rfl, ?yq13⟩) hHeld ?_
  case yq13 => intro w hSw; go_simp
  simp only [Act.put, List.getElem_toArray, List.getElem_cons_succ, List.getElem_cons_zero, List.setIfInBounds_toArray, List.set_cons_zero, List.set_cons_succ]
  refine wpAnyH_take (i := 14) (v := .slice a3 rs.length c3) rfl (by kernel_rfl) (by kernel_rfl) (by kernel_rfl) (fun _ _ _ h => h) (Or.inl ⟨by rfl, ?yq14⟩) hHeld ?_
  case yq14 => intro w hSw; go_simp
  simp only [Act.put, List.getElem_toArray, List.getElem_cons_succ, List.getElem_cons_zero, List.setIfInBounds_toArray, List.set_cons_zero, List.set_cons_succ]
  refine wpAnyH_take (i := 16) (v := .agg #[.int .i64 d, .slice a2 us.length c2]) rfl (by kernel_rfl) (by kernel_rfl) (by kernel_rfl) (fun _ _ _ h => h) (Or.inl ⟨by rfl, ?yq16⟩) hHeld ?_
  case yq16 => intro w hSw; obtain ⟨j0, j1⟩ := And.intro (cellC11 (T0.out.later hSw).r2) (cellT11 (T0.out.later hSw).r2); go_simp
  simp only [Act.put, List.getElem_toArray, List.getElem_cons_succ, List.getElem_cons_zero, List.setIfInBounds_toArray, List.set_cons_zero, List.set_cons_succ]
  refine wpAnyH_take (i := 17) (v := .string s) rfl (by kernel_rfl) (by kernel_rfl) (by kernel_rfl) (fun _ _ _ h => h) (Or.inl ⟨by rfl, ?yq17⟩) hHeld ?_
  case yq17 => intro w hSw; go_simp
  simp only [Act.put, List.getElem_toArray, List.getElem_cons_succ, List.getElem_cons_zero, List.setIfInBounds_toArray, List.set_cons_zero, List.set_cons_succ]
  refine wpAnyH_take (i := 18) (v := .int .i64 k) rfl (by kernel_rfl) (by kernel_rfl) (by kernel_rfl) (fun _ _ _ h => h) (Or.inl ⟨by rfl, ?yq18⟩) hHeld ?_
  case yq18 => intro w hSw; go_simp
  simp only [Act.put, List.getElem_toArray, List.getElem_cons_succ, List.getElem_cons_zero, List.setIfInBounds_toArray, List.set_cons_zero, List.set_cons_succ]
  refine wpAnyH_take (i := 19) (v := .slice a3 rs.length c3) rfl (by kernel_rfl) (by kernel_rfl) (by kernel_rfl) (fun _ _ _ h => h) (Or.inl ⟨by rfl, ?yq19⟩) hHeld ?_
  case yq19 => intro w hSw; go_simp
  simp only [Act.put, List.getElem_toArray, List.getElem_cons_succ, List.getElem_cons_zero, List.setIfInBounds_toArray, List.set_cons_zero, List.set_cons_succ]
  refine wpAnyH_ready (rs := [15]) (by kernel_rfl) (by simp) ?_
  refine AllReadyH.cons rfl (fun K hK => ?_) AllReadyH.nil
  rw [if_pos (by rfl)]
  simp only [List.getElem_toArray, List.getElem_cons_succ, List.getElem_cons_zero]
  go_wp2_with fail
  refine (placesIn_is c ts HN.out.1 s i rs HN.out.2.2 (fit_of HW.out.1) HW.out.2 _ _ _ (T0.out.later hHeld).a1 (T0.out.later hHeld).rr).mono ?_
  rintro e wd ⟨p1, rfl, hp1, hbb⟩
  obtain ⟨pa, pc, rfl⟩ := hp1.shape
  go_wp2_with fail
  refine hK.out _ _ (hHeld.trans (hbb.mono hHeld.size)) (fun hHeld => ?_)
  clear hbb
  refine wpAnyH_ready (rs := [20]) (by kernel_rfl) (by simp) ?_
  refine AllReadyH.cons rfl (fun K hK => ?_) AllReadyH.nil
  rw [if_pos (by rfl)]
  simp only [List.getElem_toArray, List.getElem_cons_succ, List.getElem_cons_zero]
  go_wp2_with fail
  refine (placesIn_is d us HN.out.2.1 s k rs HN.out.2.2 (fit_of HW.out.1) HW.out.2 _ _ _ (T0.out.later hHeld).a2 (T0.out.later hHeld).rr).mono ?_
  rintro e we ⟨p2, rfl, hp2, hbb⟩
  obtain ⟨pb, pd, rfl⟩ := hp2.shape
  have hp1 := hp1.later hbb
  go_wp2_with fail
  refine hK.out _ _ (hHeld.trans (hbb.mono hHeld.size)) (fun hHeld => ?_)
  clear hbb
  refine wpAnyH_ready (rs := [21]) (by kernel_rfl) (by simp) ?_
  refine AllReadyH.cons rfl (fun K hK => ?_) AllReadyH.nil
  rw [if_pos (by rfl)]
  simp only [List.getElem_toArray, List.getElem_cons_succ, List.getElem_cons_zero]
  go_wp2_with fail
  refine (inBoth_is _ _ (by have := HL1.out; omega) (by have := HL2.out; omega) HS2.out _ _ _ hp1 hp2 v HV.out).mono ?_
  rintro e wf ⟨rfl, rfl⟩
  go_wp2_with fail
  refine hK.out _ _ hHeld (fun hHeld => ?_)
  clear hp1 hp2
  refine wpAnyH_take (i := 22) (v := .bool v) rfl (by kernel_rfl) (by kernel_rfl) (by kernel_rfl) (fun _ _ _ h => h) (Or.inl ⟨by rfl, ?yq22⟩) hHeld ?_
  case yq22 => intro w hSw; go_simp
  simp only [Act.put, List.getElem_toArray, List.getElem_cons_succ, List.getElem_cons_zero, List.setIfInBounds_toArray, List.set_cons_zero, List.set_cons_succ]
  refine wpAnyH_take (i := 23) (v := .bool v) rfl (by kernel_rfl) (by kernel_rfl) (by kernel_rfl) (fun _ _ _ h => h) (Or.inl ⟨by rfl, ?yq23⟩) hHeld ?_
  case yq23 => intro w hSw; go_simp
  simp only [Act.put, List.getElem_toArray, List.getElem_cons_succ, List.getElem_cons_zero, List.setIfInBounds_toArray, List.set_cons_zero, List.set_cons_succ]
  refine wpAnyH_done (by kernel_rfl) ?_ _
  have B9 := Lib.hid (T0.out.low.trans (hHeld.mono T0.out.low.size))
  clear hHeld
  go_wp2
  go_ret
  exact ⟨rfl, B9.out⟩
theorem impl_MeetAt (c : Int) (ts : List AR) (hn : ts.length ≤ 10000000) (d : Int) (us : List AR) (hn2 : us.length ≤ 10000000) (s : ByteArray) (i k : Int) (rs : List RG) (hm : rs.length ≤ 10000000) (va vb vr : Value) (w : World) (ha : AV w 0 va ts) (hb : AV w 0 vb us) (hr : RV w 0 vr rs) (v : Bool) (hv : meetAt11 c ts d us s i k rs = v) :
    Calls Tryz.prog 9 #[.agg #[.int .i64 c, va], .agg #[.int .i64 d, vb], .string s, .int .i64 i, .int .i64 k, vr] w fun e w' => e = .returned (.bool v) ∧ Below w.heap.size w w' := by
  have ht := Two11.start w c d 26 ha hb hr
  obtain ⟨a1, c1, rfl⟩ := ha.shape
  obtain ⟨a2, c2, rfl⟩ := hb.shape
  obtain ⟨a3, c3, rfl⟩ := hr.shape
  unfold meetAt11 at hv
  cases h1 : told11 rs with
  | false => rw [h1] at hv; exact meetA c ts d us s i k rs a1 a2 a3 c1 c2 c3 w _ ⟨hn, hn2, hm⟩ rfl ht v h1 hv.symm
  | true =>
    cases h2 : affOk8 c ts with
    | false => rw [h1, h2] at hv; exact meetB c ts d us s i k rs a1 a2 a3 c1 c2 c3 w _ ⟨hn, hn2, hm⟩ rfl ht v h1 h2 hv.symm
    | true =>
      cases h3 : affOk8 d us with
      | false => rw [h1, h2, h3] at hv; exact meetC c ts d us s i k rs a1 a2 a3 c1 c2 c3 w _ ⟨hn, hn2, hm⟩ rfl ht v h1 h2 h3 hv.symm
      | true => rw [h1, h2, h3] at hv; exact meetD c ts d us s i k rs a1 a2 a3 c1 c2 c3 w _ ⟨hn, hn2, hm⟩ rfl ht v h1 h2 h3 hv
end Go.Proofs.YtjdpddcnogdekaaGreat
