/-
  spanOf, RngMeet of the landed code and of the specification.
-/
import Derived.Test.YtjdpddcnogdekaaGreatEndTop
namespace Go.Proofs.YtjdpddcnogdekaaGreat
open Go.RowKit Go.Lib
set_option linter.unusedSimpArgs false
set_option linter.unusedVariables false

def lo11 (c : Int) (ts : List AR) (rs : List RG) : Int := (far9 false c ts rs).getD 0
def hi11 (c : Int) (ts : List AR) (rs : List RG) : Int := (far9 true c ts rs).getD 0
def has11 (c : Int) (ts : List AR) (rs : List RG) : Bool := (far9 false c ts rs).isSome
theorem has11_t (c : Int) (ts : List AR) (rs : List RG) : (far9 true c ts rs).isSome = has11 c ts rs := by
  unfold has11 far9
  cases (affOk8 c ts && waysOk9 rs && ts.all fun t => hasR9 rs t.s) <;> rfl
def rngMeet11 (c : Int) (ts : List AR) (d : Int) (us : List AR) (rs : List RG) : Bool :=
  has11 c ts rs && has11 d us rs && decide (lo11 c ts rs ≤ hi11 d us rs) && decide (lo11 d us rs ≤ hi11 c ts rs)
set_option maxHeartbeats 2000000 in
theorem spanOf_is (c : Int) (ts : List AR) (hn : ts.length ≤ 1000000000) (rs : List RG) (hm : rs.length ≤ 1000000000) (va vb : Value) (w : World) (ha : AV w 0 va ts) (hb : RV w 0 vb rs) (a b : Int) (k : Bool) (h1 : lo11 c ts rs = a) (h2 : hi11 c ts rs = b) (h3 : has11 c ts rs = k) :
    Calls Tryz.prog 30 #[.agg #[.int .i64 c, va], vb] w fun e w' => e = .returned (.tuple #[.agg #[.int .i64 a, .int .i64 b], .bool k]) ∧ Below w.heap.size w w' := by
  have hb2 : Below w.heap.size w ((w.alloc (.cells #[.int .i64 c, va] 26)).alloc (.cells #[.int .i64 0, .int .i64 0] 56)) := (alloc_below w _).alloc (by simp) _
  obtain ⟨q0, q1⟩ := heap2q w (.cells #[.int .i64 c, va] 26) (.cells #[.int .i64 0, .int .i64 0] 56)
  have F : Hid (far9 false c ts rs = far9 false c ts rs ∧ farR9 (far9 false c ts rs) = .returned (.tuple #[.int .i64 a, .bool k]) ∧ farR9 (far9 true c ts rs) = .returned (.tuple #[.int .i64 b, .bool k])) := by
    refine ⟨rfl, ?_, ?_⟩
    · rw [farR9, ← h1, ← h3]; rfl
    · rw [farR9, has11_t, h3, ← h2]; rfl
  have HA := Lib.hid (And.intro (ha.later hb2) (hb.later hb2))
  have HB := Lib.hid hb2
  have Q := Lib.hid (And.intro q0 q1)
  obtain ⟨a1, c1, rfl⟩ := ha.shape
  clear ha hb hb2 q0 q1 h1 h2 h3
  go_enter Tryz.func30, Tryz.ntmps30
  go_wp2_with fail
  refine (impl_Least c ts hn rs hm _ vb _ HA.out.1 HA.out.2).mono ?_
  rintro e w1 ⟨he, hb1⟩
  rw [F.out.2.1] at he
  subst he
  have R0 := Lib.hid ((hb1.block _ (Array.getElem?_eq_some_iff.1 Q.out.1).1).trans Q.out.1)
  have R1 := Lib.hid ((hb1.block _ (Array.getElem?_eq_some_iff.1 Q.out.2).1).trans Q.out.2)
  have HA1 := Lib.hid (And.intro (HA.out.1.later hb1) (HA.out.2.later hb1))
  have B1 := Lib.hid (HB.out.trans (hb1.mono HB.out.size))
  obtain ⟨⟨d0, d1⟩, _⟩ := blk2 R0.out
  clear hb1 HA Q
  go_wp2_with fail
  refine (impl_Most c ts hn rs hm _ vb _ HA1.out.1 HA1.out.2).mono ?_
  rintro e w2 ⟨he, hb1⟩
  rw [F.out.2.2] at he
  subst he
  have r1 := (hb1.block _ (Array.getElem?_eq_some_iff.1 R1.out).1).trans R1.out
  have B2 := Lib.hid (B1.out.trans (hb1.mono B1.out.size))
  have R2 := Lib.hid r1
  obtain ⟨⟨e0, e1⟩, k0, k1⟩ := blk2 r1
  clear hb1 d0 d1 HA1 R0 r1
  cases k
  all_goals
    go_wp2
    have f0 := Go.heap_setCell_same _ _ 0 _ _ (.int .i64 a) R2.out
    have f1 := Go.heap_setCell_same _ _ 1 _ _ (.int .i64 b) f0
    obtain ⟨⟨z0, z1⟩, _⟩ := blk2 f1
    refine bodyPost_ret (v := .tuple #[.agg #[.int .i64 a, .int .i64 b], .bool _]) (by simp [results, Tryz.results30, go_sem, z0, z1]) rfl ⟨rfl, ?_⟩
    exact (B2.out.setCell (p := ⟨w.heap.size + 1, 0, Option.none⟩) (by simp) _).setCell (p := ⟨w.heap.size + 1, 1, Option.none⟩) (by simp) _
/-- Two boxes of sums and the row of ranges. -/
structure Two11 (w0 w : World) (n m : Nat) (c d : Int) (va vb vr : Value) (ts us : List AR) (rs : List RG) : Prop where
  r1 : w.rangeAt n 0 [.int .i64 c, va]
  r2 : w.rangeAt m 0 [.int .i64 d, vb]
  a1 : AV w 0 va ts
  a2 : AV w 0 vb us
  rr : RV w 0 vr rs
  low : Below w0.heap.size w0 w
theorem Two11.later {w0 w w' : World} {n m : Nat} {c d : Int} {va vb vr : Value} {ts us : List AR} {rs : List RG} (h : Two11 w0 w n m c d va vb vr ts us rs) (hb : Below w.heap.size w w') : Two11 w0 w' n m c d va vb vr ts us rs :=
  ⟨rangeAt_later h.r1 hb, rangeAt_later h.r2 hb, h.a1.later hb, h.a2.later hb, h.rr.later hb, h.low.trans (hb.mono h.low.size)⟩
theorem Two11.start (w : World) (c d : Int) {va vb vr : Value} {ts us : List AR} {rs : List RG} (t : TypeId) (ha : AV w 0 va ts) (hb : AV w 0 vb us) (hr : RV w 0 vr rs) :
    Two11 w ((w.alloc (.cells #[.int .i64 c, va] t)).alloc (.cells #[.int .i64 d, vb] t)) w.heap.size (w.heap.size + 1) c d va vb vr ts us rs := by
  obtain ⟨q0, q1⟩ := heap2q w (.cells #[.int .i64 c, va] t) (.cells #[.int .i64 d, vb] t)
  have hb2 : Below w.heap.size w ((w.alloc (.cells #[.int .i64 c, va] t)).alloc (.cells #[.int .i64 d, vb] t)) := (alloc_below w _).alloc (by simp) _
  exact ⟨blk_range (arr := #[.int .i64 c, va]) q0, blk_range (arr := #[.int .i64 d, vb]) q1, ha.later hb2, hb.later hb2, hr.later hb2, hb2⟩
theorem RV.nil11 (w : World) : RV w 0 (.slice Option.none 0 0) [] := ⟨_, _, rfl, Nat.le_refl _, .inl rfl⟩
theorem cellC11 {w : World} {n : Nat} {a b : Value} (h : w.rangeAt n 0 [a, b]) : w.cell? ⟨n, 0, Option.none⟩ = some a := h 0 _ rfl
theorem cellT11 {w : World} {n : Nat} {a b : Value} (h : w.rangeAt n 0 [a, b]) : w.cell? ⟨n, 1, Option.none⟩ = some b := h 1 _ rfl
set_option maxHeartbeats 4000000 in
theorem impl_RngMeet (c : Int) (ts : List AR) (hn : ts.length ≤ 1000000000) (d : Int) (us : List AR) (hn2 : us.length ≤ 1000000000) (rs : List RG) (hm : rs.length ≤ 1000000000) (va vb vr : Value) (w : World) (ha : AV w 0 va ts) (hb : AV w 0 vb us) (hr : RV w 0 vr rs) (v : Bool) (hv : rngMeet11 c ts d us rs = v) :
    Calls Tryz.prog 11 #[.agg #[.int .i64 c, va], .agg #[.int .i64 d, vb], vr] w fun e w' => e = .returned (.bool v) ∧ Below w.heap.size w w' := by
  have T0 := Lib.hid (Two11.start w c d 26 ha hb hr)
  obtain ⟨a1, c1, rfl⟩ := ha.shape
  obtain ⟨a2, c2, rfl⟩ := hb.shape
  clear ha hb hr
  obtain ⟨x1, hx1⟩ : ∃ x, lo11 c ts rs = x := ⟨_, rfl⟩
  obtain ⟨y1, hy1⟩ : ∃ x, hi11 c ts rs = x := ⟨_, rfl⟩
  obtain ⟨k1, hk1⟩ : ∃ x, has11 c ts rs = x := ⟨_, rfl⟩
  obtain ⟨x2, hx2⟩ : ∃ x, lo11 d us rs = x := ⟨_, rfl⟩
  obtain ⟨y2, hy2⟩ : ∃ x, hi11 d us rs = x := ⟨_, rfl⟩
  obtain ⟨k2, hk2⟩ : ∃ x, has11 d us rs = x := ⟨_, rfl⟩
  have HV : Hid ((k1 && k2 && decide (x1 ≤ y2) && decide (x2 ≤ y1)) = v) := show _ = _ by rw [← hv, rngMeet11, hx1, hy1, hk1, hx2, hy2, hk2]
  have HX := Lib.hid (And.intro hx1 (And.intro hy1 hk1))
  have HY := Lib.hid (And.intro hx2 (And.intro hy2 hk2))
  clear hx1 hy1 hk1 hx2 hy2 hk2 hv
  go_enter Tryz.func11, Tryz.ntmps11
  go_wp2_with fail
  refine (spanOf_is c ts hn rs hm _ vr _ T0.out.a1 T0.out.rr x1 y1 k1 HX.out.1 HX.out.2.1 HX.out.2.2).mono ?_
  rintro e w1 ⟨rfl, hb1⟩
  have T1 := Lib.hid (T0.out.later hb1)
  clear hb1 T0
  have T2 := Lib.hid (T1.out.later (alloc_below w1 (.cells #[.int .i64 x1, .int .i64 y1] 56)))
  have Q1 := Lib.hid (heap_last w1 (.cells #[.int .i64 x1, .int .i64 y1] 56))
  go_wp2_with (refine wpList_load_mid rfl 26 _ rfl (w.heap.size + 1) 0 rfl _ _ T2.out.r2 Tryz.underlying26 rfl sizeIA8 ?_)
  refine (spanOf_is d us hn2 rs hm _ vr _ T2.out.a2 T2.out.rr x2 y2 k2 HY.out.1 HY.out.2.1 HY.out.2.2).mono ?_
  rintro e w2 ⟨rfl, hb1⟩
  have T3 := Lib.hid (T2.out.later hb1)
  have Q2 := Lib.hid ((hb1.block _ (Array.getElem?_eq_some_iff.1 Q1.out).1).trans Q1.out)
  obtain ⟨⟨e0, e1⟩, _⟩ := blk2 (((alloc_below w2 (.cells #[.int .i64 x2, .int .i64 y2] 56)).block _ (Array.getElem?_eq_some_iff.1 Q2.out).1).trans Q2.out)
  have B3 := Lib.hid (T3.out.low.trans ((alloc_below w2 (.cells #[.int .i64 x2, .int .i64 y2] 56)).mono T3.out.low.size))
  clear hb1 T1 T2 T3 Q1 Q2
  cases k1
  · go_wp2
    go_ret
    exact ⟨by rw [← HV.out]; rfl, B3.out⟩
  · cases k2
    · go_wp2
      go_ret
      exact ⟨by rw [← HV.out]; rfl, B3.out⟩
    · by_cases h1 : x1 ≤ y2
      · by_cases h2 : x2 ≤ y1
        all_goals
          go_wp2
          go_ret
          exact ⟨ret_bool (by rw [← HV.out]; simp [h1, h2]), B3.out⟩
      · go_wp2
        go_ret
        exact ⟨ret_bool (by rw [← HV.out, decide_eq_false (p := x1 ≤ y2) (by omega)]; rfl), B3.out⟩
set_option maxHeartbeats 4000000 in
theorem spec_RngMeet (c : Int) (ts : List AR) (hn : ts.length ≤ 1000000000) (hts : ∀ t ∈ ts, t.s.size ≤ 281474976710656) (d : Int) (us : List AR) (hn2 : us.length ≤ 1000000000) (hus : ∀ t ∈ us, t.s.size ≤ 281474976710656) (rs : List RG) (hm : rs.length ≤ 1000000000) (hrs : ∀ t ∈ rs, t.s.size ≤ 281474976710656) (va vb vr : Value) (w : World) (ha : AV w 0 va ts) (hb : AV w 0 vb us) (hr : RV w 0 vr rs) (v : Bool) (hv : rngMeet11 c ts d us rs = v) :
    Calls Tryz.prog 21 #[.agg #[.int .i64 c, va], .agg #[.int .i64 d, vb], vr] w fun e w' => e = .returned (.bool v) ∧ Below w.heap.size w w' := by
  have T0 := Lib.hid (Two11.start w c d 26 ha hb hr)
  have HB := Lib.hid (And.intro hts (And.intro hus hrs))
  obtain ⟨a1, c1, rfl⟩ := ha.shape
  obtain ⟨a2, c2, rfl⟩ := hb.shape
  clear ha hb hr hts hus hrs
  obtain ⟨x1, hx1⟩ : ∃ x, lo11 c ts rs = x := ⟨_, rfl⟩
  obtain ⟨y1, hy1⟩ : ∃ x, hi11 c ts rs = x := ⟨_, rfl⟩
  obtain ⟨k1, hk1⟩ : ∃ x, has11 c ts rs = x := ⟨_, rfl⟩
  obtain ⟨x2, hx2⟩ : ∃ x, lo11 d us rs = x := ⟨_, rfl⟩
  obtain ⟨y2, hy2⟩ : ∃ x, hi11 d us rs = x := ⟨_, rfl⟩
  obtain ⟨k2, hk2⟩ : ∃ x, has11 d us rs = x := ⟨_, rfl⟩
  have HV : Hid ((k1 && k2 && decide (x1 ≤ y2) && decide (x2 ≤ y1)) = v) := show _ = _ by rw [← hv, rngMeet11, hx1, hy1, hk1, hx2, hy2, hk2]
  have F : Hid (farR9 (far9 false c ts rs) = .returned (.tuple #[.int .i64 x1, .bool k1]) ∧ farR9 (far9 true c ts rs) = .returned (.tuple #[.int .i64 y1, .bool k1]) ∧ farR9 (far9 false d us rs) = .returned (.tuple #[.int .i64 x2, .bool k2]) ∧ farR9 (far9 true d us rs) = .returned (.tuple #[.int .i64 y2, .bool k2])) := by
    refine ⟨?_, ?_, ?_, ?_⟩
    · rw [farR9, ← hx1, ← hk1]; rfl
    · rw [farR9, has11_t, hk1, ← hy1]; rfl
    · rw [farR9, ← hx2, ← hk2]; rfl
    · rw [farR9, has11_t, hk2, ← hy2]; rfl
  clear hx1 hy1 hk1 hx2 hy2 hk2 hv
  go_enter Tryz.func21, Tryz.ntmps21
  go_wp2_with fail
  refine (spec_Least c ts hn HB.out.1 rs hm HB.out.2.2 _ vr _ T0.out.a1 T0.out.rr).mono ?_
  rintro e w1 ⟨he, hb1⟩
  rw [F.out.1] at he
  subst he
  have T1 := Lib.hid (T0.out.later hb1)
  clear hb1 T0
  go_wp2_with (refine wpList_load_mid rfl 26 _ rfl w.heap.size 0 rfl _ _ T1.out.r1 Tryz.underlying26 rfl sizeIA8 ?_)
  refine (spec_Most c ts hn HB.out.1 rs hm HB.out.2.2 _ vr _ T1.out.a1 T1.out.rr).mono ?_
  rintro e w2 ⟨he, hb1⟩
  rw [F.out.2.1] at he
  subst he
  have T2 := Lib.hid (T1.out.later hb1)
  clear hb1 T1
  go_wp2_with (refine wpList_load_mid rfl 26 _ rfl (w.heap.size + 1) 0 rfl _ _ T2.out.r2 Tryz.underlying26 rfl sizeIA8 ?_)
  refine (spec_Least d us hn2 HB.out.2.1 rs hm HB.out.2.2 _ vr _ T2.out.a2 T2.out.rr).mono ?_
  rintro e w3 ⟨he, hb1⟩
  rw [F.out.2.2.1] at he
  subst he
  have T3 := Lib.hid (T2.out.later hb1)
  clear hb1 T2
  go_wp2_with (refine wpList_load_mid rfl 26 _ rfl (w.heap.size + 1) 0 rfl _ _ T3.out.r2 Tryz.underlying26 rfl sizeIA8 ?_)
  refine (spec_Most d us hn2 HB.out.2.1 rs hm HB.out.2.2 _ vr _ T3.out.a2 T3.out.rr).mono ?_
  rintro e w4 ⟨he, hb1⟩
  rw [F.out.2.2.2] at he
  subst he
  have T4 := Lib.hid (T3.out.later hb1)
  clear hb1 T3
  cases k1
  · go_wp2
    go_ret
    exact ⟨by rw [← HV.out]; rfl, T4.out.low⟩
  · cases k2
    · go_wp2
      go_ret
      exact ⟨by rw [← HV.out]; rfl, T4.out.low⟩
    · by_cases h1 : x1 ≤ y2
      · by_cases h2 : x2 ≤ y1
        all_goals
          go_wp2
          go_ret
          exact ⟨ret_bool (by rw [← HV.out]; simp [h1, h2]), T4.out.low⟩
      · go_wp2
        go_ret
        exact ⟨ret_bool (by rw [← HV.out, decide_eq_false (p := x1 ≤ y2) (by omega)]; rfl), T4.out.low⟩
end Go.Proofs.YtjdpddcnogdekaaGreat
