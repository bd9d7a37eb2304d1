/-
  Texts in one: ParRun, ParseExpLaw.
-/
import Derived.Test.YtkhccpjkajhnpaaGreatDoorP17ofParseExp
import Derived.Test.YtkhccpjkajhnpaaGreatDoorP05ofParseExp
import Derived.Test.YtkhccpjkajhnpaaGreatDoorP16ofParseExp
import Derived.Test.YtkhccpjkajhnpaaGreatDoorP12ofParseExp
/-
  The landed readAll of expressions, and ParseExp.
-/
namespace Go.Proofs.YtkhccpjkajhnpaaGreatDoor
open Go.RowKit Go.Lib
set_option linter.unusedSimpArgs false
set_option linter.unusedVariables false

def ExpOutA (B : Nat) (w' : World) (o : Option X) (e : Ending) : Prop :=
  ∃ u, e = .returned (.tuple #[.agg (xcells (o.getD zeroX) u).toArray, .bool o.isSome]) ∧ EVA w' B w'.heap.size (o.getD zeroX).l u
theorem RdI.new {w : World} {v : Value} {ts : List T} {t : TypeId} (h : Row w v ts) (hts : ts.length ≤ 600) : RdI w.heap.size v ts 0 (w.alloc (.cells #[v, .int .i64 0] t)) :=
  ⟨new_range w #[v, .int .i64 0] t, blk_there (arr := #[v, .int .i64 0]) (t := t) (by show (w.heap.push _)[w.heap.size]? = _; simp) (Nat.le_refl 2), h.rowB _, Nat.zero_le _, hts⟩
theorem load_bool (w : World) (k : Nat) (x : Bool) (h : w.cell? ⟨k, 0, Option.none⟩ = some (.bool x)) : (loadVar 4 ⟨k, 0, Option.none⟩).run Tryz.prog w = .ok (.bool x) w := by simp [go_sem, h]
/-- The two results' variables, in a later world. -/
structure Res2 (A : Nat) (W : World) : Prop where
  th : W.there A 0 4
  ok : W.cell? ⟨A + 1, 0, Option.none⟩ = some (.bool false)
  fr : W.frozen? ⟨A + 1, 0, Option.none⟩ = false
  lt : A + 1 < W.heap.size
theorem Res2.wr {A b : Nat} {w w' : World} (h : Res2 A w) (hw : Wr b w w') (hb : A + 1 < b) : Res2 A w' := by
  have k := rdF_iff.1 (rdF_wr hw (rdF_iff.2 ⟨h.fr, h.ok⟩) (show A + 1 ≠ b by omega))
  exact ⟨there_wr h.th hw (by omega), k.2, k.1, Nat.lt_of_lt_of_le h.lt hw.size⟩
theorem Res2.later {A : Nat} {w w' : World} (h : Res2 A w) (hb : Below w.heap.size w w') : Res2 A w' := by
  have k := rdF_iff.1 (keepsF hb (rdF_iff.2 ⟨h.fr, h.ok⟩))
  exact ⟨there_later h.th hb, k.2, k.1, Nat.lt_of_lt_of_le h.lt hb.size⟩
theorem Res2.new (w : World) : Res2 w.heap.size ((w.alloc (.cells zero4 33)).alloc (.cells #[.bool false] 4)) := by
  have e : (w.alloc (.cells zero4 33)).heap.size = w.heap.size + 1 := World.size_alloc _ _
  have r := new_range (w.alloc (.cells zero4 33)) #[.bool false] 4
  have t := last_there (w.alloc (.cells zero4 33)) [.bool false] 4 (w.heap.size + 1) e
  rw [e] at r
  exact ⟨there_later (newthere4 w _) (alloc_below _ _), r 0 _ rfl, (t 0 Nat.zero_lt_one).2, by rw [World.size_alloc, e]; omega⟩
set_option maxHeartbeats 4000000 in
set_option maxRecDepth 100000 in
theorem readAll_is (s : ByteArray) (o : Option X) (ho : readX s.data.toList = o) (w : World) (hE : Env w) :
    Calls Tryz.prog 49 #[.string s, .func (.func 50) #[] #[], .func (.func 51) #[] #[]] w fun e w' => ExpOutA w.heap.size w' o e ∧ Below w.heap.size w w' := by
  have hmf : ∀ (fn : Fn) (first cap : Array Value) (w : World), (Instr.makeFunc fn first cap).run Tryz.prog w = .ok (.func fn first cap) w := fun _ _ _ _ => rfl
  obtain ⟨ol, Hol⟩ : ∃ ol, Hid (lex s.data.toList = ol) := ⟨_, rfl⟩
  have HO : Hid (ol.bind wholeX = o) := Lib.hid (by rw [← Hol.out]; exact ho)
  have Q0 := Lib.hid (Res2.new w)
  have B0 : Hid (Below w.heap.size w ((w.alloc (.cells zero4 33)).alloc (.cells #[.bool false] 4))) := Lib.hid ((alloc_below w _).alloc (by rw [World.size_alloc]; omega) _)
  have CL := Lib.hid (impl_Lex s ol Hol.out _ (hE.later B0.out (Nat.le_refl _)))
  clear ho hE
  go_enter_defers Tryz.func49, Tryz.ntmps49
  go_wp2_with fail
  refine CL.out.mono ?_
  rintro e w1 ⟨⟨v, rfl, hown⟩, hb1⟩
  have RW := Lib.hid (Row.of hown)
  have Q1 := Lib.hid (Q0.out.later hb1)
  have B1 := Lib.hid (B0.out.trans (hb1.mono B0.out.size))
  clear hown hb1 CL Q0 B0
  cases ol with
  | none =>
    have HN : Hid (o = none) := Lib.hid (by rw [← HO.out]; rfl)
    simp only [Option.isSome_none]
    go_wp2_with fail
    refine leaves_cons (f := 108) (args := #[.pointer (some ⟨w.heap.size, 0, none⟩), .pointer (some ⟨w.heap.size + 1, 0, none⟩)]) (by simp) (by simp [go_sem]) ?_
    refine (catchE_panicking w.heap.size (w.heap.size + 1) false _ _ [] _ Q1.out.th Q1.out.ok Q1.out.fr (by omega) (by have := Q1.out.lt; omega) Q1.out.lt).mono ?_
    rintro e u' w'' ⟨rfl, rfl, hc⟩
    have hlv := run_loadVar_mid w'' w.heap.size 0 _ _ _ hc.rg Tryz.underlying33 rfl sizeIE2
    have hok := hc.ok
    have hlo : (loadVar 4 ⟨w.heap.size + 1, 0, Option.none⟩).run Tryz.prog w'' = .ok (.bool false) w'' := by simp [go_sem, hok]
    refine ⟨.tuple #[.agg (xcells zeroX (.slice Option.none 0 0)).toArray, .bool false], ?_, ⟨.slice Option.none 0 0, by rw [HN.out]; rfl, by rw [HN.out]; exact EVA.nil _ _ _ _ _⟩, B1.out.trans (hc.below _ (Nat.le_refl _) (by omega) (by have := Q1.out.lt; omega))⟩
    simp [results, Tryz.results49, asAddr, hlv, hlo, Act.put]
    try rfl
  | some ts =>
    have HG := Lib.hid (lex_good Hol.out)
    have HO' : Hid (wholeX ts = o) := HO
    have RW' : Hid (Row w1 v ts) := RW
    clear RW HO Hol
    simp only [Option.isSome_some]
    obtain ⟨ao, cap, hv, _⟩ := RW'.out
    subst hv
    have S2 : Hid (RdI w1.heap.size (.slice ao ts.length cap) ts 0 (w1.alloc (.cells #[.slice ao ts.length cap, .int .i64 0] 115))) := Lib.hid (RdI.new RW'.out HG.out.2)
    have b2 := alloc_below w1 (.cells #[.slice ao ts.length cap, .int .i64 0] 115)
    have Q2 := Lib.hid (Q1.out.later b2)
    have B2 := Lib.hid (B1.out.trans (b2.mono B1.out.size))
    have CS := Lib.hid (outerSum_is w1.heap.size (.slice ao ts.length cap) ts HG.out.1 0 _ S2.out)
    have hbA : w.heap.size + 1 < w1.heap.size := Q1.out.lt
    clear b2 B1 Q1
    go_wp2_with fail
    refine CS.out.mono ?_
    rintro e m2 ⟨hh, ⟨x2, u2, p2, r2, rfl, l2, s2, e2⟩ | ⟨r2, rfl⟩⟩
    rotate_left
    · have HN := Lib.hid (show o = none by rw [← HO'.out]; unfold wholeX; rw [show ts.drop 0 = ts from rfl] at r2; rw [r2])
      have Q3 := Lib.hid (Q2.out.wr hh (by omega))
      have B3 := Lib.hid (B2.out.trans (hh.below (B := w.heap.size) (by omega) (by rw [World.size_alloc]; omega)))
      clear hh r2
      go_wp2_with fail
      refine leaves_cons (f := 108) (args := #[.pointer (some ⟨w.heap.size, 0, none⟩), .pointer (some ⟨w.heap.size + 1, 0, none⟩)]) (by simp) (by simp [go_sem]) ?_
      refine (catchE_panicking w.heap.size (w.heap.size + 1) false _ _ [] _ Q3.out.th Q3.out.ok Q3.out.fr (by omega) (by have := Q3.out.lt; omega) Q3.out.lt).mono ?_
      rintro e u' w'' ⟨rfl, rfl, hc⟩
      have hlv := run_loadVar_mid w'' w.heap.size 0 _ _ _ hc.rg Tryz.underlying33 rfl sizeIE2
      have hok := hc.ok
      have hlo : (loadVar 4 ⟨w.heap.size + 1, 0, Option.none⟩).run Tryz.prog w'' = .ok (.bool false) w'' := by simp [go_sem, hok]
      refine ⟨.tuple #[.agg (xcells zeroX (.slice Option.none 0 0)).toArray, .bool false], ?_, ⟨.slice Option.none 0 0, by rw [HN.out]; rfl, by rw [HN.out]; exact EVA.nil _ _ _ _ _⟩, B3.out.trans (hc.below _ (Nat.le_refl _) (by omega) (by have := Q3.out.lt; omega))⟩
      simp [results, Tryz.results49, asAddr, hlv, hlo, Act.put]
      try rfl
    have o2 := oneX x2 u2 e2.isOne
    have R2 : Hid (sumP 30 ts = some (x2, ts.drop p2)) := Lib.hid r2
    have S3 := Lib.hid s2
    have E3 := Lib.hid e2
    have Q3 := Lib.hid (Q2.out.wr hh (by omega))
    have B3 := Lib.hid (B2.out.trans (hh.below (B := w.heap.size) (by omega) (by rw [World.size_alloc]; omega)))
    have Z3 : Hid (w.heap.size + 2 ≤ (w1.alloc (.cells #[.slice ao ts.length cap, .int .i64 0] 115)).heap.size) := Lib.hid (by rw [World.size_alloc]; omega)
    clear hh r2 s2 e2 l2 CS S2 Q2 B2
    go_wp2_with (refine store_abs rfl 33 _ _ rfl m2.heap.size 0 (xcells x2 u2).toArray rfl rfl (newthere4 m2 _) sizeIE2 o2 ?_; intro W hW; have HW2 := Lib.hid (newblk4 x2 u2 hW); clear hW)
    have S4 := Lib.hid (S3.out.later HW2.out.2)
    have E4 : Hid (EVA W (w.heap.size + 2) W.heap.size x2.l u2) := Lib.hid ((E3.out.later HW2.out.2).wide Z3.out HW2.out.2.size)
    have Q4 := Lib.hid (Q3.out.later HW2.out.2)
    have B4 := Lib.hid (B3.out.trans (HW2.out.2.mono B3.out.size))
    have X4 := Lib.hid HW2.out.1
    obtain ⟨n2, hn2⟩ : ∃ n, m2.heap.size = n := ⟨_, rfl⟩
    rw [hn2] at X4 ⊢
    clear S3 E3 Q3 B3 HW2 hn2 Z3
    have HX : Hid (o = if p2 = ts.length ∧ expOk x2 = true then some x2 else none) := Lib.hid (by rw [← HO'.out]; exact whole_is R2.out S4.out.hp)
    have HSZ : Hid (enodes x2.l ≤ 9000000) := Lib.hid (by
      have hu := sum_ok 30 ts x2 _ (fun t ht => good_len5 (HG.out.1 t ht)) R2.out
      have := hu.2.2; have := HG.out.2; omega)
    obtain ⟨R, HR⟩ : ∃ R, Hid (endR ts p2 = R) := ⟨_, rfl⟩
    refine (atEnd_is w1.heap.size (.slice ao ts.length cap) ts p2 R HR.out _ S4.out).mono ?_
    rintro e w5 ⟨rfl, hb5⟩
    have E5 := Lib.hid ((E4.out.later hb5).wide (Nat.le_refl _) hb5.size)
    have Q5 := Lib.hid (Q4.out.later hb5)
    have B5 := Lib.hid (B4.out.trans (hb5.mono B4.out.size))
    have X5 := Lib.hid (rangeAt_later X4.out hb5)
    clear hb5 S4 E4 Q4 B4 X4
    cases R with
    | false =>
      have HN : Hid (o = none) := Lib.hid (by rw [HX.out, if_neg (fun c => of_decide_eq_false HR.out c.1)])
      go_wp2_with fail
      refine leaves_cons (f := 108) (args := #[.pointer (some ⟨w.heap.size, 0, none⟩), .pointer (some ⟨w.heap.size + 1, 0, none⟩)]) (by simp) (by simp [go_sem]) ?_
      refine (catchE_panicking w.heap.size (w.heap.size + 1) false _ _ [] _ Q5.out.th Q5.out.ok Q5.out.fr (by omega) (by have := Q5.out.lt; omega) Q5.out.lt).mono ?_
      rintro e u' w'' ⟨rfl, rfl, hc⟩
      have hlv := run_loadVar_mid w'' w.heap.size 0 _ _ _ hc.rg Tryz.underlying33 rfl sizeIE2
      have hok := hc.ok
      have hlo : (loadVar 4 ⟨w.heap.size + 1, 0, Option.none⟩).run Tryz.prog w'' = .ok (.bool false) w'' := by simp [go_sem, hok]
      refine ⟨.tuple #[.agg (xcells zeroX (.slice Option.none 0 0)).toArray, .bool false], ?_, ⟨.slice Option.none 0 0, by rw [HN.out]; rfl, by rw [HN.out]; exact EVA.nil _ _ _ _ _⟩, B5.out.trans (hc.below _ (Nat.le_refl _) (by omega) (by have := Q5.out.lt; omega))⟩
      simp [results, Tryz.results49, asAddr, hlv, hlo, Act.put]
      try rfl
    | true =>
      obtain ⟨k, HOK⟩ : ∃ k, Hid (expOk x2 = k) := ⟨_, rfl⟩
      have g0 : w5.cell? ⟨n2, 0, Option.none⟩ = some (.int .i64 x2.h.k) := X5.out 0 _ rfl
      have g1 : w5.cell? ⟨n2, 1, Option.none⟩ = some (.int .i64 x2.h.n) := X5.out 1 _ rfl
      have g2 : w5.cell? ⟨n2, 2, Option.none⟩ = some (.string x2.h.s) := X5.out 2 _ rfl
      have g3 : w5.cell? ⟨n2, 3, Option.none⟩ = some u2 := X5.out 3 _ rfl
      go_wp2_with fail
      clear g0 g1 g2 g3
      refine (impl_ExpOk x2 HSZ.out _ u2 (E5.out.ev.lower (Nat.zero_le _))).mono ?_
      rintro e w6 ⟨rfl, hb6⟩
      have E6 := Lib.hid ((E5.out.later hb6).wide (Nat.le_refl _) hb6.size)
      have Q6 := Lib.hid (Q5.out.later hb6)
      have B6 := Lib.hid (B5.out.trans (hb6.mono B5.out.size))
      have X6 := Lib.hid (rangeAt_later X5.out hb6)
      clear hb6 E5 Q5 B5 X5
      rw [HOK.out]
      cases k with
      | false =>
        have HN : Hid (o = none) := Lib.hid (by rw [HX.out, if_neg (fun c => by have := c.2; rw [HOK.out] at this; cases this)])
        go_wp2_with fail
        refine leaves_cons (f := 108) (args := #[.pointer (some ⟨w.heap.size, 0, none⟩), .pointer (some ⟨w.heap.size + 1, 0, none⟩)]) (by simp) (by simp [go_sem]) ?_
        refine (catchE_panicking w.heap.size (w.heap.size + 1) false _ _ [] _ Q6.out.th Q6.out.ok Q6.out.fr (by omega) (by have := Q6.out.lt; omega) Q6.out.lt).mono ?_
        rintro e u' w'' ⟨rfl, rfl, hc⟩
        have hlv := run_loadVar_mid w'' w.heap.size 0 _ _ _ hc.rg Tryz.underlying33 rfl sizeIE2
        have hok := hc.ok
        have hlo : (loadVar 4 ⟨w.heap.size + 1, 0, Option.none⟩).run Tryz.prog w'' = .ok (.bool false) w'' := by simp [go_sem, hok]
        refine ⟨.tuple #[.agg (xcells zeroX (.slice Option.none 0 0)).toArray, .bool false], ?_, ⟨.slice Option.none 0 0, by rw [HN.out]; rfl, by rw [HN.out]; exact EVA.nil _ _ _ _ _⟩, B6.out.trans (hc.below _ (Nat.le_refl _) (by omega) (by have := Q6.out.lt; omega))⟩
        simp [results, Tryz.results49, asAddr, hlv, hlo, Act.put]
        try rfl
      | true =>
        have HN : Hid (o = some x2) := Lib.hid (by rw [HX.out, if_pos ⟨of_decide_eq_true HR.out, HOK.out⟩])
        have th := Q6.out.th
        have okc := rdF_iff.2 ⟨Q6.out.fr, Q6.out.ok⟩
        go_wp2_with (first | (refine wpList_load_mid rfl 33 _ rfl n2 0 rfl _ _ X6.out Tryz.underlying33 rfl sizeIE2 ?_) | (refine store_abs rfl 33 _ _ rfl w.heap.size 0 (xcells x2 u2).toArray rfl rfl th sizeIE2 o2 ?_; intro W7 hW7; have qo := rdF_iff.1 (rdF_sets (n := w.heap.size) (o := 0) (vs := xcells x2 u2) okc (show w.heap.size + 1 ≠ w.heap.size by omega)); rw [hW7] at qo; have q1 := qo.2; have q1f := qo.1))
        have r7 : W7.rangeAt w.heap.size 0 (xcells x2 u2) := by rw [← hW7]; exact World.rangeAt_setCells_same _ _ _ _ th
        have b7 : Below w.heap.size w W7 := by rw [← hW7]; exact below_sets _ _ B6.out (Nat.le_refl _)
        have e7 : EVA W7 (w.heap.size + 2) W7.heap.size x2.l u2 := by rw [← hW7, size_sets]; exact E6.out.sets (.inl (by omega))
        refine leaves_cons (f := 108) (args := #[.pointer (some ⟨w.heap.size, 0, none⟩), .pointer (some ⟨w.heap.size + 1, 0, none⟩)]) (by simp) (by simp [go_sem]) ?_
        refine (catchE_idle w.heap.size (w.heap.size + 1) _).mono ?_
        rintro e u' w'' ⟨rfl, rfl, rfl⟩
        have r8 : (W7.setCell ⟨w.heap.size + 1, 0, Option.none⟩ (.bool true)).rangeAt w.heap.size 0 (xcells x2 u2) := World.rangeAt_setCells_apart r7 (w.heap.size + 1) 0 [.bool true] (.inl (by omega))
        have o8 : (W7.setCell ⟨w.heap.size + 1, 0, Option.none⟩ (.bool true)).cell? ⟨w.heap.size + 1, 0, Option.none⟩ = some (.bool true) := World.cell?_setCell_same _ _ _ q1
        have hlv := run_loadVar_mid _ w.heap.size 0 _ _ _ r8 Tryz.underlying33 rfl sizeIE2
        refine ⟨.tuple #[.agg (xcells x2 u2).toArray, .bool true], ?_, ⟨u2, by rw [HN.out]; rfl, ?_⟩, below_sets [.bool true] 0 b7 (by omega)⟩
        · have hlo : (loadVar 4 ⟨w.heap.size + 1, 0, Option.none⟩).run Tryz.prog (W7.setCell ⟨w.heap.size + 1, 0, Option.none⟩ (.bool true)) = .ok (.bool true) (W7.setCell ⟨w.heap.size + 1, 0, Option.none⟩ (.bool true)) := load_bool _ _ _ o8
          simp [results, Tryz.results49, asAddr, hlv, hlo, Act.put]
          try rfl
        · rw [HN.out]
          show EVA (W7.setCells (w.heap.size + 1) 0 [.bool true]) w.heap.size _ _ _
          rw [show (W7.setCell ⟨w.heap.size + 1, 0, Option.none⟩ (.bool true)).heap.size = W7.heap.size from by rw [show W7.setCell ⟨w.heap.size + 1, 0, Option.none⟩ (.bool true) = W7.setCells (w.heap.size + 1) 0 [.bool true] from rfl, size_sets]]
          exact (e7.sets (.inl (by omega))).wide (by omega) (Nat.le_refl _)
set_option maxHeartbeats 1000000 in
set_option maxRecDepth 100000 in
theorem impl_ParseExp (s : ByteArray) (o : Option X) (ho : readX s.data.toList = o) (w : World) (hE : Env w) :
    Calls Tryz.prog 12 #[.string s] w fun e w' => ExpOutA w.heap.size w' o e ∧ Below w.heap.size w w' := by
  have b0 := alloc_below w (.cells zero4 33)
  have T0 := Lib.hid (newthere4 w 33)
  have B0 := Lib.hid b0
  have Z0 : Hid (w.heap.size + 1 ≤ (w.alloc (.cells zero4 33)).heap.size) := Lib.hid (by rw [World.size_alloc]; exact Nat.le_refl _)
  have C := Lib.hid (readAll_is s o ho _ (hE.later b0 (Nat.le_refl _)))
  clear ho hE b0
  go_enter Tryz.func12, Tryz.ntmps12
  go_wp2_with fail
  refine C.out.mono ?_
  rintro e w1 ⟨⟨u, rfl, e1⟩, hb1⟩
  have T1 := Lib.hid (there_later T0.out hb1)
  have B1 := Lib.hid (B0.out.trans (hb1.mono B0.out.size))
  have V1 := Lib.hid (e1.wide Z0.out (Nat.le_refl _))
  clear e1 hb1 C
  obtain ⟨x, hx⟩ : ∃ x, o.getD zeroX = x := ⟨_, rfl⟩
  have HX := Lib.hid hx
  rw [hx] at V1 ⊢
  clear hx
  go_wp2_with (refine store_abs rfl 33 _ _ rfl w.heap.size 0 (xcells x u).toArray rfl rfl T1.out sizeIE2 (oneX x u V1.out.isOne) ?_; intro W hW)
  have rW : W.rangeAt w.heap.size 0 (xcells x u) := by rw [← hW]; exact World.rangeAt_setCells_same _ _ _ _ T1.out
  have bW : Below w.heap.size w W := by rw [← hW]; exact below_sets _ _ B1.out (Nat.le_refl _)
  have eW : EVA W w.heap.size W.heap.size x.l u := by rw [← hW, size_sets]; exact (V1.out.sets (.inl (by omega))).wide (by omega) (Nat.le_refl _)
  have hlv := run_loadVar_mid W w.heap.size 0 _ _ _ rW Tryz.underlying33 rfl sizeIE2
  refine bodyPost_ret (v := .tuple #[.agg (xcells x u).toArray, .bool o.isSome]) ?_ rfl ⟨⟨u, by rw [HX.out], by rw [HX.out]; exact eW⟩, bW⟩
  simp [results, Tryz.results12, asAddr, hlv, Act.put]
  try rfl
end Go.Proofs.YtkhccpjkajhnpaaGreatDoor
/-
  The walk of laws.FnExactParseExp.
-/
namespace Go.Proofs.YtkhccpjkajhnpaaGreatDoor
open Go.RowKit Go.Lib
set_option linter.unusedSimpArgs false
set_option linter.unusedVariables false

theorem markExpSA_all : ∀ (n : Nat) (F : EF), enodes F < n → ∀ (mi : Int) (m lo hi : Nat) (w : World) (v : Value), mi = (m : Int) → 1 ≤ m → m + 3 * enodes F ≤ 20000000 → EVA w lo hi F v → Calls Tryz.prog 87 #[v, .int .i64 mi] w fun e w' => e = .returned (.int .i64 ((m : Int) + 3 * (enodes F : Int))) ∧ EVA w' lo hi (markF m F) v ∧ Gap lo hi w w'
  | 0, _, h, _, _, _, _, _, _, _, _, _, _ => absurd h (by omega)
  | n + 1, F, h, mi, m, lo, hi, w, v, hmi, h1, h2, hv => by subst hmi; exact markExpSA_step F (fun l hl mi m lo hi w v h0 h1 h2 hv => markExpSA_all n l (by omega) mi m lo hi w v h0 h1 h2 hv) m lo hi w v h1 h2 hv
set_option maxRecDepth 100000 in
theorem markExp_is (x : X) (lo hi : Nat) (w : World) (v : Value) (hn : enodes x.l ≤ 5000000) (hv : EVA w lo hi x.l v) :
    Calls Tryz.prog 30 #[.agg (xcells x v).toArray, .int .i64 1] w fun e w' => e = .returned (.int .i64 (1 + 3 * (enodes x.l : Int))) ∧ EVA w' lo hi (markF 1 x.l) v ∧ Gap lo hi w w' := by
  have b0 := alloc_below w (.cells (xcells x v).toArray 33)
  have HV := Lib.hid (hv.later b0)
  have B0 := Lib.hid b0
  have C := Lib.hid (markExpSA_all _ x.l (Nat.lt_succ_self _) 1 1 lo hi _ v rfl (Nat.le_refl _) (by omega) HV.out)
  clear b0 hv
  show Calls Tryz.prog 30 #[.agg #[.int .i64 x.h.k, .int .i64 x.h.n, .string x.h.s, v], .int .i64 1] w _
  go_enter Tryz.func30, Tryz.ntmps30
  go_wp2_with fail
  refine C.out.mono ?_
  rintro e w1 ⟨rfl, e1, g1⟩
  have H := Lib.hid (And.intro e1 ((Gap.of lo hi B0.out).trans g1))
  clear e1 g1 C
  go_wp2
  go_ret
  exact ⟨rfl, H.out.1, H.out.2⟩
theorem range_gap {lo hi n o : Nat} {w w' : World} {cs : List Value} (h : w.rangeAt n o cs) (g : Gap lo hi w w') (hn : n < lo ∨ hi ≤ n) : w'.rangeAt n o cs := fun j z hj => by
  have hc := h j z hj
  have e := g.block n (lt_of_cellA (a := ⟨n, o + j, Option.none⟩) hc) hn
  unfold World.cell? at hc ⊢
  simp only [e]
  exact hc
theorem readX_size {l : List UInt8} {x : X} (h : readX l = some x) : xsize x + 8 * (enodes x.l + 1) ≤ 12000 := by
  unfold readX at h
  cases e : lex l with
  | none => rw [e] at h; cases h
  | some ts =>
    rw [e] at h
    have h : wholeX ts = some x := h
    obtain ⟨hG, hn⟩ := lex_good e
    unfold wholeX at h
    split at h
    · rename_i y hs
      split at h
      · injection h with h; subst h
        have u := sum_ok 30 ts y [] (fun t ht => good_len5 (hG t ht)) hs
        have := u.2.2
        simp only [List.length_nil] at this
        omega
      · cases h
    · cases h
set_option maxHeartbeats 4000000 in
set_option maxRecDepth 100000 in
theorem exactParseExp_walk (s : ByteArray) (w : World) (hE : Env w) :
    Calls Tryz.prog 6 #[.string s] w fun e w' => e = .returned (.bool true) ∧ Below w.heap.size w w' := by
  by_cases hg : 1048576 < s.size
  · have hgI : (1048576 : Int) < (s.size : Int) := by omega
    clear hg hE
    go_enter Tryz.func6, Tryz.ntmps6
    go_wp2
    go_ret
    exact ⟨rfl, Below.refl _ _⟩
  have hgI : ¬ (1048576 : Int) < (s.size : Int) := by omega
  obtain ⟨o, ho⟩ : ∃ o, readX s.data.toList = o := ⟨_, rfl⟩
  obtain ⟨x, hx⟩ : ∃ x, o.getD zeroX = x := ⟨_, rfl⟩
  obtain ⟨ok, hok⟩ : ∃ b, o.isSome = b := ⟨_, rfl⟩
  have HSP : Hid (∀ W, Calls Tryz.prog 13 #[.string s] W fun e w' => (∃ u, e = .returned (.tuple #[.agg (xcells x u).toArray, .bool ok]) ∧ EV w' W.heap.size x.l u) ∧ Below W.heap.size W w') := Lib.hid (fun W => by have h := spec_ParseExp s o ho W; unfold ExpOut at h; rw [hx, hok] at h; exact h)
  have HIM : Hid (∀ W, Env W → Calls Tryz.prog 12 #[.string s] W fun e w' => (∃ u, e = .returned (.tuple #[.agg (xcells x u).toArray, .bool ok]) ∧ EVA w' W.heap.size w'.heap.size x.l u) ∧ Below W.heap.size W w') := Lib.hid (fun W hW => by have h := impl_ParseExp s o ho W hW; unfold ExpOutA at h; rw [hx, hok] at h; exact h)
  have HSZ : Hid (xsize x ≤ 12000 ∧ enodes x.l ≤ 12000) := Lib.hid (by
    cases o with
    | none => subst hx; exact ⟨by decide, by decide⟩
    | some y => have h := readX_size ho; have e : y = x := hx; subst e; omega)
  have HE := Lib.hid hE
  clear hg ho hx hok hE
  go_enter Tryz.func6, Tryz.ntmps6
  go_wp2_with fail
  refine (HSP.out _).mono ?_
  rintro e w1 ⟨⟨u1, rfl, e1⟩, hb1⟩
  have o1 := oneX x u1 e1.isOne
  have K1 := Lib.hid (And.intro e1 hb1)
  clear e1 hb1
  go_wp2_with (refine store_abs rfl 33 _ _ rfl w1.heap.size 0 (xcells x u1).toArray rfl rfl (newthere4 w1 _) sizeIE2 o1 ?_; intro W2 hW; have HW2 := Lib.hid (newblk4 x u1 hW); clear hW)
  have Z2 : Hid (w1.heap.size < W2.heap.size) := Lib.hid (lt_of_cellA (HW2.out.1 0 _ rfl))
  have B2 : Hid (Below w.heap.size w W2) := Lib.hid (K1.out.2.trans (HW2.out.2.mono K1.out.2.size))
  have F2 : Hid (∀ W, Below (w1.heap.size + 1) W2 W → EV W 0 x.l u1 ∧ W.rangeAt w1.heap.size 0 (xcells x u1)) := Lib.hid (fun W hB => ⟨K1.out.1.same (Nat.zero_le _) (fun a z _ hc => (hB.cell (p := a) (by have := lt_of_cellA hc; omega)).trans (keeps HW2.out.2 hc)), fun j z hj => (hB.cell (p := ⟨w1.heap.size, 0 + j, Option.none⟩) (Nat.lt_succ_self _)).trans (HW2.out.1 j z hj)⟩)
  obtain ⟨n3, hn3⟩ : ∃ n, w1.heap.size = n := ⟨_, rfl⟩
  rw [hn3] at F2 Z2 ⊢
  clear K1 HW2 hn3 o1
  refine (HIM.out _ (HE.out.later B2.out (Nat.le_refl _))).mono ?_
  rintro e w3 ⟨⟨u2, rfl, e3⟩, hb3⟩
  have o3 := oneX x u2 e3.isOne
  have K3 := Lib.hid (And.intro e3 hb3)
  clear e3 hb3
  go_wp2_with (first | (refine store_abs rfl 33 _ _ rfl w3.heap.size 0 (xcells x u2).toArray rfl rfl (newthere4 w3 _) sizeIE2 o3 ?_; intro W4 hW; have HW4 := Lib.hid (newblk4 x u2 hW); clear hW; have L4 := Lib.hid (K3.out.2.trans (HW4.out.2.mono K3.out.2.size)); have f4 := F2.out W4 (L4.out.mono Z2.out); have r4 := f4.2; have r5 := HW4.out.1) | (refine wpList_load_mid rfl 33 _ rfl w3.heap.size 0 rfl _ _ r5 Tryz.underlying33 rfl sizeIE2 ?_) | (refine wpList_load_mid rfl 33 _ rfl n3 0 rfl _ _ r4 Tryz.underlying33 rfl sizeIE2 ?_))
  have V4 : Hid (EVA W4 W2.heap.size w3.heap.size x.l u2) := Lib.hid (K3.out.1.later HW4.out.2)
  have X4 := Lib.hid r5
  have E4 := Lib.hid f4.1
  obtain ⟨n5, hn5⟩ : ∃ n, w3.heap.size = n := ⟨_, rfl⟩
  rw [hn5] at V4 X4 ⊢
  clear r4 r5 f4 HW4 K3 hn5 o3
  refine (eqExp_is x (by have := HSZ.out.1; omega) _ u2 u1 (V4.out.ev.lower (Nat.zero_le _)) E4.out).mono ?_
  rintro e w5 ⟨rfl, hb5⟩
  have V5 := Lib.hid (V4.out.later hb5)
  have X5 := Lib.hid (rangeAt_later X4.out hb5)
  have L5 := Lib.hid (L4.out.trans (hb5.mono L4.out.size))
  have hnn : (ok != ok) = false := by simp
  clear hb5 V4 X4 L4 E4
  go_wp2_with (refine wpList_load_mid rfl 33 _ rfl n5 0 rfl _ _ X5.out Tryz.underlying33 rfl sizeIE2 ?_)
  refine (markExp_is x W2.heap.size n5 _ u2 (by have := HSZ.out.2; omega) V5.out).mono ?_
  rintro e w6 ⟨rfl, e6, g6⟩
  have V6 := Lib.hid e6
  have X6 := Lib.hid (range_gap X5.out g6 (.inr (Nat.le_refl _)))
  have L6 := Lib.hid (L5.out.trans (g6.below (Nat.le_refl _) L5.out.size))
  clear e6 g6 V5 X5 L5
  go_wp2_with (refine wpList_load_mid rfl 33 _ rfl n5 0 rfl _ _ X6.out Tryz.underlying33 rfl sizeIE2 ?_)
  refine (heldExp_is x _ u2 (by have := HSZ.out.2; omega) (V6.out.ev.lower (Nat.zero_le _))).mono ?_
  rintro e w7 ⟨rfl, hb7⟩
  have V7 := Lib.hid (V6.out.later hb7)
  have X7 := Lib.hid (rangeAt_later X6.out hb7)
  have L7 := Lib.hid (L6.out.trans (hb7.mono L6.out.size))
  have B7 := Lib.hid (B2.out.trans (L7.out.mono B2.out.size))
  obtain ⟨q, hq⟩ : ∃ q : Int, 1 + 3 * (enodes x.l : Int) = q := ⟨_, rfl⟩
  have HQ := Lib.hid hq
  have hn0 : ¬ q < 0 := by omega
  rw [hq]
  clear hb7 V6 X6 L6 hq
  go_wp2_with fail
  refine (HIM.out _ (HE.out.later B7.out (Nat.le_refl _))).mono ?_
  rintro e w8 ⟨⟨u3, rfl, e8⟩, hb8⟩
  have o8 := oneX x u3 e8.isOne
  have V8 := Lib.hid (V7.out.later hb8)
  have X8 := Lib.hid (rangeAt_later X7.out hb8)
  have L8 := Lib.hid (L7.out.trans (hb8.mono L7.out.size))
  have E8 := Lib.hid e8
  clear e8 hb8 V7 X7 L7 B7
  go_wp2_with (first | (refine store_abs rfl 33 _ _ rfl w8.heap.size 0 (xcells x u3).toArray rfl rfl (newthere4 w8 _) sizeIE2 o8 ?_; intro W9 hW; have HW9 := Lib.hid (newblk4 x u3 hW); clear hW; have L9 := Lib.hid (L8.out.trans (HW9.out.2.mono L8.out.size)); have f9 := F2.out W9 (L9.out.mono Z2.out); have r9 := f9.2; have r8 := HW9.out.1) | (refine wpList_load_mid rfl 33 _ rfl w8.heap.size 0 rfl _ _ r8 Tryz.underlying33 rfl sizeIE2 ?_) | (refine wpList_load_mid rfl 33 _ rfl n3 0 rfl _ _ r9 Tryz.underlying33 rfl sizeIE2 ?_))
  have V9 := Lib.hid (V8.out.later HW9.out.2)
  have X9 := Lib.hid (rangeAt_later X8.out HW9.out.2)
  refine (eqExp_is x (by have := HSZ.out.1; omega) _ u3 u1 ((E8.out.later HW9.out.2).ev.lower (Nat.zero_le _)) f9.1).mono ?_
  rintro e wa ⟨rfl, hba⟩
  have Va := Lib.hid (V9.out.later hba)
  have Xa := Lib.hid (rangeAt_later X9.out hba)
  have La := Lib.hid (L9.out.trans (hba.mono L9.out.size))
  clear hba V8 X8 L8 V9 X9 L9 E8 r8 r9 f9 HW9
  go_wp2_with (refine wpList_load_mid rfl 33 _ rfl n5 0 rfl _ _ Xa.out Tryz.underlying33 rfl sizeIE2 ?_)
  refine (heldExp_is x _ u2 (by have := HSZ.out.2; omega) (Va.out.ev.lower (Nat.zero_le _))).mono ?_
  rintro e wb ⟨rfl, hbb⟩
  have Bb := Lib.hid (B2.out.trans ((La.out.trans (hbb.mono La.out.size)).mono B2.out.size))
  rw [HQ.out]
  clear hbb
  go_wp2
  go_ret
  exact ⟨rfl, Bb.out⟩
end Go.Proofs.YtkhccpjkajhnpaaGreatDoor
